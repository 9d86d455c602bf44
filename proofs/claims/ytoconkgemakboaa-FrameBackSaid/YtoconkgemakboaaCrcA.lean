/-
  Package crc (chapter 2) for those that stand on it: the sum, whether it is good, the row with its sum behind it.
-/
import Derived.Test.YtoconkgemakboaaCrcMath
import Derived.Test.YtoconkgemakboaaOwn
import Derived.Lib.Hide
import Derived.Deep.RegionWith
import Derived.Lib.SlBytesConst
set_option maxRecDepth 100000
namespace Go.Proofs.Ytoconkgemakboaa.Cr
set_option linter.unusedVariables false
open Go.RowKit Lb

theorem odd_bits {s : Nat} (h : s < 65536) (h1 : s % 2 = 1) : bits .and .u16 (s : Int) 1 = 1 := by
  have := u16_and_nat s 1 h (by omega)
  rw [Nat.and_one_is_mod, h1] at this
  exact this
theorem even_bits {s : Nat} (h : s < 65536) (h1 : s % 2 = 0) : bits .and .u16 (s : Int) 1 = 0 := by
  have := u16_and_nat s 1 h (by omega)
  rw [Nat.and_one_is_mod, h1] at this
  exact this
theorem odd_step {s : Nat} (h : s < 65536) (h1 : s % 2 = 1) : bits .xor .u16 ((s : Int) / 2) 33800 = (bit s : Nat) := by
  have := u16_xor_nat (s / 2) 33800 (by omega) (by omega)
  unfold bit
  rw [if_pos h1, ← this]
  simp
theorem even_step {s : Nat} (h1 : s % 2 = 0) : (s : Int) / 2 = (bit s : Nat) := by
  unfold bit
  rw [if_neg (by omega)]
  omega

set_option maxHeartbeats 2000000 in
theorem sum_any (a : Option Addr) (n c : Nat) (Z : Nat → Int) (w : World) (hm : n ≤ maxLen) (hZ : Row w a n (fun i => .int .u8 (Z i))) (hz : Byte Z) :
    Calls Try.prog 54 #[.slice a n c] w fun r w' => r = .returned (.int .u16 ((crc Z n : Nat) : Int)) ∧ w = w' := by
  unfold maxLen at hm
  go_enter Try.func54, Try.ntmps54
  go_wp2_with fail
  go_loop [3, 9] (fun u q => ∃ k : Nat, u = .int .u16 ((crc Z k : Nat) : Int) ∧ q = .int .i64 k ∧ k ≤ n) (fun _ q => n - (intOf q).toNat)
  case atStart => exact ⟨0, rfl, rfl, by omega⟩
  case round =>
    obtain ⟨k, rfl, rfl, hk⟩ := hrel
    by_cases hlt : k < n
    · obtain ⟨b, o, rfl, hb, hc⟩ := hZ.at_ hlt
      have hl := crc_lt hz k
      obtain ⟨z0, z1⟩ := hz k
      have hx := u16_xor (crc Z k : Int) (Z k) (by omega) (by omega) (hz k).1 (by have := (hz k).2; omega)
      simp only [Int.toNat_natCast] at hx
      have hl2 : crc Z k ^^^ (Z k).toNat < 65536 := xor_lt hl (by have := hz k; omega)
      have hq : crc Z (k + 1) = bits_ 8 (crc Z k ^^^ (Z k).toNat) := rfl
      have HQ := Lib.hid hq
      clear hq
      go_wp2_with fail
      generalize crc Z k ^^^ (Z k).toNat = s0 at *
      clear hx hc
      go_loop [3, 17] (fun u q => ∃ (j s : Nat), u = .int .u16 (s : Int) ∧ q = .int .i64 j ∧ j ≤ 8 ∧ s < 65536 ∧ Hid (bits_ (8 - j) s = bits_ 8 s0)) (fun _ q => 8 - (intOf q).toNat)
      case atStart => exact ⟨0, s0, rfl, rfl, by omega, hl2, Lib.hid rfl⟩
      case round =>
        obtain ⟨j, s, rfl, rfl, hj, hs, HS⟩ := hrel
        by_cases hj8 : j < 8
        · have HS' : Hid (bits_ (8 - (j + 1)) (bit s) = bits_ 8 s0) := Lib.hid (by rw [← HS.out, show 8 - j = (8 - (j + 1)) + 1 from by omega]; rfl)
          have hb' := bit_lt hs
          rcases Nat.mod_two_eq_zero_or_one s with h2 | h2
          · have e1 := even_bits hs h2
            have E := Lib.hid (even_step h2)
            clear h2
            go_wp2_with fail
            exact ⟨⟨j + 1, bit s, by rw [E.out], by go_num, by omega, hb', HS'⟩, by simp [intOf]; omega⟩
          · have e1 := odd_bits hs h2
            have E := Lib.hid (odd_step hs h2)
            clear h2
            go_wp2_with fail
            exact ⟨⟨j + 1, bit s, by rw [E.out], by go_num, by omega, hb', HS'⟩, by simp [intOf]; omega⟩
        · obtain rfl : j = 8 := by omega
          go_wp2_with fail
          exact ⟨⟨k + 1, by rw [HQ.out, ← HS.out]; rfl, by go_num, by omega⟩, by simp [intOf]; omega⟩
    · obtain rfl : k = n := by omega
      go_wp2_with fail
      go_ret
      exact ⟨rfl, rfl⟩

theorem conv8 (s : Nat) : IntKind.u8.wrap (s : Int) = ((s % 256 : Nat) : Int) := by
  simp only [IntKind.wrap, IntKind.signed, IntKind.bits]
  simp

def goodb (Z : Nat → Int) (n : Nat) : Bool := decide (2 ≤ n) && decide (crc Z n = 0)
theorem goodb_iff {Z : Nat → Int} (hz : Byte Z) (n : Nat) : goodb Z (n + 2) = true ↔ (Z n = ((crc Z n % 256 : Nat) : Int) ∧ Z (n + 1) = ((crc Z n / 256 : Nat) : Int)) := by
  have h0 := hz n; have h1 := hz (n + 1)
  have e : crc Z (n + 2) = oct (oct (crc Z n ^^^ (Z n).toNat) ^^^ (Z (n + 1)).toNat) := by rw [crc, crc]
  unfold goodb
  rw [e]
  simp only [show 2 ≤ n + 2 from by omega, decide_true, Bool.true_and, decide_eq_true_eq]
  rw [sum_zero (crc_lt hz n) (by omega) (by omega)]
  constructor
  · rintro ⟨h2, h3⟩
    exact ⟨by omega, by omega⟩
  · rintro ⟨h2, h3⟩
    exact ⟨by omega, by omega⟩

set_option maxHeartbeats 2000000 in
theorem good_any (a : Option Addr) (n c : Nat) (Z : Nat → Int) (w : World) (hn : n ≤ c) (hc : c ≤ maxLen) (hZ : Row w a n (fun i => .int .u8 (Z i))) (hz : Byte Z) :
    Calls Try.prog 38 #[.slice a n c] w fun r w' => r = .returned (.bool (goodb Z n)) ∧ w = w' := by
  have M := Lib.hid (show n ≤ maxLen by omega)
  unfold maxLen at hc
  by_cases h2 : n < 2
  · have hg : goodb Z n = false := by unfold goodb; simp; omega
    go_enter Try.func38, Try.ntmps38
    go_wp2_with fail
    go_ret
    exact ⟨by rw [hg]; rfl, rfl⟩
  · obtain ⟨m, rfl⟩ := Nat.exists_eq_add_of_le' (show 2 ≤ n by omega)
    have G := Lib.hid (goodb_iff hz m)
    obtain ⟨b, o, rfl, hb, hcell⟩ := hZ (by omega)
    have c0 := hcell m (by omega)
    have c1 := hcell (m + 1) (by omega)
    have hl := crc_lt hz m
    have M' := Lib.hid (show m ≤ maxLen from Nat.le_trans (by omega) M.out)
    have hZm := hZ.cut (show m ≤ m + 2 by omega)
    clear hcell hZ
    by_cases h1 : Z m = (crc Z m : Int) % 256
    · have e1 : (Z m == (crc Z m : Int) % 256) = true := by simpa using h1
      have K := Lib.hid h1
      clear h1
      go_enter Try.func38, Try.ntmps38
      go_wp2_with fail
      refine (sum_any _ _ _ Z _ M'.out hZm hz).mono ?_
      rintro r w' ⟨rfl, rfl⟩
      go_wp2_with fail
      go_ret
      have hfin : ∀ x : Int, x = (crc Z m : Int) / 256 → (Z (m + 1) == x) = goodb Z (m + 2) := by
        rintro x rfl
        rw [Bool.eq_iff_iff, G.out, beq_iff_eq]
        have := K.out
        constructor
        · intro h; exact ⟨by omega, by omega⟩
        · rintro ⟨_, h⟩; omega
      exact ⟨by rw [← hfin _ rfl]; rfl, rfl⟩
    · have e1 : (Z m == (crc Z m : Int) % 256) = false := by simpa using h1
      have hg : goodb Z (m + 2) = false := by
        rw [Bool.eq_false_iff]
        intro h
        have := (G.out.1 h).1
        omega
      have HG := Lib.hid hg
      clear h1 hg
      go_enter Try.func38, Try.ntmps38
      go_wp2_with fail
      refine (sum_any _ _ _ Z _ M'.out hZm hz).mono ?_
      rintro r w' ⟨rfl, rfl⟩
      go_wp2_with fail
      go_ret
      exact ⟨by rw [HG.out]; rfl, rfl⟩

/-- A row with its sum behind it. -/
def app (Z : Nat → Int) (n i : Nat) : Int := if i < n then Z i else if i = n then ((crc Z n % 256 : Nat) : Int) else ((crc Z n / 256 : Nat) : Int)
theorem app_byte {Z : Nat → Int} (hz : Byte Z) (n : Nat) : Byte (app Z n) := by
  intro i
  have := crc_lt hz n
  unfold app
  split
  · exact hz i
  · split <;> omega
theorem app_low {Z : Nat → Int} {n i : Nat} (h : i < n) : app Z n i = Z i := by unfold app; rw [if_pos h]
theorem app_zero {Z : Nat → Int} (hz : Byte Z) (n : Nat) : crc (app Z n) (n + 2) = 0 := by
  have e : crc (app Z n) n = crc Z n := crc_same n fun i hi => app_low hi
  have h := (goodb_iff (app_byte hz n) n).2 (by
    rw [e]
    unfold app
    simp
    intro h
    omega)
  unfold goodb at h
  simpa using h

theorem two_row (W : World) (p q : Int) (e : TypeId) : Row (W.alloc (.cells #[.int .u8 p, .int .u8 q] e)) (some ⟨W.heap.size, 0, none⟩) 2 (fun i => if i = 0 then .int .u8 p else .int .u8 q) :=
  row_new _ _ _ _ (fun i hi => by
    match i, hi with
    | 0, _ => rfl
    | 1, _ => rfl)
theorem two_one (p q : Int) : ∀ i, i < 2 → Value.oneCell' ((fun i : Nat => if i = 0 then Value.int .u8 p else .int .u8 q) i) = true := fun i _ => by
  by_cases h : i = 0 <;> simp [h, Value.oneCell']

set_option maxHeartbeats 2000000 in
theorem append_any (a : Option Addr) (n c : Nat) (Z : Nat → Int) (w : World) (hn : n ≤ 140737488351232) (hZ : Row w a n (fun i => .int .u8 (Z i))) (hz : Byte Z) :
    Calls Try.prog 25 #[.slice a n c] w fun r w' => ∃ v, r = .returned v ∧ Mine w' w.heap.size 5 v (n + 2) (fun i => .int .u8 (app Z n i)) ∧ Below w.heap.size w w' := by
  obtain ⟨i0, hi0, hz0, hz1, hz2⟩ := info_parts info8
  have M := Lib.hid (show n + 2 ≤ maxLen by unfold maxLen; omega)
  have M' := Lib.hid (show n ≤ maxLen by unfold maxLen; omega)
  have hl := crc_lt hz n
  go_enter Try.func25, Try.ntmps25
  go_wp2_with (at_make; refine wpList_make_own _ rfl _ _ 23 rfl w.heap.size 5 i0 _ 1 Try.underlying23 hi0 hz0 hz1 _ _ _ (n + 2) rfl rfl (by omega) (by rw [hz2]; omega) M.out (Nat.le_refl _) ?_)
  intro w1 hown1 hg1
  have b1 : Below w.heap.size w w1 := (Below.refl _ _).grown hg1 (Nat.le_refl _) (fun k hk => by cases hk)
  have hown1' : Mine w1 w.heap.size 5 (.slice (some ⟨w.heap.size, 0, none⟩) 0 (n + 2)) 0 (fun i => .int .u8 (app Z n i)) := hown1
  have hZ1 := hZ.below b1
  clear hown1
  go_wp2_with (at_builtin; refine wp_app rfl (.tmp 9) (.tmp 10) _ rfl w.heap.size 5 i0 _ 1 Try.underlying23 hi0 hz0 hz1 hz2 rfl _ 0 _ rfl hown1' a n c (fun i => .int .u8 (Z i)) rfl hZ1 (fun _ _ => rfl) ?c1 ?c2 ?c3 ?_)
  case c1 => rw [Nat.zero_add]; exact M'.out
  case c2 => omega
  case c3 => exact b1.size
  intro v2 w2 hv2 hg2
  have b2 : Below w.heap.size w w2 := b1.grown hg2 b1.size (fun k hk => (hown1'.lt k hk).1)
  have hv2' : Mine w2 w.heap.size 5 v2 n (fun i => .int .u8 (app Z n i)) := hv2.ext fun i hi => by rw [app_low hi]; try rfl
  have hZ2 := hZ.below b2
  clear hv2 hown1' hZ1
  go_wp2_with fail
  refine (sum_any _ _ _ Z _ M'.out hZ2 hz).mono ?_
  rintro r w' ⟨rfl, rfl⟩
  have hs := b2.size
  go_wp2_with (at_builtin; go_must (refine wp_app rfl (.tmp 14) (.tmp 20) _ rfl w.heap.size 5 i0 _ 1 Try.underlying23 hi0 hz0 hz1 hz2 rfl v2 n _ rfl (hv2'.alloc _) _ 2 _ (fun i => if i = 0 then .int .u8 ((crc Z n : Int) % 256) else .int .u8 ((crc Z n : Int) / 256)) rfl (two_row w2 _ _ _) (two_one _ _) M.out ?c2 ?c3 ?_))
  case c2 => omega
  case c3 => simp; omega
  intro v3 w3 hv3 hg3
  have b3 : Below w.heap.size w w3 := (b2.alloc hs _).grown hg3 (by simp; omega) (fun q hq => (hv2'.lt q hq).1)
  have hv3' : Mine w3 w.heap.size 5 v3 (n + 2) (fun i => .int .u8 (app Z n i)) := hv3.ext fun i hi => by
    by_cases h : i < n
    · simp only [h, if_true]
    · have e : ¬ i < n := h
      simp only [e, if_false]
      unfold app
      rw [if_neg e]
      by_cases h2 : i = n
      · subst h2; simp
      · have h3 : i - n ≠ 0 := by omega
        simp [h2, h3]
  clear hv3
  go_wp2_with fail
  go_ret
  exact ⟨_, rfl, hv3', b3⟩

end Go.Proofs.Ytoconkgemakboaa.Cr
