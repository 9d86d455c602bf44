/-
  The reference's sum (chapter 2), for those that stand on it.
-/
import Derived.Test.YtoconkgemakboaaCrcA
set_option maxRecDepth 100000
namespace Go.Proofs.Ytoconkgemakboaa.Cr
set_option linter.unusedVariables false
open Go.RowKit Lb
set_option linter.unusedVariables false

set_option maxHeartbeats 2000000 in
theorem rsum_any (a : Option Addr) (n c : Nat) (Z : Nat → Int) (w : World) (hm : n ≤ maxLen) (hZ : Row w a n (fun i => .int .u8 (Z i))) (hz : Byte Z) :
    Calls Try.prog 37 #[.slice a n c] w fun r w' => r = .returned (.int .u16 ((crc Z n : Nat) : Int)) ∧ w = w' := by
  unfold maxLen at hm
  go_enter Try.func37, Try.ntmps37
  go_wp2_with fail
  go_loop [3, 8] (fun u q => ∃ k : Nat, u = .int .u16 ((crc Z k : Nat) : Int) ∧ q = .int .i64 k ∧ k ≤ n) (fun _ q => n - (intOf q).toNat)
  case atStart => exact ⟨0, rfl, rfl, by omega⟩
  case round =>
    obtain ⟨k, rfl, rfl, hk⟩ := hrel
    by_cases hlt : k < n
    · obtain ⟨b, o, rfl, hb, hc⟩ := hZ.at_ hlt
      have hl := crc_lt hz k
      obtain ⟨z0, z1⟩ := hz k
      have hx := u16_xor (crc Z k : Int) (Z k) (by omega) (by omega) (hz k).1 (by have := (hz k).2; omega)
      simp only [Int.toNat_natCast] at hx
      have hl2 : crc Z k ^^^ (Z k).toNat < 65536 := xor_lt hl (by have := hz k; omega)
      have hq : crc Z (k + 1) = bits_ 8 (crc Z k ^^^ (Z k).toNat) := rfl
      have HQ := Lib.hid hq
      clear hq
      go_wp2_with fail
      generalize crc Z k ^^^ (Z k).toNat = s0 at *
      clear hx hc
      go_loop [3, 16] (fun u q => ∃ (j s : Nat), u = .int .u16 (s : Int) ∧ q = .int .i64 j ∧ j ≤ 8 ∧ s < 65536 ∧ Hid (bits_ (8 - j) s = bits_ 8 s0)) (fun _ q => 8 - (intOf q).toNat)
      case atStart => exact ⟨0, s0, rfl, rfl, by omega, hl2, Lib.hid rfl⟩
      case round =>
        obtain ⟨j, s, rfl, rfl, hj, hs, HS⟩ := hrel
        by_cases hj8 : j < 8
        · have HS' : Hid (bits_ (8 - (j + 1)) (bit s) = bits_ 8 s0) := Lib.hid (by rw [← HS.out, show 8 - j = (8 - (j + 1)) + 1 from by omega]; rfl)
          have hb' := bit_lt hs
          rcases Nat.mod_two_eq_zero_or_one s with h2 | h2
          · have e1 := even_bits hs h2
            have E := Lib.hid (even_step h2)
            clear h2
            go_wp2_with fail
            exact ⟨⟨j + 1, bit s, by rw [E.out], by go_num, by omega, hb', HS'⟩, by simp [intOf]; omega⟩
          · have e1 := odd_bits hs h2
            have E := Lib.hid (odd_step hs h2)
            clear h2
            go_wp2_with fail
            exact ⟨⟨j + 1, bit s, by rw [E.out], by go_num, by omega, hb', HS'⟩, by simp [intOf]; omega⟩
        · obtain rfl : j = 8 := by omega
          go_wp2_with fail
          exact ⟨⟨k + 1, by rw [HQ.out, ← HS.out]; rfl, by go_num, by omega⟩, by simp [intOf]; omega⟩
    · obtain rfl : k = n := by omega
      go_wp2_with fail
      go_ret
      exact ⟨rfl, rfl⟩

set_option maxHeartbeats 2000000 in
theorem rappend_any (a : Option Addr) (n c : Nat) (Z : Nat → Int) (w : World) (hn : n ≤ 140737488351232) (hZ : Row w a n (fun i => .int .u8 (Z i))) (hz : Byte Z) :
    Calls Try.prog 17 #[.slice a n c] w fun r w' => ∃ v, r = .returned v ∧ Mine w' w.heap.size 5 v (n + 2) (fun i => .int .u8 (app Z n i)) ∧ Below w.heap.size w w' := by
  obtain ⟨i0, hi0, hz0, hz1, hz2⟩ := info_parts info8
  have M := Lib.hid (show n + 2 ≤ maxLen by unfold maxLen; omega)
  have M' := Lib.hid (show n ≤ maxLen by unfold maxLen; omega)
  have hl := crc_lt hz n
  go_enter Try.func17, Try.ntmps17
  go_wp2_with fail
  refine (rsum_any _ _ _ Z _ M'.out hZ hz).mono ?_
  rintro r w' ⟨rfl, rfl⟩
  go_wp2_with (at_builtin; go_must (refine wp_app rfl (.const (.slice none 0 0)) (.tmp 6) _ rfl w.heap.size 5 i0 _ 1 Try.underlying23 hi0 hz0 hz1 hz2 rfl _ 0 (fun i => .int .u8 (app Z n i)) rfl (Mine.nil _ _ _ _) a n c (fun i => .int .u8 (Z i)) rfl hZ (fun _ _ => rfl) ?c1 ?c2 ?c3 ?_))
  case c1 => rw [Nat.zero_add]; exact M'.out
  case c2 => omega
  case c3 => exact Nat.le_refl _
  intro v2 w2 hv2 hg2
  have b2 : Below w.heap.size w w2 := (Below.refl _ _).grown hg2 (Nat.le_refl _) (fun k hk => by cases hk)
  have hv2' : Mine w2 w.heap.size 5 v2 n (fun i => .int .u8 (app Z n i)) := by
    have h9 : Mine w2 w.heap.size 5 v2 n (fun i => if i < 0 then Value.int .u8 (app Z n i) else Value.int .u8 (Z (i - 0))) := by
      rw [show n = 0 + n by omega]; first | exact hv2 | simpa using hv2
    exact h9.ext fun i hi => by rw [app_low hi]; simp
  clear hv2
  have hs := b2.size
  go_wp2_with (at_builtin; go_must (refine wp_app rfl (.tmp 7) (.tmp 13) _ rfl w.heap.size 5 i0 _ 1 Try.underlying23 hi0 hz0 hz1 hz2 rfl v2 n _ rfl (hv2'.alloc _) _ 2 _ (fun i => if i = 0 then .int .u8 ((crc Z n : Int) % 256) else .int .u8 ((crc Z n : Int) / 256)) rfl (two_row w2 _ _ _) (two_one _ _) M.out ?c2 ?c3 ?_))
  case c2 => omega
  case c3 => simp; omega
  intro v3 w3 hv3 hg3
  have b3 : Below w.heap.size w w3 := (b2.alloc hs _).grown hg3 (by simp; omega) (fun q hq => (hv2'.lt q hq).1)
  have hv3' : Mine w3 w.heap.size 5 v3 (n + 2) (fun i => .int .u8 (app Z n i)) := hv3.ext fun i hi => by
    by_cases h : i < n
    · simp only [h, if_true]
    · have e : ¬ i < n := h
      simp only [e, if_false]
      unfold app
      rw [if_neg e]
      by_cases h2 : i = n
      · subst h2; simp
      · have h3 : i - n ≠ 0 := by omega
        simp [h2, h3]
  clear hv3
  go_wp2_with fail
  go_ret
  exact ⟨_, rfl, hv3', b3⟩

theorem app_good {Z : Nat → Int} (hz : Byte Z) (m : Nat) : ((str (app Z m) (m + 2)).toList == (str Z (m + 2)).toList) = goodb Z (m + 2) := by
  rw [Bool.eq_iff_iff, goodb_iff hz m, beq_iff_eq]
  constructor
  · intro h
    have h' := (str_list_inj (app_byte hz m) hz h).2
    have e0 := h' m (by omega)
    have e1 := h' (m + 1) (by omega)
    unfold app at e0 e1
    simp at e0 e1
    constructor
    · rw [← e0]; simp
    · rw [← e1]; simp
  · rintro ⟨h0, h1⟩
    rw [str_congr (Z := app Z m) (Y := Z)]
    intro i hi
    unfold app
    by_cases h : i < m
    · rw [if_pos h]
    · rw [if_neg h]
      by_cases h2 : i = m
      · subst h2; rw [if_pos rfl, h0]
      · obtain rfl : i = m + 1 := by omega
        rw [if_neg h2, h1]

theorem rappend_conv (a : Option Addr) (m n c : Nat) (Z : Nat → Int) (w : World) (hn : n ≤ 140737488351232) (hmn : m ≤ n) (hZ : Row w a n (fun i => .int .u8 (Z i))) (hz : Byte Z) :
    Calls Try.prog 17 #[.slice a m c] w fun r w' => ∃ va vc, r = .returned (.slice va (m + 2) vc) ∧
      (convert 23 9 (.slice va (m + 2) vc)).run Try.prog w' = .ok (.string (str (app Z m) (m + 2))) w' ∧
      (∀ d, (convert 23 9 (.slice a n d)).run Try.prog w' = .ok (.string (str Z n)) w') ∧ Below w.heap.size w w' := by
  refine (rappend_any a m c Z w (by omega) (hZ.cut hmn) hz).mono ?_
  rintro r w2 ⟨v, rfl, hv, hb⟩
  obtain ⟨va, vc, rfl, hvc, hvm, hR⟩ := hv.row
  exact ⟨va, vc, rfl, conv_string (P := Try.prog) Try.underlying23 Try.underlying5 Try.underlying9 hR,
    fun d => conv_string (P := Try.prog) Try.underlying23 Try.underlying5 Try.underlying9 (Row.below hZ hb), hb⟩

set_option maxHeartbeats 4000000 in
theorem rgood_any (a : Option Addr) (n c : Nat) (Z : Nat → Int) (w : World) (hn : n ≤ 140737488351232) (hc : n ≤ c) (hm : c ≤ maxLen) (hZ : Row w a n (fun i => .int .u8 (Z i))) (hz : Byte Z) :
    Calls Try.prog 45 #[.slice a n c] w fun r w' => r = .returned (.bool (goodb Z n)) ∧ Below w.heap.size w w' := by
  unfold maxLen at hm
  by_cases h2 : n < 2
  · have hg : goodb Z n = false := by unfold goodb; simp; omega
    rcases (show n = 0 ∨ n = 1 by omega) with h | h
    all_goals
      subst h
      go_enter Try.func45, Try.ntmps45
      go_wp2_with fail
      go_quiet (fail)
      go_wp2_with fail
      go_ret
      exact ⟨by rw [hg]; rfl, below_drewN (Below.refl _ _) _⟩
  · obtain ⟨m, rfl⟩ := Nat.exists_eq_add_of_le' (show 2 ≤ n by omega)
    have E := Lib.hid (app_good hz m)
    have k0 := fun d => conv_string (P := Try.prog) (dst := 9) (c := d) Try.underlying23 Try.underlying5 Try.underlying9 (show Row w.drew a (m + 2) (fun i => .int .u8 (Z i)) from hZ)
    go_enter Try.func45, Try.ntmps45
    go_wp2_with fail
    go_region_with (go_at_call 17; refine (rappend_conv a m (m + 2) c Z _ hn (by omega) ?_ hz).mono ?_; (exact hZ); rintro r w2 ⟨va, vc, rfl, k1, k2, hb⟩)
    all_goals
      go_wp2_with fail
      go_ret
      exact ⟨by rw [← E.out]; rfl, (below_drewN (Below.refl _ w) 1).trans hb⟩

end Go.Proofs.Ytoconkgemakboaa.Cr
