/-
  The sum of chapter 2 as plain mathematics: one bit, one byte, a row; it is linear and loses nothing; what ends with its own sum sums up to 0. Package crc (chapter 2) for those that stand on it: the sum, whether it is good, the row with its sum behind it. Package frame (chapter 7): frames as plain data; which may be; their bytes, and back. Package frame (chapter 7): which frames may be. The reference's sum (chapter 2), for those that stand on it.
-/
import GoSem.Core.Value
import Derived.Test.YtiflmdekcjbmbaaGNodeSends01
import Derived.Lib.Hide
import Derived.Deep.RegionWith
import Derived.Lib.SlBytesConst
import Derived.Test.YtiflmdekcjbmbaaGNodeSends13
import Derived.Test.YtiflmdekcjbmbaaGNodeSends12
import Derived.Deep.CutBlock
namespace Go.Proofs.Ytiflmdekcjbmbaa.Cr
set_option linter.unusedVariables false
set_option linter.unusedSimpArgs false

/-- One bit goes. -/
def bit (s : Nat) : Nat := if s % 2 = 1 then (s / 2) ^^^ 33800 else s / 2
def bits_ : Nat → Nat → Nat
  | 0, s => s
  | k + 1, s => bits_ k (bit s)
/-- Eight bits go. -/
def oct (s : Nat) : Nat := bits_ 8 s
/-- The sum of the first k bytes of Z. -/
def crc (Z : Nat → Int) : Nat → Nat
  | 0 => 0
  | k + 1 => oct (crc Z k ^^^ (Z k).toNat)

theorem bit_lt {s : Nat} (h : s < 65536) : bit s < 65536 := by
  unfold bit
  split
  · exact Nat.xor_lt_two_pow (n := 16) (by omega) (by omega)
  · omega
theorem bits_lt : ∀ (k : Nat) {s : Nat}, s < 65536 → bits_ k s < 65536
  | 0, _, h => h
  | k + 1, _, h => bits_lt k (bit_lt h)
theorem oct_lt {s : Nat} (h : s < 65536) : oct s < 65536 := bits_lt 8 h
theorem xor_lt {a b : Nat} (ha : a < 65536) (hb : b < 65536) : a ^^^ b < 65536 := Nat.xor_lt_two_pow (n := 16) ha hb
def Byte (Z : Nat → Int) : Prop := ∀ i, 0 ≤ Z i ∧ Z i < 256
theorem crc_lt {Z : Nat → Int} (hz : Byte Z) : ∀ k, crc Z k < 65536
  | 0 => by simp [crc]
  | k + 1 => oct_lt (xor_lt (crc_lt hz k) (by have := hz k; omega))

theorem xor_mod2 (a b : Nat) : (a ^^^ b) % 2 = (a % 2) ^^^ (b % 2) := by
  have := Nat.xor_mod_two_pow (a := a) (b := b) (n := 1)
  simpa using this
theorem xor_half (a b : Nat) : (a ^^^ b) / 2 = (a / 2) ^^^ (b / 2) := by
  have := Nat.xor_div_two_pow (a := a) (b := b) (n := 1)
  simpa using this
theorem bit_xor (a b : Nat) : bit (a ^^^ b) = bit a ^^^ bit b := by
  unfold bit
  rw [xor_mod2, xor_half]
  rcases Nat.mod_two_eq_zero_or_one a with ha | ha <;> rcases Nat.mod_two_eq_zero_or_one b with hb | hb <;> simp [ha, hb]
  · ac_rfl
  · ac_rfl
  · rw [show (a / 2 ^^^ 33800 ^^^ (b / 2 ^^^ 33800)) = (a / 2 ^^^ b / 2) ^^^ (33800 ^^^ 33800) by ac_rfl]
    simp
theorem bits_xor : ∀ (k a b : Nat), bits_ k (a ^^^ b) = bits_ k a ^^^ bits_ k b
  | 0, _, _ => rfl
  | k + 1, a, b => by rw [bits_, bits_, bits_, bit_xor, bits_xor k]
theorem oct_xor (a b : Nat) : oct (a ^^^ b) = oct a ^^^ oct b := bits_xor 8 a b
theorem eq_of_xor {a b : Nat} (h : a ^^^ b = 0) : a = b := by
  have := congrArg (· ^^^ b) h
  simpa [Nat.xor_assoc] using this
theorem bit_zero {s : Nat} (h : s < 65536) (h0 : bit s = 0) : s = 0 := by
  unfold bit at h0
  split at h0
  · have := eq_of_xor h0
    omega
  · omega
theorem bits_zero : ∀ (k : Nat) {s : Nat}, s < 65536 → bits_ k s = 0 → s = 0
  | 0, _, _, h => h
  | k + 1, _, hs, h => bit_zero hs (bits_zero k (bit_lt hs) h)
theorem oct_zero {s : Nat} (h : s < 65536) (h0 : oct s = 0) : s = 0 := bits_zero 8 h h0
theorem oct_inj {a b : Nat} (ha : a < 65536) (hb : b < 65536) (h : oct a = oct b) : a = b :=
  eq_of_xor (oct_zero (xor_lt ha hb) (by rw [oct_xor, h, Nat.xor_self]))
theorem oct_none : oct 0 = 0 := by decide
theorem bit_even (m : Nat) : bit (2 * m) = m := by
  unfold bit
  rw [if_neg (by omega)]
  omega
theorem oct_high (h : Nat) : oct (256 * h) = h := by
  have e : 256 * h = 2 * (2 * (2 * (2 * (2 * (2 * (2 * (2 * h))))))) := by omega
  rw [e]
  simp only [oct, bits_, bit_even]
theorem low_gone (s : Nat) : s ^^^ (s % 256) = 256 * (s / 256) := by
  have h1 := Nat.xor_mod_two_pow (a := s) (b := s % 256) (n := 8)
  have h2 := Nat.xor_div_two_pow (a := s) (b := s % 256) (n := 8)
  have e : s % 256 / 256 = 0 := by omega
  simp [e] at h1 h2
  omega
/-- What ends with its own sum, the low byte first, sums up to 0; and nothing else does. -/
theorem sum_zero {s p q : Nat} (hs : s < 65536) (hp : p < 256) (hq : q < 256) : oct (oct (s ^^^ p) ^^^ q) = 0 ↔ p = s % 256 ∧ q = s / 256 := by
  constructor
  · intro h
    have h1 := oct_zero (xor_lt (oct_lt (xor_lt hs (by omega))) (by omega)) h
    have h2 := eq_of_xor h1
    rw [← oct_high q] at h2
    have h3 := oct_inj (xor_lt hs (by omega)) (by omega) h2
    have h4 := congrArg (· % 256) h3
    have h5 := congrArg (· / 256) h3
    have e1 := Nat.xor_mod_two_pow (a := s) (b := p) (n := 8)
    have e2 := Nat.xor_div_two_pow (a := s) (b := p) (n := 8)
    have e3 : p / 256 = 0 := by omega
    have e4 : p % 256 = p := by omega
    simp only [show (2 : Nat) ^ 8 = 256 from rfl, e3, e4, Nat.xor_zero] at e1 e2
    rw [e1] at h4
    rw [e2] at h5
    have h6 := eq_of_xor (show s % 256 ^^^ p = 0 by omega)
    exact ⟨h6.symm, by omega⟩
  · rintro ⟨rfl, rfl⟩
    rw [low_gone, oct_high, Nat.xor_self, oct_none]

theorem crc_same {Z Y : Nat → Int} : ∀ k, (∀ i, i < k → Z i = Y i) → crc Z k = crc Y k
  | 0, _ => rfl
  | k + 1, h => by rw [crc, crc, crc_same k (fun i hi => h i (by omega)), h k (by omega)]
theorem crc_zero {Z : Nat → Int} : ∀ k, (∀ i, i < k → Z i = 0) → crc Z k = 0
  | 0, _ => rfl
  | k + 1, h => by rw [crc, crc_zero k (fun i hi => h i (by omega)), h k (by omega)]; decide
theorem crc_xor3 {A B C D : Nat → Int} : ∀ k, (∀ i, i < k → (D i).toNat = (A i).toNat ^^^ (B i).toNat ^^^ (C i).toNat) → crc D k = crc A k ^^^ crc B k ^^^ crc C k
  | 0, _ => by simp [crc]
  | k + 1, h => by
    rw [crc, crc, crc, crc, crc_xor3 k (fun i hi => h i (by omega)), h k (by omega), ← oct_xor, ← oct_xor]
    congr 1
    ac_rfl
/-- The sum goes on from the sum ahead. -/
def more (s : Nat) (Z : Nat → Int) : Nat → Nat
  | 0 => s
  | k + 1 => oct (more s Z k ^^^ (Z k).toNat)
theorem crc_more {Z : Nat → Int} (n : Nat) : ∀ k, crc Z (n + k) = more (crc Z n) (fun i => Z (n + i)) k
  | 0 => rfl
  | k + 1 => by rw [← Nat.add_assoc, crc, crc_more n k, more]
theorem more_same {Z Y : Nat → Int} (s : Nat) : ∀ k, (∀ i, i < k → Z i = Y i) → more s Z k = more s Y k
  | 0, _ => rfl
  | k + 1, h => by rw [more, more, more_same s k (fun i hi => h i (by omega)), h k (by omega)]
theorem more_lt {Z : Nat → Int} (hz : Byte Z) {s : Nat} (hs : s < 65536) : ∀ k, more s Z k < 65536
  | 0 => hs
  | k + 1 => oct_lt (xor_lt (more_lt hz hs k) (by have := hz k; omega))
theorem more_inj {Z : Nat → Int} (hz : Byte Z) {s t : Nat} (hs : s < 65536) (ht : t < 65536) : ∀ k, more s Z k = more t Z k → s = t
  | 0, h => h
  | k + 1, h => more_inj hz hs ht k (by
    have e := oct_inj (xor_lt (more_lt hz hs k) (by have := hz k; omega)) (xor_lt (more_lt hz ht k) (by have := hz k; omega)) h
    have := congrArg (· ^^^ (Z k).toNat) e
    simpa [Nat.xor_assoc] using this)
theorem more_zero {Z : Nat → Int} : ∀ k, crc Z k = more 0 Z k
  | 0 => rfl
  | k + 1 => by rw [crc, more, more_zero k]
theorem high_of : ∀ x, x < 256 → 0 < x → 256 ≤ oct x := by decide +kernel
/-- A change within two bytes side by side turns the sum. -/
theorem crc_tells {Z Y : Nat → Int} (hz : Byte Z) (hy : Byte Y) (at_ k x y : Nat) (hx : x < 256) (hy2 : y < 256) (hxy : ¬ (x = 0 ∧ y = 0)) (hk : at_ + 2 ≤ k)
    (h0 : (Y at_).toNat = (Z at_).toNat ^^^ x) (h1 : (Y (at_ + 1)).toNat = (Z (at_ + 1)).toNat ^^^ y) (hs : ∀ i, i < k → i ≠ at_ → i ≠ at_ + 1 → Y i = Z i) : crc Y k ≠ crc Z k := by
  intro h
  obtain ⟨m, rfl⟩ := Nat.exists_eq_add_of_le hk
  rw [crc_more (Z := Y) (at_ + 2) m, crc_more (Z := Z) (at_ + 2) m, more_same _ m (fun i hi => hs (at_ + 2 + i) (by omega) (by omega) (by omega))] at h
  have e := more_inj (Z := fun i => Z (at_ + 2 + i)) (fun i => hz _) (crc_lt hy _) (crc_lt hz _) m h
  have e1 : crc Y (at_ + 2) = oct (oct (crc Z at_ ^^^ ((Z at_).toNat ^^^ x)) ^^^ ((Z (at_ + 1)).toNat ^^^ y)) := by
    rw [crc, crc, crc_same at_ (fun i hi => hs i (by omega) (by omega) (by omega)), h0, h1]
  have e2 : crc Z (at_ + 2) = oct (oct (crc Z at_ ^^^ (Z at_).toNat) ^^^ (Z (at_ + 1)).toNat) := by rw [crc, crc]
  rw [e1, e2] at e
  have b0 : (Z at_).toNat < 65536 := by have := hz at_; omega
  have b1 : (Z (at_ + 1)).toNat < 65536 := by have := hz (at_ + 1); omega
  have c0 := crc_lt hz at_
  have i1 := oct_inj (xor_lt (oct_lt (xor_lt c0 (xor_lt b0 (by omega)))) (xor_lt b1 (by omega))) (xor_lt (oct_lt (xor_lt c0 b0)) b1) e
  rw [show crc Z at_ ^^^ ((Z at_).toNat ^^^ x) = (crc Z at_ ^^^ (Z at_).toNat) ^^^ x from (Nat.xor_assoc _ _ _).symm, oct_xor _ x] at i1
  have i2 : oct x ^^^ y = 0 := by
    generalize oct (crc Z at_ ^^^ (Z at_).toNat) = S at *
    generalize (Z (at_ + 1)).toNat = q at *
    have := congrArg (· ^^^ (S ^^^ q)) i1
    rw [Nat.xor_self, show S ^^^ oct x ^^^ (q ^^^ y) ^^^ (S ^^^ q) = (S ^^^ S) ^^^ (q ^^^ q) ^^^ (oct x ^^^ y) by ac_rfl] at this
    simpa using this
  have i3 := eq_of_xor i2
  by_cases hx0 : x = 0
  · subst hx0
    rw [oct_none] at i3
    exact hxy ⟨rfl, i3.symm⟩
  · have := high_of x hx (by omega)
    omega
end Go.Proofs.Ytiflmdekcjbmbaa.Cr
set_option maxRecDepth 100000
namespace Go.Proofs.Ytiflmdekcjbmbaa.Cr
set_option linter.unusedVariables false
set_option linter.unusedSimpArgs false
open Go.RowKit Lb

theorem odd_bits {s : Nat} (h : s < 65536) (h1 : s % 2 = 1) : bits .and .u16 (s : Int) 1 = 1 := by
  have := u16_and_nat s 1 h (by omega)
  rw [Nat.and_one_is_mod, h1] at this
  exact this
theorem even_bits {s : Nat} (h : s < 65536) (h1 : s % 2 = 0) : bits .and .u16 (s : Int) 1 = 0 := by
  have := u16_and_nat s 1 h (by omega)
  rw [Nat.and_one_is_mod, h1] at this
  exact this
theorem odd_step {s : Nat} (h : s < 65536) (h1 : s % 2 = 1) : bits .xor .u16 ((s : Int) / 2) 33800 = (bit s : Nat) := by
  have := u16_xor_nat (s / 2) 33800 (by omega) (by omega)
  unfold bit
  rw [if_pos h1, ← this]
  simp
theorem even_step {s : Nat} (h1 : s % 2 = 0) : (s : Int) / 2 = (bit s : Nat) := by
  unfold bit
  rw [if_neg (by omega)]
  omega

set_option maxHeartbeats 2000000 in
theorem sum_any (a : Option Addr) (n c : Nat) (Z : Nat → Int) (w : World) (hm : n ≤ maxLen) (hZ : Row w a n (fun i => .int .u8 (Z i))) (hz : Byte Z) :
    Calls Try.prog 69 #[.slice a n c] w fun r w' => r = .returned (.int .u16 ((crc Z n : Nat) : Int)) ∧ w = w' := by
  unfold maxLen at hm
  go_enter Try.func69, Try.ntmps69
  go_wp2_with fail
  go_loop [3, 9] (fun u q => ∃ k : Nat, u = .int .u16 ((crc Z k : Nat) : Int) ∧ q = .int .i64 k ∧ k ≤ n) (fun _ q => n - (intOf q).toNat)
  case atStart => exact ⟨0, rfl, rfl, by omega⟩
  case round =>
    obtain ⟨k, rfl, rfl, hk⟩ := hrel
    by_cases hlt : k < n
    · obtain ⟨b, o, rfl, hb, hc⟩ := hZ.at_ hlt
      have hl := crc_lt hz k
      obtain ⟨z0, z1⟩ := hz k
      have hx := u16_xor (crc Z k : Int) (Z k) (by omega) (by omega) (hz k).1 (by have := (hz k).2; omega)
      simp only [Int.toNat_natCast] at hx
      have hl2 : crc Z k ^^^ (Z k).toNat < 65536 := xor_lt hl (by have := hz k; omega)
      have hq : crc Z (k + 1) = bits_ 8 (crc Z k ^^^ (Z k).toNat) := rfl
      have HQ := Lib.hid hq
      clear hq
      go_wp2_with fail
      generalize crc Z k ^^^ (Z k).toNat = s0 at *
      clear hx hc
      go_loop [3, 17] (fun u q => ∃ (j s : Nat), u = .int .u16 (s : Int) ∧ q = .int .i64 j ∧ j ≤ 8 ∧ s < 65536 ∧ Hid (bits_ (8 - j) s = bits_ 8 s0)) (fun _ q => 8 - (intOf q).toNat)
      case atStart => exact ⟨0, s0, rfl, rfl, by omega, hl2, Lib.hid rfl⟩
      case round =>
        obtain ⟨j, s, rfl, rfl, hj, hs, HS⟩ := hrel
        by_cases hj8 : j < 8
        · have HS' : Hid (bits_ (8 - (j + 1)) (bit s) = bits_ 8 s0) := Lib.hid (by rw [← HS.out, show 8 - j = (8 - (j + 1)) + 1 from by omega]; rfl)
          have hb' := bit_lt hs
          rcases Nat.mod_two_eq_zero_or_one s with h2 | h2
          · have e1 := even_bits hs h2
            have E := Lib.hid (even_step h2)
            clear h2
            go_wp2_with fail
            exact ⟨⟨j + 1, bit s, by rw [E.out], by go_num, by omega, hb', HS'⟩, by simp [intOf]; omega⟩
          · have e1 := odd_bits hs h2
            have E := Lib.hid (odd_step hs h2)
            clear h2
            go_wp2_with fail
            exact ⟨⟨j + 1, bit s, by rw [E.out], by go_num, by omega, hb', HS'⟩, by simp [intOf]; omega⟩
        · obtain rfl : j = 8 := by omega
          go_wp2_with fail
          exact ⟨⟨k + 1, by rw [HQ.out, ← HS.out]; rfl, by go_num, by omega⟩, by simp [intOf]; omega⟩
    · obtain rfl : k = n := by omega
      go_wp2_with fail
      go_ret
      exact ⟨rfl, rfl⟩

theorem conv8 (s : Nat) : IntKind.u8.wrap (s : Int) = ((s % 256 : Nat) : Int) := by
  simp only [IntKind.wrap, IntKind.signed, IntKind.bits]
  simp

def goodb (Z : Nat → Int) (n : Nat) : Bool := decide (2 ≤ n) && decide (crc Z n = 0)
theorem goodb_iff {Z : Nat → Int} (hz : Byte Z) (n : Nat) : goodb Z (n + 2) = true ↔ (Z n = ((crc Z n % 256 : Nat) : Int) ∧ Z (n + 1) = ((crc Z n / 256 : Nat) : Int)) := by
  have h0 := hz n; have h1 := hz (n + 1)
  have e : crc Z (n + 2) = oct (oct (crc Z n ^^^ (Z n).toNat) ^^^ (Z (n + 1)).toNat) := by rw [crc, crc]
  unfold goodb
  rw [e]
  simp only [show 2 ≤ n + 2 from by omega, decide_true, Bool.true_and, decide_eq_true_eq]
  rw [sum_zero (crc_lt hz n) (by omega) (by omega)]
  constructor
  · rintro ⟨h2, h3⟩
    exact ⟨by omega, by omega⟩
  · rintro ⟨h2, h3⟩
    exact ⟨by omega, by omega⟩

def app (Z : Nat → Int) (n i : Nat) : Int := if i < n then Z i else if i = n then ((crc Z n % 256 : Nat) : Int) else ((crc Z n / 256 : Nat) : Int)
theorem app_byte {Z : Nat → Int} (hz : Byte Z) (n : Nat) : Byte (app Z n) := by
  intro i
  have := crc_lt hz n
  unfold app
  split
  · exact hz i
  · split <;> omega
theorem app_low {Z : Nat → Int} {n i : Nat} (h : i < n) : app Z n i = Z i := by unfold app; rw [if_pos h]
theorem app_zero {Z : Nat → Int} (hz : Byte Z) (n : Nat) : crc (app Z n) (n + 2) = 0 := by
  have e : crc (app Z n) n = crc Z n := crc_same n fun i hi => app_low hi
  have h := (goodb_iff (app_byte hz n) n).2 (by
    rw [e]
    unfold app
    simp
    intro h
    omega)
  unfold goodb at h
  simpa using h

theorem two_row (W : World) (p q : Int) (e : TypeId) : Row (W.alloc (.cells #[.int .u8 p, .int .u8 q] e)) (some ⟨W.heap.size, 0, none⟩) 2 (fun i => if i = 0 then .int .u8 p else .int .u8 q) :=
  row_new _ _ _ _ (fun i hi => by
    match i, hi with
    | 0, _ => rfl
    | 1, _ => rfl)
theorem two_one (p q : Int) : ∀ i, i < 2 → Value.oneCell' ((fun i : Nat => if i = 0 then Value.int .u8 p else .int .u8 q) i) = true := fun i _ => by
  by_cases h : i = 0 <;> simp [h, Value.oneCell']

set_option maxHeartbeats 2000000 in
theorem append_any (a : Option Addr) (n c : Nat) (Z : Nat → Int) (w : World) (hn : n ≤ 140737488351232) (hZ : Row w a n (fun i => .int .u8 (Z i))) (hz : Byte Z) :
    Calls Try.prog 50 #[.slice a n c] w fun r w' => ∃ v, r = .returned v ∧ Mine w' w.heap.size 5 v (n + 2) (fun i => .int .u8 (app Z n i)) ∧ Below w.heap.size w w' := by
  obtain ⟨i0, hi0, hz0, hz1, hz2⟩ := info_parts info8
  have M := Lib.hid (show n + 2 ≤ maxLen by unfold maxLen; omega)
  have M' := Lib.hid (show n ≤ maxLen by unfold maxLen; omega)
  have hl := crc_lt hz n
  go_enter Try.func50, Try.ntmps50
  go_wp2_with (at_make; refine wpList_make_own _ rfl _ _ 33 rfl w.heap.size 5 i0 _ 1 Try.underlying33 hi0 hz0 hz1 _ _ _ (n + 2) rfl rfl (by omega) (by rw [hz2]; omega) M.out (Nat.le_refl _) ?_)
  intro w1 hown1 hg1
  have b1 : Below w.heap.size w w1 := (Below.refl _ _).grown hg1 (Nat.le_refl _) (fun k hk => by cases hk)
  have hown1' : Mine w1 w.heap.size 5 (.slice (some ⟨w.heap.size, 0, none⟩) 0 (n + 2)) 0 (fun i => .int .u8 (app Z n i)) := hown1
  have hZ1 := hZ.below b1
  clear hown1
  go_wp2_with (at_builtin; refine wp_app rfl (.tmp 9) (.tmp 10) _ rfl w.heap.size 5 i0 _ 1 Try.underlying33 hi0 hz0 hz1 hz2 rfl _ 0 _ rfl hown1' a n c (fun i => .int .u8 (Z i)) rfl hZ1 (fun _ _ => rfl) ?c1 ?c2 ?c3 ?_)
  case c1 => rw [Nat.zero_add]; exact M'.out
  case c2 => omega
  case c3 => exact b1.size
  intro v2 w2 hv2 hg2
  have b2 : Below w.heap.size w w2 := b1.grown hg2 b1.size (fun k hk => (hown1'.lt k hk).1)
  have hv2' : Mine w2 w.heap.size 5 v2 n (fun i => .int .u8 (app Z n i)) := hv2.ext fun i hi => by rw [app_low hi]; try rfl
  have hZ2 := hZ.below b2
  clear hv2 hown1' hZ1
  go_wp2_with fail
  refine (sum_any _ _ _ Z _ M'.out hZ2 hz).mono ?_
  rintro r w' ⟨rfl, rfl⟩
  have hs := b2.size
  go_wp2_with (at_builtin; go_must (refine wp_app rfl (.tmp 14) (.tmp 20) _ rfl w.heap.size 5 i0 _ 1 Try.underlying33 hi0 hz0 hz1 hz2 rfl v2 n _ rfl (hv2'.alloc _) _ 2 _ (fun i => if i = 0 then .int .u8 ((crc Z n : Int) % 256) else .int .u8 ((crc Z n : Int) / 256)) rfl (two_row w2 _ _ _) (two_one _ _) M.out ?c2 ?c3 ?_))
  case c2 => omega
  case c3 => simp; omega
  intro v3 w3 hv3 hg3
  have b3 : Below w.heap.size w w3 := (b2.alloc hs _).grown hg3 (by simp; omega) (fun q hq => (hv2'.lt q hq).1)
  have hv3' : Mine w3 w.heap.size 5 v3 (n + 2) (fun i => .int .u8 (app Z n i)) := hv3.ext fun i hi => by
    by_cases h : i < n
    · simp only [h, if_true]
    · have e : ¬ i < n := h
      simp only [e, if_false]
      unfold app
      rw [if_neg e]
      by_cases h2 : i = n
      · subst h2; simp
      · have h3 : i - n ≠ 0 := by omega
        simp [h2, h3]
  clear hv3
  go_wp2_with fail
  go_ret
  exact ⟨_, rfl, hv3', b3⟩

end Go.Proofs.Ytiflmdekcjbmbaa.Cr
set_option maxRecDepth 100000
namespace Go.Proofs.Ytiflmdekcjbmbaa.Fm
set_option linter.unusedVariables false
set_option linter.unusedSimpArgs false
open Go.RowKit Lb Bf Ie

structure Fr where
  k : Int
  s : Int
  d : Int
  q : Int
  ies : List El
  data : List Int
def ndB (x : Int) : Bool := decide (0 ≤ x ∧ x < 16)
def kindB (f : Fr) : Bool :=
  if f.k = 2 ∨ f.k = 4 then (f.d != 64) && (f.data.length == 0)
  else if f.k = 3 then (f.d == 64) && ((f.data.length == 0) && (fstE f.ies 1).isSome)
  else if f.k = 1 ∨ f.k = 5 then (f.d != 64) && decide (0 < f.data.length)
  else false
def dstB (f : Fr) : Bool := !(f.d == f.s) && ((f.d == 64) || ndB f.d)
def mayF (f : Fr) : Bool := ndB f.s && (decide (0 ≤ f.q) && (decide (f.q ≤ 255) && (decide (f.data.length ≤ 64) && (mayL f.ies && (dstB f && kindB f)))))
theorem mayF_out {f : Fr} (h : mayF f = true) : (0 ≤ f.s ∧ f.s < 16) ∧ (0 ≤ f.q ∧ f.q ≤ 255) ∧ f.data.length ≤ 64 ∧ mayL f.ies = true ∧ (0 ≤ f.d ∧ f.d ≤ 64) ∧ (1 ≤ f.k ∧ f.k ≤ 5) := by
  unfold mayF at h
  simp only [Bool.and_eq_true, decide_eq_true_eq] at h
  obtain ⟨h1, h2, h3, h4, h5, h6, h7⟩ := h
  unfold ndB at h1
  rw [decide_eq_true_eq] at h1
  refine ⟨h1, ⟨h2, h3⟩, h4, h5, ?_, ?_⟩
  · unfold dstB at h6
    rw [Bool.and_eq_true, Bool.or_eq_true] at h6
    rcases h6.2 with h | h
    · rw [beq_iff_eq] at h; omega
    · unfold ndB at h; rw [decide_eq_true_eq] at h; omega
  · unfold kindB at h7
    split at h7
    · omega
    · split at h7
      · omega
      · split at h7
        · omega
        · cases h7
/-- A row as a function of places. -/
def fn (l : List Int) (i : Nat) : Int := l.getD i 0
theorem fn_byte {l : List Int} (h : okD' l) : Cr.Byte (fn l) := fun i => by
  unfold fn
  by_cases hi : i < l.length
  · rw [List.getD_eq_getElem?_getD, List.getElem?_eq_getElem hi]
    exact h _ (List.getElem_mem hi)
  · rw [List.getD_eq_getElem?_getD, List.getElem?_eq_none (by omega)]
    exact ⟨by decide, by decide⟩
def sumL (l : List Int) : Nat := Cr.crc (fn l) l.length
def appL (l : List Int) : List Int := l ++ [((sumL l % 256 : Nat) : Int), ((sumL l / 256 : Nat) : Int)]
def goodL (l : List Int) : Bool := Cr.goodb (fn l) l.length
theorem appL_len (l : List Int) : (appL l).length = l.length + 2 := by simp [appL]
theorem appL_fn (l : List Int) (i : Nat) (h : i < l.length + 2) : fn (appL l) i = Cr.app (fn l) l.length i := by
  unfold fn appL Cr.app
  by_cases h1 : i < l.length
  · rw [if_pos h1, List.getD_eq_getElem?_getD, List.getElem?_append_left h1, ← List.getD_eq_getElem?_getD]
  · rw [if_neg h1, List.getD_eq_getElem?_getD, List.getElem?_append_right (by omega)]
    by_cases h2 : i = l.length
    · rw [if_pos h2, h2, Nat.sub_self]
      rfl
    · rw [if_neg h2, show i - l.length = 1 by omega]
      rfl
theorem sumL_lt {l : List Int} (h : okD' l) : sumL l < 65536 := Cr.crc_lt (fn_byte h) _
theorem appL_ok {l : List Int} (h : okD' l) : okD' (appL l) := fun x hx => by
  have := sumL_lt h
  unfold appL at hx
  rcases List.mem_append.1 hx with h1 | h1
  · exact h x h1
  · simp at h1
    omega
theorem goodL_app {l : List Int} (h : okD' l) : goodL (appL l) = true := by
  unfold goodL Cr.goodb
  rw [appL_len]
  have e : Cr.crc (fn (appL l)) (l.length + 2) = Cr.crc (Cr.app (fn l) l.length) (l.length + 2) := Cr.crc_same _ (fun i hi => appL_fn l i hi)
  simp only [e, Cr.app_zero (fn_byte h)]
  simp
theorem fn_take {l : List Int} {n i : Nat} (h : i < n) : fn (l.take n) i = fn l i := tk_get h
theorem goodL_is {L : List Int} (h : okD' L) (hg : goodL L = true) (hl : 2 ≤ L.length) : appL (L.take (L.length - 2)) = L := by
  obtain ⟨n, hn⟩ : ∃ n, L.length = n + 2 := ⟨L.length - 2, by omega⟩
  unfold goodL at hg
  rw [hn] at hg
  obtain ⟨h1, h2⟩ := (Cr.goodb_iff (fn_byte h) n).1 hg
  have ht : (L.take (L.length - 2)).length = n := by rw [List.length_take]; omega
  have hs : sumL (L.take (L.length - 2)) = Cr.crc (fn L) n := by
    unfold sumL
    rw [ht]
    exact Cr.crc_same n (fun i hi => fn_take (by omega))
  apply list_eq
  · rw [appL_len, ht, hn]
  · intro j hj
    rw [appL_len, ht] at hj
    have e1 := appL_fn (L.take (L.length - 2)) j (by rw [ht]; exact hj)
    unfold fn at e1
    rw [e1]
    unfold Cr.app
    rw [ht]
    have hs2 : Cr.crc (fn (L.take (L.length - 2))) n = Cr.crc (fn L) n := Cr.crc_same n (fun i hi => fn_take (by omega))
    have hs3 : Cr.crc (fun i => (L.take (L.length - 2)).getD i 0) n = Cr.crc (fn L) n := hs2
    by_cases c1 : j < n
    · rw [if_pos c1]
      exact tk_get (by omega)
    · rw [if_neg c1]
      by_cases c2 : j = n
      · rw [if_pos c2, hs3, c2]
        exact h1.symm
      · rw [if_neg c2, hs3, show j = n + 1 by omega]
        exact h2.symm
def encR (f : Fr) : List Int := [197, f.k, f.s, f.d, f.q, ((Ie.encI f.ies).length : Int)] ++ Ie.encI f.ies ++ [(f.data.length : Int)] ++ f.data
def encF (f : Fr) : List Int := appL (encR f)
theorem encR_len (f : Fr) : (encR f).length = 7 + (Ie.encI f.ies).length + f.data.length := by
  unfold encR
  simp only [List.length_append, List.length_cons, List.length_nil]
  omega
theorem encF_len (f : Fr) : (encF f).length = 9 + (Ie.encI f.ies).length + f.data.length := by
  unfold encF
  rw [appL_len, encR_len]
  omega
def decR (R : List Int) : Except Int Fr :=
  match R with
  | m :: k :: s :: d :: q :: ne :: R6 =>
    if R6.length < ne.toNat then .error 3
    else match R6.drop ne.toNat with
      | [] => .error 3
      | nd :: R8 =>
        if R8.length ≠ nd.toNat then .error 3
        else if m ≠ 197 then .error 3
        else match decI (R6.take ne.toNat) with
          | .error e => .error e
          | .ok l => if mayF ⟨k, s, d, q, l, R8⟩ = true then .ok ⟨k, s, d, q, l, R8⟩ else .error 3
  | _ => .error 3
def decF (L : List Int) : Except Int Fr :=
  if L.length < 9 then .error 2
  else if goodL L = false then .error 4
  else decR (L.take (L.length - 2))
theorem bytesK_ok (N k : Nat) : okD' (bytesK N k) := fun x hx => by
  unfold bytesK at hx
  rw [List.mem_map] at hx
  obtain ⟨t, _, rfl⟩ := hx
  omega
theorem okD_app {l m : List Int} (h : okD' l) (k : okD' m) : okD' (l ++ m) := fun x hx => (List.mem_append.1 hx).elim (h x) (k x)
theorem okD_one {x : Int} (h : 0 ≤ x ∧ x < 256) : okD' [x] := fun y hy => by rw [List.mem_singleton.1 hy]; exact h
theorem okD_nil : okD' [] := fun x hx => by cases hx
theorem okD_cons {x : Int} {l : List Int} (h : 0 ≤ x ∧ x < 256) (k : okD' l) : okD' (x :: l) := fun y hy => by
  rcases List.mem_cons.1 hy with e | e
  · rw [e]; exact h
  · exact k y e
theorem okD_octs {l : List Int} (h : octsB l = true) : okD' l := fun x hx => by
  unfold octsB at h
  rw [decide_eq_true_eq] at h
  obtain ⟨i, hi, rfl⟩ := List.getElem_of_mem hx
  have := h i hi
  rw [List.getD_eq_getElem?_getD, List.getElem?_eq_getElem hi] at this
  simp only [Option.getD_some] at this
  omega
theorem encOne_ok {e : El} (h : mayE e = true) : okD' (encOne e) := by
  obtain ⟨k, a, r, t, l⟩ := e
  rcases mayE_kind h with h1 | h1 | h1 | h1
  · have h1 : k = 1 := h1
    subst h1
    rw [may1] at h
    simp only [Bool.and_eq_true, decide_eq_true_eq] at h
    unfold encOne
    simp only [if_pos]
    exact okD_app (okD_app (okD_app (okD_one (by omega)) (okD_one (by omega))) (bytesK_ok _ _)) (okD_one (by omega))
  · have h1 : k = 2 := h1
    subst h1
    unfold encOne
    rw [if_neg (by simp), if_pos rfl]
    exact okD_app (okD_app (okD_one (by omega)) (okD_one (by omega))) (bytesK_ok _ _)
  all_goals
    have h1 : k = _ := h1
    subst h1
    rw [may3 _ _ _ _ _ (by omega)] at h
    simp only [Bool.and_eq_true, decide_eq_true_eq] at h
    unfold encOne
    rw [if_neg (by simp), if_neg (by simp)]
    exact okD_app (okD_app (okD_one (by simp)) (okD_one (by simp; omega))) (okD_octs h.1)
theorem encL_ok : ∀ l : List El, (∀ e, e ∈ l → mayE e = true) → okD' (encL l)
  | [], _ => fun x hx => by cases hx
  | e :: l, h => okD_app (encOne_ok (h e (by simp))) (encL_ok l fun x hx => h x (by simp [hx]))
theorem encI_ok {l : List El} (h : mayL l = true) : okD' (Ie.encI l) ∧ (Ie.encI l).length ≤ 73 := by
  unfold mayL at h
  rw [Bool.and_eq_true, decide_eq_true_eq, List.all_eq_true] at h
  refine ⟨okD_app (okD_one (by omega)) (encL_ok l h.2), ?_⟩
  have := encL_take_len (l := l) (fun k hk => h.2 _ (List.getElem_mem hk)) l.length (Nat.le_refl _)
  rw [List.take_length] at this
  unfold Ie.encI
  simp
  omega
theorem encR_ok {f : Fr} (h : mayF f = true) (hd : okD' f.data) : okD' (encR f) := by
  obtain ⟨h1, h2, h3, h4, h5, h6⟩ := mayF_out h
  obtain ⟨h7, h8⟩ := encI_ok h4
  unfold encR
  refine okD_app (okD_app (okD_app ?_ h7) (okD_one (by omega))) hd
  exact okD_cons (by omega) (okD_cons (by omega) (okD_cons (by omega) (okD_cons (by omega) (okD_cons (by omega) (okD_one (by omega))))))
theorem encF_ok {f : Fr} (h : mayF f = true) (hd : okD' f.data) : okD' (encF f) := appL_ok (encR_ok h hd)
theorem decR_enc {f : Fr} (h : mayF f = true) : decR (encR f) = .ok f := by
  obtain ⟨h1, h2, h3, h4, h5, h6⟩ := mayF_out h
  have e : encR f = 197 :: f.k :: f.s :: f.d :: f.q :: ((Ie.encI f.ies).length : Int) :: (Ie.encI f.ies ++ ((f.data.length : Int) :: f.data)) := by unfold encR; simp
  rw [e]
  unfold decR
  simp only
  rw [Int.toNat_natCast, if_neg (by rw [List.length_append]; omega), List.drop_left, List.take_left]
  simp only
  rw [Int.toNat_natCast, if_neg (by simp), if_neg (by simp), decI_enc h4]
  simp only
  rw [if_pos h]
theorem decF_enc {f : Fr} (h : mayF f = true) (hd : okD' f.data) : decF (encF f) = .ok f := by
  unfold decF
  rw [if_neg (by rw [encF_len]; omega)]
  have hg := goodL_app (encR_ok h hd)
  unfold encF at hg ⊢
  rw [if_neg (by rw [hg]; simp), appL_len, Nat.add_sub_cancel]
  have : (appL (encR f)).take (encR f).length = encR f := by unfold appL; rw [List.take_left]
  rw [this]
  exact decR_enc h
theorem decR_back {R : List Int} {f : Fr} (hd : okD' R) (h : decR R = .ok f) : mayF f = true ∧ encR f = R ∧ okD' f.data := by
  unfold decR at h
  match R, h with
  | m :: k :: s :: d :: q :: ne :: R6, h =>
    simp only at h
    split at h
    · cases h
    · rename_i hl
      cases hR : R6.drop ne.toNat with
      | nil => rw [hR] at h; cases h
      | cons nd R8 =>
        rw [hR] at h
        simp only at h
        split at h
        · cases h
        · rename_i hn
          split at h
          · cases h
          · rename_i hm
            cases hI : decI (R6.take ne.toNat) with
            | error e => rw [hI] at h; cases h
            | ok l =>
              rw [hI] at h
              simp only at h
              split at h
              · rename_i hmay
                injection h with h
                subst h
                have hd6 : okD' R6 := fun x hx => hd x (by simp [hx])
                have hne := hd ne (by simp)
                have hd8 : okD' (nd :: R8) := by rw [← hR]; exact okD_drop' hd6
                have hnd := hd8 nd (by simp)
                obtain ⟨g1, g2⟩ := decI_back (okD_take' hd6) hI
                have hm : m = 197 := by omega
                have hlen : (Ie.encI l).length = ne.toNat := by rw [g2, List.length_take]; omega
                refine ⟨hmay, ?_, fun x hx => hd8 x (by simp [hx])⟩
                unfold encR
                simp only
                rw [hlen, g2, hm, Int.toNat_of_nonneg hne.1]
                have h6 : R6 = R6.take ne.toNat ++ (nd :: R8) := by rw [← hR, List.take_append_drop]
                have hnd2 : ((R8.length : Nat) : Int) = nd := by omega
                rw [hnd2]
                conv => rhs; rw [h6]
                simp
              · cases h
  | [], h => cases h
  | [_], h => cases h
  | [_, _], h => cases h
  | [_, _, _], h => cases h
  | [_, _, _, _], h => cases h
  | [_, _, _, _, _], h => cases h
theorem decF_back {L : List Int} {f : Fr} (hd : okD' L) (h : decF L = .ok f) : mayF f = true ∧ encF f = L ∧ okD' f.data := by
  unfold decF at h
  split at h
  · cases h
  · rename_i hl
    split at h
    · cases h
    · rename_i hg
      obtain ⟨h1, h2, h3⟩ := decR_back (okD_take' hd) h
      refine ⟨h1, ?_, h3⟩
      unfold encF
      rw [h2]
      exact goodL_is hd (by simpa using hg) (by omega)
end Go.Proofs.Ytiflmdekcjbmbaa.Fm
set_option maxRecDepth 100000
namespace Go.Proofs.Ytiflmdekcjbmbaa.Fm
set_option linter.unusedVariables false
set_option linter.unusedSimpArgs false
open Go.RowKit Lb Bf Ie

/-- A frame with where its rows lie. -/
structure Fp where
  k : Int
  s : Int
  d : Int
  q : Int
  L : List EP
  a : Option Addr
  c : Nat
  data : List Int
  b : Option Addr
  e : Nat
def Fp.fr (p : Fp) : Fr := ⟨p.k, p.s, p.d, p.q, els p.L, p.data⟩
def Fp.vals (p : Fp) : Array Value := #[.int .i64 p.k, .int .i64 p.s, .int .i64 p.d, .int .i64 p.q, .slice p.a p.L.length p.c, .slice p.b p.data.length p.e]
structure Fp.At (w : World) (p : Fp) : Prop where
  els : Els w p.L p.a p.c
  dc : p.data.length ≤ p.e
  dm : p.e ≤ maxLen
  row : Row w p.b p.data.length (bval p.data)
  ok : okD' p.data
theorem Fp.At.below {w w' : World} {p : Fp} (h : p.At w) (b : Below w.heap.size w w') : p.At w' := ⟨h.els.below b, h.dc, h.dm, h.row.below b, h.ok⟩
theorem isNode_any (x : Int) (w : World) : Calls Try.prog 63 #[.int .i64 x] w fun r w' => r = .returned (.bool (ndB x)) ∧ w = w' := by
  by_cases h1 : 0 ≤ x
  · by_cases h2 : x < 16
    · have HD : Hid (ndB x = true) := Lib.hid (decide_eq_true (And.intro h1 h2))
      go_enter Try.func63, Try.ntmps63
      go_wp2_with fail
      go_ret
      exact ⟨by rw [HD.out]; rfl, rfl⟩
    · have HD : Hid (ndB x = false) := Lib.hid (decide_eq_false (fun h => h2 h.2))
      go_enter Try.func63, Try.ntmps63
      go_wp2_with fail
      go_ret
      exact ⟨by rw [HD.out]; rfl, rfl⟩
  · have HD : Hid (ndB x = false) := Lib.hid (decide_eq_false (fun h => h1 h.1))
    go_enter Try.func63, Try.ntmps63
    go_wp2_with fail
    go_ret
    exact ⟨by rw [HD.out]; rfl, rfl⟩
set_option maxHeartbeats 1000000 in
theorem emay_any (L : List EP) (a : Option Addr) (c : Nat) (w : World) (h : Els w L a c) :
    Calls Try.prog 64 #[.slice a L.length c] w fun r w' => r = .returned (.bool (mayL (els L))) ∧ Below w.heap.size w w' := by
  have hlc := h.lc
  have hcm := h.cm
  unfold maxLen at hcm
  have hrow := h.row
  have HELS := Lib.hid h.els
  clear h
  obtain ⟨n, hn⟩ : ∃ n, L.length = n := ⟨_, rfl⟩
  have HN := Lib.hid hn
  rw [hn] at hlc hrow ⊢
  clear hn
  by_cases h4 : n ≤ 4
  · have g1 : decide ((4 : Int) < (n : Int)) = false := by simp; omega
    have g2 : decide (4 < n) = false := by simp; omega
    go_enter Try.func64, Try.ntmps64
    go_wp2_with fail
    go_loopw [10] (fun i wr => ∃ (k : Nat), i = .int .i64 k ∧ k ≤ n ∧ Hid (∀ j, j < k → mayE (L.getD j ep0).e = true) ∧ Below w.heap.size w wr) (fun i _ => n - (intOf i).toNat)
    case atStart => exact ⟨0, rfl, by omega, Lib.hid (fun j hj => by omega), Below.refl _ _⟩
    case round =>
      obtain ⟨k, rfl, hk, HE, bb⟩ := hrel
      by_cases hlt : k < n
      · obtain ⟨x, hx⟩ : ∃ x, L.getD k ep0 = x := ⟨_, rfl⟩
        obtain ⟨pb, po, rfl, hpb, x0, x1, x2, x3, x4⟩ := erow hrow bb hlt hx
        have hat := HELS.out k (by rw [HN.out]; exact hlt)
        rw [hx] at hat
        have HX := Lib.hid hx
        have hl1 := els_at (k := k) (by rw [HN.out]; exact hlt) hx
        have HL1 := Lib.hid hl1
        clear hx hl1
        obtain ⟨⟨ek, easn, erank, et, el⟩, ea, ec⟩ := x
        simp only at x0 x1 x2 x3 x4 hat
        have o2 := Own.new wr 49 #[.int .i64 ek, .int .i64 easn, .int .i64 erank, .int .i64 et, .slice ea el.length ec]
        have b2 := (Below.refl wr.heap.size wr).alloc (Nat.le_refl _) (.cells #[.int .i64 ek, .int .i64 easn, .int .i64 erank, .int .i64 et, .slice ea el.length ec] 49)
        have b3 := bb.trans (b2.mono bb.size)
        have hm := may_any ⟨ek, easn, erank, et, el⟩ ea ec _ (hat.below b3)
        unfold El.vals at hm
        simp only at hm
        go_upto_region 6 with (fail)
        generalize wr.alloc (.cells #[.int .i64 ek, .int .i64 easn, .int .i64 erank, .int .i64 et, .slice ea el.length ec] 49) = v2 at *
        obtain ⟨g6, hg6⟩ : ∃ g, wr.heap.size = g := ⟨_, rfl⟩
        rw [hg6] at o2 ⊢
        obtain ⟨q, hq⟩ : ∃ q, mayE ⟨ek, easn, erank, et, el⟩ = q := ⟨_, rfl⟩
        rw [hq] at hm
        have HM := Lib.hid hm
        have HQ := Lib.hid hq
        have y0 : v2.cell? ⟨g6, 0, none⟩ = some (.int .i64 ek) := o2.cell 0
        have y1 : v2.cell? ⟨g6, 1, none⟩ = some (.int .i64 easn) := o2.cell 1
        have y2 : v2.cell? ⟨g6, 2, none⟩ = some (.int .i64 erank) := o2.cell 2
        have y3 : v2.cell? ⟨g6, 3, none⟩ = some (.int .i64 et) := o2.cell 3
        have y4 : v2.cell? ⟨g6, 4, none⟩ = some (.slice ea el.length ec) := o2.cell 4
        clear hg6 b2 hm hq x0 x1 x2 x3 x4 bb hat o2
        cases q
        · have HD : Hid (mayL (els L) = false) := Lib.hid (mayL_no (k := k) (by rw [els_len, HN.out]; exact hlt) (by rw [HL1.out]; exact HQ.out))
          go_wp2_with fail
          refine HM.out.mono ?_
          rintro r w4 ⟨rfl, b4⟩
          go_wp2_with fail
          go_ret
          exact ⟨by rw [HD.out]; rfl, b3.trans (b4.mono b3.size)⟩
        · have HE2 : Hid (∀ j, j < k + 1 → mayE (L.getD j ep0).e = true) := Lib.hid (fun j hj => by
            by_cases e : j = k
            · subst e; rw [HX.out]; exact HQ.out
            · exact HE.out j (by omega))
          go_wp2_with fail
          refine HM.out.mono ?_
          rintro r w4 ⟨rfl, b4⟩
          have b5 := b3.trans (b4.mono b3.size)
          clear y0 y1 y2 y3 y4 b3 b4
          go_wp2_with fail
          exact ⟨⟨k + 1, by simp, by omega, HE2, b5⟩, by simp [intOf]; omega⟩
      · obtain rfl : n = k := by omega
        have HD : Hid (mayL (els L) = true) := Lib.hid (mayL_yes (by rw [els_len, HN.out]; exact h4) (fun j hj => by
          have e1 := els_at (L := L) (k := j) (by rw [els_len] at hj; exact hj) rfl
          rw [e1]
          exact HE.out j (by rw [els_len, HN.out] at hj; exact hj)))
        go_wp2_with fail
        go_ret
        exact ⟨by rw [HD.out]; rfl, bb⟩
  · have g1 : decide ((4 : Int) < (n : Int)) = true := by simp; omega
    have g2 : decide (4 < n) = true := by simp; omega
    have HD : Hid (mayL (els L) = false) := Lib.hid (by
      unfold mayL
      rw [els_len, HN.out, decide_eq_false h4]
      rfl)
    clear h4
    go_enter Try.func64, Try.ntmps64
    go_wp2_with fail
    go_ret
    exact ⟨by rw [HD.out]; rfl, Below.refl _ _⟩
/-- The frame's cells at a world. -/
theorem fr_cells {w : World} {g : Nat} {p : Fp} (h : Lb.Own w g 35 p.vals) : w.cell? ⟨g, 0, none⟩ = some (.int .i64 p.k) ∧ w.cell? ⟨g, 1, none⟩ = some (.int .i64 p.s) ∧ w.cell? ⟨g, 2, none⟩ = some (.int .i64 p.d) ∧ w.cell? ⟨g, 3, none⟩ = some (.int .i64 p.q) ∧ w.cell? ⟨g, 4, none⟩ = some (.slice p.a p.L.length p.c) ∧ w.cell? ⟨g, 5, none⟩ = some (.slice p.b p.data.length p.e) :=
  ⟨h.cell 0, h.cell 1, h.cell 2, h.cell 3, h.cell 4, h.cell 5⟩
theorem mayF_no1 {f : Fr} (h : ndB f.s = false) : mayF f = false := by unfold mayF; rw [h]; rfl
theorem mayF_no2 {f : Fr} (h : ¬ (0 ≤ f.q)) : mayF f = false := by unfold mayF; rw [decide_eq_false h]; simp
theorem mayF_no3 {f : Fr} (h : ¬ (f.q ≤ 255)) : mayF f = false := by unfold mayF; rw [decide_eq_false h]; simp
theorem mayF_no4 {f : Fr} (h : ¬ (f.data.length ≤ 64)) : mayF f = false := by unfold mayF; rw [decide_eq_false h]; simp
theorem mayF_no5 {f : Fr} (h : mayL f.ies = false) : mayF f = false := by unfold mayF; rw [h]; simp
theorem mayF_no6 {f : Fr} (h : dstB f = false) : mayF f = false := by unfold mayF; rw [h]; simp
theorem mayF_yes {f : Fr} (h1 : ndB f.s = true) (h2 : 0 ≤ f.q) (h3 : f.q ≤ 255) (h4 : f.data.length ≤ 64) (h5 : mayL f.ies = true) (h6 : dstB f = true) : mayF f = kindB f := by
  unfold mayF
  rw [h1, decide_eq_true h2, decide_eq_true h3, decide_eq_true h4, h5, h6]
  simp
set_option maxHeartbeats 4000000 in
theorem mayF_any (p : Fp) (w : World) (h : p.At w) (hm : ∀ k, k < p.L.length → (p.L.getD k ep0).e.list.length ≤ 1000000) :
    Calls Try.prog 46 #[.agg p.vals] w fun r w' => r = .returned (.bool (mayF p.fr)) ∧ Below w.heap.size w w' := by
  have o1 := Own.new w 35 p.vals
  have b0 := (Below.refl w.heap.size w).alloc (Nat.le_refl _) (.cells p.vals 35)
  have h1 := h.below b0
  have hdm := h.dm
  have hdc := h.dc
  unfold maxLen at hdm
  have HMM := Lib.hid hm
  clear h hm
  obtain ⟨pk, ps, pd, pq, pL, pa, pc, pdata, pb, pe⟩ := p
  have HF : Hid ((⟨pk, ps, pd, pq, pL, pa, pc, pdata, pb, pe⟩ : Fp).fr = ⟨pk, ps, pd, pq, els pL, pdata⟩) := Lib.hid rfl
  unfold Fp.vals at *
  simp only at *
  obtain ⟨nd, hnd⟩ : ∃ n, pdata.length = n := ⟨_, rfl⟩
  have HND := Lib.hid hnd
  rw [hnd] at o1 b0 h1 hdc ⊢
  go_enter Try.func46, Try.ntmps46
  go_upto_region 1 with (fail)
  generalize w.alloc (.cells #[.int .i64 pk, .int .i64 ps, .int .i64 pd, .int .i64 pq, .slice pa pL.length pc, .slice pb nd pe] 35) = w1 at *
  have x0 : w1.cell? ⟨w.heap.size, 0, none⟩ = some (.int .i64 pk) := o1.cell 0
  have x1 : w1.cell? ⟨w.heap.size, 1, none⟩ = some (.int .i64 ps) := o1.cell 1
  have x2 : w1.cell? ⟨w.heap.size, 2, none⟩ = some (.int .i64 pd) := o1.cell 2
  have x3 : w1.cell? ⟨w.heap.size, 3, none⟩ = some (.int .i64 pq) := o1.cell 3
  have x4 : w1.cell? ⟨w.heap.size, 4, none⟩ = some (.slice pa pL.length pc) := o1.cell 4
  have x5 : w1.cell? ⟨w.heap.size, 5, none⟩ = some (.slice pb nd pe) := o1.cell 5
  have HEM := Lib.hid (emay_any pL pa pc w1 h1.els)
  clear hnd
  cases hs : ndB ps
  · have HD : Hid (mayF ⟨pk, ps, pd, pq, els pL, pdata⟩ = false) := Lib.hid (mayF_no1 hs)
    go_wp2_with (refine (isNode_any _ _).mono ?_; rintro r w' ⟨rfl, rfl⟩)
    go_ret
    exact ⟨by rw [HF.out, HD.out]; rfl, b0⟩
  by_cases q0 : ¬ 0 ≤ pq
  · have HD : Hid (mayF ⟨pk, ps, pd, pq, els pL, pdata⟩ = false) := Lib.hid (mayF_no2 q0)
    have t2 : decide (pq < 0) = true := by simp; omega
    clear q0
    go_wp2_with (refine (isNode_any _ _).mono ?_; rintro r w' ⟨rfl, rfl⟩)
    go_ret
    exact ⟨by rw [HF.out, HD.out]; rfl, b0⟩
  have q0 : 0 ≤ pq := by omega
  have t2 : decide (pq < 0) = false := by simp; omega
  by_cases q1 : ¬ pq ≤ 255
  · have HD : Hid (mayF ⟨pk, ps, pd, pq, els pL, pdata⟩ = false) := Lib.hid (mayF_no3 q1)
    have t3 : decide (255 < pq) = true := by simp; omega
    clear q1
    go_wp2_with (refine (isNode_any _ _).mono ?_; rintro r w' ⟨rfl, rfl⟩)
    go_ret
    exact ⟨by rw [HF.out, HD.out]; rfl, b0⟩
  have q1 : pq ≤ 255 := by omega
  have t3 : decide (255 < pq) = false := by simp; omega
  by_cases q2 : ¬ nd ≤ 64
  · have HD : Hid (mayF ⟨pk, ps, pd, pq, els pL, pdata⟩ = false) := Lib.hid (mayF_no4 (by show ¬ pdata.length ≤ 64; rw [HND.out]; exact q2))
    have t4 : decide ((64 : Int) < (nd : Int)) = true := by simp; omega
    have t4' : decide (64 < nd) = true := by simp; omega
    clear q2
    go_wp2_with (refine (isNode_any _ _).mono ?_; rintro r w' ⟨rfl, rfl⟩)
    go_ret
    exact ⟨by rw [HF.out, HD.out]; rfl, b0⟩
  have q2 : nd ≤ 64 := by omega
  have t4 : decide ((64 : Int) < (nd : Int)) = false := by simp; omega
  have t4' : decide (64 < nd) = false := by simp; omega
  cases hml : mayL (els pL)
  · have HD : Hid (mayF ⟨pk, ps, pd, pq, els pL, pdata⟩ = false) := Lib.hid (mayF_no5 hml)
    rw [hml] at HEM
    go_wp2_with fail
    refine (isNode_any _ _).mono ?_
    rintro r w' ⟨rfl, rfl⟩
    go_wp2_with fail
    refine HEM.out.mono ?_
    rintro r w2 ⟨rfl, b2⟩
    go_wp2_with fail
    go_ret
    exact ⟨by rw [HF.out, HD.out]; rfl, b0.trans (b2.mono b0.size)⟩
  rw [hml] at HEM
  go_wp2_with fail
  refine (isNode_any _ _).mono ?_
  rintro r w' ⟨rfl, rfl⟩
  go_wp2_with fail
  refine HEM.out.mono ?_
  rintro r w2 ⟨rfl, b2⟩
  have HML := Lib.hid hml
  have HNS := Lib.hid hs
  have h2 := h1.below b2
  have o2 := below_own b2 o1 (by have := o1.lt; omega)
  have b3 := b0.trans (b2.mono b0.size)
  clear x0 x1 x2 x3 x4 x5 hml hs HEM h1 o1 b0 b2 t2 t3 t4 t4'
  have x0 : w2.cell? ⟨w.heap.size, 0, none⟩ = some (.int .i64 pk) := o2.cell 0
  have x1 : w2.cell? ⟨w.heap.size, 1, none⟩ = some (.int .i64 ps) := o2.cell 1
  have x2 : w2.cell? ⟨w.heap.size, 2, none⟩ = some (.int .i64 pd) := o2.cell 2
  have x4 : w2.cell? ⟨w.heap.size, 4, none⟩ = some (.slice pa pL.length pc) := o2.cell 4
  have x5 : w2.cell? ⟨w.heap.size, 5, none⟩ = some (.slice pb nd pe) := o2.cell 5
  have hDST : dstB ⟨pk, ps, pd, pq, els pL, pdata⟩ = (!(pd == ps) && ((pd == 64) || ndB pd)) := rfl
  obtain ⟨e6, he6⟩ : ∃ e, (pd == ps) = e := ⟨_, rfl⟩
  obtain ⟨e7, he7⟩ : ∃ e, (pd == 64) = e := ⟨_, rfl⟩
  have he7' : (pd != 64) = !e7 := by rw [← he7]; rfl
  obtain ⟨e8, he8⟩ : ∃ e, ndB pd = e := ⟨_, rfl⟩
  rw [he6, he7, he8] at hDST
  have HDST := Lib.hid hDST
  clear hDST
  rcases Bool.eq_false_or_eq_true e6 with h6 | h6
  · subst h6
    have HD : Hid (mayF ⟨pk, ps, pd, pq, els pL, pdata⟩ = false) := Lib.hid (mayF_no6 (by rw [HDST.out]; rfl))
    go_wp2_with fail
    go_ret
    exact ⟨by rw [HF.out, HD.out]; rfl, b3⟩
  subst h6
  by_cases hd78 : e7 = false ∧ e8 = false
  · obtain ⟨rfl, rfl⟩ := hd78
    have HD : Hid (mayF ⟨pk, ps, pd, pq, els pL, pdata⟩ = false) := Lib.hid (mayF_no6 (by rw [HDST.out]; rfl))
    simp only [Bool.not_false] at he7'
    go_wp2_with (refine (isNode_any _ _).mono ?_; rintro r w' ⟨rfl, rfl⟩)
    go_ret
    exact ⟨by rw [HF.out, HD.out]; rfl, b3⟩
  have hdst : dstB ⟨pk, ps, pd, pq, els pL, pdata⟩ = true := by
    rw [HDST.out]
    cases e7 <;> cases e8 <;> simp at hd78 ⊢
  have HD : Hid (mayF ⟨pk, ps, pd, pq, els pL, pdata⟩ = kindB ⟨pk, ps, pd, pq, els pL, pdata⟩) := Lib.hid (mayF_yes HNS.out q0 q1 (by show pdata.length ≤ 64; rw [HND.out]; exact q2) HML.out hdst)
  clear hdst HDST
  have e7t : (e7 = true ∨ (e7 = false ∧ e8 = true)) := by cases e7 <;> cases e8 <;> simp at hd78 ⊢
  clear hd78
  go_upto_region 3 with (fail)
  go_cut [46] from 31 to 46 (fun v wx => v = .bool false ∧ w2 = wx)
  case first =>
    rcases e7t with h | ⟨h, h8⟩
    · subst h
      simp only [Bool.not_true] at he7'
      go_wp2_with fail
      go_meet
      exact ⟨rfl, rfl⟩
    · subst h h8
      simp only [Bool.not_false] at he7'
      go_wp2_with fail
      refine (isNode_any _ _).mono ?_
      rintro r w' ⟨rfl, rfl⟩
      go_wp2_with fail
      go_meet
      exact ⟨rfl, rfl⟩
  case rest =>
    obtain ⟨rfl, rfl⟩ := hcut
    clear e7t he6 he8
    obtain ⟨z, hz⟩ : ∃ z, (nd == 0) = z := ⟨_, rfl⟩
    have hz' : ((nd : Int) == 0) = z := by rw [← hz, Bool.eq_iff_iff]; simp
    have hzp : decide (0 < nd) = !z := by rw [← hz, Bool.eq_iff_iff]; simp; omega
    have hzp' : decide ((0 : Int) < (nd : Int)) = !z := by rw [← hz, Bool.eq_iff_iff]; simp; omega
    by_cases k24 : pk = 2 ∨ pk = 4
    · have hK : kindB ⟨pk, ps, pd, pq, els pL, pdata⟩ = (!e7 && z) := by
        unfold kindB
        rw [if_pos k24]
        show ((pd != 64) && (pdata.length == 0)) = _
        rw [he7', HND.out, hz]
      have HK := Lib.hid hK
      by_cases k2 : pk = 2
      · subst k2
        clear k24 hK
        cases e7
        · cases z
          all_goals
            simp only [Bool.not_false, Bool.not_true] at he7' hzp hzp'
            go_wp2_with fail
            go_ret
            exact ⟨by rw [HF.out, HD.out, HK.out]; rfl, b3⟩
        · simp only [Bool.not_true] at he7'
          go_wp2_with fail
          go_ret
          exact ⟨by rw [HF.out, HD.out, HK.out]; rfl, b3⟩
      · have k4 : pk = 4 := by omega
        subst k4
        clear k24 hK k2
        cases e7
        · cases z
          all_goals
            simp only [Bool.not_false, Bool.not_true] at he7' hzp hzp'
            go_wp2_with fail
            go_ret
            exact ⟨by rw [HF.out, HD.out, HK.out]; rfl, b3⟩
        · simp only [Bool.not_true] at he7'
          go_wp2_with fail
          go_ret
          exact ⟨by rw [HF.out, HD.out, HK.out]; rfl, b3⟩
    · have s2 : (pk == 2) = false := by simp; omega
      have s4 : (pk == 4) = false := by simp; omega
      by_cases k3 : pk = 3
      · have hK : kindB ⟨pk, ps, pd, pq, els pL, pdata⟩ = (e7 && (z && (fstE (els pL) 1).isSome)) := by
          unfold kindB
          rw [if_neg k24, if_pos k3]
          show ((pd == 64) && ((pdata.length == 0) && _)) = _
          rw [he7, HND.out, hz]
        have HK := Lib.hid hK
        have hf := find_any pL pa pc 1 w2 h2.els HMM.out
        have HFD := Lib.hid hf
        subst k3
        clear k24 hK hf
        go_wp2_with fail
        refine HFD.out.mono ?_
        rintro r w4 ⟨a4, c4, rfl, hat4, b4⟩
        obtain ⟨fe, hfe⟩ : ∃ f, foundE (els pL) 1 = f := ⟨_, rfl⟩
        rw [hfe]
        obtain ⟨ok, hok⟩ : ∃ f, (fstE (els pL) 1).isSome = f := ⟨_, rfl⟩
        have HK2 : Hid (kindB ⟨3, ps, pd, pq, els pL, pdata⟩ = (e7 && (z && ok))) := Lib.hid (by rw [HK.out, hok])
        rw [hok]
        obtain ⟨fk, fa, fr, ft, fl⟩ := fe
        have o4 := below_own b4 o2 (by have := o2.lt; omega)
        have b5 := b3.trans (b4.mono b3.size)
        unfold El.vals
        simp only
        have o5 := o4.alloc (.cells #[.int .i64 fk, .int .i64 fa, .int .i64 fr, .int .i64 ft, .slice a4 fl.length c4] 49)
        have b6 := b5.alloc b5.size (.cells #[.int .i64 fk, .int .i64 fa, .int .i64 fr, .int .i64 ft, .slice a4 fl.length c4] 49)
        clear hfe hok hat4 HFD HK b4 o4 b5 x0 x1 x2 x4 x5 h2 o2 b3
        go_upto_region 11 with (fail)
        generalize w4.alloc (.cells #[.int .i64 fk, .int .i64 fa, .int .i64 fr, .int .i64 ft, .slice a4 fl.length c4] 49) = w5 at *
        have x2 : w5.cell? ⟨w.heap.size, 2, none⟩ = some (.int .i64 pd) := o5.cell 2
        have x5 : w5.cell? ⟨w.heap.size, 5, none⟩ = some (.slice pb nd pe) := o5.cell 5
        cases e7
        · go_wp2_with fail
          go_ret
          exact ⟨by rw [HF.out, HD.out, HK2.out]; rfl, b6⟩
        · cases z
          all_goals
            go_wp2_with fail
            go_ret
            exact ⟨by rw [HF.out, HD.out, HK2.out]; rfl, b6⟩
      · have s3 : (pk == 3) = false := by simp; omega
        by_cases k15 : pk = 1 ∨ pk = 5
        · have hK : kindB ⟨pk, ps, pd, pq, els pL, pdata⟩ = (!e7 && !z) := by
            unfold kindB
            rw [if_neg k24, if_neg k3, if_pos k15]
            show ((pd != 64) && decide (0 < pdata.length)) = _
            rw [he7', HND.out, hzp]
          have HK := Lib.hid hK
          by_cases k1 : pk = 1
          · subst k1
            clear k24 hK k3 k15
            cases e7
            · cases z
              all_goals
                simp only [Bool.not_false, Bool.not_true] at he7' hzp hzp'
                go_wp2_with fail
                go_ret
                exact ⟨by rw [HF.out, HD.out, HK.out]; rfl, b3⟩
            · simp only [Bool.not_true] at he7'
              go_wp2_with fail
              go_ret
              exact ⟨by rw [HF.out, HD.out, HK.out]; rfl, b3⟩
          · have k5 : pk = 5 := by omega
            subst k5
            clear k24 hK k3 k15 k1
            cases e7
            · cases z
              all_goals
                simp only [Bool.not_false, Bool.not_true] at he7' hzp hzp'
                go_wp2_with fail
                go_ret
                exact ⟨by rw [HF.out, HD.out, HK.out]; rfl, b3⟩
            · simp only [Bool.not_true] at he7'
              go_wp2_with fail
              go_ret
              exact ⟨by rw [HF.out, HD.out, HK.out]; rfl, b3⟩
        · have s1 : (pk == 1) = false := by simp; omega
          have s5 : (pk == 5) = false := by simp; omega
          have HK : Hid (kindB ⟨pk, ps, pd, pq, els pL, pdata⟩ = false) := Lib.hid (by
            unfold kindB
            rw [if_neg k24, if_neg k3, if_neg k15])
          clear k24 k3 k15
          go_wp2_with fail
          go_ret
          exact ⟨by rw [HF.out, HD.out, HK.out]; rfl, b3⟩
end Go.Proofs.Ytiflmdekcjbmbaa.Fm
set_option maxRecDepth 100000
namespace Go.Proofs.Ytiflmdekcjbmbaa.Cr
set_option linter.unusedVariables false
set_option linter.unusedSimpArgs false
open Go.RowKit Lb
set_option linter.unusedVariables false

set_option maxHeartbeats 2000000 in
theorem rsum_any (a : Option Addr) (n c : Nat) (Z : Nat → Int) (w : World) (hm : n ≤ maxLen) (hZ : Row w a n (fun i => .int .u8 (Z i))) (hz : Byte Z) :
    Calls Try.prog 70 #[.slice a n c] w fun r w' => r = .returned (.int .u16 ((crc Z n : Nat) : Int)) ∧ w = w' := by
  unfold maxLen at hm
  go_enter Try.func70, Try.ntmps70
  go_wp2_with fail
  go_loop [3, 8] (fun u q => ∃ k : Nat, u = .int .u16 ((crc Z k : Nat) : Int) ∧ q = .int .i64 k ∧ k ≤ n) (fun _ q => n - (intOf q).toNat)
  case atStart => exact ⟨0, rfl, rfl, by omega⟩
  case round =>
    obtain ⟨k, rfl, rfl, hk⟩ := hrel
    by_cases hlt : k < n
    · obtain ⟨b, o, rfl, hb, hc⟩ := hZ.at_ hlt
      have hl := crc_lt hz k
      obtain ⟨z0, z1⟩ := hz k
      have hx := u16_xor (crc Z k : Int) (Z k) (by omega) (by omega) (hz k).1 (by have := (hz k).2; omega)
      simp only [Int.toNat_natCast] at hx
      have hl2 : crc Z k ^^^ (Z k).toNat < 65536 := xor_lt hl (by have := hz k; omega)
      have hq : crc Z (k + 1) = bits_ 8 (crc Z k ^^^ (Z k).toNat) := rfl
      have HQ := Lib.hid hq
      clear hq
      go_wp2_with fail
      generalize crc Z k ^^^ (Z k).toNat = s0 at *
      clear hx hc
      go_loop [3, 16] (fun u q => ∃ (j s : Nat), u = .int .u16 (s : Int) ∧ q = .int .i64 j ∧ j ≤ 8 ∧ s < 65536 ∧ Hid (bits_ (8 - j) s = bits_ 8 s0)) (fun _ q => 8 - (intOf q).toNat)
      case atStart => exact ⟨0, s0, rfl, rfl, by omega, hl2, Lib.hid rfl⟩
      case round =>
        obtain ⟨j, s, rfl, rfl, hj, hs, HS⟩ := hrel
        by_cases hj8 : j < 8
        · have HS' : Hid (bits_ (8 - (j + 1)) (bit s) = bits_ 8 s0) := Lib.hid (by rw [← HS.out, show 8 - j = (8 - (j + 1)) + 1 from by omega]; rfl)
          have hb' := bit_lt hs
          rcases Nat.mod_two_eq_zero_or_one s with h2 | h2
          · have e1 := even_bits hs h2
            have E := Lib.hid (even_step h2)
            clear h2
            go_wp2_with fail
            exact ⟨⟨j + 1, bit s, by rw [E.out], by go_num, by omega, hb', HS'⟩, by simp [intOf]; omega⟩
          · have e1 := odd_bits hs h2
            have E := Lib.hid (odd_step hs h2)
            clear h2
            go_wp2_with fail
            exact ⟨⟨j + 1, bit s, by rw [E.out], by go_num, by omega, hb', HS'⟩, by simp [intOf]; omega⟩
        · obtain rfl : j = 8 := by omega
          go_wp2_with fail
          exact ⟨⟨k + 1, by rw [HQ.out, ← HS.out]; rfl, by go_num, by omega⟩, by simp [intOf]; omega⟩
    · obtain rfl : k = n := by omega
      go_wp2_with fail
      go_ret
      exact ⟨rfl, rfl⟩

set_option maxHeartbeats 2000000 in
theorem rappend_any (a : Option Addr) (n c : Nat) (Z : Nat → Int) (w : World) (hn : n ≤ 140737488351232) (hZ : Row w a n (fun i => .int .u8 (Z i))) (hz : Byte Z) :
    Calls Try.prog 52 #[.slice a n c] w fun r w' => ∃ v, r = .returned v ∧ Mine w' w.heap.size 5 v (n + 2) (fun i => .int .u8 (app Z n i)) ∧ Below w.heap.size w w' := by
  obtain ⟨i0, hi0, hz0, hz1, hz2⟩ := info_parts info8
  have M := Lib.hid (show n + 2 ≤ maxLen by unfold maxLen; omega)
  have M' := Lib.hid (show n ≤ maxLen by unfold maxLen; omega)
  have hl := crc_lt hz n
  go_enter Try.func52, Try.ntmps52
  go_wp2_with fail
  refine (rsum_any _ _ _ Z _ M'.out hZ hz).mono ?_
  rintro r w' ⟨rfl, rfl⟩
  go_wp2_with (at_builtin; go_must (refine wp_app rfl (.const (.slice none 0 0)) (.tmp 6) _ rfl w.heap.size 5 i0 _ 1 Try.underlying33 hi0 hz0 hz1 hz2 rfl _ 0 (fun i => .int .u8 (app Z n i)) rfl (Mine.nil _ _ _ _) a n c (fun i => .int .u8 (Z i)) rfl hZ (fun _ _ => rfl) ?c1 ?c2 ?c3 ?_))
  case c1 => rw [Nat.zero_add]; exact M'.out
  case c2 => omega
  case c3 => exact Nat.le_refl _
  intro v2 w2 hv2 hg2
  have b2 : Below w.heap.size w w2 := (Below.refl _ _).grown hg2 (Nat.le_refl _) (fun k hk => by cases hk)
  have hv2' : Mine w2 w.heap.size 5 v2 n (fun i => .int .u8 (app Z n i)) := by
    have h9 : Mine w2 w.heap.size 5 v2 n (fun i => if i < 0 then Value.int .u8 (app Z n i) else Value.int .u8 (Z (i - 0))) := by
      rw [show n = 0 + n by omega]; first | exact hv2 | simpa using hv2
    exact h9.ext fun i hi => by rw [app_low hi]; simp
  clear hv2
  have hs := b2.size
  go_wp2_with (at_builtin; go_must (refine wp_app rfl (.tmp 7) (.tmp 13) _ rfl w.heap.size 5 i0 _ 1 Try.underlying33 hi0 hz0 hz1 hz2 rfl v2 n _ rfl (hv2'.alloc _) _ 2 _ (fun i => if i = 0 then .int .u8 ((crc Z n : Int) % 256) else .int .u8 ((crc Z n : Int) / 256)) rfl (two_row w2 _ _ _) (two_one _ _) M.out ?c2 ?c3 ?_))
  case c2 => omega
  case c3 => simp; omega
  intro v3 w3 hv3 hg3
  have b3 : Below w.heap.size w w3 := (b2.alloc hs _).grown hg3 (by simp; omega) (fun q hq => (hv2'.lt q hq).1)
  have hv3' : Mine w3 w.heap.size 5 v3 (n + 2) (fun i => .int .u8 (app Z n i)) := hv3.ext fun i hi => by
    by_cases h : i < n
    · simp only [h, if_true]
    · have e : ¬ i < n := h
      simp only [e, if_false]
      unfold app
      rw [if_neg e]
      by_cases h2 : i = n
      · subst h2; simp
      · have h3 : i - n ≠ 0 := by omega
        simp [h2, h3]
  clear hv3
  go_wp2_with fail
  go_ret
  exact ⟨_, rfl, hv3', b3⟩

theorem app_good {Z : Nat → Int} (hz : Byte Z) (m : Nat) : ((str (app Z m) (m + 2)).toList == (str Z (m + 2)).toList) = goodb Z (m + 2) := by
  rw [Bool.eq_iff_iff, goodb_iff hz m, beq_iff_eq]
  constructor
  · intro h
    have h' := (str_list_inj (app_byte hz m) hz h).2
    have e0 := h' m (by omega)
    have e1 := h' (m + 1) (by omega)
    unfold app at e0 e1
    simp at e0 e1
    constructor
    · rw [← e0]; simp
    · rw [← e1]; simp
  · rintro ⟨h0, h1⟩
    rw [str_congr (Z := app Z m) (Y := Z)]
    intro i hi
    unfold app
    by_cases h : i < m
    · rw [if_pos h]
    · rw [if_neg h]
      by_cases h2 : i = m
      · subst h2; rw [if_pos rfl, h0]
      · obtain rfl : i = m + 1 := by omega
        rw [if_neg h2, h1]

theorem rappend_conv (a : Option Addr) (m n c : Nat) (Z : Nat → Int) (w : World) (hn : n ≤ 140737488351232) (hmn : m ≤ n) (hZ : Row w a n (fun i => .int .u8 (Z i))) (hz : Byte Z) :
    Calls Try.prog 52 #[.slice a m c] w fun r w' => ∃ va vc, r = .returned (.slice va (m + 2) vc) ∧
      (convert 33 9 (.slice va (m + 2) vc)).run Try.prog w' = .ok (.string (str (app Z m) (m + 2))) w' ∧
      (∀ d, (convert 33 9 (.slice a n d)).run Try.prog w' = .ok (.string (str Z n)) w') ∧ Below w.heap.size w w' := by
  refine (rappend_any a m c Z w (by omega) (hZ.cut hmn) hz).mono ?_
  rintro r w2 ⟨v, rfl, hv, hb⟩
  obtain ⟨va, vc, rfl, hvc, hvm, hR⟩ := hv.row
  exact ⟨va, vc, rfl, conv_string (P := Try.prog) Try.underlying33 Try.underlying5 Try.underlying9 hR,
    fun d => conv_string (P := Try.prog) Try.underlying33 Try.underlying5 Try.underlying9 (Row.below hZ hb), hb⟩

set_option maxHeartbeats 4000000 in
theorem rgood_any (a : Option Addr) (n c : Nat) (Z : Nat → Int) (w : World) (hn : n ≤ 140737488351232) (hc : n ≤ c) (hm : c ≤ maxLen) (hZ : Row w a n (fun i => .int .u8 (Z i))) (hz : Byte Z) :
    Calls Try.prog 27 #[.slice a n c] w fun r w' => r = .returned (.bool (goodb Z n)) ∧ Below w.heap.size w w' := by
  unfold maxLen at hm
  by_cases h2 : n < 2
  · have hg : goodb Z n = false := by unfold goodb; simp; omega
    rcases (show n = 0 ∨ n = 1 by omega) with h | h
    all_goals
      subst h
      go_enter Try.func27, Try.ntmps27
      go_wp2_with fail
      go_quiet (fail)
      go_wp2_with fail
      go_ret
      exact ⟨by rw [hg]; rfl, below_drewN (Below.refl _ _) _⟩
  · obtain ⟨m, rfl⟩ := Nat.exists_eq_add_of_le' (show 2 ≤ n by omega)
    have E := Lib.hid (app_good hz m)
    have k0 := fun d => conv_string (P := Try.prog) (dst := 9) (c := d) Try.underlying33 Try.underlying5 Try.underlying9 (show Row w.drew a (m + 2) (fun i => .int .u8 (Z i)) from hZ)
    go_enter Try.func27, Try.ntmps27
    go_wp2_with fail
    go_region_with (go_at_call 52; refine (rappend_conv a m (m + 2) c Z _ hn (by omega) ?_ hz).mono ?_; (exact hZ); rintro r w2 ⟨va, vc, rfl, k1, k2, hb⟩)
    all_goals
      go_wp2_with fail
      go_ret
      exact ⟨by rw [← E.out]; rfl, (below_drewN (Below.refl _ w) 1).trans hb⟩

end Go.Proofs.Ytiflmdekcjbmbaa.Cr
