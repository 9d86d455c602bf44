/-
  The sum of chapter 2 as plain mathematics: one bit, one byte, a row; it is linear and loses nothing; what ends with its own sum sums up to 0.
-/
import GoSem.Core.Value
namespace Go.Proofs.Ytoconkgemakboaa.Cr
set_option linter.unusedVariables false

/-- One bit goes. -/
def bit (s : Nat) : Nat := if s % 2 = 1 then (s / 2) ^^^ 33800 else s / 2
def bits_ : Nat → Nat → Nat
  | 0, s => s
  | k + 1, s => bits_ k (bit s)
/-- Eight bits go. -/
def oct (s : Nat) : Nat := bits_ 8 s
/-- The sum of the first k bytes of Z. -/
def crc (Z : Nat → Int) : Nat → Nat
  | 0 => 0
  | k + 1 => oct (crc Z k ^^^ (Z k).toNat)

theorem bit_lt {s : Nat} (h : s < 65536) : bit s < 65536 := by
  unfold bit
  split
  · exact Nat.xor_lt_two_pow (n := 16) (by omega) (by omega)
  · omega
theorem bits_lt : ∀ (k : Nat) {s : Nat}, s < 65536 → bits_ k s < 65536
  | 0, _, h => h
  | k + 1, _, h => bits_lt k (bit_lt h)
theorem oct_lt {s : Nat} (h : s < 65536) : oct s < 65536 := bits_lt 8 h
theorem xor_lt {a b : Nat} (ha : a < 65536) (hb : b < 65536) : a ^^^ b < 65536 := Nat.xor_lt_two_pow (n := 16) ha hb
def Byte (Z : Nat → Int) : Prop := ∀ i, 0 ≤ Z i ∧ Z i < 256
theorem crc_lt {Z : Nat → Int} (hz : Byte Z) : ∀ k, crc Z k < 65536
  | 0 => by simp [crc]
  | k + 1 => oct_lt (xor_lt (crc_lt hz k) (by have := hz k; omega))

theorem xor_mod2 (a b : Nat) : (a ^^^ b) % 2 = (a % 2) ^^^ (b % 2) := by
  have := Nat.xor_mod_two_pow (a := a) (b := b) (n := 1)
  simpa using this
theorem xor_half (a b : Nat) : (a ^^^ b) / 2 = (a / 2) ^^^ (b / 2) := by
  have := Nat.xor_div_two_pow (a := a) (b := b) (n := 1)
  simpa using this
theorem bit_xor (a b : Nat) : bit (a ^^^ b) = bit a ^^^ bit b := by
  unfold bit
  rw [xor_mod2, xor_half]
  rcases Nat.mod_two_eq_zero_or_one a with ha | ha <;> rcases Nat.mod_two_eq_zero_or_one b with hb | hb <;> simp [ha, hb]
  · ac_rfl
  · ac_rfl
  · rw [show (a / 2 ^^^ 33800 ^^^ (b / 2 ^^^ 33800)) = (a / 2 ^^^ b / 2) ^^^ (33800 ^^^ 33800) by ac_rfl]
    simp
theorem bits_xor : ∀ (k a b : Nat), bits_ k (a ^^^ b) = bits_ k a ^^^ bits_ k b
  | 0, _, _ => rfl
  | k + 1, a, b => by rw [bits_, bits_, bits_, bit_xor, bits_xor k]
theorem oct_xor (a b : Nat) : oct (a ^^^ b) = oct a ^^^ oct b := bits_xor 8 a b
theorem eq_of_xor {a b : Nat} (h : a ^^^ b = 0) : a = b := by
  have := congrArg (· ^^^ b) h
  simpa [Nat.xor_assoc] using this
theorem bit_zero {s : Nat} (h : s < 65536) (h0 : bit s = 0) : s = 0 := by
  unfold bit at h0
  split at h0
  · have := eq_of_xor h0
    omega
  · omega
theorem bits_zero : ∀ (k : Nat) {s : Nat}, s < 65536 → bits_ k s = 0 → s = 0
  | 0, _, _, h => h
  | k + 1, _, hs, h => bit_zero hs (bits_zero k (bit_lt hs) h)
theorem oct_zero {s : Nat} (h : s < 65536) (h0 : oct s = 0) : s = 0 := bits_zero 8 h h0
theorem oct_inj {a b : Nat} (ha : a < 65536) (hb : b < 65536) (h : oct a = oct b) : a = b :=
  eq_of_xor (oct_zero (xor_lt ha hb) (by rw [oct_xor, h, Nat.xor_self]))
theorem oct_none : oct 0 = 0 := by decide
theorem bit_even (m : Nat) : bit (2 * m) = m := by
  unfold bit
  rw [if_neg (by omega)]
  omega
theorem oct_high (h : Nat) : oct (256 * h) = h := by
  have e : 256 * h = 2 * (2 * (2 * (2 * (2 * (2 * (2 * (2 * h))))))) := by omega
  rw [e]
  simp only [oct, bits_, bit_even]
theorem low_gone (s : Nat) : s ^^^ (s % 256) = 256 * (s / 256) := by
  have h1 := Nat.xor_mod_two_pow (a := s) (b := s % 256) (n := 8)
  have h2 := Nat.xor_div_two_pow (a := s) (b := s % 256) (n := 8)
  have e : s % 256 / 256 = 0 := by omega
  simp [e] at h1 h2
  omega
/-- What ends with its own sum, the low byte first, sums up to 0; and nothing else does. -/
theorem sum_zero {s p q : Nat} (hs : s < 65536) (hp : p < 256) (hq : q < 256) : oct (oct (s ^^^ p) ^^^ q) = 0 ↔ p = s % 256 ∧ q = s / 256 := by
  constructor
  · intro h
    have h1 := oct_zero (xor_lt (oct_lt (xor_lt hs (by omega))) (by omega)) h
    have h2 := eq_of_xor h1
    rw [← oct_high q] at h2
    have h3 := oct_inj (xor_lt hs (by omega)) (by omega) h2
    have h4 := congrArg (· % 256) h3
    have h5 := congrArg (· / 256) h3
    have e1 := Nat.xor_mod_two_pow (a := s) (b := p) (n := 8)
    have e2 := Nat.xor_div_two_pow (a := s) (b := p) (n := 8)
    have e3 : p / 256 = 0 := by omega
    have e4 : p % 256 = p := by omega
    simp only [show (2 : Nat) ^ 8 = 256 from rfl, e3, e4, Nat.xor_zero] at e1 e2
    rw [e1] at h4
    rw [e2] at h5
    have h6 := eq_of_xor (show s % 256 ^^^ p = 0 by omega)
    exact ⟨h6.symm, by omega⟩
  · rintro ⟨rfl, rfl⟩
    rw [low_gone, oct_high, Nat.xor_self, oct_none]

theorem crc_same {Z Y : Nat → Int} : ∀ k, (∀ i, i < k → Z i = Y i) → crc Z k = crc Y k
  | 0, _ => rfl
  | k + 1, h => by rw [crc, crc, crc_same k (fun i hi => h i (by omega)), h k (by omega)]
theorem crc_zero {Z : Nat → Int} : ∀ k, (∀ i, i < k → Z i = 0) → crc Z k = 0
  | 0, _ => rfl
  | k + 1, h => by rw [crc, crc_zero k (fun i hi => h i (by omega)), h k (by omega)]; decide
theorem crc_xor3 {A B C D : Nat → Int} : ∀ k, (∀ i, i < k → (D i).toNat = (A i).toNat ^^^ (B i).toNat ^^^ (C i).toNat) → crc D k = crc A k ^^^ crc B k ^^^ crc C k
  | 0, _ => by simp [crc]
  | k + 1, h => by
    rw [crc, crc, crc, crc, crc_xor3 k (fun i hi => h i (by omega)), h k (by omega), ← oct_xor, ← oct_xor]
    congr 1
    ac_rfl
/-- The sum goes on from the sum ahead. -/
def more (s : Nat) (Z : Nat → Int) : Nat → Nat
  | 0 => s
  | k + 1 => oct (more s Z k ^^^ (Z k).toNat)
theorem crc_more {Z : Nat → Int} (n : Nat) : ∀ k, crc Z (n + k) = more (crc Z n) (fun i => Z (n + i)) k
  | 0 => rfl
  | k + 1 => by rw [← Nat.add_assoc, crc, crc_more n k, more]
theorem more_same {Z Y : Nat → Int} (s : Nat) : ∀ k, (∀ i, i < k → Z i = Y i) → more s Z k = more s Y k
  | 0, _ => rfl
  | k + 1, h => by rw [more, more, more_same s k (fun i hi => h i (by omega)), h k (by omega)]
theorem more_lt {Z : Nat → Int} (hz : Byte Z) {s : Nat} (hs : s < 65536) : ∀ k, more s Z k < 65536
  | 0 => hs
  | k + 1 => oct_lt (xor_lt (more_lt hz hs k) (by have := hz k; omega))
theorem more_inj {Z : Nat → Int} (hz : Byte Z) {s t : Nat} (hs : s < 65536) (ht : t < 65536) : ∀ k, more s Z k = more t Z k → s = t
  | 0, h => h
  | k + 1, h => more_inj hz hs ht k (by
    have e := oct_inj (xor_lt (more_lt hz hs k) (by have := hz k; omega)) (xor_lt (more_lt hz ht k) (by have := hz k; omega)) h
    have := congrArg (· ^^^ (Z k).toNat) e
    simpa [Nat.xor_assoc] using this)
theorem more_zero {Z : Nat → Int} : ∀ k, crc Z k = more 0 Z k
  | 0 => rfl
  | k + 1 => by rw [crc, more, more_zero k]
theorem high_of : ∀ x, x < 256 → 0 < x → 256 ≤ oct x := by decide +kernel
/-- A change within two bytes side by side turns the sum. -/
theorem crc_tells {Z Y : Nat → Int} (hz : Byte Z) (hy : Byte Y) (at_ k x y : Nat) (hx : x < 256) (hy2 : y < 256) (hxy : ¬ (x = 0 ∧ y = 0)) (hk : at_ + 2 ≤ k)
    (h0 : (Y at_).toNat = (Z at_).toNat ^^^ x) (h1 : (Y (at_ + 1)).toNat = (Z (at_ + 1)).toNat ^^^ y) (hs : ∀ i, i < k → i ≠ at_ → i ≠ at_ + 1 → Y i = Z i) : crc Y k ≠ crc Z k := by
  intro h
  obtain ⟨m, rfl⟩ := Nat.exists_eq_add_of_le hk
  rw [crc_more (Z := Y) (at_ + 2) m, crc_more (Z := Z) (at_ + 2) m, more_same _ m (fun i hi => hs (at_ + 2 + i) (by omega) (by omega) (by omega))] at h
  have e := more_inj (Z := fun i => Z (at_ + 2 + i)) (fun i => hz _) (crc_lt hy _) (crc_lt hz _) m h
  have e1 : crc Y (at_ + 2) = oct (oct (crc Z at_ ^^^ ((Z at_).toNat ^^^ x)) ^^^ ((Z (at_ + 1)).toNat ^^^ y)) := by
    rw [crc, crc, crc_same at_ (fun i hi => hs i (by omega) (by omega) (by omega)), h0, h1]
  have e2 : crc Z (at_ + 2) = oct (oct (crc Z at_ ^^^ (Z at_).toNat) ^^^ (Z (at_ + 1)).toNat) := by rw [crc, crc]
  rw [e1, e2] at e
  have b0 : (Z at_).toNat < 65536 := by have := hz at_; omega
  have b1 : (Z (at_ + 1)).toNat < 65536 := by have := hz (at_ + 1); omega
  have c0 := crc_lt hz at_
  have i1 := oct_inj (xor_lt (oct_lt (xor_lt c0 (xor_lt b0 (by omega)))) (xor_lt b1 (by omega))) (xor_lt (oct_lt (xor_lt c0 b0)) b1) e
  rw [show crc Z at_ ^^^ ((Z at_).toNat ^^^ x) = (crc Z at_ ^^^ (Z at_).toNat) ^^^ x from (Nat.xor_assoc _ _ _).symm, oct_xor _ x] at i1
  have i2 : oct x ^^^ y = 0 := by
    generalize oct (crc Z at_ ^^^ (Z at_).toNat) = S at *
    generalize (Z (at_ + 1)).toNat = q at *
    have := congrArg (· ^^^ (S ^^^ q)) i1
    rw [Nat.xor_self, show S ^^^ oct x ^^^ (q ^^^ y) ^^^ (S ^^^ q) = (S ^^^ S) ^^^ (q ^^^ q) ^^^ (oct x ^^^ y) by ac_rfl] at this
    simpa using this
  have i3 := eq_of_xor i2
  by_cases hx0 : x = 0
  · subst hx0
    rw [oct_none] at i3
    exact hxy ⟨rfl, i3.symm⟩
  · have := high_of x hx (by omega)
    omega
end Go.Proofs.Ytoconkgemakboaa.Cr
