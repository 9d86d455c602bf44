/-
  Package bits (chapter 3): bits in bytes, and what a part of a number makes of the last byte.
-/
import Derived.Test.YtcpmnfoenpdaeaaBits
set_option maxRecDepth 100000
namespace Go.Proofs.Ytcpmnfoenpdaeaa.Bf
set_option linter.unusedVariables false
open Go.RowKit Lb

/-- The first 'bits' bits of B stand in n bytes; what fills the last byte is 0. -/
structure Str (n bits : Nat) (Z : Nat → Nat) (B : Nat → Bool) : Prop where
  lt : ∀ k, k < n → Z k < 256
  bit : ∀ k, k < n → ∀ i, i < 8 → (Z k).testBit (7 - i) = (decide (8 * k + i < bits) && B (8 * k + i))
theorem Str.room {n bits : Nat} {Z : Nat → Nat} {B : Nat → Bool} (h : Str n bits Z B) (hb : bits ≤ 8 * n) : Str (n + 1) bits (fun k => if k < n then Z k else 0) B where
  lt k hk := by
    by_cases h1 : k < n
    · simpa [h1] using h.lt k h1
    · simp [h1]
  bit k hk i hi := by
    by_cases h1 : k < n
    · simpa [h1] using h.bit k h1 i hi
    · have : ¬ 8 * k + i < bits := by omega
      simp [h1, this]
theorem Str.ext {n bits : Nat} {Z Z' : Nat → Nat} {B B' : Nat → Bool} (h : Str n bits Z B) (hZ : ∀ k, k < n → Z k = Z' k) (hB : ∀ p, p < bits → B p = B' p) : Str n bits Z' B' where
  lt k hk := by rw [← hZ k hk]; exact h.lt k hk
  bit k hk i hi := by
    rw [← hZ k hk, h.bit k hk i hi]
    by_cases h1 : 8 * k + i < bits
    · rw [hB _ h1]
    · simp [h1]
def part (N w t : Nat) : Nat := (N >>> w) % 256 &&& (2 ^ t - 1)
theorem part_bit (N w t m : Nat) (ht : t ≤ 8) : (part N w t).testBit m = (decide (m < t) && N.testBit (w + m)) := by
  unfold part
  rw [Nat.testBit_and, Nat.testBit_two_pow_sub_one, show (256 : Nat) = 2 ^ 8 from rfl, Nat.testBit_mod_two_pow, Nat.testBit_shiftRight]
  by_cases h : m < t
  · have : m < 8 := by omega
    simp [h, this]
  · simp [h]
theorem part_lt (N w t : Nat) : part N w t < 256 := Nat.lt_of_le_of_lt Nat.and_le_left (Nat.mod_lt _ (by decide))
/-- The next t bits come in. -/
theorem Str.step {n bits t N w : Nat} {Z : Nat → Nat} {B : Nat → Bool} (h : Str n bits Z B) (h0 : bits < 8 * n) (h1 : 8 * n ≤ bits + 8) (ht : 1 ≤ t) (ht2 : t ≤ 8 * n - bits) (hB : ∀ p, bits ≤ p → p < bits + t → B p = N.testBit (w + (bits + t - 1 - p))) :
    Str n (bits + t) (fun k => if k = n - 1 then Z k ||| part N w t <<< (8 * n - bits - t) % 256 else Z k) B where
  lt k hk := by
    by_cases e : k = n - 1
    · rw [if_pos e]
      exact Nat.or_lt_two_pow (n := 8) (h.lt k hk) (Nat.mod_lt _ (by decide))
    · rw [if_neg e]
      exact h.lt k hk
  bit k hk i hi := by
    by_cases e : k = n - 1
    · rw [if_pos e, Nat.testBit_or, h.bit k hk i hi, show (256 : Nat) = 2 ^ 8 from rfl, Nat.testBit_mod_two_pow, Nat.testBit_shiftLeft, part_bit _ _ _ _ (by omega)]
      generalize hp : 8 * k + i = p
      have g0 : 7 - i < 8 := by omega
      by_cases p1 : p < bits
      · have : ¬ 7 - i - (8 * n - bits - t) < t := by omega
        have p2 : p < bits + t := by omega
        simp [p1, p2, this]
      · by_cases p2 : p < bits + t
        · have q1 : 7 - i ≥ 8 * n - bits - t := by omega
          have q2 : 7 - i - (8 * n - bits - t) < t := by omega
          rw [hB p (by omega) p2, show bits + t - 1 - p = 7 - i - (8 * n - bits - t) from by omega]
          simp [p1, p2, q1, q2, g0]
        · have q1 : ¬ 7 - i ≥ 8 * n - bits - t := by omega
          simp [p1, p2, q1]
    · rw [if_neg e, h.bit k hk i hi]
      have p1 : 8 * k + i < bits := by omega
      have p2 : 8 * k + i < bits + t := by omega
      simp [p1, p2]
theorem eq_byte {z y : Nat} (hz : z < 256) (hy : y < 256) (h : ∀ i, i < 8 → z.testBit (7 - i) = y.testBit (7 - i)) : z = y := by
  apply Nat.eq_of_testBit_eq
  intro j
  by_cases hj : j < 8
  · have := h (7 - j) (by omega)
    rw [show 7 - (7 - j) = j from by omega] at this
    exact this
  · rw [Nat.testBit_lt_two_pow (Nat.lt_of_lt_of_le (show z < 2 ^ 8 from hz) (Nat.pow_le_pow_right (by decide) (by omega))), Nat.testBit_lt_two_pow (Nat.lt_of_lt_of_le (show y < 2 ^ 8 from hy) (Nat.pow_le_pow_right (by decide) (by omega)))]
/-- What stands behind a number's width bits. -/
def app (B : Nat → Bool) (bits N w : Nat) (p : Nat) : Bool := if p < bits then B p else N.testBit (w - 1 - (p - bits))
end Go.Proofs.Ytcpmnfoenpdaeaa.Bf
