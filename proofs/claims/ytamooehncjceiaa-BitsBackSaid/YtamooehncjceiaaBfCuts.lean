/-
  Package bits (chapter 3): a number by two widths is the number by one.
-/
import Derived.Test.YtamooehncjceiaaBfRead
set_option maxRecDepth 100000
namespace Go.Proofs.Ytamooehncjceiaa.Bf
set_option linter.unusedVariables false
open Go.RowKit Lb

/-- The same bits stand in the same bytes. -/
theorem Str.uniq {n m bits : Nat} {Z Y : Nat → Nat} {B C : Nat → Bool} (h : Str n bits Z B) (g : Str m bits Y C) (hn : bits ≤ 8 * n) (hn2 : 8 * n < bits + 8) (hm : bits ≤ 8 * m) (hm2 : 8 * m < bits + 8) (he : ∀ p, p < bits → B p = C p) : n = m ∧ ∀ k, k < n → Z k = Y k := by
  obtain rfl : n = m := by omega
  refine ⟨rfl, fun k hk => eq_byte (h.lt k hk) (g.lt k hk) fun i hi => ?_⟩
  rw [h.bit k hk i hi, g.bit k hk i hi]
  by_cases hp : 8 * k + i < bits
  · rw [he _ hp]
  · simp [hp]
/-- Cut in two: the beginning, then the end. -/
theorem app_cut (B : Nat → Bool) (b N w c p : Nat) (hc : c ≤ w) (hp : p < b + w) : app (app B b (N >>> (w - c)) c) (b + c) N (w - c) p = app B b N w p := by
  unfold app
  by_cases h1 : p < b
  · rw [if_pos (by omega), if_pos h1, if_pos h1]
  · by_cases h2 : p < b + c
    · rw [if_pos h2, if_neg h1, if_neg h1, Nat.testBit_shiftRight]
      congr 1
      omega
    · rw [if_neg h2, if_neg h1]
      congr 1
      omega
/-- The bits that were put are the number. -/
theorem num_app (B C : Nat → Bool) (b N w : Nat) (h : ∀ p, b ≤ p → p < b + w → C p = app B b N w p) : Num (N % 2 ^ w) w C b where
  lt := Nat.mod_lt _ (Nat.two_pow_pos _)
  bit j hj := by
    rw [h _ (by omega) (by omega), Nat.testBit_mod_two_pow]
    unfold app
    rw [if_neg (by omega)]
    simp [hj]
    congr 1
    omega
/-- A number, then another one behind it. -/
theorem Num.both {x y k l p : Nat} {B : Nat → Bool} (h : Num x k B p) (g : Num y l B (p + k)) : Num (x <<< l ||| y) (k + l) B p where
  lt := by
    refine Nat.or_lt_two_pow ?_ ?_
    · rw [Nat.shiftLeft_eq, Nat.pow_add]
      exact (Nat.mul_lt_mul_right (Nat.two_pow_pos l)).2 h.lt
    · exact Nat.lt_of_lt_of_le g.lt (Nat.pow_le_pow_right (by decide) (by omega))
  bit j hj := by
    rw [Nat.testBit_or, Nat.testBit_shiftLeft]
    by_cases h1 : j < l
    · have h2 : ¬ j ≥ l := by omega
      rw [g.bit j h1, show p + k + (l - 1 - j) = p + (k + l - 1 - j) from by omega]
      simp [h2]
    · have h2 : j ≥ l := by omega
      rw [h.bit (j - l) (by omega), Nat.testBit_lt_two_pow (Nat.lt_of_lt_of_le g.lt (Nat.pow_le_pow_right (by decide) h2)), show k - 1 - (j - l) = k + l - 1 - j from by omega]
      simp [h2]
end Go.Proofs.Ytamooehncjceiaa.Bf
