/-
  Shifts by what is not known, and single bits, over natural numbers.
-/
import Derived.Test.YtcpmnfoenpdaeaaLib
import Derived.Laws.BitsAllLaws
import Derived.Laws.Bits64
namespace Go.Proofs.Ytcpmnfoenpdaeaa.Lb
set_option linter.unusedVariables false
open Go.RowKit

theorem shl_min (B s d : Nat) : s * 2 ^ min d B % 2 ^ B = s <<< d % 2 ^ B := by
  rw [Nat.shiftLeft_eq]
  by_cases h : d ≤ B
  · rw [Nat.min_eq_left h]
  · rw [Nat.min_eq_right (by omega), Nat.mul_mod_left, show d = (d - B) + B from by omega, Nat.pow_add, ← Nat.mul_assoc, Nat.mul_mod_left]
theorem shr_min (B s d : Nat) (h : s < 2 ^ B) : s / 2 ^ min d B = s >>> d := by
  rw [Nat.shiftRight_eq_div_pow]
  by_cases hd : d ≤ B
  · rw [Nat.min_eq_left hd]
  · rw [Nat.min_eq_right (by omega), Nat.div_eq_of_lt h, Nat.div_eq_of_lt]
    exact Nat.lt_of_lt_of_le h (Nat.pow_le_pow_right (by decide) (by omega))

theorem wrap_nat (k : IntKind) (hk : k.signed = false) (x : Nat) : k.wrap (x : Int) = ((x % 2 ^ k.bits : Nat) : Int) := by
  unfold IntKind.wrap
  simp [hk]
theorem run_shl (P : Program) (k yk : IntKind) (hk : k.signed = false) (s : Nat) (d : Int) (hd : 0 ≤ d) (w : World) :
    Sem.run P (Op.shift .shl k (s : Int) yk d) w = .ok (.int k ((s <<< d.toNat % 2 ^ k.bits : Nat) : Int)) w := by
  have e : ¬ d < 0 := by omega
  have e1 : (s : Int) * 2 ^ min d.toNat k.bits = ((s * 2 ^ min d.toNat k.bits : Nat) : Int) := by simp
  unfold Op.shift
  rw [if_neg e]
  simp only [e1, wrap_nat k hk, shl_min]
  rfl
theorem run_shr (P : Program) (k yk : IntKind) (s : Nat) (hs : s < 2 ^ k.bits) (d : Int) (hd : 0 ≤ d) (w : World) :
    Sem.run P (Op.shift .shr k (s : Int) yk d) w = .ok (.int k ((s >>> d.toNat : Nat) : Int)) w := by
  have e : ¬ d < 0 := by omega
  have e1 : (s : Int).fdiv (2 ^ min d.toNat k.bits) = ((s >>> d.toNat : Nat) : Int) := by
    rw [← shr_min k.bits s d.toNat hs, Int.fdiv_eq_ediv_of_nonneg _ (Int.le_of_lt (Int.pow_pos (by decide)))]
    simp
  unfold Op.shift
  rw [if_neg e]
  simp only [e1]
  rfl
theorem and_one (s : Nat) : s &&& 1 = s % 2 := by
  exact Nat.and_one_is_mod s
/-- Is bit d of s set? -/
theorem shr_and_one (s d : Nat) : (s >>> d) &&& 1 = if s.testBit d then 1 else 0 := by
  rw [Nat.and_one_is_mod, Nat.testBit_eq_decide_div_mod_eq, Nat.shiftRight_eq_div_pow]
  have h2 : s / 2 ^ d % 2 = 0 ∨ s / 2 ^ d % 2 = 1 := by omega
  rcases h2 with h2 | h2 <;> simp [h2]
end Go.Proofs.Ytcpmnfoenpdaeaa.Lb
