/-
  Package cell: what its laws share: a table of one slotframe, of one cell.
-/
import Derived.Test.YtdknacbdkekfnaaCeAwake
set_option maxRecDepth 100000
namespace Go.Proofs.Ytdknacbdkekfnaa.Ce
set_option linter.unusedVariables false
open Go.RowKit Lb Cl

theorem Turn.old {w w' : World} {base b : Nat} {N : Nat → Int} {l : List C} {v v' : Value} (j : Turn w w' b v v') (t : Tab w base b N l v) : Below base w w' :=
  j.below t.low (fun q e => (t.own q e).1) (by have := t.blk.lt; have := t.low; omega)
theorem may_in {c : C} (h : c.may = true) : 0 ≤ c.f ∧ c.f < 4 ∧ 0 ≤ c.s ∧ c.s < 200 := by
  unfold C.may mayC inB at h
  simp only [Bool.and_eq_true, decide_eq_true_eq] at h
  omega
theorem frB_in {f : Int} (h0 : 0 ≤ f) (h1 : f < 4) : frB f = true := by simp [frB, h0, h1]
theorem fr_empty {f n : Int} (h0 : 0 ≤ f) (h1 : f < 4) (h2 : 0 ≤ n) (h3 : n ≤ 200) : frE [] f n = 0 := by
  unfold frE
  rw [frB_in h0 h1]
  simp [h2, h3, longB]
theorem fr_one {c : C} {n : Int} (h0 : 0 ≤ c.f) (h1 : c.f < 4) (h2 : 0 ≤ n) (h3 : n ≤ 200) : frE [c] c.f n = if n ≤ c.s then 9 else 0 := by
  unfold frE
  rw [frB_in h0 h1]
  by_cases h : n ≤ c.s
  · simp [h2, h3, longB, h]
  · simp [h2, h3, longB, h]
theorem add_first {N : Nat → Int} {c : C} (h : c.may = true) : addE N [] c = if N c.f.toNat ≤ c.s then 6 else 0 := by
  unfold addE
  rw [h]
  simp [taken]
theorem addL_first {N : Nat → Int} {c : C} (h : addE N [] c = 0) : addL N [] c = [c] := by
  unfold addL
  rw [if_pos h]
  rfl
theorem frN_at {N : Nat → Int} {l : List C} {f n : Int} (h : frE l f n = 0) : frN N l f n f.toNat = n := by
  unfold frN
  rw [if_pos h]
  simp
theorem frN_no {N : Nat → Int} {l : List C} {f n : Int} (h : frE l f n ≠ 0) : frN N l f n = N := by
  unfold frN
  rw [if_neg h]
theorem lenOf_in {N : Nat → Int} {f : Int} (h0 : 0 ≤ f) (h1 : f < 4) : lenOf N f = N f.toNat := by
  unfold lenOf
  rw [frB_in h0 h1]
  rfl
end Go.Proofs.Ytdknacbdkekfnaa.Ce
