/-
  Trees (chapter 21): whom a node may follow, who stands in order, where the ranks alone are asked for.
-/
import Derived.Test.YtahcplddonipcaaGreatTrOrder
import Derived.Test.YtahcplddonipcaaGreatTrAwake
set_option maxRecDepth 100000
namespace Go.Proofs.YtahcplddonipcaaGreat.Tr
set_option linter.unusedVariables false
set_option linter.unusedSimpArgs false
open Go.RowKit Lb Tp Go.Sort

theorem ordT_at {R : Rk} (hs : ∀ x s, R x = some s → s ≤ 15) {i : Nat} (hi : i < (ordT R).length) : (ordT R).getD i 0 < 16 ∧ ∃ r, R ((ordT R).getD i 0) = some r := by
  have hm : (ordT R).getD i 0 ∈ ordT R := by
    rw [List.getD_eq_getElem?_getD, List.getElem?_eq_getElem hi]
    exact List.getElem_mem hi
  rw [← ordF_val] at hm
  obtain ⟨x, hx, he⟩ := List.mem_map.1 hm
  rw [ordF_val] at he
  rw [← he]
  exact ⟨x.isLt, Option.isSome_iff_exists.1 ((mem_ordF hs x).1 hx)⟩
theorem parsT_nat {R : Rk} {P : Nat → List Nat} {x r : Nat} (hx : x < 16) (h : R x = some r) : parsT R P (x : Int) = P x := by
  unfold parsT
  rw [hasT_nat R hx, h]
  exact if_pos rfl
end Go.Proofs.YtahcplddonipcaaGreat.Tr
