/-
  Trees: who stands where in the order by rank; a path is that of the first parent, and the node.
-/
import Derived.Test.YthdgnnjnkeljmaaTrFallM
set_option maxRecDepth 100000
namespace Go.Proofs.Ythdgnnjnkeljmaa.Tr
set_option linter.unusedVariables false
open Go.RowKit Lb Tp

theorem ordT_pair (R : Rk) : (ordT R).Pairwise fun x y => rkI R x < rkI R y ∨ (rkI R x = rkI R y ∧ x < y) := by
  rw [← ordF_val, List.pairwise_map]
  refine (ordF_pair R).imp ?_
  intro x y h
  unfold ltR at h
  simpa using h
theorem ordT_at {R : Rk} (hs : ∀ x s, R x = some s → s ≤ 15) {i : Nat} (hi : i < (ordT R).length) : (ordT R).getD i 0 < 16 ∧ ∃ r, R ((ordT R).getD i 0) = some r := by
  have hm : (ordT R).getD i 0 ∈ ordT R := by
    rw [List.getD_eq_getElem?_getD, List.getElem?_eq_getElem hi]
    exact List.getElem_mem hi
  rw [← ordF_val] at hm
  obtain ⟨x, hx, he⟩ := List.mem_map.1 hm
  rw [ordF_val] at he
  rw [← he]
  exact ⟨x.isLt, Option.isSome_iff_exists.1 ((mem_ordF hs x).1 hx)⟩
theorem ordT_lt (R : Rk) {i j : Nat} (hij : i < j) (hj : j < (ordT R).length) : rkI R ((ordT R).getD i 0) ≤ rkI R ((ordT R).getD j 0) ∧ (ordT R).getD i 0 ≠ (ordT R).getD j 0 := by
  have h := (List.pairwise_iff_getElem.1 (ordT_pair R)) i j (by omega) hj hij
  rw [List.getD_eq_getElem?_getD, List.getD_eq_getElem?_getD, List.getElem?_eq_getElem hj, List.getElem?_eq_getElem (by omega)]
  simp only [Option.getD_some]
  rcases h with h | ⟨h, h2⟩
  · exact ⟨by omega, fun e => by rw [e] at h; omega⟩
  · exact ⟨by omega, by omega⟩
theorem ordT_all {R : Rk} (hs : ∀ x s, R x = some s → s ≤ 15) {x r : Nat} (hx : x < 16) (h : R x = some r) : x ∈ ordT R := by
  rw [← ordF_val]
  exact List.mem_map.2 ⟨⟨x, hx⟩, (mem_ordF hs _).2 (by show (R x).isSome = true; rw [h]; rfl), rfl⟩
/-- Who was told among the first k. -/
def toldK (R : Rk) (k : Nat) (x : Nat) : Bool := ((ordT R).take k).contains x
theorem toldK_zero (R : Rk) (x : Nat) : toldK R 0 x = false := by simp [toldK]
theorem toldK_next (R : Rk) {k : Nat} (hk : k < (ordT R).length) (x : Nat) : toldK R (k + 1) x = if x = (ordT R).getD k 0 then true else toldK R k x := by
  unfold toldK
  rw [List.take_add_one, List.getElem?_eq_getElem hk, List.getD_eq_getElem?_getD, List.getElem?_eq_getElem hk]
  simp only [Option.toList_some, Option.getD_some, List.contains_eq_mem, List.mem_append, List.mem_singleton]
  by_cases h : x = (ordT R)[k] <;> simp [h]
theorem toldK_new (R : Rk) {k : Nat} (hk : k < (ordT R).length) : toldK R k ((ordT R).getD k 0) = false := by
  unfold toldK
  rw [List.contains_eq_mem, decide_eq_false_iff_not]
  intro h
  obtain ⟨i, hi, e⟩ := List.getElem_of_mem h
  rw [List.length_take] at hi
  have := (ordT_lt R (i := i) (j := k) (by omega) hk).2
  rw [List.getElem_take] at e
  rw [List.getD_eq_getElem?_getD, List.getElem?_eq_getElem (by omega), Option.getD_some] at this
  exact this e
theorem toldK_root {R : Rk} (hs : ∀ x s, R x = some s → s ≤ 15) (h : R 0 = some 0) : toldK R (ordT R).length 0 = true := by
  unfold toldK
  rw [List.take_length, List.contains_eq_mem, decide_eq_true_eq]
  exact ordT_all hs (by decide) h
/-- The rank of the last one told. -/
def lastK (R : Rk) : Nat → Int
  | 0 => 0
  | k + 1 => rkI R ((ordT R).getD k 0)
theorem lastK_le {R : Rk} : ∀ {k : Nat}, k < (ordT R).length → lastK R k ≤ rkI R ((ordT R).getD k 0)
  | 0, _ => by
    show (0 : Int) ≤ rkI R _
    unfold rkI
    omega
  | k + 1, h => (ordT_lt R (Nat.lt_succ_self k) h).1
theorem anc_shift (P : Nat → List Nat) (n : Nat) : ∀ k, anc P n (k + 1) = anc P ((P n).headD 0) k
  | 0 => rfl
  | k + 1 => by
    rw [anc, anc_shift P n k]
    rfl
theorem path_snoc {R : Rk} {P : Nat → List Nat} {n p r : Nat} {l : List Nat} (hn : n < 16) (hp : p < 16) (h1 : R n = some (r + 1)) (h2 : R p = some r) (h3 : P n = p :: l) :
    pathsT R P (n : Int) = pathsT R P (p : Int) ++ [n] := by
  rw [pathsT_nat hn h1, pathsT_nat hp h2, List.range_succ (n := r + 1), List.map_append]
  congr 1
  · apply List.map_congr_left
    intro j hj
    have := List.mem_range.1 hj
    rw [show r + 1 - j = (r - j) + 1 by omega, anc_shift, h3]
    rfl
  · simp [anc]
theorem path_len {R : Rk} {P : Nat → List Nat} {n r : Nat} (hn : n < 16) (h1 : R n = some r) : (pathsT R P (n : Int)).length = r + 1 := by
  rw [pathsT_nat hn h1]
  simp
end Go.Proofs.Ythdgnnjnkeljmaa.Tr
