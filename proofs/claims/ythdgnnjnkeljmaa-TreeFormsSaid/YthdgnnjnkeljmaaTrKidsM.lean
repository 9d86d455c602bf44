/-
  Who is whose child: each that has a rank, but the root, is one child of one.
-/
import Derived.Test.YthdgnnjnkeljmaaTrFallM
import Derived.Test.YthdgnnjnkeljmaaTrKids
set_option maxRecDepth 100000
namespace Go.Proofs.Ythdgnnjnkeljmaa.Tr
set_option linter.unusedVariables false
open Go.RowKit Lb Tp

section
variable {N : Nat} {Q : Nat → Nat → Int} {least : Int} {R : Rk}
theorem Grown.kid (h : Grown N Q least R) {k c : Nat} (hb : kidB (parT N Q least R) k c = true) : ∃ l r, parT N Q least R c = k :: l ∧ R c = some (r + 1) ∧ R k = some r ∧ k < N := by
  unfold kidB at hb
  cases hp : parT N Q least R c with
  | nil => rw [hp] at hb; cases hb
  | cons p l =>
    rw [hp] at hb
    have e : (p : Int) = (k : Int) := by simpa using hb
    have e : p = k := by omega
    subst e
    obtain ⟨r, h1, h2, h3, h4⟩ := mem_parT h.fin (n := c) (x := p) (by rw [hp]; simp)
    exact ⟨l, r, rfl, h1, h2, h4⟩
theorem Grown.kids_eq (h : Grown N Q least R) (k : Nat) (hk : k < 16) : kidsT R (parT N Q least R) (k : Int) = kidK (parT N Q least R) k 16 := by
  unfold kidsT
  rw [hasT_nat R hk]
  cases hR : R k with
  | some r => rfl
  | none =>
    symm
    show kidK (parT N Q least R) k 16 = []
    unfold kidK
    rw [List.filter_eq_nil_iff]
    intro c _ hb
    obtain ⟨l, r, _, _, h3, _⟩ := h.kid hb
    rw [hR] at h3
    cases h3
theorem Grown.kid_at (h : Grown N Q least R) {k i : Nat} (hi : i < (kidK (parT N Q least R) k 16).length) :
    (kidK (parT N Q least R) k 16).getD i 0 < 16 ∧ ∃ l r, parT N Q least R ((kidK (parT N Q least R) k 16).getD i 0) = k :: l ∧ R ((kidK (parT N Q least R) k 16).getD i 0) = some (r + 1) := by
  have hm : (kidK (parT N Q least R) k 16).getD i 0 ∈ kidK (parT N Q least R) k 16 := by
    rw [List.getD_eq_getElem?_getD, List.getElem?_eq_getElem hi]
    exact List.getElem_mem hi
  unfold kidK at hm ⊢
  obtain ⟨h1, h2⟩ := List.mem_filter.1 hm
  obtain ⟨l, r, h3, h4, _⟩ := h.kid h2
  exact ⟨List.mem_range.1 h1, l, r, h3, h4⟩
end
theorem kidK_asc (P : Nat → List Nat) (n : Int) (i : Nat) (hi : i + 1 < (kidK P n 16).length) : (kidK P n 16).getD i 0 < (kidK P n 16).getD (i + 1) 0 := by
  have hp : (kidK P n 16).Pairwise (· < ·) := by
    unfold kidK
    exact List.pairwise_lt_range.filter _
  rw [List.pairwise_iff_getElem] at hp
  have := hp i (i + 1) (by omega) hi (by omega)
  rw [List.getD_eq_getElem?_getD, List.getD_eq_getElem?_getD, List.getElem?_eq_getElem hi, List.getElem?_eq_getElem (by omega : i < _)]
  exact this
/-- All whose first parent is below k. -/
def kidU (P : Nat → List Nat) (k c : Nat) : Bool := match P c with
  | p :: _ => decide (p < k)
  | [] => false
def cntK (P : Nat → List Nat) (k : Nat) : Nat := (List.range 16).countP (kidU P k)
theorem countP_add {p q r : Nat → Bool} : ∀ (l : List Nat), (∀ x ∈ l, (r x = true ↔ p x = true ∨ q x = true) ∧ ¬ (p x = true ∧ q x = true)) → l.countP r = l.countP p + l.countP q
  | [], _ => rfl
  | x :: l, h => by
    have ih := countP_add l (fun y hy => h y (by simp [hy]))
    obtain ⟨h1, h2⟩ := h x (by simp)
    rw [List.countP_cons, List.countP_cons, List.countP_cons, ih]
    cases hp : p x <;> cases hq : q x <;> cases hr : r x <;> simp_all <;> omega
theorem cntK_next (P : Nat → List Nat) (k : Nat) : cntK P (k + 1) = cntK P k + (kidK P k 16).length := by
  unfold cntK kidK
  rw [← List.countP_eq_length_filter]
  refine countP_add _ (fun c _ => ?_)
  unfold kidU kidB
  cases P c with
  | nil => simp
  | cons p l =>
    simp
    omega
theorem cntK_zero (P : Nat → List Nat) : cntK P 0 = 0 := by
  unfold cntK
  rw [List.countP_eq_zero]
  intro c _
  unfold kidU
  cases P c <;> simp
theorem cntK_le (P : Nat → List Nat) (k : Nat) : cntK P k ≤ 16 := by
  unfold cntK
  refine Nat.le_trans List.countP_le_length ?_
  simp
theorem Grown.cnt {N : Nat} {Q : Nat → Nat → Int} {least : Int} {R : Rk} (h : Grown N Q least R) : cntK (parT N Q least R) N + 1 = (ordT R).length := by
  rw [ordT_len h.small]
  unfold cntK rkK
  rw [← List.countP_eq_length_filter]
  have e : (List.range 16).countP (fun i => (R i).isSome) = (List.range 16).countP (kidU (parT N Q least R) N) + (List.range 16).countP (fun i => decide (i = 0)) := by
    refine countP_add _ (fun c _ => ?_)
    cases hR : R c with
    | none =>
      have hp : parT N Q least R c = [] := by unfold parT; rw [hR]; rfl
      have h0 : c ≠ 0 := fun e => by rw [e, h.fin.root] at hR; cases hR
      unfold kidU
      rw [hp]
      simp [h0]
    | some s =>
      cases s with
      | zero =>
        have h0 := h.fin.only c hR
        subst h0
        unfold kidU
        rw [h.root_par]
        simp
      | succ r =>
        obtain ⟨p, l, e1, e2, e3⟩ := h.firsts.first c r hR
        have h0 : c ≠ 0 := fun e => by rw [e, h.fin.root] at hR; cases hR
        have := h.fin.inN p r e2
        unfold kidU
        rw [e1]
        simp [h0, this]
  rw [e]
  have : (List.range 16).countP (fun i => decide (i = 0)) = 1 := by decide
  omega
end Go.Proofs.Ythdgnnjnkeljmaa.Tr
