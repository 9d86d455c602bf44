/-
  What holds of a tree that is built: ranks, parents, neighbours, paths, node by node.
-/
import Derived.Test.YthdgnnjnkeljmaaTrAwake
import Derived.Test.YthdgnnjnkeljmaaTrOrder
set_option maxRecDepth 100000
namespace Go.Proofs.Ythdgnnjnkeljmaa.Tr
set_option linter.unusedVariables false
open Go.RowKit Lb Tp

/-- All that is known of a tree that Build made. -/
structure Grown (N : Nat) (Q : Nat → Nat → Int) (least : Int) (R : Rk) : Prop where
  fine : Fine N Q
  fin : Fin_ N Q least R
  small : ∀ x s, R x = some s → s ≤ 15
theorem Grown.firsts {N : Nat} {Q : Nat → Nat → Int} {least : Int} {R : Rk} (h : Grown N Q least R) : Firsts R (parT N Q least R) := firsts_of h.fine.2.1 h.fin h.small
theorem hasT_some {R : Rk} {x r : Nat} (hx : x < 16) (h : R x = some r) : hasT R (x : Int) = true ∧ rankT R (x : Int) = (r : Int) := by
  have h1 : hasT R (x : Int) = true := by rw [hasT_nat R hx, h]; rfl
  refine ⟨h1, ?_⟩
  unfold rankT rkI
  rw [if_pos h1, Int.toNat_natCast, h]
  rfl
theorem hasT_none {R : Rk} {x : Nat} (h : R x = none) : hasT R (x : Int) = false ∧ rankT R (x : Int) = 0 := by
  have h1 : hasT R (x : Int) = false := by
    unfold hasT
    rw [Int.toNat_natCast, h]
    simp
  refine ⟨h1, ?_⟩
  unfold rankT
  rw [h1]
  rfl
theorem parsT_nat {R : Rk} {P : Nat → List Nat} {x r : Nat} (hx : x < 16) (h : R x = some r) : parsT R P (x : Int) = P x := by
  unfold parsT
  rw [(hasT_some hx h).1, if_pos rfl, Int.toNat_natCast]
theorem parsT_none {R : Rk} {P : Nat → List Nat} {x : Nat} (h : R x = none) : parsT R P (x : Int) = [] := by
  unfold parsT
  rw [(hasT_none h).1]
  rfl
theorem pathsT_nat {R : Rk} {P : Nat → List Nat} {x r : Nat} (hx : x < 16) (h : R x = some r) : pathsT R P (x : Int) = (List.range (r + 1)).map fun j => anc P x (r - j) := by
  unfold pathsT pathT
  rw [(hasT_some hx h).1, if_pos rfl, Int.toNat_natCast, h]
theorem pathsT_none {R : Rk} {P : Nat → List Nat} {x : Nat} (h : R x = none) : pathsT R P (x : Int) = [] := by
  unfold pathsT
  rw [(hasT_none h).1]
  rfl
section
variable {N : Nat} {Q : Nat → Nat → Int} {least : Int} {R : Rk}
theorem Grown.root_par (h : Grown N Q least R) : parT N Q least R 0 = [] := by
  cases hp : parT N Q least R 0 with
  | nil => rfl
  | cons p l =>
    obtain ⟨r, h1, _⟩ := mem_parT h.fin (n := 0) (x := p) (by rw [hp]; simp)
    rw [h.fin.root] at h1
    cases h1
/-- A parent: its rank, how well it is heard. -/
theorem Grown.par_at (h : Grown N Q least R) {n r i : Nat} (hn : R n = some (r + 1)) (hi : i < (parT N Q least R n).length) :
    (parT N Q least R n).getD i 0 < 16 ∧ R ((parT N Q least R n).getD i 0) = some r ∧ max least 1 ≤ qual N Q n ((parT N Q least R n).getD i 0 : Nat) := by
  have hm : (parT N Q least R n).getD i 0 ∈ parT N Q least R n := by
    rw [List.getD_eq_getElem?_getD, List.getElem?_eq_getElem hi]
    exact List.getElem_mem hi
  obtain ⟨s, h1, h2, h3, h4⟩ := mem_parT h.fin hm
  rw [hn] at h1
  injection h1 with h1
  obtain rfl : r = s := by omega
  have := mem_near.1 h3
  have := h.fine.2.1
  exact ⟨by omega, h2, by omega⟩
theorem Grown.near_at (h : Grown N Q least R) {n i : Nat} (hi : i < (near N Q n least).length) :
    (near N Q n least).getD i 0 < 16 ∧ ((R n = none ∧ R ((near N Q n least).getD i 0) = none) ∨ ∃ r s, R n = some r ∧ R ((near N Q n least).getD i 0) = some s ∧ s ≤ r + 1 ∧ r ≤ s + 1) := by
  have hm : (near N Q n least).getD i 0 ∈ near N Q n least := by
    rw [List.getD_eq_getElem?_getD, List.getElem?_eq_getElem hi]
    exact List.getElem_mem hi
  obtain ⟨x, hx⟩ : ∃ x, (near N Q n least).getD i 0 = x := ⟨_, rfl⟩
  rw [hx] at hm ⊢
  have h16 := h.fine.2.1
  refine ⟨by have := (mem_near.1 hm).1; omega, ?_⟩
  cases hn : R n with
  | none =>
    cases hX : R x with
    | none => exact .inl ⟨rfl, rfl⟩
    | some s =>
      obtain ⟨r, h1, _⟩ := h.fin.near x s hX n (near_comm hm)
      rw [hn] at h1
      cases h1
  | some r =>
    obtain ⟨s, h1, h2⟩ := h.fin.near n r hn x hm
    obtain ⟨r', h3, h4⟩ := h.fin.near x s h1 n (near_comm hm)
    rw [hn] at h3
    injection h3 with h3
    exact .inr ⟨r, s, rfl, h1, h2, by omega⟩
/-- A path: where it begins, where it ends, each hop of it. -/
theorem Grown.path_at (h : Grown N Q least R) {n r : Nat} (hn : R n = some r) (h16 : n < 16) :
    anc (parT N Q least R) n r = 0 ∧ ∀ k, k < r → max least 1 ≤ qual N Q (anc (parT N Q least R) n (k + 1) : Nat) (anc (parT N Q least R) n k : Nat) := by
  have hF := h.firsts
  refine ⟨h.fin.only _ (by have := (anc_rank hF h16 hn r (Nat.le_refl _)).1; rw [Nat.sub_self] at this; exact this), fun k hk => ?_⟩
  obtain ⟨h1, h2⟩ := anc_rank hF h16 hn k (by omega)
  rw [show r - k = (r - (k + 1)) + 1 by omega] at h1
  obtain ⟨p, l, e1, e2, e3⟩ := hF.first _ _ h1
  have := h.par_at (i := 0) h1 (by rw [e1]; simp)
  have e4 : anc (parT N Q least R) n (k + 1) = p := by
    show (parT N Q least R (anc (parT N Q least R) n k)).headD 0 = p
    rw [e1]
    rfl
  rw [e1] at this
  rw [e4, qual_comm]
  exact this.2.2
end
theorem rank_tre (t : Nat) (R : Rk) (P : Nat → List Nat) (x : Int) (w : World) (h : Tre w t R P) :
    Calls Try.prog 14 #[.pointer (some ⟨t, 0, none⟩), .int .i64 x] w fun r w' => r = .returned (.tuple #[.int .i64 (rankT R x), .bool (hasT R x)]) ∧ w = w' := by
  obtain ⟨A, K, hT, _⟩ := h
  exact rank_any t R _ x w hT
theorem path_getD (P : Nat → List Nat) (n r i : Nat) (hi : i < r + 1) : ((List.range (r + 1)).map fun j => anc P n (r - j)).getD i 0 = anc P n (r - i) := by
  rw [List.getD_eq_getElem?_getD, List.getElem?_map, List.getElem?_range hi]
  rfl
end Go.Proofs.Ythdgnnjnkeljmaa.Tr
