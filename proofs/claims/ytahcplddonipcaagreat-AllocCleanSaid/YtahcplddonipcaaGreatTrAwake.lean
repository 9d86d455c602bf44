/-
  Package tree (chapter 21): each with a rank has a first parent; the tree that every program must know.
-/
import Derived.Test.YtahcplddonipcaaGreatTrMore
set_option maxRecDepth 100000
namespace Go.Proofs.YtahcplddonipcaaGreat.Tr
set_option linter.unusedVariables false
set_option linter.unusedSimpArgs false
open Go.RowKit Lb Tp Go.Sort Go.Shelf

theorem mem_par {N : Nat} {Q : Nat → Nat → Int} {least : Int} {R : Rk} {n x : Nat} (h : x ∈ par N Q least R n) : x ∈ near N Q n least ∧ isC R n x = true := by
  unfold par at h
  have := List.mem_of_mem_take h
  rw [List.mem_mergeSort, List.mem_filter] at this
  exact this
theorem mem_parT {N : Nat} {Q : Nat → Nat → Int} {least : Int} {R : Rk} (hF : Fin_ N Q least R) {n x : Nat} (h : x ∈ parT N Q least R n) : ∃ r, R n = some (r + 1) ∧ R x = some r ∧ x ∈ near N Q n least ∧ x < N := by
  unfold parT at h
  cases hn : R n with
  | none =>
    rw [hn] at h
    simp at h
  | some r =>
    rw [hn, if_pos (show (some r).isSome = true from rfl)] at h
    obtain ⟨h1, h2⟩ := mem_par h
    obtain ⟨s, hs, hle⟩ := hF.near n r hn x h1
    unfold isC rkI at h2
    rw [hs, hn, decide_eq_true_eq] at h2
    simp only [Option.getD_some] at h2
    refine ⟨s, ?_, hs, h1, hF.inN x s hs⟩
    congr 1
    omega
theorem par_len (N : Nat) (Q : Nat → Nat → Int) (least : Int) (R : Rk) (n : Nat) : (parT N Q least R n).length ≤ 2 := by
  unfold parT
  split
  · unfold par
    exact List.length_take_le _ _
  · simp
theorem firsts_of {N : Nat} {Q : Nat → Nat → Int} {least : Int} {R : Rk} (hN : N ≤ 16) (h : Fin_ N Q least R) (hs : ∀ x s, R x = some s → s ≤ 15) : Firsts R (parT N Q least R) := by
  refine ⟨h.only, fun n r hr => ?_, hs⟩
  obtain ⟨y, hy, hRy⟩ := h.up n r hr
  have hm : y ∈ (near N Q n least).filter (isC R n) := List.mem_filter.2 ⟨hy, by
    unfold isC rkI
    rw [hRy, hr, decide_eq_true_eq]
    simp⟩
  cases hp : parT N Q least R n with
  | nil =>
    unfold parT at hp
    rw [hr, if_pos (show (some (r + 1)).isSome = true from rfl)] at hp
    unfold par at hp
    have hl := congrArg List.length hp
    rw [List.length_take, List.length_mergeSort, List.length_nil] at hl
    have := List.length_pos_of_mem hm
    omega
  | cons p l =>
    obtain ⟨s, h1, h2, h3, h4⟩ := mem_parT h (x := p) (n := n) (by rw [hp]; simp)
    rw [hr] at h1
    injection h1 with h1
    obtain rfl : r = s := by omega
    exact ⟨p, l, rfl, h2, by omega⟩
def LkX (i : Nat) : Lk := if i = 0 then ⟨0, 1, 9⟩ else ⟨0, 0, 0⟩
def LkY (i : Nat) : Lk := if i = 0 then ⟨1, 0, 9⟩ else if i = 1 then ⟨1, 2, 9⟩ else ⟨0, 0, 0⟩
def LkZ (i : Nat) : Lk := if i = 0 then ⟨2, 1, 9⟩ else ⟨0, 0, 0⟩
def QX : Nat → Nat → Int := repTo 3 (fun _ _ => 0) 0 LkX 1
def QY : Nat → Nat → Int := repTo 3 QX 1 LkY 2
def QZ : Nat → Nat → Int := repTo 3 QY 2 LkZ 1
theorem fine_z : Fine 3 QZ := fine_rep (fine_rep (fine_rep ⟨by decide, by decide, fun a b => ⟨Int.le_refl _, by show (0 : Int) ≤ 255; decide, rfl, fun _ => rfl⟩⟩ 0 LkX 1) 1 LkY 2) 2 LkZ 1
theorem tree_z {R : Rk} (h : Fin_ 3 QZ 1 R) (hs : ∀ x s, R x = some s → s ≤ 15) : R 2 = some 2 ∧ pathsT R (parT 3 QZ 1 R) 2 = [0, 1, 2] := by
  have n0 : near 3 QZ 0 1 = [1] := by decide +kernel
  have n1 : near 3 QZ 1 1 = [0, 2] := by decide +kernel
  have n2 : near 3 QZ 2 1 = [1] := by decide +kernel
  have r1 : R 1 = some 1 := by
    obtain ⟨s, h1, h2⟩ := h.near 0 0 h.root 1 (by show 1 ∈ near 3 QZ 0 1; rw [n0]; simp)
    rcases (show s = 0 ∨ s = 1 by omega) with rfl | rfl
    · exact absurd (h.only 1 h1) (by decide)
    · exact h1
  have r2 : R 2 = some 2 := by
    obtain ⟨s, h1, h2⟩ := h.near 1 1 r1 2 (by show 2 ∈ near 3 QZ 1 1; rw [n1]; simp)
    rcases (show s = 0 ∨ s = 1 ∨ s = 2 by omega) with rfl | rfl | rfl
    · exact absurd (h.only 2 h1) (by decide)
    · obtain ⟨y, h3, h4⟩ := h.up 2 0 h1
      have h3 : y ∈ near 3 QZ 2 1 := h3
      rw [n2, List.mem_singleton] at h3
      subst h3
      rw [r1] at h4
      injection h4 with h4
      omega
    · exact h1
  have hF := firsts_of (by decide) h hs
  have a1 := anc_rank hF (n := 2) (r := 2) (by decide) r2 1 (by decide)
  have a2 := anc_rank hF (n := 2) (r := 2) (by decide) r2 2 (by decide)
  have e2 : anc (parT 3 QZ 1 R) 2 2 = 0 := h.only _ a2.1
  have e1 : anc (parT 3 QZ 1 R) 2 1 = 1 := by
    have h5 := h.inN _ _ a1.1
    obtain ⟨y, hy⟩ : ∃ y, anc (parT 3 QZ 1 R) 2 1 = y := ⟨_, rfl⟩
    rw [hy] at a1 h5 ⊢
    rcases (show y = 0 ∨ y = 1 ∨ y = 2 by omega) with rfl | rfl | rfl
    · have := a1.1
      rw [h.root] at this
      cases this
    · rfl
    · have := a1.1
      rw [r2] at this
      cases this
  refine ⟨r2, ?_⟩
  unfold pathsT hasT pathT
  rw [show ((2 : Int)).toNat = 2 from rfl, r2, if_pos (by rfl)]
  show [anc _ 2 2, anc _ 2 1, anc _ 2 0] = _
  rw [e2, e1]
  rfl
end Go.Proofs.YtahcplddonipcaaGreat.Tr
