/-
  Package parents: of all that are heard at one moment those of the least rank stay: how many.
-/
import Derived.Test.YtjboilkbcajkcaaPaSame
set_option maxRecDepth 100000
namespace Go.Proofs.Ytjboilkbcajkcaa.Pa
set_option linter.unusedVariables false
open Go.RowKit Lb Go.Shelf

/-- How many of the first k are below m. -/
def cnt (X : Nat → Int) (m : Int) : Nat → Nat
  | 0 => 0
  | k + 1 => cnt X m k + if X k < m then 1 else 0
theorem cnt_succ (X : Nat → Int) (m : Int) (k : Nat) : cnt X m (k + 1) = cnt X m k + if X k < m then 1 else 0 := rfl
theorem cnt_le (X : Nat → Int) (m : Int) : ∀ k, cnt X m k ≤ k
  | 0 => Nat.le_refl _
  | k + 1 => by
    have := cnt_le X m k
    unfold cnt
    split <;> omega
theorem cnt_none {X : Nat → Int} {m : Int} : ∀ {k : Nat}, (∀ i, i < k → m ≤ X i) → cnt X m k = 0
  | 0, _ => rfl
  | k + 1, h => by
    have := h k (by omega)
    unfold cnt
    rw [cnt_none (fun i hi => h i (by omega)), if_neg (by omega)]
/-- After k were heard, each with its number, at one moment. -/
structure Best (X : Nat → Int) (k : Nat) (rk : Int) (l : List P) : Prop where
  inv : Inv 15 rk l
  pos : 1 ≤ rk
  all : ∀ i, i < k → rk - 1 ≤ X i
  len : l.length = min (cnt X rk k) 3
  mem : ∀ y, y ∈ l → y.n < k ∧ rk - 1 ≤ y.r
theorem best_step {X : Nat → Int} {k : Nat} {rk : Int} {l : List P} (h : Best X k rk l) (hk : k < 15) (hX : 0 ≤ X k ∧ X k ≤ 255) :
    hearR 15 rk l ⟨k, X k, 5⟩ = min rk (X k + 1) ∧ Best X (k + 1) (min rk (X k + 1)) (hearL 15 rk l ⟨k, X k, 5⟩) := by
  have hm : mayH 15 ⟨k, X k, 5⟩ = true := by
    unfold mayH ndB rkB
    simp
    omega
  have hR : hearR 15 rk l ⟨k, X k, 5⟩ = min rk (X k + 1) := by
    unfold hearR rk3
    rw [if_pos hm]
    simp only
    repeat' split
    all_goals omega
  have hi := h.inv.hear ⟨k, X k, 5⟩
  rw [hR] at hi
  have e1 : l1 l (k : Int) = l := by
    unfold l1 kept
    rw [List.take_length, List.filter_eq_self]
    intro y hy
    have := (h.mem y hy).1
    have hne : (y.n == (k : Int)) = false := by simp; omega
    show (!(y.n == (k : Int))) = true
    rw [hne]
    rfl
  refine ⟨hR, hi, ?_, ?_, ?_, ?_⟩
  · have := h.pos
    omega
  · intro i hi
    by_cases e : i = k
    · subst e; omega
    · have := h.all i (by omega); omega
  · have hl := h.len
    unfold hearL
    rw [if_pos hm]
    by_cases h1 : rk ≤ X k
    · rw [if_pos h1]
      show (l1 l (k : Int)).length = _
      rw [e1, hl, show min rk (X k + 1) = rk by omega]
      rw [cnt_succ, if_neg (by omega)]
      rfl
    · rw [if_neg h1]
      unfold l4
      rw [List.length_take]
      have hp : (l2 l ⟨k, X k, 5⟩).Perm (⟨k, X k, 5⟩ :: l) := by
        have := ins_perm (l1 l (k : Int)) (pos (l1 l (k : Int)) ⟨k, X k, 5⟩) ⟨k, X k, 5⟩
        rw [e1] at this
        unfold l2
        rw [show l1 l (P.n ⟨k, X k, 5⟩) = l from e1]
        exact this
      by_cases h2 : X k + 1 < rk
      · have e3 : (l3 rk l ⟨k, X k, 5⟩).length = 1 := by
          unfold l3
          rw [if_pos h2]
          unfold kept
          rw [List.take_length, (hp.filter _).length_eq, List.filter_cons]
          rw [if_pos (by simp only [Bool.not_eq_true', decide_eq_false_iff_not]; omega)]
          rw [List.filter_eq_nil_iff.2]
          · rfl
          · intro y hy
            have := (h.mem y hy).2
            simp
            omega
        rw [e3, show min rk (X k + 1) = X k + 1 by omega]
        rw [cnt_succ, cnt_none (fun i hi => by have := h.all i hi; omega), if_pos (by omega)]
        rfl
      · have e3 : (l3 rk l ⟨k, X k, 5⟩).length = l.length + 1 := by
          unfold l3
          rw [if_neg h2, hp.length_eq]
          rfl
        rw [e3, hl, show min rk (X k + 1) = rk by omega]
        rw [cnt_succ, if_pos (by omega)]
        omega
  · intro y hy
    unfold hearL at hy
    rw [if_pos hm] at hy
    by_cases h1 : rk ≤ X k
    · rw [if_pos h1] at hy
      have hy2 : y ∈ l1 l (k : Int) := hy
      rw [e1] at hy2
      have := h.mem y hy2
      constructor <;> omega
    · rw [if_neg h1] at hy
      have hy3 : y ∈ l3 rk l ⟨k, X k, 5⟩ := (List.take_sublist _ _).subset hy
      have hy2 : y ∈ l2 l ⟨k, X k, 5⟩ := by
        unfold l3 at hy3
        split at hy3
        · exact (kept_sub _ _ _).subset hy3
        · exact hy3
      unfold l2 at hy2
      rw [show l1 l (P.n ⟨k, X k, 5⟩) = l from e1] at hy2
      rcases List.mem_cons.1 ((ins_perm _ _ _).mem_iff.1 hy2) with rfl | h3
      · simp only
        constructor <;> omega
      · have := h.mem y h3
        constructor <;> omega
theorem best_zero (X : Nat → Int) (rk : Int) (h : 1 ≤ rk ∧ rk ≤ 250) : Best X 0 rk [] :=
  ⟨⟨by omega, by simp, fun x h => by simp at h, fun x h => by simp at h, by simp, fun x h => by simp at h⟩, h.1, fun i hi => by omega, rfl, fun y h => by simp at h⟩
/-- Who comes first: one of the least rank. -/
theorem best_first {X : Nat → Int} {k : Nat} {rk : Int} {l : List P} (h : Best X k rk l) (h0 : 0 < l.length) : rkoP l (fstN l) = (rk - 1, true) := by
  have e : fstN l = (at_ l 0).n := by unfold fstN; rw [if_neg (by omega)]
  rw [e, h.inv.rank h0]
  have h1 := h.inv.below _ (at_mem h0)
  have h2 := (h.mem _ (at_mem h0)).2
  rw [show (at_ l 0).r = rk - 1 by omega]
end Go.Proofs.Ytjboilkbcajkcaa.Pa
