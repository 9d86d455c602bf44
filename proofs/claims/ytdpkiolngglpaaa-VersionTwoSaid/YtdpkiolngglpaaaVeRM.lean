/-
  Books (chapter 23): both sorts are one; rows of nodes by their keys.
-/
import Derived.Test.YtdpkiolngglpaaaVeBeg2
import Derived.Test.YtdpkiolngglpaaaCeSort
import Derived.Test.YtdpkiolngglpaaaAlMapM
set_option maxRecDepth 100000
namespace Go.Proofs.Ytdpkiolngglpaaa.Ve
set_option linter.unusedVariables false
set_option linter.unusedSimpArgs false
open Go.RowKit Lb Cl Ce Mi Al Go.Sort

theorem insU_nil (x : C) : insU [] x = [x] := rfl
theorem insU_cons (d : C) (r : List C) (x : C) : insU (d :: r) x = if cf x d < 0 then x :: d :: r else d :: insU r x := by
  unfold insU ins
  rw [posU]
  split
  · rfl
  · rfl
theorem insU_mem {l : List C} {x y : C} : y ∈ insU l x ↔ y = x ∨ y ∈ l := by
  induction l with
  | nil => rw [insU_nil]; simp
  | cons d r ih =>
    rw [insU_cons]
    split
    · simp
    · rw [List.mem_cons, ih, List.mem_cons]
      constructor
      · rintro (h | h | h)
        · exact .inr (.inl h)
        · exact .inl h
        · exact .inr (.inr h)
      · rintro (h | h | h)
        · exact .inr (.inl h)
        · exact .inl h
        · exact .inr (.inr h)
theorem insU_perm (l : List C) (x : C) : (insU l x).Perm (x :: l) := by
  induction l with
  | nil => exact List.Perm.refl _
  | cons d r ih =>
    rw [insU_cons]
    split
    · exact List.Perm.refl _
    · exact (List.Perm.cons d ih).trans (List.Perm.swap x d r)
def UpTo (x y : C) : Prop := ¬ cf y x < 0
theorem upTo_trans {x y z : C} (h : UpTo x y) (k : UpTo y z) : UpTo x z := by
  unfold UpTo at *
  intro h1
  rcases Decidable.em (cf x y < 0) with h2 | h2
  · exact k (cf_trans h1 h2)
  · have := cf_total h2 h
    subst this
    exact k h1
theorem insU_pair {l : List C} {x : C} (h : l.Pairwise UpTo) : (insU l x).Pairwise UpTo := by
  induction l with
  | nil => exact List.pairwise_singleton _ _
  | cons d r ih =>
    rw [insU_cons]
    have h' := List.pairwise_cons.1 h
    split
    · rename_i hlt
      refine List.pairwise_cons.2 ⟨fun y hy => ?_, h⟩
      have h1 : UpTo x d := cf_asym hlt
      rcases List.mem_cons.1 hy with rfl | hy
      · exact h1
      · exact upTo_trans h1 (h'.1 y hy)
    · rename_i hlt
      refine List.pairwise_cons.2 ⟨fun y hy => ?_, ih h'.2⟩
      rcases insU_mem.1 hy with rfl | hy
      · exact hlt
      · exact h'.1 y hy
theorem srtU_all : ∀ (l acc : List C), acc.Pairwise UpTo → (l.foldl insU acc).Pairwise UpTo ∧ (l.foldl insU acc).Perm (acc ++ l)
  | [], acc, h => ⟨h, by rw [List.append_nil]; exact List.Perm.refl _⟩
  | x :: l, acc, h => by
    have := srtU_all l (insU acc x) (insU_pair h)
    refine ⟨this.1, this.2.trans ?_⟩
    refine ((insU_perm acc x).append_right l).trans ?_
    exact (List.perm_middle (l₁ := acc) (a := x) (l₂ := l)).symm
theorem srtC_all (l : List C) : (srtC l).Pairwise UpTo ∧ (srtC l).Perm l := by
  refine ⟨?_, List.mergeSort_perm _ _⟩
  have := List.pairwise_mergeSort (le := fun x y => !(ltOf cfV) y x) (fun a b c h1 h2 => by
      simp only [ltV, Bool.not_eq_true', decide_eq_false_iff_not] at h1 h2 ⊢
      exact upTo_trans (x := a) (y := b) (z := c) h1 h2) (fun a b => by
      simp only [ltV, Bool.or_eq_true, Bool.not_eq_true', decide_eq_false_iff_not]
      rcases Decidable.em (cf b a < 0) with h | h
      · exact .inr (cf_asym h)
      · exact .inl h) l
  refine this.imp (fun {x y} h => ?_)
  have h := h
  simp only [ltV, Bool.not_eq_true', decide_eq_false_iff_not] at h
  exact h
/-- Both sorts are one. -/
theorem srt_same (l : List C) : srtC l = srtU l := by
  obtain ⟨h1, h2⟩ := srtC_all l
  obtain ⟨h3, h4⟩ := srtU_all l [] List.Pairwise.nil
  refine List.Perm.eq_of_pairwise (le := UpTo) (fun x y _ _ a b => ?_) h1 h3 (h2.trans h4.symm)
  exact cf_total b a
/-- The row of key k. -/
def lk : List (Int × List C) → Int → List C
  | [], _ => []
  | x :: L, k => if x.1 = k then x.2 else lk L k
theorem lk_nil (k : Int) : lk [] k = [] := rfl
theorem lk_is : ∀ {L : List (Int × List C)}, (L.map (·.1)).Nodup → ∀ {e : Int × List C}, e ∈ L → lk L e.1 = e.2
  | [], _, _, he => by cases he
  | x :: L, hn, e, he => by
    rw [List.map_cons, List.nodup_cons] at hn
    rw [lk]
    rcases List.mem_cons.1 he with rfl | he
    · rw [if_pos rfl]
    · have hne : ¬ x.1 = e.1 := fun h => hn.1 (by rw [h]; exact List.mem_map_of_mem he)
      rw [if_neg hne, lk_is hn.2 he]
theorem lk_none : ∀ {L : List (Int × List C)} {k : Int}, (∀ e ∈ L, e.1 ≠ k) → lk L k = []
  | [], _, _ => rfl
  | x :: L, k, h => by
    rw [lk, if_neg (h x (by simp)), lk_none (fun e he => h e (by simp [he]))]
theorem nd_perm {L M : List (Int × List C)} (h : L.Perm M) (hn : (L.map (·.1)).Nodup) : (M.map (·.1)).Nodup := (h.map _).nodup_iff.1 hn
theorem lk_perm {L M : List (Int × List C)} (h : L.Perm M) (hn : (L.map (·.1)).Nodup) (k : Int) : lk L k = lk M k := by
  rcases Classical.em (∃ e ∈ L, e.1 = k) with ⟨e, he, rfl⟩ | hno
  · rw [lk_is hn he, lk_is (nd_perm h hn) (h.mem_iff.1 he)]
  · rw [lk_none (fun e he q => hno ⟨e, he, q⟩), lk_none (fun e he q => hno ⟨e, h.mem_iff.2 he, q⟩)]
theorem conv_nd {L : List (Int × List C)} (h : (L.map (·.1)).Nodup) : ((L.map conv).map (·.1)).Nodup := by
  rw [List.map_map]
  exact h
theorem srtC_nil : srtC [] = [] := by simp [srtC]
theorem lk_conv : ∀ (L : List (Int × List C)) (k : Int), lk (L.map conv) k = srtC (lk L k)
  | [], _ => srtC_nil.symm
  | x :: L, k => by
    rw [List.map_cons, lk, lk]
    show (if x.1 = k then srtC x.2 else _) = _
    split
    · rfl
    · exact lk_conv L k
theorem lk_dealt {L : List (Int × List C)} (hn : (L.map (·.1)).Nodup) (i : Nat) : lk L (i : Int) = dealt L i := by
  rcases Classical.em (∃ e ∈ L, e.1 = (i : Int)) with ⟨e, he, h⟩ | hno
  · rw [dealt_is hn he h, ← h, lk_is hn he]
  · rw [lk_none (fun e he q => hno ⟨e, he, q⟩)]
    rcases Nat.eq_zero_or_pos (dealt L i).length with h0 | h0
    · exact (List.length_eq_zero_iff.1 h0).symm
    · obtain ⟨e, he, h1, _⟩ := dealt_has h0
      exact absurd ⟨e, he, h1⟩ hno
end Go.Proofs.Ytdpkiolngglpaaa.Ve
