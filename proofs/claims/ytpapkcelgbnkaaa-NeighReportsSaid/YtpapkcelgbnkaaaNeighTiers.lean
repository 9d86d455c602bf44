/-
  The links by falling quality, then by the node: what the sort gives is what a walk down the qualities gives.
-/
import Derived.Test.YtpapkcelgbnkaaaNeighOrb
set_option maxRecDepth 100000
namespace Go.Proofs.Ytpapkcelgbnkaaa.Ng
set_option linter.unusedVariables false
open Go.RowKit Lb Go.Sort

theorem sorted_one {α : Type} {lt : α → α → Prop} (asym : ∀ x y, lt x y → lt y x → False) : ∀ (l m : List α), l.Pairwise lt → m.Pairwise lt → (∀ x, x ∈ l ↔ x ∈ m) → l = m
  | [], [], _, _, _ => rfl
  | [], b :: m, _, _, h => absurd ((h b).2 (by simp)) (by simp)
  | a :: l, [], _, _, h => absurd ((h a).1 (by simp)) (by simp)
  | a :: l, b :: m, h1, h2, h => by
    rw [List.pairwise_cons] at h1 h2
    have e : a = b := by
      have ha := (h a).1 (by simp)
      have hb := (h b).2 (by simp)
      rcases List.mem_cons.1 ha with e | ha
      · exact e
      · rcases List.mem_cons.1 hb with e | hb
        · exact e.symm
        · exact (asym _ _ (h1.1 b hb) (h2.1 a ha)).elim
    subst e
    have : l = m := sorted_one asym l m h1.2 h2.2 fun x => by
      constructor
      · intro hx
        rcases List.mem_cons.1 ((h x).1 (by simp [hx])) with e | hx2
        · subst e; exact (asym _ _ (h1.1 _ hx) (h1.1 _ hx)).elim
        · exact hx2
      · intro hx
        rcases List.mem_cons.1 ((h x).2 (by simp [hx])) with e | hx2
        · subst e; exact (asym _ _ (h2.1 _ hx) (h2.1 _ hx)).elim
        · exact hx2
    rw [this]
def before (x y : Int × Int) : Prop := y.2 < x.2 ∨ (y.2 = x.2 ∧ x.1 < y.1)
theorem before_asym (x y : Int × Int) (h1 : before x y) (h2 : before y x) : False := by
  unfold before at *
  omega
theorem mem_pairs {Q : Nat → Int} {least : Int} {x : Int × Int} : ∀ n, x ∈ pairs Q least n ↔ ∃ k, k < n ∧ 0 < Q k ∧ least ≤ Q k ∧ x = ((k : Int), Q k)
  | 0 => by simp [pairs]
  | n + 1 => by
    by_cases h : 0 < Q n ∧ least ≤ Q n
    · rw [pairs_yes h, List.mem_append, mem_pairs n, List.mem_singleton]
      constructor
      · rintro (⟨k, h1, h2⟩ | rfl)
        · exact ⟨k, by omega, h2⟩
        · exact ⟨n, by omega, h.1, h.2, rfl⟩
      · rintro ⟨k, h1, h2, h3, rfl⟩
        by_cases e : k = n
        · subst e; exact .inr rfl
        · exact .inl ⟨k, by omega, h2, h3, rfl⟩
    · rw [pairs_not h, mem_pairs n]
      constructor
      · rintro ⟨k, h1, h2⟩
        exact ⟨k, by omega, h2⟩
      · rintro ⟨k, h1, h2, h3, h4⟩
        by_cases e : k = n
        · subst e; exact absurd ⟨h2, h3⟩ h
        · exact ⟨k, by omega, h2, h3, h4⟩
theorem pairs_rise {Q : Nat → Int} {least : Int} : ∀ n, (pairs Q least n).Pairwise fun x y => x.1 < y.1
  | 0 => by unfold pairs; exact List.Pairwise.nil
  | n + 1 => by
    by_cases h : 0 < Q n ∧ least ≤ Q n
    · rw [pairs_yes h, List.pairwise_append]
      refine ⟨pairs_rise n, List.pairwise_singleton _ _, fun x hx y hy => ?_⟩
      obtain ⟨k, h1, _, _, rfl⟩ := (mem_pairs n).1 hx
      rw [List.mem_singleton] at hy
      subst hy
      show (k : Int) < (n : Int)
      omega
    · rw [pairs_not h]
      exact pairs_rise n
theorem mem_srt {Q : Nat → Int} {least : Int} {x : Int × Int} : x ∈ srt Q least ↔ ∃ k, k < 16 ∧ 0 < Q k ∧ least ≤ Q k ∧ x = ((k : Int), Q k) := by
  unfold srt
  rw [List.mem_mergeSort]
  exact mem_pairs 16
theorem srt_before (Q : Nat → Int) (least : Int) : (srt Q least).Pairwise before := by
  have h1 : (srt Q least).Pairwise fun x y => (!(ltOf cfM) y x) = true := by
    unfold srt
    refine List.pairwise_mergeSort (fun a b c h1 h2 => ?_) (fun a b => ?_) _
    · simp only [ltM, Bool.not_eq_true', decide_eq_false_iff_not] at *
      omega
    · simp only [ltM, Bool.or_eq_true, Bool.not_eq_true', decide_eq_false_iff_not]
      omega
  have h2 : (srt Q least).Pairwise fun x y => x.1 ≠ y.1 := by
    unfold srt
    refine (List.Perm.pairwise_iff (fun h => fun e => h e.symm) (List.mergeSort_perm _ _)).2 ?_
    exact (pairs_rise 16).imp fun h => by omega
  refine (h1.and h2).imp fun {x y} h => ?_
  obtain ⟨ha, hb⟩ := h
  simp only [ltM, Bool.not_eq_true', decide_eq_false_iff_not] at ha
  unfold before
  omega
theorem srt_at {Q : Nat → Int} {least : Int} {i : Nat} (h : i < (srt Q least).length) : ∃ k, k < 16 ∧ 0 < Q k ∧ least ≤ Q k ∧ (srt Q least).getD i (0, 0) = ((k : Int), Q k) := by
  refine mem_srt.1 ?_
  rw [List.getD_eq_getElem?_getD, List.getElem?_eq_getElem h]
  exact List.getElem_mem h
theorem srt_order {Q : Nat → Int} {least : Int} {i j : Nat} (hij : i < j) (h : j < (srt Q least).length) : before ((srt Q least).getD i (0, 0)) ((srt Q least).getD j (0, 0)) := by
  rw [List.getD_eq_getElem?_getD, List.getD_eq_getElem?_getD, List.getElem?_eq_getElem h, List.getElem?_eq_getElem (by omega : i < (srt Q least).length)]
  exact List.pairwise_iff_getElem.1 (srt_before Q least) i j (by omega) h hij
theorem srt_nodes {Q : Nat → Int} {least : Int} {i j : Nat} (hij : i < j) (h : j < (srt Q least).length) : ((srt Q least).getD i (0, 0)).1 ≠ ((srt Q least).getD j (0, 0)).1 := by
  obtain ⟨a, _, _, _, e1⟩ := srt_at (Q := Q) (least := least) (i := i) (by omega)
  obtain ⟨b, _, _, _, e2⟩ := srt_at (Q := Q) (least := least) h
  have h1 := srt_order hij h
  rw [e1, e2] at *
  intro e
  have e : (a : Int) = (b : Int) := e
  obtain rfl : a = b := by omega
  exact before_asym _ _ h1 h1

/-- The nodes below k of just that quality. -/
def lvl (Q : Nat → Int) (q : Int) : Nat → List (Int × Int)
  | 0 => []
  | k + 1 => lvl Q q k ++ if Q k = q then [((k : Int), q)] else []
/-- The first n qualities, from 255 down. -/
def tiers (Q : Nat → Int) (least : Int) : Nat → List (Int × Int)
  | 0 => []
  | n + 1 => tiers Q least n ++ if least ≤ 255 - n then lvl Q (255 - n) 16 else []
theorem lvl_yes {Q : Nat → Int} {q : Int} {k : Nat} (h : Q k = q) : lvl Q q (k + 1) = lvl Q q k ++ [((k : Int), q)] := by
  show lvl Q q k ++ _ = _
  rw [if_pos h]
theorem lvl_not {Q : Nat → Int} {q : Int} {k : Nat} (h : ¬ Q k = q) : lvl Q q (k + 1) = lvl Q q k := by
  show lvl Q q k ++ _ = _
  rw [if_neg h, List.append_nil]
theorem mem_lvl {Q : Nat → Int} {q : Int} {x : Int × Int} : ∀ n, x ∈ lvl Q q n ↔ ∃ k, k < n ∧ Q k = q ∧ x = ((k : Int), Q k)
  | 0 => by simp [lvl]
  | n + 1 => by
    by_cases h : Q n = q
    · rw [lvl_yes h, List.mem_append, mem_lvl n, List.mem_singleton]
      constructor
      · rintro (⟨k, h1, h2⟩ | rfl)
        · exact ⟨k, by omega, h2⟩
        · exact ⟨n, by omega, h, by rw [h]⟩
      · rintro ⟨k, h1, h2, rfl⟩
        by_cases e : k = n
        · subst e; exact .inr (by rw [h])
        · exact .inl ⟨k, by omega, h2, rfl⟩
    · rw [lvl_not h, mem_lvl n]
      constructor
      · rintro ⟨k, h1, h2⟩
        exact ⟨k, by omega, h2⟩
      · rintro ⟨k, h1, h2, h3⟩
        by_cases e : k = n
        · subst e; exact absurd h2 h
        · exact ⟨k, by omega, h2, h3⟩
theorem lvl_before {Q : Nat → Int} {q : Int} : ∀ n, (lvl Q q n).Pairwise before
  | 0 => by unfold lvl; exact List.Pairwise.nil
  | n + 1 => by
    by_cases h : Q n = q
    · rw [lvl_yes h, List.pairwise_append]
      refine ⟨lvl_before n, List.pairwise_singleton _ _, fun x hx y hy => ?_⟩
      obtain ⟨k, h1, h2, rfl⟩ := (mem_lvl n).1 hx
      rw [List.mem_singleton] at hy
      subst hy
      exact .inr ⟨h2.symm, by show (k : Int) < (n : Int); omega⟩
    · rw [lvl_not h]
      exact lvl_before n
theorem mem_tiers {Q : Nat → Int} {least : Int} {x : Int × Int} : ∀ n, x ∈ tiers Q least n ↔ ∃ k, k < 16 ∧ 255 - (n : Int) < Q k ∧ Q k ≤ 255 ∧ least ≤ Q k ∧ x = ((k : Int), Q k)
  | 0 => by
    unfold tiers
    constructor
    · intro h; simp at h
    · rintro ⟨k, h1, h2, h3, _⟩
      have h2 : 255 - (0 : Int) < Q k := h2
      omega
  | n + 1 => by
    have e : tiers Q least (n + 1) = tiers Q least n ++ if least ≤ 255 - n then lvl Q (255 - n) 16 else [] := rfl
    rw [e, List.mem_append, mem_tiers n]
    constructor
    · rintro (⟨k, h1, h2, h3⟩ | h)
      · exact ⟨k, h1, by omega, h3⟩
      · by_cases hl : least ≤ 255 - n
        · rw [if_pos hl] at h
          obtain ⟨k, h1, h2, h3⟩ := (mem_lvl 16).1 h
          exact ⟨k, h1, by omega, by omega, by omega, h3⟩
        · rw [if_neg hl] at h
          simp at h
    · rintro ⟨k, h1, h2, h3, h4, h5⟩
      by_cases hk : 255 - (n : Int) < Q k
      · exact .inl ⟨k, h1, hk, h3, h4, h5⟩
      · have e : Q k = 255 - n := by omega
        rw [if_pos (by omega)]
        exact .inr ((mem_lvl 16).2 ⟨k, h1, e, h5⟩)
theorem tiers_before {Q : Nat → Int} {least : Int} : ∀ n, (tiers Q least n).Pairwise before
  | 0 => by unfold tiers; exact List.Pairwise.nil
  | n + 1 => by
    have e : tiers Q least (n + 1) = tiers Q least n ++ if least ≤ 255 - n then lvl Q (255 - n) 16 else [] := rfl
    rw [e, List.pairwise_append]
    refine ⟨tiers_before n, ?_, fun x hx y hy => ?_⟩
    · split
      · exact lvl_before 16
      · exact List.Pairwise.nil
    · by_cases hl : least ≤ 255 - n
      · rw [if_pos hl] at hy
        obtain ⟨k, h1, h2, h3, h4, rfl⟩ := (mem_tiers n).1 hx
        obtain ⟨j, g1, g2, rfl⟩ := (mem_lvl 16).1 hy
        exact .inl (by show Q j < Q k; omega)
      · rw [if_neg hl] at hy
        simp at hy
theorem tiers_srt {Q : Nat → Int} (hg : Good Q) (least : Int) : tiers Q least 255 = srt Q least :=
  sorted_one before_asym _ _ (tiers_before _) (srt_before _ _) fun x => by
    rw [mem_tiers, mem_srt]
    constructor
    · rintro ⟨k, h1, h2, h3, h4, h5⟩
      exact ⟨k, h1, by omega, h4, h5⟩
    · rintro ⟨k, h1, h2, h4, h5⟩
      exact ⟨k, h1, by omega, (hg k).2, h4, h5⟩
end Go.Proofs.Ytpapkcelgbnkaaa.Ng
