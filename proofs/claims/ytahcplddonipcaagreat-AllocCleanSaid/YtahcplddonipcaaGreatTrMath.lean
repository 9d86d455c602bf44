/-
  Trees (chapter 21): ranks by one wave after another, as the package builds them; what holds when the wave is over.
-/
import Derived.Test.YtahcplddonipcaaGreatTopoMore
set_option maxRecDepth 100000
namespace Go.Proofs.YtahcplddonipcaaGreat.Tr
set_option linter.unusedVariables false
set_option linter.unusedSimpArgs false
open Go.RowKit Lb Tp

abbrev Rk := Nat → Option Nat
/-- Node b is seen from one of rank r. -/
def visit (r : Nat) (s : Rk × List Nat) (b : Nat) : Rk × List Nat := if (s.1 b).isSome then s else (fun j => if j = b then some (r + 1) else s.1 j, s.2 ++ [b])
def visits (r : Nat) (s : Rk × List Nat) (l : List Nat) : Rk × List Nat := l.foldl (visit r) s
theorem visits_snoc (r : Nat) (s : Rk × List Nat) (l : List Nat) (b : Nat) : visits r s (l ++ [b]) = visit r (visits r s l) b := by
  unfold visits
  rw [List.foldl_append]
  rfl
theorem visit_some {r : Nat} {R : Rk} {f : List Nat} {b s : Nat} (h : R b = some s) : visit r (R, f) b = (R, f) := if_pos (show (R b).isSome = true by rw [h]; rfl)
theorem visit_none {r : Nat} {R : Rk} {f : List Nat} {b : Nat} (h : R b = none) : visit r (R, f) b = (fun j => if j = b then some (r + 1) else R j, f ++ [b]) := if_neg (show ¬ (R b).isSome = true by rw [h]; decide)
theorem visits_is (r : Nat) : ∀ (l : List Nat) (R : Rk) (f : List Nat), ∃ news, (visits r (R, f) l).2 = f ++ news ∧ (∀ x, x ∈ news ↔ (x ∈ l ∧ R x = none)) ∧ ∀ x, (visits r (R, f) l).1 x = if (R x).isSome then R x else if x ∈ l then some (r + 1) else none
  | [], R, f => ⟨[], by simp [visits], fun x => by simp, fun x => by
      unfold visits
      rw [List.foldl_nil]
      cases h : R x <;> simp [h]⟩
  | b :: l, R, f => by
    cases hb : R b with
    | some s =>
      have e : visits r (R, f) (b :: l) = visits r (R, f) l := by
        show visits r (visit r (R, f) b) l = _
        rw [visit_some hb]
      obtain ⟨news, h1, h2, h3⟩ := visits_is r l R f
      rw [e]
      refine ⟨news, h1, fun x => ?_, fun x => ?_⟩
      · rw [h2 x, List.mem_cons]
        constructor
        · rintro ⟨h4, h5⟩
          exact ⟨.inr h4, h5⟩
        · rintro ⟨h4 | h4, h5⟩
          · rw [h4, hb] at h5
            cases h5
          · exact ⟨h4, h5⟩
      · rw [h3 x]
        by_cases hx : x = b
        · rw [hx, hb]
          rfl
        · simp [hx]
    | none =>
      have e : visits r (R, f) (b :: l) = visits r (fun j => if j = b then some (r + 1) else R j, f ++ [b]) l := by
        show visits r (visit r (R, f) b) l = _
        rw [visit_none hb]
      obtain ⟨news, h1, h2, h3⟩ := visits_is r l (fun j => if j = b then some (r + 1) else R j) (f ++ [b])
      rw [e]
      refine ⟨b :: news, by rw [h1, List.append_assoc]; rfl, fun x => ?_, fun x => ?_⟩
      · rw [List.mem_cons, h2 x, List.mem_cons]
        by_cases hx : x = b
        · simp [hx, hb]
        · simp [hx]
      · rw [h3 x]
        by_cases hx : x = b
        · simp [hx, hb]
        · simp [hx]
/-- One round: the first one of those that were found looks about. -/
def wave (N : Nat) (Q : Nat → Nat → Int) (least : Int) (R : Rk) (a r : Nat) (f : List Nat) : Rk × List Nat := visits r (R, f) (near N Q a least)
theorem mem_nr {N : Nat} {Q : Nat → Nat → Int} {a least : Int} {x : Nat} : ∀ {k : Nat}, x ∈ nr N Q a least k ↔ x < k ∧ 0 < qual N Q a x ∧ least ≤ qual N Q a x
  | 0 => by simp [nr]
  | k + 1 => by
    rw [nr, List.mem_append, mem_nr]
    constructor
    · rintro (⟨h1, h2⟩ | h)
      · exact ⟨by omega, h2⟩
      · split at h
        · rename_i h2
          rw [List.mem_singleton] at h
          subst h
          exact ⟨by omega, h2⟩
        · cases h
    · rintro ⟨h1, h2⟩
      by_cases hx : x = k
      · right
        subst hx
        rw [if_pos h2]
        simp
      · exact .inl ⟨by omega, h2⟩
theorem mem_near {N : Nat} {Q : Nat → Nat → Int} {a least : Int} {x : Nat} : x ∈ near N Q a least ↔ x < N ∧ 0 < qual N Q a x ∧ least ≤ qual N Q a x := mem_nr
theorem qual_comm (N : Nat) (Q : Nat → Nat → Int) (a b : Int) : qual N Q a b = qual N Q b a := by
  unfold qual
  by_cases h : hasB N a = true ∧ hasB N b = true
  · rw [if_pos h, if_pos ⟨h.2, h.1⟩, Int.min_comm]
  · rw [if_neg h, if_neg (fun q => h ⟨q.2, q.1⟩)]
theorem qual_pos {N : Nat} {Q : Nat → Nat → Int} {a b : Int} (h : 0 < qual N Q a b) : hasB N a = true ∧ hasB N b = true := by
  unfold qual at h
  split at h
  · rename_i h2
    exact h2
  · exact absurd h (by decide)
theorem near_comm {N : Nat} {Q : Nat → Nat → Int} {least : Int} {a b : Nat} (h : b ∈ near N Q a least) : a ∈ near N Q b least := by
  rw [mem_near] at h ⊢
  have h2 := qual_pos h.2.1
  rw [qual_comm]
  exact ⟨by have := hasB_iff.1 h2.1; omega, h.2⟩
theorem nr_sorted {N : Nat} {Q : Nat → Nat → Int} {a least : Int} : ∀ k, (nr N Q a least k).Pairwise (· < ·)
  | 0 => List.Pairwise.nil
  | k + 1 => by
    rw [nr, List.pairwise_append]
    refine ⟨nr_sorted k, ?_, fun x hx y hy => ?_⟩
    · split
      · exact List.pairwise_singleton _ _
      · exact List.Pairwise.nil
    · split at hy
      · rw [List.mem_singleton] at hy
        have := (mem_nr.1 hx).1
        omega
      · cases hy
/-- What holds between two rounds. -/
structure Inv (N : Nat) (Q : Nat → Nat → Int) (least : Int) (R : Rk) (f : List Nat) : Prop where
  root : R 0 = some 0
  inN : ∀ x r, R x = some r → x < N
  only : ∀ x, R x = some 0 → x = 0
  known : ∀ x ∈ f, ∃ r, R x = some r
  up : ∀ x r, R x = some (r + 1) → ∃ y, y ∈ near N Q x least ∧ R y = some r
  done : ∀ x r, R x = some r → x ∉ f → ∀ y, y ∈ near N Q x least → ∃ s, R y = some s ∧ s ≤ r + 1
  row : f.Pairwise fun x y => ∀ s t, R x = some s → R y = some t → s ≤ t ∧ t ≤ s + 1
  low : ∀ x r, R x = some r → x ∉ f → ∀ y ∈ f, ∀ t, R y = some t → r ≤ t
def R0 : Rk := fun j => if j = 0 then some 0 else none
theorem inv_start {N : Nat} (hN : 1 ≤ N) (Q : Nat → Nat → Int) (least : Int) : Inv N Q least R0 [0] := by
  have h : ∀ x r, R0 x = some r → x = 0 ∧ r = 0 := fun x r h => by
    unfold R0 at h
    split at h
    · injection h with h
      exact ⟨by assumption, h.symm⟩
    · cases h
  refine ⟨rfl, fun x r hx => by have := h x r hx; omega, fun x hx => (h x 0 hx).1, fun x hx => ⟨0, by rw [List.mem_singleton.1 hx]; rfl⟩, fun x r hx => by have := (h x _ hx).2; omega, fun x r hx hn => absurd (by rw [(h x r hx).1]; simp) hn, List.pairwise_singleton _ _, fun x r hx hn => absurd (by rw [(h x r hx).1]; simp) hn⟩
theorem inv_step {N : Nat} {Q : Nat → Nat → Int} {least : Int} {R : Rk} {a r : Nat} {f : List Nat} (h : Inv N Q least R (a :: f)) (ha : R a = some r) :
    Inv N Q least (wave N Q least R a r f).1 (wave N Q least R a r f).2 := by
  obtain ⟨news, h1, h2, h3⟩ := visits_is r (near N Q a least) R f
  unfold wave
  generalize visits r (R, f) (near N Q a least) = s at *
  obtain ⟨R', f'⟩ := s
  dsimp only at *
  subst h1
  have ext : ∀ x t, R x = some t → R' x = some t := fun x t hx => by rw [h3, hx]; rfl
  have back : ∀ x t, R' x = some t → R x = some t ∨ (R x = none ∧ x ∈ near N Q a least ∧ t = r + 1) := fun x t hx => by
    rw [h3] at hx
    cases hR : R x with
    | some s => rw [hR] at hx; exact .inl hx
    | none =>
      rw [hR] at hx
      by_cases hm : x ∈ near N Q a least
      · rw [if_neg (by decide), if_pos hm] at hx
        injection hx with hx
        exact .inr ⟨rfl, hm, hx.symm⟩
      · rw [if_neg (by decide), if_neg hm] at hx
        cases hx
  have hrow := List.pairwise_cons.1 h.row
  have hnew : ∀ x ∈ news, R' x = some (r + 1) := fun x hx => by
    have := (h2 x).1 hx
    rw [h3, this.2, if_neg (by decide), if_pos this.1]
  have htail : ∀ x ∈ f, ∃ t, R x = some t ∧ R' x = some t ∧ r ≤ t ∧ t ≤ r + 1 := fun x hx => by
    obtain ⟨t, ht⟩ := h.known x (by simp [hx])
    have := hrow.1 x hx r t ha ht
    exact ⟨t, ht, ext x t ht, this.1, this.2⟩
  have hseen : ∀ y ∈ near N Q a least, ∃ s, R' y = some s ∧ s ≤ r + 1 := fun y hy => by
    cases hR : R y with
    | none => exact ⟨r + 1, by rw [h3, hR, if_neg (by decide), if_pos hy], Nat.le_refl _⟩
    | some s =>
      refine ⟨s, ext y s hR, ?_⟩
      by_cases hf : y ∈ a :: f
      · rcases List.mem_cons.1 hf with rfl | hf
        · rw [ha] at hR
          injection hR with hR
          omega
        · exact (hrow.1 y hf r s ha hR).2
      · have := h.low y s hR hf a (by simp) r ha
        omega
  refine ⟨ext _ _ h.root, fun x t hx => ?_, fun x hx => ?_, fun x hx => ?_, fun x t hx => ?_, fun x t hx hn y hy => ?_, ?_, fun x t hx hn y hy u hu => ?_⟩
  · rcases back x t hx with h4 | h4
    · exact h.inN x t h4
    · exact (mem_near.1 h4.2.1).1
  · rcases back x 0 hx with h4 | h4
    · exact h.only x h4
    · omega
  · rcases List.mem_append.1 hx with hx | hx
    · obtain ⟨t, _, ht, _⟩ := htail x hx
      exact ⟨t, ht⟩
    · exact ⟨_, hnew x hx⟩
  · rcases back x (t + 1) hx with h4 | h4
    · obtain ⟨y, hy, hRy⟩ := h.up x t h4
      exact ⟨y, hy, ext y t hRy⟩
    · exact ⟨a, near_comm h4.2.1, by rw [ext a r ha]; congr 1; omega⟩
  · rw [List.mem_append] at hn
    rcases back x t hx with h4 | h4
    · by_cases hxa : x = a
      · subst hxa
        rw [ha] at h4
        injection h4 with h4
        subst h4
        exact hseen y hy
      · obtain ⟨s, hs, hle⟩ := h.done x t h4 (fun hm => by
          rcases List.mem_cons.1 hm with q | q
          · exact hxa q
          · exact hn (.inl q)) y hy
        exact ⟨s, ext y s hs, hle⟩
    · exact absurd (.inr ((h2 x).2 ⟨h4.2.1, h4.1⟩)) hn
  · rw [List.pairwise_append]
    refine ⟨?_, ?_, fun x hx y hy s t hs ht => ?_⟩
    · have hp := List.Pairwise.and_mem.1 hrow.2
      refine hp.imp (fun {x y} hxy s t hs ht => ?_)
      obtain ⟨s', e1, e2, _⟩ := htail x hxy.1
      obtain ⟨t', e3, e4, _⟩ := htail y hxy.2.1
      rw [e2] at hs
      rw [e4] at ht
      injection hs with hs
      injection ht with ht
      subst hs ht
      exact hxy.2.2 _ _ e1 e3
    · rw [List.pairwise_iff_forall_sublist]
      intro x y hsub s t hs ht
      have hx : x ∈ news := hsub.subset (by simp)
      have hy : y ∈ news := hsub.subset (by simp)
      rw [hnew x hx] at hs
      rw [hnew y hy] at ht
      injection hs with hs
      injection ht with ht
      omega
    · obtain ⟨s', _, e2, e3, e4⟩ := htail x hx
      rw [e2] at hs
      rw [hnew y hy] at ht
      injection hs with hs
      injection ht with ht
      omega
  · have hru : r ≤ u := by
      rcases List.mem_append.1 hy with hy | hy
      · obtain ⟨u', _, e2, e3, _⟩ := htail y hy
        rw [e2] at hu
        injection hu with hu
        omega
      · rw [hnew y hy] at hu
        injection hu with hu
        omega
    rw [List.mem_append] at hn
    rcases back x t hx with h4 | h4
    · by_cases hxa : x = a
      · subst hxa
        rw [ha] at h4
        injection h4 with h4
        omega
      · have := h.low x t h4 (fun hm => by
          rcases List.mem_cons.1 hm with q | q
          · exact hxa q
          · exact hn (.inl q)) a (by simp) r ha
        omega
    · exact absurd (.inr ((h2 x).2 ⟨h4.2.1, h4.1⟩)) hn
/-- What holds when the wave is over. -/
structure Fin_ (N : Nat) (Q : Nat → Nat → Int) (least : Int) (R : Rk) : Prop where
  root : R 0 = some 0
  inN : ∀ x r, R x = some r → x < N
  only : ∀ x, R x = some 0 → x = 0
  up : ∀ x r, R x = some (r + 1) → ∃ y, y ∈ near N Q x least ∧ R y = some r
  near : ∀ x r, R x = some r → ∀ y, y ∈ near N Q x least → ∃ s, R y = some s ∧ s ≤ r + 1
theorem inv_end {N : Nat} {Q : Nat → Nat → Int} {least : Int} {R : Rk} (h : Inv N Q least R []) : Fin_ N Q least R :=
  ⟨h.root, h.inN, h.only, h.up, fun x r hx => h.done x r hx (by simp)⟩
/-- How many have no rank yet. -/
def left (R : Rk) : Nat := (List.range 16).countP fun i => (R i).isNone
theorem left_visit (r : Nat) (s : Rk × List Nat) (b : Nat) (hb : b < 16) : left (visit r s b).1 + (visit r s b).2.length = left s.1 + s.2.length := by
  unfold visit
  cases hs : s.1 b with
  | some q => rfl
  | none =>
    rw [Option.isSome_none, if_neg (by decide)]
    dsimp only
    rw [List.length_append, List.length_singleton]
    suffices h : left s.1 = left (fun j => if j = b then some (r + 1) else s.1 j) + 1 by omega
    unfold left
    have hg : ∀ n, b < n → (List.range n).countP (fun i => (s.1 i).isNone) = (List.range n).countP (fun i => (if i = b then some (r + 1) else s.1 i).isNone) + 1 := by
      intro n hn
      induction n with
      | zero => omega
      | succ n ih =>
        rw [List.range_succ, List.countP_append, List.countP_append]
        by_cases h : b = n
        · subst h
          have e : (List.range b).countP (fun i => (s.1 i).isNone) = (List.range b).countP (fun i => (if i = b then some (r + 1) else s.1 i).isNone) := by
            refine List.countP_congr (fun x hx => ?_)
            have := List.mem_range.1 hx
            rw [if_neg (by omega)]
          rw [e]
          simp [hs]
        · rw [ih (by omega)]
          have : (if n = b then some (r + 1) else s.1 n) = s.1 n := if_neg (fun q => h q.symm)
          simp only [List.countP_singleton, this]
          omega
    exact hg 16 hb
theorem left_visits (r : Nat) : ∀ (l : List Nat) (s : Rk × List Nat), (∀ b ∈ l, b < 16) → left (visits r s l).1 + (visits r s l).2.length = left s.1 + s.2.length
  | [], _, _ => rfl
  | b :: l, s, h => by
    have := left_visits r l (visit r s b) (fun x hx => h x (by simp [hx]))
    have h2 := left_visit r s b (h b (by simp))
    have e : visits r s (b :: l) = visits r (visit r s b) l := rfl
    rw [e]
    omega
/-- Which of two neighbours is better. -/
def ltQ (N : Nat) (Q : Nat → Nat → Int) (n : Nat) (x y : Nat) : Bool := decide (qual N Q n y < qual N Q n x ∨ (qual N Q n y = qual N Q n x ∧ x < y))
/-- Whom a node may follow: all of them. -/
def cand (N : Nat) (Q : Nat → Nat → Int) (least : Int) (R : Rk) (n : Nat) : List Nat := (near N Q n least).filter fun p => decide (((R p).getD 0 : Nat) = (((R n).getD 0 : Nat) : Int) - 1)
end Go.Proofs.YtahcplddonipcaaGreat.Tr
