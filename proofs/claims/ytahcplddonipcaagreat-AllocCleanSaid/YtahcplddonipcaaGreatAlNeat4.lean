/-
  Deal (chapter 22), what follows: the tree's order, its first parents; pairs that are counted.
-/
import Derived.Test.YtahcplddonipcaaGreatAlNea
import Derived.Test.YtahcplddonipcaaGreatTrOrder
import Derived.Test.YtahcplddonipcaaGreatMapPair
set_option linter.unusedSimpArgs false
set_option maxRecDepth 100000
namespace Go.Proofs.YtahcplddonipcaaGreat.Al
set_option linter.unusedVariables false
set_option linter.unusedSimpArgs false
open Go.RowKit Lb Cl Ce Tp Tr

theorem ordN_perm {R : Rk} (hs : ∀ x s, R x = some s → s ≤ 15) : (ordT R).Perm ((List.range 16).filter fun i => (R i).isSome) := by
  rw [← ordF_val, ← rnkF_val]
  exact (ordF_perm hs).map _
theorem ordN_len {R : Rk} (hs : ∀ x s, R x = some s → s ≤ 15) : (ordT R).length ≤ 16 := by
  rw [(ordN_perm hs).length_eq]
  exact Nat.le_trans (List.length_filter_le _ _) (by simp)
theorem ordN_nodup {R : Rk} (hs : ∀ x s, R x = some s → s ≤ 15) : (ordT R).Nodup := (ordN_perm hs).nodup_iff.2 (List.Pairwise.filter _ List.nodup_range)
theorem ordN_mem {R : Rk} (hs : ∀ x s, R x = some s → s ≤ 15) : ∀ x ∈ ordT R, x < 16 ∧ ∃ r, R x = some r := fun x hx => by
  obtain ⟨h1, h2⟩ := List.mem_filter.1 ((ordN_perm hs).mem_iff.1 hx)
  exact ⟨List.mem_range.1 h1, Option.isSome_iff_exists.1 h2⟩
/-- First parents lie one rank nearer. -/
theorem first_par {R : Rk} {P : Nat → List Nat} (hF : Firsts R P) (hs : ∀ x s, R x = some s → s ≤ 15) : ∀ m ∈ ordT R, m ≠ 0 → m < 16 ∧ (fun z => (P z).headD 0) m < 16 ∧ m ≠ (fun z => (P z).headD 0) m ∧ ((fun z => (P z).headD 0) m ≠ 0 → (fun z => (P z).headD 0) ((fun z => (P z).headD 0) m) ≠ m) := by
  have up : ∀ m r, R m = some r → m ≠ 0 → ∃ p s, (fun z => (P z).headD 0) m = p ∧ r = s + 1 ∧ R p = some s ∧ p < 16 := fun m r hr hm => by
    obtain ⟨s, rfl⟩ : ∃ s, r = s + 1 := by
      rcases Nat.eq_zero_or_pos r with e | e
      · subst e
        exact absurd (hF.only m hr) hm
      · exact ⟨r - 1, by omega⟩
    obtain ⟨p, l, hp1, hp2, hp3⟩ := hF.first m s hr
    exact ⟨p, s, by dsimp only; rw [hp1]; rfl, rfl, hp2, hp3⟩
  intro m hm h0
  obtain ⟨h1, r, hr⟩ := ordN_mem hs m hm
  obtain ⟨p, s, e, rfl, hp, h16⟩ := up m r hr h0
  rw [e]
  refine ⟨h1, h16, fun q => ?_, fun hp0 => ?_⟩
  · rw [q, hp] at hr
    injection hr with hr
    omega
  · obtain ⟨p2, s2, e2, rfl, hp2, _⟩ := up p s hp hp0
    rw [e2]
    intro q
    rw [q, hr] at hp2
    injection hp2 with hp2
    omega
theorem outN (f : Int) (len chans : Nat) (par : Nat → Nat) (l : List Nat) : (dealF f len chans par l).2.Sublist l ∧ ∀ x ∈ (dealF f len chans par l).2, x ≠ 0 := by
  have key : ∀ (l : List Nat) (s : Hs × List Nat), ∃ r, (l.foldl (stepF f len chans par) s).2 = s.2 ++ r ∧ r.Sublist l ∧ ∀ x ∈ r, x ≠ 0 := by
    intro l
    induction l with
    | nil => intro s; exact ⟨[], by simp, List.Sublist.refl _, fun x hx => by cases hx⟩
    | cons n l ih =>
      intro s
      obtain ⟨r, h1, h2, h3⟩ := ih (stepF f len chans par s n)
      rw [List.foldl_cons, h1]
      by_cases h0 : n = 0
      · have e : stepF f len chans par s n = s := by unfold stepF; exact if_pos h0
        exact ⟨r, by rw [e], h2.cons _, h3⟩
      · cases hs : serveF s.1 f len chans n (par n) with
        | some G =>
          have e : stepF f len chans par s n = (G, s.2) := by
            unfold stepF
            rw [if_neg h0, hs]
          exact ⟨r, by rw [e], h2.cons _, h3⟩
        | none =>
          have e : stepF f len chans par s n = (s.1, s.2 ++ [n]) := by
            unfold stepF
            rw [if_neg h0, hs]
          refine ⟨n :: r, by rw [e]; simp, h2.cons_cons _, fun x hx => ?_⟩
          rcases List.mem_cons.1 hx with rfl | hx
          · exact h0
          · exact h3 x hx
  obtain ⟨r, h1, h2, h3⟩ := key l (fun _ => [], [])
  have e : (dealF f len chans par l).2 = r := by
    unfold dealF
    rw [h1]
    rfl
  rw [e]
  exact ⟨h2, h3⟩
/-- How often a node and a slot, a slot and a channel, were counted. -/
def atC (vis : List (Nat × C)) (a b : Int) : Nat := vis.countP fun p => decide ((p.1 : Int) = a ∧ p.2.s = b)
def onC (vis : List (Nat × C)) (a b : Int) : Nat := vis.countP fun p => decide (p.2.s = a ∧ p.2.c = b)
theorem atC_snoc (vis : List (Nat × C)) (k : Nat) (c : C) : (fun x y => if x = (k : Int) ∧ y = c.s then atC vis k c.s + 1 else atC vis x y) = atC (vis ++ [(k, c)]) := by
  funext x y
  unfold atC
  rw [List.countP_append, List.countP_cons, List.countP_nil]
  by_cases e : x = (k : Int) ∧ y = c.s
  · obtain ⟨rfl, rfl⟩ := e
    simp
  · rw [if_neg e]
    have e2 : ¬ ((k : Int) = x ∧ c.s = y) := fun q => e ⟨q.1.symm, q.2.symm⟩
    simp [e2]
theorem onC_snoc (vis : List (Nat × C)) (k : Nat) (c : C) : (fun x y => if x = c.s ∧ y = c.c then onC vis c.s c.c + 1 else onC vis x y) = onC (vis ++ [(k, c)]) := by
  funext x y
  unfold onC
  rw [List.countP_append, List.countP_cons, List.countP_nil]
  by_cases e : x = c.s ∧ y = c.c
  · obtain ⟨rfl, rfl⟩ := e
    simp
  · rw [if_neg e]
    have e2 : ¬ (c.s = x ∧ c.c = y) := fun q => e ⟨q.1.symm, q.2.symm⟩
    simp [e2]
/-- The cells of the nodes ks, in a row. -/
def visO (G : Hs) (ks : List Nat) : List (Nat × C) := ks.flatMap fun k => (G k).map fun c => (k, c)
theorem visO_snoc (G : Hs) (ks : List Nat) (k : Nat) : visO G (ks ++ [k]) = visO G ks ++ (G k).map fun c => (k, c) := by
  unfold visO
  rw [List.flatMap_append]
  simp
theorem visO_perm (G : Hs) {ks js : List Nat} (h : ks.Perm js) : (visO G ks).Perm (visO G js) := h.flatMap_right _
/-- Each node and slot once. -/
theorem at_once {G : Hs} {f : Int} {len chans : Nat} (h : Neat G f len chans) : ∀ ks : List Nat, ks.Nodup → (∀ k ∈ ks, k < 16) → ∀ a b, atC (visO G ks) a b ≤ 1 := by
  intro ks
  induction ks with
  | nil => intro _ _ a b; exact Nat.zero_le _
  | cons k ks ih =>
    intro hn hk a b
    rw [List.nodup_cons] at hn
    have e : visO G (k :: ks) = ((G k).map fun c => (k, c)) ++ visO G ks := rfl
    unfold atC at ih ⊢
    rw [e, List.countP_append, List.countP_map]
    have h1 := ih hn.2 (fun q hq => hk q (by simp [hq])) a b
    by_cases ha : (k : Int) = a
    · have h2 : (visO G ks).countP (fun p => decide ((p.1 : Int) = a ∧ p.2.s = b)) = 0 := by
        rw [List.countP_eq_zero]
        intro p hp hd
        obtain ⟨q, hq, hp2⟩ := List.mem_flatMap.1 hp
        obtain ⟨c, _, rfl⟩ := List.mem_map.1 hp2
        rw [decide_eq_true_eq] at hd
        have : q = k := by have := hd.1.trans ha.symm; omega
        exact hn.1 (this ▸ hq)
      have h3 := one_in h (hk k (by simp)) b
      have h4 : (G k).countP ((fun p : Nat × C => decide ((p.1 : Int) = a ∧ p.2.s = b)) ∘ fun c => (k, c)) ≤ (G k).countP (fun c => c.s == b) := List.countP_mono_left (fun c _ hc => by
        simp only [Function.comp, decide_eq_true_eq] at hc
        simpa using hc.2)
      omega
    · have h2 : (G k).countP ((fun p : Nat × C => decide ((p.1 : Int) = a ∧ p.2.s = b)) ∘ fun c => (k, c)) = 0 := by
        rw [List.countP_eq_zero]
        intro c _ hc
        simp only [Function.comp, decide_eq_true_eq] at hc
        exact ha hc.1
      omega
theorem on_sum (G : Hs) (s ch : Int) : ∀ ks : List Nat, onC (visO G ks) s ch = (ks.map fun k => (G k).countP (pl s ch)).sum
  | [] => rfl
  | k :: ks => by
    have e : visO G (k :: ks) = ((G k).map fun c => (k, c)) ++ visO G ks := rfl
    have ih := on_sum G s ch ks
    unfold onC at ih ⊢
    rw [e, List.countP_append, List.countP_map, ih, List.map_cons, List.sum_cons]
    congr 1
    refine List.countP_congr (fun c _ => ?_)
    unfold pl
    simp [Function.comp]
/-- Each place that is taken twice. -/
theorem on_twice {G : Hs} {f : Int} {len chans : Nat} (h : Neat G f len chans) {ks : List Nat} (hn : ks.Nodup) (hk : ∀ k, k ∈ ks ↔ k < 16 ∧ G k ≠ []) {s ch : Int} (h0 : 0 < onC (visO G ks) s ch) : onC (visO G ks) s ch = 2 := by
  obtain ⟨p, hp, hd⟩ := List.countP_pos_iff.1 h0
  obtain ⟨k, hks, hp2⟩ := List.mem_flatMap.1 hp
  obtain ⟨c, hc, rfl⟩ := List.mem_map.1 hp2
  rw [decide_eq_true_eq] at hd
  have h2 := place_two h ((hk k).1 hks).1 hc
  obtain ⟨rfl, rfl⟩ := hd
  rw [on_sum, ← h2]
  have hperm : ks.Perm ((List.range 16).filter fun k => decide (G k ≠ [])) := by
    refine (List.perm_ext_iff_of_nodup hn (List.Pairwise.filter _ List.nodup_range)).2 (fun a => ?_)
    rw [hk a, List.mem_filter, List.mem_range, decide_eq_true_eq]
  rw [(hperm.map _).sum_nat]
  have : ∀ l : List Nat, ((l.filter fun k => decide (G k ≠ [])).map fun k => (G k).countP (pl c.s c.c)).sum = (l.map fun k => (G k).countP (pl c.s c.c)).sum := by
    intro l
    induction l with
    | nil => rfl
    | cons a l ih =>
      rw [List.map_cons, List.sum_cons]
      by_cases ha : G a = []
      · rw [List.filter_cons_of_neg (by simp [ha]), ih, ha]
        simp
      · rw [List.filter_cons_of_pos (by simp [ha]), List.map_cons, List.sum_cons, ih]
  exact this _
end Go.Proofs.YtahcplddonipcaaGreat.Al
