/-
  Package alloc (chapter 22): what may be together, plainly.
-/
import Derived.Test.YtdpkiolngglpaaaAlClash
import Derived.Test.YtdpkiolngglpaaaAlSort
set_option maxRecDepth 100000
namespace Go.Proofs.Ytdpkiolngglpaaa.Al
set_option linter.unusedVariables false
set_option linter.unusedSimpArgs false
open Go.RowKit Lb Cl Go.Sort

theorem beq_comm_int (x y : Int) : (x == y) = (y == x) := by
  by_cases h : x = y
  · subst h; rfl
  · have h2 : ¬ y = x := fun e => h e.symm
    rw [beq_eq_false_iff_ne.2 h, beq_eq_false_iff_ne.2 h2]
theorem bne_comm_int (x y : Int) : (x != y) = (y != x) := by
  unfold bne
  rw [beq_comm_int]
/-- Two cells clash both ways, or neither. -/
theorem clash_comm (a b : C) (x y : Int) : clashB a b x y = clashB b a y x := by
  have h1 : okB a b x y = okB b a y x := by
    unfold okB
    cases a.may <;> cases b.may <;> cases ndB x <;> cases ndB y <;> rfl
  have h2 : linkB a b x y = linkB b a y x := by
    unfold linkB
    rw [bne_comm_int x y, beq_comm_int a.c b.c]
    cases (y != x) <;> cases (a.p == y) <;> cases (b.p == x) <;> cases (b.c == a.c) <;> cases (wy a.o == 1) <;> cases (wy b.o == 2) <;> cases (wy a.o == 2) <;> cases (wy b.o == 1) <;> rfl
  have h3 : apartB a b x y = apartB b a y x := by
    unfold apartB
    rw [h2, bne_comm_int a.f b.f, bne_comm_int a.s b.s]
  have h4 : nearB a b x y = nearB b a y x := by
    unfold nearB
    rw [beq_comm_int x y, beq_comm_int a.c b.c]
    by_cases h : a.p = b.p
    · rw [h]
      cases (y == x) <;> cases (b.c == a.c) <;> cases (b.p == x) <;> cases (b.p == y) <;> rfl
    · have e1 : (a.p == b.p) = false := beq_eq_false_iff_ne.2 h
      have e2 : (b.p == a.p) = false := beq_eq_false_iff_ne.2 (fun e => h e.symm)
      rw [e1, e2]
      cases (y == x) <;> cases (b.c == a.c) <;> cases (b.p == x) <;> cases (a.p == y) <;> rfl
  unfold clashB
  rw [h1, h3, h4]
def okc (c : C) : Bool := c.may && (Go.bits .and .i64 c.o 4 == 0)
/-- A node's cells that may be dealt. -/
def okE (e : Int × List C) : Bool := (e.2.isEmpty || ndB e.1) && (decide (e.2.length ≤ 800) && e.2.all okc)
def ofE (e : Int × List C) : List Ow := e.2.map fun c => ⟨c, e.1⟩
def allO (L : List (Int × List C)) : List Ow := L.flatMap ofE
def NoC (L : List Ow) : Prop := L.Pairwise fun x y => clashB x.c y.c x.n y.n = false
instance (L : List Ow) : Decidable (NoC L) := inferInstanceAs (Decidable (L.Pairwise _))
/-- Can all be together? -/
def clB (L : List (Int × List C)) : Bool := L.all okE && decide (NoC (allO L))
theorem noC_perm {L M : List Ow} (h : L.Perm M) : NoC L ↔ NoC M :=
  h.pairwise_iff (fun {x y} e => by rw [clash_comm]; exact e)
theorem allO_perm {L M : List (Int × List C)} (h : L.Perm M) : (allO L).Perm (allO M) := h.flatMap_right _
theorem clB_perm {L M : List (Int × List C)} (h : L.Perm M) : clB L = clB M := by
  unfold clB
  rw [decide_eq_decide.2 (noC_perm (allO_perm h))]
  congr 1
  rw [Bool.eq_iff_iff, List.all_eq_true, List.all_eq_true]
  exact ⟨fun g x hx => g x (h.mem_iff.2 hx), fun g x hx => g x (h.mem_iff.1 hx)⟩
/-- Cells that clash, each of which may be of its node, are of one slot. -/
theorem clash_same {x y : Ow} (hx : x.c.may = true ∧ ndB x.n = true) (hy : y.c.may = true ∧ ndB y.n = true) (h : clashB x.c y.c x.n y.n = true) : x.c.f = y.c.f ∧ x.c.s = y.c.s := by
  unfold clashB okB at h
  rw [hx.1, hx.2, hy.1, hy.2] at h
  simp only [Bool.and_self, if_true] at h
  by_cases h2 : apartB x.c y.c x.n y.n = true
  · rw [if_pos h2] at h
    cases h
  · unfold apartB at h2
    simp only [Bool.or_eq_true, bne_iff_ne, not_or, Decidable.not_not] at h2
    exact ⟨h2.1, h2.2.1⟩
/-- Those of a good row may each be. -/
theorem good_of {L : List (Int × List C)} (h : ∀ e ∈ L, okE e = true) : ∀ x ∈ allO L, x.c.may = true ∧ ndB x.n = true := fun x hx => by
  unfold allO at hx
  obtain ⟨e, he, hx⟩ := List.mem_flatMap.1 hx
  unfold ofE at hx
  obtain ⟨c, hc, rfl⟩ := List.mem_map.1 hx
  have h1 := h e he
  unfold okE at h1
  rw [Bool.and_eq_true, Bool.and_eq_true, List.all_eq_true, Bool.or_eq_true] at h1
  have h2 := h1.2.2 c hc
  unfold okc at h2
  rw [Bool.and_eq_true] at h2
  refine ⟨h2.1, h1.1.resolve_left (fun h3 => ?_)⟩
  rw [List.isEmpty_iff] at h3
  rw [h3] at hc
  cases hc
/-- Behind the first one of another slot there is none of the same any more. -/
theorem far_of {d : Array Ow} {n i j0 j : Nat} (hs : SortedIn (ltOf cfO) 0 n d) (hi : i < j0) (hj : j0 ≤ j) (hn : j < n) (hne : ¬ (d[i]!.c.f = d[j0]!.c.f ∧ d[i]!.c.s = d[j0]!.c.s)) : ¬ (d[i]!.c.f = d[j]!.c.f ∧ d[i]!.c.s = d[j]!.c.s) := by
  have h1 := hs i j0 (Nat.zero_le _) hi (by omega)
  rw [ltO] at h1
  simp only [decide_eq_false_iff_not] at h1
  rcases Nat.eq_or_lt_of_le hj with e | e
  · subst e
    exact hne
  · have h2 := hs j0 j (Nat.zero_le _) e hn
    rw [ltO] at h2
    simp only [decide_eq_false_iff_not] at h2
    omega
end Go.Proofs.Ytdpkiolngglpaaa.Al
