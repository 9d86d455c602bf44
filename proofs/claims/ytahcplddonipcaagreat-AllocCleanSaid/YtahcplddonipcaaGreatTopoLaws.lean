/-
  Layer 20: what a graph keeps, whatever is said; lists; the graph that every program must know; graphs that are made of calls.
-/
import Derived.Test.YtahcplddonipcaaGreatTopoRef
import Derived.Test.YtahcplddonipcaaGreatTopoArg
import Derived.Deep.CutRange
set_option maxRecDepth 100000
namespace Go.Proofs.YtahcplddonipcaaGreat.Tp
set_option linter.unusedVariables false
set_option linter.unusedSimpArgs false
open Go.RowKit Lb

def Fine (N : Nat) (Q : Nat → Nat → Int) : Prop := 1 ≤ N ∧ N ≤ 16 ∧ ∀ a b, 0 ≤ Q a b ∧ Q a b ≤ 255 ∧ Q a a = 0 ∧ (N ≤ a ∨ N ≤ b → Q a b = 0)
theorem fine_new (x : Int) : Fine (min (max x 1) 16).toNat (fun _ _ => 0) := ⟨by omega, by omega, fun a b => ⟨Int.le_refl _, by show (0 : Int) ≤ 255; decide, rfl, fun _ => rfl⟩⟩
theorem hasB_iff {N : Nat} {x : Int} : hasB N x = true ↔ 0 ≤ x ∧ x < (N : Int) := by unfold hasB; simp
theorem rowR_ok {N m : Nat} {L : Nat → Lk} : ∀ n, okR N m L n = true → ∀ j, 0 ≤ rowR L n j ∧ rowR L n j ≤ 255 ∧ rowR L n m = 0 ∧ (N ≤ j → rowR L n j = 0)
  | 0, _, j => ⟨Int.le_refl _, by show (0 : Int) ≤ 255; decide, rfl, fun _ => rfl⟩
  | n + 1, h, j => by
    unfold okR at h
    simp only [Bool.and_eq_true] at h
    obtain ⟨h1, h2⟩ := h
    obtain ⟨r1, r2, r3, r4⟩ := rowR_ok n h1 j
    unfold good1 at h2
    simp only [Bool.and_eq_true, decide_eq_true_eq, bne_iff_ne] at h2
    obtain ⟨⟨⟨⟨_, hb⟩, hh⟩, hq⟩, _⟩ := h2
    rw [hasB_iff] at hh
    refine ⟨?_, ?_, ?_, ?_⟩
    · unfold rowR; split <;> omega
    · unfold rowR; split <;> omega
    · unfold rowR; rw [if_neg (by omega)]; exact r3
    · intro hj; unfold rowR; rw [if_neg (by omega)]; exact r4 hj
theorem fine_rep {N : Nat} {Q : Nat → Nat → Int} (h : Fine N Q) (me : Int) (L : Nat → Lk) (n : Nat) : Fine N (repTo N Q me L n) := by
  unfold repTo
  split
  · next hr =>
    unfold repB at hr
    simp only [Bool.and_eq_true] at hr
    obtain ⟨⟨h1, _⟩, h3⟩ := hr
    rw [hasB_iff] at h1
    obtain ⟨m, rfl⟩ := Int.eq_ofNat_of_zero_le h1.1
    obtain ⟨f1, f2, f3⟩ := h
    refine ⟨f1, f2, fun a b => ?_⟩
    obtain ⟨q1, q2, q3, q4⟩ := f3 a b
    obtain ⟨r1, r2, r3, r4⟩ := rowR_ok n h3 b
    by_cases ha : a = m
    · subst ha
      simp only [Int.toNat_natCast, if_true]
      exact ⟨r1, r2, r3, fun hx => r4 (by omega)⟩
    · simp only [Int.toNat_natCast, if_neg ha]
      exact ⟨q1, q2, q3, q4⟩
  · exact h
theorem fine_gone {N : Nat} {Q : Nat → Nat → Int} (h : Fine N Q) (x : Int) : Fine N (goneTo N Q x) := by
  unfold goneTo
  split
  · obtain ⟨f1, f2, f3⟩ := h
    refine ⟨f1, f2, fun a b => ?_⟩
    obtain ⟨q1, q2, q3, q4⟩ := f3 a b
    unfold gone
    refine ⟨by split <;> omega, by split <;> omega, by split <;> omega, fun hx => ?_⟩
    split
    · rfl
    · exact q4 hx
  · exact h

def hasL (l : List Nat) (x : Int) : Bool := l.any fun y => (y : Int) == x
theorem hasL_take (l : List Nat) (x : Int) : hasL l x = false ↔ ∀ i, i < l.length → ((l.getD i 0 : Nat) : Int) ≠ x := by
  unfold hasL
  rw [List.any_eq_false]
  constructor
  · intro h i hi
    have := h (l[i]) (List.getElem_mem hi)
    rw [List.getD_eq_getElem?_getD, List.getElem?_eq_getElem hi]
    simpa using this
  · intro h y hy
    obtain ⟨i, hi, rfl⟩ := List.mem_iff_getElem.1 hy
    have := h i hi
    rw [List.getD_eq_getElem?_getD, List.getElem?_eq_getElem hi] at this
    simpa using this
theorem hasL_at {l : List Nat} {x : Int} {i : Nat} (hi : i < l.length) (h : ((l.getD i 0 : Nat) : Int) = x) : hasL l x = true := by
  cases e : hasL l x
  · exact absurd h ((hasL_take l x).1 e i hi)
  · rfl

def LkA (i : Nat) : Lk := if i = 0 then ⟨0, 1, 9⟩ else ⟨0, 0, 0⟩
def LkB (i : Nat) : Lk := if i = 0 then ⟨1, 0, 7⟩ else ⟨0, 0, 0⟩
def QA : Nat → Nat → Int := repTo 3 (fun _ _ => 0) 0 LkA 1
def QB : Nat → Nat → Int := repTo 3 QA 1 LkB 1
end Go.Proofs.YtahcplddonipcaaGreat.Tp
