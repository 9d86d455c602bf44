/-
  Rows of cells (api.Cell, five integers each) as functions from places to records; the first place at which a test holds.
-/
import Derived.Lib.Hide
import Derived.Test.YtdpkiolngglpaaaBlk
set_option maxRecDepth 100000
namespace Go.Proofs.Ytdpkiolngglpaaa.Cl
set_option linter.unusedVariables false
set_option linter.unusedSimpArgs false
open Go.RowKit Lb

def frB (f : Int) : Bool := decide (0 ≤ f ∧ f < 4)
def ndB (p : Int) : Bool := decide (0 ≤ p ∧ p < 16)
def opB (o : Int) : Bool := decide (o = 1 ∨ o = 2 ∨ o = 3 ∨ o = 5 ∨ o = 7 ∨ o = 9 ∨ o = 10 ∨ o = 11 ∨ o = 13 ∨ o = 15)
def inB (f s c : Int) : Bool := decide (0 ≤ f ∧ f < 4 ∧ 0 ≤ s ∧ s < 200 ∧ 0 ≤ c ∧ c < 16)
def peB (p : Int) : Bool := decide (p = 64 ∨ (0 ≤ p ∧ p < 16))
def mayC (f s c o p : Int) : Bool := inB f s c && peB p && opB o


structure C where
  f : Int
  s : Int
  c : Int
  o : Int
  p : Int
def C.vals (x : C) : Array Value := #[.int .i64 x.f, .int .i64 x.s, .int .i64 x.c, .int .i64 x.o, .int .i64 x.p]
def C.may (x : C) : Bool := mayC x.f x.s x.c x.o x.p
def cv (L : Nat → C) (q : Nat) : Value := ((L (q / 5)).vals[q % 5]?).getD undef
theorem cv0 (L : Nat → C) (k : Nat) : cv L (k * 5) = .int .i64 (L k).f := by
  unfold cv; rw [show k * 5 / 5 = k by omega, show k * 5 % 5 = 0 by omega]; rfl
theorem cv1 (L : Nat → C) (k : Nat) : cv L (k * 5 + 1) = .int .i64 (L k).s := by
  unfold cv; rw [show (k * 5 + 1) / 5 = k by omega, show (k * 5 + 1) % 5 = 1 by omega]; rfl
theorem cv2 (L : Nat → C) (k : Nat) : cv L (k * 5 + 2) = .int .i64 (L k).c := by
  unfold cv; rw [show (k * 5 + 2) / 5 = k by omega, show (k * 5 + 2) % 5 = 2 by omega]; rfl
theorem cv3 (L : Nat → C) (k : Nat) : cv L (k * 5 + 3) = .int .i64 (L k).o := by
  unfold cv; rw [show (k * 5 + 3) / 5 = k by omega, show (k * 5 + 3) % 5 = 3 by omega]; rfl
theorem cv4 (L : Nat → C) (k : Nat) : cv L (k * 5 + 4) = .int .i64 (L k).p := by
  unfold cv; rw [show (k * 5 + 4) / 5 = k by omega, show (k * 5 + 4) % 5 = 4 by omega]; rfl
/-- The five cells of row k, in a later world. -/
theorem crow {w w' : World} {a : Option Addr} {n k : Nat} {L : Nat → C} (h : Row w a (n * 5) (cv L)) (hb : Below w.heap.size w w') (hk : k < n) :
    ∃ b off, a = some ⟨b, off, none⟩ ∧ b < w.heap.size ∧ w'.cell? ⟨b, off + k * 5, none⟩ = some (.int .i64 (L k).f) ∧ w'.cell? ⟨b, off + k * 5 + 1, none⟩ = some (.int .i64 (L k).s) ∧
      w'.cell? ⟨b, off + k * 5 + 2, none⟩ = some (.int .i64 (L k).c) ∧ w'.cell? ⟨b, off + k * 5 + 3, none⟩ = some (.int .i64 (L k).o) ∧ w'.cell? ⟨b, off + k * 5 + 4, none⟩ = some (.int .i64 (L k).p) := by
  obtain ⟨b, off, h1, h2, h3⟩ := h.at_struct hb hk (by decide)
  exact ⟨b, off, h1, h2, (h3 0 (by decide)).trans (congrArg some (cv0 L k)), (h3 1 (by decide)).trans (congrArg some (cv1 L k)), (h3 2 (by decide)).trans (congrArg some (cv2 L k)), (h3 3 (by decide)).trans (congrArg some (cv3 L k)), (h3 4 (by decide)).trans (congrArg some (cv4 L k))⟩

def least (B : Nat → Bool) : Nat → Option Nat
  | 0 => none
  | n + 1 => match least B n with
    | some k => some k
    | none => if B n = true then some n else none
theorem least_no {B : Nat → Bool} {k : Nat} (h : least B k = none) (hb : B k = false) : least B (k + 1) = none := by simp [least, h, hb]
theorem least_up {B : Nat → Bool} {k n : Nat} {i : Nat} (h : least B k = some i) (hk : k ≤ n) : least B n = some i := by
  induction n with
  | zero => obtain rfl : k = 0 := by omega
            exact h
  | succ n ih =>
    by_cases hk2 : k = n + 1
    · subst hk2; exact h
    · simp [least, ih (by omega)]
theorem least_yes {B : Nat → Bool} {k n : Nat} (h : least B k = none) (hb : B k = true) (hk : k < n) : least B n = some k :=
  least_up (k := k + 1) (by simp [least, h, hb]) hk
theorem least_none {B : Nat → Bool} {n : Nat} : least B n = none ↔ ∀ j, j < n → B j = false := by
  induction n with
  | zero => simp [least]
  | succ n ih =>
    constructor
    · intro h j hj
      simp only [least] at h
      cases e : least B n with
      | some i => rw [e] at h; cases h
      | none =>
        rw [e] at h
        by_cases hj2 : j = n
        · subst hj2
          cases hB : B j
          · rfl
          · simp [hB] at h
        · exact ih.1 e j (by omega)
    · intro h
      exact least_no (ih.2 fun j hj => h j (by omega)) (h n (by omega))
theorem least_some {B : Nat → Bool} {n i : Nat} (h : least B n = some i) : i < n ∧ B i = true ∧ ∀ j, j < i → B j = false := by
  induction n with
  | zero => simp [least] at h
  | succ n ih =>
    simp only [least] at h
    cases e : least B n with
    | some k =>
      rw [e] at h
      cases h
      obtain ⟨h1, h2, h3⟩ := ih e
      exact ⟨by omega, h2, h3⟩
    | none =>
      rw [e] at h
      by_cases hB : B n = true
      · simp [hB] at h
        subst h
        exact ⟨by omega, hB, fun j hj => least_none.1 e j hj⟩
      · simp [hB] at h
theorem least_is {B : Nat → Bool} {n i : Nat} (hi : i < n) (h : B i = true) (hl : ∀ j, j < i → B j = false) : least B n = some i :=
  least_yes (least_none.2 hl) h hi
theorem least_congr {B D : Nat → Bool} {n : Nat} (h : ∀ i, i < n → B i = D i) : least B n = least D n := by
  induction n with
  | zero => rfl
  | succ n ih => simp only [least, ih fun i hi => h i (by omega), h n (by omega)]
end Go.Proofs.Ytdpkiolngglpaaa.Cl
