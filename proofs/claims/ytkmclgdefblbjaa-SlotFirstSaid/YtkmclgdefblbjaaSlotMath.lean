/-
  What to do in a slot (chapter 9): the answers as functions of the cells, of what waits, of whether it is free.
-/
import Derived.Test.YtkmclgdefblbjaaRowC
set_option maxRecDepth 100000
namespace Go.Proofs.Ytkmclgdefblbjaa.Sl
set_option linter.unusedVariables false
open Go.RowKit Lb Cl

def txB (o : Int) : Bool := bits .and .i64 o 1 != 0
def rxB (o : Int) : Bool := bits .and .i64 o 2 != 0
def shB (o : Int) : Bool := bits .and .i64 o 4 != 0
def goB (o : Int) (free : Bool) : Bool := txB o && (free || !shB o)
/-- The first place of what a cell to p can carry. -/
def plc (W : Nat → Int) (m : Nat) (p : Int) : Option Nat := least (fun i => p == 64 || p == W i) m
def sOK (L : Nat → C) (W : Nat → Int) (m : Nat) (free : Bool) (k : Nat) : Bool := (L k).may && goB (L k).o free && (plc W m (L k).p).isSome
def lOK (L : Nat → C) (k : Nat) : Bool := (L k).may && rxB (L k).o
def idle : Array Value := #[.int .i64 0, .int .i64 0, .int .i64 0, .int .i64 0, .int .i64 0, .int .i64 0, .int .i64 0]
def act (k : Int) (c : C) (at_ : Int) : Array Value := #[.int .i64 k, .int .i64 c.f, .int .i64 c.s, .int .i64 c.c, .int .i64 c.o, .int .i64 c.p, .int .i64 at_]
def zeroC : C := ⟨0, 0, 0, 0, 0⟩
structure A where
  k : Int
  x : C
  at_ : Int
def A.vals (a : A) : Array Value := #[.int .i64 a.k, .int .i64 a.x.f, .int .i64 a.x.s, .int .i64 a.x.c, .int .i64 a.x.o, .int .i64 a.x.p, .int .i64 a.at_]
def dec (L : Nat → C) (n : Nat) (W : Nat → Int) (m : Nat) (free : Bool) : A :=
  match least (sOK L W m free) n with
  | some k => ⟨1, L k, ((plc W m (L k).p).getD 0 : Nat)⟩
  | none => match least (lOK L) n with
    | some k => ⟨2, L k, 0⟩
    | none => ⟨0, zeroC, 0⟩

/-- The table of first places, after k of what waits. -/
def fst0 (W : Nat → Int) (k : Nat) (q : Nat) : Int :=
  if q < 16 then (match least (fun i => W i == (q : Int)) k with | some i => (i : Int) | none => -1) else -1
def fst1 (W : Nat → Int) (m : Nat) (q : Nat) : Int := if q = 16 then (if 0 < m then 0 else -1) else fst0 W m q
theorem fst0_zero (W : Nat → Int) (q : Nat) : fst0 W 0 q = -1 := by unfold fst0; simp [least]
/-- One more that waits: to nobody of the table, or to one that has a place. -/
theorem fst0_skip {W : Nat → Int} {k : Nat} (h : W k < 0 ∨ 16 ≤ W k ∨ fst0 W k (W k).toNat ≠ -1) (q : Nat) : fst0 W (k + 1) q = fst0 W k q := by
  unfold fst0
  by_cases hq : q < 16
  · rw [if_pos hq, if_pos hq]
    cases e : least (fun i => W i == (q : Int)) k with
    | some i => rw [least_up e (by omega)]
    | none =>
      rw [least_no e]
      by_cases hw : W k = (q : Int)
      · rcases h with h | h | h
        · omega
        · omega
        · exfalso
          apply h
          have : (W k).toNat = q := by omega
          rw [this]
          unfold fst0
          rw [if_pos hq, e]
      · simp [hw]
  · rw [if_neg hq, if_neg hq]
theorem fst0_take {W : Nat → Int} {k p : Nat} (hp : W k = (p : Int)) (h1 : p < 16) (h : fst0 W k p = -1) (q : Nat) : fst0 W (k + 1) q = if q = p then (k : Int) else fst0 W k q := by
  unfold fst0 at h ⊢
  rw [if_pos h1] at h
  have e0 : least (fun i => W i == (p : Int)) k = none := by
    cases e : least (fun i => W i == (p : Int)) k with
    | some i => rw [e] at h; simp at h
    | none => rfl
  by_cases hq : q = p
  · subst hq
    rw [if_pos h1, if_pos rfl, least_yes e0 (by simp [hp]) (Nat.lt_succ_self k)]
  · rw [if_neg hq]
    by_cases hq2 : q < 16
    · rw [if_pos hq2, if_pos hq2]
      cases e : least (fun i => W i == (q : Int)) k with
      | some i => rw [least_up e (by omega)]
      | none => rw [least_no e (by simp [hp]; omega)]
    · rw [if_neg hq2, if_neg hq2]
theorem fst0_bd (W : Nat → Int) (k q : Nat) : -1 ≤ fst0 W k q ∧ fst0 W k q < k + 1 := by
  unfold fst0
  split
  · split
    · next i e => have := (least_some e).1; omega
    · omega
  · omega
theorem fst1_bd (W : Nat → Int) (k q : Nat) : -1 ≤ fst1 W k q ∧ fst1 W k q < k + 1 := by
  unfold fst1
  split
  · split <;> omega
  · exact fst0_bd W k q
/-- The place that the table tells for a cell to p. -/
theorem fst1_plc {W : Nat → Int} {m : Nat} {p : Int} (hp : peB p = true) :
    (∃ i : Nat, plc W m p = some i ∧ i < m ∧ fst1 W m (min p 16).toNat = (i : Int)) ∨ (plc W m p = none ∧ fst1 W m (min p 16).toNat = -1) := by
  unfold peB at hp
  simp only [decide_eq_true_eq] at hp
  rcases hp with rfl | ⟨h0, h1⟩
  · have e : (min (64 : Int) 16).toNat = 16 := by decide
    rw [e]
    unfold fst1 plc
    rw [if_pos rfl]
    by_cases hm : 0 < m
    · refine .inl ⟨0, ?_, hm, by rw [if_pos hm]; rfl⟩
      exact least_is hm (by simp) (fun j hj => by omega)
    · obtain rfl : m = 0 := by omega
      exact .inr ⟨rfl, by rw [if_neg hm]⟩
  · have e : (min p 16).toNat = p.toNat := by omega
    rw [e]
    unfold fst1 plc fst0
    rw [if_neg (by omega), if_pos (by omega)]
    have e2 : least (fun i => p == 64 || p == W i) m = least (fun i => W i == ((p.toNat : Nat) : Int)) m := least_congr fun i _ => by
      have h64 : (p == 64) = false := by simp; omega
      rw [h64, Bool.false_or]
      by_cases hw : p = W i
      · subst hw
        simp [Int.toNat_of_nonneg h0]
      · have : ¬ W i = ((p.toNat : Nat) : Int) := by omega
        rw [beq_eq_false_iff_ne.2 hw, beq_eq_false_iff_ne.2 this]
    rw [e2]
    cases e3 : least (fun i => W i == ((p.toNat : Nat) : Int)) m with
    | some i => exact .inl ⟨i, rfl, (least_some e3).1, rfl⟩
    | none => exact .inr ⟨rfl, rfl⟩
theorem tx_is (o : Int) (b : Bool) (h : txB o = b) : (bits .and .i64 o 1 != 0) = b ∧ (bits .and .i64 o 1 == 0) = !b := by
  unfold txB at h
  refine ⟨h, ?_⟩
  rw [← h]
  simp [bne]
end Go.Proofs.Ytkmclgdefblbjaa.Sl
