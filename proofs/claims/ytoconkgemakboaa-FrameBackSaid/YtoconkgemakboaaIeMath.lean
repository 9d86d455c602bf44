/-
  Package ie (chapter 6): elements as plain data; which may be; their bytes.
-/
import Derived.Test.YtoconkgemakboaaBfByte
set_option maxRecDepth 100000
namespace Go.Proofs.Ytoconkgemakboaa.Ie
set_option linter.unusedVariables false
open Go.RowKit Lb Bf

structure El where
  k : Int
  asn : Int
  rank : Int
  ticks : Int
  list : List Int
def El.vals (e : El) (a : Option Addr) (c : Nat) : Array Value := #[.int .i64 e.k, .int .i64 e.asn, .int .i64 e.rank, .int .i64 e.ticks, .slice a e.list.length c]
def zval (zs : List Int) (j : Nat) : Value := .int .i64 (zs.getD j 0)
/-- The row of an element, as it lies. -/
structure El.At (w : World) (e : El) (a : Option Addr) (c : Nat) : Prop where
  lc : e.list.length ≤ c
  cm : c ≤ maxLen
  row : Row w a e.list.length (zval e.list)
  nil : a = none → e.list.length = 0
theorem El.At.below {w w' : World} {e : El} {a : Option Addr} {c : Nat} (h : e.At w a c) (b : Below w.heap.size w w') : e.At w' a c := ⟨h.lc, h.cm, h.row.below b, h.nil⟩
def octB (x : Int) : Bool := decide (0 ≤ x ∧ x ≤ 255)
def octsB (l : List Int) : Bool := decide (∀ j, j < l.length → 0 ≤ l.getD j 0 ∧ l.getD j 0 ≤ 255)
def listB (l : List Int) : Bool := octsB l && decide (l.length ≤ 16)
/-- Its own kind's fields are within their bounds. -/
def fitB (e : El) : Bool :=
  if e.k = 1 then decide (0 ≤ e.asn ∧ e.asn < 1099511627776) && octB e.rank
  else if e.k = 2 then decide (-32768 ≤ e.ticks ∧ e.ticks ≤ 32767)
  else if e.k = 3 ∨ e.k = 4 then listB e.list
  else false
/-- What is left of it in its own kind's form. -/
def own (e : El) : El :=
  if e.k = 1 then ⟨1, e.asn, e.rank, 0, []⟩
  else if e.k = 2 then ⟨2, 0, 0, e.ticks, []⟩
  else ⟨e.k, 0, 0, 0, e.list⟩
def sameE (a b : El) : Bool := (a.k == b.k) && ((a.asn == b.asn) && ((a.rank == b.rank) && ((a.ticks == b.ticks) && decide (a.list = b.list))))
theorem sameE_eq {a b : El} (h : sameE a b = true) : a = b := by
  unfold sameE at h
  simp at h
  obtain ⟨h1, h2, h3, h4, h5⟩ := h
  cases a; cases b
  simp at *
  exact ⟨h1, h2, h3, h4, h5⟩
theorem sameE_self (a : El) : sameE a a = true := by unfold sameE; simp
def mayE (e : El) : Bool := fitB e && sameE (own e) e
theorem mayE_out {e : El} (h : mayE e = true) : fitB e = true ∧ own e = e := by
  unfold mayE at h
  rw [Bool.and_eq_true] at h
  exact ⟨h.1, sameE_eq h.2⟩
theorem mayE_kind {e : El} (h : mayE e = true) : e.k = 1 ∨ e.k = 2 ∨ e.k = 3 ∨ e.k = 4 := by
  have h1 := (mayE_out h).1
  unfold fitB at h1
  by_cases k1 : e.k = 1
  · exact .inl k1
  by_cases k2 : e.k = 2
  · exact .inr (.inl k2)
  by_cases k3 : e.k = 3 ∨ e.k = 4
  · exact .inr (.inr k3)
  rw [if_neg k1, if_neg k2, if_neg k3] at h1
  cases h1
/-- A number that may be negative, as 64 bits. -/
def u64 (x : Int) : Nat := (x % 18446744073709551616).toNat
theorem u64_lt (x : Int) : u64 x < 18446744073709551616 := by unfold u64; omega
/-- The bytes of an element. -/
def encOne (e : El) : List Int :=
  if e.k = 1 then [1] ++ [6] ++ bytesK e.asn.toNat 5 ++ [e.rank]
  else if e.k = 2 then [2] ++ [2] ++ bytesK (u64 e.ticks) 2
  else [e.k] ++ [(e.list.length : Int)] ++ e.list
def encL : List El → List Int
  | [] => []
  | e :: l => encOne e ++ encL l
theorem encL_snoc (l : List El) (e : El) : encL (l ++ [e]) = encL l ++ encOne e := by
  induction l with
  | nil => simp [encL]
  | cons x l ih => simp [encL, ih]
theorem encL_take {l : List El} {k : Nat} (hk : k < l.length) : encL (l.take (k + 1)) = encL (l.take k) ++ encOne l[k] := by
  rw [List.take_succ_eq_append_getElem hk, encL_snoc]
def encI (l : List El) : List Int := [(l.length : Int)] ++ encL l
def mayL (l : List El) : Bool := decide (l.length ≤ 4) && l.all mayE
theorem encOne_len {e : El} (h : mayE e = true) : (encOne e).length ≤ 18 := by
  have h1 := (mayE_out h).1
  unfold fitB at h1
  unfold encOne
  by_cases k1 : e.k = 1
  · rw [if_pos k1]; simp [bytesK_len]
  by_cases k2 : e.k = 2
  · rw [if_neg k1, if_pos k2]; simp [bytesK_len]
  by_cases k3 : e.k = 3 ∨ e.k = 4
  · rw [if_neg k1, if_neg k2, if_pos k3] at h1
    rw [if_neg k1, if_neg k2]
    unfold listB at h1
    rw [Bool.and_eq_true, decide_eq_true_eq] at h1
    simp
    omega
  · rw [if_neg k1, if_neg k2, if_neg k3] at h1
    cases h1
end Go.Proofs.Ytoconkgemakboaa.Ie
