/-
  Package route (chapter 19): paths as lists; which may be; where a node stands in one.
-/
import Derived.Test.YtcpmnfoenpdaeaaBits
import Derived.Test.YtcpmnfoenpdaeaaOwn
set_option maxRecDepth 100000
namespace Go.Proofs.Ytcpmnfoenpdaeaa.Rt
set_option linter.unusedVariables false
open Go.RowKit Lb

def zval (zs : List Int) (j : Nat) : Value := .int .i64 (zs.getD j 0)
def bval (zs : List Int) (j : Nat) : Value := .int .u8 (zs.getD j 0)
def ndB (x : Int) : Bool := decide (0 ≤ x ∧ x < 16)
theorem ndB_yes {x : Int} (h : ndB x = true) : 0 ≤ x ∧ x < 16 := by
  unfold ndB at h
  rwa [decide_eq_true_eq] at h
theorem ndB_no {x : Int} (h : ndB x = false) : ¬ (0 ≤ x ∧ x < 16) := by
  unfold ndB at h
  rwa [decide_eq_false_iff_not] at h
/-- The first k are nodes, each once. -/
def Pfx (l : List Int) (k : Nat) : Prop := ∀ j, j < k → ndB (l.getD j 0) = true ∧ ∀ i, i < j → l.getD i 0 ≠ l.getD j 0
instance (l : List Int) (k : Nat) : Decidable (Pfx l k) := by unfold Pfx; infer_instance
def okP (l : List Int) : Bool := decide (l.length ≤ 16 ∧ Pfx l l.length)
theorem okP_yes {l : List Int} (h : l.length ≤ 16) (p : Pfx l l.length) : okP l = true := by
  unfold okP
  rw [decide_eq_true_eq]
  exact ⟨h, p⟩
theorem okP_no {l : List Int} (h : ¬ (l.length ≤ 16 ∧ Pfx l l.length)) : okP l = false := by
  unfold okP
  rw [decide_eq_false_iff_not]
  exact h
theorem okP_out {l : List Int} (h : okP l = true) : l.length ≤ 16 ∧ Pfx l l.length := by
  unfold okP at h
  rwa [decide_eq_true_eq] at h
theorem okP_not {l : List Int} (h : okP l = false) : ¬ (l.length ≤ 16 ∧ Pfx l l.length) := by
  unfold okP at h
  rwa [decide_eq_false_iff_not] at h
theorem pfx_zero (l : List Int) : Pfx l 0 := fun j hj => by omega
theorem pfx_succ {l : List Int} {k : Nat} (h : Pfx l k) (hn : ndB (l.getD k 0) = true) (hd : ∀ i, i < k → l.getD i 0 ≠ l.getD k 0) : Pfx l (k + 1) := fun j hj => by
  by_cases e : j = k
  · subst e; exact ⟨hn, hd⟩
  · exact h j (by omega)
theorem pfx_le {l : List Int} {k m : Nat} (h : Pfx l m) (hk : k ≤ m) : Pfx l k := fun j hj => h j (by omega)
/-- Bit x of s is set just if x is among the first k. -/
def Seen (l : List Int) (k s : Nat) : Prop := s < 2 ^ 16 ∧ ∀ x : Nat, s.testBit x = true ↔ ∃ j, j < k ∧ l.getD j 0 = (x : Int)
theorem seen_zero (l : List Int) : Seen l 0 0 := ⟨by decide, fun x => by simp⟩
theorem seen_succ {l : List Int} {k s d : Nat} (h : Seen l k s) (hd : l.getD k 0 = (d : Int)) (h16 : d < 16) : Seen l (k + 1) (s ||| 1 <<< d) := by
  refine ⟨?_, fun x => ?_⟩
  · rw [Nat.one_shiftLeft]
    exact Nat.or_lt_two_pow h.1 (Nat.pow_lt_pow_right (by decide) h16)
  · rw [Nat.testBit_or, Nat.one_shiftLeft, Nat.testBit_two_pow, Bool.or_eq_true, h.2 x, decide_eq_true_eq]
    constructor
    · rintro (⟨j, hj, e⟩ | e)
      · exact ⟨j, by omega, e⟩
      · exact ⟨k, by omega, by rw [hd, e]⟩
    · rintro ⟨j, hj, e⟩
      by_cases ej : j = k
      · subst ej
        rw [hd] at e
        exact .inr (by omega)
      · exact .inl ⟨j, by omega, e⟩
theorem seen_no {l : List Int} {k s d : Nat} (h : Seen l k s) (hb : s.testBit d = false) : ∀ i, i < k → l.getD i 0 ≠ (d : Int) := fun i hi e => by
  have := (h.2 d).2 ⟨i, hi, e⟩
  rw [hb] at this
  cases this
/-- The first place of x, or -1. -/
def atI (l : List Int) (x : Int) : Int := if (l.idxOf x) < l.length then (l.idxOf x : Int) else -1
theorem atI_is {l : List Int} {x : Int} {k : Nat} (hk : k < l.length) (h : l.getD k 0 = x) (hn : ∀ j, j < k → l.getD j 0 ≠ x) : atI l x = (k : Int) := by
  have e : l.idxOf x = k := by
    have hg : ∀ j (hj : j < l.length), l.getD j 0 = l[j] := fun j hj => by
      rw [List.getD_eq_getElem?_getD, List.getElem?_eq_getElem hj]; rfl
    rw [hg k hk] at h
    have hmem : x ∈ l := h ▸ List.getElem_mem hk
    have h1 : l.idxOf x < l.length := List.idxOf_lt_length_iff.2 hmem
    have h2 : l[l.idxOf x] = x := List.getElem_idxOf h1
    rcases Nat.lt_trichotomy (l.idxOf x) k with h3 | h3 | h3
    · exact absurd (by rw [hg _ h1]; exact h2) (hn _ h3)
    · exact h3
    · exact absurd h (by
        have := List.not_of_lt_findIdx (p := fun y => y == x) (xs := l) h3
        simpa using this)
  unfold atI
  rw [e, if_pos hk]
theorem atI_no {l : List Int} {x : Int} (hn : ∀ j, j < l.length → l.getD j 0 ≠ x) : atI l x = -1 := by
  unfold atI
  rw [if_neg]
  intro h
  refine hn _ h ?_
  rw [List.getD_eq_getElem?_getD, List.getElem?_eq_getElem h]
  exact List.getElem_idxOf h
theorem atI_get {l : List Int} {x : Int} (h : 0 ≤ atI l x) : ∃ k, k < l.length ∧ atI l x = (k : Int) ∧ l.getD k 0 = x ∧ ∀ j, j < k → l.getD j 0 ≠ x := by
  unfold atI at h ⊢
  by_cases h1 : l.idxOf x < l.length
  · refine ⟨l.idxOf x, h1, by rw [if_pos h1], ?_, fun j hj e => ?_⟩
    · rw [List.getD_eq_getElem?_getD, List.getElem?_eq_getElem h1]
      exact List.getElem_idxOf h1
    · have := List.not_of_lt_findIdx (p := fun y => y == x) (xs := l) hj
      rw [List.getD_eq_getElem?_getD, List.getElem?_eq_getElem (by omega)] at e
      simp only [Option.getD_some] at e
      simp [e] at this
  · rw [if_neg h1] at h
    omega
theorem atI_bd (l : List Int) (x : Int) : -1 ≤ atI l x ∧ atI l x < l.length := by
  unfold atI
  split <;> omega
/-- A packet. -/
structure Pk where
  f : Int
  t : Int
  n : Int
  life : Int
  path : List Int
  data : List Int
def mayK (p : Pk) : Bool := ndB p.f && (ndB p.t && (p.f != p.t && (decide (0 ≤ p.n) && (decide (p.n ≤ 70368744177663) && (decide (0 ≤ p.life) && (decide (p.life ≤ 15) && (okP p.path && (decide (1 ≤ p.data.length) && decide (p.data.length ≤ 24)))))))))
def Pk.vals (p : Pk) (a : Option Addr) (c : Nat) (b : Option Addr) (d : Nat) : Array Value := #[.int .i64 p.f, .int .i64 p.t, .int .i64 p.n, .int .i64 p.life, .slice a p.path.length c, .slice b p.data.length d]
/-- The rows of a packet, as they lie. -/
structure Pk.At (w : World) (p : Pk) (a : Option Addr) (c : Nat) (b : Option Addr) (d : Nat) : Prop where
  pc : p.path.length ≤ c
  pm : c ≤ maxLen
  prow : Row w a p.path.length (zval p.path)
  pnil : a = none → p.path.length = 0
  dc : p.data.length ≤ d
  dm : d ≤ maxLen
  drow : Row w b p.data.length (bval p.data)
  dnil : b = none → p.data.length = 0
theorem Pk.At.below {w w' : World} {p : Pk} {a : Option Addr} {c : Nat} {b : Option Addr} {d : Nat} (h : p.At w a c b d) (j : Below w.heap.size w w') : p.At w' a c b d :=
  ⟨h.pc, h.pm, h.prow.below j, h.pnil, h.dc, h.dm, h.drow.below j, h.dnil⟩
end Go.Proofs.Ytcpmnfoenpdaeaa.Rt
