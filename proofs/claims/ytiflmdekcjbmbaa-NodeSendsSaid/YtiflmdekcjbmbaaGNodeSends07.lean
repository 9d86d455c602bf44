/-
  Package route (chapter 19): paths as lists; which may be; where a node stands in one. Package route: which paths may be; where a node stands in one. Package route: slices.Clone at int, bytes.Clone, slices.Reverse at int, off the shelf; Back. An append at a step of a region that draws its order: rows of one cell an element. Package route: a packet with one hop less, in memory of its own. Package route: paths, bytes and packets that come in.
-/
import Derived.Test.YtiflmdekcjbmbaaGNodeSends01
import Derived.Lib.Hide
import Derived.IntWalk
import Derived.BigQuiet
import Derived.Deep.Quiet
import Derived.Deep.QuietTactic
import Derived.Ground.NamesProg
import Derived.Ground.Names2Prog
import Derived.Ground.SlbCloneProg
import Derived.Shelf.Slices.Clone
import Derived.Shelf.Slices.Reverse
import Derived.Shelf.Bytes.SlClone
import Derived.Lib.OwnBridge
import Derived.Test.YtiflmdekcjbmbaaGNodeSends04
import Derived.Deep.RegionHeld3
import Derived.Deep.Strs
import Derived.Deep.Cut
import Derived.Deep.CutRange
import Derived.Lib.SmallJoins
set_option maxRecDepth 100000
namespace Go.Proofs.Ytiflmdekcjbmbaa.Rt
set_option linter.unusedVariables false
set_option linter.unusedSimpArgs false
open Go.RowKit Lb

def zval (zs : List Int) (j : Nat) : Value := .int .i64 (zs.getD j 0)
def bval (zs : List Int) (j : Nat) : Value := .int .u8 (zs.getD j 0)
def ndB (x : Int) : Bool := decide (0 ≤ x ∧ x < 16)
theorem ndB_yes {x : Int} (h : ndB x = true) : 0 ≤ x ∧ x < 16 := by
  unfold ndB at h
  rwa [decide_eq_true_eq] at h
theorem ndB_no {x : Int} (h : ndB x = false) : ¬ (0 ≤ x ∧ x < 16) := by
  unfold ndB at h
  rwa [decide_eq_false_iff_not] at h
/-- The first k are nodes, each once. -/
def Pfx (l : List Int) (k : Nat) : Prop := ∀ j, j < k → ndB (l.getD j 0) = true ∧ ∀ i, i < j → l.getD i 0 ≠ l.getD j 0
instance (l : List Int) (k : Nat) : Decidable (Pfx l k) := by unfold Pfx; infer_instance
def okP (l : List Int) : Bool := decide (l.length ≤ 16 ∧ Pfx l l.length)
theorem okP_yes {l : List Int} (h : l.length ≤ 16) (p : Pfx l l.length) : okP l = true := by
  unfold okP
  rw [decide_eq_true_eq]
  exact ⟨h, p⟩
theorem okP_no {l : List Int} (h : ¬ (l.length ≤ 16 ∧ Pfx l l.length)) : okP l = false := by
  unfold okP
  rw [decide_eq_false_iff_not]
  exact h
theorem okP_out {l : List Int} (h : okP l = true) : l.length ≤ 16 ∧ Pfx l l.length := by
  unfold okP at h
  rwa [decide_eq_true_eq] at h
theorem okP_not {l : List Int} (h : okP l = false) : ¬ (l.length ≤ 16 ∧ Pfx l l.length) := by
  unfold okP at h
  rwa [decide_eq_false_iff_not] at h
theorem pfx_zero (l : List Int) : Pfx l 0 := fun j hj => by omega
theorem pfx_succ {l : List Int} {k : Nat} (h : Pfx l k) (hn : ndB (l.getD k 0) = true) (hd : ∀ i, i < k → l.getD i 0 ≠ l.getD k 0) : Pfx l (k + 1) := fun j hj => by
  by_cases e : j = k
  · subst e; exact ⟨hn, hd⟩
  · exact h j (by omega)
theorem pfx_le {l : List Int} {k m : Nat} (h : Pfx l m) (hk : k ≤ m) : Pfx l k := fun j hj => h j (by omega)
/-- Bit x of s is set just if x is among the first k. -/
def Seen (l : List Int) (k s : Nat) : Prop := s < 2 ^ 16 ∧ ∀ x : Nat, s.testBit x = true ↔ ∃ j, j < k ∧ l.getD j 0 = (x : Int)
theorem seen_zero (l : List Int) : Seen l 0 0 := ⟨by decide, fun x => by simp⟩
theorem seen_succ {l : List Int} {k s d : Nat} (h : Seen l k s) (hd : l.getD k 0 = (d : Int)) (h16 : d < 16) : Seen l (k + 1) (s ||| 1 <<< d) := by
  refine ⟨?_, fun x => ?_⟩
  · rw [Nat.one_shiftLeft]
    exact Nat.or_lt_two_pow h.1 (Nat.pow_lt_pow_right (by decide) h16)
  · rw [Nat.testBit_or, Nat.one_shiftLeft, Nat.testBit_two_pow, Bool.or_eq_true, h.2 x, decide_eq_true_eq]
    constructor
    · rintro (⟨j, hj, e⟩ | e)
      · exact ⟨j, by omega, e⟩
      · exact ⟨k, by omega, by rw [hd, e]⟩
    · rintro ⟨j, hj, e⟩
      by_cases ej : j = k
      · subst ej
        rw [hd] at e
        exact .inr (by omega)
      · exact .inl ⟨j, by omega, e⟩
theorem seen_no {l : List Int} {k s d : Nat} (h : Seen l k s) (hb : s.testBit d = false) : ∀ i, i < k → l.getD i 0 ≠ (d : Int) := fun i hi e => by
  have := (h.2 d).2 ⟨i, hi, e⟩
  rw [hb] at this
  cases this
/-- The first place of x, or -1. -/
def atI (l : List Int) (x : Int) : Int := if (l.idxOf x) < l.length then (l.idxOf x : Int) else -1
theorem atI_is {l : List Int} {x : Int} {k : Nat} (hk : k < l.length) (h : l.getD k 0 = x) (hn : ∀ j, j < k → l.getD j 0 ≠ x) : atI l x = (k : Int) := by
  have e : l.idxOf x = k := by
    have hg : ∀ j (hj : j < l.length), l.getD j 0 = l[j] := fun j hj => by
      rw [List.getD_eq_getElem?_getD, List.getElem?_eq_getElem hj]; rfl
    rw [hg k hk] at h
    have hmem : x ∈ l := h ▸ List.getElem_mem hk
    have h1 : l.idxOf x < l.length := List.idxOf_lt_length_iff.2 hmem
    have h2 : l[l.idxOf x] = x := List.getElem_idxOf h1
    rcases Nat.lt_trichotomy (l.idxOf x) k with h3 | h3 | h3
    · exact absurd (by rw [hg _ h1]; exact h2) (hn _ h3)
    · exact h3
    · exact absurd h (by
        have := List.not_of_lt_findIdx (p := fun y => y == x) (xs := l) h3
        simpa using this)
  unfold atI
  rw [e, if_pos hk]
theorem atI_no {l : List Int} {x : Int} (hn : ∀ j, j < l.length → l.getD j 0 ≠ x) : atI l x = -1 := by
  unfold atI
  rw [if_neg]
  intro h
  refine hn _ h ?_
  rw [List.getD_eq_getElem?_getD, List.getElem?_eq_getElem h]
  exact List.getElem_idxOf h
theorem atI_get {l : List Int} {x : Int} (h : 0 ≤ atI l x) : ∃ k, k < l.length ∧ atI l x = (k : Int) ∧ l.getD k 0 = x ∧ ∀ j, j < k → l.getD j 0 ≠ x := by
  unfold atI at h ⊢
  by_cases h1 : l.idxOf x < l.length
  · refine ⟨l.idxOf x, h1, by rw [if_pos h1], ?_, fun j hj e => ?_⟩
    · rw [List.getD_eq_getElem?_getD, List.getElem?_eq_getElem h1]
      exact List.getElem_idxOf h1
    · have := List.not_of_lt_findIdx (p := fun y => y == x) (xs := l) hj
      rw [List.getD_eq_getElem?_getD, List.getElem?_eq_getElem (by omega)] at e
      simp only [Option.getD_some] at e
      simp [e] at this
  · rw [if_neg h1] at h
    omega
theorem atI_bd (l : List Int) (x : Int) : -1 ≤ atI l x ∧ atI l x < l.length := by
  unfold atI
  split <;> omega
/-- A packet. -/
structure Pk where
  f : Int
  t : Int
  n : Int
  life : Int
  path : List Int
  data : List Int
def mayK (p : Pk) : Bool := ndB p.f && (ndB p.t && (p.f != p.t && (decide (0 ≤ p.n) && (decide (p.n ≤ 70368744177663) && (decide (0 ≤ p.life) && (decide (p.life ≤ 15) && (okP p.path && (decide (1 ≤ p.data.length) && decide (p.data.length ≤ 24)))))))))
def Pk.vals (p : Pk) (a : Option Addr) (c : Nat) (b : Option Addr) (d : Nat) : Array Value := #[.int .i64 p.f, .int .i64 p.t, .int .i64 p.n, .int .i64 p.life, .slice a p.path.length c, .slice b p.data.length d]
/-- The rows of a packet, as they lie. -/
structure Pk.At (w : World) (p : Pk) (a : Option Addr) (c : Nat) (b : Option Addr) (d : Nat) : Prop where
  pc : p.path.length ≤ c
  pm : c ≤ maxLen
  prow : Row w a p.path.length (zval p.path)
  pnil : a = none → p.path.length = 0
  dc : p.data.length ≤ d
  dm : d ≤ maxLen
  drow : Row w b p.data.length (bval p.data)
  dnil : b = none → p.data.length = 0
theorem Pk.At.below {w w' : World} {p : Pk} {a : Option Addr} {c : Nat} {b : Option Addr} {d : Nat} (h : p.At w a c b d) (j : Below w.heap.size w w') : p.At w' a c b d :=
  ⟨h.pc, h.pm, h.prow.below j, h.pnil, h.dc, h.dm, h.drow.below j, h.dnil⟩
end Go.Proofs.Ytiflmdekcjbmbaa.Rt
set_option maxRecDepth 100000
namespace Go.Proofs.Ytiflmdekcjbmbaa.Rt
set_option linter.unusedVariables false
set_option linter.unusedSimpArgs false
open Go.RowKit Lb

theorem isNode_any (x : Int) (w : World) : Calls Try.prog 72 #[.int .i64 x] w fun r w' => r = .returned (.bool (ndB x)) ∧ w = w' := by
  by_cases h0 : 0 ≤ x
  · by_cases h1 : x < 16
    · have HD : Hid (ndB x = true) := Lib.hid (by simp [ndB, h0, h1])
      go_enter Try.func72, Try.ntmps72
      go_wp2_with fail
      go_ret
      exact ⟨by rw [HD.out]; rfl, rfl⟩
    · have HD : Hid (ndB x = false) := Lib.hid (by simp [ndB]; omega)
      have h2 : decide (x < 16) = false := by simp; omega
      clear h1
      go_enter Try.func72, Try.ntmps72
      go_wp2_with fail
      go_ret
      exact ⟨by rw [HD.out]; rfl, rfl⟩
  · have HD : Hid (ndB x = false) := Lib.hid (by simp [ndB]; omega)
    have h2 : x < 0 := by omega
    clear h0
    go_enter Try.func72, Try.ntmps72
    go_wp2_with fail
    go_ret
    exact ⟨by rw [HD.out]; rfl, rfl⟩
theorem node_any (x : Int) (w : World) : Calls Try.prog 54 #[.int .i64 x] w fun r w' => r = .returned (.bool (ndB x)) ∧ w = w' := by
  by_cases h0 : 0 ≤ x
  · by_cases h1 : x < 16
    · have HD : Hid (ndB x = true) := Lib.hid (by simp [ndB, h0, h1])
      go_enter Try.func54, Try.ntmps54
      go_wp2_with fail
      go_ret
      exact ⟨by rw [HD.out]; rfl, rfl⟩
    · have HD : Hid (ndB x = false) := Lib.hid (by simp [ndB]; omega)
      have h2 : decide (x < 16) = false := by simp; omega
      clear h1
      go_enter Try.func54, Try.ntmps54
      go_wp2_with fail
      go_ret
      exact ⟨by rw [HD.out]; rfl, rfl⟩
  · have HD : Hid (ndB x = false) := Lib.hid (by simp [ndB]; omega)
    have h2 : x < 0 := by omega
    clear h0
    go_enter Try.func54, Try.ntmps54
    go_wp2_with fail
    go_ret
    exact ⟨by rw [HD.out]; rfl, rfl⟩
theorem pathMay_any (a : Option Addr) (c : Nat) (l : List Int) (w : World) (hc : l.length ≤ maxLen) (hR : Row w a l.length (zval l)) :
    Calls Try.prog 73 #[.slice a l.length c] w fun r w' => r = .returned (.bool (okP l)) ∧ w = w' := by
  unfold maxLen at hc
  obtain ⟨n, hn⟩ : ∃ n, l.length = n := ⟨_, rfl⟩
  have HN := Lib.hid hn
  rw [hn] at hR hc ⊢
  clear hn
  by_cases h16 : 16 < n
  · have HD : Hid (okP l = false) := Lib.hid (okP_no (by rw [HN.out]; omega))
    have g1 : decide (16 < n) = true := by simpa using h16
    have g2 : decide ((16 : Int) < (n : Int)) = true := by simp; omega
    go_enter Try.func73, Try.ntmps73
    go_wp2_with fail
    go_ret
    exact ⟨by rw [HD.out]; rfl, rfl⟩
  have g1 : decide (16 < n) = false := by simpa using h16
  have g2 : decide ((16 : Int) < (n : Int)) = false := by simp; omega
  go_enter Try.func73, Try.ntmps73
  go_wp2_with fail
  clear g1 g2
  go_loopw [11, 3] (fun i s wr => ∃ (k S : Nat), i = .int .i64 k ∧ s = .int .u64 (S : Nat) ∧ k ≤ n ∧ Hid (Pfx l k) ∧ Hid (Seen l k S) ∧ w = wr) (fun i _ _ => n - (intOf i).toNat)
  case atStart => exact ⟨0, 0, rfl, rfl, by omega, Lib.hid (pfx_zero l), Lib.hid (seen_zero l), rfl⟩
  case round =>
    obtain ⟨k, S, rfl, rfl, hk, HP, HS, rfl⟩ := hrel
    by_cases hlt : k < n
    · obtain ⟨b, off, rfl, hb, c0⟩ := hR.at_ hlt
      unfold zval at c0
      obtain ⟨x, hx⟩ : ∃ x, l.getD k 0 = x := ⟨_, rfl⟩
      have HX := Lib.hid hx
      rw [hx] at c0
      clear hx
      have hS : S < 65536 := HS.out.1
      cases hnd : ndB x
      · have HD : Hid (okP l = false) := Lib.hid (okP_no (fun h => by
          have := (h.2 k (by rw [HN.out]; exact hlt)).1
          rw [HX.out, hnd] at this
          cases this))
        have HB := Lib.hid hnd
        clear hnd
        go_wp2_with ((with_reducible refine (isNode_any _ _).mono ?_); rintro r w' ⟨rfl, rfl⟩; rw [HB.out])
        go_ret
        exact ⟨by rw [HD.out]; rfl, rfl⟩
      · have hx16 := ndB_yes hnd
        have HB := Lib.hid hnd
        clear hnd
        obtain ⟨d, rfl⟩ : ∃ d : Nat, x = (d : Int) := ⟨x.toNat, by omega⟩
        have hd : d < 16 := by omega
        have q1 : S >>> d < 18446744073709551616 := Nat.lt_of_le_of_lt (by rw [Nat.shiftRight_eq_div_pow]; exact Nat.div_le_self _ _) (by omega)
        cases hbit : S.testBit d
        · have e4 : bits .and .u64 ((S : Int) / 2 ^ d) 1 = 0 := by
            have := u64_and_nat _ 1 q1 (by decide)
            rw [shr_and_one, hbit, Nat.shiftRight_eq_div_pow] at this
            simpa using this
          have q3 : (1 : Nat) <<< d < 18446744073709551616 := by
            rw [Nat.one_shiftLeft]
            exact Nat.lt_of_lt_of_le (Nat.pow_lt_pow_right (by decide) (show d < 64 by omega)) (by decide)
          have e6 : bits .or .u64 (S : Int) (IntKind.u64.wrap (2 ^ d)) = ((S ||| 1 <<< d : Nat) : Int) := by
            rw [← u64_or_nat _ _ (by omega) q3]
            congr 1
            have := wrap_nat .u64 rfl (2 ^ d)
            rw [Nat.one_shiftLeft] at q3 ⊢
            rw [show 2 ^ IntKind.u64.bits = 18446744073709551616 from rfl, Nat.mod_eq_of_lt q3] at this
            rw [← this]
            simp
          have HS2 := Lib.hid (seen_succ HS.out HX.out hd)
          have HP2 := Lib.hid (pfx_succ HP.out (by rw [HX.out]; exact HB.out) (by rw [HX.out]; exact seen_no HS.out hbit))
          generalize (S ||| 1 <<< d) = S2 at *
          clear hbit q1 q3
          go_wp2_with ((with_reducible refine (isNode_any _ _).mono ?_); rintro r w' ⟨rfl, rfl⟩; rw [HB.out])
          exact ⟨⟨k + 1, S2, by simp, rfl, by omega, HP2, HS2, trivial⟩, by simp [intOf]; omega⟩
        · have e4 : bits .and .u64 ((S : Int) / 2 ^ d) 1 = 1 := by
            have := u64_and_nat _ 1 q1 (by decide)
            rw [shr_and_one, hbit, Nat.shiftRight_eq_div_pow] at this
            simpa using this
          have HD : Hid (okP l = false) := Lib.hid (okP_no (fun h => by
            obtain ⟨j, hj, e⟩ := (HS.out.2 d).1 hbit
            exact (h.2 k (by rw [HN.out]; exact hlt)).2 j hj (by rw [e, HX.out])))
          clear hbit q1
          go_wp2_with ((with_reducible refine (isNode_any _ _).mono ?_); rintro r w' ⟨rfl, rfl⟩; rw [HB.out])
          go_ret
          exact ⟨by rw [HD.out]; rfl, rfl⟩
    · obtain rfl : n = k := by omega
      have HD : Hid (okP l = true) := Lib.hid (okP_yes (by rw [HN.out]; omega) (by rw [HN.out]; exact HP.out))
      go_wp2_with fail
      go_ret
      exact ⟨by rw [HD.out]; rfl, rfl⟩
end Go.Proofs.Ytiflmdekcjbmbaa.Rt
set_option maxRecDepth 100000
namespace Go.Proofs
set_option linter.unusedVariables false
set_option linter.unusedSimpArgs false
open Go.Shelf
def Try.laysCloneR_ren : Go.Shelf.Ren := ⟨fun | 15 => 15 | n => n, fun | 22 => 26 | 3 => 3 | 4 => 4 | n => n, fun | n => n⟩
theorem Try.laysCloneR : Go.Proofs.Lays2.n15 Try.prog Try.laysCloneR_ren := {
  mixed := by kernel_rfl
  f15 := Try.func15.trans (congrArg some (by kernel_rfl))
  t3 := Try.underlying3
  a3 := Try.isAgg3
  z3 := Try.sizeOf3
  v3 := Try.zeroValue3
  t4 := Try.underlying4
  a4 := Try.isAgg4
  z4 := Try.sizeOf4
  v4 := Try.zeroValue4
  t22 := Try.underlying26
  a22 := Try.isAgg26
  z22 := Try.sizeOf26
  v22 := Try.zeroValue26
  i3 := by kernel_rfl }
def Try.laysCloneB_ren : Go.Shelf.Ren := ⟨fun | 4 => 60 | n => n, fun | 22 => 33 | 4 => 4 | 5 => 5 | n => n, fun | n => n⟩
theorem Try.laysCloneB : Go.Proofs.SlLaysK.n4 Try.prog Try.laysCloneB_ren := {
  mixed := by kernel_rfl
  f4 := Try.func60.trans (congrArg some (by kernel_rfl))
  t4 := Try.underlying4
  a4 := Try.isAgg4
  z4 := Try.sizeOf4
  v4 := Try.zeroValue4
  t22 := Try.underlying33
  a22 := Try.isAgg33
  z22 := Try.sizeOf33
  v22 := Try.zeroValue33
  t5 := Try.underlying5
  i5 := by kernel_rfl }
end Go.Proofs
namespace Go.Proofs.Ytiflmdekcjbmbaa.Rt
set_option linter.unusedVariables false
set_option linter.unusedSimpArgs false
open Go.RowKit Lb Go.Shelf Go.Sort

theorem zlist (zs : List Int) : (List.range zs.length).map (zval zs) = zs.map (Value.int .i64) := by
  apply List.ext_getElem
  · simp
  · intro i h1 h2
    simp at h1
    simp [zval, List.getD, h1]
theorem blist (zs : List Int) : (List.range zs.length).map (bval zs) = zs.map (Value.int .u8) := by
  apply List.ext_getElem
  · simp
  · intro i h1 h2
    simp at h1
    simp [bval, List.getD, h1]
theorem mine_z {w : World} {base : Nat} {v : Value} {zs : List Int} (h : w.ownsRow base 3 1 v zs.length (zs.map (Value.int .i64))) : Mine w base 3 v zs.length (zval zs) := by
  unfold Mine
  rw [zlist]
  exact h
theorem z_mine {w : World} {base : Nat} {v : Value} {zs : List Int} (h : Mine w base 3 v zs.length (zval zs)) : w.ownsRow base 3 1 v zs.length (zs.map (Value.int .i64)) := by
  unfold Mine at h
  rwa [zlist] at h
theorem mine_b {w : World} {base : Nat} {v : Value} {zs : List Int} (h : w.ownsRow base 5 1 v zs.length (zs.map (Value.int .u8))) : Mine w base 5 v zs.length (bval zs) := by
  unfold Mine
  rw [blist]
  exact h
/-- A copy: the same numbers, in a new block or none; nil of nil. -/
theorem cloneI_any (a : Option Addr) (c : Nat) (l : List Int) (w : World) (hc : l.length ≤ 1000000) (hR : Row w a l.length (zval l)) (ha : a = none → l.length = 0) :
    Calls Try.prog 15 #[.slice a l.length c] w fun r w' => ∃ v, r = .returned v ∧ Mine w' w.heap.size 3 v l.length (zval l) ∧ Below w.heap.size w w' := by
  cases a with
  | none =>
    refine (Any.slices_Clone_int_nil Try.laysCloneR l.length c w).mono ?_
    rintro r w' ⟨rfl, rfl⟩
    have h0 := ha rfl
    refine ⟨.slice none 0 0, rfl, ?_, Below.refl _ _⟩
    rw [h0]
    exact Mine.nil _ _ _ _
  | some p =>
    by_cases h0 : l.length = 0
    · rw [h0]
      refine (Any.slices_Clone_int_zero Try.laysCloneR p c w).mono ?_
      rintro r w' ⟨v, rfl, hown, hne, hb⟩
      exact ⟨v, rfl, hown, hb⟩
    · obtain ⟨b, off, hp, hbl, hcs⟩ := hR (by omega)
      injection hp with hp
      subst hp
      refine (Any.slices_Clone_int Try.laysCloneR b off l.length c l w (Nat.le_refl _) (by omega) (fun j hj => hcs j hj)).mono ?_
      rintro r w' ⟨v, rfl, hown, hne, hb⟩
      rw [List.take_length] at hown
      exact ⟨v, rfl, mine_z hown, hb⟩
theorem cloneB_any (a : Option Addr) (c : Nat) (l : List Int) (w : World) (hc : l.length ≤ 1000000) (hR : Row w a l.length (bval l)) (ha : a = none → l.length = 0) :
    Calls Try.prog 60 #[.slice a l.length c] w fun r w' => ∃ v, r = .returned v ∧ Mine w' w.heap.size 5 v l.length (bval l) ∧ Below w.heap.size w w' := by
  cases a with
  | none =>
    refine (Any.bytes_Clone_nil Try.laysCloneB l.length c w).mono ?_
    rintro r w' ⟨rfl, rfl⟩
    have h0 := ha rfl
    refine ⟨.slice none 0 0, rfl, ?_, Below.refl _ _⟩
    rw [h0]
    exact Mine.nil _ _ _ _
  | some p =>
    refine (Any.bytes_Clone_at Try.laysCloneB p l.length c l w rfl (by omega) (fun i hi => by
      obtain ⟨b, off, hp, _, h3⟩ := hR.at_ hi
      injection hp with hp
      subst hp
      rw [Addr.add_lit, h3]
      rfl)).mono ?_
    rintro r w' ⟨v, rfl, hown, hne, hb⟩
    exact ⟨v, rfl, mine_b hown, hb⟩
end Go.Proofs.Ytiflmdekcjbmbaa.Rt
set_option maxRecDepth 100000
namespace Go.Proofs.Ytiflmdekcjbmbaa.Lb
set_option linter.unusedVariables false
set_option linter.unusedSimpArgs false
open Go.RowKit

theorem step_app {P : Program} {w : World} {ops : Array Oper} {o : Oper} {a : Act} {K : Act → World → Prop} {Q : Exit → Act → World → Prop} {E : Prop} (hgd : o.guard = none) (s x : Operand) (t : TypeId)
    (ho : o.op = .call { callee := .builtin .append, args := #[s, x], argTypes := #[t, t] })
    (base : Nat) (e : TypeId) (i : TypeInfo) (z : Value) (bytes : Nat) (ht : P.underlying t = some (.slice e)) (hi : P.info? e = some i) (hz : i.zero = some z)
    (hsize : i.size = 1) (hby : i.bytes = bytes) (hzs : z.cells.size = 1)
    (v : Value) (n : Nat) (V : Nat → Value) (hs : a.eval s = v) (hown : Mine w base e v n V)
    (A : Option Addr) (m c : Nat) (U : Nat → Value) (hx : a.eval x = .slice A m c) (hr : Row w A m U) (h1 : ∀ i, i < m → (U i).oneCell' = true)
    (h63 : n + m ≤ maxLen) (hbytes : (n + m) * bytes ≤ 140737488355328) (hbase : base ≤ w.heap.size)
    (h : ∀ v' w', Mine w' base e v' (n + m) (fun i => if i < n then V i else U (i - n)) → w.grownBy w' v.ownBlock → (v'.ownBlock = v.ownBlock ∨ v'.ownBlock = some w.heap.size) → K (a.put o.dst v') w') :
    if Region.wanted o (yielded ops a.tmps) = true then Oper.wp P o a w K Q else E := by
  refine step_appK hgd s x t ho base e i z 1 bytes ht hi hz hsize hby hzs (by decide) v n V hs (by unfold MineK; rw [Nat.mul_one]; exact hown) A m c U hx (by rw [Nat.mul_one]; exact hr) (fun i hi => h1 i (by omega)) h63 hbytes hbase (fun v' w' h2 h3 h4 => h v' w' ?_ h3 h4)
  unfold MineK at h2
  simp only [Nat.mul_one] at h2
  exact h2
end Go.Proofs.Ytiflmdekcjbmbaa.Lb
set_option maxRecDepth 100000
namespace Go.Proofs.Ytiflmdekcjbmbaa.Rt
set_option linter.unusedVariables false
set_option linter.unusedSimpArgs false
open Go.RowKit Lb Go.Shelf

theorem infoP : (Try.prog.info? 37).map (fun i => (i.zero, i.size)) = some (some (.agg #[.int .i64 0, .int .i64 0, .int .i64 0, .int .i64 0, .slice none 0 0, .slice none 0 0]), 6) := by kernel_rfl
theorem mine_low {w : World} {B B0 n : Nat} {e : TypeId} {v : Value} {V : Nat → Value} (h : Mine w B e v n V) (hb : B0 ≤ B) : Mine w B0 e v n V := by
  obtain ⟨h1, h2⟩ := h
  refine ⟨h1, ?_⟩
  rcases h2 with h2 | ⟨g, cap, cur, hv, hg, r⟩
  · exact .inl h2
  · exact .inr ⟨g, cap, cur, hv, by omega, r⟩
theorem mine_apart {w : World} {B B' n n' : Nat} {e e' : TypeId} {v v' : Value} {V V' : Nat → Value} (h : Mine w B e v n V) (k : Mine w B' e' v' n' V') (hne : e ≠ e') (q : Nat) (hq : v.ownBlock = some q) : v'.ownBlock ≠ some q := fun hq' => by
  obtain ⟨_, h2⟩ := h
  obtain ⟨_, k2⟩ := k
  rcases h2 with ⟨rfl, _⟩ | ⟨g, cap, cur, rfl, _, hh, _⟩
  · cases hq
  · rcases k2 with ⟨rfl, _⟩ | ⟨g', cap', cur', rfl, _, hh', _⟩
    · cases hq'
    · have e1 : some g = some q := hq
      have e2 : some g' = some q := hq'
      injection e1 with e1
      injection e2 with e2
      subst e1 e2
      rw [hh] at hh'
      injection hh' with hh'
      injection hh' with _ h3 _
      exact hne h3
theorem mine_not {w : World} {B n g : Nat} {e t : TypeId} {v : Value} {V : Nat → Value} {cs : Array Value} (h : Mine w B e v n V) (k : Lb.Own w g t cs) (hne : e ≠ t) : v.ownBlock ≠ some g := fun hq => by
  obtain ⟨_, h2⟩ := h
  rcases h2 with ⟨rfl, _⟩ | ⟨g', cap, cur, rfl, _, hh, _⟩
  · cases hq
  · have e1 : some g' = some g := hq
    injection e1 with e1
    subst e1
    unfold Lb.Own at k
    rw [hh] at k
    injection k with k
    injection k with _ h3 _
    exact hne h3
/-- A packet whose rows are all its own. -/
structure Pk.Own (w : World) (base : Nat) (p : Pk) (a : Option Addr) (c : Nat) (b : Option Addr) (d : Nat) : Prop where
  path : Mine w base 3 (.slice a p.path.length c) p.path.length (zval p.path)
  data : Mine w base 5 (.slice b p.data.length d) p.data.length (bval p.data)
theorem Pk.Own.at_ {w : World} {base : Nat} {p : Pk} {a : Option Addr} {c : Nat} {b : Option Addr} {d : Nat} (h : p.Own w base a c b d) : p.At w a c b d := by
  obtain ⟨a', c', e1, h1, h2, h3⟩ := h.path.row
  injection e1 with e1 _ e2
  subst e1 e2
  obtain ⟨b', d', e1, g1, g2, g3⟩ := h.data.row
  injection e1 with e1 _ e2
  subst e1 e2
  refine ⟨h1, h2, h3, fun e => ?_, g1, g2, g3, fun e => ?_⟩
  · by_cases h0 : p.path.length = 0
    · exact h0
    · obtain ⟨_, _, h4, _⟩ := h3 (by omega)
      rw [e] at h4
      cases h4
  · by_cases h0 : p.data.length = 0
    · exact h0
    · obtain ⟨_, _, h4, _⟩ := g3 (by omega)
      rw [e] at h4
      cases h4
theorem Pk.Own.below {w w' : World} {base : Nat} {p : Pk} {a : Option Addr} {c : Nat} {b : Option Addr} {d : Nat} (h : p.Own w base a c b d) (j : Below w.heap.size w w') : p.Own w' base a c b d :=
  ⟨h.path.kept (fun q _ => if hl : q < w.heap.size then .inl (j.block q hl) else .inr (fun e => hl (h.path.lt q e).2)), h.data.kept (fun q _ => if hl : q < w.heap.size then .inl (j.block q hl) else .inr (fun e => hl (h.data.lt q e).2))⟩
theorem Pk.Own.put {w : World} {base g : Nat} {p : Pk} {a : Option Addr} {c : Nat} {b : Option Addr} {d : Nat} (h : p.Own w base a c b d) (hg : g < base) (i : Nat) (u : Value) : p.Own (w.setCell ⟨g, i, none⟩ u) base a c b d :=
  ⟨h.path.other (fun e => by have := (h.path.lt _ e).1; simp at this; omega) u, h.data.other (fun e => by have := (h.data.lt _ e).1; simp at this; omega) u⟩
theorem Pk.Own.low {w : World} {B B0 : Nat} {p : Pk} {a : Option Addr} {c : Nat} {b : Option Addr} {d : Nat} (h : p.Own w B a c b d) (hb : B0 ≤ B) : p.Own w B0 a c b d := ⟨mine_low h.path hb, mine_low h.data hb⟩
theorem Pk.Own.setRow {w : World} {base g : Nat} {p : Pk} {a : Option Addr} {c : Nat} {b : Option Addr} {d : Nat} (h : p.Own w base a c b d) (hg : g < base) (cs : Array Value) : p.Own (w.setRow g cs) base a c b d := by
  have J := Just.setRow g w cs
  exact ⟨h.path.kept (fun q hq => if hl : q < w.heap.size then .inl (J.block q hl (by omega)) else .inr (fun e => hl (h.path.lt q e).2)), h.data.kept (fun q hq => if hl : q < w.heap.size then .inl (J.block q hl (by omega)) else .inr (fun e => hl (h.data.lt q e).2))⟩
theorem cells6 (p : Pk) (a : Option Addr) (c : Nat) (b : Option Addr) (d : Nat) : (p.vals a c b d).all (·.oneCell') = true := by
  rw [Array.all_eq_true]
  intro i hi
  have h6 : i < 6 := hi
  rcases (show i = 0 ∨ i = 1 ∨ i = 2 ∨ i = 3 ∨ i = 4 ∨ i = 5 by omega) with rfl | rfl | rfl | rfl | rfl | rfl <;> rfl
def lessP (p : Pk) : Pk := { p with life := p.life - 1 }
end Go.Proofs.Ytiflmdekcjbmbaa.Rt
set_option maxRecDepth 100000
namespace Go.Proofs.Ytiflmdekcjbmbaa.Rt
set_option linter.unusedVariables false
set_option linter.unusedSimpArgs false
open Go.RowKit Go.ChangeShapes Go.WideShapes Go.ChangeAt Go.Deep Lb

section
variable {H : Type} {enc : TypeId × Value → H} {w : World} {base : Nat}
theorem list_of (n : Nat) (Z : Nat → Int) : ∃ l : List Int, l.length = n ∧ ∀ i, i < n → l.getD i 0 = Z i :=
  ⟨(List.range n).map Z, by simp, fun i hi => by simp [List.getD, hi]⟩
theorem row_z {w : World} {a : Option Addr} {n : Nat} {Z : Nat → Int} {l : List Int} (h : Row w a n (fun i => .int .i64 (Z i))) (hl : l.length = n) (hz : ∀ i, i < n → l.getD i 0 = Z i) : Row w a l.length (zval l) := by
  intro h0
  rw [hl] at h0 ⊢
  obtain ⟨b, off, h1, h2, h3⟩ := h h0
  exact ⟨b, off, h1, h2, fun i hi => by rw [h3 i hi]; unfold zval; rw [hz i hi]⟩
theorem row_b {w : World} {a : Option Addr} {n : Nat} {Z : Nat → Int} {l : List Int} (h : Row w a n (fun i => .int .u8 (Z i))) (hl : l.length = n) (hz : ∀ i, i < n → l.getD i 0 = Z i) : Row w a l.length (bval l) := by
  intro h0
  rw [hl] at h0 ⊢
  obtain ⟨b, off, h1, h2, h3⟩ := h h0
  exact ⟨b, off, h1, h2, fun i hi => by rw [h3 i hi]; unfold bval; rw [hz i hi]⟩
theorem row_none {w : World} {a : Option Addr} {n : Nat} {V : Nat → Value} (h : Row w a n V) : a = none → n = 0 := fun e => by
  by_cases h0 : n = 0
  · exact h0
  · obtain ⟨_, _, h1, _⟩ := h (by omega)
    rw [e] at h1
    cases h1
/-- A slice of numbers that comes in. -/
theorem open_ints {v : Value} {d : DataW H} {p : List MemPlace} (hv : Value.okWide Try.prog w .any base 26 v)
    (h : DataW.Trod enc Try.prog w 0 (fun _ => true) true 26 v d p) :
    ∃ a, ∃ l : List Int, ∃ c, v = .slice a l.length c ∧ l.length ≤ c ∧ c ≤ maxLen ∧ Row w a l.length (zval l) ∧ (a = none → l.length = 0) := by
  obtain ⟨a, n, c, Z, rfl, h1, h2, h3, _⟩ := open_row_int Try.underlying26 Try.underlying3 (by kernel_rfl) hv h
  obtain ⟨l, hl, hz⟩ := list_of n Z
  have hr := row_z h3 hl hz
  exact ⟨a, l, c, by rw [hl], by rw [hl]; exact h1, h2, hr, row_none hr⟩
/-- A slice of bytes that comes in. -/
theorem open_bytes {v : Value} {d : DataW H} {p : List MemPlace} (hv : Value.okWide Try.prog w .any base 33 v)
    (h : DataW.Trod enc Try.prog w 0 (fun _ => true) true 33 v d p) :
    ∃ a, ∃ l : List Int, ∃ c, v = .slice a l.length c ∧ l.length ≤ c ∧ c ≤ maxLen ∧ Row w a l.length (bval l) ∧ (a = none → l.length = 0) ∧ ∀ x, x ∈ l → 0 ≤ x ∧ x < 256 := by
  obtain ⟨a, n, c, Z, rfl, h1, h2, h3, h4⟩ := open_row_int Try.underlying33 Try.underlying5 (by kernel_rfl) hv h
  obtain ⟨l, hl, hz⟩ := list_of n Z
  have hr := row_b h3 hl hz
  refine ⟨a, l, c, by rw [hl], by rw [hl]; exact h1, h2, hr, row_none hr, fun x hx => ?_⟩
  obtain ⟨i, hi, e⟩ := List.getElem_of_mem hx
  have := u8_bd (h4 i)
  have e2 := hz i (by omega)
  rw [List.getD_eq_getElem?_getD, List.getElem?_eq_getElem hi] at e2
  simp only [Option.getD_some] at e2
  rw [← e, e2]
  exact this
theorem open_cell {P : Program} {t e : TypeId} {k : IntKind} {v : Value} {fuel : Nat} {y : DataW H × List MemPlace} (ht : P.underlying t = some (.slice e)) (he : P.underlying e = some (.int k)) (hc : P.cellsOf e = 1) (hf : DataW.trod enc P w 0 (fun _ => true) true fuel t [v] = some y) :
    ∃ a n c, ∃ Z : Nat → Int, v = .slice a n c ∧ n ≤ c ∧ c ≤ maxLen ∧ Row w a n (fun i => .int k (Z i)) ∧ ∀ i, (Lit.int k (Z i)).wf = true := by
  obtain ⟨dd, pp⟩ := y
  have key : ∃ a n c V, v = .slice a n c ∧ n ≤ c ∧ c ≤ maxLen ∧ Row w a n V ∧ ∀ i, i < n → ∃ f y, DataW.trod enc P w 0 (fun _ => true) true f e [V i] = some y := by
    rcases open_slice1 ht hc hf with ⟨hcs, _⟩ | ⟨x, l, c, m, n, V, D, Pl, hcs, _, hl, hm, hmm, _, hx⟩
    · simp at hcs
      subst hcs
      exact ⟨none, 0, 0, fun _ => undef, rfl, Nat.le_refl _, Nat.zero_le _, Row.nil _ _ _, fun i hi => absurd hi (by omega)⟩
    · simp at hcs
      subst hcs
      simp only [if_true] at hmm
      subst hmm
      obtain ⟨b, off, spot⟩ := x
      refine ⟨_, _, _, V, rfl, hl, hm, fun hn => ?_, fun i hi => ⟨_, _, (hx i (by omega)).2⟩⟩
      have h0 := (hx 0 (by omega)).1
      have hspot : spot = none := by simpa [Addr.add] using World.cell?_spot h0
      subst hspot
      refine ⟨b, off, rfl, ?_, fun i hi => ?_⟩
      · simpa [Addr.add] using lt_of_cell h0
      · have := (hx i (by omega)).1
        unfold Addr.add at this
        split at this
        · rename_i hi0
          subst hi0
          exact this
        · exact this
  obtain ⟨a, n, c, V, rfl, h1, h2, h3, h4⟩ := key
  obtain ⟨Z, hZ⟩ := choose_fn (q := fun i z => V i = .int k z ∧ (Lit.int k z).wf = true) (0 : Int) (fun i hi => by
    obtain ⟨f, y, hy⟩ := h4 i hi
    obtain ⟨z, hz, _, hw⟩ := DataW.trod_int he hy
    exact ⟨z, by simpa using hz, hw⟩)
  refine ⟨a, n, c, fun i => if i < n then Z i else 0, rfl, h1, h2, fun hn => ?_, fun i => ?_⟩
  · obtain ⟨b, off, e1, e2, e3⟩ := h3 hn
    exact ⟨b, off, e1, e2, fun i hi => by simp only [e3 i hi, (hZ i hi).1, if_pos hi]⟩
  · by_cases hi : i < n
    · simp only [if_pos hi]; exact (hZ i hi).2
    · simp only [if_neg hi]; cases k <;> decide
/-- What holds of a packet that comes in: its numbers are ints, its bytes bytes. -/
structure Pk.Wf (p : Pk) : Prop where
  f : (Lit.int .i64 p.f).wf = true
  t : (Lit.int .i64 p.t).wf = true
  n : (Lit.int .i64 p.n).wf = true
  life : (Lit.int .i64 p.life).wf = true
  path : ∀ x, x ∈ p.path → (Lit.int .i64 x).wf = true
  data : ∀ x, x ∈ p.data → 0 ≤ x ∧ x < 256
theorem mem_of {l : List Int} {n : Nat} {Z : Nat → Int} {q : Int → Prop} (hl : l.length = n) (hz : ∀ i, i < n → l.getD i 0 = Z i) (h : ∀ i, q (Z i)) : ∀ x, x ∈ l → q x := fun x hx => by
  obtain ⟨i, hi, e⟩ := List.getElem_of_mem hx
  have e2 := hz i (by omega)
  rw [List.getD_eq_getElem?_getD, List.getElem?_eq_getElem hi] at e2
  simp only [Option.getD_some] at e2
  rw [← e, e2]
  exact h i
theorem open_packet {v : Value} {d : DataW H} {pl : List MemPlace} (hv : Value.okWide Try.prog w .any base 37 v)
    (h : DataW.Trod enc Try.prog w 0 (fun _ => true) true 37 v d pl) :
    ∃ p : Pk, ∃ a c b e, v = .agg (p.vals a c b e) ∧ p.At w a c b e ∧ p.Wf := by
  have hC : Try.prog.cellsOf 37 = 6 := by kernel_rfl
  have hI : Try.prog.cellsOf 3 = 1 := by kernel_rfl
  have hS : Try.prog.cellsOf 26 = 1 := by kernel_rfl
  have hB : Try.prog.cellsOf 33 = 1 := by kernel_rfl
  obtain ⟨cs, rfl, hsz⟩ := okWide_struct Try.underlying37 hv
  rw [hC] at hsz
  obtain ⟨l⟩ := cs
  match l, hsz with
  | [x0, x1, x2, x3, x4, x5], _ =>
  obtain ⟨fuel, hf⟩ := h
  obtain ⟨xs, k, _, _, _, hlen, hfs⟩ := DataW.trod_struct Try.underlying37 hf
  match xs, hlen with
  | [y0, y1, y2, y3, y4, y5], _ =>
  obtain ⟨z0, e0, _, w0⟩ := DataW.trod_int Try.underlying3 (hfs 0 _ rfl)
  obtain ⟨z1, e1, _, w1⟩ := DataW.trod_int Try.underlying3 (hfs 1 _ rfl)
  obtain ⟨z2, e2, _, w2⟩ := DataW.trod_int Try.underlying3 (hfs 2 _ rfl)
  obtain ⟨z3, e3, _, w3⟩ := DataW.trod_int Try.underlying3 (hfs 3 _ rfl)
  have e4 := hfs 4 _ rfl
  have e5 := hfs 5 _ rfl
  simp [Value.cells, hI, hS, hB] at e0 e1 e2 e3 e4 e5
  subst e0 e1 e2 e3
  obtain ⟨a, n, c, Z, rfl, g1, g2, g3, g4⟩ := open_cell Try.underlying26 Try.underlying3 (by kernel_rfl) e4
  obtain ⟨b, m, e, Y, rfl, k1, k2, k3, k4⟩ := open_cell Try.underlying33 Try.underlying5 (by kernel_rfl) e5
  obtain ⟨l4, hl4, hz4⟩ := list_of n Z
  obtain ⟨l5, hl5, hz5⟩ := list_of m Y
  have r4 := row_z g3 hl4 hz4
  have r5 := row_b k3 hl5 hz5
  refine ⟨⟨z0, z1, z2, z3, l4, l5⟩, a, c, b, e, ?_, ⟨by rw [hl4]; exact g1, g2, r4, row_none r4, by rw [hl5]; exact k1, k2, r5, row_none r5⟩, ⟨w0, w1, w2, w3, mem_of hl4 hz4 g4, mem_of hl5 hz5 (fun i => u8_bd (k4 i))⟩⟩
  subst hl4 hl5
  rfl
end
end Go.Proofs.Ytiflmdekcjbmbaa.Rt
