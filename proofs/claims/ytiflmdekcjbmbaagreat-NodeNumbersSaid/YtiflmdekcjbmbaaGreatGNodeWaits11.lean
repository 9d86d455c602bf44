/-
  Package route (chapter 19): paths as lists; which may be; where a node stands in one. Package route: which paths may be; where a node stands in one. Package route: slices.Clone at int, bytes.Clone, slices.Reverse at int, off the shelf; Back. An append at a step of a region that draws its order: rows of one cell an element.
-/
import Derived.Test.YtiflmdekcjbmbaaGreatGNodeWaits01
import Derived.Lib.Hide
import Derived.IntWalk
import Derived.BigQuiet
import Derived.Deep.Quiet
import Derived.Deep.QuietTactic
import Derived.Ground.NamesProg
import Derived.Ground.Names2Prog
import Derived.Ground.SlbCloneProg
import Derived.Shelf.Slices.Clone
import Derived.Shelf.Slices.Reverse
import Derived.Shelf.Bytes.SlClone
import Derived.Lib.OwnBridge
set_option maxRecDepth 100000
namespace Go.Proofs.YtiflmdekcjbmbaaGreat.Rt
set_option linter.unusedVariables false
set_option linter.unusedSimpArgs false
open Go.RowKit Lb

def zval (zs : List Int) (j : Nat) : Value := .int .i64 (zs.getD j 0)
def bval (zs : List Int) (j : Nat) : Value := .int .u8 (zs.getD j 0)
def ndB (x : Int) : Bool := decide (0 ≤ x ∧ x < 16)
theorem ndB_yes {x : Int} (h : ndB x = true) : 0 ≤ x ∧ x < 16 := by
  unfold ndB at h
  rwa [decide_eq_true_eq] at h
theorem ndB_no {x : Int} (h : ndB x = false) : ¬ (0 ≤ x ∧ x < 16) := by
  unfold ndB at h
  rwa [decide_eq_false_iff_not] at h
/-- The first k are nodes, each once. -/
def Pfx (l : List Int) (k : Nat) : Prop := ∀ j, j < k → ndB (l.getD j 0) = true ∧ ∀ i, i < j → l.getD i 0 ≠ l.getD j 0
instance (l : List Int) (k : Nat) : Decidable (Pfx l k) := by unfold Pfx; infer_instance
def okP (l : List Int) : Bool := decide (l.length ≤ 16 ∧ Pfx l l.length)
theorem okP_yes {l : List Int} (h : l.length ≤ 16) (p : Pfx l l.length) : okP l = true := by
  unfold okP
  rw [decide_eq_true_eq]
  exact ⟨h, p⟩
theorem okP_no {l : List Int} (h : ¬ (l.length ≤ 16 ∧ Pfx l l.length)) : okP l = false := by
  unfold okP
  rw [decide_eq_false_iff_not]
  exact h
theorem okP_out {l : List Int} (h : okP l = true) : l.length ≤ 16 ∧ Pfx l l.length := by
  unfold okP at h
  rwa [decide_eq_true_eq] at h
theorem okP_not {l : List Int} (h : okP l = false) : ¬ (l.length ≤ 16 ∧ Pfx l l.length) := by
  unfold okP at h
  rwa [decide_eq_false_iff_not] at h
theorem pfx_zero (l : List Int) : Pfx l 0 := fun j hj => by omega
theorem pfx_succ {l : List Int} {k : Nat} (h : Pfx l k) (hn : ndB (l.getD k 0) = true) (hd : ∀ i, i < k → l.getD i 0 ≠ l.getD k 0) : Pfx l (k + 1) := fun j hj => by
  by_cases e : j = k
  · subst e; exact ⟨hn, hd⟩
  · exact h j (by omega)
theorem pfx_le {l : List Int} {k m : Nat} (h : Pfx l m) (hk : k ≤ m) : Pfx l k := fun j hj => h j (by omega)
/-- Bit x of s is set just if x is among the first k. -/
def Seen (l : List Int) (k s : Nat) : Prop := s < 2 ^ 16 ∧ ∀ x : Nat, s.testBit x = true ↔ ∃ j, j < k ∧ l.getD j 0 = (x : Int)
theorem seen_zero (l : List Int) : Seen l 0 0 := ⟨by decide, fun x => by simp⟩
theorem seen_succ {l : List Int} {k s d : Nat} (h : Seen l k s) (hd : l.getD k 0 = (d : Int)) (h16 : d < 16) : Seen l (k + 1) (s ||| 1 <<< d) := by
  refine ⟨?_, fun x => ?_⟩
  · rw [Nat.one_shiftLeft]
    exact Nat.or_lt_two_pow h.1 (Nat.pow_lt_pow_right (by decide) h16)
  · rw [Nat.testBit_or, Nat.one_shiftLeft, Nat.testBit_two_pow, Bool.or_eq_true, h.2 x, decide_eq_true_eq]
    constructor
    · rintro (⟨j, hj, e⟩ | e)
      · exact ⟨j, by omega, e⟩
      · exact ⟨k, by omega, by rw [hd, e]⟩
    · rintro ⟨j, hj, e⟩
      by_cases ej : j = k
      · subst ej
        rw [hd] at e
        exact .inr (by omega)
      · exact .inl ⟨j, by omega, e⟩
theorem seen_no {l : List Int} {k s d : Nat} (h : Seen l k s) (hb : s.testBit d = false) : ∀ i, i < k → l.getD i 0 ≠ (d : Int) := fun i hi e => by
  have := (h.2 d).2 ⟨i, hi, e⟩
  rw [hb] at this
  cases this
/-- The first place of x, or -1. -/
def atI (l : List Int) (x : Int) : Int := if (l.idxOf x) < l.length then (l.idxOf x : Int) else -1
theorem atI_is {l : List Int} {x : Int} {k : Nat} (hk : k < l.length) (h : l.getD k 0 = x) (hn : ∀ j, j < k → l.getD j 0 ≠ x) : atI l x = (k : Int) := by
  have e : l.idxOf x = k := by
    have hg : ∀ j (hj : j < l.length), l.getD j 0 = l[j] := fun j hj => by
      rw [List.getD_eq_getElem?_getD, List.getElem?_eq_getElem hj]; rfl
    rw [hg k hk] at h
    have hmem : x ∈ l := h ▸ List.getElem_mem hk
    have h1 : l.idxOf x < l.length := List.idxOf_lt_length_iff.2 hmem
    have h2 : l[l.idxOf x] = x := List.getElem_idxOf h1
    rcases Nat.lt_trichotomy (l.idxOf x) k with h3 | h3 | h3
    · exact absurd (by rw [hg _ h1]; exact h2) (hn _ h3)
    · exact h3
    · exact absurd h (by
        have := List.not_of_lt_findIdx (p := fun y => y == x) (xs := l) h3
        simpa using this)
  unfold atI
  rw [e, if_pos hk]
theorem atI_no {l : List Int} {x : Int} (hn : ∀ j, j < l.length → l.getD j 0 ≠ x) : atI l x = -1 := by
  unfold atI
  rw [if_neg]
  intro h
  refine hn _ h ?_
  rw [List.getD_eq_getElem?_getD, List.getElem?_eq_getElem h]
  exact List.getElem_idxOf h
theorem atI_get {l : List Int} {x : Int} (h : 0 ≤ atI l x) : ∃ k, k < l.length ∧ atI l x = (k : Int) ∧ l.getD k 0 = x ∧ ∀ j, j < k → l.getD j 0 ≠ x := by
  unfold atI at h ⊢
  by_cases h1 : l.idxOf x < l.length
  · refine ⟨l.idxOf x, h1, by rw [if_pos h1], ?_, fun j hj e => ?_⟩
    · rw [List.getD_eq_getElem?_getD, List.getElem?_eq_getElem h1]
      exact List.getElem_idxOf h1
    · have := List.not_of_lt_findIdx (p := fun y => y == x) (xs := l) hj
      rw [List.getD_eq_getElem?_getD, List.getElem?_eq_getElem (by omega)] at e
      simp only [Option.getD_some] at e
      simp [e] at this
  · rw [if_neg h1] at h
    omega
theorem atI_bd (l : List Int) (x : Int) : -1 ≤ atI l x ∧ atI l x < l.length := by
  unfold atI
  split <;> omega
/-- A packet. -/
structure Pk where
  f : Int
  t : Int
  n : Int
  life : Int
  path : List Int
  data : List Int
def mayK (p : Pk) : Bool := ndB p.f && (ndB p.t && (p.f != p.t && (decide (0 ≤ p.n) && (decide (p.n ≤ 70368744177663) && (decide (0 ≤ p.life) && (decide (p.life ≤ 15) && (okP p.path && (decide (1 ≤ p.data.length) && decide (p.data.length ≤ 24)))))))))
def Pk.vals (p : Pk) (a : Option Addr) (c : Nat) (b : Option Addr) (d : Nat) : Array Value := #[.int .i64 p.f, .int .i64 p.t, .int .i64 p.n, .int .i64 p.life, .slice a p.path.length c, .slice b p.data.length d]
/-- The rows of a packet, as they lie. -/
structure Pk.At (w : World) (p : Pk) (a : Option Addr) (c : Nat) (b : Option Addr) (d : Nat) : Prop where
  pc : p.path.length ≤ c
  pm : c ≤ maxLen
  prow : Row w a p.path.length (zval p.path)
  pnil : a = none → p.path.length = 0
  dc : p.data.length ≤ d
  dm : d ≤ maxLen
  drow : Row w b p.data.length (bval p.data)
  dnil : b = none → p.data.length = 0
theorem Pk.At.below {w w' : World} {p : Pk} {a : Option Addr} {c : Nat} {b : Option Addr} {d : Nat} (h : p.At w a c b d) (j : Below w.heap.size w w') : p.At w' a c b d :=
  ⟨h.pc, h.pm, h.prow.below j, h.pnil, h.dc, h.dm, h.drow.below j, h.dnil⟩
end Go.Proofs.YtiflmdekcjbmbaaGreat.Rt
set_option maxRecDepth 100000
namespace Go.Proofs.YtiflmdekcjbmbaaGreat.Rt
set_option linter.unusedVariables false
set_option linter.unusedSimpArgs false
open Go.RowKit Lb

theorem isNode_any (x : Int) (w : World) : Calls Tryz.prog 222 #[.int .i64 x] w fun r w' => r = .returned (.bool (ndB x)) ∧ w = w' := by
  by_cases h0 : 0 ≤ x
  · by_cases h1 : x < 16
    · have HD : Hid (ndB x = true) := Lib.hid (by simp [ndB, h0, h1])
      go_enter Tryz.func222, Tryz.ntmps222
      go_wp2_with fail
      go_ret
      exact ⟨by rw [HD.out]; rfl, rfl⟩
    · have HD : Hid (ndB x = false) := Lib.hid (by simp [ndB]; omega)
      have h2 : decide (x < 16) = false := by simp; omega
      clear h1
      go_enter Tryz.func222, Tryz.ntmps222
      go_wp2_with fail
      go_ret
      exact ⟨by rw [HD.out]; rfl, rfl⟩
  · have HD : Hid (ndB x = false) := Lib.hid (by simp [ndB]; omega)
    have h2 : x < 0 := by omega
    clear h0
    go_enter Tryz.func222, Tryz.ntmps222
    go_wp2_with fail
    go_ret
    exact ⟨by rw [HD.out]; rfl, rfl⟩
theorem node_any (x : Int) (w : World) : Calls Tryz.prog 122 #[.int .i64 x] w fun r w' => r = .returned (.bool (ndB x)) ∧ w = w' := by
  by_cases h0 : 0 ≤ x
  · by_cases h1 : x < 16
    · have HD : Hid (ndB x = true) := Lib.hid (by simp [ndB, h0, h1])
      go_enter Tryz.func122, Tryz.ntmps122
      go_wp2_with fail
      go_ret
      exact ⟨by rw [HD.out]; rfl, rfl⟩
    · have HD : Hid (ndB x = false) := Lib.hid (by simp [ndB]; omega)
      have h2 : decide (x < 16) = false := by simp; omega
      clear h1
      go_enter Tryz.func122, Tryz.ntmps122
      go_wp2_with fail
      go_ret
      exact ⟨by rw [HD.out]; rfl, rfl⟩
  · have HD : Hid (ndB x = false) := Lib.hid (by simp [ndB]; omega)
    have h2 : x < 0 := by omega
    clear h0
    go_enter Tryz.func122, Tryz.ntmps122
    go_wp2_with fail
    go_ret
    exact ⟨by rw [HD.out]; rfl, rfl⟩
theorem pathMay_any (a : Option Addr) (c : Nat) (l : List Int) (w : World) (hc : l.length ≤ maxLen) (hR : Row w a l.length (zval l)) :
    Calls Tryz.prog 223 #[.slice a l.length c] w fun r w' => r = .returned (.bool (okP l)) ∧ w = w' := by
  unfold maxLen at hc
  obtain ⟨n, hn⟩ : ∃ n, l.length = n := ⟨_, rfl⟩
  have HN := Lib.hid hn
  rw [hn] at hR hc ⊢
  clear hn
  by_cases h16 : 16 < n
  · have HD : Hid (okP l = false) := Lib.hid (okP_no (by rw [HN.out]; omega))
    have g1 : decide (16 < n) = true := by simpa using h16
    have g2 : decide ((16 : Int) < (n : Int)) = true := by simp; omega
    go_enter Tryz.func223, Tryz.ntmps223
    go_wp2_with fail
    go_ret
    exact ⟨by rw [HD.out]; rfl, rfl⟩
  have g1 : decide (16 < n) = false := by simpa using h16
  have g2 : decide ((16 : Int) < (n : Int)) = false := by simp; omega
  go_enter Tryz.func223, Tryz.ntmps223
  go_wp2_with fail
  clear g1 g2
  go_loopw [11, 3] (fun i s wr => ∃ (k S : Nat), i = .int .i64 k ∧ s = .int .u64 (S : Nat) ∧ k ≤ n ∧ Hid (Pfx l k) ∧ Hid (Seen l k S) ∧ w = wr) (fun i _ _ => n - (intOf i).toNat)
  case atStart => exact ⟨0, 0, rfl, rfl, by omega, Lib.hid (pfx_zero l), Lib.hid (seen_zero l), rfl⟩
  case round =>
    obtain ⟨k, S, rfl, rfl, hk, HP, HS, rfl⟩ := hrel
    by_cases hlt : k < n
    · obtain ⟨b, off, rfl, hb, c0⟩ := hR.at_ hlt
      unfold zval at c0
      obtain ⟨x, hx⟩ : ∃ x, l.getD k 0 = x := ⟨_, rfl⟩
      have HX := Lib.hid hx
      rw [hx] at c0
      clear hx
      have hS : S < 65536 := HS.out.1
      cases hnd : ndB x
      · have HD : Hid (okP l = false) := Lib.hid (okP_no (fun h => by
          have := (h.2 k (by rw [HN.out]; exact hlt)).1
          rw [HX.out, hnd] at this
          cases this))
        have HB := Lib.hid hnd
        clear hnd
        go_wp2_with ((with_reducible refine (isNode_any _ _).mono ?_); rintro r w' ⟨rfl, rfl⟩; rw [HB.out])
        go_ret
        exact ⟨by rw [HD.out]; rfl, rfl⟩
      · have hx16 := ndB_yes hnd
        have HB := Lib.hid hnd
        clear hnd
        obtain ⟨d, rfl⟩ : ∃ d : Nat, x = (d : Int) := ⟨x.toNat, by omega⟩
        have hd : d < 16 := by omega
        have q1 : S >>> d < 18446744073709551616 := Nat.lt_of_le_of_lt (by rw [Nat.shiftRight_eq_div_pow]; exact Nat.div_le_self _ _) (by omega)
        cases hbit : S.testBit d
        · have e4 : bits .and .u64 ((S : Int) / 2 ^ d) 1 = 0 := by
            have := u64_and_nat _ 1 q1 (by decide)
            rw [shr_and_one, hbit, Nat.shiftRight_eq_div_pow] at this
            simpa using this
          have q3 : (1 : Nat) <<< d < 18446744073709551616 := by
            rw [Nat.one_shiftLeft]
            exact Nat.lt_of_lt_of_le (Nat.pow_lt_pow_right (by decide) (show d < 64 by omega)) (by decide)
          have e6 : bits .or .u64 (S : Int) (IntKind.u64.wrap (2 ^ d)) = ((S ||| 1 <<< d : Nat) : Int) := by
            rw [← u64_or_nat _ _ (by omega) q3]
            congr 1
            have := wrap_nat .u64 rfl (2 ^ d)
            rw [Nat.one_shiftLeft] at q3 ⊢
            rw [show 2 ^ IntKind.u64.bits = 18446744073709551616 from rfl, Nat.mod_eq_of_lt q3] at this
            rw [← this]
            simp
          have HS2 := Lib.hid (seen_succ HS.out HX.out hd)
          have HP2 := Lib.hid (pfx_succ HP.out (by rw [HX.out]; exact HB.out) (by rw [HX.out]; exact seen_no HS.out hbit))
          generalize (S ||| 1 <<< d) = S2 at *
          clear hbit q1 q3
          go_wp2_with ((with_reducible refine (isNode_any _ _).mono ?_); rintro r w' ⟨rfl, rfl⟩; rw [HB.out])
          exact ⟨⟨k + 1, S2, by simp, rfl, by omega, HP2, HS2, trivial⟩, by simp [intOf]; omega⟩
        · have e4 : bits .and .u64 ((S : Int) / 2 ^ d) 1 = 1 := by
            have := u64_and_nat _ 1 q1 (by decide)
            rw [shr_and_one, hbit, Nat.shiftRight_eq_div_pow] at this
            simpa using this
          have HD : Hid (okP l = false) := Lib.hid (okP_no (fun h => by
            obtain ⟨j, hj, e⟩ := (HS.out.2 d).1 hbit
            exact (h.2 k (by rw [HN.out]; exact hlt)).2 j hj (by rw [e, HX.out])))
          clear hbit q1
          go_wp2_with ((with_reducible refine (isNode_any _ _).mono ?_); rintro r w' ⟨rfl, rfl⟩; rw [HB.out])
          go_ret
          exact ⟨by rw [HD.out]; rfl, rfl⟩
    · obtain rfl : n = k := by omega
      have HD : Hid (okP l = true) := Lib.hid (okP_yes (by rw [HN.out]; omega) (by rw [HN.out]; exact HP.out))
      go_wp2_with fail
      go_ret
      exact ⟨by rw [HD.out]; rfl, rfl⟩
theorem index_any (a : Option Addr) (c : Nat) (l : List Int) (x : Int) (w : World) (hc : l.length ≤ maxLen) (hR : Row w a l.length (zval l)) :
    Calls Tryz.prog 226 #[.slice a l.length c, .int .i64 x] w fun r w' => r = .returned (.int .i64 (atI l x)) ∧ w = w' := by
  unfold maxLen at hc
  obtain ⟨n, hn⟩ : ∃ n, l.length = n := ⟨_, rfl⟩
  have HN := Lib.hid hn
  rw [hn] at hR hc ⊢
  clear hn
  go_enter Tryz.func226, Tryz.ntmps226
  go_wp2_with fail
  go_loopw [8] (fun i wr => ∃ k : Nat, i = .int .i64 k ∧ k ≤ n ∧ Hid (∀ j, j < k → l.getD j 0 ≠ x) ∧ w = wr) (fun i _ => n - (intOf i).toNat)
  case atStart => exact ⟨0, rfl, by omega, Lib.hid (fun j hj => by omega), rfl⟩
  case round =>
    obtain ⟨k, rfl, hk, HP, rfl⟩ := hrel
    by_cases hlt : k < n
    · obtain ⟨b, off, rfl, hb, c0⟩ := hR.at_ hlt
      unfold zval at c0
      obtain ⟨y, hy⟩ : ∃ y, l.getD k 0 = y := ⟨_, rfl⟩
      have HY := Lib.hid hy
      rw [hy] at c0
      clear hy
      by_cases hxy : x = y
      · have HD : Hid (atI l x = (k : Int)) := Lib.hid (atI_is (by rw [HN.out]; exact hlt) (by rw [HY.out, hxy]) HP.out)
        have g1 : (x == y) = true := by simpa using hxy
        clear hxy
        go_wp2_with fail
        go_ret
        exact ⟨by rw [HD.out]; rfl, rfl⟩
      · have HP2 : Hid (∀ j, j < k + 1 → l.getD j 0 ≠ x) := Lib.hid (fun j hj => by
          by_cases e : j = k
          · subst e; rw [HY.out]; exact fun h => hxy h.symm
          · exact HP.out j (by omega))
        have g1 : (x == y) = false := by simpa using hxy
        clear hxy
        go_wp2_with fail
        exact ⟨⟨k + 1, by simp, by omega, HP2, trivial⟩, by simp [intOf]; omega⟩
    · obtain rfl : n = k := by omega
      have HD : Hid (atI l x = -1) := Lib.hid (atI_no (by rw [HN.out]; exact HP.out))
      go_wp2_with fail
      go_ret
      exact ⟨by rw [HD.out]; rfl, rfl⟩
theorem contains_any (a : Option Addr) (c : Nat) (l : List Int) (x : Int) (w : World) (hc : l.length ≤ maxLen) (hR : Row w a l.length (zval l)) :
    Calls Tryz.prog 224 #[.slice a l.length c, .int .i64 x] w fun r w' => r = .returned (.bool (decide (0 ≤ atI l x))) ∧ w = w' := by
  go_enter Tryz.func224, Tryz.ntmps224
  go_wp2_with ((with_reducible refine (index_any _ _ l x _ hc hR).mono ?_); rintro r w' ⟨rfl, rfl⟩)
  go_ret
  exact ⟨rfl, rfl⟩
theorem rat_any (a : Option Addr) (c : Nat) (l : List Int) (x : Int) (w : World) (hc : l.length ≤ maxLen) (hR : Row w a l.length (zval l)) :
    Calls Tryz.prog 160 #[.slice a l.length c, .int .i64 x] w fun r w' => r = .returned (.int .i64 (atI l x)) ∧ w = w' := by
  unfold maxLen at hc
  obtain ⟨n, hn⟩ : ∃ n, l.length = n := ⟨_, rfl⟩
  have HN := Lib.hid hn
  rw [hn] at hR hc ⊢
  clear hn
  go_enter Tryz.func160, Tryz.ntmps160
  go_wp2_with fail
  go_loopw [9] (fun i wr => ∃ k : Nat, i = .int .i64 k ∧ k ≤ n ∧ Hid (∀ j, j < k → l.getD j 0 ≠ x) ∧ w = wr) (fun i _ => n - (intOf i).toNat)
  case atStart => exact ⟨0, rfl, by omega, Lib.hid (fun j hj => by omega), rfl⟩
  case round =>
    obtain ⟨k, rfl, hk, HP, rfl⟩ := hrel
    by_cases hlt : k < n
    · obtain ⟨b, off, rfl, hb, c0⟩ := hR.at_ hlt
      unfold zval at c0
      obtain ⟨y, hy⟩ : ∃ y, l.getD k 0 = y := ⟨_, rfl⟩
      have HY := Lib.hid hy
      rw [hy] at c0
      clear hy
      by_cases hxy : y = x
      · have HD : Hid (atI l x = (k : Int)) := Lib.hid (atI_is (by rw [HN.out]; exact hlt) (by rw [HY.out, hxy]) HP.out)
        have g1 : (y == x) = true := by simpa using hxy
        clear hxy
        go_wp2_with fail
        go_ret
        exact ⟨by rw [HD.out]; rfl, rfl⟩
      · have HP2 : Hid (∀ j, j < k + 1 → l.getD j 0 ≠ x) := Lib.hid (fun j hj => by
          by_cases e : j = k
          · subst e; rw [HY.out]; exact hxy
          · exact HP.out j (by omega))
        have g1 : (y == x) = false := by simpa using hxy
        clear hxy
        go_wp2_with fail
        exact ⟨⟨k + 1, by simp, by omega, HP2, trivial⟩, by simp [intOf]; omega⟩
    · obtain rfl : n = k := by omega
      have HD : Hid (atI l x = -1) := Lib.hid (atI_no (by rw [HN.out]; exact HP.out))
      go_wp2_with fail
      go_ret
      exact ⟨by rw [HD.out]; rfl, rfl⟩
theorem atI_pre {l : List Int} {k : Nat} {x : Int} (hk : k ≤ l.length) : (atI (l.take k) x < 0) ↔ ∀ i, i < k → l.getD i 0 ≠ x := by
  have hlen : (l.take k).length = k := by simp; omega
  have hg : ∀ i, i < k → (l.take k).getD i 0 = l.getD i 0 := fun i hi => by
    rw [List.getD_eq_getElem?_getD, List.getD_eq_getElem?_getD, List.getElem?_take, if_pos hi]
  constructor
  · intro h i hi e
    by_cases h0 : 0 ≤ atI (l.take k) x
    · omega
    · rcases atI_bd (l.take k) x with ⟨h1, h2⟩
      have : atI (l.take k) x = -1 := by omega
      unfold atI at this
      split at this
      · omega
      · rename_i hh
        refine hh (List.idxOf_lt_length_iff.2 ?_)
        rw [← e, ← hg i hi, List.getD_eq_getElem?_getD, List.getElem?_eq_getElem (by omega)]
        exact List.getElem_mem _
  · intro h
    rw [atI_no (fun j hj => by rw [hlen] at hj; rw [hg j hj]; exact h j hj)]
    decide
theorem row_take {w : World} {a : Option Addr} {l : List Int} {k : Nat} (h : Row w a l.length (zval l)) (hk : k ≤ l.length) : Row w a (l.take k).length (zval (l.take k)) := by
  have hlen : (l.take k).length = k := by simp; omega
  rw [hlen]
  intro h0
  obtain ⟨b, off, h1, h2, h3⟩ := h (by omega)
  refine ⟨b, off, h1, h2, fun i hi => ?_⟩
  rw [h3 i (by omega)]
  unfold zval
  rw [List.getD_eq_getElem?_getD, List.getD_eq_getElem?_getD, List.getElem?_take, if_pos hi]
theorem rpath_any (a : Option Addr) (c : Nat) (l : List Int) (w : World) (hlc : l.length ≤ c) (hc : c ≤ maxLen) (hR : Row w a l.length (zval l)) :
    Calls Tryz.prog 174 #[.slice a l.length c] w fun r w' => r = .returned (.bool (okP l)) ∧ w = w' := by
  have hcm : l.length ≤ maxLen := Nat.le_trans hlc hc
  have hat := fun (k : Nat) (hk : k ≤ l.length) (x : Int) => rat_any a c (l.take k) x w (Nat.le_trans (List.length_take_le _ _) (by unfold maxLen at *; omega)) (row_take hR hk)
  have hlen : ∀ k, k ≤ l.length → (l.take k).length = k := fun k hk => by simp; omega
  unfold maxLen at hc
  obtain ⟨n, hn⟩ : ∃ n, l.length = n := ⟨_, rfl⟩
  have HN := Lib.hid hn
  have HAT := Lib.hid hat
  have HLEN := Lib.hid hlen
  rw [hn] at hR hlc hcm ⊢
  clear hn hat hlen
  go_enter Tryz.func174, Tryz.ntmps174
  go_wp2_with fail
  go_loopw [7] (fun i wr => ∃ k : Nat, i = .int .i64 k ∧ k ≤ n ∧ Hid (Pfx l k) ∧ w = wr) (fun i _ => n - (intOf i).toNat)
  case atStart => exact ⟨0, rfl, by omega, Lib.hid (pfx_zero l), rfl⟩
  case round =>
    obtain ⟨k, rfl, hk, HP, rfl⟩ := hrel
    by_cases hlt : k < n
    · obtain ⟨b, off, rfl, hb, c0⟩ := hR.at_ hlt
      unfold zval at c0
      obtain ⟨x, hx⟩ : ∃ x, l.getD k 0 = x := ⟨_, rfl⟩
      have HX := Lib.hid hx
      rw [hx] at c0
      clear hx
      cases hnd : ndB x
      · have HD : Hid (okP l = false) := Lib.hid (okP_no (fun h => by
          have := (h.2 k (by rw [HN.out]; exact hlt)).1
          rw [HX.out, hnd] at this
          cases this))
        have HB := Lib.hid hnd
        clear hnd
        go_wp2_with ((with_reducible refine (node_any _ _).mono ?_); rintro r w' ⟨rfl, rfl⟩; rw [HB.out])
        go_ret
        exact ⟨by rw [HD.out]; rfl, rfl⟩
      · have HB := Lib.hid hnd
        have hat := HAT.out k (by rw [HN.out]; omega) x
        rw [HLEN.out k (by rw [HN.out]; omega)] at hat
        have hpre := atI_pre (l := l) (k := k) (x := x) (by rw [HN.out]; omega)
        obtain ⟨z, hz⟩ : ∃ z, atI (l.take k) x = z := ⟨_, rfl⟩
        rw [hz] at hat hpre
        have HA := Lib.hid hat
        clear hnd hat hz
        by_cases hz : z < 0
        · have g1 : decide (0 ≤ z) = false := by simp; omega
          have HP2 : Hid (Pfx l (k + 1)) := Lib.hid (pfx_succ HP.out (by rw [HX.out]; exact HB.out) (by rw [HX.out]; exact hpre.1 hz))
          clear hz hpre
          go_wp2_with (first | ((with_reducible refine (node_any _ _).mono ?_); rintro r w' ⟨rfl, rfl⟩; rw [HB.out]) | (refine HA.out.mono ?_; rintro r w' ⟨rfl, rfl⟩))
          exact ⟨⟨k + 1, by simp [intOf], by omega, HP2, trivial⟩, by simp [intOf]; omega⟩
        · have g1 : decide (0 ≤ z) = true := by simp; omega
          have HD : Hid (okP l = false) := Lib.hid (okP_no (fun h => hz (hpre.2 (by have := (h.2 k (by rw [HN.out]; exact hlt)).2; rw [HX.out] at this; exact this))))
          clear hz hpre
          go_wp2_with (first | ((with_reducible refine (node_any _ _).mono ?_); rintro r w' ⟨rfl, rfl⟩; rw [HB.out]) | (refine HA.out.mono ?_; rintro r w' ⟨rfl, rfl⟩))
          go_ret
          exact ⟨by rw [HD.out]; rfl, rfl⟩
    · obtain rfl : n = k := by omega
      by_cases h16 : n ≤ 16
      · have HD : Hid (okP l = true) := Lib.hid (okP_yes (by rw [HN.out]; exact h16) (by rw [HN.out]; exact HP.out))
        have g1 : decide (n ≤ 16) = true := by simpa using h16
        have g2 : decide ((n : Int) ≤ 16) = true := by simp; omega
        clear h16
        go_wp2_with fail
        go_ret
        exact ⟨by rw [HD.out]; rfl, rfl⟩
      · have HD : Hid (okP l = false) := Lib.hid (okP_no (by rw [HN.out]; omega))
        have g1 : decide (n ≤ 16) = false := by simpa using h16
        have g2 : decide ((n : Int) ≤ 16) = false := by simp; omega
        clear h16
        go_wp2_with fail
        go_ret
        exact ⟨by rw [HD.out]; rfl, rfl⟩
end Go.Proofs.YtiflmdekcjbmbaaGreat.Rt
set_option maxRecDepth 100000
namespace Go.Proofs
set_option linter.unusedVariables false
set_option linter.unusedSimpArgs false
open Go.Shelf
def Tryz.laysCloneR_ren : Go.Shelf.Ren := ⟨fun | 15 => 46 | n => n, fun | 22 => 23 | 3 => 3 | 4 => 4 | n => n, fun | n => n⟩
theorem Tryz.laysCloneR : Go.Proofs.Lays2.n15 Tryz.prog Tryz.laysCloneR_ren := {
  mixed := by kernel_rfl
  f15 := Tryz.func46.trans (congrArg some (by kernel_rfl))
  t3 := Tryz.underlying3
  a3 := Tryz.isAgg3
  z3 := Tryz.sizeOf3
  v3 := Tryz.zeroValue3
  t4 := Tryz.underlying4
  a4 := Tryz.isAgg4
  z4 := Tryz.sizeOf4
  v4 := Tryz.zeroValue4
  t22 := Tryz.underlying23
  a22 := Tryz.isAgg23
  z22 := Tryz.sizeOf23
  v22 := Tryz.zeroValue23
  i3 := by kernel_rfl }
def Tryz.laysReverse_ren : Go.Shelf.Ren := ⟨fun | 112 => 245 | n => n, fun | 28 => 23 | 3 => 3 | 4 => 4 | 0 => 0 | n => n, fun | n => n⟩
theorem Tryz.laysReverse : Go.Proofs.Lays.n112 Tryz.prog Tryz.laysReverse_ren := {
  mixed := by kernel_rfl
  f112 := Tryz.func245.trans (congrArg some (by kernel_rfl))
  t0 := Tryz.underlying0
  a0 := Tryz.isAgg0
  z0 := Tryz.sizeOf0
  v0 := Tryz.zeroValue0
  t3 := Tryz.underlying3
  a3 := Tryz.isAgg3
  z3 := Tryz.sizeOf3
  v3 := Tryz.zeroValue3
  t4 := Tryz.underlying4
  a4 := Tryz.isAgg4
  z4 := Tryz.sizeOf4
  v4 := Tryz.zeroValue4
  t28 := Tryz.underlying23
  a28 := Tryz.isAgg23
  z28 := Tryz.sizeOf23
  v28 := Tryz.zeroValue23 }
def Tryz.laysCloneB_ren : Go.Shelf.Ren := ⟨fun | 4 => 179 | n => n, fun | 22 => 35 | 4 => 4 | 5 => 5 | n => n, fun | n => n⟩
theorem Tryz.laysCloneB : Go.Proofs.SlLaysK.n4 Tryz.prog Tryz.laysCloneB_ren := {
  mixed := by kernel_rfl
  f4 := Tryz.func179.trans (congrArg some (by kernel_rfl))
  t4 := Tryz.underlying4
  a4 := Tryz.isAgg4
  z4 := Tryz.sizeOf4
  v4 := Tryz.zeroValue4
  t22 := Tryz.underlying35
  a22 := Tryz.isAgg35
  z22 := Tryz.sizeOf35
  v22 := Tryz.zeroValue35
  t5 := Tryz.underlying5
  i5 := by kernel_rfl }
end Go.Proofs
namespace Go.Proofs.YtiflmdekcjbmbaaGreat.Rt
set_option linter.unusedVariables false
set_option linter.unusedSimpArgs false
open Go.RowKit Lb Go.Shelf Go.Sort

theorem zlist (zs : List Int) : (List.range zs.length).map (zval zs) = zs.map (Value.int .i64) := by
  apply List.ext_getElem
  · simp
  · intro i h1 h2
    simp at h1
    simp [zval, List.getD, h1]
theorem blist (zs : List Int) : (List.range zs.length).map (bval zs) = zs.map (Value.int .u8) := by
  apply List.ext_getElem
  · simp
  · intro i h1 h2
    simp at h1
    simp [bval, List.getD, h1]
theorem mine_z {w : World} {base : Nat} {v : Value} {zs : List Int} (h : w.ownsRow base 3 1 v zs.length (zs.map (Value.int .i64))) : Mine w base 3 v zs.length (zval zs) := by
  unfold Mine
  rw [zlist]
  exact h
theorem z_mine {w : World} {base : Nat} {v : Value} {zs : List Int} (h : Mine w base 3 v zs.length (zval zs)) : w.ownsRow base 3 1 v zs.length (zs.map (Value.int .i64)) := by
  unfold Mine at h
  rwa [zlist] at h
theorem mine_b {w : World} {base : Nat} {v : Value} {zs : List Int} (h : w.ownsRow base 5 1 v zs.length (zs.map (Value.int .u8))) : Mine w base 5 v zs.length (bval zs) := by
  unfold Mine
  rw [blist]
  exact h
/-- A copy: the same numbers, in a new block or none; nil of nil. -/
theorem cloneI_any (a : Option Addr) (c : Nat) (l : List Int) (w : World) (hc : l.length ≤ 1000000) (hR : Row w a l.length (zval l)) (ha : a = none → l.length = 0) :
    Calls Tryz.prog 46 #[.slice a l.length c] w fun r w' => ∃ v, r = .returned v ∧ Mine w' w.heap.size 3 v l.length (zval l) ∧ Below w.heap.size w w' := by
  cases a with
  | none =>
    refine (Any.slices_Clone_int_nil Tryz.laysCloneR l.length c w).mono ?_
    rintro r w' ⟨rfl, rfl⟩
    have h0 := ha rfl
    refine ⟨.slice none 0 0, rfl, ?_, Below.refl _ _⟩
    rw [h0]
    exact Mine.nil _ _ _ _
  | some p =>
    by_cases h0 : l.length = 0
    · rw [h0]
      refine (Any.slices_Clone_int_zero Tryz.laysCloneR p c w).mono ?_
      rintro r w' ⟨v, rfl, hown, hne, hb⟩
      exact ⟨v, rfl, hown, hb⟩
    · obtain ⟨b, off, hp, hbl, hcs⟩ := hR (by omega)
      injection hp with hp
      subst hp
      refine (Any.slices_Clone_int Tryz.laysCloneR b off l.length c l w (Nat.le_refl _) (by omega) (fun j hj => hcs j hj)).mono ?_
      rintro r w' ⟨v, rfl, hown, hne, hb⟩
      rw [List.take_length] at hown
      exact ⟨v, rfl, mine_z hown, hb⟩
theorem cloneB_any (a : Option Addr) (c : Nat) (l : List Int) (w : World) (hc : l.length ≤ 1000000) (hR : Row w a l.length (bval l)) (ha : a = none → l.length = 0) :
    Calls Tryz.prog 179 #[.slice a l.length c] w fun r w' => ∃ v, r = .returned v ∧ Mine w' w.heap.size 5 v l.length (bval l) ∧ Below w.heap.size w w' := by
  cases a with
  | none =>
    refine (Any.bytes_Clone_nil Tryz.laysCloneB l.length c w).mono ?_
    rintro r w' ⟨rfl, rfl⟩
    have h0 := ha rfl
    refine ⟨.slice none 0 0, rfl, ?_, Below.refl _ _⟩
    rw [h0]
    exact Mine.nil _ _ _ _
  | some p =>
    refine (Any.bytes_Clone_at Tryz.laysCloneB p l.length c l w rfl (by omega) (fun i hi => by
      obtain ⟨b, off, hp, _, h3⟩ := hR.at_ hi
      injection hp with hp
      subst hp
      rw [Addr.add_lit, h3]
      rfl)).mono ?_
    rintro r w' ⟨v, rfl, hown, hne, hb⟩
    exact ⟨v, rfl, mine_b hown, hb⟩
theorem rev_any (base : Nat) (v : Value) (l : List Int) (w : World) (h : Mine w base 3 v l.length (zval l)) :
    Calls Tryz.prog 245 #[v] w fun r w' => r = .returned (.tuple #[]) ∧ Mine w' base 3 v l.length (zval l.reverse) ∧ ∀ w0, Below base w0 w → Below base w0 w' := by
  have hr : (l.reverse).length = l.length := by simp
  by_cases hv : v = .slice none 0 0
  · subst hv
    have h0 : l.length = 0 := by
      obtain ⟨_, h2⟩ := h
      rcases h2 with ⟨_, h3⟩ | ⟨g, cap, cur, hv, _⟩
      · exact h3
      · injection hv with h4 _ _
        cases h4
    refine (Any.slices_Reverse_int_empty Tryz.laysReverse none 0 w).mono ?_
    rintro r w' ⟨rfl, rfl⟩
    refine ⟨rfl, ?_, fun w0 hb => hb⟩
    rw [h0]
    exact Mine.nil _ _ _ _
  · have hz := z_mine h
    obtain ⟨g, cap, rfl, hbg, _, _, hcm, hlen, hH⟩ := Lib.holds_of_ownsRow hz hv
    have hrev := Any.slices_Reverse_int Tryz.laysReverse g 0 cap l w hH (by unfold maxLen at hcm; omega)
    refine hrev.mono ?_
    rintro r w' ⟨rfl, q, rfl⟩
    have h1 := Lib.ownsRow_putRow (q := q) (ys := l.reverse) hz hr (Nat.le_refl _)
    rw [List.take_of_length_le (by omega), ← hr] at h1
    have h2 := mine_z h1
    rw [hr] at h2
    exact ⟨rfl, h2, fun w0 hb => Lib.below_putRow hb hbg⟩
def backL (l : List Int) : List Int := if okP l = true then l.reverse else []
theorem back_any (a : Option Addr) (c : Nat) (l : List Int) (w : World) (hlc : l.length ≤ c) (hc : c ≤ maxLen) (hR : Row w a l.length (zval l)) (ha : a = none → l.length = 0) :
    Calls Tryz.prog 225 #[.slice a l.length c] w fun r w' => ∃ v, r = .returned v ∧ Mine w' w.heap.size 3 v (backL l).length (zval (backL l)) ∧ Below w.heap.size w w' := by
  have hcl : l.length ≤ maxLen := Nat.le_trans hlc hc
  cases hm : okP l
  · have HM := Lib.hid hm
    have HD : Hid (backL l = []) := Lib.hid (by unfold backL; rw [hm]; rfl)
    clear hm
    go_enter Tryz.func225, Tryz.ntmps225
    go_wp2_with ((with_reducible refine (pathMay_any _ _ _ _ hcl hR).mono ?_); rintro r w' ⟨rfl, rfl⟩; rw [HM.out])
    go_ret
    refine ⟨.slice none 0 0, rfl, ?_, Below.refl _ _⟩
    rw [HD.out]
    exact Mine.nil _ _ _ _
  · have HM := Lib.hid hm
    have h16 := (okP_out hm).1
    have HD : Hid (backL l = l.reverse) := Lib.hid (by unfold backL; rw [hm]; rfl)
    clear hm
    go_enter Tryz.func225, Tryz.ntmps225
    go_wp2_with ((with_reducible refine (pathMay_any _ _ _ _ hcl hR).mono ?_); rintro r w' ⟨rfl, rfl⟩; rw [HM.out])
    refine (cloneI_any a c l _ (by omega) hR ha).mono ?_
    rintro r w1 ⟨v, rfl, hm1, b1⟩
    go_wp2_with fail
    refine (rev_any _ v l w1 hm1).mono ?_
    rintro r w2 ⟨rfl, hm2, b2⟩
    go_wp2_with fail
    go_ret
    refine ⟨v, rfl, ?_, b2 w b1⟩
    rw [HD.out]
    simpa using hm2
end Go.Proofs.YtiflmdekcjbmbaaGreat.Rt
set_option maxRecDepth 100000
namespace Go.Proofs.YtiflmdekcjbmbaaGreat.Lb
set_option linter.unusedVariables false
set_option linter.unusedSimpArgs false
open Go.RowKit

theorem step_app {P : Program} {w : World} {ops : Array Oper} {o : Oper} {a : Act} {K : Act → World → Prop} {Q : Exit → Act → World → Prop} {E : Prop} (hgd : o.guard = none) (s x : Operand) (t : TypeId)
    (ho : o.op = .call { callee := .builtin .append, args := #[s, x], argTypes := #[t, t] })
    (base : Nat) (e : TypeId) (i : TypeInfo) (z : Value) (bytes : Nat) (ht : P.underlying t = some (.slice e)) (hi : P.info? e = some i) (hz : i.zero = some z)
    (hsize : i.size = 1) (hby : i.bytes = bytes) (hzs : z.cells.size = 1)
    (v : Value) (n : Nat) (V : Nat → Value) (hs : a.eval s = v) (hown : Mine w base e v n V)
    (A : Option Addr) (m c : Nat) (U : Nat → Value) (hx : a.eval x = .slice A m c) (hr : Row w A m U) (h1 : ∀ i, i < m → (U i).oneCell' = true)
    (h63 : n + m ≤ maxLen) (hbytes : (n + m) * bytes ≤ 140737488355328) (hbase : base ≤ w.heap.size)
    (h : ∀ v' w', Mine w' base e v' (n + m) (fun i => if i < n then V i else U (i - n)) → w.grownBy w' v.ownBlock → (v'.ownBlock = v.ownBlock ∨ v'.ownBlock = some w.heap.size) → K (a.put o.dst v') w') :
    if Region.wanted o (yielded ops a.tmps) = true then Oper.wp P o a w K Q else E := by
  refine step_appK hgd s x t ho base e i z 1 bytes ht hi hz hsize hby hzs (by decide) v n V hs (by unfold MineK; rw [Nat.mul_one]; exact hown) A m c U hx (by rw [Nat.mul_one]; exact hr) (fun i hi => h1 i (by omega)) h63 hbytes hbase (fun v' w' h2 h3 h4 => h v' w' ?_ h3 h4)
  unfold MineK at h2
  simp only [Nat.mul_one] at h2
  exact h2
end Go.Proofs.YtiflmdekcjbmbaaGreat.Lb
