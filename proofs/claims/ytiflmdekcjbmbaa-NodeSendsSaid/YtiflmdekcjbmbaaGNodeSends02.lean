/-
  Contracts of package clock (chapter 4) and of the reference's clock, over the block that the clock is. Contracts of package keep (chapter 15) and of the reference's keeper, over the block that the keeper is. Contracts of package dup (chapter 12). A window of 64 numbers as a row of bits: what is new, and what it has behind that. What the laws of package dup share: one contract of New for what is in its bounds, and what every program must know. The reference's window: a map for each node that was heard; its methods by contract, told by the package's own rows of bits. Both windows at whatever node and number: what they answer, and what they know then. Channels as numbers: which rows may be, which of them are open. Contracts of package hop (chapter 5).
-/
import Derived.Test.YtiflmdekcjbmbaaGNodeSends01
import Derived.Deep.RegionWith
import Derived.Lib.Hide
import Derived.Test.YtiflmdekcjbmbaaRows
import Derived.Maps.OwnSet
import Derived.Maps.Views
import Derived.Laws.MakeOwn
set_option maxRecDepth 100000
namespace Go.Proofs.Ytiflmdekcjbmbaa.Ck
set_option linter.unusedVariables false
set_option linter.unusedSimpArgs false
open Go.RowKit Lb

/-- Block b is a clock: put to p, d millionths drifted since, s slots gone by. -/
def Clk (w : World) (b : Nat) (p d s : Int) : Prop := Own w b 104 #[.int .i64 p, .int .i64 d, .int .i64 s]
def lim (n m : Int) : Int := min (max n (-m)) m
theorem lim_low (n m : Int) (h : 0 ≤ m) : -m ≤ lim n m := by unfold lim; omega
theorem lim_high (n m : Int) : lim n m ≤ m := by unfold lim; omega
/-- How far off. -/
def off (p d : Int) : Int := p + d / 1000000

theorem new_any (w : World) :
    Calls Try.prog 35 #[] w fun r w' => r = .returned (.pointer (some ⟨w.heap.size, 0, none⟩)) ∧ Clk w' w.heap.size 0 0 0 ∧ Below w.heap.size w w' ∧ w.heap.size < w'.heap.size := by
  go_enter Try.func35, Try.ntmps35
  go_wp2
  go_ret
  exact ⟨rfl, Own.new _ _ _, (Below.refl _ _).alloc (Nat.le_refl _) _, by simp⟩

theorem slots_any (b : Nat) (p d s : Int) (w : World) (h : Clk w b p d s) :
    Calls Try.prog 23 #[.pointer (some ⟨b, 0, none⟩)] w fun r w' => r = .returned (.int .i64 s) ∧ w = w' := by
  have c2 : w.cell? ⟨b, 2, none⟩ = some (.int .i64 s) := h.cell 2
  go_enter Try.func23, Try.ntmps23
  go_wp2_with fail
  go_ret
  exact ⟨rfl, rfl⟩

theorem slots_nil (w : World) :
    Calls Try.prog 23 #[.pointer none] w fun r w' => r = .returned (.int .i64 0) ∧ w = w' := by
  go_enter Try.func23, Try.ntmps23
  go_wp2_with fail
  go_ret
  exact ⟨rfl, rfl⟩
end Go.Proofs.Ytiflmdekcjbmbaa.Ck
namespace Go.Proofs.Ytiflmdekcjbmbaa.Kp
set_option linter.unusedVariables false
set_option linter.unusedSimpArgs false
open Go.RowKit Lb

/-- Block b is a keeper: every e slots, s slots since the last sign. -/
def Kee (w : World) (b : Nat) (e s : Int) : Prop := Own w b 132 #[.int .i64 e, .int .i64 s]
theorem min_succ (s : Int) (h : s < 1000000) : min (s + 1) 1000000 = s + 1 := by omega
theorem due_any (b : Nat) (e s : Int) (w : World) (h : Kee w b e s) :
    Calls Try.prog 45 #[.pointer (some ⟨b, 0, none⟩)] w fun r w' => r = .returned (.bool (decide (e ≤ s))) ∧ ∃ n, w.drewN n = w' := by
  have h0 : w.cell? ⟨b, 0, none⟩ = some (.int .i64 e) := h.cell 0
  have h1 : w.cell? ⟨b, 1, none⟩ = some (.int .i64 s) := h.cell 1
  go_enter Try.func45, Try.ntmps45
  go_wp2
  go_quiet (fail)
  go_wp2
  go_ret
  exact ⟨rfl, _, rfl⟩

theorem due_nil (w : World) :
    Calls Try.prog 45 #[.pointer none] w fun r w' => r = .returned (.bool false) ∧ ∃ n, w.drewN n = w' := by
  go_enter Try.func45, Try.ntmps45
  go_wp2
  go_quiet (fail)
  go_wp2
  go_ret
  exact ⟨rfl, _, rfl⟩



end Go.Proofs.Ytiflmdekcjbmbaa.Kp
set_option maxRecDepth 100000
namespace Go.Proofs.Ytiflmdekcjbmbaa.Dp
set_option linter.unusedVariables false
set_option linter.unusedSimpArgs false
open Go.RowKit Lb

/-- A window's cells: of node i the greatest number L i, and the row of bits S i. -/
def dv (L : Nat → Int) (S : Nat → Nat) (j : Nat) : Value := if j % 2 = 0 then .int .i64 (L (j / 2)) else .int .u64 (S (j / 2))
def Win (w : World) (b : Nat) (L : Nat → Int) (S : Nat → Nat) : Prop := Blk w b 127 32 (dv L S)
def upd {α : Type} (f : Nat → α) (i : Nat) (x : α) (j : Nat) : α := if j = i then x else f j
theorem dv_put (L : Nat → Int) (S : Nat → Nat) (i : Nat) (x : Int) (y : Nat) (j : Nat) : (if j = i * 2 + 1 then .int .u64 y else if j = i * 2 then .int .i64 x else dv L S j) = dv (upd L i x) (upd S i y) j := by
  unfold dv upd
  split
  · rename_i h; rw [if_neg (by omega), if_pos (by omega)]
  · split
    · rename_i h; rw [if_pos (by omega), if_pos (by omega)]
    · split
      · rw [if_neg (by omega)]
      · rw [if_neg (by omega)]

theorem dv_one (L : Nat → Int) (S : Nat → Nat) (i : Nat) (y : Nat) (j : Nat) : (if j = i * 2 + 1 then .int .u64 y else dv L S j) = dv L (upd S i y) j := by
  unfold dv upd
  split
  · rename_i h; rw [if_neg (by omega), if_pos (by omega)]
  · split
    · rfl
    · rw [if_neg (by omega)]

theorem new_any (w : World) :
    Calls Try.prog 37 #[] w fun r w' => r = .returned (.pointer (some ⟨w.heap.size, 0, none⟩)) ∧ Win w' w.heap.size (fun _ => 0) (fun _ => 0) ∧ Below w.heap.size w w' ∧ w.heap.size < w'.heap.size := by
  go_enter Try.func37, Try.ntmps37
  go_wp2
  go_ret
  refine ⟨rfl, Blk.of (Own.new _ _ _) (by simp) ?_, (Below.refl _ _).alloc (Nat.le_refl _) _, by simp⟩
  intro i hi
  unfold dv
  rcases (show i = 0 ∨ i = 1 ∨ i = 2 ∨ i = 3 ∨ i = 4 ∨ i = 5 ∨ i = 6 ∨ i = 7 ∨ i = 8 ∨ i = 9 ∨ i = 10 ∨ i = 11 ∨ i = 12 ∨ i = 13 ∨ i = 14 ∨ i = 15 ∨ i = 16 ∨ i = 17 ∨ i = 18 ∨ i = 19 ∨ i = 20 ∨ i = 21 ∨ i = 22 ∨ i = 23 ∨ i = 24 ∨ i = 25 ∨ i = 26 ∨ i = 27 ∨ i = 28 ∨ i = 29 ∨ i = 30 ∨ i = 31 by omega) with rfl | rfl | rfl | rfl | rfl | rfl | rfl | rfl | rfl | rfl | rfl | rfl | rfl | rfl | rfl | rfl | rfl | rfl | rfl | rfl | rfl | rfl | rfl | rfl | rfl | rfl | rfl | rfl | rfl | rfl | rfl | rfl <;> rfl

theorem Win.c0 {w : World} {b i : Nat} {L : Nat → Int} {S : Nat → Nat} (h : Win w b L S) (hi : i < 16) : w.cell? ⟨b, i * 2, none⟩ = some (.int .i64 (L i)) := by
  rw [Blk.cell h (by omega)]; unfold dv; rw [if_pos (by omega)]; congr 3; omega
theorem Win.c1 {w : World} {b i : Nat} {L : Nat → Int} {S : Nat → Nat} (h : Win w b L S) (hi : i < 16) : w.cell? ⟨b, i * 2 + 1, none⟩ = some (.int .u64 (S i)) := by
  rw [Blk.cell h (by omega)]; unfold dv; rw [if_neg (by omega), show (i * 2 + 1) / 2 = i by omega]

end Go.Proofs.Ytiflmdekcjbmbaa.Dp
namespace Go.Proofs.Ytiflmdekcjbmbaa.Dp
set_option linter.unusedVariables false
set_option linter.unusedSimpArgs false

/-- Is n new, where l was the greatest and s the row? -/
def isN (l : Int) (s : Nat) (n : Int) : Bool := decide (s = 0 ∨ l < n ∨ (l - n < 64 ∧ s.testBit (l - n).toNat = false))
def nL (l : Int) (s : Nat) (n : Int) : Int := if s = 0 ∨ l < n then n else l
def nS (l : Int) (s : Nat) (n : Int) : Nat :=
  if s = 0 then 1 else if l < n then s <<< (n - l).toNat % 2 ^ 64 ||| 1 else if l - n < 64 ∧ s.testBit (l - n).toNat = false then s ||| 1 <<< (l - n).toNat else s
/-- Is x among what the row holds? -/
def has (l : Int) (s : Nat) (x : Int) : Prop := s ≠ 0 ∧ x ≤ l ∧ l - x < 64 ∧ s.testBit (l - x).toNat = true
def DGood (l : Int) (s : Nat) : Prop := s < 18446744073709551616 ∧ (s ≠ 0 → 0 ≤ l ∧ l < 9223372036854775808)

theorem good_zero (l : Int) : DGood l 0 := ⟨by decide, fun h => absurd rfl h⟩
theorem or_ne_left {a b : Nat} (h : a ≠ 0) : a ||| b ≠ 0 := by
  intro e
  have : (a ||| b) = 0 := e
  rw [Nat.or_eq_zero_iff] at this
  exact h this.1
theorem or_ne_right {a b : Nat} (h : b ≠ 0) : a ||| b ≠ 0 := by
  intro e
  have : (a ||| b) = 0 := e
  rw [Nat.or_eq_zero_iff] at this
  exact h this.2
theorem nS_ne (l : Int) (s : Nat) (n : Int) : nS l s n ≠ 0 := by
  unfold nS
  split
  · decide
  · split
    · exact or_ne_right (by decide)
    · split
      · rename_i h _ _; exact or_ne_left h
      · rename_i h _ _; exact h
theorem good_step {l : Int} {s : Nat} {n : Int} (h : DGood l s) (h0 : 0 ≤ n) (h1 : n < 9223372036854775808) : DGood (nL l s n) (nS l s n) := by
  obtain ⟨ha, hb⟩ := h
  refine ⟨?_, fun _ => ?_⟩
  · unfold nS
    split
    · decide
    · split
      · exact Nat.or_lt_two_pow (n := 64) (Nat.mod_lt _ (by decide)) (by decide)
      · split
        · rename_i _ _ hc
          refine Nat.or_lt_two_pow (n := 64) ha ?_
          rw [Nat.one_shiftLeft]
          exact Nat.pow_lt_pow_right (by decide) (by omega)
        · exact ha
  · unfold nL
    split
    · exact ⟨h0, h1⟩
    · rename_i hc
      exact hb (fun e => hc (.inl e))
theorem isN_iff {l : Int} {s : Nat} {n : Int} : isN l s n = true ↔ (s = 0 ∨ l < n ∨ (l - n < 64 ∧ ¬ has l s n)) := by
  unfold isN has
  simp only [decide_eq_true_eq]
  constructor
  · rintro (h | h | ⟨h1, h2⟩)
    · exact .inl h
    · exact .inr (.inl h)
    · refine .inr (.inr ⟨h1, fun h => ?_⟩)
      rw [h.2.2.2] at h2
      cases h2
  · rintro (h | h | ⟨h1, h2⟩)
    · exact .inl h
    · exact .inr (.inl h)
    · by_cases hs : s = 0
      · exact .inl hs
      · by_cases hl : l < n
        · exact .inr (.inl hl)
        · refine .inr (.inr ⟨h1, ?_⟩)
          cases hb : s.testBit (l - n).toNat
          · rfl
          · exact absurd ⟨hs, by omega, h1, hb⟩ h2
theorem isN_false {l : Int} {s : Nat} {n : Int} (h : isN l s n = false) : nL l s n = l ∧ nS l s n = s := by
  unfold isN at h
  simp only [decide_eq_false_iff_not] at h
  unfold nL nS
  refine ⟨if_neg (fun hc => h (by omega)), ?_⟩
  rw [if_neg (fun hc => h (.inl hc)), if_neg (fun hc => h (.inr (.inl hc))), if_neg (fun hc => h (.inr (.inr hc)))]
theorem has_new {l : Int} {s : Nat} {n x : Int} (h : isN l s n = true) : has (nL l s n) (nS l s n) x ↔ (x = n ∨ (has l s x ∧ nL l s n - x < 64)) := by
  unfold isN at h
  simp only [decide_eq_true_eq] at h
  by_cases hs : s = 0
  · subst hs
    have e1 : nL l 0 n = n := by unfold nL; simp
    have e2 : nS l 0 n = 1 := by unfold nS; simp
    rw [e1, e2]
    unfold has
    constructor
    · rintro ⟨_, h1, h2, h3⟩
      left
      have h3' : (n - x).toNat = 0 := by
        by_cases h4 : (n - x).toNat = 0
        · exact h4
        · rw [show (1 : Nat) = 2 ^ 0 from rfl, Nat.testBit_two_pow] at h3
          simp at h3
          omega
      omega
    · rintro (rfl | ⟨⟨h1, _⟩, _⟩)
      · exact ⟨by decide, by omega, by omega, by simp⟩
      · exact absurd rfl h1
  · by_cases hl : l < n
    · have e1 : nL l s n = n := by unfold nL; simp [hl]
      have e2 : nS l s n = s <<< (n - l).toNat % 2 ^ 64 ||| 1 := by unfold nS; rw [if_neg hs, if_pos hl]
      rw [e1]
      unfold has
      constructor
      · rintro ⟨_, h1, h2, h3⟩
        by_cases hx : x = n
        · exact .inl hx
        · right
          rw [e2, Nat.testBit_or, Nat.testBit_mod_two_pow, Nat.testBit_shiftLeft] at h3
          have h4 : Nat.testBit 1 (n - x).toNat = false := by
            rw [show (1 : Nat) = 2 ^ 0 from rfl, Nat.testBit_two_pow]
            simp
            omega
          rw [h4] at h3
          simp at h3
          obtain ⟨h5, h6, h7⟩ := h3
          refine ⟨⟨hs, by omega, by omega, ?_⟩, by omega⟩
          rw [show (l - x).toNat = (n - x).toNat - (n - l).toNat by omega]
          exact h7
      · rintro (rfl | ⟨⟨_, h1, h2, h3⟩, h4⟩)
        · refine ⟨nS_ne _ _ _, by omega, by omega, ?_⟩
          rw [e2, Nat.testBit_or]
          simp
        · refine ⟨nS_ne _ _ _, by omega, by omega, ?_⟩
          rw [e2, Nat.testBit_or, Nat.testBit_mod_two_pow, Nat.testBit_shiftLeft, show (n - x).toNat - (n - l).toNat = (l - x).toNat by omega, h3]
          simp
          left
          omega
    · have h' : l - n < 64 ∧ s.testBit (l - n).toNat = false := by
        rcases h with h | h | h
        · exact absurd h hs
        · exact absurd h hl
        · exact h
      have e1 : nL l s n = l := by unfold nL; rw [if_neg (by omega)]
      have e2 : nS l s n = s ||| 1 <<< (l - n).toNat := by unfold nS; rw [if_neg hs, if_neg hl, if_pos h']
      rw [e1]
      unfold has
      constructor
      · rintro ⟨_, h1, h2, h3⟩
        by_cases hx : x = n
        · exact .inl hx
        · right
          rw [e2, Nat.testBit_or, Nat.one_shiftLeft, Nat.testBit_two_pow] at h3
          have h4 : decide ((l - n).toNat = (l - x).toNat) = false := by simp; omega
          rw [h4] at h3
          simp at h3
          exact ⟨⟨hs, h1, h2, h3⟩, h2⟩
      · rintro (rfl | ⟨⟨_, h1, h2, h3⟩, h4⟩)
        · refine ⟨nS_ne _ _ _, by omega, by omega, ?_⟩
          rw [e2, Nat.testBit_or, Nat.one_shiftLeft, Nat.testBit_two_pow]
          simp
        · refine ⟨nS_ne _ _ _, h1, h2, ?_⟩
          rw [e2, Nat.testBit_or, h3]
          rfl
theorem has_le {l : Int} {s : Nat} {x : Int} (h : has l s x) : x ≤ l ∧ l - x < 64 := ⟨h.2.1, h.2.2.1⟩
theorem kn_iff {l : Int} {s : Nat} {x : Int} : isN l s x = false ↔ (s ≠ 0 ∧ x ≤ l ∧ (l - x < 64 → has l s x)) := by
  constructor
  · intro h
    have h' : ¬ isN l s x = true := by rw [h]; decide
    rw [isN_iff] at h'
    refine ⟨fun e => h' (.inl e), ?_, fun h1 => ?_⟩
    · by_cases hl : l < x
      · exact absurd (.inr (.inl hl)) h'
      · omega
    · by_cases h2 : has l s x
      · exact h2
      · exact absurd (.inr (.inr ⟨h1, h2⟩)) h'
  · rintro ⟨h1, h2, h3⟩
    cases h : isN l s x
    · rfl
    · rcases isN_iff.1 h with h4 | h4 | ⟨h4, h5⟩
      · exact absurd h4 h1
      · omega
      · exact absurd (h3 h4) h5
theorem nL_ge {l : Int} {s : Nat} {n : Int} (h : s ≠ 0) : l ≤ nL l s n := by
  unfold nL
  split
  · omega
  · omega
theorem nL_ge2 {l : Int} {s : Nat} {n : Int} : n ≤ nL l s n := by
  unfold nL
  split <;> omega
/-- What was known stays known. -/
theorem kn_step {l : Int} {s : Nat} {x : Int} (n : Int) (h : isN l s x = false) : isN (nL l s n) (nS l s n) x = false := by
  cases hn : isN l s n
  · obtain ⟨e1, e2⟩ := isN_false hn
    rw [e1, e2]
    exact h
  · obtain ⟨h1, h2, h3⟩ := kn_iff.1 h
    have := nL_ge (l := l) (n := n) h1
    refine kn_iff.2 ⟨nS_ne _ _ _, by omega, fun h4 => ?_⟩
    exact (has_new hn).2 (.inr ⟨h3 (by omega), h4⟩)
/-- What was asked for is known. -/
theorem kn_new (l : Int) (s : Nat) (n : Int) : isN (nL l s n) (nS l s n) n = false := by
  cases hn : isN l s n
  · obtain ⟨e1, e2⟩ := isN_false hn
    rw [e1, e2]
    exact hn
  · exact kn_iff.2 ⟨nS_ne _ _ _, nL_ge2, fun _ => (has_new hn).2 (.inl rfl)⟩
end Go.Proofs.Ytiflmdekcjbmbaa.Dp
set_option maxRecDepth 100000
namespace Go.Proofs.Ytiflmdekcjbmbaa.Dp
set_option linter.unusedVariables false
set_option linter.unusedSimpArgs false
open Go.RowKit Lb

theorem upd_self {α : Type} (f : Nat → α) (i : Nat) : upd f i (f i) = f := by
  funext j
  unfold upd
  split
  · rename_i h; rw [h]
  · rfl
theorem upd_same {α : Type} (f : Nat → α) (i : Nat) (x : α) : upd f i x i = x := by simp [upd]
theorem upd_other {α : Type} (f : Nat → α) {i j : Nat} (x : α) (h : j ≠ i) : upd f i x j = f j := by simp [upd, h]

theorem good_upd {L : Nat → Int} {S : Nat → Nat} (hg : ∀ i, DGood (L i) (S i)) (i : Nat) (n : Int) (hn : 0 ≤ n) (hm : n < 9223372036854775808) (j : Nat) :
    DGood (upd L i (nL (L i) (S i) n) j) (upd S i (nS (L i) (S i) n) j) := by
  by_cases h : j = i
  · subst h
    rw [upd_same, upd_same]
    exact good_step (hg j) hn hm
  · rw [upd_other L _ h, upd_other S _ h]
    exact hg j

end Go.Proofs.Ytiflmdekcjbmbaa.Dp
set_option maxRecDepth 100000
namespace Go.Proofs.Ytiflmdekcjbmbaa.Dp
set_option linter.unusedVariables false
set_option linter.unusedSimpArgs false
open Go.RowKit Lb Go.Maps

theorem law : Keyed Try.prog 3 := int_keyed Try.underlying3
theorem zeroI (w : World) : (zeroValue 3).run Try.prog w = .ok (.int .i64 0) w := by kernel_rfl
open Instr in
open Instr in
abbrev Dt := DataW Unit
def n0 : Dt := .lit (.int .i64 0)
def n1 : Dt := .lit (.int .i64 1)
def key (x : Int) : Lit := .int .i64 x
theorem wf_of {x : Int} (h0 : 0 ≤ x) (h1 : x < 9223372036854775808) : (Lit.int .i64 x).wf = true := by
  simp [Lit.wf, IntKind.min, IntKind.max, IntKind.signed, IntKind.bits]
  omega
theorem n0_ne : n0 ≠ n1 := by
  unfold n0 n1
  intro e
  injection e with e
  injection e with _ e
  cases e
theorem isKey (x : Int) : WideAt.IsKeyLit (key x) := by
  unfold key
  simp [WideAt.IsKeyLit]
/-- 'm[k] = v' inside a map's literal. -/
theorem wpList_insert_own {H : Type} {P : Program} (w : World) {ops : Array Oper} {rest : List Oper} {o : Oper} {a : Act} {Q : Exit → Act → World → Prop}
    (hg : o.guard = none) (m x v : Operand) (t : TypeId) (hop : o.op = Op.insert t m x v)
    (k e : TypeId) (K : Keyed P k) (ht : P.underlying t = some (.map k e)) (R : Value → Option (DataW H × List MemPlace)) (b n : Nat) (D : DataW H)
    (hm : a.eval m = .map (some b)) (hown : w.ownsMap P k R b n D) (hn : n < maxLen) (key val : Value) (kl : Lit) (hx : a.eval x = key) (hv : a.eval v = val) (hkey : keyOf P k key = some kl)
    (d : DataW H) (ps : List MemPlace) (hval : R val = some (d, ps))
    (hK : ∀ w', w'.ownsMap P k R b (n + 1) (D.put kl d) → w.grownBy w' (some b) → wpList P ops Q rest (a.put o.dst undef) w') :
    wpList P ops Q (o :: rest) a w := by
  refine wpList_plain hg fun K' hK' => ?_
  obtain ⟨w', hrun, r1, r2⟩ := hown.update K ht hn hkey hval
  unfold Oper.wp
  simp [execOp, hop, hm, hx, hv, hrun, Result.andThen]
  exact hK' _ _ (hK w' r1 r2)

/-- The reference's cells: of node i the greatest number L i, and its map M i. -/
def rv (L : Nat → Int) (M : Nat → Option Nat) (j : Nat) : Value := if j % 2 = 0 then .int .i64 (L (j / 2)) else .map (M (j / 2))
abbrev OwnM (w : World) (m k : Nat) (D : Dt) : Prop := w.ownsMap Try.prog 3 (plainElem Try.prog 3) m k D
/-- From w to w' block b and the maps alone have turned, and what is new. -/
structure Near (b : Nat) (M : Nat → Option Nat) (w w' : World) : Prop where
  os : w'.os = w.os
  tape : w'.tape = w.tape
  output : w'.output = w.output
  size : w.heap.size ≤ w'.heap.size
  block : ∀ k, k < w.heap.size → k ≠ b → (∀ i, M i ≠ some k) → w'.heap[k]? = w.heap[k]?
theorem Near.refl (b : Nat) (M : Nat → Option Nat) (w : World) : Near b M w w := ⟨rfl, rfl, rfl, Nat.le_refl _, fun _ _ _ _ => rfl⟩
theorem ownM_same {w w' : World} {m k : Nat} {D : Dt} (h : OwnM w m k D) (he : w'.heap[m]? = w.heap[m]?) : OwnM w' m k D := by
  obtain ⟨es, clock, hb, r⟩ := h
  exact ⟨es, clock, he.trans hb, r⟩
theorem rv_put (L : Nat → Int) (M : Nat → Option Nat) (i : Nat) (x : Int) (m : Option Nat) (j : Nat) : (if j = i * 2 then .int .i64 x else if j = i * 2 + 1 then .map m else rv L M j) = rv (upd L i x) (upd M i m) j := by
  unfold rv upd
  split
  · rename_i h; rw [if_pos (by omega), if_pos (by omega)]
  · split
    · rename_i h; rw [if_neg (by omega), if_pos (by omega)]
    · by_cases h2 : j / 2 = i
      · omega
      · rw [if_neg h2, if_neg h2]
theorem rv_put2 (L : Nat → Int) (M : Nat → Option Nat) (i : Nat) (x : Int) (m : Option Nat) (j : Nat) : (if j = i * 2 + 1 then .map m else if j = i * 2 then .int .i64 x else rv L M j) = rv (upd L i x) (upd M i m) j := by
  rw [← rv_put]
  by_cases h1 : j = i * 2
  · rw [if_neg (by omega), if_pos h1, if_pos h1]
  · rw [if_neg h1, if_neg h1]
theorem rv_one (L : Nat → Int) (M : Nat → Option Nat) (i : Nat) (x : Int) (j : Nat) : (if j = i * 2 then .int .i64 x else rv L M j) = rv (upd L i x) M j := by
  unfold rv upd
  split
  · rename_i h; rw [if_pos (by omega), if_pos (by omega)]
  · by_cases h0 : j % 2 = 0
    · rw [if_pos h0, if_pos h0, if_neg (by omega)]
    · rw [if_neg h0, if_neg h0]
def nodeB (x : Int) : Bool := decide (0 ≤ x ∧ x < 16)
theorem node_any (x : Int) (w : World) :
    Calls Try.prog 54 #[.int .i64 x] w fun r w' => r = .returned (.bool (nodeB x)) ∧ w = w' := by
  by_cases h0 : 0 ≤ x
  · by_cases h1 : x < 16
    · have HD : Hid (nodeB x = true) := Lib.hid (by simp [nodeB, h0, h1])
      go_enter Try.func54, Try.ntmps54
      go_wp2_with fail
      go_ret
      exact ⟨by rw [HD.out]; rfl, rfl⟩
    · have HD : Hid (nodeB x = false) := Lib.hid (by simp [nodeB]; omega)
      have h2 : decide (x < 16) = false := by simp; omega
      clear h1
      go_enter Try.func54, Try.ntmps54
      go_wp2_with fail
      go_ret
      exact ⟨by rw [HD.out]; rfl, rfl⟩
  · have HD : Hid (nodeB x = false) := Lib.hid (by simp [nodeB]; omega)
    have h2 : x < 0 := by omega
    clear h0
    go_enter Try.func54, Try.ntmps54
    go_wp2_with fail
    go_ret
    exact ⟨by rw [HD.out]; rfl, rfl⟩
theorem node_yes (i : Nat) (w : World) (hi : i < 16) :
    Calls Try.prog 54 #[.int .i64 i] w fun r w' => r = .returned (.bool true) ∧ w = w' := by
  have := node_any i w
  rwa [show nodeB i = true by simp [nodeB]; omega] at this
theorem node_no (x : Int) (w : World) (hn : ¬ (0 ≤ x ∧ x < 16)) :
    Calls Try.prog 54 #[.int .i64 x] w fun r w' => r = .returned (.bool false) ∧ w = w' := by
  have := node_any x w
  rwa [show nodeB x = false by simp [nodeB]; omega] at this
end Go.Proofs.Ytiflmdekcjbmbaa.Dp
set_option maxRecDepth 100000
namespace Go.Proofs.Ytiflmdekcjbmbaa.Dp
set_option linter.unusedVariables false
set_option linter.unusedSimpArgs false
open Go.RowKit Lb Go.Maps

def inB (x n : Int) : Bool := decide (0 ≤ x ∧ x < 16 ∧ 0 ≤ n)
def ansN (L : Nat → Int) (S : Nat → Nat) (x n : Int) : Bool := inB x n && isN (L x.toNat) (S x.toNat) n
def stepL (L : Nat → Int) (S : Nat → Nat) (x n : Int) : Nat → Int := if inB x n = true then upd L x.toNat (nL (L x.toNat) (S x.toNat) n) else L
def stepS (L : Nat → Int) (S : Nat → Nat) (x n : Int) : Nat → Nat := if inB x n = true then upd S x.toNat (nS (L x.toNat) (S x.toNat) n) else S
def forgL (L : Nat → Int) (x : Int) : Nat → Int := if nodeB x = true then upd L x.toNat 0 else L
def forgS (S : Nat → Nat) (x : Int) : Nat → Nat := if nodeB x = true then upd S x.toNat 0 else S
def lastA (L : Nat → Int) (S : Nat → Nat) (x : Int) : Int := if nodeB x = true then (if S x.toNat = 0 then 0 else L x.toNat) else 0
def lastB (S : Nat → Nat) (x : Int) : Bool := nodeB x && !decide (S x.toNat = 0)
def AllG (L : Nat → Int) (S : Nat → Nat) : Prop := ∀ i, DGood (L i) (S i)
theorem allG_step {L : Nat → Int} {S : Nat → Nat} (h : AllG L S) {x n : Int} (hn : n < 9223372036854775808) : AllG (stepL L S x n) (stepS L S x n) := by
  unfold stepL stepS
  by_cases hb : inB x n = true
  · rw [if_pos hb, if_pos hb]
    unfold inB at hb
    rw [decide_eq_true_eq] at hb
    exact fun i => good_upd h x.toNat n hb.2.2 hn i
  · rw [if_neg hb, if_neg hb]
    exact h
theorem allG_forg {L : Nat → Int} {S : Nat → Nat} (h : AllG L S) (x : Int) : AllG (forgL L x) (forgS S x) := by
  unfold forgL forgS
  by_cases hb : nodeB x = true
  · rw [if_pos hb, if_pos hb]
    intro i
    by_cases hi : i = x.toNat
    · subst hi
      rw [upd_same, upd_same]
      exact good_zero 0
    · rw [upd_other _ _ hi, upd_other _ _ hi]
      exact h i
  · rw [if_neg hb, if_neg hb]
    exact h
end Go.Proofs.Ytiflmdekcjbmbaa.Dp
namespace Go.Proofs.Ytiflmdekcjbmbaa.Hp
set_option linter.unusedVariables false
set_option linter.unusedSimpArgs false

/-- Is x none of the first k? -/
def fresh (Z : Nat → Int) (x : Int) : Nat → Bool
  | 0 => true
  | k + 1 => fresh Z x k && decide (Z k ≠ x)
/-- May the first k be? -/
def okTo (Z : Nat → Int) : Nat → Bool
  | 0 => true
  | k + 1 => okTo Z k && (decide (0 ≤ Z k) && decide (Z k < 32) && fresh Z (Z k) k)
def mayB (Z : Nat → Int) (n : Nat) : Bool := decide (1 ≤ n) && decide (n ≤ 16) && okTo Z n

theorem fresh_iff {Z : Nat → Int} {x : Int} : ∀ {k : Nat}, fresh Z x k = true ↔ ∀ j, j < k → Z j ≠ x
  | 0 => by simp [fresh]
  | k + 1 => by
    simp only [fresh, Bool.and_eq_true, decide_eq_true_eq, fresh_iff (k := k)]
    constructor
    · rintro ⟨h1, h2⟩ j hj
      by_cases h : j = k
      · subst h; exact h2
      · exact h1 j (by omega)
    · intro h
      exact ⟨fun j hj => h j (by omega), h k (by omega)⟩
theorem okTo_iff {Z : Nat → Int} : ∀ {k : Nat}, okTo Z k = true ↔ ∀ i, i < k → 0 ≤ Z i ∧ Z i < 32 ∧ ∀ j, j < i → Z j ≠ Z i
  | 0 => by simp [okTo]
  | k + 1 => by
    simp only [okTo, Bool.and_eq_true, decide_eq_true_eq, okTo_iff (k := k), fresh_iff]
    constructor
    · rintro ⟨h1, ⟨h2, h3⟩, h4⟩ i hi
      by_cases h : i = k
      · subst h; exact ⟨h2, h3, h4⟩
      · exact h1 i (by omega)
    · intro h
      obtain ⟨h1, h2, h3⟩ := h k (by omega)
      exact ⟨fun i hi => h i (by omega), ⟨h1, h2⟩, h3⟩
theorem okTo_mono {Z : Nat → Int} {k n : Nat} (h : okTo Z n = true) (hk : k ≤ n) : okTo Z k = true := by
  rw [okTo_iff] at h ⊢
  exact fun i hi => h i (by omega)
theorem mayB_iff {Z : Nat → Int} {n : Nat} : mayB Z n = true ↔ 1 ≤ n ∧ n ≤ 16 ∧ okTo Z n = true := by
  unfold mayB
  simp only [Bool.and_eq_true, decide_eq_true_eq]
  exact ⟨fun ⟨⟨a, b⟩, c⟩ => ⟨a, b, c⟩, fun ⟨a, b, c⟩ => ⟨⟨a, b⟩, c⟩⟩
/-- A row of bits has just the first k's. -/
def Seen (s : Nat) (Z : Nat → Int) (k : Nat) : Prop := s < 4294967296 ∧ ∀ d, d < 32 → (s.testBit d = true ↔ ∃ j, j < k ∧ Z j = (d : Int))
theorem seen_zero (Z : Nat → Int) : Seen 0 Z 0 := ⟨by decide, fun d _ => by simp⟩
theorem seen_fresh {s : Nat} {Z : Nat → Int} {k : Nat} (h : Seen s Z k) {x : Int} (h0 : 0 ≤ x) (h1 : x < 32) : fresh Z x k = !s.testBit x.toNat := by
  have := h.2 x.toNat (by omega)
  rw [Bool.eq_iff_iff, fresh_iff]
  simp only [Bool.not_eq_true', ← Bool.not_eq_true, this]
  constructor
  · rintro h2 ⟨j, hj, e⟩
    exact h2 j hj (by omega)
  · intro h2 j hj e
    exact h2 ⟨j, hj, by omega⟩
theorem seen_next {s : Nat} {Z : Nat → Int} {k : Nat} (h : Seen s Z k) (h0 : 0 ≤ Z k) (h1 : Z k < 32) : Seen (s ||| 1 <<< (Z k).toNat) Z (k + 1) := by
  refine ⟨Nat.or_lt_two_pow (n := 32) h.1 (by rw [Nat.one_shiftLeft]; exact Nat.pow_lt_pow_right (by decide) (by omega)), fun d hd => ?_⟩
  rw [Nat.testBit_or, Nat.one_shiftLeft, Nat.testBit_two_pow, Bool.or_eq_true, h.2 d hd, decide_eq_true_eq]
  constructor
  · rintro (⟨j, hj, e⟩ | e)
    · exact ⟨j, by omega, e⟩
    · exact ⟨k, by omega, by omega⟩
  · rintro ⟨j, hj, e⟩
    by_cases h2 : j = k
    · subst h2; right; omega
    · exact .inl ⟨j, by omega, e⟩

/-- Is channel c black? -/
def blk (b : Nat) (c : Int) : Bool := b.testBit c.toNat
/-- Those of the first k that are not black. -/
def flt (Z : Nat → Int) (b : Nat) : Nat → List Int
  | 0 => []
  | k + 1 => flt Z b k ++ if blk b (Z k) = true then [] else [Z k]
def opn (Z : Nat → Int) (b n : Nat) : List Int := if flt Z b n = [] then (List.range n).map Z else flt Z b n
theorem flt_len (Z : Nat → Int) (b : Nat) : ∀ k, (flt Z b k).length ≤ k
  | 0 => by simp [flt]
  | k + 1 => by
    have := flt_len Z b k
    simp only [flt, List.length_append]
    split <;> simp <;> omega
theorem flt_black {Z : Nat → Int} {b k : Nat} (h : blk b (Z k) = true) : flt Z b (k + 1) = flt Z b k := by simp [flt, h]
theorem flt_open {Z : Nat → Int} {b k : Nat} (h : blk b (Z k) = false) : flt Z b (k + 1) = flt Z b k ++ [Z k] := by simp [flt, h]
theorem mem_flt {Z : Nat → Int} {b : Nat} {x : Int} : ∀ {k : Nat}, x ∈ flt Z b k ↔ ∃ j, j < k ∧ Z j = x ∧ blk b x = false
  | 0 => by simp [flt]
  | k + 1 => by
    simp only [flt, List.mem_append, mem_flt (k := k)]
    constructor
    · rintro (⟨j, h1, h2, h3⟩ | h)
      · exact ⟨j, by omega, h2, h3⟩
      · split at h
        · simp at h
        · rename_i hb
          simp at h
          subst h
          exact ⟨k, by omega, rfl, by simpa using hb⟩
    · rintro ⟨j, h1, h2, h3⟩
      by_cases h : j = k
      · subst h
        right
        rw [h2, h3]
        simp
      · exact .inl ⟨j, by omega, h2, h3⟩
theorem opn_len {Z : Nat → Int} {b n : Nat} (h : 1 ≤ n) : 1 ≤ (opn Z b n).length ∧ (opn Z b n).length ≤ n := by
  unfold opn
  split
  · simp; omega
  · rename_i h2
    have := flt_len Z b n
    have : 0 < (flt Z b n).length := List.length_pos_iff.2 h2
    omega
theorem mem_opn {Z : Nat → Int} {b n : Nat} {x : Int} (h : x ∈ opn Z b n) : ∃ j, j < n ∧ Z j = x := by
  unfold opn at h
  split at h
  · simp at h
    obtain ⟨j, h1, h2⟩ := h
    exact ⟨j, h1, h2⟩
  · obtain ⟨j, h1, h2, _⟩ := mem_flt.1 h
    exact ⟨j, h1, h2⟩
/-- The channel, of a row that may be. -/
def chan (Z : Nat → Int) (b n : Nat) (asn off : Int) : Int := (opn Z b n).getD ((asn + off) % ((opn Z b n).length : Int)).toNat 0
/-- The channel, if there is one. -/
def chanB (Z : Nat → Int) (b n : Nat) (asn off : Int) : Int := if mayB Z n = true ∧ 0 ≤ asn ∧ asn < 1099511627776 ∧ 0 ≤ off ∧ off < 256 then chan Z b n asn off else -1

/-! ### Where each open one stands -/
theorem flt_split (Z : Nat → Int) (b k : Nat) : ∀ m, flt Z b (k + m) = flt Z b k ++ flt (fun i => Z (k + i)) b m
  | 0 => by simp [flt]
  | m + 1 => by
    rw [← Nat.add_assoc]
    simp only [flt, flt_split Z b k m, List.append_assoc]
def el (Z : Nat → Int) (b n k : Nat) : Bool := decide (flt Z b n = []) || !blk b (Z k)
def pre (Z : Nat → Int) (b n k : Nat) : Nat := if flt Z b n = [] then k else (flt Z b k).length
theorem pre_zero (Z : Nat → Int) (b n : Nat) : pre Z b n 0 = 0 := by unfold pre; split <;> simp [flt]
theorem pre_all (Z : Nat → Int) (b n : Nat) : pre Z b n n = (opn Z b n).length := by
  unfold pre opn
  split
  · simp
  · rfl
theorem pre_le (Z : Nat → Int) (b n k : Nat) : pre Z b n k ≤ k := by
  unfold pre
  split
  · exact Nat.le_refl _
  · exact flt_len Z b k
theorem pre_in {Z : Nat → Int} {b n k : Nat} (h : el Z b n k = true) : pre Z b n (k + 1) = pre Z b n k + 1 := by
  unfold pre
  split
  · rfl
  · rename_i h2
    unfold el at h
    simp [h2] at h
    rw [flt_open h]
    simp
theorem pre_out {Z : Nat → Int} {b n k : Nat} (h : el Z b n k = false) : pre Z b n (k + 1) = pre Z b n k := by
  unfold el at h
  simp at h
  unfold pre
  rw [if_neg h.1, if_neg h.1, flt_black h.2]
theorem opn_in {Z : Nat → Int} {b n k : Nat} (hk : k < n) (h : el Z b n k = true) : (opn Z b n)[pre Z b n k]? = some (Z k) := by
  unfold opn pre
  split
  · simp [hk]
  · rename_i h2
    unfold el at h
    simp [h2] at h
    obtain ⟨m, rfl⟩ : ∃ m, n = k + (1 + m) := ⟨n - k - 1, by omega⟩
    rw [flt_split, List.getElem?_append_right (Nat.le_refl _), Nat.sub_self, flt_split]
    simp [flt, h]
theorem opn_out {Z : Nat → Int} {b n k : Nat} (h : el Z b n k = false) : (opn Z b n)[pre Z b n k]? ≠ some (Z k) := by
  unfold el at h
  simp at h
  unfold opn
  rw [if_neg h.1]
  intro e
  obtain ⟨j, _, _, hb⟩ := mem_flt.1 (List.mem_of_getElem? e)
  rw [h.2] at hb
  cases hb
theorem opn_none {Z : Nat → Int} {n : Nat} : opn Z 0 n = (List.range n).map Z := by
  unfold opn
  split
  · rfl
  · have : ∀ k, flt Z 0 k = (List.range k).map Z := by
      intro k
      induction k with
      | zero => rfl
      | succ k ih => simp [flt, ih, blk, List.range_succ]
    exact this n
theorem opn_black {Z : Nat → Int} {n : Nat} (h : okTo Z n = true) : opn Z 4294967295 n = (List.range n).map Z := by
  have : ∀ k, k ≤ n → flt Z 4294967295 k = [] := by
    intro k
    induction k with
    | zero => intro _; rfl
    | succ k ih =>
      intro hk
      obtain ⟨h0, h1, _⟩ := okTo_iff.1 h k hk
      have hb : blk 4294967295 (Z k) = true := by
        unfold blk
        rw [show 4294967295 = 2 ^ 32 - 1 from rfl, Nat.testBit_two_pow_sub_one]
        simp
        omega
      rw [flt_black hb]
      exact ih (by omega)
  unfold opn
  rw [if_pos (this n (Nat.le_refl _))]

/-! ### Each stands once -/
theorem flt_nodup {Z : Nat → Int} {b : Nat} : ∀ {k : Nat}, okTo Z k = true → (flt Z b k).Nodup
  | 0, _ => by simp [flt]
  | k + 1, h => by
    have ih := flt_nodup (b := b) (okTo_mono h (Nat.le_succ k))
    simp only [flt]
    split
    · simpa using ih
    · rw [List.nodup_append]
      refine ⟨ih, by simp, ?_⟩
      intro x hx y hy
      simp at hy
      subst hy
      obtain ⟨j, hj, e, _⟩ := mem_flt.1 hx
      have := (okTo_iff.1 h k (by omega)).2.2 j hj
      omega
theorem map_nodup {Z : Nat → Int} : ∀ {k : Nat}, okTo Z k = true → ((List.range k).map Z).Nodup
  | 0, _ => by simp
  | k + 1, h => by
    have ih := map_nodup (okTo_mono h (Nat.le_succ k))
    rw [List.range_succ, List.map_append, List.nodup_append]
    refine ⟨ih, by simp, ?_⟩
    intro x hx y hy
    simp at hx hy
    subst hy
    obtain ⟨j, hj, e⟩ := hx
    have := (okTo_iff.1 h k (by omega)).2.2 j hj
    omega
theorem opn_nodup {Z : Nat → Int} {b n : Nat} (h : okTo Z n = true) : (opn Z b n).Nodup := by
  unfold opn
  split
  · exact map_nodup h
  · exact flt_nodup h
theorem opn_bd {Z : Nat → Int} {b n q : Nat} (h : okTo Z n = true) (hq : q < (opn Z b n).length) : 0 ≤ (opn Z b n).getD q 0 ∧ (opn Z b n).getD q 0 < 32 := by
  have e : (opn Z b n).getD q 0 = (opn Z b n)[q] := by rw [List.getD_eq_getElem?_getD, List.getElem?_eq_getElem hq]; rfl
  obtain ⟨j, hj, e2⟩ := mem_opn (List.getElem_mem hq)
  rw [e, ← e2]
  obtain ⟨h0, h1, _⟩ := okTo_iff.1 h j hj
  exact ⟨h0, h1⟩
theorem opn_inj {Z : Nat → Int} {b n p q : Nat} (h : okTo Z n = true) (hp : p < (opn Z b n).length) (hq : q < (opn Z b n).length) (e : (opn Z b n).getD p 0 = (opn Z b n).getD q 0) : p = q := by
  have e1 : ∀ r (hr : r < (opn Z b n).length), (opn Z b n).getD r 0 = (opn Z b n)[r] := fun r hr => by rw [List.getD_eq_getElem?_getD, List.getElem?_eq_getElem hr]; rfl
  rw [e1 p hp, e1 q hq] at e
  have hd := List.pairwise_iff_getElem.1 (opn_nodup (b := b) h)
  rcases Nat.lt_trichotomy p q with h1 | h1 | h1
  · exact absurd e (hd p q hp hq h1)
  · exact h1
  · exact absurd e.symm (hd q p hq hp h1)
theorem opn_white {Z : Nat → Int} {b n q : Nat} (hl : (opn Z b n).length < n) (hq : q < (opn Z b n).length) : blk b ((opn Z b n).getD q 0) = false := by
  have e : (opn Z b n).getD q 0 = (opn Z b n)[q] := by rw [List.getD_eq_getElem?_getD, List.getElem?_eq_getElem hq]; rfl
  rw [e]
  have hm := List.getElem_mem hq
  revert hm
  generalize (opn Z b n)[q] = x
  intro hm
  unfold opn at hm hl
  split at hm
  · rename_i h
    rw [if_pos h] at hl
    simp at hl
  · obtain ⟨_, _, _, hb⟩ := mem_flt.1 hm
    exact hb
end Go.Proofs.Ytiflmdekcjbmbaa.Hp
set_option maxRecDepth 100000
namespace Go.Proofs.Ytiflmdekcjbmbaa.Hp
set_option linter.unusedVariables false
set_option linter.unusedSimpArgs false
open Go.RowKit Lb

theorem infoI : (Try.prog.info? 3).map (fun i => (i.zero, i.size, i.bytes)) = some (some (.int .i64 0), 1, 8) := by kernel_rfl

theorem shr32 {s : Nat} (hs : s < 4294967296) (x : Int) : bits .and .u32 ((s : Int) / 2 ^ x.toNat) 1 = if s.testBit x.toNat then 1 else 0 := by
  have q1 : s >>> x.toNat < 4294967296 := Nat.lt_of_le_of_lt (by rw [Nat.shiftRight_eq_div_pow]; exact Nat.div_le_self _ _) hs
  have := u32_and_nat _ 1 q1 (by decide)
  rw [shr_and_one, Nat.shiftRight_eq_div_pow] at this
  split <;> simp_all
theorem shl32 {s : Nat} (hs : s < 4294967296) {x : Int} (h0 : 0 ≤ x) (h1 : x < 32) : bits .or .u32 (s : Int) (2 ^ x.toNat % 4294967296) = ((s ||| 1 <<< x.toNat : Nat) : Int) := by
  have q3 : (1 : Nat) <<< x.toNat < 4294967296 := by
    rw [Nat.one_shiftLeft]
    exact Nat.lt_of_lt_of_le (Nat.pow_lt_pow_right (by decide) (show x.toNat < 32 by omega)) (by decide)
  rw [← u32_or_nat _ _ hs q3]
  congr 1
  rw [Nat.one_shiftLeft] at q3 ⊢
  have e : ((2 ^ x.toNat : Nat) : Int) = 2 ^ x.toNat := Int.natCast_pow 2 x.toNat
  rw [← e]
  exact Int.emod_eq_of_lt (Int.natCast_nonneg _) (Int.ofNat_lt.2 q3)

set_option maxHeartbeats 1000000 in
theorem may_any (a : Option Addr) (n c : Nat) (Z : Nat → Int) (w : World) (hn : n ≤ c) (hm : c ≤ maxLen) (hZ : Row w a n (fun i => .int .i64 (Z i))) :
    Calls Try.prog 34 #[.slice a n c] w fun r w' => r = .returned (.bool (mayB Z n)) ∧ w = w' := by
  unfold maxLen at hm
  by_cases h1 : 1 ≤ n ∧ n ≤ 16
  · obtain ⟨n0, n1⟩ := h1
    have HM : Hid (mayB Z n = okTo Z n) := Lib.hid (by unfold mayB; simp [n0, n1])
    have i0 : (1 : Int) ≤ (n : Int) := by omega
    have i1 : (n : Int) ≤ 16 := by omega
    go_enter Try.func34, Try.ntmps34
    go_wp2_with fail
    go_loop [3, 16] (fun u i => ∃ (k s : Nat), u = .int .u32 s ∧ i = .int .i64 k ∧ k ≤ n ∧ Seen s Z k ∧ Hid (okTo Z k = true)) (fun _ i => n - (intOf i).toNat)
    case atStart => exact ⟨0, 0, rfl, rfl, by omega, seen_zero Z, Lib.hid rfl⟩
    case round =>
      obtain ⟨k, s, rfl, rfl, hk, hs, HO⟩ := hrel
      by_cases hlt : k < n
      · obtain ⟨b, o, rfl, hb, hc⟩ := hZ.at_ hlt
        have HS := Lib.hid hs
        have hs2 := hs.1
        clear hs hZ
        by_cases hz : 0 ≤ Z k ∧ Z k < 32
        · obtain ⟨z0, z1⟩ := hz
          have hz2 : decide (32 ≤ Z k) = false := by simp; omega
          have e1 := shr32 hs2 (Z k)
          cases hb2 : s.testBit (Z k).toNat
          · rw [hb2] at e1
            have e2 := shl32 hs2 z0 z1
            have HN : Hid (okTo Z (k + 1) = true) := Lib.hid (by
              simp only [okTo, HO.out, seen_fresh HS.out z0 z1, hb2, Bool.and_eq_true, decide_eq_true_eq]
              simp [z0, z1])
            have HS2 : Hid (Seen (s ||| 1 <<< (Z k).toNat) Z (k + 1)) := Lib.hid (seen_next HS.out z0 z1)
            clear hb2
            simp only [Bool.false_eq_true, if_false] at e1
            go_wp2_with fail
            exact ⟨⟨k + 1, s ||| 1 <<< (Z k).toNat, rfl, by go_num, by omega, HS2.out, HN⟩, by simp [intOf]; omega⟩
          · rw [hb2] at e1
            have HN : Hid (mayB Z n = false) := Lib.hid (by
              rw [HM.out, ← Bool.not_eq_true]
              intro h
              have := (okTo_iff.1 h k hlt)
              have h3 := fresh_iff.2 this.2.2
              rw [seen_fresh HS.out z0 z1, hb2] at h3
              cases h3)
            clear hb2
            simp only [if_true] at e1
            go_wp2_with fail
            go_ret
            exact ⟨by rw [HN.out]; rfl, rfl⟩
        · have HN : Hid (mayB Z n = false) := Lib.hid (by
            rw [HM.out, ← Bool.not_eq_true]
            intro h
            have := (okTo_iff.1 h k hlt)
            exact hz ⟨this.1, this.2.1⟩)
          by_cases hz0 : 0 ≤ Z k
          · have hz2 : 32 ≤ Z k := by omega
            clear hz
            go_wp2_with fail
            go_ret
            exact ⟨by rw [HN.out]; rfl, rfl⟩
          · have hz0 : Z k < 0 := by omega
            clear hz
            go_wp2_with fail
            go_ret
            exact ⟨by rw [HN.out]; rfl, rfl⟩
      · obtain rfl : k = n := by omega
        have HN : Hid (mayB Z k = true) := Lib.hid (by rw [HM.out]; exact HO.out)
        clear hlt hs
        go_wp2_with fail
        go_ret
        exact ⟨by rw [HN.out]; rfl, rfl⟩
  · have HN : Hid (mayB Z n = false) := Lib.hid (by unfold mayB; simp; omega)
    by_cases h0 : n < 1
    · obtain rfl : n = 0 := by omega
      clear h1 h0
      go_enter Try.func34, Try.ntmps34
      go_wp2_with fail
      go_ret
      exact ⟨by rw [HN.out]; rfl, rfl⟩
    · have i0 : decide ((n : Int) < 1) = false := by simp; omega
      have i1 : 16 < (n : Int) := by omega
      clear h1 h0
      go_enter Try.func34, Try.ntmps34
      go_wp2_with fail
      go_ret
      exact ⟨by rw [HN.out]; rfl, rfl⟩

/-- The cells of a list of numbers. -/
def lc (l : List Int) (q : Nat) : Value := .int .i64 (l.getD q 0)
theorem lc_snoc (l : List Int) (x : Int) (q : Nat) (hq : q < l.length + 1) : (if q < l.length then lc l q else .int .i64 x) = lc (l ++ [x]) q := by
  unfold lc
  by_cases h : q < l.length
  · rw [if_pos h, List.getD_eq_getElem?_getD, List.getD_eq_getElem?_getD, List.getElem?_append_left h]
  · obtain rfl : q = l.length := by omega
    rw [if_neg h, List.getD_eq_getElem?_getD, List.getElem?_append_right (by omega)]
    simp
theorem lc_map (Z : Nat → Int) (n q : Nat) (hq : q < n) : lc ((List.range n).map Z) q = .int .i64 (Z q) := by
  unfold lc
  rw [List.getD_eq_getElem?_getD]
  simp [hq]

set_option maxHeartbeats 2000000 in
theorem open_yes (a : Option Addr) (n c : Nat) (Z : Nat → Int) (bl : Nat) (w : World) (hn : n ≤ c) (hm : c ≤ maxLen) (hZ : Row w a n (fun i => .int .i64 (Z i))) (hbl : bl < 4294967296) (hM : mayB Z n = true) :
    Calls Try.prog 41 #[.slice a n c, .int .u32 bl] w fun r w' => ∃ v, r = .returned v ∧ Mine w' w.heap.size 3 v (opn Z bl n).length (lc (opn Z bl n)) ∧ Below w.heap.size w w' := by
  obtain ⟨i0, hi0, hz0, hz1, hz2⟩ := info_parts infoI
  obtain ⟨n0, n1, hO⟩ := mayB_iff.1 hM
  have HO := Lib.hid hO
  have HM := Lib.hid hM
  have hML : 100 ≤ maxLen := by unfold maxLen; omega
  have HML := Lib.hid hML
  clear hO hM hML
  have hmk : ∀ w : World, (Instr.makeSlice 26 (.int .i64 0) (.int .i64 (n : Int))).run Try.prog w = .ok (.slice (some ⟨w.heap.size, 0, none⟩) 0 n) (w.alloc (.cells (madeCells #[.int .i64 0] n) 3)) := by
    intro w
    have := run_make w 26 3 i0 (.int .i64 0) Try.underlying26 hi0 hz0 .i64 .i64 0 (n : Int) (by omega) (by omega) (by rw [hz2]; omega) (by omega)
    rw [this, hz1]
    simp [Value.cells]
  have hcs : (madeCells #[Value.int .i64 0] n).size = n := by simp [madeCells]
  unfold maxLen at hm
  go_enter Try.func41, Try.ntmps41
  go_wp2_with fail
  refine (may_any a n c Z _ hn hm hZ).mono ?_
  rintro r w' ⟨rfl, rfl⟩
  rw [HM.out]
  go_wp2_with fail
  have hm0 : Mine (w.alloc (.cells (madeCells #[.int .i64 0] n) 3)) w.heap.size 3 (.slice (some ⟨w.heap.size, 0, none⟩) 0 n) 0 (lc []) := by
    have := Mine.made (base := w.heap.size) (n := 0) (V := lc []) (Own.new w 3 (madeCells #[.int .i64 0] n)) (Nat.le_refl _) (by rw [hcs]; exact Nat.le_trans (by omega) HML.out) (Nat.zero_le _) (fun i hi => absurd hi (by omega))
    rw [hcs] at this
    exact this
  have b0 := (Below.refl w.heap.size w).alloc (Nat.le_refl _) (.cells (madeCells #[.int .i64 0] n) 3)
  generalize w.alloc (.cells (madeCells #[.int .i64 0] n) 3) = w1 at *
  clear hmk hcs
  go_loopw [5, 16] (fun u i wr => ∃ (k : Nat) (v : Value), u = v ∧ i = .int .i64 k ∧ k ≤ n ∧ Mine wr w.heap.size 3 v (flt Z bl k).length (lc (flt Z bl k)) ∧ Below w.heap.size w wr) (fun _ i _ => n - (intOf i).toNat)
  case atStart => exact ⟨0, _, rfl, rfl, by omega, hm0, b0⟩
  case round =>
    obtain ⟨k, v, rfl, rfl, hk, hv, bb⟩ := hrel
    have hlen := flt_len Z bl k
    have hs := bb.size
    by_cases hlt : k < n
    · obtain ⟨b, o, rfl, hb, hc⟩ := hZ.at_old bb hlt
      obtain ⟨z0, z1, _⟩ := okTo_iff.1 HO.out k hlt
      have e1 := shr32 hbl (Z k)
      cases hb2 : bl.testBit (Z k).toNat
      · rw [hb2] at e1
        have HF := Lib.hid (flt_open (Z := Z) (b := bl) (k := k) hb2)
        have hm1 : (flt Z bl k).length + 1 ≤ maxLen := Nat.le_trans (by omega) HML.out
        have Hm := Lib.hid hm1
        clear hb2 hm1 hZ
        simp only [Bool.false_eq_true, if_false] at e1
        go_wp2_with (at_builtin; go_must (refine wp_app rfl (.tmp 25) (.tmp 27) _ rfl w.heap.size 3 i0 _ 8 Try.underlying26 hi0 hz0 hz1 hz2 rfl u5 (flt Z bl k).length (lc (flt Z bl k)) rfl (hv.alloc _) _ 1 _ (fun _ => .int .i64 (Z k)) rfl (row_new _ _ _ _ (fun i hi => by obtain rfl : i = 0 := (by omega); rfl)) (fun _ _ => rfl) Hm.out ?c2 ?c3 ?_))
        case c2 => omega
        case c3 => first | omega | (simp; omega)
        intro v' w2 hv2 hg
        have b2 : Below w.heap.size w w2 := (bb.alloc hs _).grown hg (by simp; omega) (fun q hq => (hv.lt q hq).1)
        have hv3 : Mine w2 w.heap.size 3 v' (flt Z bl (k + 1)).length (lc (flt Z bl (k + 1))) := by
          rw [HF.out, List.length_append]
          exact hv2.ext (fun q hq => lc_snoc _ _ _ hq)
        clear hv hv2
        go_wp2_with fail
        exact ⟨⟨k + 1, _, rfl, by go_num, by omega, hv3, b2⟩, by simp [intOf]; omega⟩
      · rw [hb2] at e1
        have HF := Lib.hid (flt_black (Z := Z) (b := bl) (k := k) hb2)
        clear hb2
        simp only [if_true] at e1
        go_wp2_with fail
        exact ⟨⟨k + 1, _, rfl, by go_num, by omega, by rw [HF.out]; exact hv, bb⟩, by simp [intOf]; omega⟩
    · obtain rfl : k = n := by omega
      clear hlt
      obtain ⟨a', c', rfl, hc1, hc2, hR⟩ := hv.row
      obtain ⟨m, hmm⟩ : ∃ m, (flt Z bl k).length = m := ⟨_, rfl⟩
      by_cases hm0 : m = 0
      · have hfe : flt Z bl k = [] := List.length_eq_zero_iff.1 (by omega)
        have HP : Hid (opn Z bl k = (List.range k).map Z) := Lib.hid (by unfold opn; rw [if_pos hfe])
        rw [hfe] at hv hc1 hR
        rw [hfe]
        simp only [List.length_nil] at *
        clear hfe hmm hm0 hlen
        have hm1 : 0 + k ≤ maxLen := Nat.le_trans (by omega) HML.out
        have Hm := Lib.hid hm1
        clear hm1
        go_wp2_with (at_builtin; go_must (refine wp_app rfl (.tmp 33) (.tmp 34) _ rfl w.heap.size 3 i0 _ 8 Try.underlying26 hi0 hz0 hz1 hz2 rfl _ 0 (lc []) rfl hv a k c (fun i => .int .i64 (Z i)) rfl (hZ.below bb) (fun _ _ => rfl) Hm.out ?c2 ?c3 ?_))
        case c2 => omega
        case c3 => omega
        intro v' w2 hv2 hg
        have b2 : Below w.heap.size w w2 := bb.grown hg hs (fun q hq => (hv.lt q hq).1)
        go_wp2_with fail
        go_ret
        refine ⟨_, rfl, ?_, b2⟩
        rw [HP.out, List.length_map, List.length_range]
        exact hv2.ext (fun q hq => (lc_map Z k q hq).symm)
      · have hfe : ¬ flt Z bl k = [] := fun e => hm0 (by rw [← hmm, e]; rfl)
        have HP : Hid (opn Z bl k = flt Z bl k) := Lib.hid (by unfold opn; rw [if_neg hfe])
        have hne : (((flt Z bl k).length : Int) == 0) = false := by simp; exact hfe
        clear hfe hmm hm0
        go_wp2_with fail
        go_ret
        refine ⟨_, rfl, ?_, bb⟩
        rw [HP.out]
        exact hv
theorem open_no (a : Option Addr) (n c : Nat) (Z : Nat → Int) (bl : Nat) (w : World) (hn : n ≤ c) (hm : c ≤ maxLen) (hZ : Row w a n (fun i => .int .i64 (Z i))) (hM : mayB Z n = false) :
    Calls Try.prog 41 #[.slice a n c, .int .u32 bl] w fun r w' => r = .returned (.slice none 0 0) ∧ w = w' := by
  have HM := Lib.hid hM
  clear hM
  go_enter Try.func41, Try.ntmps41
  go_wp2_with fail
  refine (may_any a n c Z _ hn hm hZ).mono ?_
  rintro r w' ⟨rfl, rfl⟩
  rw [HM.out]
  go_wp2_with fail
  go_ret
  exact ⟨rfl, rfl⟩

set_option maxHeartbeats 1000000 in
theorem channel_yes (a : Option Addr) (n c : Nat) (Z : Nat → Int) (bl : Nat) (asn off : Int) (w : World) (hn : n ≤ c) (hm : c ≤ maxLen) (hZ : Row w a n (fun i => .int .i64 (Z i))) (hbl : bl < 4294967296)
    (hM : mayB Z n = true) (h0 : 0 ≤ asn) (h1 : asn < 1099511627776) (h2 : 0 ≤ off) (h3 : off < 256) :
    Calls Try.prog 24 #[.slice a n c, .int .u32 bl, .int .i64 asn, .int .i64 off] w fun r w' => r = .returned (.int .i64 (chan Z bl n asn off)) ∧ Below w.heap.size w w' := by
  obtain ⟨n0, n1, hO⟩ := mayB_iff.1 hM
  obtain ⟨l0, l1⟩ := opn_len (Z := Z) (b := bl) n0
  have HM := Lib.hid hM
  clear hM hO
  have HC : Hid (chan Z bl n asn off = (opn Z bl n).getD ((asn + off) % ((opn Z bl n).length : Int)).toNat 0) := Lib.hid rfl
  go_enter Try.func24, Try.ntmps24
  go_wp2_with fail
  refine (open_yes a n c Z bl _ hn hm hZ hbl HM.out).mono ?_
  rintro r w1 ⟨v, rfl, hv, bb⟩
  obtain ⟨a', c', rfl, hc1, hc2, hR⟩ := hv.row
  clear hv
  have hd : ¬ (opn Z bl n).length = 0 := by omega
  have r0 : 0 ≤ (asn + off) % ((opn Z bl n).length : Int) := Int.emod_nonneg _ (by omega)
  have r1 : (asn + off) % ((opn Z bl n).length : Int) < ((opn Z bl n).length : Int) := Int.emod_lt_of_pos _ (by omega)
  obtain ⟨q, hq⟩ : ∃ q : Nat, (asn + off) % ((opn Z bl n).length : Int) = (q : Int) := ⟨((asn + off) % ((opn Z bl n).length : Int)).toNat, by omega⟩
  rw [hq] at r0 r1
  obtain ⟨b, o, rfl, hb, hc⟩ := hR.at_ (k := q) (by omega)
  have HQ := Lib.hid hq
  obtain ⟨m, hmm⟩ : ∃ m, (opn Z bl n).length = m := ⟨_, rfl⟩
  unfold lc at hc
  rw [hmm] at l0 l1 hc1 hd r1 hq ⊢
  have hz : ¬ (m : Int) = 0 := by omega
  have hz2 : ((m : Int) == 0) = false := by simp; exact hd
  have ht : (asn + off).tmod (m : Int) = (q : Int) := by rw [Int.tmod_eq_emod_of_nonneg (by omega)]; exact hq
  clear hmm hq hR
  go_wp2_with fail
  go_ret
  refine ⟨?_, bb⟩
  rw [HC.out, HQ.out, Int.toNat_natCast, List.getD_eq_getElem?_getD]
  rfl
set_option maxHeartbeats 1000000 in
theorem channel_off (a : Option Addr) (n c : Nat) (Z : Nat → Int) (bl : Nat) (asn off : Int) (w : World) (hn : n ≤ c) (hm : c ≤ maxLen) (hZ : Row w a n (fun i => .int .i64 (Z i))) (hbl : bl < 4294967296)
    (hM : mayB Z n = true) (ho : ¬ (0 ≤ asn ∧ asn < 1099511627776 ∧ 0 ≤ off ∧ off < 256)) :
    Calls Try.prog 24 #[.slice a n c, .int .u32 bl, .int .i64 asn, .int .i64 off] w fun r w' => r = .returned (.int .i64 (-1)) ∧ Below w.heap.size w w' := by
  obtain ⟨n0, n1, hO⟩ := mayB_iff.1 hM
  obtain ⟨l0, l1⟩ := opn_len (Z := Z) (b := bl) n0
  have HM := Lib.hid hM
  clear hM hO
  have hcase : asn < 0 ∨ (0 ≤ asn ∧ 1099511627776 ≤ asn) ∨ (0 ≤ asn ∧ decide (1099511627776 ≤ asn) = false ∧ off < 0) ∨ (0 ≤ asn ∧ decide (1099511627776 ≤ asn) = false ∧ 0 ≤ off ∧ 256 ≤ off) := by
    by_cases g0 : asn < 0
    · exact .inl g0
    · by_cases g1 : 1099511627776 ≤ asn
      · exact .inr (.inl ⟨by omega, g1⟩)
      · by_cases g2 : off < 0
        · exact .inr (.inr (.inl ⟨by omega, by simpa using g1, g2⟩))
        · exact .inr (.inr (.inr ⟨by omega, by simpa using g1, by omega, by omega⟩))
  clear ho
  go_enter Try.func24, Try.ntmps24
  go_wp2_with fail
  refine (open_yes a n c Z bl _ hn hm hZ hbl HM.out).mono ?_
  rintro r w1 ⟨v, rfl, hv, bb⟩
  obtain ⟨a', c', rfl, hc1, hc2, hR⟩ := hv.row
  clear hv hR
  have hz2 : (((opn Z bl n).length : Int) == 0) = false := by simp; intro h; rw [h] at l0; simp at l0
  generalize (opn Z bl n).length = m at *
  rcases hcase with h | ⟨h, h'⟩ | ⟨h, h', h''⟩ | ⟨h, h', h'', h3⟩
  all_goals
    go_wp2_with fail
    go_ret
    exact ⟨rfl, bb⟩
theorem channel_none (a : Option Addr) (n c : Nat) (Z : Nat → Int) (bl : Nat) (asn off : Int) (w : World) (hn : n ≤ c) (hm : c ≤ maxLen) (hZ : Row w a n (fun i => .int .i64 (Z i))) (hM : mayB Z n = false) :
    Calls Try.prog 24 #[.slice a n c, .int .u32 bl, .int .i64 asn, .int .i64 off] w fun r w' => r = .returned (.int .i64 (-1)) ∧ w = w' := by
  have HM := Lib.hid hM
  clear hM
  go_enter Try.func24, Try.ntmps24
  go_wp2_with fail
  refine (open_no a n c Z bl _ hn hm hZ HM.out).mono ?_
  rintro r w1 ⟨rfl, rfl⟩
  go_wp2_with fail
  go_ret
  exact ⟨rfl, rfl⟩
theorem channel_any (a : Option Addr) (n c : Nat) (Z : Nat → Int) (bl : Nat) (asn off : Int) (w : World) (hn : n ≤ c) (hm : c ≤ maxLen) (hZ : Row w a n (fun i => .int .i64 (Z i))) (hbl : bl < 4294967296) :
    Calls Try.prog 24 #[.slice a n c, .int .u32 bl, .int .i64 asn, .int .i64 off] w fun r w' => r = .returned (.int .i64 (chanB Z bl n asn off)) ∧ Below w.heap.size w w' := by
  unfold chanB
  cases hM : mayB Z n
  · rw [if_neg (by simp)]
    refine (channel_none a n c Z bl asn off w hn hm hZ hM).mono ?_
    rintro r w' ⟨rfl, rfl⟩
    exact ⟨rfl, Below.refl _ _⟩
  · by_cases ho : 0 ≤ asn ∧ asn < 1099511627776 ∧ 0 ≤ off ∧ off < 256
    · rw [if_pos ⟨rfl, ho⟩]
      exact channel_yes a n c Z bl asn off w hn hm hZ hbl hM ho.1 ho.2.1 ho.2.2.1 ho.2.2.2
    · rw [if_neg (fun h => ho h.2)]
      exact channel_off a n c Z bl asn off w hn hm hZ hbl hM ho

end Go.Proofs.Ytiflmdekcjbmbaa.Hp
