/-
  The reference's window: a map for each node that was heard; its methods by contract, told by the package's own rows of bits. Both windows at whatever node and number: what they answer, and what they know then. Channels as numbers: which rows may be, which of them are open. Contracts of package hop (chapter 5).
-/
import Derived.Test.YtiflmdekcjbmbaaGreatGNodeWaits02
import Derived.Maps.OwnSet
import Derived.Maps.Views
import Derived.Test.YtiflmdekcjbmbaaGreatRows
import Derived.Test.YtiflmdekcjbmbaaGreatGNodeWaits01
import Derived.Laws.MakeOwn
import Derived.Lib.Hide
set_option maxRecDepth 100000
namespace Go.Proofs.YtiflmdekcjbmbaaGreat.Dp
set_option linter.unusedVariables false
set_option linter.unusedSimpArgs false
open Go.RowKit Lb Go.Maps

theorem law : Keyed Tryz.prog 3 := int_keyed Tryz.underlying3
theorem zeroI (w : World) : (zeroValue 3).run Tryz.prog w = .ok (.int .i64 0) w := by kernel_rfl
open Instr in
theorem eqlSome (m : Nat) (w : World) : (binOp .eql 98 (.map (some m)) (.map none)).run Tryz.prog w = .ok (.bool false) w := by kernel_rfl
open Instr in
theorem eqlNil (w : World) : (binOp .eql 98 (.map none) (.map none)).run Tryz.prog w = .ok (.bool true) w := by kernel_rfl
abbrev Dt := DataW Unit
def n0 : Dt := .lit (.int .i64 0)
def n1 : Dt := .lit (.int .i64 1)
def key (x : Int) : Lit := .int .i64 x
theorem wf_of {x : Int} (h0 : 0 ≤ x) (h1 : x < 9223372036854775808) : (Lit.int .i64 x).wf = true := by
  simp [Lit.wf, IntKind.min, IntKind.max, IntKind.signed, IntKind.bits]
  omega
theorem n0_ne : n0 ≠ n1 := by
  unfold n0 n1
  intro e
  injection e with e
  injection e with _ e
  cases e
theorem isKey (x : Int) : WideAt.IsKeyLit (key x) := by
  unfold key
  simp [WideAt.IsKeyLit]
/-- 'm[k] = v' inside a map's literal. -/
theorem wpList_insert_own {H : Type} {P : Program} (w : World) {ops : Array Oper} {rest : List Oper} {o : Oper} {a : Act} {Q : Exit → Act → World → Prop}
    (hg : o.guard = none) (m x v : Operand) (t : TypeId) (hop : o.op = Op.insert t m x v)
    (k e : TypeId) (K : Keyed P k) (ht : P.underlying t = some (.map k e)) (R : Value → Option (DataW H × List MemPlace)) (b n : Nat) (D : DataW H)
    (hm : a.eval m = .map (some b)) (hown : w.ownsMap P k R b n D) (hn : n < maxLen) (key val : Value) (kl : Lit) (hx : a.eval x = key) (hv : a.eval v = val) (hkey : keyOf P k key = some kl)
    (d : DataW H) (ps : List MemPlace) (hval : R val = some (d, ps))
    (hK : ∀ w', w'.ownsMap P k R b (n + 1) (D.put kl d) → w.grownBy w' (some b) → wpList P ops Q rest (a.put o.dst undef) w') :
    wpList P ops Q (o :: rest) a w := by
  refine wpList_plain hg fun K' hK' => ?_
  obtain ⟨w', hrun, r1, r2⟩ := hown.update K ht hn hkey hval
  unfold Oper.wp
  simp [execOp, hop, hm, hx, hv, hrun, Result.andThen]
  exact hK' _ _ (hK w' r1 r2)

/-- The reference's cells: of node i the greatest number L i, and its map M i. -/
def rv (L : Nat → Int) (M : Nat → Option Nat) (j : Nat) : Value := if j % 2 = 0 then .int .i64 (L (j / 2)) else .map (M (j / 2))
abbrev OwnM (w : World) (m k : Nat) (D : Dt) : Prop := w.ownsMap Tryz.prog 3 (plainElem Tryz.prog 3) m k D
structure Rf (w : World) (base b : Nat) (L : Nat → Int) (S : Nat → Nat) (k : Nat) (M : Nat → Option Nat) (D : Nat → Dt) : Prop where
  blk : Blk w b 103 32 (rv L M)
  low : b < base
  top : base ≤ w.heap.size
  none_ : ∀ i, S i = 0 ↔ M i = none
  own : ∀ i m, M i = some m → base ≤ m ∧ OwnM w m k (D i)
  is : ∀ i, IsMap (D i)
  tell : ∀ i x, S i ≠ 0 → 0 ≤ x → x < 9223372036854775808 → L i - 64 < x → ((D i).atKey (key x) n0 = n1 ↔ has (L i) (S i) x)
  apart : ∀ i j m, M i = some m → M j = some m → i = j
/-- From w to w' block b and the maps alone have turned, and what is new. -/
structure Near (b : Nat) (M : Nat → Option Nat) (w w' : World) : Prop where
  os : w'.os = w.os
  tape : w'.tape = w.tape
  output : w'.output = w.output
  size : w.heap.size ≤ w'.heap.size
  block : ∀ k, k < w.heap.size → k ≠ b → (∀ i, M i ≠ some k) → w'.heap[k]? = w.heap[k]?
theorem Near.refl (b : Nat) (M : Nat → Option Nat) (w : World) : Near b M w w := ⟨rfl, rfl, rfl, Nat.le_refl _, fun _ _ _ _ => rfl⟩
theorem Near.below {b base B k : Nat} {a w w' : World} {L : Nat → Int} {S : Nat → Nat} {M : Nat → Option Nat} {D : Nat → Dt} (j : Near b M w w') (r : Rf w base b L S k M D) (h : Below B a w) (hb : B ≤ b) : Below B a w' :=
  h.trans ⟨j.os, j.tape, j.output, j.size, fun q hq => j.block q (by have := r.low; have := r.top; omega) (by omega) (fun i e => by have := (r.own i q e).1; have := r.low; omega)⟩
theorem Near.own {b base k r : Nat} {w w' : World} {L : Nat → Int} {S : Nat → Nat} {M : Nat → Option Nat} {D : Nat → Dt} {t : TypeId} {cs : Array Value} (j : Near b M w w') (h : Rf w base b L S k M D) (ho : Own w r t cs) (hne : r ≠ b) : Own w' r t cs :=
  (j.block r ho.lt hne (fun i e => by
    obtain ⟨es, clock, hb, _⟩ := (h.own i r e).2
    have ho2 : w.heap[r]? = some (.cells cs t (0, 0)) := ho
    rw [hb] at ho2
    injection ho2 with ho2
    cases ho2)).trans ho
theorem ownM_same {w w' : World} {m k : Nat} {D : Dt} (h : OwnM w m k D) (he : w'.heap[m]? = w.heap[m]?) : OwnM w' m k D := by
  obtain ⟨es, clock, hb, r⟩ := h
  exact ⟨es, clock, he.trans hb, r⟩
/-- The reference stays what it is where its blocks do. -/
theorem Rf.kept {w w' : World} {base b k : Nat} {L : Nat → Int} {S : Nat → Nat} {M : Nat → Option Nat} {D : Nat → Dt} (h : Rf w base b L S k M D) (hs : w.heap.size ≤ w'.heap.size) (hb : w'.heap[b]? = w.heap[b]?) (hm : ∀ m, base ≤ m → m < w.heap.size → w'.heap[m]? = w.heap[m]?) : Rf w' base b L S k M D where
  blk := (show w'.heap[b]? = _ from hb.trans h.blk)
  low := h.low
  top := Nat.le_trans h.top hs
  none_ := h.none_
  own i m e := ⟨(h.own i m e).1, ownM_same (h.own i m e).2 (hm m (h.own i m e).1 (World.ownsMap.lt (h.own i m e).2))⟩
  is := h.is
  tell := h.tell
  apart := h.apart
theorem Rf.just {w w' : World} {base b g k : Nat} {L : Nat → Int} {S : Nat → Nat} {M : Nat → Option Nat} {D : Nat → Dt} (h : Rf w base b L S k M D) (j : Just g w w') (hne : b ≠ g) (hg : g < base) : Rf w' base b L S k M D :=
  h.kept j.size (j.block b (by have := h.low; have := h.top; omega) hne) (fun m h1 h2 => j.block m h2 (by omega))
theorem Rf.below {w w' : World} {base b k : Nat} {L : Nat → Int} {S : Nat → Nat} {M : Nat → Option Nat} {D : Nat → Dt} (h : Rf w base b L S k M D) (j : Below w.heap.size w w') : Rf w' base b L S k M D :=
  h.kept j.size (j.block b (by have := h.low; have := h.top; omega)) (fun m _ h2 => j.block m h2)
theorem Rf.drewN {w : World} {base b k : Nat} {L : Nat → Int} {S : Nat → Nat} {M : Nat → Option Nat} {D : Nat → Dt} (h : Rf w base b L S k M D) (n : Nat) : Rf (w.drewN n) base b L S k M D := h.kept (Nat.le_refl _) rfl (fun _ _ _ => rfl)
theorem Rf.mono {w : World} {base b k l : Nat} {L : Nat → Int} {S : Nat → Nat} {M : Nat → Option Nat} {D : Nat → Dt} (h : Rf w base b L S k M D) (hl : k ≤ l) : Rf w base b L S l M D :=
  { h with own := fun i m e => ⟨(h.own i m e).1, (h.own i m e).2.mono hl⟩ }
theorem Rf.c0 {w : World} {base b i k : Nat} {L : Nat → Int} {S : Nat → Nat} {M : Nat → Option Nat} {D : Nat → Dt} (h : Rf w base b L S k M D) (hi : i < 16) : w.cell? ⟨b, i * 2, none⟩ = some (.int .i64 (L i)) := by
  rw [Blk.cell h.blk (by omega)]; unfold rv; rw [if_pos (by omega)]; congr 3; omega
theorem Rf.c1 {w : World} {base b i k : Nat} {L : Nat → Int} {S : Nat → Nat} {M : Nat → Option Nat} {D : Nat → Dt} (h : Rf w base b L S k M D) (hi : i < 16) : w.cell? ⟨b, i * 2 + 1, none⟩ = some (.map (M i)) := by
  rw [Blk.cell h.blk (by omega)]; unfold rv; rw [if_neg (by omega), show (i * 2 + 1) / 2 = i by omega]
theorem rv_put (L : Nat → Int) (M : Nat → Option Nat) (i : Nat) (x : Int) (m : Option Nat) (j : Nat) : (if j = i * 2 then .int .i64 x else if j = i * 2 + 1 then .map m else rv L M j) = rv (upd L i x) (upd M i m) j := by
  unfold rv upd
  split
  · rename_i h; rw [if_pos (by omega), if_pos (by omega)]
  · split
    · rename_i h; rw [if_neg (by omega), if_pos (by omega)]
    · by_cases h2 : j / 2 = i
      · omega
      · rw [if_neg h2, if_neg h2]
theorem rv_put2 (L : Nat → Int) (M : Nat → Option Nat) (i : Nat) (x : Int) (m : Option Nat) (j : Nat) : (if j = i * 2 + 1 then .map m else if j = i * 2 then .int .i64 x else rv L M j) = rv (upd L i x) (upd M i m) j := by
  rw [← rv_put]
  by_cases h1 : j = i * 2
  · rw [if_neg (by omega), if_pos h1, if_pos h1]
  · rw [if_neg h1, if_neg h1]
theorem rv_one (L : Nat → Int) (M : Nat → Option Nat) (i : Nat) (x : Int) (j : Nat) : (if j = i * 2 then .int .i64 x else rv L M j) = rv (upd L i x) M j := by
  unfold rv upd
  split
  · rename_i h; rw [if_pos (by omega), if_pos (by omega)]
  · by_cases h0 : j % 2 = 0
    · rw [if_pos h0, if_pos h0, if_neg (by omega)]
    · rw [if_neg h0, if_neg h0]
def nodeB (x : Int) : Bool := decide (0 ≤ x ∧ x < 16)
theorem node_any (x : Int) (w : World) :
    Calls Tryz.prog 122 #[.int .i64 x] w fun r w' => r = .returned (.bool (nodeB x)) ∧ w = w' := by
  by_cases h0 : 0 ≤ x
  · by_cases h1 : x < 16
    · have HD : Hid (nodeB x = true) := Lib.hid (by simp [nodeB, h0, h1])
      go_enter Tryz.func122, Tryz.ntmps122
      go_wp2_with fail
      go_ret
      exact ⟨by rw [HD.out]; rfl, rfl⟩
    · have HD : Hid (nodeB x = false) := Lib.hid (by simp [nodeB]; omega)
      have h2 : decide (x < 16) = false := by simp; omega
      clear h1
      go_enter Tryz.func122, Tryz.ntmps122
      go_wp2_with fail
      go_ret
      exact ⟨by rw [HD.out]; rfl, rfl⟩
  · have HD : Hid (nodeB x = false) := Lib.hid (by simp [nodeB]; omega)
    have h2 : x < 0 := by omega
    clear h0
    go_enter Tryz.func122, Tryz.ntmps122
    go_wp2_with fail
    go_ret
    exact ⟨by rw [HD.out]; rfl, rfl⟩
theorem node_yes (i : Nat) (w : World) (hi : i < 16) :
    Calls Tryz.prog 122 #[.int .i64 i] w fun r w' => r = .returned (.bool true) ∧ w = w' := by
  have := node_any i w
  rwa [show nodeB i = true by simp [nodeB]; omega] at this
theorem node_no (x : Int) (w : World) (hn : ¬ (0 ≤ x ∧ x < 16)) :
    Calls Tryz.prog 122 #[.int .i64 x] w fun r w' => r = .returned (.bool false) ∧ w = w' := by
  have := node_any x w
  rwa [show nodeB x = false by simp [nodeB]; omega] at this
theorem rnew_out (b : Nat) (i n : Int) (w : World) (hi : ¬ (0 ≤ i ∧ i < 16 ∧ 0 ≤ n)) :
    Calls Tryz.prog 159 #[.pointer (some ⟨b, 0, none⟩), .int .i64 i, .int .i64 n] w fun r w' => r = .returned (.bool false) ∧ w = w' := by
  by_cases h0 : 0 ≤ i ∧ i < 16
  · have hn : n < 0 := by omega
    obtain ⟨k, rfl⟩ := Int.eq_ofNat_of_zero_le h0.1
    have hk : k < 16 := by omega
    clear hi h0
    go_enter Tryz.func159, Tryz.ntmps159
    go_wp2_with fail
    refine (node_yes _ _ hk).mono ?_
    rintro r w' ⟨rfl, rfl⟩
    go_wp2_with fail
    go_ret
    exact ⟨rfl, rfl⟩
  · clear hi
    go_enter Tryz.func159, Tryz.ntmps159
    go_wp2_with fail
    refine (node_no _ _ h0).mono ?_
    rintro r w' ⟨rfl, rfl⟩
    go_wp2_with fail
    go_ret
    exact ⟨rfl, rfl⟩
set_option maxHeartbeats 1000000 in
theorem rnew_fresh (base b i k : Nat) (L : Nat → Int) (S : Nat → Nat) (M : Nat → Option Nat) (D : Nat → Dt) (n : Int) (w : World) (h : Rf w base b L S k M D) (hi : i < 16) (hn : 0 ≤ n) (hm : n < 9223372036854775808) (hs : S i = 0) (hk : k < 1000) :
    Calls Tryz.prog 159 #[.pointer (some ⟨b, 0, none⟩), .int .i64 i, .int .i64 n] w fun r w' => r = .returned (.bool true) ∧ (∃ M' D', Rf w' base b (upd L i n) (upd S i 1) (k + 1) M' D') ∧ Near b M w w' := by
  have c0 := h.c0 hi
  have c1 := h.c1 hi
  rw [(h.none_ i).1 hs] at c1
  have f0 : w.frozen? ⟨b, i * 2, none⟩ = false := Blk.free h.blk _
  have f1 : w.frozen? ⟨b, i * 2 + 1, none⟩ = false := Blk.free h.blk _
  have hbl := h.blk.lt
  have hmade := World.ownsMap_made (H := Unit) w Tryz.prog 3 (plainElem Tryz.prog 3)
  have hmm := @run_makeMap Tryz.prog
  have hq := eqlNil
  have n2 : decide (n < 0) = false := by simp; omega
  clear hs
  go_enter Tryz.func159, Tryz.ntmps159
  go_wp2_with fail
  refine (node_yes _ _ hi).mono ?_
  rintro r w' ⟨rfl, rfl⟩
  go_wp2_with (refine wpList_insert_own _ rfl _ _ _ 98 rfl 3 3 law Tryz.underlying98 _ w.heap.size 0 _ rfl hmade (by decide) _ _ _ rfl rfl (keyOf_int_mk Tryz.underlying3 (wf_of hn hm)) _ [] (plainElem_int Tryz.underlying3 (by decide)) ?_)
  intro w1 hown1 hg1
  have hk1 : ∀ q, q < w.heap.size → w1.heap[q]? = w.heap[q]? := fun q hq => (hg1.block q (by simp; omega) (fun e => by injection e with e; omega)).trans (Below.heap_alloc w _ q hq)
  have hsz : w.heap.size < w1.heap.size := Nat.lt_of_lt_of_le (by simp) hg1.size
  have B1 : Blk w1 b 103 32 (rv L M) := (hk1 b hbl).trans h.blk
  have d0 : w1.cell? ⟨b, i * 2, none⟩ = some (.int .i64 (L i)) := by rw [World.cell?_of_block (hk1 b hbl)]; exact c0
  have d1 : w1.cell? ⟨b, i * 2 + 1, none⟩ = some (.map none) := by rw [World.cell?_of_block (hk1 b hbl)]; exact c1
  have g0 : w1.frozen? ⟨b, i * 2, none⟩ = false := Blk.free B1 _
  have g1 : w1.frozen? ⟨b, i * 2 + 1, none⟩ = false := Blk.free B1 _
  have hnear : Near b M w ((w1.setCell ⟨b, i * 2 + 1, none⟩ (.map (some w.heap.size))).setCell ⟨b, i * 2, none⟩ (.int .i64 n)) :=
    ⟨hg1.os, hg1.tape, hg1.output, by simp [World.setCell]; omega, fun q hq hne _ => (Below.heap_setCell _ _ _ q hne).trans ((Below.heap_setCell _ _ _ q hne).trans (hk1 q hq))⟩
  have HN := Lib.hid hnear
  have HB := Lib.hid (Blk.ext (Blk.put (Blk.put B1 (i * 2 + 1) (.map (some w.heap.size))) (i * 2) (.int .i64 n)) (fun j _ => rv_put L M i n (some w.heap.size) j))
  have HK := Lib.hid hk1
  have hown2 := ownM_same (k := 1) (w' := (w1.setCell ⟨b, i * 2 + 1, none⟩ (.map (some w.heap.size))).setCell ⟨b, i * 2, none⟩ (.int .i64 n)) hown1 ((Below.heap_setCell _ _ _ _ (by simp; omega)).trans (Below.heap_setCell _ _ _ _ (by simp; omega)))
  clear hnear hk1 c0 c1 f0 f1 hmm hown1
  go_wp2_with fail
  go_ret
  refine ⟨rfl, ⟨upd M i (some w.heap.size), upd D i ((DataW.map []).put (key n) n1), ?_⟩, HN.out⟩
  refine ⟨HB.out, h.low, ?_, fun j => ?_, fun j m e => ?_, fun j => ?_, fun j x hj h0 h1 h2 => ?_, fun j l m e1 e2 => ?_⟩
  · have := h.top
    simp [World.setCell]
    omega
  · by_cases hj : j = i
    · subst hj
      rw [upd_same, upd_same]
      simp
    · rw [upd_other _ _ hj, upd_other _ _ hj]
      exact h.none_ j
  · by_cases hj : j = i
    · subst hj
      rw [upd_same] at e ⊢
      injection e with e
      subst e
      exact ⟨h.top, hown2.mono (by omega)⟩
    · rw [upd_other _ _ hj] at e ⊢
      obtain ⟨a1, a2⟩ := h.own j m e
      have hm := World.ownsMap.lt a2
      have hlow := h.low
      exact ⟨a1, (ownM_same a2 ((Below.heap_setCell _ _ _ _ (by simp; omega)).trans ((Below.heap_setCell _ _ _ _ (by simp; omega)).trans (HK.out m hm)))).mono (by omega)⟩
  · by_cases hj : j = i
    · subst hj
      rw [upd_same]
      exact isMap_empty.put _ _
    · rw [upd_other _ _ hj]
      exact h.is j
  · by_cases hj2 : j = i
    · subst hj2
      rw [upd_same, upd_same, upd_same] at *
      have e := has_new (l := L j) (s := 0) (n := n) (x := x) (by simp [isN])
      have e1 : nL (L j) 0 n = n := by simp [nL]
      have e2 : nS (L j) 0 n = 1 := by simp [nS]
      rw [e1, e2] at e
      rw [e]
      by_cases hx : x = n
      · subst hx
        rw [atKey_put_same isMap_empty (isKey x)]
        simp
      · rw [atKey_put_other (by unfold key; intro e; injection e with _ e; exact hx e)]
        constructor
        · intro e
          exact absurd e n0_ne
        · rintro (e | ⟨e, _⟩)
          · exact absurd e hx
          · exact absurd rfl e.1
    · rw [upd_other _ _ hj2, upd_other _ _ hj2, upd_other _ _ hj2] at *
      exact h.tell j x hj h0 h1 h2
  · by_cases hj : j = i
    · by_cases hl : l = i
      · omega
      · subst hj
        rw [upd_same] at e1
        rw [upd_other _ _ hl] at e2
        injection e1 with e1
        have := World.ownsMap.lt (h.own l m e2).2
        omega
    · by_cases hl : l = i
      · subst hl
        rw [upd_same] at e2
        rw [upd_other _ _ hj] at e1
        injection e2 with e2
        have := World.ownsMap.lt (h.own j m e1).2
        omega
      · rw [upd_other _ _ hj] at e1
        rw [upd_other _ _ hl] at e2
        exact h.apart j l m e1 e2
theorem near_grown {b i m : Nat} {w w1 : World} {M : Nat → Option Nat} (h : w.grownBy w1 (some m)) (hm : M i = some m) : Near b M w w1 :=
  ⟨h.os, h.tape, h.output, h.size, fun q hq _ hq2 => h.block q hq (fun e => hq2 i (by rw [hm, e]))⟩
theorem Near.put {b : Nat} {w w1 : World} {M : Nat → Option Nat} (h : Near b M w w1) (i : Nat) (v : Value) : Near b M w (w1.setCell ⟨b, i, none⟩ v) :=
  ⟨h.os, h.tape, h.output, Nat.le_trans h.size (by simp [World.setCell]), fun q hq hne hq2 => (Below.heap_setCell _ _ _ q hne).trans (h.block q hq hne hq2)⟩
theorem lit_one {c : Int} : (DataW.lit (.int .i64 c) : Dt) = n1 ↔ c = 1 := by
  unfold n1
  constructor
  · intro e
    injection e with e
    injection e with _ e
  · rintro rfl
    rfl
set_option maxHeartbeats 1000000 in
theorem rnew_in (base b i k : Nat) (L : Nat → Int) (S : Nat → Nat) (M : Nat → Option Nat) (D : Nat → Dt) (n : Int) (w : World) (h : Rf w base b L S k M D) (hi : i < 16) (hn : 0 ≤ n) (hm : n < 9223372036854775808) (hg : DGood (L i) (S i)) (hk : k < 1000) :
    Calls Tryz.prog 159 #[.pointer (some ⟨b, 0, none⟩), .int .i64 i, .int .i64 n] w fun r w' => r = .returned (.bool (isN (L i) (S i) n)) ∧ (∃ M' D', Rf w' base b (upd L i (nL (L i) (S i) n)) (upd S i (nS (L i) (S i) n)) (k + 1) M' D') ∧ Near b M w w' := by
  by_cases hs : S i = 0
  · refine (rnew_fresh base b i k L S M D n w h hi hn hm hs hk).mono ?_
    rintro r w' ⟨rfl, k1, k2⟩
    refine ⟨by simp [isN, hs], ?_, k2⟩
    simp only [nL, nS, hs, true_or, if_true]
    exact k1
  · obtain ⟨l0, l1⟩ := hg.2 hs
    obtain ⟨m, hM⟩ : ∃ m, M i = some m := by
      cases e : M i
      · exact absurd ((h.none_ i).2 e) hs
      · exact ⟨_, rfl⟩
    obtain ⟨hmb, hown⟩ := h.own i m hM
    have c0 := h.c0 hi
    have c1 := h.c1 hi
    rw [hM] at c1
    have hq := eqlSome m
    have n2 : decide (n < 0) = false := by simp; omega
    by_cases hold : n ≤ L i - 64
    · have hN : isN (L i) (S i) n = false := by
        unfold isN
        simp [hs]
        omega
      obtain ⟨e1, e2⟩ := isN_false hN
      have HN := Lib.hid hN
      rw [e1, e2, upd_self, upd_self]
      clear hN e1 e2 hM hs
      go_enter Tryz.func159, Tryz.ntmps159
      go_wp2_with fail
      refine (node_yes _ _ hi).mono ?_
      rintro r w' ⟨rfl, rfl⟩
      go_wp2_with fail
      go_ret
      exact ⟨by rw [HN.out]; rfl, ⟨M, D, h.mono (by omega)⟩, Near.refl _ _ _⟩
    · obtain ⟨c, hrun, hat, _⟩ := hown.lookup_int law Tryz.underlying98 Tryz.underlying3 (zeroI _) (key := .int .i64 n) (keyOf_int_mk Tryz.underlying3 (wf_of hn hm))
      have hat : (D i).atKey (key n) n0 = .lit (.int .i64 c) := hat
      have hc : c = 1 ↔ has (L i) (S i) n := by
        rw [← h.tell i n hs hn hm (by omega), hat, lit_one]
      have hold2 : decide (n ≤ L i - 64) = false := by simp; omega
      by_cases h1 : c = 1
      · have hN : isN (L i) (S i) n = false := by
          have := hc.1 h1
          exact kn_iff.2 ⟨hs, (has_le this).1, fun _ => this⟩
        obtain ⟨e1, e2⟩ := isN_false hN
        have HN := Lib.hid hN
        rw [e1, e2, upd_self, upd_self]
        subst h1
        clear hN e1 e2 hM hs hc hat hold
        go_enter Tryz.func159, Tryz.ntmps159
        go_wp2_with fail
        refine (node_yes _ _ hi).mono ?_
        rintro r w' ⟨rfl, rfl⟩
        go_wp2_with fail
        go_ret
        exact ⟨by rw [HN.out]; rfl, ⟨M, D, h.mono (by omega)⟩, Near.refl _ _ _⟩
      · have hN : isN (L i) (S i) n = true := by
          rw [isN_iff]
          exact .inr (.inr ⟨by omega, fun e => h1 (hc.2 e)⟩)
        have HN := Lib.hid hN
        have hmax : nL (L i) (S i) n = max (L i) n := by unfold nL; rw [Int.max_def]; split <;> split <;> omega
        have HM := Lib.hid hmax
        have HMi := Lib.hid hM
        have h12 : (c == 1) = false := by simpa using h1
        have HS := Lib.hid hs
        clear hN hM hmax hs hc hat hold h1
        go_enter Tryz.func159, Tryz.ntmps159
        go_wp2_with fail
        refine (node_yes _ _ hi).mono ?_
        rintro r w' ⟨rfl, rfl⟩
        have wf1 := wf_of hn hm
        have hk2 : k < maxLen := by unfold maxLen; omega
        have K2 := Lib.hid hk2
        have WF := Lib.hid wf1
        clear hk2 wf1
        go_wp2_with (at_mapUpdate; refine wpList_mapUpdate_own _ rfl _ _ _ 98 rfl 3 3 law Tryz.underlying98 _ m k _ rfl hown K2.out _ _ _ rfl rfl (keyOf_int_mk Tryz.underlying3 WF.out) n1 [] (plainElem_int Tryz.underlying3 (by decide)) ?_)
        intro w1 hown1 hg1
        have hbl := h.blk.lt
        have hlow := h.low
        have htop := h.top
        have hkb : w1.heap[b]? = w.heap[b]? := hg1.block b hbl (fun e => by injection e with e; omega)
        have B1 : Blk w1 b 103 32 (rv L M) := hkb.trans h.blk
        have d0 : w1.cell? ⟨b, i * 2, none⟩ = some (.int .i64 (L i)) := by rw [World.cell?_of_block hkb]; exact c0
        have g0 : w1.frozen? ⟨b, i * 2, none⟩ = false := Blk.free B1 _
        have HNr := Lib.hid ((near_grown (b := b) hg1 HMi.out).put (i * 2) (.int .i64 (max (L i) n)))
        have HB := Lib.hid (Blk.ext (Blk.put B1 (i * 2) (.int .i64 (max (L i) n))) (fun j _ => rv_one L M i (max (L i) n) j))
        have HO := Lib.hid (ownM_same (w' := w1.setCell ⟨b, i * 2, none⟩ (.int .i64 (max (L i) n))) hown1 (Below.heap_setCell _ _ _ _ (by simp; omega)))
        have HK : Hid (∀ q, q ≠ m → base ≤ q → q < w.heap.size → (w1.setCell ⟨b, i * 2, none⟩ (.int .i64 (max (L i) n))).heap[q]? = w.heap[q]?) := Lib.hid (fun q hq hq2 hq3 => (Below.heap_setCell _ _ _ _ (by simp; omega)).trans (hg1.block q hq3 (fun e => by injection e with e; omega)))
        have hs1 := hg1.size
        clear hrun c0 c1 hown1 hkb
        go_wp2_with fail
        go_ret
        refine ⟨by rw [HN.out]; rfl, ⟨M, upd D i ((D i).put (key n) n1), ?_⟩, HNr.out⟩
        have hN := HN.out
        rw [HM.out]
        refine ⟨HB.out, h.low, by simp [World.setCell]; omega, fun j => ?_, fun j q e => ?_, fun j => ?_, fun j x hj h0 h1 h2 => ?_, h.apart⟩
        · by_cases hj : j = i
          · subst hj
            rw [upd_same, HMi.out]
            simp [nS_ne]
          · rw [upd_other _ _ hj]
            exact h.none_ j
        · by_cases hj : j = i
          · subst hj
            rw [HMi.out] at e
            injection e with e
            subst e
            rw [upd_same]
            exact ⟨hmb, HO.out⟩
          · rw [upd_other _ _ hj]
            obtain ⟨a1, a2⟩ := h.own j q e
            exact ⟨a1, (ownM_same a2 (HK.out q (fun e2 => by subst e2; exact hj (h.apart j i q e HMi.out)) a1 (World.ownsMap.lt a2))).mono (by omega)⟩
        · by_cases hj : j = i
          · subst hj
            rw [upd_same]
            exact (h.is j).put _ _
          · rw [upd_other _ _ hj]
            exact h.is j
        · by_cases hj2 : j = i
          · subst hj2
            rw [upd_same] at h2
            rw [upd_same, upd_same, upd_same, ← HM.out, has_new hN, HM.out]
            have hml : L j ≤ max (L j) n := by rw [Int.max_def]; split <;> omega
            by_cases hx : x = n
            · subst hx
              rw [atKey_put_same (h.is j) (isKey x)]
              simp
            · rw [atKey_put_other (by unfold key; intro e; injection e with _ e; exact hx e), h.tell j x HS.out h0 h1 (by omega)]
              constructor
              · intro e
                exact .inr ⟨e, by omega⟩
              · rintro (e | ⟨e, _⟩)
                · exact absurd e hx
                · exact e
          · rw [upd_other _ _ hj2] at hj h2
            rw [upd_other _ _ hj2, upd_other _ _ hj2, upd_other _ _ hj2]
            exact h.tell j x hj h0 h1 h2
end Go.Proofs.YtiflmdekcjbmbaaGreat.Dp
set_option maxRecDepth 100000
namespace Go.Proofs.YtiflmdekcjbmbaaGreat.Dp
set_option linter.unusedVariables false
set_option linter.unusedSimpArgs false
open Go.RowKit Lb Go.Maps

def inB (x n : Int) : Bool := decide (0 ≤ x ∧ x < 16 ∧ 0 ≤ n)
def ansN (L : Nat → Int) (S : Nat → Nat) (x n : Int) : Bool := inB x n && isN (L x.toNat) (S x.toNat) n
def stepL (L : Nat → Int) (S : Nat → Nat) (x n : Int) : Nat → Int := if inB x n = true then upd L x.toNat (nL (L x.toNat) (S x.toNat) n) else L
def stepS (L : Nat → Int) (S : Nat → Nat) (x n : Int) : Nat → Nat := if inB x n = true then upd S x.toNat (nS (L x.toNat) (S x.toNat) n) else S
def forgL (L : Nat → Int) (x : Int) : Nat → Int := if nodeB x = true then upd L x.toNat 0 else L
def forgS (S : Nat → Nat) (x : Int) : Nat → Nat := if nodeB x = true then upd S x.toNat 0 else S
def lastA (L : Nat → Int) (S : Nat → Nat) (x : Int) : Int := if nodeB x = true then (if S x.toNat = 0 then 0 else L x.toNat) else 0
def lastB (S : Nat → Nat) (x : Int) : Bool := nodeB x && !decide (S x.toNat = 0)
def AllG (L : Nat → Int) (S : Nat → Nat) : Prop := ∀ i, DGood (L i) (S i)
theorem allG_step {L : Nat → Int} {S : Nat → Nat} (h : AllG L S) {x n : Int} (hn : n < 9223372036854775808) : AllG (stepL L S x n) (stepS L S x n) := by
  unfold stepL stepS
  by_cases hb : inB x n = true
  · rw [if_pos hb, if_pos hb]
    unfold inB at hb
    rw [decide_eq_true_eq] at hb
    exact fun i => good_upd h x.toNat n hb.2.2 hn i
  · rw [if_neg hb, if_neg hb]
    exact h
theorem allG_forg {L : Nat → Int} {S : Nat → Nat} (h : AllG L S) (x : Int) : AllG (forgL L x) (forgS S x) := by
  unfold forgL forgS
  by_cases hb : nodeB x = true
  · rw [if_pos hb, if_pos hb]
    intro i
    by_cases hi : i = x.toNat
    · subst hi
      rw [upd_same, upd_same]
      exact good_zero 0
    · rw [upd_other _ _ hi, upd_other _ _ hi]
      exact h i
  · rw [if_neg hb, if_neg hb]
    exact h
theorem wnew_any (b : Nat) (L : Nat → Int) (S : Nat → Nat) (x n : Int) (w : World) (h : Win w b L S) (hm : n < 9223372036854775808) (hg : AllG L S) :
    Calls Tryz.prog 150 #[.pointer (some ⟨b, 0, none⟩), .int .i64 x, .int .i64 n] w fun r w' => r = .returned (.bool (ansN L S x n)) ∧ Win w' b (stepL L S x n) (stepS L S x n) ∧ Just b w w' := by
  by_cases hi : 0 ≤ x ∧ x < 16 ∧ 0 ≤ n
  · have hb : inB x n = true := by unfold inB; exact decide_eq_true hi
    unfold ansN stepL stepS
    rw [hb, if_pos rfl, if_pos rfl, Bool.true_and]
    obtain ⟨i, rfl⟩ := Int.eq_ofNat_of_zero_le hi.1
    rw [Int.toNat_natCast]
    exact new_in b i L S n w h (by omega) hi.2.2 hm (hg i)
  · have hb : inB x n = false := by unfold inB; exact decide_eq_false hi
    unfold ansN stepL stepS
    rw [hb, if_neg (by decide), if_neg (by decide)]
    refine (new_out b L S x n w h hi).mono ?_
    rintro r w' ⟨rfl, rfl⟩
    exact ⟨rfl, h, Just.refl _ _⟩
theorem rnew_any (base b k : Nat) (L : Nat → Int) (S : Nat → Nat) (M : Nat → Option Nat) (D : Nat → Dt) (x n : Int) (w : World) (h : Rf w base b L S k M D) (hm : n < 9223372036854775808) (hg : AllG L S) (hk : k < 1000) :
    Calls Tryz.prog 159 #[.pointer (some ⟨b, 0, none⟩), .int .i64 x, .int .i64 n] w fun r w' => r = .returned (.bool (ansN L S x n)) ∧ (∃ M' D', Rf w' base b (stepL L S x n) (stepS L S x n) (k + 1) M' D') ∧ Near b M w w' := by
  by_cases hi : 0 ≤ x ∧ x < 16 ∧ 0 ≤ n
  · have hb : inB x n = true := by unfold inB; exact decide_eq_true hi
    unfold ansN stepL stepS
    rw [hb, if_pos rfl, if_pos rfl, Bool.true_and]
    obtain ⟨i, rfl⟩ := Int.eq_ofNat_of_zero_le hi.1
    rw [Int.toNat_natCast]
    exact rnew_in base b i k L S M D n w h (by omega) hi.2.2 hm (hg i) hk
  · have hb : inB x n = false := by unfold inB; exact decide_eq_false hi
    unfold ansN stepL stepS
    rw [hb, if_neg (by decide), if_neg (by decide)]
    refine (rnew_out b x n w hi).mono ?_
    rintro r w' ⟨rfl, rfl⟩
    exact ⟨rfl, ⟨M, D, h.mono (by omega)⟩, Near.refl _ _ _⟩
theorem rf_zero (w : World) (b base : Nat) (cs : Array Value) (ho : Own w b 103 cs) (hc : cs = (List.replicate 16 [Value.int .i64 0, Value.map none]).flatten.toArray) (hb : b < base) (ht : base ≤ w.heap.size) : Rf w base b (fun _ => 0) (fun _ => 0) 0 (fun _ => none) (fun _ => .map []) where
  blk := Blk.of ho (by rw [hc]; rfl) (fun i hi => by
    rw [hc]
    rcases (show i = 0 ∨ i = 1 ∨ i = 2 ∨ i = 3 ∨ i = 4 ∨ i = 5 ∨ i = 6 ∨ i = 7 ∨ i = 8 ∨ i = 9 ∨ i = 10 ∨ i = 11 ∨ i = 12 ∨ i = 13 ∨ i = 14 ∨ i = 15 ∨ i = 16 ∨ i = 17 ∨ i = 18 ∨ i = 19 ∨ i = 20 ∨ i = 21 ∨ i = 22 ∨ i = 23 ∨ i = 24 ∨ i = 25 ∨ i = 26 ∨ i = 27 ∨ i = 28 ∨ i = 29 ∨ i = 30 ∨ i = 31 by omega) with rfl | rfl | rfl | rfl | rfl | rfl | rfl | rfl | rfl | rfl | rfl | rfl | rfl | rfl | rfl | rfl | rfl | rfl | rfl | rfl | rfl | rfl | rfl | rfl | rfl | rfl | rfl | rfl | rfl | rfl | rfl | rfl <;> rfl)
  low := hb
  top := ht
  none_ _ := by simp
  own _ _ e := by cases e
  is _ := isMap_empty
  tell _ _ e := absurd rfl e
  apart _ _ _ e := by cases e
end Go.Proofs.YtiflmdekcjbmbaaGreat.Dp
namespace Go.Proofs.YtiflmdekcjbmbaaGreat.Hp
set_option linter.unusedVariables false
set_option linter.unusedSimpArgs false

/-- Is x none of the first k? -/
def fresh (Z : Nat → Int) (x : Int) : Nat → Bool
  | 0 => true
  | k + 1 => fresh Z x k && decide (Z k ≠ x)
/-- May the first k be? -/
def okTo (Z : Nat → Int) : Nat → Bool
  | 0 => true
  | k + 1 => okTo Z k && (decide (0 ≤ Z k) && decide (Z k < 32) && fresh Z (Z k) k)
def mayB (Z : Nat → Int) (n : Nat) : Bool := decide (1 ≤ n) && decide (n ≤ 16) && okTo Z n

theorem fresh_iff {Z : Nat → Int} {x : Int} : ∀ {k : Nat}, fresh Z x k = true ↔ ∀ j, j < k → Z j ≠ x
  | 0 => by simp [fresh]
  | k + 1 => by
    simp only [fresh, Bool.and_eq_true, decide_eq_true_eq, fresh_iff (k := k)]
    constructor
    · rintro ⟨h1, h2⟩ j hj
      by_cases h : j = k
      · subst h; exact h2
      · exact h1 j (by omega)
    · intro h
      exact ⟨fun j hj => h j (by omega), h k (by omega)⟩
theorem okTo_iff {Z : Nat → Int} : ∀ {k : Nat}, okTo Z k = true ↔ ∀ i, i < k → 0 ≤ Z i ∧ Z i < 32 ∧ ∀ j, j < i → Z j ≠ Z i
  | 0 => by simp [okTo]
  | k + 1 => by
    simp only [okTo, Bool.and_eq_true, decide_eq_true_eq, okTo_iff (k := k), fresh_iff]
    constructor
    · rintro ⟨h1, ⟨h2, h3⟩, h4⟩ i hi
      by_cases h : i = k
      · subst h; exact ⟨h2, h3, h4⟩
      · exact h1 i (by omega)
    · intro h
      obtain ⟨h1, h2, h3⟩ := h k (by omega)
      exact ⟨fun i hi => h i (by omega), ⟨h1, h2⟩, h3⟩
theorem okTo_mono {Z : Nat → Int} {k n : Nat} (h : okTo Z n = true) (hk : k ≤ n) : okTo Z k = true := by
  rw [okTo_iff] at h ⊢
  exact fun i hi => h i (by omega)
theorem mayB_iff {Z : Nat → Int} {n : Nat} : mayB Z n = true ↔ 1 ≤ n ∧ n ≤ 16 ∧ okTo Z n = true := by
  unfold mayB
  simp only [Bool.and_eq_true, decide_eq_true_eq]
  exact ⟨fun ⟨⟨a, b⟩, c⟩ => ⟨a, b, c⟩, fun ⟨a, b, c⟩ => ⟨⟨a, b⟩, c⟩⟩
/-- A row of bits has just the first k's. -/
def Seen (s : Nat) (Z : Nat → Int) (k : Nat) : Prop := s < 4294967296 ∧ ∀ d, d < 32 → (s.testBit d = true ↔ ∃ j, j < k ∧ Z j = (d : Int))
theorem seen_zero (Z : Nat → Int) : Seen 0 Z 0 := ⟨by decide, fun d _ => by simp⟩
theorem seen_fresh {s : Nat} {Z : Nat → Int} {k : Nat} (h : Seen s Z k) {x : Int} (h0 : 0 ≤ x) (h1 : x < 32) : fresh Z x k = !s.testBit x.toNat := by
  have := h.2 x.toNat (by omega)
  rw [Bool.eq_iff_iff, fresh_iff]
  simp only [Bool.not_eq_true', ← Bool.not_eq_true, this]
  constructor
  · rintro h2 ⟨j, hj, e⟩
    exact h2 j hj (by omega)
  · intro h2 j hj e
    exact h2 ⟨j, hj, by omega⟩
theorem seen_next {s : Nat} {Z : Nat → Int} {k : Nat} (h : Seen s Z k) (h0 : 0 ≤ Z k) (h1 : Z k < 32) : Seen (s ||| 1 <<< (Z k).toNat) Z (k + 1) := by
  refine ⟨Nat.or_lt_two_pow (n := 32) h.1 (by rw [Nat.one_shiftLeft]; exact Nat.pow_lt_pow_right (by decide) (by omega)), fun d hd => ?_⟩
  rw [Nat.testBit_or, Nat.one_shiftLeft, Nat.testBit_two_pow, Bool.or_eq_true, h.2 d hd, decide_eq_true_eq]
  constructor
  · rintro (⟨j, hj, e⟩ | e)
    · exact ⟨j, by omega, e⟩
    · exact ⟨k, by omega, by omega⟩
  · rintro ⟨j, hj, e⟩
    by_cases h2 : j = k
    · subst h2; right; omega
    · exact .inl ⟨j, by omega, e⟩

/-- Is channel c black? -/
def blk (b : Nat) (c : Int) : Bool := b.testBit c.toNat
/-- Those of the first k that are not black. -/
def flt (Z : Nat → Int) (b : Nat) : Nat → List Int
  | 0 => []
  | k + 1 => flt Z b k ++ if blk b (Z k) = true then [] else [Z k]
def opn (Z : Nat → Int) (b n : Nat) : List Int := if flt Z b n = [] then (List.range n).map Z else flt Z b n
theorem flt_len (Z : Nat → Int) (b : Nat) : ∀ k, (flt Z b k).length ≤ k
  | 0 => by simp [flt]
  | k + 1 => by
    have := flt_len Z b k
    simp only [flt, List.length_append]
    split <;> simp <;> omega
theorem flt_black {Z : Nat → Int} {b k : Nat} (h : blk b (Z k) = true) : flt Z b (k + 1) = flt Z b k := by simp [flt, h]
theorem flt_open {Z : Nat → Int} {b k : Nat} (h : blk b (Z k) = false) : flt Z b (k + 1) = flt Z b k ++ [Z k] := by simp [flt, h]
theorem mem_flt {Z : Nat → Int} {b : Nat} {x : Int} : ∀ {k : Nat}, x ∈ flt Z b k ↔ ∃ j, j < k ∧ Z j = x ∧ blk b x = false
  | 0 => by simp [flt]
  | k + 1 => by
    simp only [flt, List.mem_append, mem_flt (k := k)]
    constructor
    · rintro (⟨j, h1, h2, h3⟩ | h)
      · exact ⟨j, by omega, h2, h3⟩
      · split at h
        · simp at h
        · rename_i hb
          simp at h
          subst h
          exact ⟨k, by omega, rfl, by simpa using hb⟩
    · rintro ⟨j, h1, h2, h3⟩
      by_cases h : j = k
      · subst h
        right
        rw [h2, h3]
        simp
      · exact .inl ⟨j, by omega, h2, h3⟩
theorem opn_len {Z : Nat → Int} {b n : Nat} (h : 1 ≤ n) : 1 ≤ (opn Z b n).length ∧ (opn Z b n).length ≤ n := by
  unfold opn
  split
  · simp; omega
  · rename_i h2
    have := flt_len Z b n
    have : 0 < (flt Z b n).length := List.length_pos_iff.2 h2
    omega
theorem mem_opn {Z : Nat → Int} {b n : Nat} {x : Int} (h : x ∈ opn Z b n) : ∃ j, j < n ∧ Z j = x := by
  unfold opn at h
  split at h
  · simp at h
    obtain ⟨j, h1, h2⟩ := h
    exact ⟨j, h1, h2⟩
  · obtain ⟨j, h1, h2, _⟩ := mem_flt.1 h
    exact ⟨j, h1, h2⟩
/-- The channel, of a row that may be. -/
def chan (Z : Nat → Int) (b n : Nat) (asn off : Int) : Int := (opn Z b n).getD ((asn + off) % ((opn Z b n).length : Int)).toNat 0
/-- The channel, if there is one. -/
def chanB (Z : Nat → Int) (b n : Nat) (asn off : Int) : Int := if mayB Z n = true ∧ 0 ≤ asn ∧ asn < 1099511627776 ∧ 0 ≤ off ∧ off < 256 then chan Z b n asn off else -1

/-! ### Where each open one stands -/
theorem flt_split (Z : Nat → Int) (b k : Nat) : ∀ m, flt Z b (k + m) = flt Z b k ++ flt (fun i => Z (k + i)) b m
  | 0 => by simp [flt]
  | m + 1 => by
    rw [← Nat.add_assoc]
    simp only [flt, flt_split Z b k m, List.append_assoc]
def el (Z : Nat → Int) (b n k : Nat) : Bool := decide (flt Z b n = []) || !blk b (Z k)
def pre (Z : Nat → Int) (b n k : Nat) : Nat := if flt Z b n = [] then k else (flt Z b k).length
theorem pre_zero (Z : Nat → Int) (b n : Nat) : pre Z b n 0 = 0 := by unfold pre; split <;> simp [flt]
theorem pre_all (Z : Nat → Int) (b n : Nat) : pre Z b n n = (opn Z b n).length := by
  unfold pre opn
  split
  · simp
  · rfl
theorem pre_le (Z : Nat → Int) (b n k : Nat) : pre Z b n k ≤ k := by
  unfold pre
  split
  · exact Nat.le_refl _
  · exact flt_len Z b k
theorem pre_in {Z : Nat → Int} {b n k : Nat} (h : el Z b n k = true) : pre Z b n (k + 1) = pre Z b n k + 1 := by
  unfold pre
  split
  · rfl
  · rename_i h2
    unfold el at h
    simp [h2] at h
    rw [flt_open h]
    simp
theorem pre_out {Z : Nat → Int} {b n k : Nat} (h : el Z b n k = false) : pre Z b n (k + 1) = pre Z b n k := by
  unfold el at h
  simp at h
  unfold pre
  rw [if_neg h.1, if_neg h.1, flt_black h.2]
theorem opn_in {Z : Nat → Int} {b n k : Nat} (hk : k < n) (h : el Z b n k = true) : (opn Z b n)[pre Z b n k]? = some (Z k) := by
  unfold opn pre
  split
  · simp [hk]
  · rename_i h2
    unfold el at h
    simp [h2] at h
    obtain ⟨m, rfl⟩ : ∃ m, n = k + (1 + m) := ⟨n - k - 1, by omega⟩
    rw [flt_split, List.getElem?_append_right (Nat.le_refl _), Nat.sub_self, flt_split]
    simp [flt, h]
theorem opn_out {Z : Nat → Int} {b n k : Nat} (h : el Z b n k = false) : (opn Z b n)[pre Z b n k]? ≠ some (Z k) := by
  unfold el at h
  simp at h
  unfold opn
  rw [if_neg h.1]
  intro e
  obtain ⟨j, _, _, hb⟩ := mem_flt.1 (List.mem_of_getElem? e)
  rw [h.2] at hb
  cases hb
theorem opn_none {Z : Nat → Int} {n : Nat} : opn Z 0 n = (List.range n).map Z := by
  unfold opn
  split
  · rfl
  · have : ∀ k, flt Z 0 k = (List.range k).map Z := by
      intro k
      induction k with
      | zero => rfl
      | succ k ih => simp [flt, ih, blk, List.range_succ]
    exact this n
theorem opn_black {Z : Nat → Int} {n : Nat} (h : okTo Z n = true) : opn Z 4294967295 n = (List.range n).map Z := by
  have : ∀ k, k ≤ n → flt Z 4294967295 k = [] := by
    intro k
    induction k with
    | zero => intro _; rfl
    | succ k ih =>
      intro hk
      obtain ⟨h0, h1, _⟩ := okTo_iff.1 h k hk
      have hb : blk 4294967295 (Z k) = true := by
        unfold blk
        rw [show 4294967295 = 2 ^ 32 - 1 from rfl, Nat.testBit_two_pow_sub_one]
        simp
        omega
      rw [flt_black hb]
      exact ih (by omega)
  unfold opn
  rw [if_pos (this n (Nat.le_refl _))]

/-! ### Each stands once -/
theorem flt_nodup {Z : Nat → Int} {b : Nat} : ∀ {k : Nat}, okTo Z k = true → (flt Z b k).Nodup
  | 0, _ => by simp [flt]
  | k + 1, h => by
    have ih := flt_nodup (b := b) (okTo_mono h (Nat.le_succ k))
    simp only [flt]
    split
    · simpa using ih
    · rw [List.nodup_append]
      refine ⟨ih, by simp, ?_⟩
      intro x hx y hy
      simp at hy
      subst hy
      obtain ⟨j, hj, e, _⟩ := mem_flt.1 hx
      have := (okTo_iff.1 h k (by omega)).2.2 j hj
      omega
theorem map_nodup {Z : Nat → Int} : ∀ {k : Nat}, okTo Z k = true → ((List.range k).map Z).Nodup
  | 0, _ => by simp
  | k + 1, h => by
    have ih := map_nodup (okTo_mono h (Nat.le_succ k))
    rw [List.range_succ, List.map_append, List.nodup_append]
    refine ⟨ih, by simp, ?_⟩
    intro x hx y hy
    simp at hx hy
    subst hy
    obtain ⟨j, hj, e⟩ := hx
    have := (okTo_iff.1 h k (by omega)).2.2 j hj
    omega
theorem opn_nodup {Z : Nat → Int} {b n : Nat} (h : okTo Z n = true) : (opn Z b n).Nodup := by
  unfold opn
  split
  · exact map_nodup h
  · exact flt_nodup h
theorem opn_bd {Z : Nat → Int} {b n q : Nat} (h : okTo Z n = true) (hq : q < (opn Z b n).length) : 0 ≤ (opn Z b n).getD q 0 ∧ (opn Z b n).getD q 0 < 32 := by
  have e : (opn Z b n).getD q 0 = (opn Z b n)[q] := by rw [List.getD_eq_getElem?_getD, List.getElem?_eq_getElem hq]; rfl
  obtain ⟨j, hj, e2⟩ := mem_opn (List.getElem_mem hq)
  rw [e, ← e2]
  obtain ⟨h0, h1, _⟩ := okTo_iff.1 h j hj
  exact ⟨h0, h1⟩
theorem opn_inj {Z : Nat → Int} {b n p q : Nat} (h : okTo Z n = true) (hp : p < (opn Z b n).length) (hq : q < (opn Z b n).length) (e : (opn Z b n).getD p 0 = (opn Z b n).getD q 0) : p = q := by
  have e1 : ∀ r (hr : r < (opn Z b n).length), (opn Z b n).getD r 0 = (opn Z b n)[r] := fun r hr => by rw [List.getD_eq_getElem?_getD, List.getElem?_eq_getElem hr]; rfl
  rw [e1 p hp, e1 q hq] at e
  have hd := List.pairwise_iff_getElem.1 (opn_nodup (b := b) h)
  rcases Nat.lt_trichotomy p q with h1 | h1 | h1
  · exact absurd e (hd p q hp hq h1)
  · exact h1
  · exact absurd e.symm (hd q p hq hp h1)
theorem opn_white {Z : Nat → Int} {b n q : Nat} (hl : (opn Z b n).length < n) (hq : q < (opn Z b n).length) : blk b ((opn Z b n).getD q 0) = false := by
  have e : (opn Z b n).getD q 0 = (opn Z b n)[q] := by rw [List.getD_eq_getElem?_getD, List.getElem?_eq_getElem hq]; rfl
  rw [e]
  have hm := List.getElem_mem hq
  revert hm
  generalize (opn Z b n)[q] = x
  intro hm
  unfold opn at hm hl
  split at hm
  · rename_i h
    rw [if_pos h] at hl
    simp at hl
  · obtain ⟨_, _, _, hb⟩ := mem_flt.1 hm
    exact hb
end Go.Proofs.YtiflmdekcjbmbaaGreat.Hp
set_option maxRecDepth 100000
namespace Go.Proofs.YtiflmdekcjbmbaaGreat.Hp
set_option linter.unusedVariables false
set_option linter.unusedSimpArgs false
open Go.RowKit Lb

theorem infoI : (Tryz.prog.info? 3).map (fun i => (i.zero, i.size, i.bytes)) = some (some (.int .i64 0), 1, 8) := by kernel_rfl

theorem shr32 {s : Nat} (hs : s < 4294967296) (x : Int) : bits .and .u32 ((s : Int) / 2 ^ x.toNat) 1 = if s.testBit x.toNat then 1 else 0 := by
  have q1 : s >>> x.toNat < 4294967296 := Nat.lt_of_le_of_lt (by rw [Nat.shiftRight_eq_div_pow]; exact Nat.div_le_self _ _) hs
  have := u32_and_nat _ 1 q1 (by decide)
  rw [shr_and_one, Nat.shiftRight_eq_div_pow] at this
  split <;> simp_all
theorem shl32 {s : Nat} (hs : s < 4294967296) {x : Int} (h0 : 0 ≤ x) (h1 : x < 32) : bits .or .u32 (s : Int) (2 ^ x.toNat % 4294967296) = ((s ||| 1 <<< x.toNat : Nat) : Int) := by
  have q3 : (1 : Nat) <<< x.toNat < 4294967296 := by
    rw [Nat.one_shiftLeft]
    exact Nat.lt_of_lt_of_le (Nat.pow_lt_pow_right (by decide) (show x.toNat < 32 by omega)) (by decide)
  rw [← u32_or_nat _ _ hs q3]
  congr 1
  rw [Nat.one_shiftLeft] at q3 ⊢
  have e : ((2 ^ x.toNat : Nat) : Int) = 2 ^ x.toNat := Int.natCast_pow 2 x.toNat
  rw [← e]
  exact Int.emod_eq_of_lt (Int.natCast_nonneg _) (Int.ofNat_lt.2 q3)

set_option maxHeartbeats 1000000 in
theorem may_any (a : Option Addr) (n c : Nat) (Z : Nat → Int) (w : World) (hn : n ≤ c) (hm : c ≤ maxLen) (hZ : Row w a n (fun i => .int .i64 (Z i))) :
    Calls Tryz.prog 50 #[.slice a n c] w fun r w' => r = .returned (.bool (mayB Z n)) ∧ w = w' := by
  unfold maxLen at hm
  by_cases h1 : 1 ≤ n ∧ n ≤ 16
  · obtain ⟨n0, n1⟩ := h1
    have HM : Hid (mayB Z n = okTo Z n) := Lib.hid (by unfold mayB; simp [n0, n1])
    have i0 : (1 : Int) ≤ (n : Int) := by omega
    have i1 : (n : Int) ≤ 16 := by omega
    go_enter Tryz.func50, Tryz.ntmps50
    go_wp2_with fail
    go_loop [3, 16] (fun u i => ∃ (k s : Nat), u = .int .u32 s ∧ i = .int .i64 k ∧ k ≤ n ∧ Seen s Z k ∧ Hid (okTo Z k = true)) (fun _ i => n - (intOf i).toNat)
    case atStart => exact ⟨0, 0, rfl, rfl, by omega, seen_zero Z, Lib.hid rfl⟩
    case round =>
      obtain ⟨k, s, rfl, rfl, hk, hs, HO⟩ := hrel
      by_cases hlt : k < n
      · obtain ⟨b, o, rfl, hb, hc⟩ := hZ.at_ hlt
        have HS := Lib.hid hs
        have hs2 := hs.1
        clear hs hZ
        by_cases hz : 0 ≤ Z k ∧ Z k < 32
        · obtain ⟨z0, z1⟩ := hz
          have hz2 : decide (32 ≤ Z k) = false := by simp; omega
          have e1 := shr32 hs2 (Z k)
          cases hb2 : s.testBit (Z k).toNat
          · rw [hb2] at e1
            have e2 := shl32 hs2 z0 z1
            have HN : Hid (okTo Z (k + 1) = true) := Lib.hid (by
              simp only [okTo, HO.out, seen_fresh HS.out z0 z1, hb2, Bool.and_eq_true, decide_eq_true_eq]
              simp [z0, z1])
            have HS2 : Hid (Seen (s ||| 1 <<< (Z k).toNat) Z (k + 1)) := Lib.hid (seen_next HS.out z0 z1)
            clear hb2
            simp only [Bool.false_eq_true, if_false] at e1
            go_wp2_with fail
            exact ⟨⟨k + 1, s ||| 1 <<< (Z k).toNat, rfl, by go_num, by omega, HS2.out, HN⟩, by simp [intOf]; omega⟩
          · rw [hb2] at e1
            have HN : Hid (mayB Z n = false) := Lib.hid (by
              rw [HM.out, ← Bool.not_eq_true]
              intro h
              have := (okTo_iff.1 h k hlt)
              have h3 := fresh_iff.2 this.2.2
              rw [seen_fresh HS.out z0 z1, hb2] at h3
              cases h3)
            clear hb2
            simp only [if_true] at e1
            go_wp2_with fail
            go_ret
            exact ⟨by rw [HN.out]; rfl, rfl⟩
        · have HN : Hid (mayB Z n = false) := Lib.hid (by
            rw [HM.out, ← Bool.not_eq_true]
            intro h
            have := (okTo_iff.1 h k hlt)
            exact hz ⟨this.1, this.2.1⟩)
          by_cases hz0 : 0 ≤ Z k
          · have hz2 : 32 ≤ Z k := by omega
            clear hz
            go_wp2_with fail
            go_ret
            exact ⟨by rw [HN.out]; rfl, rfl⟩
          · have hz0 : Z k < 0 := by omega
            clear hz
            go_wp2_with fail
            go_ret
            exact ⟨by rw [HN.out]; rfl, rfl⟩
      · obtain rfl : k = n := by omega
        have HN : Hid (mayB Z k = true) := Lib.hid (by rw [HM.out]; exact HO.out)
        clear hlt hs
        go_wp2_with fail
        go_ret
        exact ⟨by rw [HN.out]; rfl, rfl⟩
  · have HN : Hid (mayB Z n = false) := Lib.hid (by unfold mayB; simp; omega)
    by_cases h0 : n < 1
    · obtain rfl : n = 0 := by omega
      clear h1 h0
      go_enter Tryz.func50, Tryz.ntmps50
      go_wp2_with fail
      go_ret
      exact ⟨by rw [HN.out]; rfl, rfl⟩
    · have i0 : decide ((n : Int) < 1) = false := by simp; omega
      have i1 : 16 < (n : Int) := by omega
      clear h1 h0
      go_enter Tryz.func50, Tryz.ntmps50
      go_wp2_with fail
      go_ret
      exact ⟨by rw [HN.out]; rfl, rfl⟩

/-- The cells of a list of numbers. -/
def lc (l : List Int) (q : Nat) : Value := .int .i64 (l.getD q 0)
theorem lc_snoc (l : List Int) (x : Int) (q : Nat) (hq : q < l.length + 1) : (if q < l.length then lc l q else .int .i64 x) = lc (l ++ [x]) q := by
  unfold lc
  by_cases h : q < l.length
  · rw [if_pos h, List.getD_eq_getElem?_getD, List.getD_eq_getElem?_getD, List.getElem?_append_left h]
  · obtain rfl : q = l.length := by omega
    rw [if_neg h, List.getD_eq_getElem?_getD, List.getElem?_append_right (by omega)]
    simp
theorem lc_map (Z : Nat → Int) (n q : Nat) (hq : q < n) : lc ((List.range n).map Z) q = .int .i64 (Z q) := by
  unfold lc
  rw [List.getD_eq_getElem?_getD]
  simp [hq]

set_option maxHeartbeats 2000000 in
theorem open_yes (a : Option Addr) (n c : Nat) (Z : Nat → Int) (bl : Nat) (w : World) (hn : n ≤ c) (hm : c ≤ maxLen) (hZ : Row w a n (fun i => .int .i64 (Z i))) (hbl : bl < 4294967296) (hM : mayB Z n = true) :
    Calls Tryz.prog 127 #[.slice a n c, .int .u32 bl] w fun r w' => ∃ v, r = .returned v ∧ Mine w' w.heap.size 3 v (opn Z bl n).length (lc (opn Z bl n)) ∧ Below w.heap.size w w' := by
  obtain ⟨i0, hi0, hz0, hz1, hz2⟩ := info_parts infoI
  obtain ⟨n0, n1, hO⟩ := mayB_iff.1 hM
  have HO := Lib.hid hO
  have HM := Lib.hid hM
  have hML : 100 ≤ maxLen := by unfold maxLen; omega
  have HML := Lib.hid hML
  clear hO hM hML
  have hmk : ∀ w : World, (Instr.makeSlice 23 (.int .i64 0) (.int .i64 (n : Int))).run Tryz.prog w = .ok (.slice (some ⟨w.heap.size, 0, none⟩) 0 n) (w.alloc (.cells (madeCells #[.int .i64 0] n) 3)) := by
    intro w
    have := run_make w 23 3 i0 (.int .i64 0) Tryz.underlying23 hi0 hz0 .i64 .i64 0 (n : Int) (by omega) (by omega) (by rw [hz2]; omega) (by omega)
    rw [this, hz1]
    simp [Value.cells]
  have hcs : (madeCells #[Value.int .i64 0] n).size = n := by simp [madeCells]
  unfold maxLen at hm
  go_enter Tryz.func127, Tryz.ntmps127
  go_wp2_with fail
  refine (may_any a n c Z _ hn hm hZ).mono ?_
  rintro r w' ⟨rfl, rfl⟩
  rw [HM.out]
  go_wp2_with fail
  have hm0 : Mine (w.alloc (.cells (madeCells #[.int .i64 0] n) 3)) w.heap.size 3 (.slice (some ⟨w.heap.size, 0, none⟩) 0 n) 0 (lc []) := by
    have := Mine.made (base := w.heap.size) (n := 0) (V := lc []) (Own.new w 3 (madeCells #[.int .i64 0] n)) (Nat.le_refl _) (by rw [hcs]; exact Nat.le_trans (by omega) HML.out) (Nat.zero_le _) (fun i hi => absurd hi (by omega))
    rw [hcs] at this
    exact this
  have b0 := (Below.refl w.heap.size w).alloc (Nat.le_refl _) (.cells (madeCells #[.int .i64 0] n) 3)
  generalize w.alloc (.cells (madeCells #[.int .i64 0] n) 3) = w1 at *
  clear hmk hcs
  go_loopw [5, 16] (fun u i wr => ∃ (k : Nat) (v : Value), u = v ∧ i = .int .i64 k ∧ k ≤ n ∧ Mine wr w.heap.size 3 v (flt Z bl k).length (lc (flt Z bl k)) ∧ Below w.heap.size w wr) (fun _ i _ => n - (intOf i).toNat)
  case atStart => exact ⟨0, _, rfl, rfl, by omega, hm0, b0⟩
  case round =>
    obtain ⟨k, v, rfl, rfl, hk, hv, bb⟩ := hrel
    have hlen := flt_len Z bl k
    have hs := bb.size
    by_cases hlt : k < n
    · obtain ⟨b, o, rfl, hb, hc⟩ := hZ.at_old bb hlt
      obtain ⟨z0, z1, _⟩ := okTo_iff.1 HO.out k hlt
      have e1 := shr32 hbl (Z k)
      cases hb2 : bl.testBit (Z k).toNat
      · rw [hb2] at e1
        have HF := Lib.hid (flt_open (Z := Z) (b := bl) (k := k) hb2)
        have hm1 : (flt Z bl k).length + 1 ≤ maxLen := Nat.le_trans (by omega) HML.out
        have Hm := Lib.hid hm1
        clear hb2 hm1 hZ
        simp only [Bool.false_eq_true, if_false] at e1
        go_wp2_with (at_builtin; go_must (refine wp_app rfl (.tmp 25) (.tmp 27) _ rfl w.heap.size 3 i0 _ 8 Tryz.underlying23 hi0 hz0 hz1 hz2 rfl u5 (flt Z bl k).length (lc (flt Z bl k)) rfl (hv.alloc _) _ 1 _ (fun _ => .int .i64 (Z k)) rfl (row_new _ _ _ _ (fun i hi => by obtain rfl : i = 0 := (by omega); rfl)) (fun _ _ => rfl) Hm.out ?c2 ?c3 ?_))
        case c2 => omega
        case c3 => first | omega | (simp; omega)
        intro v' w2 hv2 hg
        have b2 : Below w.heap.size w w2 := (bb.alloc hs _).grown hg (by simp; omega) (fun q hq => (hv.lt q hq).1)
        have hv3 : Mine w2 w.heap.size 3 v' (flt Z bl (k + 1)).length (lc (flt Z bl (k + 1))) := by
          rw [HF.out, List.length_append]
          exact hv2.ext (fun q hq => lc_snoc _ _ _ hq)
        clear hv hv2
        go_wp2_with fail
        exact ⟨⟨k + 1, _, rfl, by go_num, by omega, hv3, b2⟩, by simp [intOf]; omega⟩
      · rw [hb2] at e1
        have HF := Lib.hid (flt_black (Z := Z) (b := bl) (k := k) hb2)
        clear hb2
        simp only [if_true] at e1
        go_wp2_with fail
        exact ⟨⟨k + 1, _, rfl, by go_num, by omega, by rw [HF.out]; exact hv, bb⟩, by simp [intOf]; omega⟩
    · obtain rfl : k = n := by omega
      clear hlt
      obtain ⟨a', c', rfl, hc1, hc2, hR⟩ := hv.row
      obtain ⟨m, hmm⟩ : ∃ m, (flt Z bl k).length = m := ⟨_, rfl⟩
      by_cases hm0 : m = 0
      · have hfe : flt Z bl k = [] := List.length_eq_zero_iff.1 (by omega)
        have HP : Hid (opn Z bl k = (List.range k).map Z) := Lib.hid (by unfold opn; rw [if_pos hfe])
        rw [hfe] at hv hc1 hR
        rw [hfe]
        simp only [List.length_nil] at *
        clear hfe hmm hm0 hlen
        have hm1 : 0 + k ≤ maxLen := Nat.le_trans (by omega) HML.out
        have Hm := Lib.hid hm1
        clear hm1
        go_wp2_with (at_builtin; go_must (refine wp_app rfl (.tmp 33) (.tmp 34) _ rfl w.heap.size 3 i0 _ 8 Tryz.underlying23 hi0 hz0 hz1 hz2 rfl _ 0 (lc []) rfl hv a k c (fun i => .int .i64 (Z i)) rfl (hZ.below bb) (fun _ _ => rfl) Hm.out ?c2 ?c3 ?_))
        case c2 => omega
        case c3 => omega
        intro v' w2 hv2 hg
        have b2 : Below w.heap.size w w2 := bb.grown hg hs (fun q hq => (hv.lt q hq).1)
        go_wp2_with fail
        go_ret
        refine ⟨_, rfl, ?_, b2⟩
        rw [HP.out, List.length_map, List.length_range]
        exact hv2.ext (fun q hq => (lc_map Z k q hq).symm)
      · have hfe : ¬ flt Z bl k = [] := fun e => hm0 (by rw [← hmm, e]; rfl)
        have HP : Hid (opn Z bl k = flt Z bl k) := Lib.hid (by unfold opn; rw [if_neg hfe])
        have hne : (((flt Z bl k).length : Int) == 0) = false := by simp; exact hfe
        clear hfe hmm hm0
        go_wp2_with fail
        go_ret
        refine ⟨_, rfl, ?_, bb⟩
        rw [HP.out]
        exact hv
theorem open_no (a : Option Addr) (n c : Nat) (Z : Nat → Int) (bl : Nat) (w : World) (hn : n ≤ c) (hm : c ≤ maxLen) (hZ : Row w a n (fun i => .int .i64 (Z i))) (hM : mayB Z n = false) :
    Calls Tryz.prog 127 #[.slice a n c, .int .u32 bl] w fun r w' => r = .returned (.slice none 0 0) ∧ w = w' := by
  have HM := Lib.hid hM
  clear hM
  go_enter Tryz.func127, Tryz.ntmps127
  go_wp2_with fail
  refine (may_any a n c Z _ hn hm hZ).mono ?_
  rintro r w' ⟨rfl, rfl⟩
  rw [HM.out]
  go_wp2_with fail
  go_ret
  exact ⟨rfl, rfl⟩

set_option maxHeartbeats 1000000 in
theorem channel_yes (a : Option Addr) (n c : Nat) (Z : Nat → Int) (bl : Nat) (asn off : Int) (w : World) (hn : n ≤ c) (hm : c ≤ maxLen) (hZ : Row w a n (fun i => .int .i64 (Z i))) (hbl : bl < 4294967296)
    (hM : mayB Z n = true) (h0 : 0 ≤ asn) (h1 : asn < 1099511627776) (h2 : 0 ≤ off) (h3 : off < 256) :
    Calls Tryz.prog 63 #[.slice a n c, .int .u32 bl, .int .i64 asn, .int .i64 off] w fun r w' => r = .returned (.int .i64 (chan Z bl n asn off)) ∧ Below w.heap.size w w' := by
  obtain ⟨n0, n1, hO⟩ := mayB_iff.1 hM
  obtain ⟨l0, l1⟩ := opn_len (Z := Z) (b := bl) n0
  have HM := Lib.hid hM
  clear hM hO
  have HC : Hid (chan Z bl n asn off = (opn Z bl n).getD ((asn + off) % ((opn Z bl n).length : Int)).toNat 0) := Lib.hid rfl
  go_enter Tryz.func63, Tryz.ntmps63
  go_wp2_with fail
  refine (open_yes a n c Z bl _ hn hm hZ hbl HM.out).mono ?_
  rintro r w1 ⟨v, rfl, hv, bb⟩
  obtain ⟨a', c', rfl, hc1, hc2, hR⟩ := hv.row
  clear hv
  have hd : ¬ (opn Z bl n).length = 0 := by omega
  have r0 : 0 ≤ (asn + off) % ((opn Z bl n).length : Int) := Int.emod_nonneg _ (by omega)
  have r1 : (asn + off) % ((opn Z bl n).length : Int) < ((opn Z bl n).length : Int) := Int.emod_lt_of_pos _ (by omega)
  obtain ⟨q, hq⟩ : ∃ q : Nat, (asn + off) % ((opn Z bl n).length : Int) = (q : Int) := ⟨((asn + off) % ((opn Z bl n).length : Int)).toNat, by omega⟩
  rw [hq] at r0 r1
  obtain ⟨b, o, rfl, hb, hc⟩ := hR.at_ (k := q) (by omega)
  have HQ := Lib.hid hq
  obtain ⟨m, hmm⟩ : ∃ m, (opn Z bl n).length = m := ⟨_, rfl⟩
  unfold lc at hc
  rw [hmm] at l0 l1 hc1 hd r1 hq ⊢
  have hz : ¬ (m : Int) = 0 := by omega
  have hz2 : ((m : Int) == 0) = false := by simp; exact hd
  have ht : (asn + off).tmod (m : Int) = (q : Int) := by rw [Int.tmod_eq_emod_of_nonneg (by omega)]; exact hq
  clear hmm hq hR
  go_wp2_with fail
  go_ret
  refine ⟨?_, bb⟩
  rw [HC.out, HQ.out, Int.toNat_natCast, List.getD_eq_getElem?_getD]
  rfl
set_option maxHeartbeats 1000000 in
theorem channel_off (a : Option Addr) (n c : Nat) (Z : Nat → Int) (bl : Nat) (asn off : Int) (w : World) (hn : n ≤ c) (hm : c ≤ maxLen) (hZ : Row w a n (fun i => .int .i64 (Z i))) (hbl : bl < 4294967296)
    (hM : mayB Z n = true) (ho : ¬ (0 ≤ asn ∧ asn < 1099511627776 ∧ 0 ≤ off ∧ off < 256)) :
    Calls Tryz.prog 63 #[.slice a n c, .int .u32 bl, .int .i64 asn, .int .i64 off] w fun r w' => r = .returned (.int .i64 (-1)) ∧ Below w.heap.size w w' := by
  obtain ⟨n0, n1, hO⟩ := mayB_iff.1 hM
  obtain ⟨l0, l1⟩ := opn_len (Z := Z) (b := bl) n0
  have HM := Lib.hid hM
  clear hM hO
  have hcase : asn < 0 ∨ (0 ≤ asn ∧ 1099511627776 ≤ asn) ∨ (0 ≤ asn ∧ decide (1099511627776 ≤ asn) = false ∧ off < 0) ∨ (0 ≤ asn ∧ decide (1099511627776 ≤ asn) = false ∧ 0 ≤ off ∧ 256 ≤ off) := by
    by_cases g0 : asn < 0
    · exact .inl g0
    · by_cases g1 : 1099511627776 ≤ asn
      · exact .inr (.inl ⟨by omega, g1⟩)
      · by_cases g2 : off < 0
        · exact .inr (.inr (.inl ⟨by omega, by simpa using g1, g2⟩))
        · exact .inr (.inr (.inr ⟨by omega, by simpa using g1, by omega, by omega⟩))
  clear ho
  go_enter Tryz.func63, Tryz.ntmps63
  go_wp2_with fail
  refine (open_yes a n c Z bl _ hn hm hZ hbl HM.out).mono ?_
  rintro r w1 ⟨v, rfl, hv, bb⟩
  obtain ⟨a', c', rfl, hc1, hc2, hR⟩ := hv.row
  clear hv hR
  have hz2 : (((opn Z bl n).length : Int) == 0) = false := by simp; intro h; rw [h] at l0; simp at l0
  generalize (opn Z bl n).length = m at *
  rcases hcase with h | ⟨h, h'⟩ | ⟨h, h', h''⟩ | ⟨h, h', h'', h3⟩
  all_goals
    go_wp2_with fail
    go_ret
    exact ⟨rfl, bb⟩
theorem channel_none (a : Option Addr) (n c : Nat) (Z : Nat → Int) (bl : Nat) (asn off : Int) (w : World) (hn : n ≤ c) (hm : c ≤ maxLen) (hZ : Row w a n (fun i => .int .i64 (Z i))) (hM : mayB Z n = false) :
    Calls Tryz.prog 63 #[.slice a n c, .int .u32 bl, .int .i64 asn, .int .i64 off] w fun r w' => r = .returned (.int .i64 (-1)) ∧ w = w' := by
  have HM := Lib.hid hM
  clear hM
  go_enter Tryz.func63, Tryz.ntmps63
  go_wp2_with fail
  refine (open_no a n c Z bl _ hn hm hZ HM.out).mono ?_
  rintro r w1 ⟨rfl, rfl⟩
  go_wp2_with fail
  go_ret
  exact ⟨rfl, rfl⟩
theorem channel_any (a : Option Addr) (n c : Nat) (Z : Nat → Int) (bl : Nat) (asn off : Int) (w : World) (hn : n ≤ c) (hm : c ≤ maxLen) (hZ : Row w a n (fun i => .int .i64 (Z i))) (hbl : bl < 4294967296) :
    Calls Tryz.prog 63 #[.slice a n c, .int .u32 bl, .int .i64 asn, .int .i64 off] w fun r w' => r = .returned (.int .i64 (chanB Z bl n asn off)) ∧ Below w.heap.size w w' := by
  unfold chanB
  cases hM : mayB Z n
  · rw [if_neg (by simp)]
    refine (channel_none a n c Z bl asn off w hn hm hZ hM).mono ?_
    rintro r w' ⟨rfl, rfl⟩
    exact ⟨rfl, Below.refl _ _⟩
  · by_cases ho : 0 ≤ asn ∧ asn < 1099511627776 ∧ 0 ≤ off ∧ off < 256
    · rw [if_pos ⟨rfl, ho⟩]
      exact channel_yes a n c Z bl asn off w hn hm hZ hbl hM ho.1 ho.2.1 ho.2.2.1 ho.2.2.2
    · rw [if_neg (fun h => ho h.2)]
      exact channel_off a n c Z bl asn off w hn hm hZ hbl hM ho

end Go.Proofs.YtiflmdekcjbmbaaGreat.Hp
