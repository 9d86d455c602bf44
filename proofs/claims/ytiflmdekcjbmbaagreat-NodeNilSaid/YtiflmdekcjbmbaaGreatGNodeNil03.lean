/-
  The reference's window: a map for each node that was heard; its methods by contract, told by the package's own rows of bits. Both windows at whatever node and number: what they answer, and what they know then.
-/
import Derived.Test.YtiflmdekcjbmbaaGreatGNodeNil02
import Derived.Maps.OwnSet
import Derived.Maps.Views
set_option maxRecDepth 100000
namespace Go.Proofs.YtiflmdekcjbmbaaGreat.Dp
set_option linter.unusedVariables false
set_option linter.unusedSimpArgs false
open Go.RowKit Lb Go.Maps

theorem law : Keyed Tryz.prog 3 := int_keyed Tryz.underlying3
theorem zeroI (w : World) : (zeroValue 3).run Tryz.prog w = .ok (.int .i64 0) w := by kernel_rfl
open Instr in
theorem eqlSome (m : Nat) (w : World) : (binOp .eql 98 (.map (some m)) (.map none)).run Tryz.prog w = .ok (.bool false) w := by kernel_rfl
open Instr in
theorem eqlNil (w : World) : (binOp .eql 98 (.map none) (.map none)).run Tryz.prog w = .ok (.bool true) w := by kernel_rfl
abbrev Dt := DataW Unit
def n0 : Dt := .lit (.int .i64 0)
def n1 : Dt := .lit (.int .i64 1)
def key (x : Int) : Lit := .int .i64 x
theorem wf_of {x : Int} (h0 : 0 ≤ x) (h1 : x < 9223372036854775808) : (Lit.int .i64 x).wf = true := by
  simp [Lit.wf, IntKind.min, IntKind.max, IntKind.signed, IntKind.bits]
  omega
theorem n0_ne : n0 ≠ n1 := by
  unfold n0 n1
  intro e
  injection e with e
  injection e with _ e
  cases e
theorem isKey (x : Int) : WideAt.IsKeyLit (key x) := by
  unfold key
  simp [WideAt.IsKeyLit]
/-- 'm[k] = v' inside a map's literal. -/
theorem wpList_insert_own {H : Type} {P : Program} (w : World) {ops : Array Oper} {rest : List Oper} {o : Oper} {a : Act} {Q : Exit → Act → World → Prop}
    (hg : o.guard = none) (m x v : Operand) (t : TypeId) (hop : o.op = Op.insert t m x v)
    (k e : TypeId) (K : Keyed P k) (ht : P.underlying t = some (.map k e)) (R : Value → Option (DataW H × List MemPlace)) (b n : Nat) (D : DataW H)
    (hm : a.eval m = .map (some b)) (hown : w.ownsMap P k R b n D) (hn : n < maxLen) (key val : Value) (kl : Lit) (hx : a.eval x = key) (hv : a.eval v = val) (hkey : keyOf P k key = some kl)
    (d : DataW H) (ps : List MemPlace) (hval : R val = some (d, ps))
    (hK : ∀ w', w'.ownsMap P k R b (n + 1) (D.put kl d) → w.grownBy w' (some b) → wpList P ops Q rest (a.put o.dst undef) w') :
    wpList P ops Q (o :: rest) a w := by
  refine wpList_plain hg fun K' hK' => ?_
  obtain ⟨w', hrun, r1, r2⟩ := hown.update K ht hn hkey hval
  unfold Oper.wp
  simp [execOp, hop, hm, hx, hv, hrun, Result.andThen]
  exact hK' _ _ (hK w' r1 r2)

/-- The reference's cells: of node i the greatest number L i, and its map M i. -/
def rv (L : Nat → Int) (M : Nat → Option Nat) (j : Nat) : Value := if j % 2 = 0 then .int .i64 (L (j / 2)) else .map (M (j / 2))
abbrev OwnM (w : World) (m k : Nat) (D : Dt) : Prop := w.ownsMap Tryz.prog 3 (plainElem Tryz.prog 3) m k D
structure Rf (w : World) (base b : Nat) (L : Nat → Int) (S : Nat → Nat) (k : Nat) (M : Nat → Option Nat) (D : Nat → Dt) : Prop where
  blk : Blk w b 103 32 (rv L M)
  low : b < base
  top : base ≤ w.heap.size
  none_ : ∀ i, S i = 0 ↔ M i = none
  own : ∀ i m, M i = some m → base ≤ m ∧ OwnM w m k (D i)
  is : ∀ i, IsMap (D i)
  tell : ∀ i x, S i ≠ 0 → 0 ≤ x → x < 9223372036854775808 → L i - 64 < x → ((D i).atKey (key x) n0 = n1 ↔ has (L i) (S i) x)
  apart : ∀ i j m, M i = some m → M j = some m → i = j
/-- From w to w' block b and the maps alone have turned, and what is new. -/
structure Near (b : Nat) (M : Nat → Option Nat) (w w' : World) : Prop where
  os : w'.os = w.os
  tape : w'.tape = w.tape
  output : w'.output = w.output
  size : w.heap.size ≤ w'.heap.size
  block : ∀ k, k < w.heap.size → k ≠ b → (∀ i, M i ≠ some k) → w'.heap[k]? = w.heap[k]?
theorem Near.refl (b : Nat) (M : Nat → Option Nat) (w : World) : Near b M w w := ⟨rfl, rfl, rfl, Nat.le_refl _, fun _ _ _ _ => rfl⟩
theorem Near.below {b base B k : Nat} {a w w' : World} {L : Nat → Int} {S : Nat → Nat} {M : Nat → Option Nat} {D : Nat → Dt} (j : Near b M w w') (r : Rf w base b L S k M D) (h : Below B a w) (hb : B ≤ b) : Below B a w' :=
  h.trans ⟨j.os, j.tape, j.output, j.size, fun q hq => j.block q (by have := r.low; have := r.top; omega) (by omega) (fun i e => by have := (r.own i q e).1; have := r.low; omega)⟩
theorem Near.own {b base k r : Nat} {w w' : World} {L : Nat → Int} {S : Nat → Nat} {M : Nat → Option Nat} {D : Nat → Dt} {t : TypeId} {cs : Array Value} (j : Near b M w w') (h : Rf w base b L S k M D) (ho : Own w r t cs) (hne : r ≠ b) : Own w' r t cs :=
  (j.block r ho.lt hne (fun i e => by
    obtain ⟨es, clock, hb, _⟩ := (h.own i r e).2
    have ho2 : w.heap[r]? = some (.cells cs t (0, 0)) := ho
    rw [hb] at ho2
    injection ho2 with ho2
    cases ho2)).trans ho
theorem ownM_same {w w' : World} {m k : Nat} {D : Dt} (h : OwnM w m k D) (he : w'.heap[m]? = w.heap[m]?) : OwnM w' m k D := by
  obtain ⟨es, clock, hb, r⟩ := h
  exact ⟨es, clock, he.trans hb, r⟩
/-- The reference stays what it is where its blocks do. -/
theorem Rf.kept {w w' : World} {base b k : Nat} {L : Nat → Int} {S : Nat → Nat} {M : Nat → Option Nat} {D : Nat → Dt} (h : Rf w base b L S k M D) (hs : w.heap.size ≤ w'.heap.size) (hb : w'.heap[b]? = w.heap[b]?) (hm : ∀ m, base ≤ m → m < w.heap.size → w'.heap[m]? = w.heap[m]?) : Rf w' base b L S k M D where
  blk := (show w'.heap[b]? = _ from hb.trans h.blk)
  low := h.low
  top := Nat.le_trans h.top hs
  none_ := h.none_
  own i m e := ⟨(h.own i m e).1, ownM_same (h.own i m e).2 (hm m (h.own i m e).1 (World.ownsMap.lt (h.own i m e).2))⟩
  is := h.is
  tell := h.tell
  apart := h.apart
theorem Rf.just {w w' : World} {base b g k : Nat} {L : Nat → Int} {S : Nat → Nat} {M : Nat → Option Nat} {D : Nat → Dt} (h : Rf w base b L S k M D) (j : Just g w w') (hne : b ≠ g) (hg : g < base) : Rf w' base b L S k M D :=
  h.kept j.size (j.block b (by have := h.low; have := h.top; omega) hne) (fun m h1 h2 => j.block m h2 (by omega))
theorem Rf.below {w w' : World} {base b k : Nat} {L : Nat → Int} {S : Nat → Nat} {M : Nat → Option Nat} {D : Nat → Dt} (h : Rf w base b L S k M D) (j : Below w.heap.size w w') : Rf w' base b L S k M D :=
  h.kept j.size (j.block b (by have := h.low; have := h.top; omega)) (fun m _ h2 => j.block m h2)
theorem Rf.drewN {w : World} {base b k : Nat} {L : Nat → Int} {S : Nat → Nat} {M : Nat → Option Nat} {D : Nat → Dt} (h : Rf w base b L S k M D) (n : Nat) : Rf (w.drewN n) base b L S k M D := h.kept (Nat.le_refl _) rfl (fun _ _ _ => rfl)
theorem Rf.mono {w : World} {base b k l : Nat} {L : Nat → Int} {S : Nat → Nat} {M : Nat → Option Nat} {D : Nat → Dt} (h : Rf w base b L S k M D) (hl : k ≤ l) : Rf w base b L S l M D :=
  { h with own := fun i m e => ⟨(h.own i m e).1, (h.own i m e).2.mono hl⟩ }
theorem Rf.c0 {w : World} {base b i k : Nat} {L : Nat → Int} {S : Nat → Nat} {M : Nat → Option Nat} {D : Nat → Dt} (h : Rf w base b L S k M D) (hi : i < 16) : w.cell? ⟨b, i * 2, none⟩ = some (.int .i64 (L i)) := by
  rw [Blk.cell h.blk (by omega)]; unfold rv; rw [if_pos (by omega)]; congr 3; omega
theorem Rf.c1 {w : World} {base b i k : Nat} {L : Nat → Int} {S : Nat → Nat} {M : Nat → Option Nat} {D : Nat → Dt} (h : Rf w base b L S k M D) (hi : i < 16) : w.cell? ⟨b, i * 2 + 1, none⟩ = some (.map (M i)) := by
  rw [Blk.cell h.blk (by omega)]; unfold rv; rw [if_neg (by omega), show (i * 2 + 1) / 2 = i by omega]
theorem rv_put (L : Nat → Int) (M : Nat → Option Nat) (i : Nat) (x : Int) (m : Option Nat) (j : Nat) : (if j = i * 2 then .int .i64 x else if j = i * 2 + 1 then .map m else rv L M j) = rv (upd L i x) (upd M i m) j := by
  unfold rv upd
  split
  · rename_i h; rw [if_pos (by omega), if_pos (by omega)]
  · split
    · rename_i h; rw [if_neg (by omega), if_pos (by omega)]
    · by_cases h2 : j / 2 = i
      · omega
      · rw [if_neg h2, if_neg h2]
theorem rv_put2 (L : Nat → Int) (M : Nat → Option Nat) (i : Nat) (x : Int) (m : Option Nat) (j : Nat) : (if j = i * 2 + 1 then .map m else if j = i * 2 then .int .i64 x else rv L M j) = rv (upd L i x) (upd M i m) j := by
  rw [← rv_put]
  by_cases h1 : j = i * 2
  · rw [if_neg (by omega), if_pos h1, if_pos h1]
  · rw [if_neg h1, if_neg h1]
theorem rv_one (L : Nat → Int) (M : Nat → Option Nat) (i : Nat) (x : Int) (j : Nat) : (if j = i * 2 then .int .i64 x else rv L M j) = rv (upd L i x) M j := by
  unfold rv upd
  split
  · rename_i h; rw [if_pos (by omega), if_pos (by omega)]
  · by_cases h0 : j % 2 = 0
    · rw [if_pos h0, if_pos h0, if_neg (by omega)]
    · rw [if_neg h0, if_neg h0]
def nodeB (x : Int) : Bool := decide (0 ≤ x ∧ x < 16)
theorem node_any (x : Int) (w : World) :
    Calls Tryz.prog 122 #[.int .i64 x] w fun r w' => r = .returned (.bool (nodeB x)) ∧ w = w' := by
  by_cases h0 : 0 ≤ x
  · by_cases h1 : x < 16
    · have HD : Hid (nodeB x = true) := Lib.hid (by simp [nodeB, h0, h1])
      go_enter Tryz.func122, Tryz.ntmps122
      go_wp2_with fail
      go_ret
      exact ⟨by rw [HD.out]; rfl, rfl⟩
    · have HD : Hid (nodeB x = false) := Lib.hid (by simp [nodeB]; omega)
      have h2 : decide (x < 16) = false := by simp; omega
      clear h1
      go_enter Tryz.func122, Tryz.ntmps122
      go_wp2_with fail
      go_ret
      exact ⟨by rw [HD.out]; rfl, rfl⟩
  · have HD : Hid (nodeB x = false) := Lib.hid (by simp [nodeB]; omega)
    have h2 : x < 0 := by omega
    clear h0
    go_enter Tryz.func122, Tryz.ntmps122
    go_wp2_with fail
    go_ret
    exact ⟨by rw [HD.out]; rfl, rfl⟩
theorem node_yes (i : Nat) (w : World) (hi : i < 16) :
    Calls Tryz.prog 122 #[.int .i64 i] w fun r w' => r = .returned (.bool true) ∧ w = w' := by
  have := node_any i w
  rwa [show nodeB i = true by simp [nodeB]; omega] at this
theorem node_no (x : Int) (w : World) (hn : ¬ (0 ≤ x ∧ x < 16)) :
    Calls Tryz.prog 122 #[.int .i64 x] w fun r w' => r = .returned (.bool false) ∧ w = w' := by
  have := node_any x w
  rwa [show nodeB x = false by simp [nodeB]; omega] at this
theorem rnew_out (b : Nat) (i n : Int) (w : World) (hi : ¬ (0 ≤ i ∧ i < 16 ∧ 0 ≤ n)) :
    Calls Tryz.prog 159 #[.pointer (some ⟨b, 0, none⟩), .int .i64 i, .int .i64 n] w fun r w' => r = .returned (.bool false) ∧ w = w' := by
  by_cases h0 : 0 ≤ i ∧ i < 16
  · have hn : n < 0 := by omega
    obtain ⟨k, rfl⟩ := Int.eq_ofNat_of_zero_le h0.1
    have hk : k < 16 := by omega
    clear hi h0
    go_enter Tryz.func159, Tryz.ntmps159
    go_wp2_with fail
    refine (node_yes _ _ hk).mono ?_
    rintro r w' ⟨rfl, rfl⟩
    go_wp2_with fail
    go_ret
    exact ⟨rfl, rfl⟩
  · clear hi
    go_enter Tryz.func159, Tryz.ntmps159
    go_wp2_with fail
    refine (node_no _ _ h0).mono ?_
    rintro r w' ⟨rfl, rfl⟩
    go_wp2_with fail
    go_ret
    exact ⟨rfl, rfl⟩
set_option maxHeartbeats 1000000 in
theorem rnew_fresh (base b i k : Nat) (L : Nat → Int) (S : Nat → Nat) (M : Nat → Option Nat) (D : Nat → Dt) (n : Int) (w : World) (h : Rf w base b L S k M D) (hi : i < 16) (hn : 0 ≤ n) (hm : n < 9223372036854775808) (hs : S i = 0) (hk : k < 1000) :
    Calls Tryz.prog 159 #[.pointer (some ⟨b, 0, none⟩), .int .i64 i, .int .i64 n] w fun r w' => r = .returned (.bool true) ∧ (∃ M' D', Rf w' base b (upd L i n) (upd S i 1) (k + 1) M' D') ∧ Near b M w w' := by
  have c0 := h.c0 hi
  have c1 := h.c1 hi
  rw [(h.none_ i).1 hs] at c1
  have f0 : w.frozen? ⟨b, i * 2, none⟩ = false := Blk.free h.blk _
  have f1 : w.frozen? ⟨b, i * 2 + 1, none⟩ = false := Blk.free h.blk _
  have hbl := h.blk.lt
  have hmade := World.ownsMap_made (H := Unit) w Tryz.prog 3 (plainElem Tryz.prog 3)
  have hmm := @run_makeMap Tryz.prog
  have hq := eqlNil
  have n2 : decide (n < 0) = false := by simp; omega
  clear hs
  go_enter Tryz.func159, Tryz.ntmps159
  go_wp2_with fail
  refine (node_yes _ _ hi).mono ?_
  rintro r w' ⟨rfl, rfl⟩
  go_wp2_with (refine wpList_insert_own _ rfl _ _ _ 98 rfl 3 3 law Tryz.underlying98 _ w.heap.size 0 _ rfl hmade (by decide) _ _ _ rfl rfl (keyOf_int_mk Tryz.underlying3 (wf_of hn hm)) _ [] (plainElem_int Tryz.underlying3 (by decide)) ?_)
  intro w1 hown1 hg1
  have hk1 : ∀ q, q < w.heap.size → w1.heap[q]? = w.heap[q]? := fun q hq => (hg1.block q (by simp; omega) (fun e => by injection e with e; omega)).trans (Below.heap_alloc w _ q hq)
  have hsz : w.heap.size < w1.heap.size := Nat.lt_of_lt_of_le (by simp) hg1.size
  have B1 : Blk w1 b 103 32 (rv L M) := (hk1 b hbl).trans h.blk
  have d0 : w1.cell? ⟨b, i * 2, none⟩ = some (.int .i64 (L i)) := by rw [World.cell?_of_block (hk1 b hbl)]; exact c0
  have d1 : w1.cell? ⟨b, i * 2 + 1, none⟩ = some (.map none) := by rw [World.cell?_of_block (hk1 b hbl)]; exact c1
  have g0 : w1.frozen? ⟨b, i * 2, none⟩ = false := Blk.free B1 _
  have g1 : w1.frozen? ⟨b, i * 2 + 1, none⟩ = false := Blk.free B1 _
  have hnear : Near b M w ((w1.setCell ⟨b, i * 2 + 1, none⟩ (.map (some w.heap.size))).setCell ⟨b, i * 2, none⟩ (.int .i64 n)) :=
    ⟨hg1.os, hg1.tape, hg1.output, by simp [World.setCell]; omega, fun q hq hne _ => (Below.heap_setCell _ _ _ q hne).trans ((Below.heap_setCell _ _ _ q hne).trans (hk1 q hq))⟩
  have HN := Lib.hid hnear
  have HB := Lib.hid (Blk.ext (Blk.put (Blk.put B1 (i * 2 + 1) (.map (some w.heap.size))) (i * 2) (.int .i64 n)) (fun j _ => rv_put L M i n (some w.heap.size) j))
  have HK := Lib.hid hk1
  have hown2 := ownM_same (k := 1) (w' := (w1.setCell ⟨b, i * 2 + 1, none⟩ (.map (some w.heap.size))).setCell ⟨b, i * 2, none⟩ (.int .i64 n)) hown1 ((Below.heap_setCell _ _ _ _ (by simp; omega)).trans (Below.heap_setCell _ _ _ _ (by simp; omega)))
  clear hnear hk1 c0 c1 f0 f1 hmm hown1
  go_wp2_with fail
  go_ret
  refine ⟨rfl, ⟨upd M i (some w.heap.size), upd D i ((DataW.map []).put (key n) n1), ?_⟩, HN.out⟩
  refine ⟨HB.out, h.low, ?_, fun j => ?_, fun j m e => ?_, fun j => ?_, fun j x hj h0 h1 h2 => ?_, fun j l m e1 e2 => ?_⟩
  · have := h.top
    simp [World.setCell]
    omega
  · by_cases hj : j = i
    · subst hj
      rw [upd_same, upd_same]
      simp
    · rw [upd_other _ _ hj, upd_other _ _ hj]
      exact h.none_ j
  · by_cases hj : j = i
    · subst hj
      rw [upd_same] at e ⊢
      injection e with e
      subst e
      exact ⟨h.top, hown2.mono (by omega)⟩
    · rw [upd_other _ _ hj] at e ⊢
      obtain ⟨a1, a2⟩ := h.own j m e
      have hm := World.ownsMap.lt a2
      have hlow := h.low
      exact ⟨a1, (ownM_same a2 ((Below.heap_setCell _ _ _ _ (by simp; omega)).trans ((Below.heap_setCell _ _ _ _ (by simp; omega)).trans (HK.out m hm)))).mono (by omega)⟩
  · by_cases hj : j = i
    · subst hj
      rw [upd_same]
      exact isMap_empty.put _ _
    · rw [upd_other _ _ hj]
      exact h.is j
  · by_cases hj2 : j = i
    · subst hj2
      rw [upd_same, upd_same, upd_same] at *
      have e := has_new (l := L j) (s := 0) (n := n) (x := x) (by simp [isN])
      have e1 : nL (L j) 0 n = n := by simp [nL]
      have e2 : nS (L j) 0 n = 1 := by simp [nS]
      rw [e1, e2] at e
      rw [e]
      by_cases hx : x = n
      · subst hx
        rw [atKey_put_same isMap_empty (isKey x)]
        simp
      · rw [atKey_put_other (by unfold key; intro e; injection e with _ e; exact hx e)]
        constructor
        · intro e
          exact absurd e n0_ne
        · rintro (e | ⟨e, _⟩)
          · exact absurd e hx
          · exact absurd rfl e.1
    · rw [upd_other _ _ hj2, upd_other _ _ hj2, upd_other _ _ hj2] at *
      exact h.tell j x hj h0 h1 h2
  · by_cases hj : j = i
    · by_cases hl : l = i
      · omega
      · subst hj
        rw [upd_same] at e1
        rw [upd_other _ _ hl] at e2
        injection e1 with e1
        have := World.ownsMap.lt (h.own l m e2).2
        omega
    · by_cases hl : l = i
      · subst hl
        rw [upd_same] at e2
        rw [upd_other _ _ hj] at e1
        injection e2 with e2
        have := World.ownsMap.lt (h.own j m e1).2
        omega
      · rw [upd_other _ _ hj] at e1
        rw [upd_other _ _ hl] at e2
        exact h.apart j l m e1 e2
theorem near_grown {b i m : Nat} {w w1 : World} {M : Nat → Option Nat} (h : w.grownBy w1 (some m)) (hm : M i = some m) : Near b M w w1 :=
  ⟨h.os, h.tape, h.output, h.size, fun q hq _ hq2 => h.block q hq (fun e => hq2 i (by rw [hm, e]))⟩
theorem Near.put {b : Nat} {w w1 : World} {M : Nat → Option Nat} (h : Near b M w w1) (i : Nat) (v : Value) : Near b M w (w1.setCell ⟨b, i, none⟩ v) :=
  ⟨h.os, h.tape, h.output, Nat.le_trans h.size (by simp [World.setCell]), fun q hq hne hq2 => (Below.heap_setCell _ _ _ q hne).trans (h.block q hq hne hq2)⟩
theorem lit_one {c : Int} : (DataW.lit (.int .i64 c) : Dt) = n1 ↔ c = 1 := by
  unfold n1
  constructor
  · intro e
    injection e with e
    injection e with _ e
  · rintro rfl
    rfl
set_option maxHeartbeats 1000000 in
theorem rnew_in (base b i k : Nat) (L : Nat → Int) (S : Nat → Nat) (M : Nat → Option Nat) (D : Nat → Dt) (n : Int) (w : World) (h : Rf w base b L S k M D) (hi : i < 16) (hn : 0 ≤ n) (hm : n < 9223372036854775808) (hg : DGood (L i) (S i)) (hk : k < 1000) :
    Calls Tryz.prog 159 #[.pointer (some ⟨b, 0, none⟩), .int .i64 i, .int .i64 n] w fun r w' => r = .returned (.bool (isN (L i) (S i) n)) ∧ (∃ M' D', Rf w' base b (upd L i (nL (L i) (S i) n)) (upd S i (nS (L i) (S i) n)) (k + 1) M' D') ∧ Near b M w w' := by
  by_cases hs : S i = 0
  · refine (rnew_fresh base b i k L S M D n w h hi hn hm hs hk).mono ?_
    rintro r w' ⟨rfl, k1, k2⟩
    refine ⟨by simp [isN, hs], ?_, k2⟩
    simp only [nL, nS, hs, true_or, if_true]
    exact k1
  · obtain ⟨l0, l1⟩ := hg.2 hs
    obtain ⟨m, hM⟩ : ∃ m, M i = some m := by
      cases e : M i
      · exact absurd ((h.none_ i).2 e) hs
      · exact ⟨_, rfl⟩
    obtain ⟨hmb, hown⟩ := h.own i m hM
    have c0 := h.c0 hi
    have c1 := h.c1 hi
    rw [hM] at c1
    have hq := eqlSome m
    have n2 : decide (n < 0) = false := by simp; omega
    by_cases hold : n ≤ L i - 64
    · have hN : isN (L i) (S i) n = false := by
        unfold isN
        simp [hs]
        omega
      obtain ⟨e1, e2⟩ := isN_false hN
      have HN := Lib.hid hN
      rw [e1, e2, upd_self, upd_self]
      clear hN e1 e2 hM hs
      go_enter Tryz.func159, Tryz.ntmps159
      go_wp2_with fail
      refine (node_yes _ _ hi).mono ?_
      rintro r w' ⟨rfl, rfl⟩
      go_wp2_with fail
      go_ret
      exact ⟨by rw [HN.out]; rfl, ⟨M, D, h.mono (by omega)⟩, Near.refl _ _ _⟩
    · obtain ⟨c, hrun, hat, _⟩ := hown.lookup_int law Tryz.underlying98 Tryz.underlying3 (zeroI _) (key := .int .i64 n) (keyOf_int_mk Tryz.underlying3 (wf_of hn hm))
      have hat : (D i).atKey (key n) n0 = .lit (.int .i64 c) := hat
      have hc : c = 1 ↔ has (L i) (S i) n := by
        rw [← h.tell i n hs hn hm (by omega), hat, lit_one]
      have hold2 : decide (n ≤ L i - 64) = false := by simp; omega
      by_cases h1 : c = 1
      · have hN : isN (L i) (S i) n = false := by
          have := hc.1 h1
          exact kn_iff.2 ⟨hs, (has_le this).1, fun _ => this⟩
        obtain ⟨e1, e2⟩ := isN_false hN
        have HN := Lib.hid hN
        rw [e1, e2, upd_self, upd_self]
        subst h1
        clear hN e1 e2 hM hs hc hat hold
        go_enter Tryz.func159, Tryz.ntmps159
        go_wp2_with fail
        refine (node_yes _ _ hi).mono ?_
        rintro r w' ⟨rfl, rfl⟩
        go_wp2_with fail
        go_ret
        exact ⟨by rw [HN.out]; rfl, ⟨M, D, h.mono (by omega)⟩, Near.refl _ _ _⟩
      · have hN : isN (L i) (S i) n = true := by
          rw [isN_iff]
          exact .inr (.inr ⟨by omega, fun e => h1 (hc.2 e)⟩)
        have HN := Lib.hid hN
        have hmax : nL (L i) (S i) n = max (L i) n := by unfold nL; rw [Int.max_def]; split <;> split <;> omega
        have HM := Lib.hid hmax
        have HMi := Lib.hid hM
        have h12 : (c == 1) = false := by simpa using h1
        have HS := Lib.hid hs
        clear hN hM hmax hs hc hat hold h1
        go_enter Tryz.func159, Tryz.ntmps159
        go_wp2_with fail
        refine (node_yes _ _ hi).mono ?_
        rintro r w' ⟨rfl, rfl⟩
        have wf1 := wf_of hn hm
        have hk2 : k < maxLen := by unfold maxLen; omega
        have K2 := Lib.hid hk2
        have WF := Lib.hid wf1
        clear hk2 wf1
        go_wp2_with (at_mapUpdate; refine wpList_mapUpdate_own _ rfl _ _ _ 98 rfl 3 3 law Tryz.underlying98 _ m k _ rfl hown K2.out _ _ _ rfl rfl (keyOf_int_mk Tryz.underlying3 WF.out) n1 [] (plainElem_int Tryz.underlying3 (by decide)) ?_)
        intro w1 hown1 hg1
        have hbl := h.blk.lt
        have hlow := h.low
        have htop := h.top
        have hkb : w1.heap[b]? = w.heap[b]? := hg1.block b hbl (fun e => by injection e with e; omega)
        have B1 : Blk w1 b 103 32 (rv L M) := hkb.trans h.blk
        have d0 : w1.cell? ⟨b, i * 2, none⟩ = some (.int .i64 (L i)) := by rw [World.cell?_of_block hkb]; exact c0
        have g0 : w1.frozen? ⟨b, i * 2, none⟩ = false := Blk.free B1 _
        have HNr := Lib.hid ((near_grown (b := b) hg1 HMi.out).put (i * 2) (.int .i64 (max (L i) n)))
        have HB := Lib.hid (Blk.ext (Blk.put B1 (i * 2) (.int .i64 (max (L i) n))) (fun j _ => rv_one L M i (max (L i) n) j))
        have HO := Lib.hid (ownM_same (w' := w1.setCell ⟨b, i * 2, none⟩ (.int .i64 (max (L i) n))) hown1 (Below.heap_setCell _ _ _ _ (by simp; omega)))
        have HK : Hid (∀ q, q ≠ m → base ≤ q → q < w.heap.size → (w1.setCell ⟨b, i * 2, none⟩ (.int .i64 (max (L i) n))).heap[q]? = w.heap[q]?) := Lib.hid (fun q hq hq2 hq3 => (Below.heap_setCell _ _ _ _ (by simp; omega)).trans (hg1.block q hq3 (fun e => by injection e with e; omega)))
        have hs1 := hg1.size
        clear hrun c0 c1 hown1 hkb
        go_wp2_with fail
        go_ret
        refine ⟨by rw [HN.out]; rfl, ⟨M, upd D i ((D i).put (key n) n1), ?_⟩, HNr.out⟩
        have hN := HN.out
        rw [HM.out]
        refine ⟨HB.out, h.low, by simp [World.setCell]; omega, fun j => ?_, fun j q e => ?_, fun j => ?_, fun j x hj h0 h1 h2 => ?_, h.apart⟩
        · by_cases hj : j = i
          · subst hj
            rw [upd_same, HMi.out]
            simp [nS_ne]
          · rw [upd_other _ _ hj]
            exact h.none_ j
        · by_cases hj : j = i
          · subst hj
            rw [HMi.out] at e
            injection e with e
            subst e
            rw [upd_same]
            exact ⟨hmb, HO.out⟩
          · rw [upd_other _ _ hj]
            obtain ⟨a1, a2⟩ := h.own j q e
            exact ⟨a1, (ownM_same a2 (HK.out q (fun e2 => by subst e2; exact hj (h.apart j i q e HMi.out)) a1 (World.ownsMap.lt a2))).mono (by omega)⟩
        · by_cases hj : j = i
          · subst hj
            rw [upd_same]
            exact (h.is j).put _ _
          · rw [upd_other _ _ hj]
            exact h.is j
        · by_cases hj2 : j = i
          · subst hj2
            rw [upd_same] at h2
            rw [upd_same, upd_same, upd_same, ← HM.out, has_new hN, HM.out]
            have hml : L j ≤ max (L j) n := by rw [Int.max_def]; split <;> omega
            by_cases hx : x = n
            · subst hx
              rw [atKey_put_same (h.is j) (isKey x)]
              simp
            · rw [atKey_put_other (by unfold key; intro e; injection e with _ e; exact hx e), h.tell j x HS.out h0 h1 (by omega)]
              constructor
              · intro e
                exact .inr ⟨e, by omega⟩
              · rintro (e | ⟨e, _⟩)
                · exact absurd e hx
                · exact e
          · rw [upd_other _ _ hj2] at hj h2
            rw [upd_other _ _ hj2, upd_other _ _ hj2, upd_other _ _ hj2]
            exact h.tell j x hj h0 h1 h2
end Go.Proofs.YtiflmdekcjbmbaaGreat.Dp
set_option maxRecDepth 100000
namespace Go.Proofs.YtiflmdekcjbmbaaGreat.Dp
set_option linter.unusedVariables false
set_option linter.unusedSimpArgs false
open Go.RowKit Lb Go.Maps

def inB (x n : Int) : Bool := decide (0 ≤ x ∧ x < 16 ∧ 0 ≤ n)
def ansN (L : Nat → Int) (S : Nat → Nat) (x n : Int) : Bool := inB x n && isN (L x.toNat) (S x.toNat) n
def stepL (L : Nat → Int) (S : Nat → Nat) (x n : Int) : Nat → Int := if inB x n = true then upd L x.toNat (nL (L x.toNat) (S x.toNat) n) else L
def stepS (L : Nat → Int) (S : Nat → Nat) (x n : Int) : Nat → Nat := if inB x n = true then upd S x.toNat (nS (L x.toNat) (S x.toNat) n) else S
def forgL (L : Nat → Int) (x : Int) : Nat → Int := if nodeB x = true then upd L x.toNat 0 else L
def forgS (S : Nat → Nat) (x : Int) : Nat → Nat := if nodeB x = true then upd S x.toNat 0 else S
def lastA (L : Nat → Int) (S : Nat → Nat) (x : Int) : Int := if nodeB x = true then (if S x.toNat = 0 then 0 else L x.toNat) else 0
def lastB (S : Nat → Nat) (x : Int) : Bool := nodeB x && !decide (S x.toNat = 0)
def AllG (L : Nat → Int) (S : Nat → Nat) : Prop := ∀ i, DGood (L i) (S i)
theorem allG_step {L : Nat → Int} {S : Nat → Nat} (h : AllG L S) {x n : Int} (hn : n < 9223372036854775808) : AllG (stepL L S x n) (stepS L S x n) := by
  unfold stepL stepS
  by_cases hb : inB x n = true
  · rw [if_pos hb, if_pos hb]
    unfold inB at hb
    rw [decide_eq_true_eq] at hb
    exact fun i => good_upd h x.toNat n hb.2.2 hn i
  · rw [if_neg hb, if_neg hb]
    exact h
theorem allG_forg {L : Nat → Int} {S : Nat → Nat} (h : AllG L S) (x : Int) : AllG (forgL L x) (forgS S x) := by
  unfold forgL forgS
  by_cases hb : nodeB x = true
  · rw [if_pos hb, if_pos hb]
    intro i
    by_cases hi : i = x.toNat
    · subst hi
      rw [upd_same, upd_same]
      exact good_zero 0
    · rw [upd_other _ _ hi, upd_other _ _ hi]
      exact h i
  · rw [if_neg hb, if_neg hb]
    exact h
theorem wnew_any (b : Nat) (L : Nat → Int) (S : Nat → Nat) (x n : Int) (w : World) (h : Win w b L S) (hm : n < 9223372036854775808) (hg : AllG L S) :
    Calls Tryz.prog 150 #[.pointer (some ⟨b, 0, none⟩), .int .i64 x, .int .i64 n] w fun r w' => r = .returned (.bool (ansN L S x n)) ∧ Win w' b (stepL L S x n) (stepS L S x n) ∧ Just b w w' := by
  by_cases hi : 0 ≤ x ∧ x < 16 ∧ 0 ≤ n
  · have hb : inB x n = true := by unfold inB; exact decide_eq_true hi
    unfold ansN stepL stepS
    rw [hb, if_pos rfl, if_pos rfl, Bool.true_and]
    obtain ⟨i, rfl⟩ := Int.eq_ofNat_of_zero_le hi.1
    rw [Int.toNat_natCast]
    exact new_in b i L S n w h (by omega) hi.2.2 hm (hg i)
  · have hb : inB x n = false := by unfold inB; exact decide_eq_false hi
    unfold ansN stepL stepS
    rw [hb, if_neg (by decide), if_neg (by decide)]
    refine (new_out b L S x n w h hi).mono ?_
    rintro r w' ⟨rfl, rfl⟩
    exact ⟨rfl, h, Just.refl _ _⟩
theorem rnew_any (base b k : Nat) (L : Nat → Int) (S : Nat → Nat) (M : Nat → Option Nat) (D : Nat → Dt) (x n : Int) (w : World) (h : Rf w base b L S k M D) (hm : n < 9223372036854775808) (hg : AllG L S) (hk : k < 1000) :
    Calls Tryz.prog 159 #[.pointer (some ⟨b, 0, none⟩), .int .i64 x, .int .i64 n] w fun r w' => r = .returned (.bool (ansN L S x n)) ∧ (∃ M' D', Rf w' base b (stepL L S x n) (stepS L S x n) (k + 1) M' D') ∧ Near b M w w' := by
  by_cases hi : 0 ≤ x ∧ x < 16 ∧ 0 ≤ n
  · have hb : inB x n = true := by unfold inB; exact decide_eq_true hi
    unfold ansN stepL stepS
    rw [hb, if_pos rfl, if_pos rfl, Bool.true_and]
    obtain ⟨i, rfl⟩ := Int.eq_ofNat_of_zero_le hi.1
    rw [Int.toNat_natCast]
    exact rnew_in base b i k L S M D n w h (by omega) hi.2.2 hm (hg i) hk
  · have hb : inB x n = false := by unfold inB; exact decide_eq_false hi
    unfold ansN stepL stepS
    rw [hb, if_neg (by decide), if_neg (by decide)]
    refine (rnew_out b x n w hi).mono ?_
    rintro r w' ⟨rfl, rfl⟩
    exact ⟨rfl, ⟨M, D, h.mono (by omega)⟩, Near.refl _ _ _⟩
theorem rf_zero (w : World) (b base : Nat) (cs : Array Value) (ho : Own w b 103 cs) (hc : cs = (List.replicate 16 [Value.int .i64 0, Value.map none]).flatten.toArray) (hb : b < base) (ht : base ≤ w.heap.size) : Rf w base b (fun _ => 0) (fun _ => 0) 0 (fun _ => none) (fun _ => .map []) where
  blk := Blk.of ho (by rw [hc]; rfl) (fun i hi => by
    rw [hc]
    rcases (show i = 0 ∨ i = 1 ∨ i = 2 ∨ i = 3 ∨ i = 4 ∨ i = 5 ∨ i = 6 ∨ i = 7 ∨ i = 8 ∨ i = 9 ∨ i = 10 ∨ i = 11 ∨ i = 12 ∨ i = 13 ∨ i = 14 ∨ i = 15 ∨ i = 16 ∨ i = 17 ∨ i = 18 ∨ i = 19 ∨ i = 20 ∨ i = 21 ∨ i = 22 ∨ i = 23 ∨ i = 24 ∨ i = 25 ∨ i = 26 ∨ i = 27 ∨ i = 28 ∨ i = 29 ∨ i = 30 ∨ i = 31 by omega) with rfl | rfl | rfl | rfl | rfl | rfl | rfl | rfl | rfl | rfl | rfl | rfl | rfl | rfl | rfl | rfl | rfl | rfl | rfl | rfl | rfl | rfl | rfl | rfl | rfl | rfl | rfl | rfl | rfl | rfl | rfl | rfl <;> rfl)
  low := hb
  top := ht
  none_ _ := by simp
  own _ _ e := by cases e
  is _ := isMap_empty
  tell _ _ e := absurd rfl e
  apart _ _ _ e := by cases e
end Go.Proofs.YtiflmdekcjbmbaaGreat.Dp
