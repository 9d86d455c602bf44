/-
  Package version (chapter 23): a node's plan: NewPlan, Version, Cells, Prepare, Commit.
-/
import Derived.Test.YtdpkiolngglpaaaVeTwo
import Derived.Test.YtdpkiolngglpaaaCeMay
set_option maxRecDepth 100000
namespace Go.Proofs.Ytdpkiolngglpaaa.Ve
set_option linter.unusedVariables false
set_option linter.unusedSimpArgs false
open Go.RowKit Lb Cl Ce Mi Al

/-- A plan: what counts, what was prepared, the cells of both. -/
structure Pn (w : World) (b : Nat) (v p : Int) (u x : Value) (l m : List C) : Prop where
  own : Own w b 76 #[.int .i64 v, .int .i64 p, u, x]
  now : Rv w 0 u l
  next : Rv w 0 x m
theorem rv_low {w : World} {lo : Nat} {v : Value} {l : List C} (h : Rv w lo v l) : Rv w 0 v l := by
  obtain ⟨a, c, h1, h2, h3, h4, h5⟩ := h
  exact ⟨a, c, h1, h2, h3, h4, fun _ _ _ => Nat.zero_le _⟩
theorem rv_none (w : World) (lo : Nat) : Rv w lo (.slice none 0 0) [] := ⟨none, 0, rfl, Nat.le_refl _, Nat.zero_le _, Row.nil _ _ _, fun h => absurd h (by simp)⟩
theorem Pn.no5 {w : World} {b : Nat} {v p : Int} {u x : Value} {l m : List C} (h : Pn w b v p u x l m) : No5 w b := by
  intro off
  refine ⟨3 - off, by omega, fun z e => ?_⟩
  obtain ⟨a, c, rfl, _⟩ := h.next
  rw [h.own.cell] at e
  by_cases h3 : off ≤ 3
  · rw [show off + (3 - off) = 3 by omega] at e
    simp at e
  · rw [Array.getElem?_eq_none (by simp; omega)] at e
    cases e
theorem lv_take (l : List C) (k i : Nat) (hi : i < k * 5) : lv (l.take k) i = lv l i := by
  have : at_ (l.take k) (i / 5) = at_ l (i / 5) := by
    unfold at_
    rw [List.getD_eq_getElem?_getD, List.getD_eq_getElem?_getD, List.getElem?_take, if_pos (by omega)]
  unfold lv cv
  rw [this]
theorem Pn.below {w w' : World} {b : Nat} {v p : Int} {u x : Value} {l m : List C} (h : Pn w b v p u x l m) (j : Below w.heap.size w w') : Pn w' b v p u x l m := ⟨below_own j h.own h.own.lt, h.now.below j, h.next.below j⟩
theorem newplan_any (w : World) : Calls Try.prog 31 #[] w fun r w' => ∃ b, r = .returned (.pointer (some ⟨b, 0, none⟩)) ∧ w.heap.size ≤ b ∧ Pn w' b 0 0 (.slice none 0 0) (.slice none 0 0) [] [] ∧ Below w.heap.size w w' := by
  go_enter Try.func31, Try.ntmps31
  go_wp2_with fail
  go_ret
  exact ⟨_, rfl, Nat.le_refl _, ⟨Own.new w 76 _, rv_none _ _, rv_none _ _⟩, (Below.refl _ _).alloc (Nat.le_refl _) _⟩
theorem pversion_any (b : Nat) (v p : Int) (u x : Value) (l m : List C) (w : World) (h : Pn w b v p u x l m) :
    Calls Try.prog 30 #[.pointer (some ⟨b, 0, none⟩)] w fun r w' => r = .returned (.int .i64 v) ∧ w = w' := by
  have c0 : w.cell? ⟨b, 0, none⟩ = some (.int .i64 v) := h.own.cell 0
  go_enter Try.func30, Try.ntmps30
  go_wp2_with fail
  go_ret
  exact ⟨rfl, rfl⟩
theorem pcells_any (b : Nat) (v p : Int) (u x : Value) (l m : List C) (w : World) (h : Pn w b v p u x l m) (hl : l.length ≤ 100000) :
    Calls Try.prog 29 #[.pointer (some ⟨b, 0, none⟩)] w fun r w' => ∃ a c, r = .returned (.slice a l.length c) ∧ l.length ≤ c ∧ c ≤ maxLen ∧ Row w' a (l.length * 5) (lv l) ∧ Below w.heap.size w w' := by
  have c2 : w.cell? ⟨b, 2, none⟩ = some u := h.own.cell 2
  obtain ⟨a, c, rfl, h1, h2, hrow⟩ := h.now.row
  go_enter Try.func29, Try.ntmps29
  go_wp2_with fail
  refine (clo_any a l.length c l w hrow hl).mono ?_
  rintro r w1 ⟨va, rfl, m1, b1⟩
  obtain ⟨a1, c1, rfl, q1, q2, hr1⟩ := m1.row
  go_wp2_with fail
  go_ret
  exact ⟨a1, c1, rfl, q1, q2, hr1, b1⟩
theorem pcommit_no (b : Nat) (v p y : Int) (u x : Value) (l m : List C) (w : World) (h : Pn w b v p u x l m) (hp : p = 0 ∨ y ≠ p) :
    Calls Try.prog 28 #[.pointer (some ⟨b, 0, none⟩), .int .i64 y] w fun r w' => r = .returned (.int .i64 7) ∧ w = w' := by
  have c1 : w.cell? ⟨b, 1, none⟩ = some (.int .i64 p) := h.own.cell 1
  by_cases hp0 : p = 0
  · subst hp0
    have g0 : ((0 : Int) == 0) = true := by simp
    go_enter Try.func28, Try.ntmps28
    go_wp2_with fail
    go_ret
    exact ⟨rfl, rfl⟩
  · have g0 : (p == 0) = false := by simpa using hp0
    have g1 : (y != p) = true := by simpa using hp.resolve_left hp0
    clear hp0 hp
    go_enter Try.func28, Try.ntmps28
    go_wp2_with fail
    go_ret
    exact ⟨rfl, rfl⟩
theorem pcommit_yes (b : Nat) (v p : Int) (u x : Value) (l m : List C) (w : World) (h : Pn w b v p u x l m) (hp : p ≠ 0) :
    Calls Try.prog 28 #[.pointer (some ⟨b, 0, none⟩), .int .i64 p] w fun r w' => r = .returned (.int .i64 0) ∧ Pn w' b p 0 x (.slice none 0 0) m [] ∧ Just b w w' := by
  have g0 : (p == 0) = false := by simpa using hp
  have g1 : (p != p) = false := by simp
  have hno := h.no5
  obtain ⟨a, c, rfl, hx⟩ := id h.next
  have c0 : w.cell? ⟨b, 0, none⟩ = some (.int .i64 v) := h.own.cell 0
  have c1 : w.cell? ⟨b, 1, none⟩ = some (.int .i64 p) := h.own.cell 1
  have c2 : w.cell? ⟨b, 2, none⟩ = some u := h.own.cell 2
  have c3 : w.cell? ⟨b, 3, none⟩ = some (.slice a m.length c) := h.own.cell 3
  have f0 : w.frozen? ⟨b, 0, none⟩ = false := h.own.free 0
  have f1 : w.frozen? ⟨b, 1, none⟩ = false := h.own.free 1
  have f2 : w.frozen? ⟨b, 2, none⟩ = false := h.own.free 2
  have f3 : w.frozen? ⟨b, 3, none⟩ = false := h.own.free 3
  have H := Lib.hid h
  clear h hx hp
  go_enter Try.func28, Try.ntmps28
  go_wp2_with fail
  go_ret
  have j : Just b w ((((w.setCell ⟨b, 0, none⟩ (.int .i64 p)).setCell ⟨b, 2, none⟩ (.slice a m.length c)).setCell ⟨b, 1, none⟩ (.int .i64 0)).setCell ⟨b, 3, none⟩ (.slice none 0 0)) := (((Just.set b w 0 _).put 2 _).put 1 _).put 3 _
  exact ⟨rfl, ⟨(((H.out.own.put 0 _).put 2 _).put 1 _).put 3 _, rv5_apart H.out.next hno j, rv_none _ _⟩, j⟩
theorem sp_any (x c : C) (w : World) :
    Calls Try.prog 56 #[.agg #[.int .i64 x.f, .int .i64 x.s, .int .i64 x.c, .int .i64 x.o, .int .i64 x.p], .agg #[.int .i64 c.f, .int .i64 c.s, .int .i64 c.c, .int .i64 c.o, .int .i64 c.p]] w fun r w' => (∃ q : Bool, r = .returned (.bool q)) ∧ Below w.heap.size w w' := by
  obtain ⟨x1, x2, x3, x4, x5⟩ := x
  obtain ⟨y1, y2, y3, y4, y5⟩ := c
  have b0 := ((Below.refl w.heap.size w).alloc (Nat.le_refl _) (.cells #[.int .i64 x1, .int .i64 x2, .int .i64 x3, .int .i64 x4, .int .i64 x5] 69)).alloc (by simp) (.cells #[.int .i64 y1, .int .i64 y2, .int .i64 y3, .int .i64 y4, .int .i64 y5] 69)
  obtain ⟨b1, hb1⟩ : ∃ b, (x1 == y1) = b := ⟨_, rfl⟩
  obtain ⟨b2, hb2⟩ : ∃ b, (x2 == y2) = b := ⟨_, rfl⟩
  obtain ⟨b3, hb3⟩ : ∃ b, (x3 == y3) = b := ⟨_, rfl⟩
  cases b1
  · go_enter Try.func56, Try.ntmps56
    go_wp2_with fail
    go_ret
    exact ⟨⟨_, rfl⟩, b0⟩
  · cases b2
    · go_enter Try.func56, Try.ntmps56
      go_wp2_with fail
      go_ret
      exact ⟨⟨_, rfl⟩, b0⟩
    · go_enter Try.func56, Try.ntmps56
      go_wp2_with fail
      go_ret
      exact ⟨⟨_, rfl⟩, b0⟩
theorem tkc_any (x c : C) (cb : Nat) (w : World) (h : Own w cb 69 c.vals) :
    Calls Try.prog 55 #[.agg #[.int .i64 x.f, .int .i64 x.s, .int .i64 x.c, .int .i64 x.o, .int .i64 x.p], .pointer (some ⟨cb, 0, none⟩)] w fun r w' => (∃ q : Bool, r = .returned (.bool q)) ∧ Below w.heap.size w w' := by
  have hsp := fun w => sp_any x c w
  obtain ⟨x1, x2, x3, x4, x5⟩ := x
  obtain ⟨y1, y2, y3, y4, y5⟩ := c
  have b0 := (Below.refl w.heap.size w).alloc (Nat.le_refl _) (.cells #[.int .i64 x1, .int .i64 x2, .int .i64 x3, .int .i64 x4, .int .i64 x5] 69)
  have k1 := Own.alloc (show Own w cb 69 #[.int .i64 y1, .int .i64 y2, .int .i64 y3, .int .i64 y4, .int .i64 y5] from h) (.cells #[.int .i64 x1, .int .i64 x2, .int .i64 x3, .int .i64 x4, .int .i64 x5] 69)
  have k2 := Own.new w 69 #[.int .i64 x1, .int .i64 x2, .int .i64 x3, .int .i64 x4, .int .i64 x5]
  clear h
  go_enter Try.func55, Try.ntmps55
  go_upto_region 1 with (fail)
  obtain ⟨xb, hxb⟩ : ∃ q, w.heap.size = q := ⟨_, rfl⟩
  have hs := b0.size
  rw [hxb] at k2 ⊢
  generalize w.alloc (.cells #[.int .i64 x1, .int .i64 x2, .int .i64 x3, .int .i64 x4, .int .i64 x5] 69) = wx at *
  have d0 : wx.cell? ⟨cb, 0, none⟩ = some (.int .i64 y1) := k1.cell 0
  have d1 : wx.cell? ⟨cb, 1, none⟩ = some (.int .i64 y2) := k1.cell 1
  have d2 : wx.cell? ⟨cb, 2, none⟩ = some (.int .i64 y3) := k1.cell 2
  have d3 : wx.cell? ⟨cb, 3, none⟩ = some (.int .i64 y4) := k1.cell 3
  have d4 : wx.cell? ⟨cb, 4, none⟩ = some (.int .i64 y5) := k1.cell 4
  have e0 : wx.cell? ⟨xb, 0, none⟩ = some (.int .i64 x1) := k2.cell 0
  have e1 : wx.cell? ⟨xb, 1, none⟩ = some (.int .i64 x2) := k2.cell 1
  have e2 : wx.cell? ⟨xb, 2, none⟩ = some (.int .i64 x3) := k2.cell 2
  have e3 : wx.cell? ⟨xb, 3, none⟩ = some (.int .i64 x4) := k2.cell 3
  have e4 : wx.cell? ⟨xb, 4, none⟩ = some (.int .i64 x5) := k2.cell 4
  go_wp2_with fail
  refine (hsp _).mono ?_
  rintro r w5 ⟨⟨q, rfl⟩, b5⟩
  go_wp2_with fail
  go_ret
  exact ⟨⟨q, rfl⟩, b0.trans (b5.mono hs)⟩
theorem idxv_any (a : Option Addr) (n m : Nat) (l : List C) (c : C) (cb : Nat) (w : World) (hR : Row w a (n * 5) (lv l)) (hl : l.length = n) (hn : n ≤ 100000) (h : Own w cb 69 c.vals) :
    Calls Try.prog 66 #[.slice a n m, .func (.func 55) #[] #[.pointer (some ⟨cb, 0, none⟩)]] w fun r w' => (∃ z : Int, r = .returned (.int .i64 z)) ∧ Below w.heap.size w w' := by
  have HR := Lib.hid hR
  have HO := Lib.hid h
  have HL := Lib.hid hl
  have hcb := h.lt
  clear hR h hl
  go_enter Try.func66, Try.ntmps66
  go_wp2_with fail
  go_loopw [8] (fun i wr => ∃ k : Nat, i = .int .i64 k ∧ k ≤ n ∧ Below w.heap.size w wr) (fun i _ => n - (intOf i).toNat)
  case atStart => exact ⟨0, rfl, by omega, Below.refl _ _⟩
  case round =>
    obtain ⟨k, rfl, hk, b1⟩ := hrel
    by_cases hlt : k < n
    · obtain ⟨b, off, rfl, hbl, c0, c1, c2, c3, c4⟩ := crow HR.out b1 hlt
      have HO2 := below_own b1 HO.out hcb
      have htk := fun w' (h' : Own w' cb 69 c.vals) => tkc_any (at_ l k) c cb w' h'
      obtain ⟨x, hx⟩ : ∃ x, at_ l k = x := ⟨_, rfl⟩
      rw [hx] at c0 c1 c2 c3 c4 htk
      clear hx
      go_wp2_with (go_at_call 55; refine (htk _ HO2).mono ?_; rintro r w5 ⟨⟨q, rfl⟩, b5⟩)
      · go_ret
        exact ⟨⟨_, rfl⟩, b1.trans (b5.mono b1.size)⟩
      · exact ⟨⟨k + 1, by simp, by omega, b1.trans (b5.mono b1.size)⟩, by simp [intOf]; omega⟩
    · go_wp2_with fail
      go_ret
      exact ⟨⟨_, rfl⟩, b1⟩
theorem conv_any (a : Option Addr) (n m : Nat) (l : List C) (c : C) (cb : Nat) (w : World) (hR : Row w a (n * 5) (lv l)) (hl : l.length = n) (hn : n ≤ 100000) (h : Own w cb 69 c.vals) :
    Calls Try.prog 54 #[.slice a n m, .func (.func 55) #[] #[.pointer (some ⟨cb, 0, none⟩)]] w fun r w' => (∃ q : Bool, r = .returned (.bool q)) ∧ Below w.heap.size w w' := by
  have hi := idxv_any a n m l c cb w hR hl hn h
  clear hR h
  go_enter Try.func54, Try.ntmps54
  go_wp2_with (go_at_call 66; refine hi.mono ?_; rintro r w5 ⟨⟨z, rfl⟩, b5⟩)
  go_ret
  exact ⟨⟨_, rfl⟩, b5⟩
theorem cmay_any (a : Option Addr) (n c : Nat) (l : List C) (w : World) (hR : Row w a (n * 5) (lv l)) (hl : l.length = n) (hn : n ≤ 100000) (hc : n ≤ c) (hm : c ≤ maxLen) :
    Calls Try.prog 40 #[.slice a n c] w fun r w' => (∃ q : Bool, r = .returned (.bool q)) ∧ Below w.heap.size w w' := by
  unfold maxLen at hm
  have hn63 : (n : Int) ≤ 9223372036854775807 := by omega
  have HR := Lib.hid hR
  have HL := Lib.hid hl
  clear hR hl
  by_cases h64 : 64 < n
  · have g0 : decide ((64 : Int) < (n : Int)) = true := by simp; omega
    have g0' : decide (64 < n) = true := by simpa using h64
    go_enter Try.func40, Try.ntmps40
    go_wp2_with fail
    go_ret
    exact ⟨⟨_, rfl⟩, Below.refl _ _⟩
  have g0 : decide ((64 : Int) < (n : Int)) = false := by simp; omega
  have g0' : decide (64 < n) = false := by simpa using h64
  go_enter Try.func40, Try.ntmps40
  go_wp2_with fail
  clear g0 g0'
  go_loopw [10] (fun i wr => ∃ k : Nat, i = .int .i64 k ∧ k ≤ n ∧ Below w.heap.size w wr) (fun i _ => n - (intOf i).toNat)
  case atStart => exact ⟨0, rfl, by omega, Below.refl _ _⟩
  case round =>
    obtain ⟨k, rfl, hk, b1⟩ := hrel
    by_cases hlt : k < n
    · obtain ⟨b, off, rfl, hbl, c0, c1, c2, c3, c4⟩ := crow HR.out b1 hlt
      obtain ⟨x, hx⟩ : ∃ x, at_ l k = x := ⟨_, rfl⟩
      rw [hx] at c0 c1 c2 c3 c4
      clear hx
      have ox := Own.new wr 69 #[.int .i64 x.f, .int .i64 x.s, .int .i64 x.c, .int .i64 x.o, .int .i64 x.p]
      have b2 := b1.alloc b1.size (.cells #[.int .i64 x.f, .int .i64 x.s, .int .i64 x.c, .int .i64 x.o, .int .i64 x.p] 69)
      go_upto_region 6 with (fail)
      obtain ⟨xb, hxb⟩ : ∃ q, wr.heap.size = q := ⟨_, rfl⟩
      rw [hxb] at ox ⊢
      generalize wr.alloc (.cells #[.int .i64 x.f, .int .i64 x.s, .int .i64 x.c, .int .i64 x.o, .int .i64 x.p] 69) = wx at *
      clear c0 c1 c2 c3 c4 hxb b1
      have e0 : wx.cell? ⟨xb, 0, none⟩ = some (.int .i64 x.f) := ox.cell 0
      have e1 : wx.cell? ⟨xb, 1, none⟩ = some (.int .i64 x.s) := ox.cell 1
      have e2 : wx.cell? ⟨xb, 2, none⟩ = some (.int .i64 x.c) := ox.cell 2
      have e3 : wx.cell? ⟨xb, 3, none⟩ = some (.int .i64 x.o) := ox.cell 3
      have e4 : wx.cell? ⟨xb, 4, none⟩ = some (.int .i64 x.p) := ox.cell 4
      have PM := fun w => may_any x.f x.s x.c x.o x.p w
      cases hq : mayC x.f x.s x.c x.o x.p
      · rw [hq] at PM
        go_wp2_with (go_at_call 45; refine (PM _).mono ?_; rintro r w5 ⟨rfl, b5⟩)
        go_ret
        exact ⟨⟨_, rfl⟩, b2.trans (b5.mono b2.size)⟩
      · rw [hq] at PM
        have PC := fun w5 (b5 : Below wx.heap.size wx w5) => conv_any (some ⟨b, off, none⟩) k c (l.take k) x xb w5 (by
          have h1 := (HR.out.below (b2.trans (b5.mono b2.size))).cut (m := k * 5) (by omega)
          exact fun h0 => by
            obtain ⟨b', o', e, q1, q2⟩ := h1 h0
            exact ⟨b', o', e, q1, fun i hi => (q2 i hi).trans (congrArg some (lv_take l k i hi).symm)⟩) (by rw [List.length_take, HL.out]; omega) (by omega) (below_own b5 ox ox.lt)
        go_wp2_with (first | (go_at_call 45; refine (PM _).mono ?_; rintro r w5 ⟨rfl, b5⟩; have PC := PC w5 b5) | (go_at_call 54; refine PC.mono ?_; rintro r w6 ⟨⟨q, rfl⟩, b6⟩))
        · go_ret
          exact ⟨⟨_, rfl⟩, (b2.trans (b5.mono b2.size)).trans (b6.mono (Nat.le_trans b2.size b5.size))⟩
        · exact ⟨⟨k + 1, by simp, by omega, (b2.trans (b5.mono b2.size)).trans (b6.mono (Nat.le_trans b2.size b5.size))⟩, by simp [intOf]; omega⟩
    · go_wp2_with fail
      go_ret
      exact ⟨⟨_, rfl⟩, b1⟩
theorem just_after {b : Nat} {u v w : World} (h : Below u.heap.size u v) (j : Just b v w) : Just b u w :=
  ⟨j.os.trans h.os, j.tape.trans h.tape, j.output.trans h.output, Nat.le_trans h.size j.size, fun k hk hb => (j.block k (Nat.lt_of_lt_of_le hk h.size) hb).trans (h.block k hk)⟩
theorem prepare_any (b : Nat) (v p y : Int) (u x : Value) (l m L : List C) (a : Option Addr) (n c : Nat) (w : World) (h : Pn w b v p u x l m) (hR : Row w a (n * 5) (lv L)) (hl : L.length = n) (hn : n ≤ 100000) (hc : n ≤ c) (hm : c ≤ maxLen) :
    Calls Try.prog 27 #[.pointer (some ⟨b, 0, none⟩), .int .i64 y, .slice a n c] w fun r w' => ∃ e : Int, r = .returned (.int .i64 e) ∧ ((e ≠ 0 ∧ Below w.heap.size w w') ∨ (e = 0 ∧ 1 ≤ y ∧ v < y ∧ ∃ x', Pn w' b v y u x' l (srtC L) ∧ Just b w w')) := by
  have c0 : w.cell? ⟨b, 0, none⟩ = some (.int .i64 v) := h.own.cell 0
  have H := Lib.hid h
  have PC := cmay_any a n c L w hR hl hn hc hm
  have hno := h.no5
  by_cases hy : y < 1
  · have g0 : decide (y < 1) = true := by simpa using hy
    go_enter Try.func27, Try.ntmps27
    go_wp2_with fail
    go_ret
    exact ⟨_, rfl, .inl ⟨by decide, Below.refl _ _⟩⟩
  have g0 : decide (y < 1) = false := by simpa using hy
  have HR := Lib.hid hR
  clear h hR
  go_enter Try.func27, Try.ntmps27
  go_wp2_with fail
  refine PC.mono ?_
  rintro r w1 ⟨⟨q, rfl⟩, b1⟩
  cases q
  · go_wp2_with fail
    go_ret
    exact ⟨_, rfl, .inl ⟨by decide, b1⟩⟩
  have H1 := H.out.below b1
  have c0 : w1.cell? ⟨b, 0, none⟩ = some (.int .i64 v) := H1.own.cell 0
  by_cases hv : y ≤ v
  · have g1 : decide (y ≤ v) = true := by simpa using hv
    go_wp2_with fail
    go_ret
    exact ⟨_, rfl, .inl ⟨by decide, b1⟩⟩
  have g1 : decide (y ≤ v) = false := by simpa using hv
  have PI := ino_any a c L w1 (by rw [hl]; exact HR.out.below b1) (by rw [hl]; exact hn)
  rw [hl] at PI
  clear PC
  go_wp2_with fail
  refine PI.mono ?_
  rintro r w2 ⟨v2, rfl, hv2, b2⟩
  have H2 := H1.below b2
  obtain ⟨a5, c5, rfl, _⟩ := id hv2
  have d1 : w2.cell? ⟨b, 1, none⟩ = some (.int .i64 p) := H2.own.cell 1
  have d3 : w2.cell? ⟨b, 3, none⟩ = some x := H2.own.cell 3
  have f1 : w2.frozen? ⟨b, 1, none⟩ = false := H2.own.free 1
  have f3 : w2.frozen? ⟨b, 3, none⟩ = false := H2.own.free 3
  have b12 := b1.trans (b2.mono b1.size)
  have H2 := Lib.hid H2
  have HV2 := Lib.hid hv2
  clear H1 PI b2 b1 c0 hv2
  go_wp2_with fail
  go_ret
  have hno2 := H2.out.no5
  have j : Just b w2 ((w2.setCell ⟨b, 1, none⟩ (.int .i64 y)).setCell ⟨b, 3, none⟩ (.slice a5 (srtC L).length c5)) := (Just.set b w2 1 _).put 3 _
  exact ⟨_, rfl, .inr ⟨rfl, by omega, by omega, _, ⟨(H2.out.own.put 1 _).put 3 _, rv5_apart H2.out.now hno2 j, rv5_apart (rv_low HV2.out) hno2 j⟩, just_after b12 j⟩⟩
/-- What Prepare makes: an error, and nothing turned; or the cells lie ready, and the plan alone turned. -/
def PrepPost (b : Nat) (v p y : Int) (u : Value) (l L : List C) (w : World) (e : Int) (w' : World) : Prop := (e ≠ 0 ∧ Below w.heap.size w w') ∨ (e = 0 ∧ 1 ≤ y ∧ v < y ∧ ∃ x', Pn w' b v y u x' l (srtC L) ∧ Just b w w')
theorem PrepPost.cell {b : Nat} {v p y e : Int} {u : Value} {l L : List C} {w w' : World} (h : PrepPost b v p y u l L w e w') {q : Addr} {z : Value} (hc : w.cell? q = some z) (hq : q.block ≠ b) : w'.cell? q = some z := by
  have hl := lt_of_cell hc
  have : w'.heap[q.block]? = w.heap[q.block]? := by
    rcases h with ⟨_, j⟩ | ⟨_, _, _, x', _, j⟩
    · exact j.block _ hl
    · exact j.block _ hl hq
  unfold World.cell? at hc ⊢
  rw [this]
  exact hc
theorem prepare_post (b : Nat) (v p y : Int) (u x : Value) (l m L : List C) (a : Option Addr) (n c : Nat) (w : World) (h : Pn w b v p u x l m) (hR : Row w a (n * 5) (lv L)) (hl : L.length = n) (hn : n ≤ 100000) (hc : n ≤ c) (hm : c ≤ maxLen) :
    Calls Try.prog 27 #[.pointer (some ⟨b, 0, none⟩), .int .i64 y, .slice a n c] w fun r w' => ∃ e : Int, r = .returned (.int .i64 e) ∧ PrepPost b v p y u l L w e w' :=
  prepare_any b v p y u x l m L a n c w h hR hl hn hc hm
end Go.Proofs.Ytdpkiolngglpaaa.Ve
