/-
  Law IeFields: what a kind has not is zero: with anything there it may not be; the call returns true. No condition.
-/
import Derived.Test.YtlmbkgcclanpmaaIeLaw
import Derived.Deep.CutBlock
set_option maxRecDepth 100000
namespace Go.Proofs.Ytlmbkgcclanpmaa.IeFields
set_option linter.unusedVariables false
open Go.RowKit Go.ChangeShapes Go.WideShapes Go.ChangeAt Go.Deep Lb Bf Ie
set_option linter.unusedVariables false
theorem own : ownKnob Try.prog.godebug = none := by kernel_rfl
theorem laidOut : laidOutB Try.prog = true := by kernel_rfl
theorem one_els {w : World} {e : El} {a : Option Addr} {c : Nat} {g : Nat} (h : e.At w a c) (hr : Row w (some ⟨g, 0, none⟩) 5 (ev [⟨e, a, c⟩])) : Els w [⟨e, a, c⟩] (some ⟨g, 0, none⟩) 1 :=
  ⟨Nat.le_refl _, by unfold maxLen; decide, hr, fun k hk => by
    obtain rfl : k = 0 := by simp at hk; omega
    exact h⟩
theorem one_no {e : El} {a : Option Addr} {c : Nat} (h : mayE e = false) : mayL (els [⟨e, a, c⟩]) = false := by
  simp [els, mayL, h]
theorem alike_no {e f : El} (he : mayE e = true) (hf : mayE f = false) : sameE e f = false := by
  cases h : sameE e f
  · rfl
  · rw [sameE_eq h, hf] at he
    cases he
theorem tw1 {asn rank t n : Int} {l : List Int} (hn : n ≠ 0) : mayE ⟨1, asn, rank, n, l⟩ = false := by
  cases h : mayE ⟨1, asn, rank, n, l⟩
  · rfl
  · have := (mayE_out h).2
    unfold Ie.own at this
    simp at this
    omega
theorem tw2 {asn rank t n : Int} {l : List Int} (hn : n ≠ 0) : mayE ⟨2, asn, n, t, l⟩ = false := by
  cases h : mayE ⟨2, asn, n, t, l⟩
  · rfl
  · have := (mayE_out h).2
    unfold Ie.own at this
    simp at this
    omega
theorem tw0 {k rank t n : Int} {l : List Int} (k1 : k ≠ 1) (k2 : k ≠ 2) (hn : n ≠ 0) : mayE ⟨k, n, rank, t, l⟩ = false := by
  cases h : mayE ⟨k, n, rank, t, l⟩
  · rfl
  · have := (mayE_out h).2
    unfold Ie.own at this
    rw [if_neg k1, if_neg k2] at this
    simp at this
    omega
theorem tw {e : El} {n : Int} (hn : n ≠ 0) : mayE (if e.k = 1 then { e with ticks := n } else if e.k = 2 then { e with rank := n } else { e with asn := n }) = false := by
  obtain ⟨k, asn, rank, t, l⟩ := e
  by_cases k1 : k = 1
  · subst k1; exact tw1 (t := 0) hn
  by_cases k2 : k = 2
  · subst k2; simp; exact tw2 (rank := 0) hn
  · simp [k1, k2]; exact tw0 k1 k2 hn
/-- The next world is one of them, too. -/
theorem ext_next {v w' : World} (x : Ext v) (h : Below x.toW.heap.size x.toW w') : ∃ y : Ext v, w' = y.toW := ⟨⟨w', x.ok.trans (h.mono x.ok.size)⟩, rfl⟩
set_option maxHeartbeats 1000000 in
theorem body (k asn rank t : Int) (l : List Int) (a : Option Addr) (c : Nat) (n : Int) (w : World) (h : (⟨k, asn, rank, t, l⟩ : El).At w a c) :
    Calls Try.prog 6 #[.agg #[.int .i64 k, .int .i64 asn, .int .i64 rank, .int .i64 t, .slice a l.length c], .int .i64 n] w fun r w' => r = .returned (.bool true) ∧ Below w.heap.size w w' := by
  have o1 := Own.new w 27 #[.int .i64 k, .int .i64 asn, .int .i64 rank, .int .i64 t, .slice a l.length c]
  have b0 := (Below.refl w.heap.size w).alloc (Nat.le_refl _) (.cells #[.int .i64 k, .int .i64 asn, .int .i64 rank, .int .i64 t, .slice a l.length c] 27)
  have h1 := h.below b0
  have hsz : w.heap.size + 1 ≤ (w.alloc (.cells #[.int .i64 k, .int .i64 asn, .int .i64 rank, .int .i64 t, .slice a l.length c] 27)).heap.size := by simp
  skip
  go_enter Try.func6, Try.ntmps6
  go_upto_region 1 with (fail)
  generalize w.alloc (.cells #[.int .i64 k, .int .i64 asn, .int .i64 rank, .int .i64 t, .slice a l.length c] 27) = w1 at *
  obtain ⟨g, hg⟩ : ∃ g, w.heap.size = g := ⟨_, rfl⟩
  rw [hg] at hsz o1 b0 ⊢
  have HG := Lib.hid hg
  clear hg
  have x0 : w1.cell? ⟨g, 0, none⟩ = some (.int .i64 k) := o1.cell 0
  have x1 : w1.cell? ⟨g, 1, none⟩ = some (.int .i64 asn) := o1.cell 1
  have x2 : w1.cell? ⟨g, 2, none⟩ = some (.int .i64 rank) := o1.cell 2
  have x3 : w1.cell? ⟨g, 3, none⟩ = some (.int .i64 t) := o1.cell 3
  have x4 : w1.cell? ⟨g, 4, none⟩ = some (.slice a l.length c) := o1.cell 4
  have r1 := row_new (n := 5) (V := ev [⟨⟨k, asn, rank, t, l⟩, a, c⟩]) w1 #[.int .i64 k, .int .i64 asn, .int .i64 rank, .int .i64 t, .slice a l.length c] 27 (0, 0) (fun i hi => by rcases (show i = 0 ∨ i = 1 ∨ i = 2 ∨ i = 3 ∨ i = 4 by omega) with rfl | rfl | rfl | rfl | rfl <;> rfl)
  have ba : Below w1.heap.size w1 (w1.alloc (.cells #[.int .i64 k, .int .i64 asn, .int .i64 rank, .int .i64 t, .slice a l.length c] 27)) := (Below.refl _ _).alloc (Nat.le_refl _) _
  have hL := light_any [⟨⟨k, asn, rank, t, l⟩, a, c⟩] (some ⟨w1.heap.size, 0, none⟩) 1 _ (one_els (h1.below ba) r1)
  simp only [List.length_cons, List.length_nil, Nat.zero_add] at hL
  have b1 := b0.trans (ba.mono (by omega))
  have o2 := below_own ba o1 (by omega)
  have h2 := h1.below ba
  have hs2 : w1.heap.size + 1 ≤ (w1.alloc (.cells #[.int .i64 k, .int .i64 asn, .int .i64 rank, .int .i64 t, .slice a l.length c] 27)).heap.size := by simp
  clear ba r1
  go_wp2_with fail
  generalize w1.alloc (.cells #[.int .i64 k, .int .i64 asn, .int .i64 rank, .int .i64 t, .slice a l.length c] 27) = w2 at *
  with_reducible refine hL.mono ?_
  rintro r w3 ⟨x, rfl, hx, b3⟩
  have o3 := below_own b3 o2 (by omega)
  have h3 := h2.below b3
  have b2 := b1.trans (b3.mono (by omega))
  have hs3 : g + 1 < w3.heap.size := by have := b3.size; omega
  have HX := Lib.hid hx
  clear x0 x1 x2 x3 x4 hL o1 o2 h1 h2 b0 b1 b3 hs2 hsz hx
  have x0 : w3.cell? ⟨g, 0, none⟩ = some (.int .i64 k) := o3.cell 0
  have x1 : w3.cell? ⟨g, 1, none⟩ = some (.int .i64 asn) := o3.cell 1
  have x2 : w3.cell? ⟨g, 2, none⟩ = some (.int .i64 rank) := o3.cell 2
  have x3 : w3.cell? ⟨g, 3, none⟩ = some (.int .i64 t) := o3.cell 3
  have x4 : w3.cell? ⟨g, 4, none⟩ = some (.slice a l.length c) := o3.cell 4
  by_cases hx0 : 0 < x
  · have g1 : decide ((0 : Int) < (x : Int)) = true := by simp; omega
    have g1' : decide (0 < x) = true := by simp; omega
    go_wp2_with fail
    refine (awake_any _).mono ?_
    rintro r w9 ⟨rfl, b9⟩
    go_wp2_with fail
    go_ret
    exact ⟨rfl, by rw [HG.out]; exact b2.trans (b9.mono (by omega))⟩
  have g1 : decide ((0 : Int) < (x : Int)) = false := by simp; omega
  have g1' : decide (0 < x) = false := by simp; omega
  have hm := may_any ⟨k, asn, rank, t, l⟩ a c w3 h3
  unfold El.vals at hm
  simp only at hm
  cases hmay : mayE ⟨k, asn, rank, t, l⟩
  · rw [hmay] at hm
    have HM := Lib.hid hm
    clear hm hmay
    go_wp2_with fail
    refine HM.out.mono ?_
    rintro r w4 ⟨rfl, b4⟩
    go_wp2_with fail
    refine (awake_any _).mono ?_
    rintro r w9 ⟨rfl, b9⟩
    go_wp2_with fail
    go_ret
    exact ⟨rfl, by rw [HG.out]; exact (b2.trans (b4.mono (by omega))).trans (b9.mono (by have := b4.size; omega))⟩
  rw [hmay] at hm
  have HM := Lib.hid hm
  have HMAY := Lib.hid hmay
  clear hm hmay
  by_cases hn : n = 0
  · subst hn
    go_wp2_with fail
    refine HM.out.mono ?_
    rintro r w4 ⟨rfl, b4⟩
    go_wp2_with fail
    refine (awake_any _).mono ?_
    rintro r w9 ⟨rfl, b9⟩
    go_wp2_with fail
    go_ret
    exact ⟨rfl, by rw [HG.out]; exact (b2.trans (b4.mono (by omega))).trans (b9.mono (by have := b4.size; omega))⟩
  have g2 : (n == 0) = false := by simpa using hn
  go_wp2_with fail
  refine HM.out.mono ?_
  rintro r w4 ⟨rfl, b4⟩
  have o4 := below_own b4 o3 (by omega)
  have h4 := h3.below b4
  have b5 := b2.trans (b4.mono (by omega))
  have hs4 : g + 1 < w4.heap.size := by have := b4.size; omega
  clear x0 x1 x2 x3 x4 o3 h3 b2 b4 HM g1 g1' HX hx0
  have x0 : w4.cell? ⟨g, 0, none⟩ = some (.int .i64 k) := o4.cell 0
  have x1 : w4.cell? ⟨g, 1, none⟩ = some (.int .i64 asn) := o4.cell 1
  have x2 : w4.cell? ⟨g, 2, none⟩ = some (.int .i64 rank) := o4.cell 2
  have x3 : w4.cell? ⟨g, 3, none⟩ = some (.int .i64 t) := o4.cell 3
  have x4 : w4.cell? ⟨g, 4, none⟩ = some (.slice a l.length c) := o4.cell 4
  go_upto_region 4 with (fail)
  have o6 := Own.new w4 27 #[.int .i64 k, .int .i64 asn, .int .i64 rank, .int .i64 t, .slice a l.length c]
  have o7 : Own (w4.alloc (.cells #[.int .i64 k, .int .i64 asn, .int .i64 rank, .int .i64 t, .slice a l.length c] 27)) g 27 #[.int .i64 k, .int .i64 asn, .int .i64 rank, .int .i64 t, .slice a l.length c] := o4.alloc _
  have b6 := b5.alloc (by omega) (.cells #[.int .i64 k, .int .i64 asn, .int .i64 rank, .int .i64 t, .slice a l.length c] 27)
  have b46 := (Below.refl w4.heap.size w4).alloc (Nat.le_refl _) (.cells #[.int .i64 k, .int .i64 asn, .int .i64 rank, .int .i64 t, .slice a l.length c] 27)
  clear x0 x1 x2 x3 x4 o4 b5
  generalize w4.alloc (.cells #[.int .i64 k, .int .i64 asn, .int .i64 rank, .int .i64 t, .slice a l.length c] 27) = w5 at *
  obtain ⟨g6, hg6⟩ : ∃ g6, w4.heap.size = g6 := ⟨_, rfl⟩
  have HG6 := Lib.hid hg6
  rw [hg6] at o6 hs4 b46 ⊢
  clear hg6
  have x0 : w5.cell? ⟨g, 0, none⟩ = some (.int .i64 k) := o7.cell 0
  go_upto_block 0 with (fail)
  go_cut [34] from 21 to 34 (fun _ wx => ∃ f : El, Own wx g 27 #[.int .i64 k, .int .i64 asn, .int .i64 rank, .int .i64 t, .slice a l.length c] ∧ Own wx g6 27 (f.vals a c) ∧ Hid (f.list = l) ∧ Hid (mayE f = false) ∧ Below g6 w5 wx)
  case first =>
    have y1 : w5.cell? ⟨g6, 1, none⟩ = some (.int .i64 asn) := o6.cell 1
    have y2 : w5.cell? ⟨g6, 2, none⟩ = some (.int .i64 rank) := o6.cell 2
    have y3 : w5.cell? ⟨g6, 3, none⟩ = some (.int .i64 t) := o6.cell 3
    have z1 := o6.free 1
    have z2 := o6.free 2
    have z3 := o6.free 3
    have hg6 : g6 ≠ g := by omega
    by_cases k1 : k = 1
    · have g3 : (k == 1) = true := by simpa using k1
      have HF := Lib.hid (tw (e := ⟨k, asn, rank, t, l⟩) hn)
      have K1 := Lib.hid k1
      clear k1 hn
      go_wp2_with fail
      go_meet
      refine ⟨⟨k, asn, rank, n, l⟩, o7.apart (p := ⟨g6, 3, none⟩) (by simpa using Ne.symm hg6) _, o6.put 3 _, Lib.hid rfl, Lib.hid ?_, (Below.refl _ _).setCell (p := ⟨g6, 3, none⟩) (Nat.le_refl _) _⟩
      have := HF.out
      rwa [if_pos K1.out] at this
    · have g3 : (k == 1) = false := by simpa using k1
      by_cases k2 : k = 2
      · have g4 : (k == 2) = true := by simpa using k2
        have HF := Lib.hid (tw (e := ⟨k, asn, rank, t, l⟩) hn)
        have K1 := Lib.hid k1
        have K2 := Lib.hid k2
        clear k1 k2 hn
        go_wp2_with fail
        go_meet
        refine ⟨⟨k, asn, n, t, l⟩, o7.apart (p := ⟨g6, 2, none⟩) (by simpa using Ne.symm hg6) _, o6.put 2 _, Lib.hid rfl, Lib.hid ?_, (Below.refl _ _).setCell (p := ⟨g6, 2, none⟩) (Nat.le_refl _) _⟩
        have := HF.out
        rwa [if_neg K1.out, if_pos K2.out] at this
      · have g4 : (k == 2) = false := by simpa using k2
        have HF := Lib.hid (tw (e := ⟨k, asn, rank, t, l⟩) hn)
        have K1 := Lib.hid k1
        have K2 := Lib.hid k2
        clear k1 k2 hn
        go_wp2_with fail
        go_meet
        refine ⟨⟨k, n, rank, t, l⟩, o7.apart (p := ⟨g6, 1, none⟩) (by simpa using Ne.symm hg6) _, o6.put 1 _, Lib.hid rfl, Lib.hid ?_, (Below.refl _ _).setCell (p := ⟨g6, 1, none⟩) (Nat.le_refl _) _⟩
        have := HF.out
        rwa [if_neg K1.out, if_neg K2.out] at this
  case rest =>
    clear o7 o6
    obtain ⟨f, o7, o6, HFL, HFM, b7⟩ := hcut
    have b8 := b6.trans (b7.mono (by omega))
    have hE : (⟨k, asn, rank, t, l⟩ : El).At wc a c := h4.below (by rw [HG6.out]; exact b46.trans b7)
    obtain ⟨fk, fa, fr, ft, fl⟩ := f
    have hfl : fl = l := HFL.out
    subst hfl
    have hF : (⟨fk, fa, fr, ft, fl⟩ : El).At wc a c := ⟨hE.lc, hE.cm, hE.row, hE.nil⟩
    have hsc : g6 < wc.heap.size := o6.lt
    clear h4 b46 b7 b6 HFL x0 hn
    have y0 : wc.cell? ⟨g6, 0, none⟩ = some (.int .i64 fk) := o6.cell 0
    have y1 : wc.cell? ⟨g6, 1, none⟩ = some (.int .i64 fa) := o6.cell 1
    have y2 : wc.cell? ⟨g6, 2, none⟩ = some (.int .i64 fr) := o6.cell 2
    have y3 : wc.cell? ⟨g6, 3, none⟩ = some (.int .i64 ft) := o6.cell 3
    have y4 : wc.cell? ⟨g6, 4, none⟩ = some (.slice a fl.length c) := o6.cell 4
    have r1 := row_new (n := 5) (V := ev [⟨⟨fk, fa, fr, ft, fl⟩, a, c⟩]) wc #[.int .i64 fk, .int .i64 fa, .int .i64 fr, .int .i64 ft, .slice a fl.length c] 27 (0, 0) (fun i hi => by rcases (show i = 0 ∨ i = 1 ∨ i = 2 ∨ i = 3 ∨ i = 4 by omega) with rfl | rfl | rfl | rfl | rfl <;> rfl)
    have ba : Below wc.heap.size wc (wc.alloc (.cells #[.int .i64 fk, .int .i64 fa, .int .i64 fr, .int .i64 ft, .slice a fl.length c] 27)) := (Below.refl _ _).alloc (Nat.le_refl _) _
    have hL := encode_any [⟨⟨fk, fa, fr, ft, fl⟩, a, c⟩] (some ⟨wc.heap.size, 0, none⟩) 1 _ (one_els (hF.below ba) r1)
    have b9 := b8.trans (ba.mono (by omega))
    have p7 := below_own ba o7 (by omega)
    have p6 := below_own ba o6 (by omega)
    have hE9 := hE.below ba
    have hF9 := hF.below ba
    simp only [List.length_cons, List.length_nil, Nat.zero_add] at hL
    have hs9 : g6 < (wc.alloc (.cells #[.int .i64 fk, .int .i64 fa, .int .i64 fr, .int .i64 ft, .slice a fl.length c] 27)).heap.size := by simp; omega
    clear ba r1 b8 o7 o6 hE hF
    go_wp2_with fail
    generalize wc.alloc (.cells #[.int .i64 fk, .int .i64 fa, .int .i64 fr, .int .i64 ft, .slice a fl.length c] 27) = w6 at *
    with_reducible refine hL.mono ?_
    intro r w7 hp
    unfold EncPost at hp
    rw [one_no HFM.out, if_neg (by decide)] at hp
    obtain ⟨rfl, bb⟩ := hp
    have o7 := below_own bb p7 (by omega)
    have o6 := below_own bb p6 (by omega)
    have hE := hE9.below bb
    have hF := hF9.below bb
    have b8 := b9.trans (bb.mono (by omega))
    have hs7 : g6 < w7.heap.size := o6.lt
    clear y0 y1 y2 y3 y4 hL p7 p6 hE9 hF9 bb b9 hs9
    go_upto_region 11 with (fail)
    have x0 : ∀ x : Ext w7, x.toW.cell? ⟨g, 0, none⟩ = some (.int .i64 k) := fun x => keep_cell x.ok (o7.cell 0)
    have x1 : ∀ x : Ext w7, x.toW.cell? ⟨g, 1, none⟩ = some (.int .i64 asn) := fun x => keep_cell x.ok (o7.cell 1)
    have x2 : ∀ x : Ext w7, x.toW.cell? ⟨g, 2, none⟩ = some (.int .i64 rank) := fun x => keep_cell x.ok (o7.cell 2)
    have x3 : ∀ x : Ext w7, x.toW.cell? ⟨g, 3, none⟩ = some (.int .i64 t) := fun x => keep_cell x.ok (o7.cell 3)
    have x4 : ∀ x : Ext w7, x.toW.cell? ⟨g, 4, none⟩ = some (.slice a fl.length c) := fun x => keep_cell x.ok (o7.cell 4)
    have y0 : ∀ x : Ext w7, x.toW.cell? ⟨g6, 0, none⟩ = some (.int .i64 fk) := fun x => keep_cell x.ok (o6.cell 0)
    have y1 : ∀ x : Ext w7, x.toW.cell? ⟨g6, 1, none⟩ = some (.int .i64 fa) := fun x => keep_cell x.ok (o6.cell 1)
    have y2 : ∀ x : Ext w7, x.toW.cell? ⟨g6, 2, none⟩ = some (.int .i64 fr) := fun x => keep_cell x.ok (o6.cell 2)
    have y3 : ∀ x : Ext w7, x.toW.cell? ⟨g6, 3, none⟩ = some (.int .i64 ft) := fun x => keep_cell x.ok (o6.cell 3)
    have y4 : ∀ x : Ext w7, x.toW.cell? ⟨g6, 4, none⟩ = some (.slice a fl.length c) := fun x => keep_cell x.ok (o6.cell 4)
    have M : ∀ x : Ext w7, Calls Try.prog 9 #[.agg #[.int .i64 fk, .int .i64 fa, .int .i64 fr, .int .i64 ft, .slice a fl.length c]] x.toW fun r w' => r = .returned (.bool false) ∧ Below x.toW.heap.size x.toW w' := fun x => by
      have := may_any ⟨fk, fa, fr, ft, fl⟩ a c x.toW (hF.below x.ok)
      rw [HFM.out] at this
      exact this
    have S1 : ∀ x : Ext w7, Calls Try.prog 11 #[.agg #[.int .i64 k, .int .i64 asn, .int .i64 rank, .int .i64 t, .slice a fl.length c], .agg #[.int .i64 fk, .int .i64 fa, .int .i64 fr, .int .i64 ft, .slice a fl.length c]] x.toW fun r w' => r = .returned (.bool false) ∧ Below x.toW.heap.size x.toW w' := fun x => by
      have := sameE_any ⟨k, asn, rank, t, fl⟩ ⟨fk, fa, fr, ft, fl⟩ a c a c x.toW (hE.below x.ok) (hF.below x.ok)
      rw [alike_no HMAY.out HFM.out] at this
      exact this
    have S2 : ∀ x : Ext w7, Calls Try.prog 11 #[.agg #[.int .i64 k, .int .i64 asn, .int .i64 rank, .int .i64 t, .slice a fl.length c], .agg #[.int .i64 k, .int .i64 asn, .int .i64 rank, .int .i64 t, .slice a fl.length c]] x.toW fun r w' => r = .returned (.bool true) ∧ Below x.toW.heap.size x.toW w' := fun x => by
      have := sameE_any ⟨k, asn, rank, t, fl⟩ ⟨k, asn, rank, t, fl⟩ a c a c x.toW (hE.below x.ok) (hE.below x.ok)
      rw [sameE_self] at this
      exact this
    have MM := Lib.hid M
    have SS1 := Lib.hid S1
    have SS2 := Lib.hid S2
    clear M S1 S2 hE hF o7 o6
    obtain ⟨z0, hz0⟩ : ∃ x : Ext w7, x.toW = w7 := ⟨⟨w7, Below.refl _ _⟩, rfl⟩
    rw [← hz0]
    clear hz0
    go_wp2_with fail
    with_reducible refine (MM.out _).mono ?_
    rintro r w8 ⟨rfl, bb⟩
    obtain ⟨z1, rfl⟩ := ext_next z0 bb
    clear bb
    go_wp2_with fail
    with_reducible refine (SS1.out _).mono ?_
    rintro r w8 ⟨rfl, bb⟩
    obtain ⟨z2, rfl⟩ := ext_next z1 bb
    clear bb
    go_wp2_with fail
    with_reducible refine (SS2.out _).mono ?_
    rintro r w8 ⟨rfl, bb⟩
    obtain ⟨z3, rfl⟩ := ext_next z2 bb
    clear bb
    go_wp2_with fail
    refine (awake_any _).mono ?_
    rintro r w8 ⟨rfl, bb⟩
    obtain ⟨z4, rfl⟩ := ext_next z3 bb
    clear bb
    go_wp2_with fail
    go_ret
    exact ⟨rfl, by rw [HG.out]; exact b8.trans (z4.ok.mono (by omega))⟩

theorem walk (H : Type) (enc : TypeId × Value → H) : Walk H enc Try.prog 6 Try.f6 := by
  intro W base args ds p hval hA
  rw [Try.params6] at hA hval
  obtain ⟨v0, v1, d0, d1, p0, p1, rfl, rfl, rfl, h0, h1⟩ := trodAll_two hA
  obtain ⟨e, a, c, rfl, hat⟩ := open_ie (hval 0 _ v0 rfl rfl) h0
  obtain ⟨n, rfl, rfl, rfl, _⟩ := open_int Try.underlying3 (hval 1 _ v1 rfl rfl) h1
  obtain ⟨k, asn, rank, t, l⟩ := e
  exact body k asn rank t l a c n W hat

set_option maxRecDepth 100000 in
theorem lifted (os : Os) (started : os.Started) (H : Type) (enc : TypeId × Value → H) :
    ReturnsInHanded {} Try.checked os 6 .any (Rows.ieFieldsSpec.pre6 enc Try.prog Try.f6 Rows.ieFieldsRow.domain false) (Rows.ieFieldsSpec.post enc Try.prog Try.f6 false true false false) :=
  returnsInHanded_of_change (C := Try.checked) own started (by kernel_rfl) Try.func6
    (ChangeSpec.witness6 (enc := enc) (C := Try.checked) false ⟨#[], #[(.agg #[.int .i64 0, .int .i64 0, .int .i64 0, .int .i64 0, .slice none 0 0]), (.int .i64 0)], []⟩ 8 (by kernel_rfl) (by kernel_rfl) (by kernel_rfl) (by kernel_rfl))
    fun W base args ds gs before hval hW _ _ => step_of_walk laidOut (by rw [Try.params6]; exact of_decide_eq_true (by kernel_rfl)) (by kernel_rfl) Try.underlying4 rfl
      (fun ds h => by
        rw [Try.params6] at h
        match ds, h with
        | [_, _], _ => rfl) (walk H enc) W base args ds gs before hval hW

theorem holds : Rows.IeFieldsSaid :=
  OpenClaim.holds_of_wide 6 Try.f6 rfl rfl rfl rfl rfl rfl rfl ⟨rfl, rfl, rfl, rfl, rfl⟩ rfl rfl rfl rfl rfl (by kernel_rfl) Try.func6 (by kernel_rfl)
    (of_decide_eq_true (by kernel_rfl)) (by unfold Func.isWrapper; first | (rw [if_pos (by decide +kernel)]; kernel_rfl) | (rw [if_neg (by decide +kernel)]; exact ⟨rfl, rfl⟩))
    (fun os started H enc _ => lifted os started H enc)
#print axioms holds
end Go.Proofs.Ytlmbkgcclanpmaa.IeFields
