/-
  Package join (chapter 18): readGranting.
-/
import Derived.Test.YtphiohdhgkpgnaaJoGrM
set_option maxRecDepth 100000
namespace Go.Proofs.Ytphiohdhgkpgnaa.Jo
set_option linter.unusedVariables false
open Go.RowKit Lb Go.Shelf Bf Se Cl

/-- What readGranting tells. -/
def GiveP (base : Nat) (nd : Int) (l : List Int) (r : Ending) (w' : World) : Prop :=
  (give2 l ≠ 0 ∧ r = .returned (.tuple #[.nilIface, .int .i64 (give2 l)])) ∨
  (give2 l = 0 ∧ ∃ a c, r = .returned (.tuple #[.iface 73 (.agg ((giveR2 nd l).vals a c)), .int .i64 0]) ∧ (giveR2 nd l).n ≤ c ∧ c ≤ maxLen ∧ Row w' a ((giveR2 nd l).n * 5) (cv (giveR2 nd l).L) ∧ ∀ p, a = some p → base ≤ p.block)
set_option maxHeartbeats 8000000 in
theorem rg_any (base b : Nat) (nd : Int) (l : List Int) (w : World) (h : Rb w base b l 0) (hB : okB l) (hbb : base ≤ b) (hll : l.length ≤ 1000) :
    Calls Try.prog 56 #[.pointer (some ⟨b, 0, none⟩), .int .i64 nd] w fun r w' => GiveP base nd l r w' ∧ Below base w w' := by
  have hbs : base ≤ w.heap.size := by
    obtain ⟨j, n, Z, v, h1, _⟩ := h
    have := h1.own.lt
    omega
  have hm := okB_at hB 0
  have P1 := take8_any base b l 0 w h
  have HBB := Lib.hid hB
  obtain ⟨cd, hcd⟩ : ∃ p, l.getD 0 0 = p := ⟨_, rfl⟩
  rw [hcd] at hm P1
  have HCD := Lib.hid hcd
  have u1 : IntKind.i64.wrap cd = cd := by rw [IntWalk.i64_in _ (by omega)]
  clear hcd hB h
  go_enter Try.func56, Try.ntmps56
  go_wp2_with fail
  refine P1.mono ?_
  rintro r w1 ⟨rfl, g1, j1⟩
  have b1 := j1.below (Below.refl base w) hbb hbs
  have P2 := t32_any base b (lft l 1) (er l 1 0) w1 g1 (okB_lft HBB.out 1)
  rw [lft_add (by decide), er_add (by decide)] at P2
  obtain ⟨no, hno⟩ : ∃ v, m4 (lft l 1) = v := ⟨_, rfl⟩
  rw [hno] at P2
  have HNO := Lib.hid hno
  clear hno P1 j1
  go_wp2_with fail
  refine P2.mono ?_
  rintro r w2 ⟨rfl, g2, j2⟩
  have b2 := j2.below b1 hbb (Nat.le_trans hbs b1.size)
  have ba := (Below.refl w2.heap.size w2).alloc (Nat.le_refl _) (.cells #[.int .i64 nd, .int .i64 cd, .int .u32 no, .slice none 0 0, .int .u32 0] 73)
  have oa := Own.new w2 73 #[.int .i64 nd, .int .i64 cd, .int .u32 no, .slice none 0 0, .int .u32 0]
  have g3 := g2.below ba
  have b3 := b2.trans (ba.mono (Nat.le_trans hbs b2.size))
  have hbg : b < w2.heap.size := by
    obtain ⟨j, n, Z, v, h1, _⟩ := g2
    exact h1.own.lt
  have hsg : w2.heap.size + 1 ≤ (w2.alloc (.cells #[.int .i64 nd, .int .i64 cd, .int .u32 no, .slice none 0 0, .int .u32 0] 73)).heap.size := by simp
  clear g2 b2 P2 j2 b1 g1
  go_upto_region 2 with (fail)
  obtain ⟨g, hg⟩ : ∃ g, w2.heap.size = g := ⟨_, rfl⟩
  rw [hg] at oa hbg hsg ⊢
  generalize w2.alloc (.cells #[.int .i64 nd, .int .i64 cd, .int .u32 no, .slice none 0 0, .int .u32 0] 73) = w3 at *
  clear hg ba
  have P3 := take8_any base b (lft l 5) (er l 5 0) w3 g3
  rw [lft_add (by decide), er_add (by decide)] at P3
  obtain ⟨nn, hnn⟩ : ∃ v, (lft l 5).getD 0 0 = v := ⟨_, rfl⟩
  have hnb := okB_at (okB_lft HBB.out 5) 0
  rw [hnn] at P3 hnb
  have HNN := Lib.hid hnn
  have u2 : IntKind.i64.wrap nn = nn := by rw [IntWalk.i64_in _ (by omega)]
  clear hnn g3
  go_wp2_with fail
  refine P3.mono ?_
  rintro r w4 ⟨rfl, g4, j4⟩
  have b4 := j4.below b3 hbb (Nat.le_trans hbs b3.size)
  have o4 := j4.own oa (by omega)
  have hs4 : g + 1 ≤ w4.heap.size := Nat.le_trans hsg j4.size
  have hw1 := b3.size
  clear P3 j4 b3 oa
  go_wp2_with fail
  refine (short_any base b _ _ w4 g4).mono ?_
  rintro r w5 ⟨rfl, m, rfl⟩
  rw [short_er]
  have b4 := below_drewN b4 m
  have g4 := g4.drewN m
  have o4 := o4.drewN m
  have hs4 : g + 1 ≤ (w4.drewN m).heap.size := hs4
  generalize w4.drewN m = w5 at *
  by_cases h6 : l.length < 6
  · have HD : Hid (give2 l = 2) := Lib.hid (if_pos h6)
    rw [decide_eq_true h6]
    clear h6
    go_wp2_with fail
    go_ret2
    exact ⟨.inl ⟨by rw [HD.out]; decide, by rw [HD.out]; rfl⟩, b4⟩
  · rw [decide_eq_false h6]
    have hn5 : l.getD 5 0 = nn := by
      have := lft_getD (l := l) (k := 5) (by omega) 0
      rw [← HNN.out, this]
    have H6 := Lib.hid h6
    have HNO2 : Hid (n4 l 1 = no) := Lib.hid (by rw [← HNO.out, m4_lft (by omega)])
    clear h6
    by_cases h8 : 8 < nn
    · have HD : Hid (give2 l = 3) := Lib.hid (by unfold give2; rw [if_neg H6.out, hn5, if_pos h8])
      clear hn5
      go_wp2_with fail
      go_ret2
      exact ⟨.inl ⟨by rw [HD.out]; decide, by rw [HD.out]; rfl⟩, b4⟩
    · obtain ⟨n, rfl⟩ : ∃ n : Nat, nn = (n : Int) := ⟨nn.toNat, by omega⟩
      have hn8 : n ≤ 8 := by omega
      have HD : Hid (give2 l = gE l 0 n) := Lib.hid (by unfold give2; rw [if_neg H6.out, hn5, if_neg h8, Int.toNat_natCast])
      have HRR : Hid (giveR2 nd l = ⟨nd, cd, no, n, fun k => cellAt l (6 + 5 * k), n4 l (6 + 5 * n)⟩) := Lib.hid (by unfold giveR2; rw [hn5, HCD.out, HNO2.out, Int.toNat_natCast])
      have d8 : decide (8 < n) = false := by simp; omega
      have d8' : decide ((8 : Int) < (n : Int)) = false := by simp; omega
      obtain ⟨i0, hi0, hz0, hz1, hz2⟩ := info_parts cinfo
      clear hn5 h8
      go_wp2_with fail
      go_loopw [26] (fun i wr => ∃ (k : Nat) (v : Value), i = .int .i64 k ∧ k ≤ n ∧ Rb wr base b (lft l (6 + 5 * k)) (er l (6 + 5 * k) 0) ∧ Own wr g 73 #[.int .i64 nd, .int .i64 cd, .int .u32 no, v, .int .u32 0] ∧ MineK wr (g + 1) 62 5 v k (cv (fun j => cellAt l (6 + 5 * j))) ∧ Below base w wr ∧ Hid (gE l 0 n = gE l k (n - k)) ∧ g + 1 ≤ wr.heap.size) (fun i _ => n - (intOf i).toNat)
      case atStart => exact ⟨0, .slice none 0 0, rfl, Nat.zero_le _, g4, o4, MineK.nil _ _ _ _ _, b4, Lib.hid rfl, hs4⟩
      case round =>
        clear g4 o4 b4 hs4
        obtain ⟨k, v, rfl, hk, gr, og, mv, bb, HGE, hsr⟩ := hrel
        by_cases hlt : k < n
        · have hge : gE l k (n - k) = if l.length < 6 + 5 * k + 5 then 2 else if (cellAt l (6 + 5 * k)).may = false then 3 else gE l (k + 1) (n - (k + 1)) := by
            rw [show n - k = (n - (k + 1)) + 1 by omega]
            rfl
          have HGK := Lib.hid (HGE.out.trans hge)
          clear hge
          obtain ⟨J, hJ⟩ : ∃ J, 6 + 5 * k = J := ⟨_, rfl⟩
          rw [hJ] at gr
          have HJ := Lib.hid hJ
          have Q1 := t8_any base b (lft l J) (er l J 0) wr gr (okB_lft HBB.out J)
          rw [lft_add (by decide), er_add (by decide)] at Q1
          obtain ⟨x0, hx0⟩ : ∃ v, (lft l J).getD 0 0 = v := ⟨_, rfl⟩
          rw [hx0] at Q1
          have HX0 := Lib.hid hx0
          clear hx0 hJ
          have hrs := Nat.le_trans hbs bb.size
          go_wp2_with fail
          refine Q1.mono ?_
          rintro r z1 ⟨rfl, gr1, jj1⟩
          have Q2 := t8_any base b (lft l (J + 1)) (er l (J + 1) 0) z1 gr1 (okB_lft HBB.out _)
          rw [lft_add (by decide), er_add (by decide)] at Q2
          obtain ⟨x1, hx1⟩ : ∃ v, (lft l (J + 1)).getD 0 0 = v := ⟨_, rfl⟩
          rw [hx1] at Q2
          have HX1 := Lib.hid hx1
          clear hx1 Q1 gr
          go_wp2_with fail
          refine Q2.mono ?_
          rintro r z2 ⟨rfl, gr2, jj2⟩
          have Q3 := t8_any base b (lft l (J + 1 + 1)) (er l (J + 1 + 1) 0) z2 gr2 (okB_lft HBB.out _)
          rw [lft_add (by decide), er_add (by decide)] at Q3
          obtain ⟨x2, hx2⟩ : ∃ v, (lft l (J + 1 + 1)).getD 0 0 = v := ⟨_, rfl⟩
          rw [hx2] at Q3
          have HX2 := Lib.hid hx2
          clear hx2 Q2 gr1
          go_wp2_with fail
          refine Q3.mono ?_
          rintro r z3 ⟨rfl, gr3, jj3⟩
          have Q4 := t8_any base b (lft l (J + 1 + 1 + 1)) (er l (J + 1 + 1 + 1) 0) z3 gr3 (okB_lft HBB.out _)
          rw [lft_add (by decide), er_add (by decide)] at Q4
          obtain ⟨x3, hx3⟩ : ∃ v, (lft l (J + 1 + 1 + 1)).getD 0 0 = v := ⟨_, rfl⟩
          rw [hx3] at Q4
          have HX3 := Lib.hid hx3
          clear hx3 Q3 gr2
          go_wp2_with fail
          refine Q4.mono ?_
          rintro r z4 ⟨rfl, gr4, jj4⟩
          have Q5 := t8_any base b (lft l (J + 1 + 1 + 1 + 1)) (er l (J + 1 + 1 + 1 + 1) 0) z4 gr4 (okB_lft HBB.out _)
          rw [lft_add (by decide), er_add (by decide)] at Q5
          obtain ⟨x4, hx4⟩ : ∃ v, (lft l (J + 1 + 1 + 1 + 1)).getD 0 0 = v := ⟨_, rfl⟩
          rw [hx4] at Q5
          have HX4 := Lib.hid hx4
          clear hx4 Q4 gr3
          go_wp2_with fail
          refine Q5.mono ?_
          rintro r z5 ⟨rfl, gr5, jj5⟩
          have jj := (((jj1.trans jj2).trans jj3).trans jj4).trans jj5
          clear jj1 jj2 jj3 jj4 jj5 Q5 gr4
          have b5 := jj.below bb hbb hrs
          have o5 := jj.own og (by omega)
          have m5 := mineK_just mv jj (by omega)
          have ba := (Below.refl z5.heap.size z5).alloc (Nat.le_refl _) (.cells #[.int .i64 x0, .int .i64 x1, .int .i64 x2, .int .i64 x3, .int .i64 x4] 62)
          have oc := Own.new z5 62 #[.int .i64 x0, .int .i64 x1, .int .i64 x2, .int .i64 x3, .int .i64 x4]
          have gr6 := gr5.below ba
          have b6 := b5.trans (ba.mono (Nat.le_trans hbs b5.size))
          have o6 := o5.alloc (.cells #[.int .i64 x0, .int .i64 x1, .int .i64 x2, .int .i64 x3, .int .i64 x4] 62)
          have m6 := m5.alloc (.cells #[.int .i64 x0, .int .i64 x1, .int .i64 x2, .int .i64 x3, .int .i64 x4] 62)
          have hs6 : g + 1 ≤ (z5.alloc (.cells #[.int .i64 x0, .int .i64 x1, .int .i64 x2, .int .i64 x3, .int .i64 x4] 62)).heap.size := by have := jj.size; simp; omega
          clear gr5 b5 o5 m5 jj og mv bb hrs hsr
          go_upto_region 10 with (fail)
          obtain ⟨cb, hcb⟩ : ∃ g, z5.heap.size = g := ⟨_, rfl⟩
          rw [hcb] at oc ⊢
          generalize z5.alloc (.cells #[.int .i64 x0, .int .i64 x1, .int .i64 x2, .int .i64 x3, .int .i64 x4] 62) = z6 at *
          clear hcb ba
          go_wp2_with fail
          refine (short_any base b _ _ z6 gr6).mono ?_
          rintro r z7 ⟨rfl, m7, rfl⟩
          rw [show J + 1 + 1 + 1 + 1 + 1 = J + 5 by omega] at gr6 ⊢
          rw [short_er]
          have gr7 := gr6.drewN m7
          have b7 := below_drewN b6 m7
          have o7 := o6.drewN m7
          have mm7 := m6.drewN m7
          have oc7 := oc.drewN m7
          have hs7 : g + 1 ≤ (z6.drewN m7).heap.size := hs6
          generalize z6.drewN m7 = z7 at *
          clear gr6 b6 o6 m6 oc hs6
          by_cases h11 : l.length < J + 5
          · have HDD : Hid (give2 l = 2) := Lib.hid (by rw [HD.out, HGK.out, HJ.out, if_pos h11])
            rw [decide_eq_true h11]
            clear h11
            go_wp2_with fail
            go_ret2
            exact ⟨.inl ⟨by rw [HDD.out]; decide, by rw [HDD.out]; rfl⟩, b7⟩
          · rw [decide_eq_false h11]
            have hcell : cellAt l J = ⟨x0, x1, x2, x3, x4⟩ := by
              unfold cellAt
              rw [← HX0.out, ← HX1.out, ← HX2.out, ← HX3.out, ← HX4.out, lft_getD (by omega), lft_getD (by omega), lft_getD (by omega), lft_getD (by omega), lft_getD (by omega)]
              rfl
            have HCL := Lib.hid hcell
            have H11 := Lib.hid h11
            have c0 := oc7.cell 0
            have c1 := oc7.cell 1
            have c2 := oc7.cell 2
            have c3 := oc7.cell 3
            have c4 := oc7.cell 4
            have PM := may_any x0 x1 x2 x3 x4 z7
            have hmy : (cellAt l J).may = mayC x0 x1 x2 x3 x4 := by rw [hcell]; rfl
            clear h11 hcell
            cases hmc : mayC x0 x1 x2 x3 x4 with
            | false =>
              rw [hmc] at PM hmy
              have HDD : Hid (give2 l = 3) := Lib.hid (by rw [HD.out, HGK.out, HJ.out, if_neg H11.out, if_pos hmy])
              clear hmc hmy
              go_wp2_with fail
              refine PM.mono ?_
              rintro e z8 ⟨rfl, b8⟩
              go_wp2_with fail
              go_ret2
              exact ⟨.inl ⟨by rw [HDD.out]; decide, by rw [HDD.out]; rfl⟩, b7.trans (b8.mono (Nat.le_trans hbs b7.size))⟩
            | true =>
              rw [hmc] at PM hmy
              have HGN : Hid (gE l 0 n = gE l (k + 1) (n - (k + 1))) := Lib.hid (by rw [HGK.out, HJ.out, if_neg H11.out, if_neg (by rw [hmy]; decide)])
              clear hmc hmy
              go_wp2_with fail
              refine PM.mono ?_
              rintro e z8 ⟨rfl, b8⟩
              have gr8 := gr7.below b8
              have o8 := below_own b8 o7 o7.lt
              have mm8 := mm7.below b8
              have oc8 := below_own b8 oc7 oc7.lt
              have b9 := b7.trans (b8.mono (Nat.le_trans hbs b7.size))
              have hs8 : g + 1 ≤ z8.heap.size := Nat.le_trans hs7 b8.size
              clear gr7 o7 mm7 oc7 b7 b8 c0 c1 c2 c3 c4 PM hs7
              obtain ⟨A, cc, rfl, hkc, hcm, _⟩ := mm8.row
              have c0 := oc8.cell 0
              have c1 := oc8.cell 1
              have c2 := oc8.cell 2
              have c3 := oc8.cell 3
              have c4 := oc8.cell 4
              have d3 := o8.cell 3
              have HNM := Lib.hid (show k + 1 ≤ maxLen by unfold maxLen; omega)
              have m9 := mm8.alloc (.cells #[.int .i64 x0, .int .i64 x1, .int .i64 x2, .int .i64 x3, .int .i64 x4] 62)
              have hr9 : Row (z8.alloc (.cells #[.int .i64 x0, .int .i64 x1, .int .i64 x2, .int .i64 x3, .int .i64 x4] 62)) (some ⟨z8.heap.size, 0, none⟩) (1 * 5) (cv (fun _ => ⟨x0, x1, x2, x3, x4⟩)) := row_new _ _ _ _ (fun i hi => by rcases (show i = 0 ∨ i = 1 ∨ i = 2 ∨ i = 3 ∨ i = 4 by omega) with rfl | rfl | rfl | rfl | rfl <;> rfl)
              have ba := (Below.refl z8.heap.size z8).alloc (Nat.le_refl _) (.cells #[.int .i64 x0, .int .i64 x1, .int .i64 x2, .int .i64 x3, .int .i64 x4] 62)
              have gr9 := gr8.below ba
              have b10 := b9.trans (ba.mono (Nat.le_trans hbs b9.size))
              have o9 := o8.alloc (.cells #[.int .i64 x0, .int .i64 x1, .int .i64 x2, .int .i64 x3, .int .i64 x4] 62)
              have hs9 : g + 1 ≤ (z8.alloc (.cells #[.int .i64 x0, .int .i64 x1, .int .i64 x2, .int .i64 x3, .int .i64 x4] 62)).heap.size := by simp; omega
              go_wp2_with (at_builtin; go_must (refine wp_appK rfl (.tmp 46) (.tmp 48) _ rfl (g + 1) 62 i0 _ 5 40 Try.underlying26 hi0 hz0 hz1 hz2 rfl (by decide) _ k (cv (fun j => cellAt l (6 + 5 * j))) rfl m9 _ 1 _ (cv (fun _ => ⟨x0, x1, x2, x3, x4⟩)) rfl hr9 (fun i _ => cv_one _ i) HNM.out ?c2 hs9 ?_))
              case c2 => omega
              intro v' z10 m10 g10 q10
              have hgb : ∀ q, (Value.slice A k cc).ownBlock = some q → g + 1 ≤ q := fun q hq => (m9.lt q hq).1
              have gr10 := Rb.keep gr9 (grown_keep m9 g10 (by decide) (by decide))
              have b11 := b10.grown g10 (Nat.le_trans hbs b10.size) (fun q hq => by have := hgb q hq; omega)
              have o10 : Own z10 g 73 #[.int .i64 nd, .int .i64 cd, .int .u32 no, .slice A k cc, .int .u32 0] := (g10.block g o9.lt (fun e => by have := hgb g e.symm; omega)).trans o9
              have hs10 : g + 1 ≤ z10.heap.size := Nat.le_trans hs9 g10.size
              have m11 : MineK z10 (g + 1) 62 5 v' (k + 1) (cv (fun j => cellAt l (6 + 5 * j))) := m10.ext (fun i hi => cv_snoc (L := fun j => cellAt l (6 + 5 * j)) (by show cellAt l (6 + 5 * k) = _; rw [HJ.out, HCL.out]) hi)
              have d3 := o10.cell 3
              have f3 := o10.free 3
              have o12 := o10.put 3 v'
              have j12 := Just.set g z10 3 v'
              have b12 := j12.below b11 (by omega) (Nat.le_trans hbs b11.size)
              have m12 := mineK_just m11 j12 (Nat.lt_succ_self g)
              have gr12 : Rb (z10.setCell ⟨g, 3, none⟩ v') base b (lft l (J + 5)) (er l (J + 5) 0) := Rb.keep gr10 (fun q t cs ht ho => j12.block q ho.lt (fun e => by
                subst e
                have e4 : z10.heap[q]? = some (.cells cs t (0, 0)) := ho
                rw [show z10.heap[q]? = _ from o10] at e4
                injection e4 with e4
                injection e4 with e5 e6
                rcases ht with rfl | rfl
                · exact absurd e6 (by decide)
                · exact absurd e6 (by decide)))
              have hs12 : g + 1 ≤ (z10.setCell ⟨g, 3, none⟩ v').heap.size := Nat.le_trans hs10 j12.size
              obtain ⟨A', cc', rfl, _, _, _⟩ := m12.row
              rw [show J + 5 = 6 + 5 * (k + 1) by have := HJ.out; omega] at gr12
              clear gr8 gr9 gr10 b9 b10 b11 ba o8 o9 o10 mm8 m9 m10 m11 hr9 oc8 c0 c1 c2 c3 c4 hgb hs8 hs9 hs10 j12
              go_wp2_with fail
              exact ⟨⟨k + 1, _, by simp, by omega, gr12, o12, m12, b12, HGN, hs12⟩, by simp [intOf]; omega⟩
        · obtain rfl : k = n := by omega
          have hge : gE l k (k - k) = if l.length < 6 + 5 * k + 4 then 2 else if l.length ≠ 6 + 5 * k + 4 then 3 else 0 := by rw [Nat.sub_self]; rfl
          have hE := end_er l (6 + 5 * k + 4)
          rw [← hge, ← HGE.out, ← HD.out] at hE
          have HE := Lib.hid hE
          obtain ⟨J, hJ⟩ : ∃ J, 6 + 5 * k = J := ⟨_, rfl⟩
          rw [hJ] at gr
          have HJ := Lib.hid hJ
          have Q1 := t32_any base b (lft l J) (er l J 0) wr gr (okB_lft HBB.out J)
          rw [lft_add (by decide), er_add (by decide)] at Q1
          obtain ⟨tg, htg⟩ : ∃ v, m4 (lft l J) = v := ⟨_, rfl⟩
          rw [htg] at Q1
          have HTG := Lib.hid htg
          have hrs := Nat.le_trans hbs bb.size
          clear hge hE htg hJ
          go_wp2_with fail
          refine Q1.mono ?_
          rintro r z1 ⟨rfl, gr1, jj1⟩
          have b1 := jj1.below bb hbb hrs
          have o1 := jj1.own og (by omega)
          have m1 := mineK_just mv jj1 (by omega)
          have hs1 := Nat.le_trans hsr jj1.size
          have d4 := o1.cell 4
          have f4 := o1.free 4
          have o2 := o1.put 4 (.int .u32 tg)
          have j2 := Just.set g z1 4 (.int .u32 tg)
          have b2 := j2.below b1 (by omega) (Nat.le_trans hbs b1.size)
          have m2 := mineK_just m1 j2 (Nat.lt_succ_self g)
          have gr2 : Rb (z1.setCell ⟨g, 4, none⟩ (.int .u32 tg)) base b (lft l (J + 4)) (er l (J + 4) 0) := Rb.keep gr1 (fun q t cs ht ho => j2.block q ho.lt (fun e => by
            subst e
            have e4 : z1.heap[q]? = some (.cells cs t (0, 0)) := ho
            rw [show z1.heap[q]? = _ from o1] at e4
            injection e4 with e4
            injection e4 with e5 e6
            rcases ht with rfl | rfl
            · exact absurd e6 (by decide)
            · exact absurd e6 (by decide)))
          clear Q1 gr gr1 bb b1 og o1 mv m1 jj1 j2 hsr hrs hs1
          go_upto_region 17 with (fail)
          generalize z1.setCell ⟨g, 4, none⟩ (.int .u32 tg) = z2 at *
          have PE := endb_any base b _ _ z2 gr2
          rw [show J + 4 = 6 + 5 * k + 4 by have := HJ.out; omega, HE.out] at PE
          obtain ⟨e, he⟩ : ∃ e, give2 l = e := ⟨_, rfl⟩
          rw [he] at PE
          have HEE := Lib.hid he
          obtain ⟨A, cc, rfl, hkc, hcm, hrow⟩ := m2.row
          clear he
          by_cases he : e = 0
          · subst he
            obtain ⟨_, _, hlen, _⟩ := give2_ok HEE.out
            have htg2 : n4 l (6 + 5 * k) = tg := by
              rw [← HTG.out, ← HJ.out, m4_lft]
              unfold give2 at *
              have := HEE.out
              have h5 := HRR.out
              have h7 : (giveR2 nd l).n = k := by rw [h5]
              unfold giveR2 at h7
              dsimp only at h7
              omega
            have HTG2 := Lib.hid htg2
            clear htg2 hlen
            go_wp2_with fail
            refine PE.mono ?_
            rintro r z3 ⟨rfl, q, rfl⟩
            have o3 := o2.drewN q
            have b3 := below_drewN b2 q
            have hrow3 := hrow.drewN q
            generalize z2.drewN q = z3 at *
            have c0 := o3.cell 0
            have c1 := o3.cell 1
            have c2 := o3.cell 2
            have c3 := o3.cell 3
            have c4 := o3.cell 4
            have hlow : ∀ p, A = some p → base ≤ p.block := fun p hp => by
              subst hp
              have := (m2.lt p.block rfl).1
              omega
            have HLOW := Lib.hid hlow
            clear PE o2 b2 gr2 m2 hrow hlow
            go_wp2_with fail
            go_ret2
            refine ⟨.inr ⟨HEE.out, A, cc, ?_, ?_, hcm, ?_, HLOW.out⟩, b3⟩
            · rw [HRR.out, HTG2.out]
              rfl
            · rw [HRR.out]
              exact hkc
            · rw [HRR.out]
              exact hrow3
          · have he2 : (e == 0) = false := by simpa using he
            have he3 : (e != 0) = true := by simpa using he
            go_wp2_with fail
            refine PE.mono ?_
            rintro r z3 ⟨rfl, q, rfl⟩
            have b3 := below_drewN b2 q
            clear PE b2 o2
            go_wp2_with fail
            go_ret2
            exact ⟨.inl ⟨by rw [HEE.out]; exact he, by rw [HEE.out]; rfl⟩, b3⟩
end Go.Proofs.Ytphiohdhgkpgnaa.Jo
