/-
  Law FrameDecodes: any bytes, near a frame or far from it, are decoded as they ought to be; the call returns true. No condition.
-/
import Derived.Test.YtoconkgemakboaaFrSame
import Derived.Test.YtoconkgemakboaaFrREnc
import Derived.Test.YtoconkgemakboaaFrRDec
set_option maxRecDepth 100000
namespace Go.Proofs.Ytoconkgemakboaa.FrameDecodes
set_option linter.unusedVariables false
open Go.RowKit Go.ChangeShapes Go.WideShapes Go.ChangeAt Go.Deep Lb Bf Ie Fm
set_option linter.unusedVariables false
theorem own : ownKnob Try.prog.godebug = none := by kernel_rfl
theorem laidOut : laidOutB Try.prog = true := by kernel_rfl
/-- The next world is one of them, too. -/
theorem ext_next {v w' : World} (x : Ext v) (h : Below x.toW.heap.size x.toW w') : ∃ y : Ext v, w' = y.toW := ⟨⟨w', x.ok.trans (h.mono x.ok.size)⟩, rfl⟩
theorem xor_byte {z x : Int} (z0 : 0 ≤ z) (z1 : z < 256) (x0 : 0 ≤ x) (x1 : x < 256) : 0 ≤ bits .xor .u8 z x ∧ bits .xor .u8 z x < 256 := by
  have hlt : z.toNat ^^^ x.toNat < 2 ^ 8 := Nat.xor_lt_two_pow (by omega) (by omega)
  rw [u8_xor _ _ z0 z1 x0 x1]
  exact ⟨by omega, by omega⟩
theorem frenc_out {f : Fr} {w w' : World} {r : Ending} (hd : okD' f.data) (h : EncFPost f w r w') : ∃ v X e, r = .returned (.tuple #[v, .int .i64 e]) ∧ Mine w' w.heap.size 5 v X.length (bval X) ∧ Below w.heap.size w w' ∧ okD' X ∧ X.length ≤ 146 ∧ (X.length = 0 ∨ 10 ≤ X.length) := by
  unfold EncFPost at h
  by_cases hm : mayF f = true
  · rw [if_pos hm] at h
    obtain ⟨v, h1, h2, h3⟩ := h
    obtain ⟨m1, m2, m3, m4, m5, m6⟩ := mayF_out hm
    have h5 := (encI_ok m4).2
    have h6 : 1 ≤ (encI f.ies).length := by unfold encI; simp
    have h7 := encF_len f
    exact ⟨v, encF f, 0, h1, h2, h3, encF_ok hm hd, by omega, .inr (by omega)⟩
  · rw [if_neg hm] at h
    exact ⟨_, [], 1, h.1, Mine.nil _ _ _ _, h.2, okD_nil, by simp, .inl rfl⟩
theorem Mine.shrink {w : World} {base n m c : Nat} {e : TypeId} {a : Option Addr} {V : Nat → Value} (h : Mine w base e (.slice a n c) n V) (hn : 0 < n) (hm : m ≤ n) : Mine w base e (.slice a m c) m V := by
  obtain ⟨b', cs, hv, hb, ho, hn, hmx, hcs⟩ := h.block hn
  injection hv with h1 _ h3
  subst h1 h3
  exact Mine.made ho hb hmx (by omega) (fun i hi => hcs i (by omega))
def outF (Z : List Int) : Fr := match decF Z with | .ok f => f | .error _ => zF.fr
def outE (Z : List Int) : Int := match decF Z with | .ok _ => 0 | .error x => x
theorem frdec_out {Z : List Int} {w w' : World} {r : Ending} (h : DecFPost Z w r w') : ∃ p : Fp, r = .returned (.tuple #[.agg p.vals, .int .i64 (outE Z)]) ∧ p.fr = outF Z ∧ p.At w' ∧ Below w.heap.size w w' := by
  unfold DecFPost at h
  unfold outF outE
  cases hd : decF Z with
  | ok f =>
    rw [hd] at h
    obtain ⟨p, h1, h2, h3, h4⟩ := h
    exact ⟨p, h2, h1, h3, h4⟩
  | error x =>
    rw [hd] at h
    exact ⟨zF, h.1, rfl, zF_at _, h.2⟩
theorem app_ok {Z : List Int} {n : Nat} {w : World} {B : Nat} {v : Value} (hn : Z.length = n) (h : Mine w B 5 v (n + 2) (fun i => .int .u8 (Cr.app (fn Z) n i))) : Mine w B 5 v (appL Z).length (bval (appL Z)) := mine_app hn h
theorem bval_app' (l m : List Int) (n : Nat) (hl : l.length = n) (q : Nat) : (if q < n then bval l q else bval m (q - n)) = bval (l ++ m) q := by
  subst hl
  exact bval_app l m q
theorem idx2 (a b : Option Addr) (n m c d : Nat) (w : World) : (Instr.index 35 (.agg #[.slice a n c, .slice b m d]) (.int .i64 ((0 : Nat) : Int))).run Try.prog w = .ok (.slice a n c) w ∧ (Instr.index 35 (.agg #[.slice a n c, .slice b m d]) (.int .i64 ((1 : Nat) : Int))).run Try.prog w = .ok (.slice b m d) w := ⟨by kernel_rfl, by kernel_rfl⟩
set_option maxHeartbeats 4000000 in
theorem body (p : Fp) (P : List Int) (a1 : Option Addr) (c1 : Nat) (x : Int) (right : Bool) (M : List Int) (a3 : Option Addr) (c3 : Nat) (cut : Int) (R : List Int) (a5 : Option Addr) (c5 : Nat) (w : World) (h : p.At w)
    (hP : Row w a1 P.length (zval P)) (hPc : P.length ≤ c1) (hPm : c1 ≤ maxLen) (hM : Row w a3 M.length (bval M)) (hMc : M.length ≤ c3) (hMm : c3 ≤ maxLen) (hMb : okD' M) (hx : 0 ≤ x ∧ x < 256)
    (hR : Row w a5 R.length (bval R)) (hRc : R.length ≤ c5) (hRm : c5 ≤ maxLen) (hRb : okD' R) :
    Calls Try.prog 4 #[.agg p.vals, .slice a1 P.length c1, .int .u8 x, .bool right, .slice a3 M.length c3, .int .i64 cut, .slice a5 R.length c5] w fun r w' => r = .returned (.bool true) ∧ Below w.heap.size w w' := by
  have o1 := Own.new w 25 p.vals
  have b0 := (Below.refl w.heap.size w).alloc (Nat.le_refl _) (.cells p.vals 25)
  have h1 := h.below b0
  have hL := lightF_any p _ h1
  have HLO := Lib.hid (@lightF_out p)
  obtain ⟨lt, hlt⟩ : ∃ b, lightF p = b := ⟨_, rfl⟩
  have HLT := Lib.hid hlt
  rw [hlt] at hL
  have hP := hP.below b0
  have hM := hM.below b0
  have hR := hR.below b0
  clear h hlt
  obtain ⟨i0, hi0, hz0, hz1, hz2⟩ := info_parts info8
  obtain ⟨pk, ps, pd, pq, pL, pa, pc, pdata, pb, pe⟩ := p
  have HF : Hid ((⟨pk, ps, pd, pq, pL, pa, pc, pdata, pb, pe⟩ : Fp).fr = ⟨pk, ps, pd, pq, els pL, pdata⟩) := Lib.hid rfl
  have HA := Lib.hid h1
  have HE := Lib.hid (fun W hW hm => rencF_any ⟨pk, ps, pd, pq, pL, pa, pc, pdata, pb, pe⟩ W hW hm)
  unfold Fp.vals at *
  simp only at *
  obtain ⟨nd, hnd⟩ : ∃ n, pdata.length = n := ⟨_, rfl⟩
  have HND := Lib.hid hnd
  rw [hnd] at o1 b0 hL h1 HE HA hP hM hR ⊢
  obtain ⟨nl, hnl⟩ : ∃ n, pL.length = n := ⟨_, rfl⟩
  have HNL := Lib.hid hnl
  rw [hnl] at o1 b0 hL h1 HE HA hP hM hR ⊢
  have HL := Lib.hid hL
  unfold maxLen at hPm hMm hRm
  obtain ⟨np, hnp⟩ : ∃ n, P.length = n := ⟨_, rfl⟩
  have HNP := Lib.hid hnp
  rw [hnp] at hP hPc ⊢
  obtain ⟨nm, hnm⟩ : ∃ n, M.length = n := ⟨_, rfl⟩
  have HNM := Lib.hid hnm
  rw [hnm] at hM hMc ⊢
  obtain ⟨nr, hnr⟩ : ∃ n, R.length = n := ⟨_, rfl⟩
  have HNR := Lib.hid hnr
  rw [hnr] at hR hRc ⊢
  have HMB := Lib.hid hMb
  have HRB := Lib.hid hRb
  clear hnd hnl hL h1 hnp hnm hnr hMb hRb
  go_enter Try.func4, Try.ntmps4
  go_upto_region 1 with (fail)
  generalize w.alloc (.cells #[.int .i64 pk, .int .i64 ps, .int .i64 pd, .int .i64 pq, .slice pa nl pc, .slice pb nd pe] 25) = w1 at *
  obtain ⟨g0, hg⟩ : ∃ g, w.heap.size = g := ⟨_, rfl⟩
  have hgs := b0.size
  rw [hg] at o1 b0 hgs ⊢
  have HG := Lib.hid hg
  clear hg
  have x0 : w1.cell? ⟨g0, 0, none⟩ = some (.int .i64 pk) := o1.cell 0
  have x1 : w1.cell? ⟨g0, 1, none⟩ = some (.int .i64 ps) := o1.cell 1
  have x2 : w1.cell? ⟨g0, 2, none⟩ = some (.int .i64 pd) := o1.cell 2
  have x3 : w1.cell? ⟨g0, 3, none⟩ = some (.int .i64 pq) := o1.cell 3
  have x4 : w1.cell? ⟨g0, 4, none⟩ = some (.slice pa nl pc) := o1.cell 4
  have x5 : w1.cell? ⟨g0, 5, none⟩ = some (.slice pb nd pe) := o1.cell 5
  go_wp2_with fail
  refine HL.out.mono ?_
  rintro r w2 ⟨rfl, b1⟩
  have o2 := below_own b1 o1 o1.lt
  have bA := b0.trans (b1.mono hgs)
  have hgs2 := Nat.le_trans hgs b1.size
  have hP2 := hP.below b1
  have hM2 := hM.below b1
  have hR2 := hR.below b1
  have hA2 := HA.out.below b1
  clear HL x0 x1 x2 x3 x4 x5 o1 b0 hP hM hR hgs HA
  cases lt
  · go_wp2_with fail
    refine (awakeF_any _).mono ?_
    rintro r w9 ⟨rfl, bb⟩
    go_wp2_with fail
    go_ret
    exact ⟨rfl, by rw [HG.out]; exact bA.trans (bb.mono hgs2)⟩
  by_cases h100 : 100 < nm
  · have g2 : decide ((100 : Int) < (nm : Int)) = true := by simp; omega
    have g2' : decide (100 < nm) = true := by simp; omega
    clear h100
    go_wp2_with fail
    refine (awakeF_any _).mono ?_
    rintro r w9 ⟨rfl, bb⟩
    go_wp2_with fail
    go_ret
    exact ⟨rfl, by rw [HG.out]; exact bA.trans (bb.mono hgs2)⟩
  have g2 : decide ((100 : Int) < (nm : Int)) = false := by simp; omega
  have g2' : decide (100 < nm) = false := by simp; omega
  by_cases h300 : 300 < nr
  · have g3 : decide ((300 : Int) < (nr : Int)) = true := by simp; omega
    have g3' : decide (300 < nr) = true := by simp; omega
    clear h300
    go_wp2_with fail
    refine (awakeF_any _).mono ?_
    rintro r w9 ⟨rfl, bb⟩
    go_wp2_with fail
    go_ret
    exact ⟨rfl, by rw [HG.out]; exact bA.trans (bb.mono hgs2)⟩
  have g3 : decide ((300 : Int) < (nr : Int)) = false := by simp; omega
  have g3' : decide (300 < nr) = false := by simp; omega
  have x0 : w2.cell? ⟨g0, 0, none⟩ = some (.int .i64 pk) := o2.cell 0
  have x1 : w2.cell? ⟨g0, 1, none⟩ = some (.int .i64 ps) := o2.cell 1
  have x2 : w2.cell? ⟨g0, 2, none⟩ = some (.int .i64 pd) := o2.cell 2
  have x3 : w2.cell? ⟨g0, 3, none⟩ = some (.int .i64 pq) := o2.cell 3
  have x4 : w2.cell? ⟨g0, 4, none⟩ = some (.slice pa nl pc) := o2.cell 4
  have x5 : w2.cell? ⟨g0, 5, none⟩ = some (.slice pb nd pe) := o2.cell 5
  have hl1 := (HLO.out HLT.out).1
  rw [HNL.out] at hl1
  have hdo : okD' pdata := hA2.ok
  have hE := HE.out w2 hA2 hl1
  rw [HF.out] at hE
  have HE2 := Lib.hid hE
  have HDO := Lib.hid hdo
  clear hE HE hl1 HLO HLT hA2 o2 hdo
  go_wp2_with fail
  refine HE2.out.mono ?_
  intro r w3 hp
  obtain ⟨v, X, er, rfl, hV, b3, hXb, hX146, hX10⟩ := frenc_out HDO.out hp
  have hP3 := hP2.below b3
  have hM3 := hM2.below b3
  have hR3 := hR2.below b3
  have bB := bA.trans (b3.mono hgs2)
  have hgs3 := Nat.le_trans hgs2 b3.size
  obtain ⟨B, hB⟩ : ∃ B, w2.heap.size = B := ⟨_, rfl⟩
  rw [hB] at hV b3 hgs2
  have HPO : Hid (∀ p, a1 = some p → 0 < np → p.block < B) := Lib.hid fun p e h0 => by
    obtain ⟨q, o, e2, h2, _⟩ := hP2 h0
    rw [e] at e2
    injection e2 with e2
    rw [e2, ← hB]
    exact h2
  have HMO : Hid (∀ p, a3 = some p → 0 < nm → p.block < B) := Lib.hid fun p e h0 => by
    obtain ⟨q, o, e2, h2, _⟩ := hM2 h0
    rw [e] at e2
    injection e2 with e2
    rw [e2, ← hB]
    exact h2
  have HRO : Hid (∀ p, a5 = some p → 0 < nr → p.block < B) := Lib.hid fun p e h0 => by
    obtain ⟨q, o, e2, h2, _⟩ := hR2 h0
    rw [e] at e2
    injection e2 with e2
    rw [e2, ← hB]
    exact h2
  have hBs : B ≤ w3.heap.size := by rw [← hB]; exact b3.size
  obtain ⟨nx, hnx⟩ : ∃ n, X.length = n := ⟨_, rfl⟩
  have HNX := Lib.hid hnx
  have HXB := Lib.hid hXb
  rw [hnx] at hV hX146 hX10
  obtain ⟨av, cv, rfl, l1, l2, RV⟩ := hV.row
  have l2' := l2
  unfold maxLen at l2
  clear hnx hXb hB hP2 hM2 hR2 b3 RV hp HE2 x0 x1 x2 x3 x4 x5
  go_upto_if 48 with (fail)
  go_cut [15] from 48 to 84 (fun v wx => ∃ (Y : List Int), Mine wx B 5 v Y.length (bval Y) ∧ Hid (okD' Y) ∧ Y.length ≤ 300 ∧ Below B w3 wx)
  case first =>
    by_cases hn0 : nx = 0
    · subst hn0
      go_wp2_with fail
      go_meet
      exact ⟨X, by rw [HNX.out]; exact hV, HXB, by rw [HNX.out]; omega, Below.refl _ _⟩
    · have t0 : decide ((0 : Int) < (nx : Int)) = true := by simp; omega
      have t1 : decide (0 < nx) = true := by simp; omega
      have h10 : 10 ≤ nx := by omega
      obtain ⟨g, cs, hv, hg, _⟩ := hV.block (by omega)
      have hv1 : av = some ⟨g, 0, none⟩ := by injection hv
      clear hv
      subst hv1
      go_wp2_with fail
      go_loopw [51] (fun i wr => ∃ (k : Nat) (Y : List Int), i = .int .i64 k ∧ k ≤ np ∧ Y.length = nx ∧ Mine wr B 5 (.slice (some ⟨g, 0, none⟩) nx cv) nx (bval Y) ∧ Hid (okD' Y) ∧ Below B w3 wr) (fun i _ => np - (intOf i).toNat)
      case atStart => exact ⟨0, X, rfl, by omega, HNX.out, hV, HXB, Below.refl _ _⟩
      case round =>
        clear hV
        obtain ⟨k, Y, rfl, hk, hYl, hV, HYB, bb⟩ := hrel
        have HYL := Lib.hid hYl
        clear hYl
        by_cases hlt : k < np
        · have hPr : Row wr a1 np (zval P) := Row.same hP3 (fun p e h0 => bb.block _ (HPO.out p e h0))
          obtain ⟨pb, po, rfl, _, x1⟩ := hPr.at_ hlt
          unfold zval at x1
          obtain ⟨p, hp⟩ : ∃ p, P.getD k 0 = p := ⟨_, rfl⟩
          rw [hp] at x1
          clear hp hPr
          by_cases h3 : k < 3
          · have s1 : decide (k < 3) = true := by simpa using h3
            have s2 : decide ((k : Int) < 3) = true := by simp; omega
            have hu : 0 ≤ IntKind.u64.wrap p := u64_pos p
            obtain ⟨q, hq⟩ : ∃ q, IntKind.u64.wrap p = q := ⟨_, rfl⟩
            rw [hq] at hu
            have hn64 : IntKind.u64.wrap (nx : Int) = (nx : Int) := u64_id (by omega)
            obtain ⟨d, hd⟩ : ∃ d : Nat, q % (nx : Int) = (d : Int) := ⟨(q % (nx : Int)).toNat, by have := Int.emod_nonneg q (show (nx : Int) ≠ 0 by omega); omega⟩
            have hdl : d < nx := by have := Int.emod_lt_of_pos q (show (0 : Int) < nx by omega); omega
            have hdt : q.tmod (nx : Int) = (d : Int) := by rw [Int.tmod_eq_emod_of_nonneg hu, hd]
            obtain ⟨_, _, hc, hf⟩ := hV.at_ hdl
            unfold bval at hc
            have hzb : 0 ≤ Y.getD d 0 ∧ Y.getD d 0 < 256 := by
              have := HYL.out
              rw [List.getD_eq_getElem?_getD, List.getElem?_eq_getElem (by omega)]
              exact HYB.out _ (List.getElem_mem _)
            obtain ⟨z, hz⟩ : ∃ z, Y.getD d 0 = z := ⟨_, rfl⟩
            rw [hz] at hc hzb
            have hub := xor_byte hzb.1 hzb.2 hx.1 hx.2
            obtain ⟨u, hu2⟩ : ∃ u, bits .xor .u8 z x = u := ⟨_, rfl⟩
            rw [hu2] at hub
            have hV2 : Mine (wr.setCell ⟨g, d, none⟩ (.int .u8 u)) B 5 (.slice (some ⟨g, 0, none⟩) nx cv) nx (bval (Y.set d u)) := (hV.store hdl (.int .u8 u)).ext (fun i hi => by
              unfold bval
              have := HYL.out
              rw [List.getD_eq_getElem?_getD, List.getD_eq_getElem?_getD, List.getElem?_set]
              by_cases e : i = d
              · subst e
                rw [if_pos rfl, if_pos rfl, if_pos (by omega)]
                rfl
              · rw [if_neg e, if_neg (fun h => e h.symm)])
            have hYB2 : Hid (okD' (Y.set d u)) := Lib.hid (fun y hy => by
              rcases List.mem_or_eq_of_mem_set hy with h | h
              · exact HYB.out y h
              · rw [h]; exact hub)
            have hYL2 : Hid ((Y.set d u).length = nx) := Lib.hid (by rw [List.length_set]; exact HYL.out)
            have b3 := bb.setCell (p := ⟨g, d, none⟩) hg (.int .u8 u)
            clear hz hV bb hzb
            go_wp2_with fail
            exact ⟨⟨k + 1, Y.set d u, by simp, by omega, hYL2.out, hV2, hYB2, b3⟩, by simp [intOf]; omega⟩
          · have s1 : decide (k < 3) = false := by simpa using h3
            have s2 : decide ((k : Int) < 3) = false := by simp; omega
            clear h3
            go_wp2_with fail
            exact ⟨⟨k + 1, Y, by simp, by omega, HYL.out, hV, HYB, bb⟩, by simp [intOf]; omega⟩
        · obtain rfl : np = k := by omega
          have hu : 0 ≤ IntKind.u64.wrap cut := u64_pos cut
          obtain ⟨q, hq⟩ : ∃ q, IntKind.u64.wrap cut = q := ⟨_, rfl⟩
          rw [hq] at hu
          obtain ⟨d, hd⟩ : ∃ d : Nat, q % 3 = (d : Int) := ⟨(q % 3).toNat, by have := Int.emod_nonneg q (show (3 : Int) ≠ 0 by omega); omega⟩
          have hdl : d < 3 := by have := Int.emod_lt_of_pos q (show (0 : Int) < 3 by omega); omega
          have hdt : q.tmod 3 = (d : Int) := by rw [Int.tmod_eq_emod_of_nonneg hu, hd]
          obtain ⟨m2, hm2⟩ : ∃ m : Nat, nx - 2 = m := ⟨_, rfl⟩
          have hm2i : (nx : Int) - 2 = (m2 : Int) := by omega
          obtain ⟨m, hm⟩ : ∃ m : Nat, m2 - d = m := ⟨_, rfl⟩
          have hmi : (m2 : Int) - (d : Int) = (m : Int) := by omega
          have hmc : m ≤ cv := by omega
          have hmn : m ≤ nx := by omega
          have hm0 : 0 < nx := by omega
          clear hm hm2
          have hYl := HYL.out
          have htl : (Y.take m).length = m := by rw [List.length_take]; omega
          have hV3 : Mine wr B 5 (.slice (some ⟨g, 0, none⟩) m cv) m (bval (Y.take m)) := (Mine.shrink hV hm0 hmn).ext (fun i hi => by
            unfold bval
            rw [tk_get hi])
          have HV3 := Lib.hid hV3
          have hMr : Row wr a3 nm (bval M) := Row.same hM3 (fun p e h0 => bb.block _ (HMO.out p e h0))
          have HMR := Lib.hid hMr
          have HTL := Lib.hid htl
          have HNN : Hid (m + nm ≤ maxLen) := Lib.hid (by unfold maxLen; omega)
          have hBw : B ≤ wr.heap.size := Nat.le_trans hBs bb.size
          clear hYl htl hV3 hMr hV
          go_wp2_with (at_builtin; go_must (refine wp_app rfl (.tmp 79) (.tmp 80) _ rfl B 5 i0 _ 1 Try.underlying23 hi0 hz0 hz1 hz2 rfl _ m (bval (Y.take m)) rfl HV3.out _ nm _ (bval M) rfl HMR.out (fun _ _ => rfl) HNN.out ?c2 hBw ?_))
          case c2 => omega
          intro v9 w9 m9 g9
          have b9 := bb.grown g9 (by omega) (fun q e => by have := (HV3.out.lt q e).1; omega)
          have hm9 : Mine w9 B 5 v9 (m + nm) (bval (Y.take m ++ M)) := m9.ext (fun i _ => bval_app' (Y.take m) M m HTL.out i)
          have hZl : (Y.take m ++ M).length = m + nm := by rw [List.length_append, HTL.out, HNM.out]
          have hZb : okD' (Y.take m ++ M) := okD_app (okD_take' HYB.out) HMB.out
          obtain ⟨Z, hZ⟩ : ∃ Z, Y.take m ++ M = Z := ⟨_, rfl⟩
          rw [hZ] at hZl hZb hm9
          have HZL := Lib.hid hZl
          have HZB := Lib.hid hZb
          have HM9 := Lib.hid hm9
          clear hZ hZl hZb m9 g9 hm9 HV3 HMR
          cases right
          · go_wp2_with fail
            go_meet
            exact ⟨Z, by rw [HZL.out]; exact HM9.out, HZB, by rw [HZL.out]; omega, b9⟩
          · obtain ⟨a9, c9, rfl, l9, lm9, R9⟩ := HM9.out.row
            have hAp := Cr.rappend_any a9 (m + nm) c9 (fn Z) w9 (by omega) (row_ext R9 (fun i hi => rfl)) (fn_byte HZB.out)
            have HAP := Lib.hid hAp
            have hB9 : B ≤ w9.heap.size := Nat.le_trans hBs b9.size
            clear hAp R9 lm9 l9
            go_wp2_with fail
            with_reducible refine HAP.out.mono ?_
            rintro r w10 ⟨v10, rfl, hM10, b10⟩
            have h10' := Ie.Mine.low (app_ok HZL.out hM10) hB9
            have H10 := Lib.hid h10'
            have bq := b9.trans (b10.mono hB9)
            have hal : (appL Z).length ≤ 300 := by rw [appL_len, HZL.out]; omega
            have HAL := Lib.hid hal
            clear h10' hM10 b10 hal
            go_wp2_with fail
            go_meet
            exact ⟨appL Z, H10.out, Lib.hid (appL_ok HZB.out), HAL.out, bq⟩
  case rest =>
    obtain ⟨Y, hV9, HYB, hY300, bb⟩ := hcut
    obtain ⟨ay, cy, rfl, ly, lym, RY⟩ := hV9.row
    have hR9 : Row wc a5 nr (bval R) := Row.same hR3 (fun p e h0 => bb.block _ (HRO.out p e h0))
    have bC : Below g0 w wc := bB.trans (bb.mono hgs2)
    have hgsc : g0 ≤ wc.heap.size := Nat.le_trans hgs3 bb.size
    have HIX : Hid (∀ k : Nat, k < 2 → ∃ a c Z n, (∀ w : World, (Instr.index 35 (.agg #[.slice ay Y.length cy, .slice a5 nr c5]) (.int .i64 (k : Int))).run Try.prog w = .ok (.slice a n c) w) ∧ Z.length = n ∧ n ≤ c ∧ c ≤ maxLen ∧ n ≤ 300 ∧ okD' Z ∧ Row wc a n (bval Z)) := Lib.hid (fun k hk => by
      rcases (show k = 0 ∨ k = 1 by omega) with rfl | rfl
      · exact ⟨ay, cy, Y, Y.length, fun w => (idx2 _ _ _ _ _ _ w).1, rfl, ly, lym, hY300, HYB.out, RY⟩
      · exact ⟨a5, c5, R, nr, fun w => (idx2 _ _ _ _ _ _ w).2, HNR.out, hRc, by unfold maxLen; exact hRm, by omega, HRB.out, hR9⟩)
    obtain ⟨ny, hny⟩ : ∃ n, Y.length = n := ⟨_, rfl⟩
    rw [hny] at HIX ⊢
    unfold maxLen at lym
    clear hny bB bb hR9 RY hV9 HRO HMO HPO hP3 hM3 hR3
    go_wp2_with fail
    go_loopw [88] (fun i wr => ∃ (k : Nat), i = .int .i64 k ∧ k ≤ 2 ∧ Below wc.heap.size wc wr) (fun i _ => 2 - (intOf i).toNat)
    case atStart => exact ⟨0, rfl, by omega, Below.refl _ _⟩
    case round =>
      obtain ⟨k, rfl, hk, bk⟩ := hrel
      by_cases hlt : k < 2
      · obtain ⟨a, c, Z, n, hi, hn, hc, hm, h300', hok, hrow⟩ := HIX.out k hlt
        have hix := fun w => hi w
        have hD1 := decF_any a c Z wr (by rw [hn]; exact hc) hm (by omega) (by rw [hn]; exact hrow.below bk) hok
        rw [hn] at hD1
        have HD1 := Lib.hid hD1
        have HD2 : Hid (∀ W, Below wr.heap.size wr W → Calls Try.prog 19 #[.slice a n c] W (DecFPost Z W)) := Lib.hid (fun W hW => by
          have := rdecF_any a c Z W (by rw [hn]; exact hc) hm (by omega) (by rw [hn]; exact hrow.below (bk.trans (hW.mono bk.size))) hok
          rwa [hn] at this)
        unfold maxLen at hm
        clear hD1 hi hn hok hrow
        go_wp2_with fail
        refine HD1.out.mono ?_
        intro r w4 hp
        obtain ⟨p, rfl, hpf, hpa, b4⟩ := frdec_out hp
        have bo := (Below.refl w4.heap.size w4).alloc (Nat.le_refl _) (.cells p.vals 25)
        have o4 := Own.new w4 25 p.vals
        have hpa := hpa.below bo
        have b5 := b4.trans (bo.mono b4.size)
        have HS := Lib.hid (fun p' W h h' => rsameF_any p p' W h h')
        have HPF := Lib.hid hpf
        obtain ⟨E, hE⟩ : ∃ E, outE Z = E := ⟨_, rfl⟩
        have HEE := Lib.hid hE
        rw [hE]
        obtain ⟨pk, ps, pd, pq, pL, pa, pc, pdata, pb, pe⟩ := p
        have HPA := Lib.hid hpa
        unfold Fp.vals at *
        simp only at *
        obtain ⟨nd, hnd⟩ : ∃ n, pdata.length = n := ⟨_, rfl⟩
        rw [hnd] at o4 b5 HPA HS bo ⊢
        obtain ⟨nl, hnl⟩ : ∃ n, pL.length = n := ⟨_, rfl⟩
        rw [hnl] at o4 b5 HPA HS bo ⊢
        clear hp HD1 hpf hpa hnd hnl hE
        go_upto_region 19 with (fail)
        generalize w4.alloc (.cells #[.int .i64 pk, .int .i64 ps, .int .i64 pd, .int .i64 pq, .slice pa nl pc, .slice pb nd pe] 25) = w5 at *
        obtain ⟨g1, hg1⟩ : ∃ g, w4.heap.size = g := ⟨_, rfl⟩
        rw [hg1] at o4 ⊢
        clear hg1 bo b4 hix
        have HD3 := Lib.hid (HD2.out w5 b5)
        go_wp2_with fail
        refine HD3.out.mono ?_
        intro r w6 hp
        obtain ⟨p, rfl, hpf, hpa, b6⟩ := frdec_out hp
        have bo := (Below.refl w6.heap.size w6).alloc (Nat.le_refl _) (.cells p.vals 25)
        have o6 := Own.new w6 25 p.vals
        have hpa := hpa.below bo
        have b7 := b6.trans (bo.mono b6.size)
        have b8 := b5.trans (b7.mono b5.size)
        have o5 := below_own b7 o4 o4.lt
        have hS := HS.out p _ (HPA.out.below b7) hpa
        rw [HPF.out, hpf, sameF_self] at hS
        obtain ⟨qk, qs, qd, qq, qL, qa, qc, qdata, qb, qe⟩ := p
        unfold Fp.vals at *
        simp only at *
        obtain ⟨md, hmd⟩ : ∃ n, qdata.length = n := ⟨_, rfl⟩
        rw [hmd] at o6 o5 b8 hS bo ⊢
        obtain ⟨ml, hml⟩ : ∃ n, qL.length = n := ⟨_, rfl⟩
        rw [hml] at o6 o5 b8 hS bo ⊢
        have HSS := Lib.hid hS
        rw [HEE.out]
        clear hp HD3 HD2 hpf hpa hmd hml hS HS HPA HPF o4 b5 b7
        go_upto_region 20 with (fail)
        generalize w6.alloc (.cells #[.int .i64 qk, .int .i64 qs, .int .i64 qd, .int .i64 qq, .slice qa ml qc, .slice qb md qe] 25) = w7 at *
        obtain ⟨g2', hg2⟩ : ∃ g, w6.heap.size = g := ⟨_, rfl⟩
        rw [hg2] at o6 ⊢
        clear hg2 bo
        have x0 : w7.cell? ⟨g1, 0, none⟩ = some (.int .i64 pk) := o5.cell 0
        have x1 : w7.cell? ⟨g1, 1, none⟩ = some (.int .i64 ps) := o5.cell 1
        have x2 : w7.cell? ⟨g1, 2, none⟩ = some (.int .i64 pd) := o5.cell 2
        have x3 : w7.cell? ⟨g1, 3, none⟩ = some (.int .i64 pq) := o5.cell 3
        have x4 : w7.cell? ⟨g1, 4, none⟩ = some (.slice pa nl pc) := o5.cell 4
        have x5 : w7.cell? ⟨g1, 5, none⟩ = some (.slice pb nd pe) := o5.cell 5
        have y0 : w7.cell? ⟨g2', 0, none⟩ = some (.int .i64 qk) := o6.cell 0
        have y1 : w7.cell? ⟨g2', 1, none⟩ = some (.int .i64 qs) := o6.cell 1
        have y2 : w7.cell? ⟨g2', 2, none⟩ = some (.int .i64 qd) := o6.cell 2
        have y3 : w7.cell? ⟨g2', 3, none⟩ = some (.int .i64 qq) := o6.cell 3
        have y4 : w7.cell? ⟨g2', 4, none⟩ = some (.slice qa ml qc) := o6.cell 4
        have y5 : w7.cell? ⟨g2', 5, none⟩ = some (.slice qb md qe) := o6.cell 5
        have te : (E != E) = false := by simp
        clear o5 o6
        go_wp2_with fail
        with_reducible refine HSS.out.mono ?_
        rintro r w8 ⟨rfl, b9⟩
        have b10 := b8.trans (b9.mono b8.size)
        have b11 := bk.trans (b10.mono bk.size)
        clear x0 x1 x2 x3 x4 x5 y0 y1 y2 y3 y4 y5 b8 b9 b10
        go_wp2_with fail
        exact ⟨⟨k + 1, by simp, by omega, b11⟩, by simp [intOf]; omega⟩
      · obtain rfl : 2 = k := by omega
        go_wp2_with fail
        refine (awakeF_any _).mono ?_
        rintro r w9 ⟨rfl, b9⟩
        have b11 := bk.trans (b9.mono bk.size)
        go_wp2_with fail
        go_ret
        exact ⟨rfl, by rw [HG.out]; exact bC.trans (b11.mono hgsc)⟩

theorem walk (H : Type) (enc : TypeId × Value → H) : Walk H enc Try.prog 4 Try.f4 := by
  intro W base args ds p hval hA
  rw [Try.params4] at hA hval
  obtain ⟨v0, vs, d0, ds', p0, q0, e0, rfl, rfl, h0, hA⟩ := trodAll_cons hA
  obtain ⟨v1, vs1, d1, ds1, p1, q1, rfl, rfl, rfl, h1, hA⟩ := trodAll_cons hA
  obtain ⟨v2, vs2, d2, ds2, p2, q2, rfl, rfl, rfl, h2, hA⟩ := trodAll_cons hA
  obtain ⟨v3, vs3, d3, ds3, p3, q3, rfl, rfl, rfl, h3, hA⟩ := trodAll_cons hA
  obtain ⟨v4, vs4, d4, ds4, p4, q4, rfl, rfl, rfl, h4, hA⟩ := trodAll_cons hA
  obtain ⟨v5, vs5, d5, ds5, p5, q5, rfl, rfl, rfl, h5, hA⟩ := trodAll_cons hA
  obtain ⟨v6, vs6, d6, ds6, p6, q6, rfl, rfl, rfl, h6, hA⟩ := trodAll_cons hA
  obtain ⟨rfl, rfl, rfl⟩ := trodAll_nil hA
  obtain ⟨l⟩ := args
  dsimp only at e0
  subst e0
  obtain ⟨p, rfl, hp⟩ := open_frame (hval 0 _ v0 rfl rfl) h0
  obtain ⟨a1, P, c1, rfl, hc1, hm1, hR1, _⟩ := open_ints (hval 1 _ v1 rfl rfl) h1
  obtain ⟨x, rfl, rfl, rfl, wx⟩ := open_int Try.underlying5 (hval 2 _ v2 rfl rfl) h2
  obtain ⟨rt, rfl, _⟩ := open_bool Try.underlying4 (hval 3 _ v3 rfl rfl) h3
  obtain ⟨a3, M, c3, rfl, hc3, hm3, hR3, _, hok⟩ := open_bytes (hval 4 _ v4 rfl rfl) h4
  obtain ⟨cut, rfl, rfl, rfl, _⟩ := open_int Try.underlying3 (hval 5 _ v5 rfl rfl) h5
  obtain ⟨a5, R, c5, rfl, hc5, hm5, hR5, _, hok5⟩ := open_bytes (hval 6 _ v6 rfl rfl) h6
  exact body p P a1 c1 x rt M a3 c3 cut R a5 c5 W hp hR1 hc1 hm1 hR3 hc3 hm3 hok (u8_bd wx) hR5 hc5 hm5 hok5

set_option maxRecDepth 100000 in
theorem lifted (os : Os) (started : os.Started) (H : Type) (enc : TypeId × Value → H) :
    ReturnsInHanded {} Try.checked os 4 .any (Rows.frameDecodesSpec.pre6 enc Try.prog Try.f4 Rows.frameDecodesRow.domain false) (Rows.frameDecodesSpec.post enc Try.prog Try.f4 false true false false) :=
  returnsInHanded_of_change (C := Try.checked) own started (by kernel_rfl) Try.func4
    (ChangeSpec.witness6 (enc := enc) (C := Try.checked) false ⟨#[], #[.agg #[.int .i64 0, .int .i64 0, .int .i64 0, .int .i64 0, .slice none 0 0, .slice none 0 0], (.slice none 0 0), (.int .u8 0), (.bool false), (.slice none 0 0), (.int .i64 0), (.slice none 0 0)], []⟩ 8 (by kernel_rfl) (by kernel_rfl) (by kernel_rfl) (by kernel_rfl))
    fun W base args ds gs before hval hW _ _ => step_of_walk laidOut (by rw [Try.params4]; exact of_decide_eq_true (by kernel_rfl)) (by kernel_rfl) Try.underlying4 rfl
      (fun ds h => by
        rw [Try.params4] at h
        match ds, h with
        | [_, _, _, _, _, _, _], _ => rfl) (walk H enc) W base args ds gs before hval hW

theorem holds : Rows.FrameDecodesSaid :=
  OpenClaim.holds_of_wide 4 Try.f4 rfl rfl rfl rfl rfl rfl rfl ⟨rfl, rfl, rfl, rfl, rfl⟩ rfl rfl rfl rfl rfl (by kernel_rfl) Try.func4 (by kernel_rfl)
    (of_decide_eq_true (by kernel_rfl)) (by unfold Func.isWrapper; first | (rw [if_pos (by decide +kernel)]; kernel_rfl) | (rw [if_neg (by decide +kernel)]; exact ⟨rfl, rfl⟩))
    (fun os started H enc _ => lifted os started H enc)
#print axioms holds
end Go.Proofs.Ytoconkgemakboaa.FrameDecodes
