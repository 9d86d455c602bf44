/-
  The reference of packets (chapter 19): Up, Down, Back.
-/
import Derived.Test.YtcpmnfoenpdaeaaRtREnc
import Derived.Test.YtcpmnfoenpdaeaaRtUp
import Derived.Test.YtcpmnfoenpdaeaaRtDown
import Derived.Test.YtcpmnfoenpdaeaaRtArg
set_option maxRecDepth 100000
namespace Go.Proofs.Ytcpmnfoenpdaeaa.Rt
set_option linter.unusedVariables false
open Go.RowKit Lb Go.Shelf Bf
theorem noP_at (w : World) : noP.At w none 0 none 0 := ⟨Nat.le_refl _, by decide, Row.nil _ _ _, fun _ => rfl, Nat.le_refl _, by decide, Row.nil _ _ _, fun _ => rfl⟩
def RUpPost (base : Nat) (q : Pk × Int) (w : World) (r : Ending) (w' : World) : Prop :=
  ∃ a c b d, r = .returned (.tuple #[.agg (q.1.vals a c b d), .int .i64 q.2]) ∧ q.1.At w' a c b d ∧ Below base w w'
set_option maxHeartbeats 4000000 in
theorem rup_any (p : Pk) (a : Option Addr) (c : Nat) (b : Option Addr) (d : Nat) (me : Int) (w : World) (h : p.At w a c b d) :
    Calls Try.prog 14 #[.agg (p.vals a c b d), .int .i64 me] w (RUpPost w.heap.size (upR p me) w) := by
  have o1 : Lb.Own ((w.alloc (.cells (p.vals a c b d) 25)).alloc (.cells #[.int .i64 0, .int .i64 0, .int .i64 0, .int .i64 0, .slice none 0 0, .slice none 0 0] 25)) w.heap.size 25 (p.vals a c b d) := (Own.new w _ _).alloc _
  have o2 : Lb.Own ((w.alloc (.cells (p.vals a c b d) 25)).alloc (.cells #[.int .i64 0, .int .i64 0, .int .i64 0, .int .i64 0, .slice none 0 0, .slice none 0 0] 25)) (w.heap.size + 1) 25 #[.int .i64 0, .int .i64 0, .int .i64 0, .int .i64 0, .slice none 0 0, .slice none 0 0] := by
    have := Own.new (w.alloc (.cells (p.vals a c b d) 25)) 25 #[.int .i64 0, .int .i64 0, .int .i64 0, .int .i64 0, .slice none 0 0, .slice none 0 0]
    rwa [show (w.alloc (.cells (p.vals a c b d) 25)).heap.size = w.heap.size + 1 by simp] at this
  have b0 := ((Below.refl w.heap.size w).alloc (Nat.le_refl _) (.cells (p.vals a c b d) 25)).alloc (by simp) (.cells #[.int .i64 0, .int .i64 0, .int .i64 0, .int .i64 0, .slice none 0 0, .slice none 0 0] 25)
  have h1 := h.below b0
  have hsz : ((w.alloc (.cells (p.vals a c b d) 25)).alloc (.cells #[.int .i64 0, .int .i64 0, .int .i64 0, .int .i64 0, .slice none 0 0, .slice none 0 0] 25)).heap.size = w.heap.size + 2 := by simp
  go_enter Try.func14, Try.ntmps14
  go_upto_region 1 with (fail)
  generalize (w.alloc (.cells (p.vals a c b d) 25)).alloc (.cells #[.int .i64 0, .int .i64 0, .int .i64 0, .int .i64 0, .slice none 0 0, .slice none 0 0] 25) = w1 at *
  have c0 : w1.cell? ⟨w.heap.size, 0, none⟩ = some (.int .i64 p.f) := o1.cell 0
  have c1 : w1.cell? ⟨w.heap.size, 1, none⟩ = some (.int .i64 p.t) := o1.cell 1
  have c2 : w1.cell? ⟨w.heap.size, 2, none⟩ = some (.int .i64 p.n) := o1.cell 2
  have c3 : w1.cell? ⟨w.heap.size, 3, none⟩ = some (.int .i64 p.life) := o1.cell 3
  have c4 : w1.cell? ⟨w.heap.size, 4, none⟩ = some (.slice a p.path.length c) := o1.cell 4
  have c5 : w1.cell? ⟨w.heap.size, 5, none⟩ = some (.slice b p.data.length d) := o1.cell 5
  cases hm : mayK p
  · have HM := Lib.hid hm
    have HD : Hid (upR p me = (noP, 1)) := Lib.hid (by unfold upR; rw [if_pos (.inl hm)])
    clear hm
    go_wp2_with fail
    refine (rmay_any p a c b d w1 h1).mono ?_
    rintro r w2 ⟨rfl, b2⟩
    rw [HM.out]
    have z2 := below_own b2 o2 (by omega)
    have b3 := b0.trans (b2.mono b0.size)
    clear c0 c1 c2 c3 c4 c5 o1 h1
    go_wp2_with (refine wpList_build_store (noP.vals none 0 none 0) rfl rfl rfl rfl builtP rfl rfl z2 (by kernel_rfl) rfl (cells6 _ _ _ _ _) ?_)
    refine bodyPost_ret (results_row_tmp rfl _ _ (w.heap.size + 1) 25 _ (0, 0) _ rfl (z2.setRow _) Try.underlying25 rfl (by kernel_rfl)) rfl ⟨none, 0, none, 0, ?_, ?_, (Just.setRow _ _ _).below b3 (by omega) b3.size⟩
    · rw [HD.out]; rfl
    · rw [HD.out]; exact noP_at _
  · have HM := Lib.hid hm
    have hlf := mayK_life hm
    have hne : ∀ x, mayK p = false ∨ x → x := fun x h => h.elim (fun h' => by rw [hm] at h'; cases h') id
    clear hm
    go_wp2_with fail
    refine (rmay_any p a c b d w1 h1).mono ?_
    rintro r w2 ⟨rfl, b2⟩
    rw [HM.out]
    have z2 := below_own b2 o2 (by omega)
    have q2 := below_own b2 o1 (by omega)
    have b3 := b0.trans (b2.mono b0.size)
    have h2 := h.below b3
    have s2z : w.heap.size + 2 ≤ w2.heap.size := by have := b2.size; omega
    clear c0 c1 c2 c3 c4 c5 o1 o2 h1 b0 b2 hsz
    have c0 : w2.cell? ⟨w.heap.size, 0, none⟩ = some (.int .i64 p.f) := q2.cell 0
    have c1 : w2.cell? ⟨w.heap.size, 1, none⟩ = some (.int .i64 p.t) := q2.cell 1
    have c2 : w2.cell? ⟨w.heap.size, 2, none⟩ = some (.int .i64 p.n) := q2.cell 2
    have c3 : w2.cell? ⟨w.heap.size, 3, none⟩ = some (.int .i64 p.life) := q2.cell 3
    have c4 : w2.cell? ⟨w.heap.size, 4, none⟩ = some (.slice a p.path.length c) := q2.cell 4
    have c5 : w2.cell? ⟨w.heap.size, 5, none⟩ = some (.slice b p.data.length d) := q2.cell 5
    cases hnd : ndB me
    · have HD : Hid (upR p me = (noP, 1)) := Lib.hid (by unfold upR; rw [if_pos (.inr hnd)])
      have HN := Lib.hid hnd
      clear hnd
      go_wp2_with fail
      refine (node_any me _).mono ?_
      rintro r w' ⟨rfl, rfl⟩
      rw [HN.out]
      go_wp2_with (first | (refine wpList_build_store (noP.vals none 0 none 0) rfl rfl rfl rfl builtP rfl rfl z2 (by kernel_rfl) rfl (cells6 _ _ _ _ _) ?_))
      refine bodyPost_ret (results_row_tmp rfl _ _ (w.heap.size + 1) 25 _ (0, 0) _ rfl (z2.setRow _) Try.underlying25 rfl (by kernel_rfl)) rfl ⟨none, 0, none, 0, ?_, ?_, (Just.setRow _ _ _).below b3 (by omega) b3.size⟩
      · rw [HD.out]; rfl
      · rw [HD.out]; exact noP_at _
    · have HN := Lib.hid hnd
      have hne2 : ¬ (mayK p = false ∨ ndB me = false) := fun h => by
        have := hne _ h
        rw [hnd] at this
        cases this
      clear hnd hne
      by_cases hl0 : p.life = 0
      · have HD : Hid (upR p me = (noP, 11)) := Lib.hid (by unfold upR; rw [if_neg hne2, if_pos hl0])
        have e0 : (p.life == 0) = true := by simpa using hl0
        clear hl0 hne2
        go_wp2_with fail
        refine (node_any me _).mono ?_
        rintro r w' ⟨rfl, rfl⟩
        rw [HN.out]
        go_wp2_with (first | (refine wpList_build_store (noP.vals none 0 none 0) rfl rfl rfl rfl builtP rfl rfl z2 (by kernel_rfl) rfl (cells6 _ _ _ _ _) ?_))
        refine bodyPost_ret (results_row_tmp rfl _ _ (w.heap.size + 1) 25 _ (0, 0) _ rfl (z2.setRow _) Try.underlying25 rfl (by kernel_rfl)) rfl ⟨none, 0, none, 0, ?_, ?_, (Just.setRow _ _ _).below b3 (by omega) b3.size⟩
        · rw [HD.out]; rfl
        · rw [HD.out]; exact noP_at _
      · have e0 : (p.life == 0) = false := by simpa using hl0
        have hlife : 1 ≤ p.life ∧ p.life ≤ 15 := by omega
        have hplen : p.path.length ≤ 16 := by omega
        have hdlen : p.data.length ≤ 24 := by omega
        have q3 := q2.put 3 (.int .i64 (p.life - 1))
        have z3 : Lb.Own (w2.setCell ⟨w.heap.size, 3, none⟩ (.int .i64 (p.life - 1))) (w.heap.size + 1) 25 #[.int .i64 0, .int .i64 0, .int .i64 0, .int .i64 0, .slice none 0 0, .slice none 0 0] := z2.apart (p := ⟨w.heap.size, 3, none⟩) (by show w.heap.size + 1 ≠ w.heap.size; omega) _
        have b4 := (Just.set w.heap.size w2 3 (.int .i64 (p.life - 1))).below b3 (Nat.le_refl _) b3.size
        have s3 : w.heap.size + 2 ≤ (w2.setCell ⟨w.heap.size, 3, none⟩ (.int .i64 (p.life - 1))).heap.size := Nat.le_trans s2z (Just.set w.heap.size w2 3 (.int .i64 (p.life - 1))).size
        have f3 : w2.frozen? ⟨w.heap.size, 3, none⟩ = false := q2.free 3
        have HRAT := Lib.hid (fun (A : Option Addr) (C : Nat) (W : World) (hR : Row W A p.path.length (zval p.path)) => rat_any A C p.path me W (by unfold maxLen; omega) hR)
        have HZ := Lib.hid (z_snoc p.path me)
        have HB := atI_bd p.path me
        have H0 := Lib.hid h
        have HUP : Hid (upR p me = if 0 ≤ atI p.path me then (lessP p, 0) else if 16 ≤ p.path.length then (noP, 5) else (moreP p me, 0)) := Lib.hid (by unfold upR; rw [if_neg hne2, if_neg hl0])
        obtain ⟨at_, hat⟩ : ∃ x, atI p.path me = x := ⟨_, rfl⟩
        rw [hat] at HRAT HB HUP
        obtain ⟨np, hnp⟩ : ∃ n, p.path.length = n := ⟨_, rfl⟩
        obtain ⟨nd, hnd⟩ : ∃ n, p.data.length = n := ⟨_, rfl⟩
        have HNP := Lib.hid hnp
        have HND := Lib.hid hnd
        have hpc := h.pc
        have hpm := h.pm
        have hdc := h.dc
        have hdm := h.dm
        unfold maxLen at hpm hdm
        unfold Pk.vals at q2 q3
        rw [hnp] at q2 q3 c4 hpc hplen HRAT HUP HZ HB
        rw [hnd] at q2 q3 c5 hdc hdlen
        have n1 : (np : Int) ≤ 9223372036854775807 := by omega
        have n2 : (c : Int) ≤ 9223372036854775807 := by omega
        have n3 : (nd : Int) ≤ 9223372036854775807 := by omega
        have n4 : (d : Int) ≤ 9223372036854775807 := by omega
        obtain ⟨i0, hi0, hz0, hz1, hz2⟩ := info_parts infoI
        obtain ⟨j0, hj0, hy0, hy1, hy2⟩ := info_parts info8'
        clear hat hnp hnd hl0 hne2 hlf h2 h z2
        go_upto_region 6 with (go_at_call 36; refine (node_any me _).mono ?_; rintro r w' ⟨rfl, rfl⟩; rw [HN.out])
        generalize w2.setCell ⟨w.heap.size, 3, none⟩ (.int .i64 (p.life - 1)) = w3 at *
        have q3 : Lb.Own w3 w.heap.size 25 #[.int .i64 p.f, .int .i64 p.t, .int .i64 p.n, .int .i64 (p.life - 1), .slice a np c, .slice b nd d] := q3
        clear q2 c0 c1 c2 c3 c4 c5 f3 b3 s2z
        have k4 := q3.cell 4
        have hpr : Hid (Row w3 a np (zval p.path)) := Lib.hid (by rw [← HNP.out]; exact (H0.out.below b4).prow)
        have hnpm : Hid (0 + np ≤ maxLen) := Lib.hid (by unfold maxLen; omega)
        go_wp2_with (at_builtin; go_must (refine wp_app rfl (.const (.slice none 0 0)) (.tmp 25) _ rfl (w.heap.size + 2) 3 i0 _ 8 Try.underlying22 hi0 hz0 hz1 hz2 rfl (.slice none 0 0) 0 (zval []) rfl (Mine.nil _ _ _ _) _ np _ (zval p.path) rfl hpr.out (fun _ _ => rfl) hnpm.out ?c2 s3 ?_))
        case c2 => omega
        intro v4 w4 m4 g4
        have B4 := (Below.refl w3.heap.size w3).grown g4 (Nat.le_refl _) (fun q e => by cases e)
        have q4 := below_own B4 q3 q3.lt
        have z4 := below_own B4 z3 z3.lt
        have b5 := b4.trans (B4.mono (by omega))
        have s4 := Nat.le_trans s3 B4.size
        have m4 : Mine w4 (w.heap.size + 2) 3 v4 np (zval p.path) := by
          have m4 : Mine w4 (w.heap.size + 2) 3 v4 (0 + np) (fun i => if i < 0 then zval [] i else zval p.path (i - 0)) := by first | exact m4 | simpa using m4
          rw [Nat.zero_add] at m4
          exact m4.ext (fun i hi => by rw [if_neg (by omega)]; rfl)
        obtain ⟨xa, xc, rfl, hxc, hxm, hxr⟩ := m4.row
        unfold maxLen at hxm
        have hxc63 : (xc : Int) ≤ 9223372036854775807 := by omega
        have PA := HRAT.out xa xc w4 hxr
        clear q3 z3 b4 s3 k4 hpr hnpm g4 B4 hxr HRAT
        by_cases hat : 0 ≤ at_
        · have HD : Hid (upR p me = ({ lessP p with path := p.path }, 0)) := Lib.hid (by rw [HUP.out, if_pos hat]; rfl)
          have ea : decide (at_ < 0) = false := by simp; omega
          clear hat HB HUP
          go_upto_region 11 with (go_at_call 27; refine PA.mono ?_; rintro r w' ⟨rfl, rfl⟩)
          clear PA ea
          generalize w4 = wt at *
          have qt := q4
          have zt := z4
          have bt := b5
          have st := s4
          have mt := m4
          -- region 11: the data, two stores; region 12: the row
          have k5 := qt.cell 5
          have hdr := Lib.hid ((H0.out.below bt).drow)
          have hsz5 : w.heap.size + 2 ≤ wt.heap.size := st
          have hndm : Hid (0 + nd ≤ maxLen) := Lib.hid (by unfold maxLen; omega)
          obtain ⟨hvc, hvm⟩ : np ≤ xc ∧ xc ≤ maxLen := by
            obtain ⟨va, vc, hvv, hvc, hvm, _⟩ := mt.row
            cases hvv
            exact ⟨hvc, hvm⟩
          unfold maxLen at hvm
          have hvc63 : (xc : Int) ≤ 9223372036854775807 := by omega
          have hdr2 : Hid (Row wt b nd (bval p.data)) := Lib.hid (by rw [← HND.out]; exact hdr.out)
          go_upto_region 11 with (fail)
          go_wp2_with (at_builtin; go_must (refine wp_app rfl (.const (.slice none 0 0)) (.tmp 41) _ rfl (w.heap.size + 2) 5 j0 _ 1 Try.underlying23 hj0 hy0 hy1 hy2 rfl (.slice none 0 0) 0 (bval []) rfl (Mine.nil _ _ _ _) _ nd _ (bval p.data) rfl hdr2.out (fun _ _ => rfl) hndm.out ?c2 hsz5 ?_))
          case c2 => omega
          intro v7 w7 m7 g7
          have B7 := (Below.refl wt.heap.size wt).grown g7 (Nat.le_refl _) (fun q e => by cases e)
          have q7 := below_own B7 qt qt.lt
          have z7 := below_own B7 zt zt.lt
          have b7 := bt.trans (B7.mono (by omega))
          have mt7 : Mine w7 (w.heap.size + 2) 3 (.slice xa np xc) np (zval p.path) := mt.kept (fun q _ => by
            by_cases hl : q < wt.heap.size
            · exact .inl (B7.block q hl)
            · exact .inr (fun e => hl (mt.lt q e).2))
          have m7 : Mine w7 (w.heap.size + 2) 5 v7 nd (bval p.data) := by
            have m7 : Mine w7 (w.heap.size + 2) 5 v7 (0 + nd) (fun i => if i < 0 then bval [] i else bval p.data (i - 0)) := by first | exact m7 | simpa using m7
            rw [Nat.zero_add] at m7
            exact m7.ext (fun i hi => by rw [if_neg (by omega)]; rfl)
          obtain ⟨ua, uc, rfl, huc, hum, _⟩ := m7.row
          unfold maxLen at hum
          have huc63 : (uc : Int) ≤ 9223372036854775807 := by omega
          have k4 := q7.cell 4
          have k5' := q7.cell 5
          have f4 := q7.free 4
          have f5 := q7.free 5
          have q9 := (q7.put 4 (.slice xa np xc)).put 5 (.slice ua nd uc)
          have J9 := ((Just.refl w.heap.size w7).put 4 (.slice xa np xc)).put 5 (.slice ua nd uc)
          have z9 := J9.own z7 (by omega)
          have b9 := J9.below b7 (Nat.le_refl _) b7.size
          have m9 := m7.just J9 (by omega)
          have mt9 := mt7.just J9 (by omega)
          have hne4 : w.heap.size < w7.heap.size := q7.lt
          clear q7 z7 b7 m7 mt7 J9 qt zt bt mt k5 hdr hdr2 hndm g7 B7 st hsz5
          go_upto_region 12 with (fail)
          generalize (w7.setCell ⟨w.heap.size, 4, none⟩ (.slice xa np xc)).setCell ⟨w.heap.size, 5, none⟩ (.slice ua nd uc) = w9 at *
          have q9 : Lb.Own w9 w.heap.size 25 #[.int .i64 p.f, .int .i64 p.t, .int .i64 p.n, .int .i64 (p.life - 1), .slice xa np xc, .slice ua nd uc] := q9
          have hone : (#[Value.int .i64 p.f, .int .i64 p.t, .int .i64 p.n, .int .i64 (p.life - 1), .slice xa np xc, .slice ua nd uc] : Array Value).all (·.oneCell') = true := by simp [Value.oneCell']
          clear k4 k5' f4 f5
          refine wp_region_lit ?_
          refine wpList_load_row rfl 25 _ rfl w.heap.size rfl 25 _ (0, 0) _ q9 Try.underlying25 rfl (by kernel_rfl) ?_
          refine wpList_store_row rfl 25 _ _ rfl (w.heap.size + 1) _ rfl rfl 25 _ z9 (by kernel_rfl) rfl hone ?_
          go_wp2_with fail
          have m10 := mt9.rowAt
          have n10 := m9.rowAt
          have JZ := Just.setRow (w.heap.size + 1) w9 #[.int .i64 p.f, .int .i64 p.t, .int .i64 p.n, .int .i64 (p.life - 1), .slice xa np xc, .slice ua nd uc]
          have mz := (mt9.just JZ (by omega))
          have nz := (m9.just JZ (by omega))
          refine bodyPost_ret (results_row_tmp rfl _ _ (w.heap.size + 1) 25 _ (0, 0) _ rfl (z9.setRow _) Try.underlying25 rfl (by kernel_rfl)) rfl ⟨xa, xc, ua, uc, ?_, ?_, JZ.below b9 (by omega) b9.size⟩
          · rw [HD.out, ← HNP.out, ← HND.out]; rfl
          · rw [HD.out]
            refine ⟨by show p.path.length ≤ xc; rw [HNP.out]; exact hvc, by unfold maxLen; omega, by show Row _ xa p.path.length (zval p.path); rw [HNP.out]; exact mz.rowAt, fun e => by show p.path.length = 0; rw [HNP.out]; exact row_none mz.rowAt e, by show p.data.length ≤ uc; rw [HND.out]; exact huc, by unfold maxLen; omega, by show Row _ ua p.data.length (bval p.data); rw [HND.out]; exact nz.rowAt, fun e => by show p.data.length = 0; rw [HND.out]; exact row_none nz.rowAt e⟩
        · have ea : decide (at_ < 0) = true := by simp; omega
          by_cases hf : 16 ≤ np
          · have HD : Hid (upR p me = (noP, 5)) := Lib.hid (by rw [HUP.out, if_neg hat, if_pos hf])
            have g1 : decide (16 ≤ np) = true := by simpa using hf
            have g2 : decide ((16 : Int) ≤ (np : Int)) = true := by simp; omega
            have k4 := q4.cell 4
            clear hat HB HUP hf
            go_wp2_with (first | (go_at_call 27; refine PA.mono ?_; rintro r w' ⟨rfl, rfl⟩) | (refine wpList_build_store (noP.vals none 0 none 0) rfl rfl rfl rfl builtP rfl rfl z4 (by kernel_rfl) rfl (cells6 _ _ _ _ _) ?_))
            refine bodyPost_ret (results_row_tmp rfl _ _ (w.heap.size + 1) 25 _ (0, 0) _ rfl (z4.setRow _) Try.underlying25 rfl (by kernel_rfl)) rfl ⟨none, 0, none, 0, ?_, ?_, (Just.setRow _ _ _).below b5 (by omega) b5.size⟩
            · rw [HD.out]; rfl
            · rw [HD.out]; exact noP_at _
          · have HD : Hid (upR p me = ({ lessP p with path := p.path ++ [me] }, 0)) := Lib.hid (by rw [HUP.out, if_neg hat, if_neg hf]; rfl)
            have g1 : decide (16 ≤ np) = false := by simpa using hf
            have g2 : decide ((16 : Int) ≤ (np : Int)) = false := by simp; omega
            clear hat HB HUP hf
            have m5 := m4.alloc (.cells #[.int .i64 me] 3)
            have j5 := (Below.refl w4.heap.size w4).alloc (Nat.le_refl _) (.cells #[.int .i64 me] 3)
            have q5 := below_own j5 q4 q4.lt
            have z5 := below_own j5 z4 z4.lt
            have b6 := b5.trans (j5.mono (by omega))
            have s5 : w.heap.size + 2 ≤ (w4.alloc (.cells #[.int .i64 me] 3)).heap.size := Nat.le_trans s4 j5.size
            have rw0 := Lib.hid (row_new (n := 1) (V := fun _ => .int .i64 me) w4 #[.int .i64 me] 3 (0, 0) (fun i hi => by obtain rfl : i = 0 := (by omega); rfl))
            have hnm1 : Hid (np + 1 ≤ maxLen) := Lib.hid (by unfold maxLen; omega)
            go_upto_region 10 with (go_at_call 27; refine PA.mono ?_; rintro r w' ⟨rfl, rfl⟩)
            go_wp2_with (at_builtin; go_must (refine wp_app rfl (.tmp 35) (.tmp 37) _ rfl (w.heap.size + 2) 3 i0 _ 8 Try.underlying22 hi0 hz0 hz1 hz2 rfl (.slice xa np xc) np (zval p.path) rfl m5 _ 1 _ (fun _ => .int .i64 me) rfl rw0.out (fun _ _ => rfl) hnm1.out ?c3 s5 ?_))
            case c3 => omega
            intro v8 w8 m8 g8
            generalize w8 = wt at *
            have qt := grown_own g8 q5 (fun e => by have := (m5.lt _ e).1; omega)
            have zt := grown_own g8 z5 (fun e => by have := (m5.lt _ e).1; omega)
            have bt := b6.grown g8 (by omega) (fun q hq => by have := (m5.lt q hq).1; omega)
            have st := Nat.le_trans s5 g8.size
            have mt := m8.ext (U := zval (p.path ++ [me])) (fun q hq => by rw [← HZ.out q hq])
            have HPL : Hid ((p.path ++ [me]).length = np + 1) := Lib.hid (by rw [List.length_append, HNP.out]; rfl)
            obtain ⟨nl, hnl⟩ : ∃ x, np + 1 = x := ⟨_, rfl⟩
            have hnl2 : (nl : Int) ≤ 9223372036854775807 := by omega
            rw [hnl] at mt HPL
            clear PA ea m5 j5 q5 z5 b6 s5 rw0 hnm1 m8 g8 q4 z4 b5 s4 m4 hnl g1 g2
            -- region 11: the data, two stores; region 12: the row
            have k5 := qt.cell 5
            have hdr := Lib.hid ((H0.out.below bt).drow)
            have hsz5 : w.heap.size + 2 ≤ wt.heap.size := st
            have hndm : Hid (0 + nd ≤ maxLen) := Lib.hid (by unfold maxLen; omega)
            obtain ⟨va, vc, rfl, hvc, hvm, hvr⟩ := mt.row
            unfold maxLen at hvm
            have hvc63 : (vc : Int) ≤ 9223372036854775807 := by omega
            have hdr2 : Hid (Row wt b nd (bval p.data)) := Lib.hid (by rw [← HND.out]; exact hdr.out)
            clear hvr
            go_wp2_with (at_builtin; go_must (refine wp_app rfl (.const (.slice none 0 0)) (.tmp 41) _ rfl (w.heap.size + 2) 5 j0 _ 1 Try.underlying23 hj0 hy0 hy1 hy2 rfl (.slice none 0 0) 0 (bval []) rfl (Mine.nil _ _ _ _) _ nd _ (bval p.data) rfl hdr2.out (fun _ _ => rfl) hndm.out ?c2 hsz5 ?_))
            case c2 => omega
            intro v7 w7 m7 g7
            have B7 := (Below.refl wt.heap.size wt).grown g7 (Nat.le_refl _) (fun q e => by cases e)
            have q7 := below_own B7 qt qt.lt
            have z7 := below_own B7 zt zt.lt
            have b7 := bt.trans (B7.mono (by omega))
            have mt7 : Mine w7 (w.heap.size + 2) 3 (.slice va nl vc) nl (zval (p.path ++ [me])) := mt.kept (fun q _ => by
              by_cases hl : q < wt.heap.size
              · exact .inl (B7.block q hl)
              · exact .inr (fun e => hl (mt.lt q e).2))
            have m7 : Mine w7 (w.heap.size + 2) 5 v7 nd (bval p.data) := by
              have m7 : Mine w7 (w.heap.size + 2) 5 v7 (0 + nd) (fun i => if i < 0 then bval [] i else bval p.data (i - 0)) := by first | exact m7 | simpa using m7
              rw [Nat.zero_add] at m7
              exact m7.ext (fun i hi => by rw [if_neg (by omega)]; rfl)
            obtain ⟨ua, uc, rfl, huc, hum, _⟩ := m7.row
            unfold maxLen at hum
            have huc63 : (uc : Int) ≤ 9223372036854775807 := by omega
            have k4 := q7.cell 4
            have k5' := q7.cell 5
            have f4 := q7.free 4
            have f5 := q7.free 5
            have q9 := (q7.put 4 (.slice va nl vc)).put 5 (.slice ua nd uc)
            have J9 := ((Just.refl w.heap.size w7).put 4 (.slice va nl vc)).put 5 (.slice ua nd uc)
            have z9 := J9.own z7 (by omega)
            have b9 := J9.below b7 (Nat.le_refl _) b7.size
            have m9 := m7.just J9 (by omega)
            have mt9 := mt7.just J9 (by omega)
            have hne4 : w.heap.size < w7.heap.size := q7.lt
            clear q7 z7 b7 m7 mt7 J9 qt zt bt mt k5 hdr hdr2 hndm g7 B7 st hsz5
            go_upto_region 12 with (fail)
            generalize (w7.setCell ⟨w.heap.size, 4, none⟩ (.slice va nl vc)).setCell ⟨w.heap.size, 5, none⟩ (.slice ua nd uc) = w9 at *
            have q9 : Lb.Own w9 w.heap.size 25 #[.int .i64 p.f, .int .i64 p.t, .int .i64 p.n, .int .i64 (p.life - 1), .slice va nl vc, .slice ua nd uc] := q9
            have hone : (#[Value.int .i64 p.f, .int .i64 p.t, .int .i64 p.n, .int .i64 (p.life - 1), .slice va nl vc, .slice ua nd uc] : Array Value).all (·.oneCell') = true := by simp [Value.oneCell']
            clear k4 k5' f4 f5
            refine wp_region_lit ?_
            refine wpList_load_row rfl 25 _ rfl w.heap.size rfl 25 _ (0, 0) _ q9 Try.underlying25 rfl (by kernel_rfl) ?_
            refine wpList_store_row rfl 25 _ _ rfl (w.heap.size + 1) _ rfl rfl 25 _ z9 (by kernel_rfl) rfl hone ?_
            go_wp2_with fail
            have m10 := mt9.rowAt
            have n10 := m9.rowAt
            have JZ := Just.setRow (w.heap.size + 1) w9 #[.int .i64 p.f, .int .i64 p.t, .int .i64 p.n, .int .i64 (p.life - 1), .slice va nl vc, .slice ua nd uc]
            have mz := (mt9.just JZ (by omega))
            have nz := (m9.just JZ (by omega))
            refine bodyPost_ret (results_row_tmp rfl _ _ (w.heap.size + 1) 25 _ (0, 0) _ rfl (z9.setRow _) Try.underlying25 rfl (by kernel_rfl)) rfl ⟨va, vc, ua, uc, ?_, ?_, JZ.below b9 (by omega) b9.size⟩
            · rw [HD.out, ← HPL.out, ← HND.out]; rfl
            · rw [HD.out]
              refine ⟨by show (p.path ++ [me]).length ≤ vc; rw [HPL.out]; exact hvc, by unfold maxLen; omega, by show Row _ va (p.path ++ [me]).length (zval (p.path ++ [me])); rw [HPL.out]; exact mz.rowAt, fun e => by show (p.path ++ [me]).length = 0; rw [HPL.out]; exact row_none mz.rowAt e, by show p.data.length ≤ uc; rw [HND.out]; exact huc, by unfold maxLen; omega, by show Row _ ua p.data.length (bval p.data); rw [HND.out]; exact nz.rowAt, fun e => by show p.data.length = 0; rw [HND.out]; exact row_none nz.rowAt e⟩
end Go.Proofs.Ytcpmnfoenpdaeaa.Rt
