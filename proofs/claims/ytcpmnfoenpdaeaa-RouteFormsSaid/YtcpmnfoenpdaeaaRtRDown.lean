/-
  The reference of packets (chapter 19): Down, Back.
-/
import Derived.Test.YtcpmnfoenpdaeaaRtRUp
import Derived.Test.YtcpmnfoenpdaeaaRtDraw
import Derived.Test.YtcpmnfoenpdaeaaRtBackM
set_option maxRecDepth 100000
namespace Go.Proofs.Ytcpmnfoenpdaeaa.Rt
set_option linter.unusedVariables false
open Go.RowKit Lb Go.Shelf Bf
def RDownPost (base : Nat) (q : Pk × Int × Int) (w : World) (r : Ending) (w' : World) : Prop :=
  ∃ a c b d, r = .returned (.tuple #[.agg (q.1.vals a c b d), .int .i64 q.2.1, .int .i64 q.2.2]) ∧ q.1.At w' a c b d ∧ Below base w w'
set_option maxHeartbeats 4000000 in
theorem rdown_any (p : Pk) (a : Option Addr) (c : Nat) (b : Option Addr) (d : Nat) (me : Int) (w : World) (h : p.At w a c b d) :
    Calls Try.prog 16 #[.agg (p.vals a c b d), .int .i64 me] w (RDownPost w.heap.size (downR p me) w) := by
  have o1 : Lb.Own ((w.alloc (.cells (p.vals a c b d) 25)).alloc (.cells #[.int .i64 0, .int .i64 0, .int .i64 0, .int .i64 0, .slice none 0 0, .slice none 0 0] 25)) w.heap.size 25 (p.vals a c b d) := (Own.new w _ _).alloc _
  have o2 : Lb.Own ((w.alloc (.cells (p.vals a c b d) 25)).alloc (.cells #[.int .i64 0, .int .i64 0, .int .i64 0, .int .i64 0, .slice none 0 0, .slice none 0 0] 25)) (w.heap.size + 1) 25 #[.int .i64 0, .int .i64 0, .int .i64 0, .int .i64 0, .slice none 0 0, .slice none 0 0] := by
    have := Own.new (w.alloc (.cells (p.vals a c b d) 25)) 25 #[.int .i64 0, .int .i64 0, .int .i64 0, .int .i64 0, .slice none 0 0, .slice none 0 0]
    rwa [show (w.alloc (.cells (p.vals a c b d) 25)).heap.size = w.heap.size + 1 by simp] at this
  have b0 := ((Below.refl w.heap.size w).alloc (Nat.le_refl _) (.cells (p.vals a c b d) 25)).alloc (by simp) (.cells #[.int .i64 0, .int .i64 0, .int .i64 0, .int .i64 0, .slice none 0 0, .slice none 0 0] 25)
  have h1 := h.below b0
  have hsz : ((w.alloc (.cells (p.vals a c b d) 25)).alloc (.cells #[.int .i64 0, .int .i64 0, .int .i64 0, .int .i64 0, .slice none 0 0, .slice none 0 0] 25)).heap.size = w.heap.size + 2 := by simp
  go_enter Try.func16, Try.ntmps16
  go_upto_region 1 with (fail)
  generalize (w.alloc (.cells (p.vals a c b d) 25)).alloc (.cells #[.int .i64 0, .int .i64 0, .int .i64 0, .int .i64 0, .slice none 0 0, .slice none 0 0] 25) = w1 at *
  have c0 : w1.cell? ⟨w.heap.size, 0, none⟩ = some (.int .i64 p.f) := o1.cell 0
  have c1 : w1.cell? ⟨w.heap.size, 1, none⟩ = some (.int .i64 p.t) := o1.cell 1
  have c2 : w1.cell? ⟨w.heap.size, 2, none⟩ = some (.int .i64 p.n) := o1.cell 2
  have c3 : w1.cell? ⟨w.heap.size, 3, none⟩ = some (.int .i64 p.life) := o1.cell 3
  have c4 : w1.cell? ⟨w.heap.size, 4, none⟩ = some (.slice a p.path.length c) := o1.cell 4
  have c5 : w1.cell? ⟨w.heap.size, 5, none⟩ = some (.slice b p.data.length d) := o1.cell 5
  cases hm : mayK p
  · have HM := Lib.hid hm
    have HD : Hid (downR p me = (noP, 0, 1)) := Lib.hid (by unfold downR; rw [if_pos (.inl hm)])
    clear hm
    go_wp2_with fail
    refine (rmay_any p a c b d w1 h1).mono ?_
    rintro r w2 ⟨rfl, b2⟩
    rw [HM.out]
    have z2 := below_own b2 o2 (by omega)
    have b3 := b0.trans (b2.mono b0.size)
    clear c0 c1 c2 c3 c4 c5 o1 h1
    go_wp2_with (refine wpList_build_store (noP.vals none 0 none 0) rfl rfl rfl rfl builtP rfl rfl z2 (by kernel_rfl) rfl (cells6 _ _ _ _ _) ?_)
    refine bodyPost_ret (results_row_tmp2 rfl _ _ (w.heap.size + 1) 25 _ (0, 0) _ rfl (z2.setRow _) Try.underlying25 rfl (by kernel_rfl)) rfl ⟨none, 0, none, 0, ?_, ?_, (Just.setRow _ _ _).below b3 (by omega) b3.size⟩
    · rw [HD.out]; rfl
    · rw [HD.out]; exact noP_at _
  · have HM := Lib.hid hm
    have hlf := mayK_life hm
    have hne : ∀ x, mayK p = false ∨ x → x := fun x h => h.elim (fun h' => by rw [hm] at h'; cases h') id
    clear hm
    go_wp2_with fail
    refine (rmay_any p a c b d w1 h1).mono ?_
    rintro r w2 ⟨rfl, b2⟩
    rw [HM.out]
    have z2 := below_own b2 o2 (by omega)
    have q2 := below_own b2 o1 (by omega)
    have b3 := b0.trans (b2.mono b0.size)
    have h2 := h.below b3
    have s2z : w.heap.size + 2 ≤ w2.heap.size := by have := b2.size; omega
    clear c0 c1 c2 c3 c4 c5 o1 o2 h1 b0 b2 hsz
    have c0 : w2.cell? ⟨w.heap.size, 0, none⟩ = some (.int .i64 p.f) := q2.cell 0
    have c1 : w2.cell? ⟨w.heap.size, 1, none⟩ = some (.int .i64 p.t) := q2.cell 1
    have c2 : w2.cell? ⟨w.heap.size, 2, none⟩ = some (.int .i64 p.n) := q2.cell 2
    have c3 : w2.cell? ⟨w.heap.size, 3, none⟩ = some (.int .i64 p.life) := q2.cell 3
    have c4 : w2.cell? ⟨w.heap.size, 4, none⟩ = some (.slice a p.path.length c) := q2.cell 4
    have c5 : w2.cell? ⟨w.heap.size, 5, none⟩ = some (.slice b p.data.length d) := q2.cell 5
    cases hnd : ndB me
    · have HD : Hid (downR p me = (noP, 0, 1)) := Lib.hid (by unfold downR; rw [if_pos (.inr hnd)])
      have HN := Lib.hid hnd
      clear hnd
      go_wp2_with fail
      refine (node_any me _).mono ?_
      rintro r w' ⟨rfl, rfl⟩
      rw [HN.out]
      go_wp2_with (first | (refine wpList_build_store (noP.vals none 0 none 0) rfl rfl rfl rfl builtP rfl rfl z2 (by kernel_rfl) rfl (cells6 _ _ _ _ _) ?_))
      refine bodyPost_ret (results_row_tmp2 rfl _ _ (w.heap.size + 1) 25 _ (0, 0) _ rfl (z2.setRow _) Try.underlying25 rfl (by kernel_rfl)) rfl ⟨none, 0, none, 0, ?_, ?_, (Just.setRow _ _ _).below b3 (by omega) b3.size⟩
      · rw [HD.out]; rfl
      · rw [HD.out]; exact noP_at _
    · have HN := Lib.hid hnd
      have hne2 : ¬ (mayK p = false ∨ ndB me = false) := fun h => by
        have := hne _ h
        rw [hnd] at this
        cases this
      clear hnd hne
      by_cases hl0 : p.life = 0
      · have HD : Hid (downR p me = (noP, 0, 11)) := Lib.hid (by unfold downR; rw [if_neg hne2, if_pos hl0])
        have e0 : (p.life == 0) = true := by simpa using hl0
        clear hl0 hne2
        go_wp2_with fail
        refine (node_any me _).mono ?_
        rintro r w' ⟨rfl, rfl⟩
        rw [HN.out]
        go_wp2_with (first | (refine wpList_build_store (noP.vals none 0 none 0) rfl rfl rfl rfl builtP rfl rfl z2 (by kernel_rfl) rfl (cells6 _ _ _ _ _) ?_))
        refine bodyPost_ret (results_row_tmp2 rfl _ _ (w.heap.size + 1) 25 _ (0, 0) _ rfl (z2.setRow _) Try.underlying25 rfl (by kernel_rfl)) rfl ⟨none, 0, none, 0, ?_, ?_, (Just.setRow _ _ _).below b3 (by omega) b3.size⟩
        · rw [HD.out]; rfl
        · rw [HD.out]; exact noP_at _
      · have e0 : (p.life == 0) = false := by simpa using hl0
        have hlife : 1 ≤ p.life ∧ p.life ≤ 15 := by omega
        obtain ⟨z, hz⟩ : ∃ z, atI p.path me = z := ⟨_, rfl⟩
        have hzb := atI_bd p.path me
        have hzg := fun h => atI_get (l := p.path) (x := me) h
        rw [hz] at hzb hzg
        have HZ := Lib.hid hz
        have hplen : p.path.length ≤ maxLen := Nat.le_trans h.pc h.pm
        by_cases hat : z < 0 ∨ z = (p.path.length : Int) - 1
        · have HD : Hid (downR p me = (noP, 0, 6)) := Lib.hid (by unfold downR; rw [if_neg hne2, if_neg hl0, if_pos (by rw [hz]; exact hat)])
          obtain ⟨m, hm⟩ : ∃ m, p.path.length = m := ⟨_, rfl⟩
          have HMM := Lib.hid hm
          have hidx := rat_any a c p.path me w2 hplen h2.prow
          rw [hz, hm] at hidx
          have HI := Lib.hid hidx
          rw [hm] at c4 hat hzb hplen
          have h16 : m ≤ 16 := by omega
          clear hl0 hne2 hz hm hidx hzg hlife
          by_cases h0 : z < 0
          · have g0 : decide (z < 0) = true := by simpa using h0
            clear hat h0
            go_wp2_with (first | (go_at_call 36; refine (node_any me _).mono ?_; rintro r w' ⟨rfl, rfl⟩; rw [HN.out]) | (go_at_call 27; refine HI.out.mono ?_; rintro r w' ⟨rfl, rfl⟩) | (refine wpList_build_store (noP.vals none 0 none 0) rfl rfl rfl rfl builtP rfl rfl z2 (by kernel_rfl) rfl (cells6 _ _ _ _ _) ?_))
            refine bodyPost_ret (results_row_tmp2 rfl _ _ (w.heap.size + 1) 25 _ (0, 0) _ rfl (z2.setRow _) Try.underlying25 rfl (by kernel_rfl)) rfl ⟨none, 0, none, 0, ?_, ?_, (Just.setRow _ _ _).below b3 (by omega) b3.size⟩
            · rw [HD.out]; rfl
            · rw [HD.out]; exact noP_at _
          · have g0 : decide (z < 0) = false := by simpa using h0
            have g1 : decide ((m : Int) ≤ z + 1) = true := by simp; omega
            have g2 : IntKind.i64.wrap (z + 1) = z + 1 := IntWalk.i64_in _ (by omega)
            clear hat h0
            go_wp2_with (first | (go_at_call 36; refine (node_any me _).mono ?_; rintro r w' ⟨rfl, rfl⟩; rw [HN.out]) | (go_at_call 27; refine HI.out.mono ?_; rintro r w' ⟨rfl, rfl⟩) | (refine wpList_build_store (noP.vals none 0 none 0) rfl rfl rfl rfl builtP rfl rfl z2 (by kernel_rfl) rfl (cells6 _ _ _ _ _) ?_))
            refine bodyPost_ret (results_row_tmp2 rfl _ _ (w.heap.size + 1) 25 _ (0, 0) _ rfl (z2.setRow _) Try.underlying25 rfl (by kernel_rfl)) rfl ⟨none, 0, none, 0, ?_, ?_, (Just.setRow _ _ _).below b3 (by omega) b3.size⟩
            · rw [HD.out]; rfl
            · rw [HD.out]; exact noP_at _
        · have hz0 : 0 ≤ z := by omega
          obtain ⟨k, hk, hzk, hgk, _⟩ := hzg hz0
          subst hzk
          have hk2 : k + 1 < p.path.length := by omega
          have HD : Hid (downR p me = (lessP p, p.path.getD (k + 1) 0, 0)) := Lib.hid (by
            unfold downR
            rw [if_neg hne2, if_neg hl0, if_neg (by rw [hz]; exact hat), hz]
            rfl)
          have hR0 := h.prow
          have hD0 := h.drow
          have hidx := rat_any a c p.path me w2 hplen h2.prow
          rw [hz] at hidx
          have HI := Lib.hid hidx
          have hpc := h.pc
          have hpm := h.pm
          have hdc := h.dc
          have hdm := h.dm
          have hp16 : p.path.length ≤ 16 := by omega
          have hd24 : p.data.length ≤ 24 := by omega
          obtain ⟨np, hnp⟩ : ∃ n, p.path.length = n := ⟨_, rfl⟩
          obtain ⟨nd, hnd⟩ : ∃ n, p.data.length = n := ⟨_, rfl⟩
          have HNP := Lib.hid hnp
          have HND := Lib.hid hnd
          obtain ⟨y, hy⟩ : ∃ y, p.path.getD (k + 1) 0 = y := ⟨_, rfl⟩
          have HY := Lib.hid hy
          rw [hy] at HD
          unfold Pk.vals at q2
          unfold maxLen at hpm hdm
          rw [hnp] at q2 c4 hpc hp16 hk2 hk hR0 HI
          rw [hnd] at q2 c5 hdc hd24 hD0
          have n1 : (np : Int) ≤ 9223372036854775807 := by omega
          have n2 : (c : Int) ≤ 9223372036854775807 := by omega
          have n3 : (nd : Int) ≤ 9223372036854775807 := by omega
          have n4 : (d : Int) ≤ 9223372036854775807 := by omega
          have HR0 := Lib.hid hR0
          have HD0 := Lib.hid hD0
          have ek0 : decide ((k : Int) < 0) = false := by simp
          have ek1 : decide ((np : Int) ≤ (k : Int) + 1) = false := by simp; omega
          have ek2 : decide (np ≤ k + 1) = false := by simp; omega
          have q3 := q2.put 3 (.int .i64 (p.life - 1))
          have z3 : Lb.Own (w2.setCell ⟨w.heap.size, 3, none⟩ (.int .i64 (p.life - 1))) (w.heap.size + 1) 25 #[.int .i64 0, .int .i64 0, .int .i64 0, .int .i64 0, .slice none 0 0, .slice none 0 0] := z2.apart (p := ⟨w.heap.size, 3, none⟩) (by show w.heap.size + 1 ≠ w.heap.size; omega) _
          have b4 := (Just.set w.heap.size w2 3 (.int .i64 (p.life - 1))).below b3 (Nat.le_refl _) b3.size
          have s3 : w.heap.size + 2 ≤ (w2.setCell ⟨w.heap.size, 3, none⟩ (.int .i64 (p.life - 1))).heap.size := Nat.le_trans z2.lt (Just.set w.heap.size w2 3 (.int .i64 (p.life - 1))).size
          have f3 : w2.frozen? ⟨w.heap.size, 3, none⟩ = false := q2.free 3
          obtain ⟨i0, hi0, hz0', hz1, hz2⟩ := info_parts infoI
          obtain ⟨j0, hj0, hy0, hy1, hy2⟩ := info_parts info8'
          have hsv : w2.heap.size ≤ w2.heap.size := Nat.le_refl _
          clear hz hzg hzb hat hnp hnd hy hl0 hne2 hlf h2 z2 hidx hR0 hD0 hgk hz0 hplen h
          go_upto_region 9 with (first | (go_at_call 36; refine (node_any me _).mono ?_; rintro r w' ⟨rfl, rfl⟩; rw [HN.out]) | (go_at_call 27; refine HI.out.mono ?_; rintro r w' ⟨rfl, rfl⟩))
          generalize w2.setCell ⟨w.heap.size, 3, none⟩ (.int .i64 (p.life - 1)) = w3 at *
          have q3 : Lb.Own w3 w.heap.size 25 #[.int .i64 p.f, .int .i64 p.t, .int .i64 p.n, .int .i64 (p.life - 1), .slice a np c, .slice b nd d] := q3
          clear q2 c0 c1 c2 c3 c4 c5 f3 b3 hsv ek1 ek2 HI
          have q3d : Lb.Own w3.drew w.heap.size 25 #[.int .i64 p.f, .int .i64 p.t, .int .i64 p.n, .int .i64 (p.life - 1), .slice a np c, .slice b nd d] := q3
          have z3d : Lb.Own w3.drew (w.heap.size + 1) 25 #[.int .i64 0, .int .i64 0, .int .i64 0, .int .i64 0, .slice none 0 0, .slice none 0 0] := z3
          have b4d : Below w.heap.size w w3.drew := below_drewN b4 1
          have s3d : w.heap.size + 2 ≤ w3.drew.heap.size := s3
          have k4 : w3.drew.cell? ⟨w.heap.size, 4, none⟩ = some (.slice a np c) := q3d.cell 4
          have k5 : w3.drew.cell? ⟨w.heap.size, 5, none⟩ = some (.slice b nd d) := q3d.cell 5
          have hnpm : Hid (0 + np ≤ maxLen) := Lib.hid (by unfold maxLen; omega)
          have hndm : Hid (0 + nd ≤ maxLen) := Lib.hid (by unfold maxLen; omega)
          have hnp8 : Hid ((0 + np) * 8 ≤ 140737488355328) := Lib.hid (by omega)
          have hnd8 : Hid ((0 + nd) * 1 ≤ 140737488355328) := Lib.hid (by omega)
          have rA : Hid (∀ W, Below w.heap.size w W → Row W a np (zval p.path)) := Lib.hid (fun W hW => HR0.out.below hW)
          have rB : Hid (∀ W, Below w.heap.size w W → Row W b nd (bval p.data)) := Lib.hid (fun W hW => HD0.out.below hW)
          clear q3 z3 b4 s3
          go_region_law (first
            | (refine step_app (w := w3.drew) rfl (.const (.slice none 0 0)) (.tmp 41) 22 rfl (w.heap.size + 2) 3 i0 _ 8 Try.underlying22 hi0 hz0' hz1 hz2 rfl (.slice none 0 0) 0 (zval []) (by rfl) (Mine.nil _ _ _ _) a np c (zval p.path) (by rfl) (rA.out _ b4d) (fun _ _ => rfl) hnpm.out hnp8.out s3d ?_; intro v6 w6 m6 g6 l6; have B6 := (Below.refl w3.drew.heap.size w3.drew).grown g6 (Nat.le_refl _) (fun q e => by cases e); have qA := below_own B6 q3d q3d.lt; have k5a : w6.cell? ⟨w.heap.size, 5, none⟩ = some (.slice b nd d) := qA.cell 5; have BA := b4d.trans (B6.mono b4d.size); have sA := Nat.le_trans s3d B6.size)
            | (refine step_app (w := w6) rfl (.const (.slice none 0 0)) (.tmp 44) 23 rfl (w.heap.size + 2) 5 j0 _ 1 Try.underlying23 hj0 hy0 hy1 hy2 rfl (.slice none 0 0) 0 (bval []) (by rfl) (Mine.nil _ _ _ _) b nd d (bval p.data) (by rfl) (rB.out _ BA) (fun _ _ => rfl) hndm.out hnd8.out sA ?_; intro v8 w8 m8 g8 l8; have B8 := (Below.refl w6.heap.size w6).grown g8 (Nat.le_refl _) (fun q e => by cases e); have qB := below_own B8 qA qA.lt; have k5b : w8.cell? ⟨w.heap.size, 5, none⟩ = some (.slice b nd d) := qB.cell 5; have k4b : w8.cell? ⟨w.heap.size, 4, none⟩ = some (.slice a np c) := qB.cell 4; have f4 := qB.free 4; have f5 := qB.free 5; obtain ⟨va, vc, hv6, lv1, lv2, _⟩ := m6.row; subst hv6; obtain ⟨ua, uc, hv8, lu1, lu2, _⟩ := m8.row; subst hv8; rw [Nat.zero_add] at lv1 lu1; simp only [Nat.zero_add])
            | fail)
          all_goals
            have m6' : Mine w6 (w.heap.size + 2) 3 (.slice va np vc) np (zval p.path) := by
              have m6 : Mine w6 (w.heap.size + 2) 3 (.slice va np vc) (0 + np) (fun i => if i < 0 then zval [] i else zval p.path (i - 0)) := by first | exact m6 | simpa using m6
              rw [Nat.zero_add] at m6
              exact m6.ext (fun i hi => by rw [if_neg (by omega)]; rfl)
            have m8' : Mine w8 (w.heap.size + 2) 5 (.slice ua nd uc) nd (bval p.data) := by
              have m8 : Mine w8 (w.heap.size + 2) 5 (.slice ua nd uc) (0 + nd) (fun i => if i < 0 then bval [] i else bval p.data (i - 0)) := by first | exact m8 | simpa using m8
              rw [Nat.zero_add] at m8
              exact m8.ext (fun i hi => by rw [if_neg (by omega)]; rfl)
            have m6'' : Mine w8 (w.heap.size + 2) 3 (.slice va np vc) np (zval p.path) := m6'.kept (fun q _ => by
              by_cases hl : q < w6.heap.size
              · exact .inl (B8.block q hl)
              · exact .inr (fun e => hl (m6'.lt q e).2))
            have z8 := below_own B8 (below_own B6 z3d z3d.lt) (Nat.lt_of_lt_of_le z3d.lt B6.size)
            have b8 := BA.trans (B8.mono BA.size)
            have q9 := (qB.put 4 (.slice va np vc)).put 5 (.slice ua nd uc)
            have J9 := ((Just.refl w.heap.size w8).put 4 (.slice va np vc)).put 5 (.slice ua nd uc)
            have z9 := J9.own z8 (by omega)
            have b9 := J9.below b8 (Nat.le_refl _) b8.size
            have p9 := m6''.just J9 (by omega)
            have d9 := m8'.just J9 (by omega)
            clear m6 m8 m6' m8' m6'' z8 b8 qB qA q3d z3d b4d s3d k4 k5 k5a k5b k4b f4 f5 BA sA B6 B8 g6 g8 l6 l8 J9
            go_upto_region 10 with (fail)
            generalize (w8.setCell ⟨w.heap.size, 4, none⟩ (.slice va np vc)).setCell ⟨w.heap.size, 5, none⟩ (.slice ua nd uc) = w9 at *
            have z9n : Lb.Own w9 (w.heap.size + 1) 25 #[.int .i64 0, .int .i64 0, .int .i64 0, .int .i64 0, .slice none 0 0, .slice none 0 0] := z9
            have b9n := b9
            have p9n := p9
            have d9n := d9
            have q9 : Lb.Own w9.drew w.heap.size 25 #[.int .i64 p.f, .int .i64 p.t, .int .i64 p.n, .int .i64 (p.life - 1), .slice va np vc, .slice ua nd uc] := q9
            have z9 : Lb.Own w9.drew (w.heap.size + 1) 25 #[.int .i64 0, .int .i64 0, .int .i64 0, .int .i64 0, .slice none 0 0, .slice none 0 0] := z9
            have b9 : Below w.heap.size w w9.drew := below_drewN b9 1
            have p9 : Mine w9.drew (w.heap.size + 2) 3 (.slice va np vc) np (zval p.path) := p9
            have d9 : Mine w9.drew (w.heap.size + 2) 5 (.slice ua nd uc) nd (bval p.data) := d9
            obtain ⟨pb, po, rfl, _, hcs⟩ := p9.rowAt (by omega)
            have y1 : w9.drew.cell? ⟨pb, po + (k + 1), none⟩ = some (.int .i64 y) := by
              have := hcs (k + 1) hk2
              unfold zval at this
              rw [HY.out] at this
              exact this
            have K4 : w9.cell? ⟨w.heap.size, 4, none⟩ = some (.slice (some ⟨pb, po, none⟩) np vc) := q9.cell 4
            have hhp : w.heap.size ≠ w.heap.size + 1 := by omega
            have Y1 : w9.cell? ⟨pb, po + (k + 1), none⟩ = some (.int .i64 y) := y1
            have k0 := q9.cell 0
            have k1 := q9.cell 1
            have k2 := q9.cell 2
            have k3 := q9.cell 3
            have k4 := q9.cell 4
            have k5 := q9.cell 5
            have x0 := z9.cell 0
            have x1 := z9.cell 1
            have x2 := z9.cell 2
            have x3 := z9.cell 3
            have x4 := z9.cell 4
            have x5 := z9.cell 5
            have f0 := z9.free 0
            have f1 := z9.free 1
            have f2 := z9.free 2
            have f3 := z9.free 3
            have f4 := z9.free 4
            have f5 := z9.free 5
            have X0 : w9.cell? ⟨w.heap.size + 1, 0, none⟩ = some (.int .i64 0) := z9.cell 0
            have F0 : w9.frozen? ⟨w.heap.size + 1, 0, none⟩ = false := z9.free 0
            have X1 : w9.cell? ⟨w.heap.size + 1, 1, none⟩ = some (.int .i64 0) := z9.cell 1
            have F1 : w9.frozen? ⟨w.heap.size + 1, 1, none⟩ = false := z9.free 1
            have X2 : w9.cell? ⟨w.heap.size + 1, 2, none⟩ = some (.int .i64 0) := z9.cell 2
            have F2 : w9.frozen? ⟨w.heap.size + 1, 2, none⟩ = false := z9.free 2
            have X3 : w9.cell? ⟨w.heap.size + 1, 3, none⟩ = some (.int .i64 0) := z9.cell 3
            have F3 : w9.frozen? ⟨w.heap.size + 1, 3, none⟩ = false := z9.free 3
            have X4 : w9.cell? ⟨w.heap.size + 1, 4, none⟩ = some (.slice none 0 0) := z9.cell 4
            have F4 : w9.frozen? ⟨w.heap.size + 1, 4, none⟩ = false := z9.free 4
            have X5 : w9.cell? ⟨w.heap.size + 1, 5, none⟩ = some (.slice none 0 0) := z9.cell 5
            have F5 : w9.frozen? ⟨w.heap.size + 1, 5, none⟩ = false := z9.free 5
            have v1 : IntKind.i64.wrap ((k : Int) + 1) = (k : Int) + 1 := IntWalk.i64_in _ (by omega)
            have v2 : (0 : Int) ≤ (k : Int) + 1 := by omega
            have v3 : ((k : Int) + 1).toNat = k + 1 := by omega
            have v4 : (k : Int) + 1 < (np : Int) := by omega
            have hpb : pb ≠ w.heap.size + 1 := fun e => by have := (p9.lt pb rfl).1; omega
            have hpb' : w.heap.size + 1 ≠ pb := fun e => hpb e.symm
            have JZ : Just (w.heap.size + 1) w9 ((((((w9.setCell ⟨w.heap.size + 1, 0, none⟩ (.int .i64 p.f)).setCell ⟨w.heap.size + 1, 1, none⟩ (.int .i64 p.t)).setCell ⟨w.heap.size + 1, 2, none⟩ (.int .i64 p.n)).setCell ⟨w.heap.size + 1, 3, none⟩ (.int .i64 (p.life - 1))).setCell ⟨w.heap.size + 1, 4, none⟩ (.slice (some ⟨pb, po, none⟩) np vc)).setCell ⟨w.heap.size + 1, 5, none⟩ (.slice ua nd uc)) := (((((((Just.refl (w.heap.size + 1) w9).put 0 (.int .i64 p.f)).put 1 (.int .i64 p.t)).put 2 (.int .i64 p.n)).put 3 (.int .i64 (p.life - 1))).put 4 (.slice (some ⟨pb, po, none⟩) np vc)).put 5 (.slice ua nd uc))
            have Z9 := (((((z9n.put 0 (.int .i64 p.f)).put 1 (.int .i64 p.t)).put 2 (.int .i64 p.n)).put 3 (.int .i64 (p.life - 1))).put 4 (.slice (some ⟨pb, po, none⟩) np vc)).put 5 (.slice ua nd uc)
            obtain ⟨wc, hwc⟩ : ∃ x, ((((((w9.setCell ⟨w.heap.size + 1, 0, none⟩ (.int .i64 p.f)).setCell ⟨w.heap.size + 1, 1, none⟩ (.int .i64 p.t)).setCell ⟨w.heap.size + 1, 2, none⟩ (.int .i64 p.n)).setCell ⟨w.heap.size + 1, 3, none⟩ (.int .i64 (p.life - 1))).setCell ⟨w.heap.size + 1, 4, none⟩ (.slice (some ⟨pb, po, none⟩) np vc)).setCell ⟨w.heap.size + 1, 5, none⟩ (.slice ua nd uc)) = x := ⟨_, rfl⟩
            rw [hwc] at JZ Z9
            have HWC := Lib.hid hwc
            have Z9 : Lb.Own wc (w.heap.size + 1) 25 #[.int .i64 p.f, .int .i64 p.t, .int .i64 p.n, .int .i64 (p.life - 1), .slice (some ⟨pb, po, none⟩) np vc, .slice ua nd uc] := Z9
            have ZZ : Hid (Lb.Own wc.drew (w.heap.size + 1) 25 #[.int .i64 p.f, .int .i64 p.t, .int .i64 p.n, .int .i64 (p.life - 1), .slice (some ⟨pb, po, none⟩) np vc, .slice ua nd uc]) := Lib.hid Z9
            have BZ : Hid (Below w.heap.size w wc.drew) := Lib.hid (below_drewN (JZ.below b9n (Nat.le_succ _) b9n.size) 1)
            have PZ : Hid (Mine wc.drew (w.heap.size + 2) 3 (.slice (some ⟨pb, po, none⟩) np vc) np (zval p.path)) := Lib.hid ((p9n.just JZ (Nat.lt_succ_self _)).drewN 1)
            have DZ : Hid (Mine wc.drew (w.heap.size + 2) 5 (.slice ua nd uc) nd (bval p.data)) := Lib.hid ((d9n.just JZ (Nat.lt_succ_self _)).drewN 1)
            clear hwc Z9
            clear z9n b9n p9n d9n
            clear q9 z9 b9 p9 d9 JZ hcs
            go_region
            all_goals
              clear k0 k1 k2 k3 k4 k5 x0 x1 x2 x3 x4 x5 f0 f1 f2 f3 f4 f5 X0 X1 X2 X3 X4 X5 F0 F1 F2 F3 F4 F5 Y1 y1 K4
              go_wp2_with fail
              rw [HWC.out]
              refine bodyPost_ret (results_row_tmp2 rfl _ _ (w.heap.size + 1) 25 _ (0, 0) _ rfl ZZ.out Try.underlying25 rfl (by kernel_rfl)) rfl ⟨some ⟨pb, po, none⟩, vc, ua, uc, ?_, ?_, BZ.out⟩
              · rw [HD.out]
                unfold Pk.vals lessP
                dsimp only
                rw [HNP.out, HND.out]
                rfl
              · rw [HD.out]
                exact ⟨by show p.path.length ≤ vc; rw [HNP.out]; exact lv1, lv2, by show Row _ _ p.path.length _; rw [HNP.out]; exact PZ.out.rowAt, fun e => (by cases e), by show p.data.length ≤ uc; rw [HND.out]; exact lu1, lu2, by show Row _ _ p.data.length _; rw [HND.out]; exact DZ.out.rowAt, fun e => by show p.data.length = 0; rw [HND.out]; exact row_none DZ.out.rowAt e⟩
end Go.Proofs.Ytcpmnfoenpdaeaa.Rt
