/-
  Package route: Down.
-/
import Derived.Test.YtcpmnfoenpdaeaaRtMay
import Derived.Test.YtcpmnfoenpdaeaaRtNext
import Derived.Test.YtcpmnfoenpdaeaaResRow
set_option maxRecDepth 100000
namespace Go.Proofs.Ytcpmnfoenpdaeaa.Rt
set_option linter.unusedVariables false
open Go.RowKit Lb Go.Shelf

def noP : Pk := ⟨0, 0, 0, 0, [], []⟩
theorem noP_own (w : World) (base : Nat) : noP.Own w base none 0 none 0 := ⟨Mine.nil _ _ _ _, Mine.nil _ _ _ _⟩
theorem builtP : Try.prog.built 25 [] = some (noP.vals none 0 none 0) := by kernel_rfl
def downR (p : Pk) (me : Int) : Pk × Int × Int :=
  if mayK p = false ∨ ndB me = false then (noP, 0, 1)
  else if p.life = 0 then (noP, 0, 11)
  else if atI p.path me < 0 ∨ atI p.path me = (p.path.length : Int) - 1 then (noP, 0, 6)
  else (lessP p, p.path.getD ((atI p.path me).toNat + 1) 0, 0)
def DownPost (base : Nat) (q : Pk × Int × Int) (w : World) (r : Ending) (w' : World) : Prop :=
  ∃ a c b d, r = .returned (.tuple #[.agg (q.1.vals a c b d), .int .i64 q.2.1, .int .i64 q.2.2]) ∧ q.1.Own w' base a c b d ∧ Below base w w'
theorem keep_cell {W W' : World} {p : Addr} {v : Value} (hb : Below W.heap.size W W') (h : W.cell? p = some v) : W'.cell? p = some v := (hb.cell (lt_of_cell h)).trans h
theorem mayK_life {p : Pk} (h : mayK p = true) : 0 ≤ p.life ∧ p.life ≤ 15 ∧ p.path.length ≤ 16 ∧ p.data.length ≤ 24 ∧ 1 ≤ p.data.length := by
  unfold mayK at h
  simp only [Bool.and_eq_true, decide_eq_true_eq] at h
  exact ⟨h.2.2.2.2.2.1, h.2.2.2.2.2.2.1, (okP_out h.2.2.2.2.2.2.2.1).1, h.2.2.2.2.2.2.2.2.2, h.2.2.2.2.2.2.2.2.1⟩
set_option maxHeartbeats 1000000 in
theorem down_any (p : Pk) (a : Option Addr) (c : Nat) (b : Option Addr) (d : Nat) (me : Int) (w : World) (h : p.At w a c b d) :
    Calls Try.prog 15 #[.agg (p.vals a c b d), .int .i64 me] w (DownPost w.heap.size (downR p me) w) := by
  have o1 : Lb.Own ((w.alloc (.cells (p.vals a c b d) 25)).alloc (.cells #[.int .i64 0, .int .i64 0, .int .i64 0, .int .i64 0, .slice none 0 0, .slice none 0 0] 25)) w.heap.size 25 (p.vals a c b d) := (Own.new w _ _).alloc _
  have o2 : Lb.Own ((w.alloc (.cells (p.vals a c b d) 25)).alloc (.cells #[.int .i64 0, .int .i64 0, .int .i64 0, .int .i64 0, .slice none 0 0, .slice none 0 0] 25)) (w.heap.size + 1) 25 #[.int .i64 0, .int .i64 0, .int .i64 0, .int .i64 0, .slice none 0 0, .slice none 0 0] := by
    have := Own.new (w.alloc (.cells (p.vals a c b d) 25)) 25 #[.int .i64 0, .int .i64 0, .int .i64 0, .int .i64 0, .slice none 0 0, .slice none 0 0]
    rwa [show (w.alloc (.cells (p.vals a c b d) 25)).heap.size = w.heap.size + 1 by simp] at this
  have b0 := ((Below.refl w.heap.size w).alloc (Nat.le_refl _) (.cells (p.vals a c b d) 25)).alloc (by simp) (.cells #[.int .i64 0, .int .i64 0, .int .i64 0, .int .i64 0, .slice none 0 0, .slice none 0 0] 25)
  have h1 := h.below b0
  have hsz : ((w.alloc (.cells (p.vals a c b d) 25)).alloc (.cells #[.int .i64 0, .int .i64 0, .int .i64 0, .int .i64 0, .slice none 0 0, .slice none 0 0] 25)).heap.size = w.heap.size + 2 := by simp
  go_enter Try.func15, Try.ntmps15
  go_upto_region 1 with (fail)
  generalize (w.alloc (.cells (p.vals a c b d) 25)).alloc (.cells #[.int .i64 0, .int .i64 0, .int .i64 0, .int .i64 0, .slice none 0 0, .slice none 0 0] 25) = w1 at *
  have c0 : w1.cell? ⟨w.heap.size, 0, none⟩ = some (.int .i64 p.f) := o1.cell 0
  have c1 : w1.cell? ⟨w.heap.size, 1, none⟩ = some (.int .i64 p.t) := o1.cell 1
  have c2 : w1.cell? ⟨w.heap.size, 2, none⟩ = some (.int .i64 p.n) := o1.cell 2
  have c3 : w1.cell? ⟨w.heap.size, 3, none⟩ = some (.int .i64 p.life) := o1.cell 3
  have c4 : w1.cell? ⟨w.heap.size, 4, none⟩ = some (.slice a p.path.length c) := o1.cell 4
  have c5 : w1.cell? ⟨w.heap.size, 5, none⟩ = some (.slice b p.data.length d) := o1.cell 5
  cases hm : mayK p
  · have HM := Lib.hid hm
    have HD : Hid (downR p me = (noP, 0, 1)) := Lib.hid (by unfold downR; rw [if_pos (.inl hm)])
    clear hm
    go_wp2_with fail
    refine (may_any p a c b d w1 h1).mono ?_
    rintro r w2 ⟨rfl, b2⟩
    rw [HM.out]
    have z2 := below_own b2 o2 (by omega)
    have b3 := b0.trans (b2.mono b0.size)
    clear c0 c1 c2 c3 c4 c5 o1 h1
    go_wp2_with (refine wpList_build_store (noP.vals none 0 none 0) rfl rfl rfl rfl builtP rfl rfl z2 (by kernel_rfl) rfl (cells6 _ _ _ _ _) ?_)
    refine bodyPost_ret (results_row_tmp2 rfl _ _ (w.heap.size + 1) 25 _ (0, 0) _ rfl (z2.setRow _) Try.underlying25 rfl (by kernel_rfl)) rfl ⟨none, 0, none, 0, ?_, ?_, (Just.setRow _ _ _).below b3 (by omega) b3.size⟩
    · rw [HD.out]; rfl
    · rw [HD.out]; exact noP_own _ _
  · have HM := Lib.hid hm
    have hlf := mayK_life hm
    have hne : ∀ x, mayK p = false ∨ x → x := fun x h => h.elim (fun h' => by rw [hm] at h'; cases h') id
    clear hm
    go_wp2_with fail
    refine (may_any p a c b d w1 h1).mono ?_
    rintro r w2 ⟨rfl, b2⟩
    rw [HM.out]
    have z2 := below_own b2 o2 (by omega)
    have q2 := below_own b2 o1 (by omega)
    have b3 := b0.trans (b2.mono b0.size)
    have h2 := h.below b3
    have s2z : w.heap.size + 2 ≤ w2.heap.size := by have := b2.size; omega
    clear c0 c1 c2 c3 c4 c5 o1 o2 h1 b0 b2 hsz
    have c0 : w2.cell? ⟨w.heap.size, 0, none⟩ = some (.int .i64 p.f) := q2.cell 0
    have c1 : w2.cell? ⟨w.heap.size, 1, none⟩ = some (.int .i64 p.t) := q2.cell 1
    have c2 : w2.cell? ⟨w.heap.size, 2, none⟩ = some (.int .i64 p.n) := q2.cell 2
    have c3 : w2.cell? ⟨w.heap.size, 3, none⟩ = some (.int .i64 p.life) := q2.cell 3
    have c4 : w2.cell? ⟨w.heap.size, 4, none⟩ = some (.slice a p.path.length c) := q2.cell 4
    have c5 : w2.cell? ⟨w.heap.size, 5, none⟩ = some (.slice b p.data.length d) := q2.cell 5
    cases hnd : ndB me
    · have HD : Hid (downR p me = (noP, 0, 1)) := Lib.hid (by unfold downR; rw [if_pos (.inr hnd)])
      have HN := Lib.hid hnd
      clear hnd
      go_wp2_with fail
      refine (isNode_any me _).mono ?_
      rintro r w' ⟨rfl, rfl⟩
      rw [HN.out]
      go_wp2_with (first | (refine wpList_build_store (noP.vals none 0 none 0) rfl rfl rfl rfl builtP rfl rfl z2 (by kernel_rfl) rfl (cells6 _ _ _ _ _) ?_))
      refine bodyPost_ret (results_row_tmp2 rfl _ _ (w.heap.size + 1) 25 _ (0, 0) _ rfl (z2.setRow _) Try.underlying25 rfl (by kernel_rfl)) rfl ⟨none, 0, none, 0, ?_, ?_, (Just.setRow _ _ _).below b3 (by omega) b3.size⟩
      · rw [HD.out]; rfl
      · rw [HD.out]; exact noP_own _ _
    · have HN := Lib.hid hnd
      have hne2 : ¬ (mayK p = false ∨ ndB me = false) := fun h => by
        have := hne _ h
        rw [hnd] at this
        cases this
      clear hnd hne
      by_cases hl0 : p.life = 0
      · have HD : Hid (downR p me = (noP, 0, 11)) := Lib.hid (by unfold downR; rw [if_neg hne2, if_pos hl0])
        have e0 : (p.life == 0) = true := by simpa using hl0
        clear hl0 hne2
        go_wp2_with fail
        refine (isNode_any me _).mono ?_
        rintro r w' ⟨rfl, rfl⟩
        rw [HN.out]
        go_wp2_with (first | (refine wpList_build_store (noP.vals none 0 none 0) rfl rfl rfl rfl builtP rfl rfl z2 (by kernel_rfl) rfl (cells6 _ _ _ _ _) ?_))
        refine bodyPost_ret (results_row_tmp2 rfl _ _ (w.heap.size + 1) 25 _ (0, 0) _ rfl (z2.setRow _) Try.underlying25 rfl (by kernel_rfl)) rfl ⟨none, 0, none, 0, ?_, ?_, (Just.setRow _ _ _).below b3 (by omega) b3.size⟩
        · rw [HD.out]; rfl
        · rw [HD.out]; exact noP_own _ _
      · have e0 : (p.life == 0) = false := by simpa using hl0
        have hlife : 1 ≤ p.life ∧ p.life ≤ 15 := by omega
        obtain ⟨z, hz⟩ : ∃ z, atI p.path me = z := ⟨_, rfl⟩
        have hzb := atI_bd p.path me
        have hzg := fun h => atI_get (l := p.path) (x := me) h
        rw [hz] at hzb hzg
        have HZ := Lib.hid hz
        have hplen : p.path.length ≤ maxLen := Nat.le_trans h.pc h.pm
        by_cases hat : z < 0 ∨ z = (p.path.length : Int) - 1
        · have HD : Hid (downR p me = (noP, 0, 6)) := Lib.hid (by unfold downR; rw [if_neg hne2, if_neg hl0, if_pos (by rw [hz]; exact hat)])
          obtain ⟨m, hm⟩ : ∃ m, p.path.length = m := ⟨_, rfl⟩
          have HMM := Lib.hid hm
          have hidx := index_any a c p.path me w2 hplen h2.prow
          rw [hz, hm] at hidx
          have HI := Lib.hid hidx
          rw [hm] at c4 hat hzb hplen
          have h16 : m ≤ 16 := by omega
          clear hl0 hne2 hz hm hidx hzg hlife
          by_cases h0 : z < 0
          · have g0 : decide (z < 0) = true := by simpa using h0
            clear hat h0
            go_wp2_with (first | (go_at_call 33; refine (isNode_any me _).mono ?_; rintro r w' ⟨rfl, rfl⟩; rw [HN.out]) | (go_at_call 37; refine HI.out.mono ?_; rintro r w' ⟨rfl, rfl⟩) | (refine wpList_build_store (noP.vals none 0 none 0) rfl rfl rfl rfl builtP rfl rfl z2 (by kernel_rfl) rfl (cells6 _ _ _ _ _) ?_))
            refine bodyPost_ret (results_row_tmp2 rfl _ _ (w.heap.size + 1) 25 _ (0, 0) _ rfl (z2.setRow _) Try.underlying25 rfl (by kernel_rfl)) rfl ⟨none, 0, none, 0, ?_, ?_, (Just.setRow _ _ _).below b3 (by omega) b3.size⟩
            · rw [HD.out]; rfl
            · rw [HD.out]; exact noP_own _ _
          · have g0 : decide (z < 0) = false := by simpa using h0
            have g1 : (z == (m : Int) - 1) = true := by simp; omega
            have g2 : IntKind.i64.wrap ((m : Int) - 1) = (m : Int) - 1 := IntWalk.i64_in _ (by omega)
            clear hat h0
            go_wp2_with (first | (go_at_call 33; refine (isNode_any me _).mono ?_; rintro r w' ⟨rfl, rfl⟩; rw [HN.out]) | (go_at_call 37; refine HI.out.mono ?_; rintro r w' ⟨rfl, rfl⟩) | (refine wpList_build_store (noP.vals none 0 none 0) rfl rfl rfl rfl builtP rfl rfl z2 (by kernel_rfl) rfl (cells6 _ _ _ _ _) ?_))
            refine bodyPost_ret (results_row_tmp2 rfl _ _ (w.heap.size + 1) 25 _ (0, 0) _ rfl (z2.setRow _) Try.underlying25 rfl (by kernel_rfl)) rfl ⟨none, 0, none, 0, ?_, ?_, (Just.setRow _ _ _).below b3 (by omega) b3.size⟩
            · rw [HD.out]; rfl
            · rw [HD.out]; exact noP_own _ _
        · have hz0 : 0 ≤ z := by omega
          obtain ⟨k, hk, hzk, hgk, _⟩ := hzg hz0
          subst hzk
          have hk2 : k + 1 < p.path.length := by omega
          have HD : Hid (downR p me = (lessP p, p.path.getD (k + 1) 0, 0)) := Lib.hid (by
            unfold downR
            rw [if_neg hne2, if_neg hl0, if_neg (by rw [hz]; exact hat), hz]
            rfl)
          obtain ⟨pb, po, rfl, hpb, hcs⟩ := h.prow (by omega)
          have d0 := (b3.cell (p := ⟨pb, po + (k + 1), none⟩) hpb).trans (hcs (k + 1) hk2)
          unfold zval at d0
          obtain ⟨y, hy⟩ : ∃ y, p.path.getD (k + 1) 0 = y := ⟨_, rfl⟩
          rw [hy] at d0 HD
          have hidx := index_any (some ⟨pb, po, none⟩) c p.path me w2 hplen h2.prow
          rw [hz] at hidx
          have HI := Lib.hid hidx
          have hnx := next_any p (some ⟨pb, po, none⟩) c b d w2.drew (h2.below (below_drewN (Below.refl _ _) 1)) hlife (by omega) (by omega)
          obtain ⟨m, hm⟩ : ∃ m, p.path.length = m := ⟨_, rfl⟩
          unfold Pk.vals at hnx
          rw [hm] at hnx
          have HNX := Lib.hid hnx
          have HMM := Lib.hid hm
          rw [hm] at c4 hk2 hidx HI
          have s0 : (fun w' : World => (w'.cell? ⟨w.heap.size, 0, none⟩ = some (.int .i64 p.f) ∧ w'.cell? ⟨w.heap.size, 1, none⟩ = some (.int .i64 p.t) ∧ w'.cell? ⟨w.heap.size, 2, none⟩ = some (.int .i64 p.n) ∧ w'.cell? ⟨w.heap.size, 3, none⟩ = some (.int .i64 p.life) ∧ w'.cell? ⟨w.heap.size, 4, none⟩ = some (.slice (some ⟨pb, po, none⟩) m c) ∧ w'.cell? ⟨w.heap.size, 5, none⟩ = some (.slice b p.data.length d)) ∧ w'.cell? ⟨pb, po + (k + 1), none⟩ = some (.int .i64 y)) w2.drew := ⟨⟨c0, c1, c2, c3, c4, c5⟩, d0⟩
          have g1 : ((k : Int) == (m : Int) - 1) = false := by simp; omega
          have g2 : IntKind.i64.wrap ((m : Int) - 1) = (m : Int) - 1 := IntWalk.i64_in _ (by omega)
          clear hm hidx hnx hz hy hgk hl0 hne2 hat hzg hzb hcs
          go_wp2_with (first | (go_at_call 33; refine (isNode_any me _).mono ?_; rintro r w' ⟨rfl, rfl⟩; rw [HN.out]) | (go_at_call 37; refine HI.out.mono ?_; rintro r w' ⟨rfl, rfl⟩))
          have hlt2 : w.heap.size + 1 < w2.drew.heap.size := by have := s2z; simp; omega
          have hb1 : w.heap.size ≠ w.heap.size + 1 := by omega
          have hb2 : pb ≠ w.heap.size + 1 := by omega
          have g3 : IntKind.i64.wrap ((k : Int) + 1) = (k : Int) + 1 := IntWalk.i64_in _ (by omega)
          have g4 : 0 ≤ (k : Int) + 1 := by omega
          have g6 : (k : Int) + 1 < (m : Int) := by omega
          have g7 : (k : Int) + 1 ≤ (m : Int) := by omega
          have g5 : ((k : Int) + 1).toNat = k + 1 := by omega
          go_region_held3 (fun w' : World => (w'.cell? ⟨w.heap.size, 0, none⟩ = some (.int .i64 p.f) ∧ w'.cell? ⟨w.heap.size, 1, none⟩ = some (.int .i64 p.t) ∧ w'.cell? ⟨w.heap.size, 2, none⟩ = some (.int .i64 p.n) ∧ w'.cell? ⟨w.heap.size, 3, none⟩ = some (.int .i64 p.life) ∧ w'.cell? ⟨w.heap.size, 4, none⟩ = some (.slice (some ⟨pb, po, none⟩) m c) ∧ w'.cell? ⟨w.heap.size, 5, none⟩ = some (.slice b p.data.length d)) ∧ w'.cell? ⟨pb, po + (k + 1), none⟩ = some (.int .i64 y)) (first | exact s0 | exact s1 | exact s2) ((go_at_call 34; refine HNX.out.mono ?_; rintro q5 w5 ⟨a5, n5, b5, d5, rfl, q5, j5⟩; have s1 : (fun w' : World => (w'.cell? ⟨w.heap.size, 0, none⟩ = some (.int .i64 p.f) ∧ w'.cell? ⟨w.heap.size, 1, none⟩ = some (.int .i64 p.t) ∧ w'.cell? ⟨w.heap.size, 2, none⟩ = some (.int .i64 p.n) ∧ w'.cell? ⟨w.heap.size, 3, none⟩ = some (.int .i64 p.life) ∧ w'.cell? ⟨w.heap.size, 4, none⟩ = some (.slice (some ⟨pb, po, none⟩) m c) ∧ w'.cell? ⟨w.heap.size, 5, none⟩ = some (.slice b p.data.length d)) ∧ w'.cell? ⟨pb, po + (k + 1), none⟩ = some (.int .i64 y)) w5 := ⟨⟨keep_cell j5 c0, keep_cell j5 c1, keep_cell j5 c2, keep_cell j5 c3, keep_cell j5 c4, keep_cell j5 c5⟩, keep_cell j5 d0⟩; have z5 := below_own j5 z2 hlt2; have st5 := run_row (P := Try.prog) (cs := (lessP p).vals a5 n5 b5 d5) z5 rfl (cells6 _ _ _ _ _); have s2 : (fun w' : World => (w'.cell? ⟨w.heap.size, 0, none⟩ = some (.int .i64 p.f) ∧ w'.cell? ⟨w.heap.size, 1, none⟩ = some (.int .i64 p.t) ∧ w'.cell? ⟨w.heap.size, 2, none⟩ = some (.int .i64 p.n) ∧ w'.cell? ⟨w.heap.size, 3, none⟩ = some (.int .i64 p.life) ∧ w'.cell? ⟨w.heap.size, 4, none⟩ = some (.slice (some ⟨pb, po, none⟩) m c) ∧ w'.cell? ⟨w.heap.size, 5, none⟩ = some (.slice b p.data.length d)) ∧ w'.cell? ⟨pb, po + (k + 1), none⟩ = some (.int .i64 y)) (w5.setRow (w.heap.size + 1) ((lessP p).vals a5 n5 b5 d5)) := ⟨⟨cell_row _ (keep_cell j5 c0) hb1, cell_row _ (keep_cell j5 c1) hb1, cell_row _ (keep_cell j5 c2) hb1, cell_row _ (keep_cell j5 c3) hb1, cell_row _ (keep_cell j5 c4) hb1, cell_row _ (keep_cell j5 c5) hb1⟩, cell_row _ (keep_cell j5 d0) hb2⟩))
          all_goals
            have b6 := (show Below w.heap.size w w2.drew from below_drewN b3 1).trans (j5.mono (show w.heap.size ≤ w2.drew.heap.size by have := s2z; simp; omega))
            have q6 := q5.low (show w.heap.size + 2 ≤ w2.drew.heap.size from s2z)
            go_wp2_with fail
            refine bodyPost_ret (results_row_tmp2 rfl _ _ (w.heap.size + 1) 25 _ (0, 0) _ rfl (z5.setRow _) Try.underlying25 rfl (by kernel_rfl)) rfl ⟨a5, n5, b5, d5, ?_, ?_, (Just.setRow _ _ _).below b6 (by omega) b6.size⟩
            · rw [HD.out]; rfl
            · rw [HD.out]; exact (q6.setRow (by omega) _).low (by omega)
end Go.Proofs.Ytcpmnfoenpdaeaa.Rt
