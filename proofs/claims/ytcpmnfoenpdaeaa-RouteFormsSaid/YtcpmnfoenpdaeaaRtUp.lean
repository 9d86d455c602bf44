/-
  Package route: Up.
-/
import Derived.Test.YtcpmnfoenpdaeaaRtDown
set_option maxRecDepth 100000
namespace Go.Proofs.Ytcpmnfoenpdaeaa.Rt
set_option linter.unusedVariables false
open Go.RowKit Lb Go.Shelf

theorem infoI : (Try.prog.info? 3).map (fun i => (i.zero, i.size, i.bytes)) = some (some (.int .i64 0), 1, 8) := by kernel_rfl
def moreP (p : Pk) (me : Int) : Pk := { lessP p with path := p.path ++ [me] }
def upR (p : Pk) (me : Int) : Pk × Int :=
  if mayK p = false ∨ ndB me = false then (noP, 1)
  else if p.life = 0 then (noP, 11)
  else if 0 ≤ atI p.path me then (lessP p, 0)
  else if 16 ≤ p.path.length then (noP, 5)
  else (moreP p me, 0)
def UpPost (base : Nat) (q : Pk × Int) (w : World) (r : Ending) (w' : World) : Prop :=
  ∃ a c b d, r = .returned (.tuple #[.agg (q.1.vals a c b d), .int .i64 q.2]) ∧ q.1.Own w' base a c b d ∧ Below base w w'
theorem z_snoc (l : List Int) (x : Int) (q : Nat) (hq : q < l.length + 1) : (if q < l.length then zval l q else .int .i64 x) = zval (l ++ [x]) q := by
  unfold zval
  by_cases h : q < l.length
  · rw [if_pos h, List.getD_eq_getElem?_getD, List.getD_eq_getElem?_getD, List.getElem?_append_left h]
  · obtain rfl : q = l.length := by omega
    rw [if_neg h, List.getD_eq_getElem?_getD, List.getElem?_append_right (Nat.le_refl _)]
    simp
set_option maxHeartbeats 2000000 in
theorem up_any (p : Pk) (a : Option Addr) (c : Nat) (b : Option Addr) (d : Nat) (me : Int) (w : World) (h : p.At w a c b d) :
    Calls Try.prog 13 #[.agg (p.vals a c b d), .int .i64 me] w (UpPost w.heap.size (upR p me) w) := by
  have o1 : Lb.Own ((w.alloc (.cells (p.vals a c b d) 25)).alloc (.cells #[.int .i64 0, .int .i64 0, .int .i64 0, .int .i64 0, .slice none 0 0, .slice none 0 0] 25)) w.heap.size 25 (p.vals a c b d) := (Own.new w _ _).alloc _
  have o2 : Lb.Own ((w.alloc (.cells (p.vals a c b d) 25)).alloc (.cells #[.int .i64 0, .int .i64 0, .int .i64 0, .int .i64 0, .slice none 0 0, .slice none 0 0] 25)) (w.heap.size + 1) 25 #[.int .i64 0, .int .i64 0, .int .i64 0, .int .i64 0, .slice none 0 0, .slice none 0 0] := by
    have := Own.new (w.alloc (.cells (p.vals a c b d) 25)) 25 #[.int .i64 0, .int .i64 0, .int .i64 0, .int .i64 0, .slice none 0 0, .slice none 0 0]
    rwa [show (w.alloc (.cells (p.vals a c b d) 25)).heap.size = w.heap.size + 1 by simp] at this
  have b0 := ((Below.refl w.heap.size w).alloc (Nat.le_refl _) (.cells (p.vals a c b d) 25)).alloc (by simp) (.cells #[.int .i64 0, .int .i64 0, .int .i64 0, .int .i64 0, .slice none 0 0, .slice none 0 0] 25)
  have h1 := h.below b0
  have hsz : ((w.alloc (.cells (p.vals a c b d) 25)).alloc (.cells #[.int .i64 0, .int .i64 0, .int .i64 0, .int .i64 0, .slice none 0 0, .slice none 0 0] 25)).heap.size = w.heap.size + 2 := by simp
  go_enter Try.func13, Try.ntmps13
  go_upto_region 1 with (fail)
  generalize (w.alloc (.cells (p.vals a c b d) 25)).alloc (.cells #[.int .i64 0, .int .i64 0, .int .i64 0, .int .i64 0, .slice none 0 0, .slice none 0 0] 25) = w1 at *
  have c0 : w1.cell? ⟨w.heap.size, 0, none⟩ = some (.int .i64 p.f) := o1.cell 0
  have c1 : w1.cell? ⟨w.heap.size, 1, none⟩ = some (.int .i64 p.t) := o1.cell 1
  have c2 : w1.cell? ⟨w.heap.size, 2, none⟩ = some (.int .i64 p.n) := o1.cell 2
  have c3 : w1.cell? ⟨w.heap.size, 3, none⟩ = some (.int .i64 p.life) := o1.cell 3
  have c4 : w1.cell? ⟨w.heap.size, 4, none⟩ = some (.slice a p.path.length c) := o1.cell 4
  have c5 : w1.cell? ⟨w.heap.size, 5, none⟩ = some (.slice b p.data.length d) := o1.cell 5
  cases hm : mayK p
  · have HM := Lib.hid hm
    have HD : Hid (upR p me = (noP, 1)) := Lib.hid (by unfold upR; rw [if_pos (.inl hm)])
    clear hm
    go_wp2_with fail
    refine (may_any p a c b d w1 h1).mono ?_
    rintro r w2 ⟨rfl, b2⟩
    rw [HM.out]
    have z2 := below_own b2 o2 (by omega)
    have b3 := b0.trans (b2.mono b0.size)
    clear c0 c1 c2 c3 c4 c5 o1 h1
    go_wp2_with (refine wpList_build_store (noP.vals none 0 none 0) rfl rfl rfl rfl builtP rfl rfl z2 (by kernel_rfl) rfl (cells6 _ _ _ _ _) ?_)
    refine bodyPost_ret (results_row_tmp rfl _ _ (w.heap.size + 1) 25 _ (0, 0) _ rfl (z2.setRow _) Try.underlying25 rfl (by kernel_rfl)) rfl ⟨none, 0, none, 0, ?_, ?_, (Just.setRow _ _ _).below b3 (by omega) b3.size⟩
    · rw [HD.out]; rfl
    · rw [HD.out]; exact noP_own _ _
  · have HM := Lib.hid hm
    have hlf := mayK_life hm
    have hne : ∀ x, mayK p = false ∨ x → x := fun x h => h.elim (fun h' => by rw [hm] at h'; cases h') id
    clear hm
    go_wp2_with fail
    refine (may_any p a c b d w1 h1).mono ?_
    rintro r w2 ⟨rfl, b2⟩
    rw [HM.out]
    have z2 := below_own b2 o2 (by omega)
    have q2 := below_own b2 o1 (by omega)
    have b3 := b0.trans (b2.mono b0.size)
    have h2 := h.below b3
    have s2z : w.heap.size + 2 ≤ w2.heap.size := by have := b2.size; omega
    clear c0 c1 c2 c3 c4 c5 o1 o2 h1 b0 b2 hsz
    have c0 : w2.cell? ⟨w.heap.size, 0, none⟩ = some (.int .i64 p.f) := q2.cell 0
    have c1 : w2.cell? ⟨w.heap.size, 1, none⟩ = some (.int .i64 p.t) := q2.cell 1
    have c2 : w2.cell? ⟨w.heap.size, 2, none⟩ = some (.int .i64 p.n) := q2.cell 2
    have c3 : w2.cell? ⟨w.heap.size, 3, none⟩ = some (.int .i64 p.life) := q2.cell 3
    have c4 : w2.cell? ⟨w.heap.size, 4, none⟩ = some (.slice a p.path.length c) := q2.cell 4
    have c5 : w2.cell? ⟨w.heap.size, 5, none⟩ = some (.slice b p.data.length d) := q2.cell 5
    cases hnd : ndB me
    · have HD : Hid (upR p me = (noP, 1)) := Lib.hid (by unfold upR; rw [if_pos (.inr hnd)])
      have HN := Lib.hid hnd
      clear hnd
      go_wp2_with fail
      refine (isNode_any me _).mono ?_
      rintro r w' ⟨rfl, rfl⟩
      rw [HN.out]
      go_wp2_with (first | (refine wpList_build_store (noP.vals none 0 none 0) rfl rfl rfl rfl builtP rfl rfl z2 (by kernel_rfl) rfl (cells6 _ _ _ _ _) ?_))
      refine bodyPost_ret (results_row_tmp rfl _ _ (w.heap.size + 1) 25 _ (0, 0) _ rfl (z2.setRow _) Try.underlying25 rfl (by kernel_rfl)) rfl ⟨none, 0, none, 0, ?_, ?_, (Just.setRow _ _ _).below b3 (by omega) b3.size⟩
      · rw [HD.out]; rfl
      · rw [HD.out]; exact noP_own _ _
    · have HN := Lib.hid hnd
      have hne2 : ¬ (mayK p = false ∨ ndB me = false) := fun h => by
        have := hne _ h
        rw [hnd] at this
        cases this
      clear hnd hne
      by_cases hl0 : p.life = 0
      · have HD : Hid (upR p me = (noP, 11)) := Lib.hid (by unfold upR; rw [if_neg hne2, if_pos hl0])
        have e0 : (p.life == 0) = true := by simpa using hl0
        clear hl0 hne2
        go_wp2_with fail
        refine (isNode_any me _).mono ?_
        rintro r w' ⟨rfl, rfl⟩
        rw [HN.out]
        go_wp2_with (first | (refine wpList_build_store (noP.vals none 0 none 0) rfl rfl rfl rfl builtP rfl rfl z2 (by kernel_rfl) rfl (cells6 _ _ _ _ _) ?_))
        refine bodyPost_ret (results_row_tmp rfl _ _ (w.heap.size + 1) 25 _ (0, 0) _ rfl (z2.setRow _) Try.underlying25 rfl (by kernel_rfl)) rfl ⟨none, 0, none, 0, ?_, ?_, (Just.setRow _ _ _).below b3 (by omega) b3.size⟩
        · rw [HD.out]; rfl
        · rw [HD.out]; exact noP_own _ _
      · have e0 : (p.life == 0) = false := by simpa using hl0
        have hlife : 1 ≤ p.life ∧ p.life ≤ 15 := by omega
        have hnx := next_any p a c b d w2 h2 hlife (by omega) (by omega)
        have hplen : p.path.length ≤ 16 := by omega
        go_wp2_with (go_at_call 33; refine (isNode_any me _).mono ?_; rintro r w' ⟨rfl, rfl⟩; rw [HN.out])
        refine hnx.mono ?_
        rintro r w5 ⟨a5, n5, b5, d5, rfl, q5, j5⟩
        have b5' := b3.trans (j5.mono (show w.heap.size ≤ w2.heap.size by omega))
        have z5 := below_own j5 z2 (by omega)
        have hs5 := j5.size
        have o6 := Own.new w5 25 ((lessP p).vals a5 n5 b5 d5)
        have j6 := (Below.refl _ w5).alloc (Nat.le_refl _) (.cells ((lessP p).vals a5 n5 b5 d5) 25)
        have q6 := q5.below j6
        have z6 := below_own j6 z5 z5.lt
        have b6 := b5'.alloc (by omega) (.cells ((lessP p).vals a5 n5 b5 d5) 25)
        have hsz6 : (w5.alloc (.cells ((lessP p).vals a5 n5 b5 d5) 25)).heap.size = w5.heap.size + 1 := by simp
        have m6 := q6.path
        go_upto_region 6 with (refine wpList_alloc_store ((lessP p).vals a5 n5 b5 d5) rfl rfl rfl rfl infoP rfl rfl (by kernel_rfl) rfl (cells6 _ _ _ _ _) ?_)
        generalize w5.alloc (.cells ((lessP p).vals a5 n5 b5 d5) 25) = w6 at *
        obtain ⟨g, hg⟩ : ∃ g, w5.heap.size = g := ⟨_, rfl⟩
        have hg2 : w.heap.size + 2 ≤ g := by omega
        have hwg : w2.heap.size ≤ g := by omega
        have l5 : ∀ q, (Value.slice a5 p.path.length n5).ownBlock = some q → q < w5.heap.size := fun q e => (q5.path.lt q e).2
        have l5b : ∀ q, (Value.slice b5 p.data.length d5).ownBlock = some q → q < w5.heap.size := fun q e => (q5.data.lt q e).2
        rw [hg] at o6 l5 l5b ⊢
        have hg6 := o6.lt
        have L5 := Lib.hid l5
        have L5B := Lib.hid l5b
        clear l5 l5b
        clear hsz6 hg
        clear q2 c0 c1 c2 c3 c4 c5 h2 hnx z5 z2 q5 j5 b5' j6 e0
        have k4 : w6.cell? ⟨g, 4, none⟩ = some (.slice a5 p.path.length n5) := o6.cell 4
        have f4 : w6.frozen? ⟨g, 4, none⟩ = false := o6.free 4
        have hct := contains_any a5 n5 p.path me w6 (by unfold maxLen; omega) q6.at_.prow
        have hzb := atI_bd p.path me
        by_cases hat : 0 ≤ atI p.path me
        · have HD : Hid (upR p me = (lessP p, 0)) := Lib.hid (by unfold upR; rw [if_neg hne2, if_neg hl0, if_pos hat])
          have e1 : Hid (decide (0 ≤ atI p.path me) = true) := Lib.hid (by simpa using hat)
          have HCT := Lib.hid hct
          clear hat hzb hct hl0 hne2
          go_upto_region 10 with (go_at_call 35; refine HCT.out.mono ?_; rintro r w' ⟨rfl, rfl⟩; rw [e1.out])
          refine wp_region_lit ?_
          refine wpList_load_row rfl 25 _ rfl g rfl 25 ((lessP p).vals a5 n5 b5 d5) (0, 0) _ o6 Try.underlying25 rfl (by kernel_rfl) ?_
          refine wpList_store_row rfl 25 _ _ rfl (w.heap.size + 1) ((lessP p).vals a5 n5 b5 d5) rfl rfl 25 _ z6 (by kernel_rfl) rfl (cells6 _ _ _ _ _) ?_
          go_wp2_with fail
          refine bodyPost_ret (results_row_tmp rfl _ _ (w.heap.size + 1) 25 _ (0, 0) _ rfl (z6.setRow _) Try.underlying25 rfl (by kernel_rfl)) rfl ⟨a5, n5, b5, d5, ?_, ?_, (Just.setRow _ _ _).below b6 (by omega) b6.size⟩
          · rw [HD.out]; rfl
          · rw [HD.out]; exact (q6.setRow (by omega) _).low (by omega)
        · have e1 : Hid (decide (0 ≤ atI p.path me) = false) := Lib.hid (by simpa using hat)
          have HCT := Lib.hid hct
          by_cases hf : 16 ≤ p.path.length
          · have HD : Hid (upR p me = (noP, 5)) := Lib.hid (by unfold upR; rw [if_neg hne2, if_neg hl0, if_neg hat, if_pos hf])
            obtain ⟨m, hm⟩ : ∃ m, p.path.length = m := ⟨_, rfl⟩
            rw [hm] at k4 hf HCT hplen
            have g1 : decide (16 ≤ m) = true := by simpa using hf
            have g2 : decide ((16 : Int) ≤ (m : Int)) = true := by simp; omega
            clear hat hzb hct hl0 hne2 hf hm
            go_wp2_with (first | (go_at_call 35; refine HCT.out.mono ?_; rintro r w' ⟨rfl, rfl⟩; rw [e1.out]) | (refine wpList_build_store (noP.vals none 0 none 0) rfl rfl rfl rfl builtP rfl rfl z6 (by kernel_rfl) rfl (cells6 _ _ _ _ _) ?_))
            refine bodyPost_ret (results_row_tmp rfl _ _ (w.heap.size + 1) 25 _ (0, 0) _ rfl (z6.setRow _) Try.underlying25 rfl (by kernel_rfl)) rfl ⟨none, 0, none, 0, ?_, ?_, (Just.setRow _ _ _).below b6 (by omega) b6.size⟩
            · rw [HD.out]; rfl
            · rw [HD.out]; exact noP_own _ _
          · have HD : Hid (upR p me = (moreP p me, 0)) := Lib.hid (by unfold upR; rw [if_neg hne2, if_neg hl0, if_neg hat, if_neg hf])
            obtain ⟨i0, hi0, hz0, hz1, hz2⟩ := info_parts infoI
            have m6 : Mine w6 w2.heap.size 3 (.slice a5 p.path.length n5) p.path.length (zval p.path) := q6.path
            have n6 : Mine w6 w2.heap.size _ (.slice b5 p.data.length d5) p.data.length (bval p.data) := q6.data
            have HSN := Lib.hid (z_snoc p.path me)
            obtain ⟨m, hm⟩ : ∃ m, p.path.length = m := ⟨_, rfl⟩
            have HMM := Lib.hid hm
            rw [hm] at k4 hf HCT hplen m6
            have g1 : decide (16 ≤ m) = false := by simpa using hf
            have g2 : decide ((16 : Int) ≤ (m : Int)) = false := by simp; omega
            clear hat hzb hct hl0 hne2 hf hm
            go_upto_region 9 with (go_at_call 35; refine HCT.out.mono ?_; rintro r w' ⟨rfl, rfl⟩; rw [e1.out])
            have rw0 := Lib.hid (row_new (n := 1) (V := fun _ => .int .i64 me) w6 #[.int .i64 me] 3 (0, 0) (fun i hi => by obtain rfl : i = 0 := (by omega); rfl))
            have j7 := (Below.refl _ w6).alloc (Nat.le_refl _) (.cells #[.int .i64 me] 3)
            have hs7 : w2.heap.size ≤ (w6.alloc (.cells #[.int .i64 me] 3)).heap.size := by have := j7.size; omega
            have o7 := below_own j7 o6 o6.lt
            have z7 := below_own j7 z6 z6.lt
            have n7 := n6.alloc (.cells #[.int .i64 me] 3)
            have b7 := b6.alloc b6.size (.cells #[.int .i64 me] 3)
            have k7 : (w6.alloc (.cells #[.int .i64 me] 3)).cell? ⟨g, 4, none⟩ = some (.slice a5 m n5) := keep_cell j7 k4
            go_wp2_with (at_builtin; go_must (refine wp_app rfl (.tmp 33) (.tmp 35) _ rfl w2.heap.size 3 i0 _ 8 Try.underlying22 hi0 hz0 hz1 hz2 rfl (.slice a5 m n5) m (zval p.path) rfl (m6.alloc _) _ 1 _ (fun _ => .int .i64 me) rfl rw0.out (fun _ _ => rfl) ?c1 ?c2 ?c3 ?_))
            case c1 => unfold maxLen; omega
            case c2 => omega
            case c3 => exact hs7
            intro v8 w8 m8 g8
            have b8 := b7.grown g8 (by have := j7.size; omega) (fun q hq => by have := (m6.lt q hq).1; omega)
            have hne : (Value.slice a5 m n5).ownBlock ≠ some g := fun e => by have := L5.out g (by rw [HMM.out]; exact e); omega
            have hne2 : (Value.slice a5 m n5).ownBlock ≠ some (w.heap.size + 1) := fun e => by have := (m6.lt _ e).1; omega
            have o8 := grown_own g8 o7 hne
            have z8 := grown_own g8 z7 hne2
            have m8' := m8.ext (U := zval (p.path ++ [me])) (fun q hq => by rw [← HSN.out q (by rw [HMM.out]; exact hq), HMM.out])
            obtain ⟨a8, c8, rfl, hc8, hd8, hR8⟩ := m8'.row
            have n8 := n7.kept (w' := w8) (fun q hq => by
              by_cases e : (Value.slice b5 p.data.length d5).ownBlock = some q
              · exact .inl (g8.block q (n7.lt q e).2 (fun e' => mine_apart n7 (m6.alloc _) (by decide) q e e'.symm))
              · exact .inr e)
            have k8 : w8.cell? ⟨g, 4, none⟩ = some (.slice a5 m n5) := (o8.cell 4).trans (by rw [← HMM.out]; rfl)
            have f8 : w8.frozen? ⟨g, 4, none⟩ = false := o8.free 4
            have hs8 := g8.size
            have o9 : Lb.Own (w8.setCell ⟨g, 4, none⟩ (.slice a8 (m + 1) c8)) g 25 _ := o8.put 4 (.slice a8 (m + 1) c8)
            have z9 := z8.apart (p := ⟨g, 4, none⟩) (by simp; omega) (.slice a8 (m + 1) c8)
            have j9 := Just.set g w8 4 (.slice a8 (m + 1) c8)
            have b9 := j9.below b8 (by omega) b8.size
            have n9 := n8.other (p := ⟨g, 4, none⟩) (fun e => by have := L5B.out g e; omega) (.slice a8 (m + 1) c8)
            have m9 := m8'.kept (w' := w8.setCell ⟨g, 4, none⟩ (.slice a8 (m + 1) c8)) (fun q hq => by
              by_cases e : q = g
              · subst e
                exact .inr (mine_not m8' o8 (by decide))
              · exact .inl (Below.heap_setCell _ _ _ _ e))
            clear k7 m8 m8' n7 n8 o7 o8 z7 z8 rw0 hR8 g8
            go_upto_region 10 with (fail)
            generalize w8.setCell ⟨g, 4, none⟩ (.slice a8 (m + 1) c8) = w9 at *
            have hl9 : (moreP p me).path.length = m + 1 := by show (p.path ++ [me]).length = m + 1; rw [List.length_append, HMM.out]; rfl
            have HL9 := Lib.hid hl9
            have o10 : Lb.Own w9 g 25 ((moreP p me).vals a8 c8 b5 d5) := by
              unfold Pk.vals
              rw [hl9]
              exact o9
            have q10 : (moreP p me).Own w9 w2.heap.size a8 c8 b5 d5 := ⟨by rw [hl9]; exact m9, n9⟩
            clear o9 hl9
            refine wp_region_lit ?_
            refine wpList_load_row rfl 25 _ rfl g rfl 25 ((moreP p me).vals a8 c8 b5 d5) (0, 0) _ o10 Try.underlying25 rfl (by kernel_rfl) ?_
            refine wpList_store_row rfl 25 _ _ rfl (w.heap.size + 1) ((moreP p me).vals a8 c8 b5 d5) rfl rfl 25 _ z9 (by kernel_rfl) rfl (cells6 _ _ _ _ _) ?_
            go_wp2_with fail
            refine bodyPost_ret (results_row_tmp rfl _ _ (w.heap.size + 1) 25 _ (0, 0) _ rfl (z9.setRow _) Try.underlying25 rfl (by kernel_rfl)) rfl ⟨a8, c8, b5, d5, ?_, ?_, (Just.setRow _ _ _).below b9 (by omega) b9.size⟩
            · rw [HD.out]; rfl
            · rw [HD.out]; exact (q10.setRow (by omega) _).low (by omega)
end Go.Proofs.Ytcpmnfoenpdaeaa.Rt
