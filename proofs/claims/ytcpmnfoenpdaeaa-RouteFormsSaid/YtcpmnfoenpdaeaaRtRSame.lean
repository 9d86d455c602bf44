/-
  Package route, the reference: two packets, alike or not.
-/
import Derived.Test.YtcpmnfoenpdaeaaRtPair
set_option maxRecDepth 100000
namespace Go.Proofs.Ytcpmnfoenpdaeaa.Rt
set_option linter.unusedVariables false
open Go.RowKit Lb Go.Shelf

set_option maxHeartbeats 4000000 in
theorem rsame_pk (p q : Pk) (a : Option Addr) (c : Nat) (b : Option Addr) (d : Nat) (a2 : Option Addr) (c2 : Nat) (b2 : Option Addr) (d2 : Nat) (w : World) (h : p.At w a c b d) (k : q.At w a2 c2 b2 d2) (hp : okD p.data) (hq : okD q.data) :
    Calls Try.prog 20 #[.agg (p.vals a c b d), .agg (q.vals a2 c2 b2 d2)] w fun r w' => r = .returned (.bool (sameB p q)) ∧ Below w.heap.size w w' := by
  have o1 : Lb.Own ((w.alloc (.cells (p.vals a c b d) 25)).alloc (.cells (q.vals a2 c2 b2 d2) 25)) w.heap.size 25 (p.vals a c b d) := (Own.new w _ _).alloc _
  have o2 : Lb.Own ((w.alloc (.cells (p.vals a c b d) 25)).alloc (.cells (q.vals a2 c2 b2 d2) 25)) (w.heap.size + 1) 25 (q.vals a2 c2 b2 d2) := by
    have := Own.new (w.alloc (.cells (p.vals a c b d) 25)) 25 (q.vals a2 c2 b2 d2)
    rwa [show (w.alloc (.cells (p.vals a c b d) 25)).heap.size = w.heap.size + 1 by simp] at this
  have b0 := ((Below.refl w.heap.size w).alloc (Nat.le_refl _) (.cells (p.vals a c b d) 25)).alloc (by simp) (.cells (q.vals a2 c2 b2 d2) 25)
  have h1 := h.below b0
  have k1 := k.below b0
  obtain ⟨pf, pt, pn, pl, pp, pd⟩ := p
  obtain ⟨qf, qt, qn, ql, qp, qd⟩ := q
  have hD : sameB ⟨pf, pt, pn, pl, pp, pd⟩ ⟨qf, qt, qn, ql, qp, qd⟩ = ((pf == qf) && ((pt == qt) && ((pn == qn) && ((pl == ql) && (decide (pp = qp) && decide (pd = qd)))))) := rfl
  obtain ⟨e1, he1⟩ : ∃ e, (pf == qf) = e := ⟨_, rfl⟩
  obtain ⟨e2, he2⟩ : ∃ e, (pt == qt) = e := ⟨_, rfl⟩
  obtain ⟨e3, he3⟩ : ∃ e, (pn == qn) = e := ⟨_, rfl⟩
  obtain ⟨e4, he4⟩ : ∃ e, (pl == ql) = e := ⟨_, rfl⟩
  obtain ⟨e5, he5⟩ : ∃ e, decide (pp = qp) = e := ⟨_, rfl⟩
  obtain ⟨e6, he6⟩ : ∃ e, decide (pd = qd) = e := ⟨_, rfl⟩
  rw [he1, he2, he3, he4, he5, he6] at hD
  have HD := Lib.hid hD
  unfold Pk.vals at *
  simp only at *
  go_enter Try.func20, Try.ntmps20
  go_upto_region 1 with (fail)
  generalize (w.alloc (.cells #[.int .i64 pf, .int .i64 pt, .int .i64 pn, .int .i64 pl, .slice a pp.length c, .slice b pd.length d] 25)).alloc (.cells #[.int .i64 qf, .int .i64 qt, .int .i64 qn, .int .i64 ql, .slice a2 qp.length c2, .slice b2 qd.length d2] 25) = w1 at *
  have c0 := o1.cell 0
  have c1 := o1.cell 1
  have x2 := o1.cell 2
  have c3 := o1.cell 3
  have c4 := o1.cell 4
  have c5 := o1.cell 5
  have y0 := o2.cell 0
  have y1 := o2.cell 1
  have y2 := o2.cell 2
  have y3 := o2.cell 3
  have y4 := o2.cell 4
  have y5 := o2.cell 5
  simp at c0 c1 x2 c3 c4 c5 y0 y1 y2 y3 y4 y5
  have hI := same_any a a2 c c2 pp qp w1 h1.pc k1.pc h1.pm k1.pm h1.prow k1.prow
  rw [he5] at hI
  have HI := Lib.hid hI
  have v1 : ∀ z : Nat, (convert 23 9 (.slice b pd.length d)).run Try.prog (w1.drewN z) = .ok (.string (bstr pd)) (w1.drewN z) := fun z => conv_b d (h1.drow.drewN z)
  have v2 : ∀ z : Nat, (convert 23 9 (.slice b2 qd.length d2)).run Try.prog (w1.drewN z) = .ok (.string (bstr qd)) (w1.drewN z) := fun z => conv_b d2 (k1.drow.drewN z)
  have hbe := bstr_beq hp hq
  rw [he6] at hbe
  generalize bstr pd = S at *
  generalize bstr qd = T at *
  clear he6
  clear o1 o2 hI hD h k h1 k1 hp hq he5
  cases e1
  · go_wp2_with (refine HI.out.mono ?_; rintro r w' ⟨rfl, zz, rfl⟩)
    all_goals
      go_ret
      exact ⟨by rw [HD.out]; rfl, by first | exact b0 | exact below_drewN b0 _⟩
  · cases e2
    · go_wp2_with (refine HI.out.mono ?_; rintro r w' ⟨rfl, zz, rfl⟩)
      all_goals
        go_ret
        exact ⟨by rw [HD.out]; rfl, by first | exact b0 | exact below_drewN b0 _⟩
    · cases e3
      · go_wp2_with (refine HI.out.mono ?_; rintro r w' ⟨rfl, zz, rfl⟩)
        all_goals
          go_ret
          exact ⟨by rw [HD.out]; rfl, by first | exact b0 | exact below_drewN b0 _⟩
      · cases e4
        · go_wp2_with (refine HI.out.mono ?_; rintro r w' ⟨rfl, zz, rfl⟩)
          all_goals
            go_ret
            exact ⟨by rw [HD.out]; rfl, by first | exact b0 | exact below_drewN b0 _⟩
        · cases e5
          · go_wp2_with (refine HI.out.mono ?_; rintro r w' ⟨rfl, zz, rfl⟩)
            all_goals
              go_ret
              exact ⟨by rw [HD.out]; rfl, by first | exact b0 | exact below_drewN b0 _⟩
          · cases e6
            · go_wp2_with (refine HI.out.mono ?_; rintro r w' ⟨rfl, zz, rfl⟩)
              all_goals
                go_ret
                exact ⟨by rw [HD.out]; rfl, by first | exact b0 | exact below_drewN b0 _⟩
            · go_wp2_with (refine HI.out.mono ?_; rintro r w' ⟨rfl, zz, rfl⟩)
              all_goals
                go_ret
                exact ⟨by rw [HD.out]; rfl, by first | exact b0 | exact below_drewN b0 _⟩
end Go.Proofs.Ytcpmnfoenpdaeaa.Rt
