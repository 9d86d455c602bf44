/-
  Package route: two packets, alike or not.
-/
import Derived.Test.YtcpmnfoenpdaeaaRtSame
import Derived.Test.YtcpmnfoenpdaeaaRtEnc
set_option maxRecDepth 100000
namespace Go.Proofs.Ytcpmnfoenpdaeaa.Rt
set_option linter.unusedVariables false
open Go.RowKit Lb Go.Shelf

theorem equal_any (a b : Option Addr) (c d : Nat) (l m : List Int) (w : World) (h1 : l.length ≤ c) (h2 : m.length ≤ d) (hc : c ≤ maxLen) (hd : d ≤ maxLen) (hX : Row w a l.length (zval l)) (hY : Row w b m.length (zval m)) :
    Calls Try.prog 39 #[.slice a l.length c, .slice b m.length d] w fun r w' => r = .returned (.bool (decide (l = m))) ∧ ∃ z, w.drewN z = w' := by
  unfold maxLen at hc hd
  by_cases hlm : l.length = m.length
  · have HLM := Lib.hid hlm
    obtain ⟨n, hn⟩ : ∃ n, l.length = n := ⟨_, rfl⟩
    have HN := Lib.hid hn
    have hm : m.length = n := by omega
    rw [hn] at hX h1 ⊢
    rw [hm] at hY h2 ⊢
    clear hn hm hlm
    go_enter Try.func39, Try.ntmps39
    go_wp2_with fail
    go_loopw [13] (fun i wr => ∃ (k z : Nat), i = .int .i64 k ∧ k ≤ n ∧ Hid (∀ j, j < k → l.getD j 0 = m.getD j 0) ∧ w.drewN z = wr) (fun i _ => n - (intOf i).toNat)
    case atStart => exact ⟨0, 0, rfl, by omega, Lib.hid (fun j hj => by omega), rfl⟩
    case round =>
      obtain ⟨k, z, rfl, hk, HE, rfl⟩ := hrel
      by_cases hlt : k < n
      · obtain ⟨p, o, rfl, _, x1⟩ := hX.at_ hlt
        obtain ⟨q, s, rfl, _, x2⟩ := hY.at_ hlt
        unfold zval at x1 x2
        obtain ⟨x, hx⟩ : ∃ x, l.getD k 0 = x := ⟨_, rfl⟩
        obtain ⟨y, hy⟩ : ∃ y, m.getD k 0 = y := ⟨_, rfl⟩
        rw [hx] at x1
        rw [hy] at x2
        have HX := Lib.hid hx
        have HY := Lib.hid hy
        clear hx hy
        by_cases hxy : x = y
        · have HE2 : Hid (∀ j, j < k + 1 → l.getD j 0 = m.getD j 0) := Lib.hid (fun j hj => by
            by_cases e : j = k
            · subst e; rw [HX.out, HY.out, hxy]
            · exact HE.out j (by omega))
          have g1 : (x != y) = false := by simpa using hxy
          have g2 : (x == y) = true := by simpa using hxy
          clear hxy
          go_wp2_with fail
          go_quiet (fail)
          go_wp2_with fail
          exact ⟨⟨k + 1, _, by go_num, by omega, HE2, rfl⟩, by simp [intOf]; omega⟩
        · have HD : Hid (decide (l = m) = false) := Lib.hid (by
            rw [decide_eq_false_iff_not]
            intro e
            exact hxy (by rw [← HX.out, ← HY.out, e]))
          have g1 : (x != y) = true := by simpa using hxy
          have g2 : (x == y) = false := by simpa using hxy
          clear hxy
          go_wp2_with fail
          go_quiet (fail)
          go_wp2_with fail
          go_ret
          exact ⟨by rw [HD.out]; rfl, _, (World.drewN_drewN _ _ _).symm⟩
      · obtain rfl : n = k := by omega
        have HD : Hid (decide (l = m) = true) := Lib.hid (by
          rw [decide_eq_true_eq]
          exact list_eq HLM.out (by rw [HN.out]; exact HE.out))
        go_wp2_with fail
        go_ret
        exact ⟨by rw [HD.out]; rfl, z, rfl⟩
  · have HD : Hid (decide (l = m) = false) := Lib.hid (by
      rw [decide_eq_false_iff_not]
      intro e
      exact hlm (by rw [e]))
    obtain ⟨n, hn⟩ : ∃ n, l.length = n := ⟨_, rfl⟩
    obtain ⟨k, hk⟩ : ∃ k, m.length = k := ⟨_, rfl⟩
    rw [hn, hk] at hlm ⊢
    have g1 : ((n : Int) == (k : Int)) = false := by simp; omega
    have g2 : ((n : Int) != (k : Int)) = true := by simp; omega
    clear hn hk hlm
    go_enter Try.func39, Try.ntmps39
    go_wp2_with fail
    go_ret
    exact ⟨by rw [HD.out]; rfl, 0, rfl⟩
def okD (l : List Int) : Prop := ∀ x, x ∈ l → 0 ≤ x ∧ x < 256
theorem okD_at {l : List Int} (h : okD l) (i : Nat) : 0 ≤ l.getD i 0 ∧ l.getD i 0 < 256 := by
  by_cases hi : i < l.length
  · rw [List.getD_eq_getElem?_getD, List.getElem?_eq_getElem hi]
    exact h _ (List.getElem_mem hi)
  · rw [List.getD_eq_getElem?_getD, List.getElem?_eq_none (by omega)]
    exact ⟨by decide, by decide⟩
theorem bstr_inj {l m : List Int} (hl : okD l) (hm : okD m) (h : (bstr l).toList = (bstr m).toList) : l = m := by
  obtain ⟨h1, h2⟩ := str_list_inj (fun i => okD_at hl i) (fun i => okD_at hm i) h
  exact list_eq h1 (fun j hj => h2 j hj)
theorem bstr_beq {l m : List Int} (hl : okD l) (hm : okD m) : ((bstr l).toList == (bstr m).toList) = decide (l = m) := by
  by_cases h : l = m
  · rw [decide_eq_true h, h]
    exact beq_self_eq_true _
  · rw [decide_eq_false h]
    exact beq_eq_false_iff_ne.2 fun e => h (bstr_inj hl hm e)
theorem beq_any (a b : Option Addr) (c d : Nat) (l m : List Int) (w : World) (hX : Row w a l.length (bval l)) (hY : Row w b m.length (bval m)) (hl : okD l) (hm : okD m) :
    Calls Try.prog 40 #[.slice a l.length c, .slice b m.length d] w fun r w' => r = .returned (.bool (decide (l = m))) ∧ w = w' := by
  have v1 := conv_b c hX
  have v2 := conv_b d hY
  have HD := Lib.hid (bstr_beq hl hm)
  generalize bstr l = s at *
  generalize bstr m = t at *
  go_enter Try.func40, Try.ntmps40
  go_wp2_with fail
  go_ret
  exact ⟨by rw [← HD.out]; rfl, rfl⟩
def sameB (p q : Pk) : Bool := (p.f == q.f) && ((p.t == q.t) && ((p.n == q.n) && ((p.life == q.life) && (decide (p.path = q.path) && decide (p.data = q.data)))))
set_option maxHeartbeats 4000000 in
theorem same_pk (p q : Pk) (a : Option Addr) (c : Nat) (b : Option Addr) (d : Nat) (a2 : Option Addr) (c2 : Nat) (b2 : Option Addr) (d2 : Nat) (w : World) (h : p.At w a c b d) (k : q.At w a2 c2 b2 d2) (hp : okD p.data) (hq : okD q.data) :
    Calls Try.prog 19 #[.agg (p.vals a c b d), .agg (q.vals a2 c2 b2 d2)] w fun r w' => r = .returned (.bool (sameB p q)) ∧ Below w.heap.size w w' := by
  have o1 : Lb.Own ((w.alloc (.cells (p.vals a c b d) 25)).alloc (.cells (q.vals a2 c2 b2 d2) 25)) w.heap.size 25 (p.vals a c b d) := (Own.new w _ _).alloc _
  have o2 : Lb.Own ((w.alloc (.cells (p.vals a c b d) 25)).alloc (.cells (q.vals a2 c2 b2 d2) 25)) (w.heap.size + 1) 25 (q.vals a2 c2 b2 d2) := by
    have := Own.new (w.alloc (.cells (p.vals a c b d) 25)) 25 (q.vals a2 c2 b2 d2)
    rwa [show (w.alloc (.cells (p.vals a c b d) 25)).heap.size = w.heap.size + 1 by simp] at this
  have b0 := ((Below.refl w.heap.size w).alloc (Nat.le_refl _) (.cells (p.vals a c b d) 25)).alloc (by simp) (.cells (q.vals a2 c2 b2 d2) 25)
  have h1 := h.below b0
  have k1 := k.below b0
  obtain ⟨pf, pt, pn, pl, pp, pd⟩ := p
  obtain ⟨qf, qt, qn, ql, qp, qd⟩ := q
  have hD : sameB ⟨pf, pt, pn, pl, pp, pd⟩ ⟨qf, qt, qn, ql, qp, qd⟩ = ((pf == qf) && ((pt == qt) && ((pn == qn) && ((pl == ql) && (decide (pp = qp) && decide (pd = qd)))))) := rfl
  obtain ⟨e1, he1⟩ : ∃ e, (pf == qf) = e := ⟨_, rfl⟩
  obtain ⟨e2, he2⟩ : ∃ e, (pt == qt) = e := ⟨_, rfl⟩
  obtain ⟨e3, he3⟩ : ∃ e, (pn == qn) = e := ⟨_, rfl⟩
  obtain ⟨e4, he4⟩ : ∃ e, (pl == ql) = e := ⟨_, rfl⟩
  obtain ⟨e5, he5⟩ : ∃ e, decide (pp = qp) = e := ⟨_, rfl⟩
  obtain ⟨e6, he6⟩ : ∃ e, decide (pd = qd) = e := ⟨_, rfl⟩
  rw [he1, he2, he3, he4, he5, he6] at hD
  have HD := Lib.hid hD
  unfold Pk.vals at *
  simp only at *
  go_enter Try.func19, Try.ntmps19
  go_upto_region 1 with (fail)
  generalize (w.alloc (.cells #[.int .i64 pf, .int .i64 pt, .int .i64 pn, .int .i64 pl, .slice a pp.length c, .slice b pd.length d] 25)).alloc (.cells #[.int .i64 qf, .int .i64 qt, .int .i64 qn, .int .i64 ql, .slice a2 qp.length c2, .slice b2 qd.length d2] 25) = w1 at *
  have c0 := o1.cell 0
  have c1 := o1.cell 1
  have x2 := o1.cell 2
  have c3 := o1.cell 3
  have c4 := o1.cell 4
  have c5 := o1.cell 5
  have y0 := o2.cell 0
  have y1 := o2.cell 1
  have y2 := o2.cell 2
  have y3 := o2.cell 3
  have y4 := o2.cell 4
  have y5 := o2.cell 5
  simp at c0 c1 x2 c3 c4 c5 y0 y1 y2 y3 y4 y5
  have hI := equal_any a a2 c c2 pp qp w1 h1.pc k1.pc h1.pm k1.pm h1.prow k1.prow
  rw [he5] at hI
  have HI := Lib.hid hI
  have hBq : ∀ z, Calls Try.prog 40 #[.slice b pd.length d, .slice b2 qd.length d2] (w1.drewN z) fun r w' => r = .returned (.bool e6) ∧ w1.drewN z = w' := fun z => by
    have := beq_any b b2 d d2 pd qd (w1.drewN z) (h1.drow.drewN z) (k1.drow.drewN z) hp hq
    rw [he6] at this
    exact this
  have HB := Lib.hid hBq
  clear hBq he6
  clear o1 o2 hI hD h k h1 k1 hp hq he5
  cases e1
  · go_wp2_with (first
      | (refine HI.out.mono ?_; rintro r w' ⟨rfl, zz, rfl⟩)
      | (refine (HB.out _).mono ?_; rintro r w' ⟨rfl, rfl⟩))
    all_goals
      go_ret
      exact ⟨by rw [HD.out]; rfl, by first | exact b0 | exact below_drewN b0 _⟩
  · cases e2
    · go_wp2_with (first
        | (refine HI.out.mono ?_; rintro r w' ⟨rfl, zz, rfl⟩)
        | (refine (HB.out _).mono ?_; rintro r w' ⟨rfl, rfl⟩))
      all_goals
        go_ret
        exact ⟨by rw [HD.out]; rfl, by first | exact b0 | exact below_drewN b0 _⟩
    · cases e3
      · go_wp2_with (first
          | (refine HI.out.mono ?_; rintro r w' ⟨rfl, zz, rfl⟩)
          | (refine (HB.out _).mono ?_; rintro r w' ⟨rfl, rfl⟩))
        all_goals
          go_ret
          exact ⟨by rw [HD.out]; rfl, by first | exact b0 | exact below_drewN b0 _⟩
      · cases e4
        · go_wp2_with (first
            | (refine HI.out.mono ?_; rintro r w' ⟨rfl, zz, rfl⟩)
            | (refine (HB.out _).mono ?_; rintro r w' ⟨rfl, rfl⟩))
          all_goals
            go_ret
            exact ⟨by rw [HD.out]; rfl, by first | exact b0 | exact below_drewN b0 _⟩
        · cases e5
          · go_wp2_with (first
              | (refine HI.out.mono ?_; rintro r w' ⟨rfl, zz, rfl⟩)
              | (refine (HB.out _).mono ?_; rintro r w' ⟨rfl, rfl⟩))
            all_goals
              go_ret
              exact ⟨by rw [HD.out]; rfl, by first | exact b0 | exact below_drewN b0 _⟩
          · cases e6
            · go_wp2_with (first
                | (refine HI.out.mono ?_; rintro r w' ⟨rfl, zz, rfl⟩)
                | (refine (HB.out _).mono ?_; rintro r w' ⟨rfl, rfl⟩))
              all_goals
                go_ret
                exact ⟨by rw [HD.out]; rfl, by first | exact b0 | exact below_drewN b0 _⟩
            · go_wp2_with (first
                | (refine HI.out.mono ?_; rintro r w' ⟨rfl, zz, rfl⟩)
                | (refine (HB.out _).mono ?_; rintro r w' ⟨rfl, rfl⟩))
              all_goals
                go_ret
                exact ⟨by rw [HD.out]; rfl, by first | exact b0 | exact below_drewN b0 _⟩
end Go.Proofs.Ytcpmnfoenpdaeaa.Rt
