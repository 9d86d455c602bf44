/-
  Package route: which packets may be; a packet with one hop less; Down.
-/
import Derived.Test.YtcpmnfoenpdaeaaRtLib
import Derived.Test.YtcpmnfoenpdaeaaRowOut
import Derived.Deep.RegionHeld3
import Derived.Deep.Strs
set_option maxRecDepth 100000
namespace Go.Proofs.Ytcpmnfoenpdaeaa.Rt
set_option linter.unusedVariables false
open Go.RowKit Lb Go.Shelf

set_option maxHeartbeats 4000000 in
theorem may_any (p : Pk) (a : Option Addr) (c : Nat) (b : Option Addr) (d : Nat) (w : World) (h : p.At w a c b d) :
    Calls Try.prog 17 #[.agg (p.vals a c b d)] w fun r w' => r = .returned (.bool (mayK p)) ∧ Below w.heap.size w w' := by
  have o0 := Own.new w 25 (p.vals a c b d)
  have b0 := (Below.refl w.heap.size w).alloc (Nat.le_refl _) (.cells (p.vals a c b d) 25)
  have h0 := h.below b0
  have HP := Lib.hid (pathMay_any a c p.path _ (Nat.le_trans h0.pc h0.pm) h0.prow)
  obtain ⟨pf, pt, pn, pl, pp, pd⟩ := p
  have hD : mayK ⟨pf, pt, pn, pl, pp, pd⟩ = (ndB pf && (ndB pt && (pf != pt && (decide (0 ≤ pn) && (decide (pn ≤ 70368744177663) && (decide (0 ≤ pl) && (decide (pl ≤ 15) && (okP pp && (decide (1 ≤ pd.length) && decide (pd.length ≤ 24)))))))))) := rfl
  obtain ⟨e1, he1⟩ : ∃ e, ndB pf = e := ⟨_, rfl⟩
  obtain ⟨e2, he2⟩ : ∃ e, ndB pt = e := ⟨_, rfl⟩
  obtain ⟨e3, he3⟩ : ∃ e, (pf != pt) = e := ⟨_, rfl⟩
  obtain ⟨e4, he4⟩ : ∃ e, decide (0 ≤ pn) = e := ⟨_, rfl⟩
  obtain ⟨e5, he5⟩ : ∃ e, decide (pn ≤ 70368744177663) = e := ⟨_, rfl⟩
  obtain ⟨e6, he6⟩ : ∃ e, decide (0 ≤ pl) = e := ⟨_, rfl⟩
  obtain ⟨e7, he7⟩ : ∃ e, decide (pl ≤ 15) = e := ⟨_, rfl⟩
  obtain ⟨e8, he8⟩ : ∃ e, okP pp = e := ⟨_, rfl⟩
  obtain ⟨m, hm⟩ : ∃ m, pd.length = m := ⟨_, rfl⟩
  obtain ⟨k, hk⟩ : ∃ k, pp.length = k := ⟨_, rfl⟩
  have HM := Lib.hid hm
  have HK := Lib.hid hk
  rw [hm] at hD
  obtain ⟨e9, he9⟩ : ∃ e, decide (1 ≤ m) = e := ⟨_, rfl⟩
  obtain ⟨e10, he10⟩ : ∃ e, decide (m ≤ 24) = e := ⟨_, rfl⟩
  rw [he1, he2, he3, he4, he5, he6, he7, he8, he9, he10] at hD
  have HD := Lib.hid hD
  have H1 := Lib.hid he1
  have H2 := Lib.hid he2
  have H8 := Lib.hid he8
  have hz9 : decide ((1 : Int) ≤ (m : Int)) = e9 := by rw [← he9]; simp; omega
  have hz10 : decide ((m : Int) ≤ 24) = e10 := by rw [← he10]; simp; omega
  unfold Pk.vals at o0 b0 h0 HP ⊢
  simp only at o0 b0 h0 HP ⊢
  rw [hm, hk] at o0 b0 HP ⊢
  have c0 := o0.cell 0
  have c1 := o0.cell 1
  have c2 := o0.cell 2
  have c3 := o0.cell 3
  have c4 := o0.cell 4
  have c5 := o0.cell 5
  simp at c0 c1 c2 c3 c4 c5
  clear hD he1 he2 he8 h h0 o0 hm hk
  cases e1
  · go_enter Try.func17, Try.ntmps17
    go_wp2_with (first
      | (go_at_call 33; refine (isNode_any _ _).mono ?_; rintro r w' ⟨rfl, rfl⟩; first | rw [H1.out] | rw [H2.out])
      | (go_at_call 38; refine HP.out.mono ?_; rintro r w' ⟨rfl, rfl⟩; rw [H8.out]))
    go_ret
    exact ⟨by rw [HD.out]; rfl, b0⟩
  · cases e2
    · go_enter Try.func17, Try.ntmps17
      go_wp2_with (first
        | (go_at_call 33; refine (isNode_any _ _).mono ?_; rintro r w' ⟨rfl, rfl⟩; first | rw [H1.out] | rw [H2.out])
        | (go_at_call 38; refine HP.out.mono ?_; rintro r w' ⟨rfl, rfl⟩; rw [H8.out]))
      go_ret
      exact ⟨by rw [HD.out]; rfl, b0⟩
    · cases e3
      · go_enter Try.func17, Try.ntmps17
        go_wp2_with (first
          | (go_at_call 33; refine (isNode_any _ _).mono ?_; rintro r w' ⟨rfl, rfl⟩; first | rw [H1.out] | rw [H2.out])
          | (go_at_call 38; refine HP.out.mono ?_; rintro r w' ⟨rfl, rfl⟩; rw [H8.out]))
        go_ret
        exact ⟨by rw [HD.out]; rfl, b0⟩
      · cases e4
        · go_enter Try.func17, Try.ntmps17
          go_wp2_with (first
            | (go_at_call 33; refine (isNode_any _ _).mono ?_; rintro r w' ⟨rfl, rfl⟩; first | rw [H1.out] | rw [H2.out])
            | (go_at_call 38; refine HP.out.mono ?_; rintro r w' ⟨rfl, rfl⟩; rw [H8.out]))
          go_ret
          exact ⟨by rw [HD.out]; rfl, b0⟩
        · cases e5
          · go_enter Try.func17, Try.ntmps17
            go_wp2_with (first
              | (go_at_call 33; refine (isNode_any _ _).mono ?_; rintro r w' ⟨rfl, rfl⟩; first | rw [H1.out] | rw [H2.out])
              | (go_at_call 38; refine HP.out.mono ?_; rintro r w' ⟨rfl, rfl⟩; rw [H8.out]))
            go_ret
            exact ⟨by rw [HD.out]; rfl, b0⟩
          · cases e6
            · go_enter Try.func17, Try.ntmps17
              go_wp2_with (first
                | (go_at_call 33; refine (isNode_any _ _).mono ?_; rintro r w' ⟨rfl, rfl⟩; first | rw [H1.out] | rw [H2.out])
                | (go_at_call 38; refine HP.out.mono ?_; rintro r w' ⟨rfl, rfl⟩; rw [H8.out]))
              go_ret
              exact ⟨by rw [HD.out]; rfl, b0⟩
            · cases e7
              · go_enter Try.func17, Try.ntmps17
                go_wp2_with (first
                  | (go_at_call 33; refine (isNode_any _ _).mono ?_; rintro r w' ⟨rfl, rfl⟩; first | rw [H1.out] | rw [H2.out])
                  | (go_at_call 38; refine HP.out.mono ?_; rintro r w' ⟨rfl, rfl⟩; rw [H8.out]))
                go_ret
                exact ⟨by rw [HD.out]; rfl, b0⟩
              · cases e8
                · go_enter Try.func17, Try.ntmps17
                  go_wp2_with (first
                    | (go_at_call 33; refine (isNode_any _ _).mono ?_; rintro r w' ⟨rfl, rfl⟩; first | rw [H1.out] | rw [H2.out])
                    | (go_at_call 38; refine HP.out.mono ?_; rintro r w' ⟨rfl, rfl⟩; rw [H8.out]))
                  go_ret
                  exact ⟨by rw [HD.out]; rfl, b0⟩
                · cases e9
                  · go_enter Try.func17, Try.ntmps17
                    go_wp2_with (first
                      | (go_at_call 33; refine (isNode_any _ _).mono ?_; rintro r w' ⟨rfl, rfl⟩; first | rw [H1.out] | rw [H2.out])
                      | (go_at_call 38; refine HP.out.mono ?_; rintro r w' ⟨rfl, rfl⟩; rw [H8.out]))
                    go_ret
                    exact ⟨by rw [HD.out]; rfl, b0⟩
                  · cases e10
                    · go_enter Try.func17, Try.ntmps17
                      go_wp2_with (first
                        | (go_at_call 33; refine (isNode_any _ _).mono ?_; rintro r w' ⟨rfl, rfl⟩; first | rw [H1.out] | rw [H2.out])
                        | (go_at_call 38; refine HP.out.mono ?_; rintro r w' ⟨rfl, rfl⟩; rw [H8.out]))
                      go_ret
                      exact ⟨by rw [HD.out]; rfl, b0⟩
                    · go_enter Try.func17, Try.ntmps17
                      go_wp2_with (first
                        | (go_at_call 33; refine (isNode_any _ _).mono ?_; rintro r w' ⟨rfl, rfl⟩; first | rw [H1.out] | rw [H2.out])
                        | (go_at_call 38; refine HP.out.mono ?_; rintro r w' ⟨rfl, rfl⟩; rw [H8.out]))
                      go_ret
                      exact ⟨by rw [HD.out]; rfl, b0⟩
end Go.Proofs.Ytcpmnfoenpdaeaa.Rt
