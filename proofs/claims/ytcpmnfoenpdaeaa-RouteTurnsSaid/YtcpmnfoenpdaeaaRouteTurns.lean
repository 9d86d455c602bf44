/-
  Law RouteTurns: the way back has the same nodes, the last one first; of what is no way there is none; the call returns true. No condition.
-/
import Derived.Test.YtcpmnfoenpdaeaaRtAwake
import Derived.Test.YtcpmnfoenpdaeaaRtArg
import Derived.Lib.SmallJoins
set_option maxRecDepth 100000
namespace Go.Proofs.Ytcpmnfoenpdaeaa.RouteTurns
set_option linter.unusedVariables false
open Go.RowKit Go.ChangeShapes Go.WideShapes Go.ChangeAt Go.Deep Lb Rt
set_option linter.unusedVariables false
theorem own : ownKnob Try.prog.godebug = none := by kernel_rfl
theorem laidOut : laidOutB Try.prog = true := by kernel_rfl
theorem rev_at {l : List Int} {k : Nat} (h : k < l.length) : l.reverse.getD (l.length - 1 - k) 0 = l.getD k 0 := by
  rw [List.getD_eq_getElem?_getD, List.getD_eq_getElem?_getD, List.getElem?_reverse (by omega), show l.length - 1 - (l.length - 1 - k) = k by omega]
set_option maxHeartbeats 2000000 in
theorem body (a : Option Addr) (c : Nat) (l : List Int) (w : World) (hlc : l.length ≤ c) (hc : c ≤ maxLen) (hR : Row w a l.length (zval l)) (ha : a = none → l.length = 0) :
    Calls Try.prog 7 #[.slice a l.length c] w fun q w' => q = .returned (.bool true) ∧ Below w.heap.size w w' := by
  have hcl : l.length ≤ maxLen := Nat.le_trans hlc hc
  by_cases h60 : 60 < l.length
  · have g1 : decide (60 < l.length) = true := by simpa using h60
    have g2 : decide ((60 : Int) < (l.length : Int)) = true := by simp; omega
    clear hR
    go_enter Try.func7, Try.ntmps7
    go_wp2_with fail
    refine (awake_any _).mono ?_
    rintro r w9 ⟨rfl, b9⟩
    go_wp2_with fail
    go_ret
    exact ⟨rfl, b9⟩
  have hbk := back_any a c l w hlc hc hR ha
  have hmp := fun (w' : World) (hb : Below w.heap.size w w') => rpath_any a c l w' hlc hc (hR.below hb)
  have hrev := fun k hk => rev_at (l := l) (k := k) hk
  have HREV := Lib.hid hrev
  obtain ⟨n, hn⟩ : ∃ n, l.length = n := ⟨_, rfl⟩
  have HN := Lib.hid hn
  simp only [hn] at h60 hlc hcl hR ha hmp hbk ⊢
  have HMP := Lib.hid hmp
  have HBK := Lib.hid hbk
  have g1 : decide (60 < n) = false := by simpa using h60
  have g2 : decide ((60 : Int) < (n : Int)) = false := by simp; omega
  cases hm : okP l
  · have HM := Lib.hid hm
    have HB : Hid (backL l = []) := Lib.hid (by unfold backL; rw [hm]; rfl)
    clear hm hmp hbk hrev hn
    go_enter Try.func7, Try.ntmps7
    go_wp2_with fail
    refine HBK.out.mono ?_
    rintro r w1 ⟨v, rfl, m1, b1⟩
    rw [HB.out] at m1
    obtain ⟨a1, c1, rfl, hc1, hd1, hR1⟩ := m1.row
    go_wp2_with fail
    refine (HMP.out _ b1).mono ?_
    rintro r w' ⟨rfl, rfl⟩
    rw [HM.out]
    go_wp2_with fail
    refine (awake_any _).mono ?_
    rintro r w9 ⟨rfl, b9⟩
    go_wp2_with fail
    go_ret
    exact ⟨rfl, b1.trans (b9.mono b1.size)⟩
  · have HM := Lib.hid hm
    have HB : Hid (backL l = l.reverse) := Lib.hid (by unfold backL; rw [hm]; rfl)
    have hrl : l.reverse.length = n := by simp [hn]
    have HRL := Lib.hid hrl
    clear hm hmp hbk hrev hn hrl
    go_enter Try.func7, Try.ntmps7
    go_wp2_with fail
    refine HBK.out.mono ?_
    rintro r w1 ⟨v, rfl, m1, b1⟩
    rw [HB.out, HRL.out] at m1
    obtain ⟨a1, c1, rfl, hc1, hd1, hR1⟩ := m1.row
    have hR0 := hR.below b1
    clear m1
    go_wp2_with fail
    refine (HMP.out _ b1).mono ?_
    rintro r w' ⟨rfl, rfl⟩
    rw [HM.out]
    go_wp2_with fail
    go_loopw [28] (fun i wr => ∃ (k m : Nat), i = .int .i64 k ∧ k ≤ n ∧ w1.drewN m = wr) (fun i _ => n - (intOf i).toNat)
    case atStart => exact ⟨0, 0, rfl, by omega, rfl⟩
    case round =>
      obtain ⟨k, m, rfl, hk, rfl⟩ := hrel
      by_cases hlt : k < n
      · have e1 := HREV.out k (by rw [HN.out]; exact hlt)
        rw [HN.out] at e1
        obtain ⟨b0, o0, rfl, _, x0⟩ := hR0.at_ hlt
        obtain ⟨b2, o2, rfl, _, x2⟩ := hR1.at_ (show n - 1 - k < n by omega)
        unfold zval at x0 x2
        rw [e1] at x2
        generalize l.getD k 0 = x at *
        clear e1
        have s1 : IntKind.i64.wrap ((n : Int) - 1) = (n : Int) - 1 := IntWalk.i64_in _ (by omega)
        have s2 : IntKind.i64.wrap ((n : Int) - 1 - (k : Int)) = (n : Int) - 1 - (k : Int) := IntWalk.i64_in _ (by omega)
        have s3 : ((n : Int) - 1 - (k : Int)).toNat = n - 1 - k := by omega
        have s4 : 0 ≤ (n : Int) - 1 - (k : Int) := by omega
        have s5 : (n : Int) - 1 - (k : Int) < (n : Int) := by omega
        go_wp2_with fail
        clear s1 s2 s3 s4 s5
        exact ⟨⟨k + 1, m, by simp, by omega, by first | trivial | rfl⟩, by simp [intOf]; omega⟩
      · obtain rfl : n = k := by omega
        go_wp2_with fail
        refine (awake_any _).mono ?_
        rintro r w9 ⟨rfl, b9⟩
        go_wp2_with fail
        go_ret
        exact ⟨rfl, (below_drewN b1 m).trans (b9.mono b1.size)⟩

theorem walk (H : Type) (enc : TypeId × Value → H) : Walk H enc Try.prog 7 Try.f7 := by
  intro W base args ds p hval hA
  rw [Try.params7] at hA hval
  obtain ⟨v0, d0, rfl, rfl, h0⟩ := trodAll_one hA
  obtain ⟨a, l, c, rfl, h1, h2, h3, h4⟩ := open_ints (hval 0 _ v0 rfl rfl) h0
  exact body a c l W h1 h2 h3 h4

set_option maxRecDepth 100000 in
theorem lifted (os : Os) (started : os.Started) (H : Type) (enc : TypeId × Value → H) :
    ReturnsInHanded {} Try.checked os 7 .any (Rows.routeTurnsSpec.pre6 enc Try.prog Try.f7 Rows.routeTurnsRow.domain false) (Rows.routeTurnsSpec.post enc Try.prog Try.f7 false true false false) :=
  returnsInHanded_of_change (C := Try.checked) own started (by kernel_rfl) Try.func7
    (ChangeSpec.witness6 (enc := enc) (C := Try.checked) false ⟨#[], #[.slice none 0 0], []⟩ 8 (by kernel_rfl) (by kernel_rfl) (by kernel_rfl) (by kernel_rfl))
    fun W base args ds gs before hval hW _ _ => step_of_walk laidOut (by rw [Try.params7]; exact of_decide_eq_true (by kernel_rfl)) (by kernel_rfl) Try.underlying4 rfl
      (fun ds h => by
        rw [Try.params7] at h
        match ds, h with
        | [_], _ => rfl) (walk H enc) W base args ds gs before hval hW

theorem holds : Rows.RouteTurnsSaid :=
  OpenClaim.holds_of_wide 7 Try.f7 rfl rfl rfl rfl rfl rfl rfl ⟨rfl, rfl, rfl, rfl, rfl⟩ rfl rfl rfl rfl rfl (by kernel_rfl) Try.func7 (by kernel_rfl)
    (of_decide_eq_true (by kernel_rfl)) (by unfold Func.isWrapper; first | (rw [if_pos (by decide +kernel)]; kernel_rfl) | (rw [if_neg (by decide +kernel)]; exact ⟨rfl, rfl⟩))
    (fun os started H enc _ => lifted os started H enc)
#print axioms holds
end Go.Proofs.Ytcpmnfoenpdaeaa.RouteTurns
