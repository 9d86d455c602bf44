/-
  Law CrcForms: for every row of bytes the sum, whether it is good and the row with its sum are the reference's; the call returns true. No condition.
-/
import Derived.Test.YtcgamfibnhlpjaaCrcRef
set_option maxRecDepth 100000
namespace Go.Proofs.Ytcgamfibnhlpjaa.CrcForms
set_option linter.unusedVariables false
open Go.RowKit Go.ChangeShapes Go.WideShapes Go.ChangeAt Go.Deep Lb Cr
set_option linter.unusedVariables false
theorem own : ownKnob Try.prog.godebug = none := by kernel_rfl
theorem laidOut : laidOutB Try.prog = true := by kernel_rfl

set_option maxHeartbeats 8000000 in
theorem body (a : Option Addr) (n c : Nat) (Z : Nat → Int) (w : World) (hn : n ≤ c) (hm : c ≤ maxLen) (hZ : Row w a n (fun i => .int .u8 (Z i))) (hz : Byte Z) :
    Calls Try.prog 3 #[.slice a n c] w fun e w' => e = .returned (.bool true) ∧ Below w.heap.size w w' := by
  have M := Lib.hid (And.intro (Nat.le_trans hn hm) hm)
  unfold maxLen at hm
  by_cases h2 : 2000 < n
  · go_enter Try.func3, Try.ntmps3
    go_wp2_with fail
    refine (awake_any _).mono ?_
    rintro r w' ⟨rfl, b9⟩
    go_wp2_with fail
    go_ret
    exact ⟨rfl, b9⟩
  · have hZ1 : Row w.drew a n (fun i => .int .u8 (Z i)) := hZ
    have b1 : Below w.heap.size w w.drew := below_drewN (Below.refl _ w) 1
    go_enter Try.func3, Try.ntmps3
    go_wp2_with fail
    go_region_with (first
      | (go_at_call 9; refine (sum_any a n c Z _ M.out.1 ?_ hz).mono ?_; (exact hZ); rintro r w' ⟨rfl, rfl⟩)
      | (go_at_call 10; refine (rsum_any a n c Z _ M.out.1 ?_ hz).mono ?_; (exact hZ); rintro r w' ⟨rfl, rfl⟩)
      | (go_at_call 11; refine (good_any a n c Z _ hn M.out.2 ?_ hz).mono ?_; (exact hZ); rintro r w' ⟨rfl, rfl⟩)
      | (go_at_call 12; refine (rgood_keep w a n c Z _ (by omega) hn M.out.2 ?_ ?_ hz).mono ?_; (exact hZ); (exact b1); rintro r w3 ⟨rfl, R3, b3⟩)
      | (go_at_call 13; refine (append_keep w a n c Z _ (by omega) ?_ ?_ hz).mono ?_; (exact R3); (exact b3); rintro r w4 ⟨va, vc, rfl, V4, k4, R4, b4⟩)
      | (go_at_call 14; refine (rappend_keep w a n c Z va (n + 2) vc (app Z n) _ (by omega) ?_ ?_ ?_ hz).mono ?_; (exact R4); (exact V4); (exact b4); rintro r w5 ⟨ua, uc, rfl, k5, k5', b5⟩)
      | (go_at_call 8; refine (awake_keep w _ ?_).mono ?_; (exact b5); rintro r w6 ⟨rfl, b6⟩))
    all_goals
      go_wp2_with fail
      go_ret
      exact ⟨rfl, b6⟩

theorem walk (H : Type) (enc : TypeId × Value → H) : Walk H enc Try.prog 3 Try.f3 := by
  intro W base args ds p hval hA
  rw [Try.params3] at hA hval
  obtain ⟨v0, d0, rfl, rfl, h0⟩ := trodAll_one hA
  obtain ⟨a, n, c, Z, rfl, hn, hm, hZ, hz⟩ := open_row_int Try.underlying22 Try.underlying5 (by kernel_rfl) (hval 0 _ v0 rfl rfl) h0
  exact body a n c Z W hn hm hZ (fun i => u8_bd (hz i))

set_option maxRecDepth 100000 in
theorem lifted (os : Os) (started : os.Started) (H : Type) (enc : TypeId × Value → H) :
    ReturnsInHanded {} Try.checked os 3 .any (Rows.crcFormsSpec.pre6 enc Try.prog Try.f3 Rows.crcFormsRow.domain false) (Rows.crcFormsSpec.post enc Try.prog Try.f3 false true false false) :=
  returnsInHanded_of_change (C := Try.checked) own started (by kernel_rfl) Try.func3
    (ChangeSpec.witness6 (enc := enc) (C := Try.checked) false ⟨#[], #[.slice none 0 0], []⟩ 8 (by kernel_rfl) (by kernel_rfl) (by kernel_rfl) (by kernel_rfl))
    fun W base args ds gs before hval hW _ _ => step_of_walk laidOut (by rw [Try.params3]; exact of_decide_eq_true (by kernel_rfl)) (by kernel_rfl) Try.underlying4 rfl
      (fun ds h => by
        rw [Try.params3] at h
        match ds, h with
        | [_], _ => rfl) (walk H enc) W base args ds gs before hval hW

theorem holds : Rows.CrcFormsSaid :=
  OpenClaim.holds_of_wide 3 Try.f3 rfl rfl rfl rfl rfl rfl rfl ⟨rfl, rfl, rfl, rfl, rfl⟩ rfl rfl rfl rfl rfl (by kernel_rfl) Try.func3 (by kernel_rfl)
    (of_decide_eq_true (by kernel_rfl)) (by unfold Func.isWrapper; first | (rw [if_pos (by decide +kernel)]; kernel_rfl) | (rw [if_neg (by decide +kernel)]; exact ⟨rfl, rfl⟩))
    (fun os started H enc _ => lifted os started H enc)
#print axioms holds
end Go.Proofs.Ytcgamfibnhlpjaa.CrcForms
