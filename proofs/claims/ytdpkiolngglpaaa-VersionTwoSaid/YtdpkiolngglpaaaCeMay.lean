/-
  Which cells may be (chapter 8): package cell's.
-/
import Derived.Test.YtdpkiolngglpaaaRowC
import Derived.Lib.Hide
set_option maxRecDepth 100000
namespace Go.Proofs.Ytdpkiolngglpaaa.Cl
set_option linter.unusedVariables false
set_option linter.unusedSimpArgs false
open Go.RowKit Lb

theorem isFrame_any (f : Int) (w : World) :
    Calls Try.prog 58 #[.int .i64 f] w fun r w' => r = .returned (.bool (frB f)) ∧ w = w' := by
  by_cases h0 : 0 ≤ f
  · by_cases h1 : f < 4
    · have HD : Hid (frB f = true) := Lib.hid (by simp [frB, h0, h1])
      go_enter Try.func58, Try.ntmps58
      go_wp2_with fail
      go_ret
      exact ⟨by rw [HD.out]; rfl, rfl⟩
    · have HD : Hid (frB f = false) := Lib.hid (by simp [frB]; omega)
      have h2 : decide (f < 4) = false := by simp; omega
      clear h1
      go_enter Try.func58, Try.ntmps58
      go_wp2_with fail
      go_ret
      exact ⟨by rw [HD.out]; rfl, rfl⟩
  · have HD : Hid (frB f = false) := Lib.hid (by simp [frB]; omega)
    have h2 : f < 0 := by omega
    clear h0
    go_enter Try.func58, Try.ntmps58
    go_wp2_with fail
    go_ret
    exact ⟨by rw [HD.out]; rfl, rfl⟩
theorem optsMay_any (o : Int) (w : World) :
    Calls Try.prog 59 #[.int .i64 o] w fun r w' => r = .returned (.bool (opB o)) ∧ w = w' := by
  by_cases hr : 1 ≤ o ∧ o ≤ 15
  · rcases (show o = 1 ∨ o = 2 ∨ o = 3 ∨ o = 4 ∨ o = 5 ∨ o = 6 ∨ o = 7 ∨ o = 8 ∨ o = 9 ∨ o = 10 ∨ o = 11 ∨ o = 12 ∨ o = 13 ∨ o = 14 ∨ o = 15 by omega) with rfl | rfl | rfl | rfl | rfl | rfl | rfl | rfl | rfl | rfl | rfl | rfl | rfl | rfl | rfl
    all_goals
      clear hr
      go_enter Try.func59, Try.ntmps59
      go_wp2_with fail
      go_ret
      exact ⟨rfl, rfl⟩
  · have HD : Hid (opB o = false) := Lib.hid (by simp [opB]; omega)
    by_cases h0 : o < 1
    · clear hr
      go_enter Try.func59, Try.ntmps59
      go_wp2_with fail
      go_ret
      exact ⟨by rw [HD.out]; rfl, rfl⟩
    · have h1 : 15 < o := by omega
      have h2 : 1 ≤ o := by omega
      clear hr h0
      go_enter Try.func59, Try.ntmps59
      go_wp2_with fail
      go_ret
      exact ⟨by rw [HD.out]; rfl, rfl⟩

theorem in_cases (f s c : Int) : (inB f s c = true ∧ frB f = true ∧ 0 ≤ s ∧ s < 200 ∧ 0 ≤ c ∧ c < 16) ∨ (inB f s c = false ∧ frB f = false) ∨ (inB f s c = false ∧ frB f = true ∧ s < 0) ∨
    (inB f s c = false ∧ frB f = true ∧ 0 ≤ s ∧ decide (s < 200) = false) ∨ (inB f s c = false ∧ frB f = true ∧ 0 ≤ s ∧ s < 200 ∧ c < 0) ∨ (inB f s c = false ∧ frB f = true ∧ 0 ≤ s ∧ s < 200 ∧ 0 ≤ c ∧ decide (c < 16) = false) := by
  unfold inB frB
  simp only [decide_eq_true_eq, decide_eq_false_iff_not]
  omega
theorem pe_cases (p : Int) : (peB p = true ∧ (p == 64) = true) ∨ (peB p = true ∧ (p == 64) = false ∧ 0 ≤ p ∧ p < 16) ∨ (peB p = false ∧ (p == 64) = false ∧ p < 0) ∨ (peB p = false ∧ (p == 64) = false ∧ 0 ≤ p ∧ decide (p < 16) = false) := by
  unfold peB
  simp only [decide_eq_true_eq, decide_eq_false_iff_not, beq_iff_eq, beq_eq_false_iff_ne]
  omega
set_option maxHeartbeats 2000000 in
theorem may_any (f s c o p : Int) (w : World) :
    Calls Try.prog 45 #[.agg #[.int .i64 f, .int .i64 s, .int .i64 c, .int .i64 o, .int .i64 p]] w fun r w' => r = .returned (.bool (mayC f s c o p)) ∧ Below w.heap.size w w' := by
  have hb := (Below.refl w.heap.size w).alloc (Nat.le_refl _) (.cells #[.int .i64 f, .int .i64 s, .int .i64 c, .int .i64 o, .int .i64 p] 69)
  rcases in_cases f s c with ⟨hi, h1, h2, h3, h4, h5⟩ | ⟨hi, h1⟩ | ⟨hi, h1, h2⟩ | ⟨hi, h1, h2, h3⟩ | ⟨hi, h1, h2, h3, h4⟩ | ⟨hi, h1, h2, h3, h4, h5⟩
  all_goals
    rcases pe_cases p with ⟨hp, g1⟩ | ⟨hp, g1, g2, g3⟩ | ⟨hp, g1, g2⟩ | ⟨hp, g1, g2, g3⟩
    all_goals
      have HD : Hid (mayC f s c o p = (inB f s c && peB p && opB o)) := Lib.hid rfl
      have HI := Lib.hid hi
      have HP := Lib.hid hp
      have HF := Lib.hid h1
      clear hi hp h1
      go_enter Try.func45, Try.ntmps45
      go_wp2_with fail
      refine (isFrame_any _ _).mono ?_
      rintro r w' ⟨rfl, rfl⟩
      rw [HF.out]
      go_wp2_with fail
      first
        | (go_ret
           exact ⟨by rw [HD.out, HI.out, HP.out]; rfl, hb⟩)
        | (refine (optsMay_any _ _).mono ?_
           rintro r w' ⟨rfl, rfl⟩
           go_wp2_with fail
           go_ret
           exact ⟨by rw [HD.out, HI.out, HP.out]; rfl, hb⟩)
end Go.Proofs.Ytdpkiolngglpaaa.Cl
