/-
  The reference's answer whether a cell may be.
-/
import Derived.Test.YtdpkiolngglpaaaRowC
import Derived.Lib.Hide
set_option maxRecDepth 100000
namespace Go.Proofs.Ytdpkiolngglpaaa.Cl
set_option linter.unusedVariables false
set_option linter.unusedSimpArgs false
open Go.RowKit Lb

theorem ref_node (f : Int) (w : World) :
    Calls Try.prog 34 #[.int .i64 f] w fun r w' => r = .returned (.bool (ndB f)) ∧ w = w' := by
  by_cases h0 : 0 ≤ f
  · by_cases h1 : f < 16
    · have HD : Hid (ndB f = true) := Lib.hid (by simp [ndB, h0, h1])
      go_enter Try.func34, Try.ntmps34
      go_wp2_with fail
      go_ret
      exact ⟨by rw [HD.out]; rfl, rfl⟩
    · have HD : Hid (ndB f = false) := Lib.hid (by simp [ndB]; omega)
      have h2 : decide (f < 16) = false := by simp; omega
      clear h1
      go_enter Try.func34, Try.ntmps34
      go_wp2_with fail
      go_ret
      exact ⟨by rw [HD.out]; rfl, rfl⟩
  · have HD : Hid (ndB f = false) := Lib.hid (by simp [ndB]; omega)
    have h2 : f < 0 := by omega
    clear h0
    go_enter Try.func34, Try.ntmps34
    go_wp2_with fail
    go_ret
    exact ⟨by rw [HD.out]; rfl, rfl⟩
theorem in2_cases (f s c : Int) : (inB f s c = true ∧ 0 ≤ f ∧ f < 4 ∧ 0 ≤ s ∧ s < 200 ∧ 0 ≤ c ∧ c ≤ 15) ∨ (inB f s c = false ∧ f < 0) ∨ (inB f s c = false ∧ 0 ≤ f ∧ decide (f < 4) = false) ∨ (inB f s c = false ∧ 0 ≤ f ∧ f < 4 ∧ s < 0) ∨
    (inB f s c = false ∧ 0 ≤ f ∧ f < 4 ∧ 0 ≤ s ∧ decide (s < 200) = false) ∨ (inB f s c = false ∧ 0 ≤ f ∧ f < 4 ∧ 0 ≤ s ∧ s < 200 ∧ c < 0) ∨ (inB f s c = false ∧ 0 ≤ f ∧ f < 4 ∧ 0 ≤ s ∧ s < 200 ∧ 0 ≤ c ∧ decide (c ≤ 15) = false) := by
  unfold inB
  simp only [decide_eq_true_eq, decide_eq_false_iff_not]
  omega
theorem pe2_cases (p : Int) : (peB p = true ∧ ndB p = true) ∨ (peB p = true ∧ ndB p = false ∧ (p == 64) = true) ∨ (peB p = false ∧ ndB p = false ∧ (p == 64) = false) := by
  unfold peB ndB
  simp only [decide_eq_true_eq, decide_eq_false_iff_not, beq_iff_eq, beq_eq_false_iff_ne]
  omega
theorem op_cases (o : Int) (h0 : 1 ≤ o) (h1 : o ≤ 15) : ∃ b3 b4 b1 : Bool, (bits .and .i64 o 3 == 0) = b3 ∧ (bits .and .i64 o 4 == 0) = b4 ∧ (bits .and .i64 o 1 == 0) = b1 ∧
    (bits .and .i64 o 3 != 0) = !b3 ∧ (bits .and .i64 o 4 != 0) = !b4 ∧ (bits .and .i64 o 1 != 0) = !b1 ∧ opB o = (!b3 && (b4 || !b1)) := by
  refine ⟨_, _, _, rfl, rfl, rfl, rfl, rfl, rfl, ?_⟩
  rcases (show o = 1 ∨ o = 2 ∨ o = 3 ∨ o = 4 ∨ o = 5 ∨ o = 6 ∨ o = 7 ∨ o = 8 ∨ o = 9 ∨ o = 10 ∨ o = 11 ∨ o = 12 ∨ o = 13 ∨ o = 14 ∨ o = 15 by omega) with rfl | rfl | rfl | rfl | rfl | rfl | rfl | rfl | rfl | rfl | rfl | rfl | rfl | rfl | rfl <;> decide +kernel
set_option maxHeartbeats 4000000 in
theorem ref_may (f s c o p : Int) (w : World) :
    Calls Try.prog 41 #[.agg #[.int .i64 f, .int .i64 s, .int .i64 c, .int .i64 o, .int .i64 p]] w fun r w' => r = .returned (.bool (mayC f s c o p)) ∧ Below w.heap.size w w' := by
  have HD : Hid (mayC f s c o p = (inB f s c && peB p && opB o)) := Lib.hid rfl
  rcases in2_cases f s c with ⟨hi, h0, h1, h2, h3, h4, h5⟩ | ⟨hi, h0⟩ | ⟨hi, h0, h1⟩ | ⟨hi, h0, h1, h2⟩ | ⟨hi, h0, h1, h2, h3⟩ | ⟨hi, h0, h1, h2, h3, h4⟩ | ⟨hi, h0, h1, h2, h3, h4, h5⟩
  · have HI := Lib.hid hi
    clear hi
    by_cases hr : 1 ≤ o ∧ o ≤ 15
    · obtain ⟨b3, b4, b1, t3, t4, t1, u3, u4, u1, ho⟩ := op_cases o hr.1 hr.2
      obtain ⟨r0, r1⟩ := hr
      have HO := Lib.hid ho
      clear ho
      rcases (show b3 = true ∨ (b3 = false ∧ b4 = false ∧ b1 = true) ∨ (b3 = false ∧ b4 = true) ∨ (b3 = false ∧ b4 = false ∧ b1 = false) by cases b3 <;> cases b4 <;> cases b1 <;> simp) with rfl | ⟨rfl, rfl, rfl⟩ | ⟨rfl, rfl⟩ | ⟨rfl, rfl, rfl⟩
      iterate 2
        · go_enter Try.func41, Try.ntmps41
          go_wp2_with fail
          all_goals
            go_ret
            exact ⟨by rw [HD.out, HO.out, Bool.and_comm]; rfl, (Below.refl w.heap.size w).alloc (Nat.le_refl _) _⟩
      all_goals
        rcases pe2_cases p with ⟨hp, g1⟩ | ⟨hp, g1, g2⟩ | ⟨hp, g1, g2⟩
        all_goals
          have HP := Lib.hid hp
          have HN := Lib.hid g1
          clear hp g1
          go_enter Try.func41, Try.ntmps41
          go_wp2_with fail
          refine (ref_node _ _).mono ?_
          rintro r w' ⟨rfl, rfl⟩
          rw [HN.out]
          go_wp2_with fail
          go_ret
          exact ⟨by rw [HD.out, HI.out, HP.out, HO.out]; rfl, (Below.refl w.heap.size w).alloc (Nat.le_refl _) _⟩
    · have HO : Hid (opB o = false) := Lib.hid (by simp [opB]; omega)
      by_cases g0 : o < 1
      · clear hr
        go_enter Try.func41, Try.ntmps41
        go_wp2_with fail
        all_goals
          go_ret
          exact ⟨by rw [HD.out, HO.out, Bool.and_false]; rfl, (Below.refl w.heap.size w).alloc (Nat.le_refl _) _⟩
      · have g1 : 1 ≤ o := by omega
        have g2 : decide (o ≤ 15) = false := by simp; omega
        clear hr g0
        go_enter Try.func41, Try.ntmps41
        go_wp2_with fail
        all_goals
          go_ret
          exact ⟨by rw [HD.out, HO.out, Bool.and_false]; rfl, (Below.refl w.heap.size w).alloc (Nat.le_refl _) _⟩
  all_goals
    have HI := Lib.hid hi
    clear hi
    go_enter Try.func41, Try.ntmps41
    go_wp2_with fail
    all_goals
      go_ret
      exact ⟨by rw [HD.out, HI.out, Bool.false_and, Bool.false_and]; rfl, (Below.refl w.heap.size w).alloc (Nat.le_refl _) _⟩
end Go.Proofs.Ytdpkiolngglpaaa.Cl
