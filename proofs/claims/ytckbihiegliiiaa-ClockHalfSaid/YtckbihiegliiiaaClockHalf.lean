/-
  Law ClockHalf: for every two numbers a clock at half the speed is half as far, down, and at no speed it stays; the call returns true. No condition.
-/
import Derived.Test.YtckbihiegliiiaaClockLaws
set_option maxRecDepth 100000
namespace Go.Proofs.Ytckbihiegliiiaa.ClockHalf
open Go.RowKit Go.ChangeShapes Go.WideShapes Go.ChangeAt Go.Deep Lb Ck
set_option linter.unusedVariables false
theorem own : ownKnob Try.prog.godebug = none := by kernel_rfl
theorem laidOut : laidOutB Try.prog = true := by kernel_rfl

set_option maxHeartbeats 2000000 in
theorem body (f m : Int) (w : World) : Calls Try.prog 8 #[.int .i64 f, .int .i64 m] w fun e w' => e = .returned (.bool true) ∧ Below w.heap.size w w' := by
  have hf := u64_pos f
  have hg := u64_pos m
  have hP0 : 0 ≤ IntKind.u64.wrap f % 51 := by omega
  have hP1 : IntKind.u64.wrap f % 51 ≤ 50 := by omega
  have hN0 : 0 ≤ IntKind.u64.wrap m % 300 := by omega
  have hN1 : IntKind.u64.wrap m % 300 ≤ 299 := by omega
  go_enter Try.func8, Try.ntmps8
  go_wp2_with fail
  refine (new_any _).mono ?_
  rintro r w1 ⟨rfl, k1, b1, z1⟩
  go_wp2_with fail
  refine (new_any _).mono ?_
  rintro r w2 ⟨rfl, k2, b2, z2⟩
  go_wp2_with fail
  refine (new_any _).mono ?_
  rintro r w3 ⟨rfl, k3, b3, z3⟩
  have k1' := below_own b2 k1 z1
  have hb2 := b1.trans (b2.mono (Nat.le_of_lt z1))
  have k1'' := below_own b3 k1' (by omega)
  have k2' := below_own b3 k2 z2
  have hb3 := hb2.trans (b3.mono (by omega))
  obtain ⟨g, hg⟩ : ∃ g, g = w1.heap.size := ⟨_, rfl⟩
  obtain ⟨q, hq⟩ : ∃ q, q = w2.heap.size := ⟨_, rfl⟩
  rw [← hg] at k2' z1 z2 ⊢
  rw [← hq] at k3 z2 z3 ⊢
  clear hg hq k1 k1' k2 b1 b2 b3 hb2
  generalize IntKind.u64.wrap f % 51 = P at *
  generalize IntKind.u64.wrap m % 300 = N at *
  have hl := Lib.hid (lim_in (2 * P) 100 (by omega) (by omega))
  have hl' := Lib.hid (lim_in P 100 (by omega) (by omega))
  go_wp2_with fail
  go_loopw [22] (fun i wr => ∃ (k : Nat) (Q : Int), i = .int .i64 k ∧ (k : Int) ≤ N ∧ Hid (Q = P * k) ∧ 0 ≤ Q ∧ Q ≤ 50 * (k : Int) ∧
      Clk wr w.heap.size 0 (2 * Q * 10000) k ∧ Clk wr g 0 (Q * 10000) k ∧ Clk wr q 0 0 k ∧ Below w.heap.size w wr ∧ q < wr.heap.size) (fun i _ => (N - intOf i).toNat)
  case atStart => exact ⟨0, 0, rfl, by omega, Lib.hid (by simp), by omega, by omega, k1'', k2', k3, hb3, z3⟩
  case round =>
    obtain ⟨k, Q, rfl, hk, HQ, hQ0, hQ1, ka, kb, kc, bb, zz⟩ := hrel
    by_cases hlt : (k : Int) < N
    · go_wp2_with fail
      refine (slot_any _ _ _ _ _ _ ka (by omega) (by omega) (by omega) (by omega)).mono ?_
      rintro r w4 ⟨rfl, a4, j4⟩
      rw [hl.out, show 2 * Q * 10000 + 2 * P * 10000 = 2 * (Q + P) * 10000 from by omega] at a4
      have q4 := j4.own kb (by omega)
      have c4 := j4.own kc (by omega)
      have b4 := j4.below bb (Nat.le_refl _) (by omega)
      have z4 := Nat.lt_of_lt_of_le zz j4.size
      go_wp2_with fail
      refine (slot_any _ _ _ _ _ _ q4 (by omega) (by omega) (by omega) (by omega)).mono ?_
      rintro r w5 ⟨rfl, q5, j5⟩
      rw [hl'.out, show Q * 10000 + P * 10000 = (Q + P) * 10000 from by omega] at q5
      have a5 := j5.own a4 (by omega)
      have c5 := j5.own c4 (by omega)
      have b5 := j5.below b4 (by omega) (by omega)
      have z5 := Nat.lt_of_lt_of_le z4 j5.size
      go_wp2_with fail
      refine (slot_any _ _ _ _ _ _ c5 (by omega) (by omega) (by omega) (by omega)).mono ?_
      rintro r w6 ⟨rfl, c6, j6⟩
      replace c6 : Clk w6 q 0 0 (k + 1) := c6
      have a6 := j6.own a5 (by omega)
      have q6 := j6.own q5 (by omega)
      have b6 := j6.below b5 (by omega) (by omega)
      have z6 := Nat.lt_of_lt_of_le z5 j6.size
      have HQ' : Hid (Q + P = P * ((k + 1 : Nat) : Int)) := Lib.hid (by rw [HQ.out, Int.natCast_add, Int.mul_add]; simp)
      go_wp2_with fail
      exact ⟨⟨k + 1, Q + P, by go_num, by omega, HQ', by omega, by omega, a6, q6, c6, b6, z6⟩, by simp [intOf]; omega⟩
    · have hkn : (k : Int) = N := by omega
      have HQ2 : Hid (Q = P * N) := Lib.hid (by rw [HQ.out, hkn])
      have n0 : 2 * P * N ≤ 2 * Q := by rw [HQ2.out, Int.mul_assoc]; exact Int.le_refl _
      have n1 : 2 * Q ≤ 2 * P * N := by rw [HQ2.out, Int.mul_assoc]; exact Int.le_refl _
      clear HQ HQ2 hkn
      have hx := Lib.hid (show off 0 (2 * Q * 10000) = 2 * P * N / 100 from by unfold off; omega)
      have hy := Lib.hid (show off 0 (Q * 10000) = Q / 100 from by unfold off; omega)
      have hz := Lib.hid (show off 0 0 = 0 from rfl)
      go_wp2_with fail
      refine (off_any _ _ _ _ _ ka (by omega) (by omega) (by omega) (by omega)).mono ?_
      rintro r w' ⟨rfl, m1, rfl⟩
      rw [hx.out]
      go_wp2_with fail
      refine (off_any _ _ _ _ _ (Own.drewN kb m1) (by omega) (by omega) (by omega) (by omega)).mono ?_
      rintro r w' ⟨rfl, m2, rfl⟩
      rw [hy.out]
      go_wp2_with fail
      refine (off_any _ _ _ _ _ (Own.drewN kc (m1 + m2)) (by omega) (by omega) (by omega) (by omega)).mono ?_
      rintro r w' ⟨rfl, m3, rfl⟩
      rw [hz.out]
      go_wp2_with fail
      all_goals
        refine (awake_behind (below_drewN bb (m1 + m2 + m3))).mono ?_
        rintro r w9 ⟨rfl, b9⟩
        go_wp2_with fail
        go_ret
        exact ⟨rfl, b9⟩

theorem walk (H : Type) (enc : TypeId × Value → H) : Walk H enc Try.prog 8 Try.f8 := by
  intro W base args ds p hval hA
  rw [Try.params8] at hA hval
  obtain ⟨v0, v1, d0, d1, p0, p1, rfl, rfl, rfl, h0, h1⟩ := trodAll_two hA
  obtain ⟨f, rfl, rfl, rfl, w0⟩ := open_int Try.underlying3 (hval 0 _ v0 rfl rfl) h0
  obtain ⟨m, rfl, rfl, rfl, w1⟩ := open_int Try.underlying3 (hval 1 _ v1 rfl rfl) h1
  exact body f m W

set_option maxRecDepth 100000 in
theorem lifted (os : Os) (started : os.Started) (H : Type) (enc : TypeId × Value → H) :
    ReturnsInHanded {} Try.checked os 8 .any (Rows.clockHalfSpec.pre6 enc Try.prog Try.f8 Rows.clockHalfRow.domain false) (Rows.clockHalfSpec.post enc Try.prog Try.f8 false true false false) :=
  returnsInHanded_of_change (C := Try.checked) own started (by kernel_rfl) Try.func8
    (ChangeSpec.witness6 (enc := enc) (C := Try.checked) false ⟨#[], #[.int .i64 0, .int .i64 0], []⟩ 8 (by kernel_rfl) (by kernel_rfl) (by kernel_rfl) (by kernel_rfl))
    fun W base args ds gs before hval hW _ _ => step_of_walk laidOut (by rw [Try.params8]; exact of_decide_eq_true (by kernel_rfl)) (by kernel_rfl) Try.underlying4 rfl
      (fun ds h => by
        rw [Try.params8] at h
        match ds, h with
        | [_, _], _ => rfl) (walk H enc) W base args ds gs before hval hW

theorem holds : Rows.ClockHalfSaid :=
  OpenClaim.holds_of_wide 8 Try.f8 rfl rfl rfl rfl rfl rfl rfl ⟨rfl, rfl, rfl, rfl, rfl⟩ rfl rfl rfl rfl rfl (by kernel_rfl) Try.func8 (by kernel_rfl)
    (of_decide_eq_true (by kernel_rfl)) (by unfold Func.isWrapper; first | (rw [if_pos (by decide +kernel)]; kernel_rfl) | (rw [if_neg (by decide +kernel)]; exact ⟨rfl, rfl⟩))
    (fun os started H enc _ => lifted os started H enc)
#print axioms holds
end Go.Proofs.Ytckbihiegliiiaa.ClockHalf
