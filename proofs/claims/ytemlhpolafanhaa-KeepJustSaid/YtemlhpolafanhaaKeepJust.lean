/-
  Law KeepJust: for every two numbers a keeper is due just as long as nothing was heard for so long; the call returns true. No condition.
-/
import Derived.Test.YtemlhpolafanhaaKeepWalks
namespace Go.Proofs.Ytemlhpolafanhaa.KeepJust
open Go.RowKit Go.ChangeShapes Go.WideShapes Go.ChangeAt Go.Deep Lb Kp
set_option linter.unusedVariables false
theorem own : ownKnob Try.prog.godebug = none := by kernel_rfl
theorem laidOut : laidOutB Try.prog = true := by kernel_rfl

set_option maxHeartbeats 400000 in
theorem body (e n : Int) (w : World) : Calls Try.prog 5 #[.int .i64 e, .int .i64 n] w fun e w' => e = .returned (.bool true) ∧ Below w.heap.size w w' := by
  have hu := u64_pos n
  have he := u64_pos e
  go_enter Try.func5, Try.ntmps5
  go_wp2_with fail
  refine (new_any _ _).mono ?_
  rintro r w1 ⟨rfl, k1, b1, z1⟩
  rw [show min (max (1 + IntKind.u64.wrap e % 100) 1) 10000 = 1 + IntKind.u64.wrap e % 100 from by omega] at k1
  go_wp2_with fail
  go_loopw [19] (fun i wr => ∃ k : Nat, i = .int .i64 k ∧ (k : Int) ≤ IntKind.u64.wrap n % 250 ∧ Kee wr w.heap.size (1 + IntKind.u64.wrap e % 100) k ∧ Below w.heap.size w wr ∧ w.heap.size < wr.heap.size) (fun i _ => (IntKind.u64.wrap n % 250 - intOf i).toNat)
  case atStart => exact ⟨0, rfl, by omega, k1, b1, z1⟩
  case round =>
    obtain ⟨k, rfl, hk, kk, bb, zz⟩ := hrel
    by_cases hlt : (k : Int) < IntKind.u64.wrap n % 250
    · go_wp2_with fail
      refine (slot_any _ _ _ _ kk (by omega) (by omega)).mono ?_
      rintro r w2 ⟨rfl, k2, j2⟩
      have b2 := j2.below bb (Nat.le_refl _) (Nat.le_of_lt zz)
      have z2 := Nat.lt_of_lt_of_le zz j2.size
      rw [show min ((k : Int) + 1) 1000000 = (k : Int) + 1 from by omega] at k2
      go_wp2_with fail
      refine (due_any _ _ _ _ k2).mono ?_
      rintro r w' ⟨rfl, m, rfl⟩
      go_wp2_with fail
      go_roundw
      case rel => exact ⟨k + 1, by go_num, by omega, Own.drewN k2 m, below_drewN b2 m, z2⟩
      case measure => simp [intOf]; omega
    · go_wp2_with fail
      refine (heard_any _ _ _ _ kk).mono ?_
      rintro r w2 ⟨rfl, k2, j2⟩
      have b2 := j2.below bb (Nat.le_refl _) (Nat.le_of_lt zz)
      have hd : decide (1 + IntKind.u64.wrap e % 100 ≤ 0) = false := by simp; omega
      go_wp2_with fail
      refine (due_any _ _ _ _ k2).mono ?_
      rintro r w' ⟨rfl, m, rfl⟩
      go_wp2_with fail
      refine (since_any _ _ _ _ (Own.drewN k2 m)).mono ?_
      rintro r w' ⟨rfl, rfl⟩
      go_wp2_with fail
      refine (awake_any _).mono ?_
      rintro r w3 ⟨rfl, b3⟩
      go_wp2_with fail
      go_ret
      exact ⟨rfl, (below_drewN b2 m).trans (b3.mono (by simpa using b2.size))⟩

theorem walk (H : Type) (enc : TypeId × Value → H) : Walk H enc Try.prog 5 Try.f5 := by
  intro W base args ds p hval hA
  rw [Try.params5] at hA hval
  obtain ⟨v0, v1, d0, d1, p0, p1, rfl, rfl, rfl, h0, h1⟩ := trodAll_two hA
  obtain ⟨e, rfl, rfl, rfl, w0⟩ := open_int Try.underlying3 (hval 0 _ v0 rfl rfl) h0
  obtain ⟨n, rfl, rfl, rfl, w1⟩ := open_int Try.underlying3 (hval 1 _ v1 rfl rfl) h1
  exact body e n W

set_option maxRecDepth 100000 in
theorem lifted (os : Os) (started : os.Started) (H : Type) (enc : TypeId × Value → H) :
    ReturnsInHanded {} Try.checked os 5 .any (Rows.keepJustSpec.pre6 enc Try.prog Try.f5 Rows.keepJustRow.domain false) (Rows.keepJustSpec.post enc Try.prog Try.f5 false true false false) :=
  returnsInHanded_of_change (C := Try.checked) own started (by kernel_rfl) Try.func5
    (ChangeSpec.witness6 (enc := enc) (C := Try.checked) false ⟨#[], #[.int .i64 0, .int .i64 0], []⟩ 8 (by kernel_rfl) (by kernel_rfl) (by kernel_rfl) (by kernel_rfl))
    fun W base args ds gs before hval hW _ _ => step_of_walk laidOut (by rw [Try.params5]; exact of_decide_eq_true (by kernel_rfl)) (by kernel_rfl) Try.underlying4 rfl
      (fun ds h => by
        rw [Try.params5] at h
        match ds, h with
        | [_, _], _ => rfl) (walk H enc) W base args ds gs before hval hW

theorem holds : Rows.KeepJustSaid :=
  OpenClaim.holds_of_wide 5 Try.f5 rfl rfl rfl rfl rfl rfl rfl ⟨rfl, rfl, rfl, rfl, rfl⟩ rfl rfl rfl rfl rfl (by kernel_rfl) Try.func5 (by kernel_rfl)
    (of_decide_eq_true (by kernel_rfl)) (by unfold Func.isWrapper; first | (rw [if_pos (by decide +kernel)]; kernel_rfl) | (rw [if_neg (by decide +kernel)]; exact ⟨rfl, rfl⟩))
    (fun os started H enc _ => lifted os started H enc)
#print axioms holds
end Go.Proofs.Ytemlhpolafanhaa.KeepJust
