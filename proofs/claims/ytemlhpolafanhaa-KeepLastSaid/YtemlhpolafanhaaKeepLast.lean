/-
  Law KeepLast: whatever was ahead of it, how long it is since the last sign is all that counts; the call returns true. No condition.
-/
import Derived.Test.YtemlhpolafanhaaKeepWalks
namespace Go.Proofs.Ytemlhpolafanhaa.KeepLast
open Go.RowKit Go.ChangeShapes Go.WideShapes Go.ChangeAt Go.Deep Lb Kp
set_option linter.unusedVariables false
theorem own : ownKnob Try.prog.godebug = none := by kernel_rfl
theorem laidOut : laidOutB Try.prog = true := by kernel_rfl

set_option maxRecDepth 100000 in
set_option maxHeartbeats 1000000 in
theorem body (e : Int) (a : Option Addr) (n c : Nat) (B : Nat → Bool) (m : Int) (w : World) (hm : c ≤ maxLen) (hn : n ≤ c) (hB : Row w a n (fun i => .bool (B i))) :
    Calls Try.prog 6 #[.int .i64 e, .slice a n c, .int .i64 m] w fun e w' => e = .returned (.bool true) ∧ Below w.heap.size w w' := by
  unfold maxLen at hm
  have he := u64_pos e
  have hu := u64_pos m
  go_enter Try.func6, Try.ntmps6
  go_wp2_with fail
  refine (new_any _ _).mono ?_
  rintro r w1 ⟨rfl, k1, b1, z1⟩
  rw [show min (max (1 + IntKind.u64.wrap e % 100) 1) 10000 = 1 + IntKind.u64.wrap e % 100 from by omega] at k1
  go_wp2_with fail
  refine (new_any _ _).mono ?_
  rintro r w2 ⟨rfl, k2, b2, z2⟩
  rw [show min (max (1 + IntKind.u64.wrap e % 100) 1) 10000 = 1 + IntKind.u64.wrap e % 100 from by omega] at k2
  have k1' := below_own b2 k1 z1
  have hb2 := b1.trans (b2.mono (Nat.le_of_lt z1))
  obtain ⟨g, hg⟩ : ∃ g, g = w1.heap.size := ⟨_, rfl⟩
  rw [← hg] at k2 z1 z2 ⊢
  clear hg
  go_wp2_with fail
  go_loopw [26] (fun i wr => ∃ (k : Nat) (s : Int), i = .int .i64 k ∧ k ≤ n ∧ 0 ≤ s ∧ s ≤ 1000000 ∧ Kee wr w.heap.size (1 + IntKind.u64.wrap e % 100) s ∧ Kee wr g (1 + IntKind.u64.wrap e % 100) 0 ∧ Below w.heap.size w wr ∧ g < wr.heap.size) (fun i _ => n - (intOf i).toNat)
  case atStart => exact ⟨0, 0, rfl, by omega, by omega, by omega, k1', k2, hb2, z2⟩
  case round =>
    obtain ⟨k, s, rfl, hk, hs0, hs1, kk, rr, bb, zz⟩ := hrel
    by_cases hlt : k < n ∧ k < 200
    · obtain ⟨hlt, h200⟩ := hlt
      obtain ⟨b, off, rfl, hb, hc⟩ := hB.at_old bb hlt
      cases hbk : B k
      · rw [hbk] at hc
        clear hbk
        go_wp2_with fail
        refine (slot_any _ _ _ _ kk hs0 hs1).mono ?_
        rintro r w3 ⟨rfl, k3, j3⟩
        go_wp2_with fail
        exact ⟨⟨k + 1, min (s + 1) 1000000, by go_num, by omega, by omega, by omega, k3, j3.own rr (by omega), j3.below bb (Nat.le_refl _) (by omega), Nat.lt_of_lt_of_le zz j3.size⟩, by simp [intOf]; omega⟩
      · rw [hbk] at hc
        clear hbk
        go_wp2_with fail
        refine (heard_any _ _ _ _ kk).mono ?_
        rintro r w3 ⟨rfl, k3, j3⟩
        go_wp2_with fail
        exact ⟨⟨k + 1, 0, by go_num, by omega, by omega, by omega, k3, j3.own rr (by omega), j3.below bb (Nat.le_refl _) (by omega), Nat.lt_of_lt_of_le zz j3.size⟩, by simp [intOf]; omega⟩
    · by_cases hlt2 : k < n
      · have h200 : ¬ k < 200 := fun h => hlt ⟨hlt2, h⟩
        obtain ⟨b, off, rfl, hb, hc⟩ := hB.at_old bb hlt2
        clear hlt
        go_wp2_with fail
        refine (heard_any _ _ _ _ kk).mono ?_
        rintro r w3 ⟨rfl, k3, j3⟩
        have r3 := j3.own rr (by omega)
        have b3 := j3.below bb (Nat.le_refl _) (by omega)
        have z3 := Nat.lt_of_lt_of_le zz j3.size
        clear kk rr bb zz j3
        go_wp2_with fail
        go_loopw [42] (fun i wr => ∃ q : Nat, i = .int .i64 q ∧ (q : Int) ≤ IntKind.u64.wrap m % 200 ∧ Kee wr w.heap.size (1 + IntKind.u64.wrap e % 100) q ∧ Kee wr g (1 + IntKind.u64.wrap e % 100) q ∧ Below w.heap.size w wr ∧ g < wr.heap.size) (fun i _ => (IntKind.u64.wrap m % 200 - intOf i).toNat)
        case atStart => exact ⟨0, rfl, by omega, k3, r3, b3, z3⟩
        case round =>
          obtain ⟨q, rfl, hq, kk, rr, bb, zz⟩ := hrel
          by_cases hlq : (q : Int) < IntKind.u64.wrap m % 200
          · go_wp2_with fail
            have hq2 : (q : Int) < 1000000 := by omega
            refine (slot_up _ _ _ _ kk (by omega) hq2).mono ?_
            rintro r w4 ⟨rfl, k4, j4⟩
            have r4 := j4.own rr (by omega)
            have b4 := j4.below bb (Nat.le_refl _) (by omega)
            have z4 := Nat.lt_of_lt_of_le zz j4.size
            go_wp2_with fail
            refine (slot_up _ _ _ _ r4 (by omega) hq2).mono ?_
            rintro r w5 ⟨rfl, r5, j5⟩
            have k5 := j5.own k4 (by omega)
            have b5 := j5.below b4 (by omega) (by omega)
            have z5 := Nat.lt_of_lt_of_le z4 j5.size
            go_wp2_with fail
            exact ⟨⟨q + 1, by go_num, by omega, k5, r5, b5, z5⟩, by simp [intOf]; omega⟩
          · have hqq : (q : Int) = IntKind.u64.wrap m % 200 := by omega
            rw [hqq] at kk rr
            go_wp2_with fail
            refine (since_any _ _ _ _ kk).mono ?_
            rintro r w' ⟨rfl, rfl⟩
            go_wp2_with fail
            refine (since_any _ _ _ _ rr).mono ?_
            rintro r w' ⟨rfl, rfl⟩
            go_wp2_with fail
            refine (due_any _ _ _ _ kk).mono ?_
            rintro r w' ⟨rfl, n1, rfl⟩
            go_wp2_with fail
            refine (due_any _ _ _ _ (Own.drewN rr n1)).mono ?_
            rintro r w' ⟨rfl, n2, rfl⟩
            go_wp2_with fail
            refine (since_any _ _ _ _ (Own.drewN kk (n1 + n2))).mono ?_
            rintro r w' ⟨rfl, rfl⟩
            go_wp2_with fail
            refine (awake_any _).mono ?_
            rintro r w4 ⟨rfl, b4⟩
            go_wp2_with fail
            go_ret
            exact ⟨rfl, (below_drewN bb _).trans (b4.mono (by simpa using bb.size))⟩
      · clear hlt
        go_wp2_with fail
        refine (heard_any _ _ _ _ kk).mono ?_
        rintro r w3 ⟨rfl, k3, j3⟩
        have r3 := j3.own rr (by omega)
        have b3 := j3.below bb (Nat.le_refl _) (by omega)
        have z3 := Nat.lt_of_lt_of_le zz j3.size
        clear kk rr bb zz j3
        go_wp2_with fail
        go_loopw [42] (fun i wr => ∃ q : Nat, i = .int .i64 q ∧ (q : Int) ≤ IntKind.u64.wrap m % 200 ∧ Kee wr w.heap.size (1 + IntKind.u64.wrap e % 100) q ∧ Kee wr g (1 + IntKind.u64.wrap e % 100) q ∧ Below w.heap.size w wr ∧ g < wr.heap.size) (fun i _ => (IntKind.u64.wrap m % 200 - intOf i).toNat)
        case atStart => exact ⟨0, rfl, by omega, k3, r3, b3, z3⟩
        case round =>
          obtain ⟨q, rfl, hq, kk, rr, bb, zz⟩ := hrel
          by_cases hlq : (q : Int) < IntKind.u64.wrap m % 200
          · go_wp2_with fail
            have hq2 : (q : Int) < 1000000 := by omega
            refine (slot_up _ _ _ _ kk (by omega) hq2).mono ?_
            rintro r w4 ⟨rfl, k4, j4⟩
            have r4 := j4.own rr (by omega)
            have b4 := j4.below bb (Nat.le_refl _) (by omega)
            have z4 := Nat.lt_of_lt_of_le zz j4.size
            go_wp2_with fail
            refine (slot_up _ _ _ _ r4 (by omega) hq2).mono ?_
            rintro r w5 ⟨rfl, r5, j5⟩
            have k5 := j5.own k4 (by omega)
            have b5 := j5.below b4 (by omega) (by omega)
            have z5 := Nat.lt_of_lt_of_le z4 j5.size
            go_wp2_with fail
            exact ⟨⟨q + 1, by go_num, by omega, k5, r5, b5, z5⟩, by simp [intOf]; omega⟩
          · have hqq : (q : Int) = IntKind.u64.wrap m % 200 := by omega
            rw [hqq] at kk rr
            go_wp2_with fail
            refine (since_any _ _ _ _ kk).mono ?_
            rintro r w' ⟨rfl, rfl⟩
            go_wp2_with fail
            refine (since_any _ _ _ _ rr).mono ?_
            rintro r w' ⟨rfl, rfl⟩
            go_wp2_with fail
            refine (due_any _ _ _ _ kk).mono ?_
            rintro r w' ⟨rfl, n1, rfl⟩
            go_wp2_with fail
            refine (due_any _ _ _ _ (Own.drewN rr n1)).mono ?_
            rintro r w' ⟨rfl, n2, rfl⟩
            go_wp2_with fail
            refine (since_any _ _ _ _ (Own.drewN kk (n1 + n2))).mono ?_
            rintro r w' ⟨rfl, rfl⟩
            go_wp2_with fail
            refine (awake_any _).mono ?_
            rintro r w4 ⟨rfl, b4⟩
            go_wp2_with fail
            go_ret
            exact ⟨rfl, (below_drewN bb _).trans (b4.mono (by simpa using bb.size))⟩

theorem walk (H : Type) (enc : TypeId × Value → H) : Walk H enc Try.prog 6 Try.f6 := by
  intro W base args ds p hval hA
  rw [Try.params6] at hA hval
  obtain ⟨v0, v1, v2, d0, d1, d2, p0, p1, p2, rfl, rfl, rfl, h0, h1, h2⟩ := trodAll_three hA
  obtain ⟨e, rfl, rfl, rfl, w0⟩ := open_int Try.underlying3 (hval 0 _ v0 rfl rfl) h0
  obtain ⟨a, n, c, B, rfl, hn, hm, hB⟩ := open_row_bool Try.underlying22 Try.underlying4 (by kernel_rfl) (hval 1 _ v1 rfl rfl) h1
  obtain ⟨m, rfl, rfl, rfl, w2⟩ := open_int Try.underlying3 (hval 2 _ v2 rfl rfl) h2
  exact body e a n c B m W hm hn hB

set_option maxRecDepth 100000 in
theorem lifted (os : Os) (started : os.Started) (H : Type) (enc : TypeId × Value → H) :
    ReturnsInHanded {} Try.checked os 6 .any (Rows.keepLastSpec.pre6 enc Try.prog Try.f6 Rows.keepLastRow.domain false) (Rows.keepLastSpec.post enc Try.prog Try.f6 false true false false) :=
  returnsInHanded_of_change (C := Try.checked) own started (by kernel_rfl) Try.func6
    (ChangeSpec.witness6 (enc := enc) (C := Try.checked) false ⟨#[], #[.int .i64 0, .slice none 0 0, .int .i64 0], []⟩ 8 (by kernel_rfl) (by kernel_rfl) (by kernel_rfl) (by kernel_rfl))
    fun W base args ds gs before hval hW _ _ => step_of_walk laidOut (by rw [Try.params6]; exact of_decide_eq_true (by kernel_rfl)) (by kernel_rfl) Try.underlying4 rfl
      (fun ds h => by
        rw [Try.params6] at h
        match ds, h with
        | [_, _, _], _ => rfl) (walk H enc) W base args ds gs before hval hW

theorem holds : Rows.KeepLastSaid :=
  OpenClaim.holds_of_wide 6 Try.f6 rfl rfl rfl rfl rfl rfl rfl ⟨rfl, rfl, rfl, rfl, rfl⟩ rfl rfl rfl rfl rfl (by kernel_rfl) Try.func6 (by kernel_rfl)
    (of_decide_eq_true (by kernel_rfl)) (by unfold Func.isWrapper; first | (rw [if_pos (by decide +kernel)]; kernel_rfl) | (rw [if_neg (by decide +kernel)]; exact ⟨rfl, rfl⟩))
    (fun os started H enc _ => lifted os started H enc)
#print axioms holds
end Go.Proofs.Ytemlhpolafanhaa.KeepLast
