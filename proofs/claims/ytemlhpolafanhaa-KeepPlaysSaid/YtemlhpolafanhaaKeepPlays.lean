/-
  Law KeepPlays: for every number and every row of bools the keeper tells what the reference tells; the call returns true. No condition.
-/
import Derived.Test.YtemlhpolafanhaaKeepWalks
namespace Go.Proofs.Ytemlhpolafanhaa.KeepPlays
open Go.RowKit Go.ChangeShapes Go.WideShapes Go.ChangeAt Go.Deep Lb Kp
set_option linter.unusedVariables false
theorem own : ownKnob Try.prog.godebug = none := by kernel_rfl
theorem laidOut : laidOutB Try.prog = true := by kernel_rfl

set_option maxRecDepth 100000 in
set_option maxHeartbeats 1000000 in
theorem body (e : Int) (a : Option Addr) (n c : Nat) (B : Nat → Bool) (w : World) (hm : c ≤ maxLen) (hn : n ≤ c) (hB : Row w a n (fun i => .bool (B i))) :
    Calls Try.prog 3 #[.int .i64 e, .slice a n c] w fun e w' => e = .returned (.bool true) ∧ Below w.heap.size w w' := by
  unfold maxLen at hm
  have fin : ∀ wr, Below w.heap.size w wr → Calls Try.prog 15 #[] wr fun r w' => r = .returned (.bool true) ∧ Below w.heap.size w w' := fun wr bb =>
    (awake_any wr).mono fun r w3 ⟨h1, h2⟩ => ⟨h1, bb.trans (h2.mono bb.size)⟩
  go_enter Try.func3, Try.ntmps3
  go_wp2_with fail
  refine (new_any _ _).mono ?_
  rintro r w1 ⟨rfl, k1, b1, z1⟩
  go_wp2_with fail
  refine (rnew_any _ _).mono ?_
  rintro r w2 ⟨rfl, k2, b2, z2⟩
  have k1' := below_own b2 k1 z1
  have hb2 := b1.trans (b2.mono (Nat.le_of_lt z1))
  obtain ⟨g, hg⟩ : ∃ g, g = w1.heap.size := ⟨_, rfl⟩
  rw [← hg] at k2 z1 z2 ⊢
  clear hg
  go_wp2_with fail
  go_loopw [17] (fun i wr => ∃ (k : Nat) (s : Int), i = .int .i64 k ∧ k ≤ n ∧ 0 ≤ s ∧ s ≤ 1000000 ∧ Kee wr w.heap.size (min (max e 1) 10000) s ∧ Ref wr g (min (max e 1) 10000) s ∧ Below w.heap.size w wr ∧ g < wr.heap.size) (fun i _ => n - (intOf i).toNat)
  case atStart => exact ⟨0, 0, rfl, by omega, by omega, by omega, k1', k2, hb2, z2⟩
  case round =>
    obtain ⟨k, s, rfl, hk, hs0, hs1, kk, rr, bb, zz⟩ := hrel
    by_cases hlt : k < n
    · obtain ⟨b, off, rfl, hb, hc⟩ := hB.at_old bb hlt
      by_cases h400 : k < 400
      · cases hbk : B k
        · rw [hbk] at hc
          clear hbk
          go_wp2_with fail
          refine (slot_any _ _ _ _ kk hs0 hs1).mono ?_
          rintro r w3 ⟨rfl, k3, j3⟩
          have r3 := j3.own rr (by omega)
          have b3 := j3.below bb (Nat.le_refl _) (by omega)
          have z3 := Nat.lt_of_lt_of_le zz j3.size
          go_wp2_with fail
          refine (rslot_any _ _ _ _ r3 hs0 hs1).mono ?_
          rintro r w4 ⟨rfl, r4, j4⟩
          have k4 := j4.own k3 (by omega)
          have b4 := j4.below b3 (by omega) (by omega)
          have z4 := Nat.lt_of_lt_of_le z3 j4.size
          have r4c := Own.cell r4 1
          simp only [List.getElem?_toArray] at r4c
          go_wp2_with fail
          go_quiet ((first
            | (go_at_call 12; first | exact quiet_some (due_any _ _ _ _ (Own.drewN k4 _)) | exact quiet_some_add (due_any _ _ _ _ (Own.drewN k4 _)))
            | (go_at_call 13; first | exact quiet_some (rdue_any _ _ _ _ (Own.drewN r4 _)) | exact quiet_some_add (rdue_any _ _ _ _ (Own.drewN r4 _)))
            | (go_at_call 14; first | exact quiet_left (since_any _ _ _ _ (Own.drewN k4 _)) | exact quiet_left_add (since_any _ _ _ _ (Own.drewN k4 _)))))
          go_wp2_with fail
          exact ⟨⟨k + 1, min (s + 1) 1000000, by go_num, by omega, by omega, by omega, k4, r4, below_drewN b4 _, z4⟩, by simp [intOf]; omega⟩
        · rw [hbk] at hc
          clear hbk
          go_wp2_with fail
          refine (heard_any _ _ _ _ kk).mono ?_
          rintro r w3 ⟨rfl, k3, j3⟩
          have r3 := j3.own rr (by omega)
          have b3 := j3.below bb (Nat.le_refl _) (by omega)
          have z3 := Nat.lt_of_lt_of_le zz j3.size
          have rc : w3.cell? ⟨g, 1, none⟩ = some (.int .i64 s) := Own.cell r3 1
          have rf : w3.frozen? ⟨g, 1, none⟩ = false := Own.free r3 1
          have r4 : Ref (w3.setCell ⟨g, 1, none⟩ (.int .i64 0)) g (min (max e 1) 10000) 0 := Own.put r3 1 _
          have k4 := Own.apart k3 (p := ⟨g, 1, none⟩) (by show w.heap.size ≠ g; omega) (.int .i64 0)
          have b4 := b3.setCell (p := ⟨g, 1, none⟩) (Nat.le_of_lt z1) (.int .i64 0)
          go_wp2_with fail
          generalize w3.setCell ⟨g, 1, none⟩ (.int .i64 0) = w4 at *
          have r4c : w4.cell? ⟨g, 1, none⟩ = some (.int .i64 0) := Own.cell r4 1
          go_quiet ((first
            | (go_at_call 12; first | exact quiet_some (due_any _ _ _ _ (Own.drewN k4 _)) | exact quiet_some_add (due_any _ _ _ _ (Own.drewN k4 _)))
            | (go_at_call 13; first | exact quiet_some (rdue_any _ _ _ _ (Own.drewN r4 _)) | exact quiet_some_add (rdue_any _ _ _ _ (Own.drewN r4 _)))
            | (go_at_call 14; first | exact quiet_left (since_any _ _ _ _ (Own.drewN k4 _)) | exact quiet_left_add (since_any _ _ _ _ (Own.drewN k4 _)))))
          go_wp2_with fail
          exact ⟨⟨k + 1, 0, by go_num, by omega, by omega, by omega, k4, r4, below_drewN b4 _, by have := r4.lt; simpa using this⟩, by simp [intOf]; omega⟩
      · go_wp2_with (go_at_call 15; refine (fin _ bb).mono ?_; rintro r w3 ⟨rfl, b3⟩)
        go_ret
        exact ⟨rfl, b3⟩
    · go_wp2_with (go_at_call 15; refine (fin _ bb).mono ?_; rintro r w3 ⟨rfl, b3⟩)
      go_ret
      exact ⟨rfl, b3⟩

theorem walk (H : Type) (enc : TypeId × Value → H) : Walk H enc Try.prog 3 Try.f3 := by
  intro W base args ds p hval hA
  rw [Try.params3] at hA hval
  obtain ⟨v0, v1, d0, d1, p0, p1, rfl, rfl, rfl, h0, h1⟩ := trodAll_two hA
  obtain ⟨e, rfl, rfl, rfl, w0⟩ := open_int Try.underlying3 (hval 0 _ v0 rfl rfl) h0
  obtain ⟨a, n, c, B, rfl, hn, hm, hB⟩ := open_row_bool Try.underlying22 Try.underlying4 (by kernel_rfl) (hval 1 _ v1 rfl rfl) h1
  exact body e a n c B W hm hn hB

set_option maxRecDepth 100000 in
theorem lifted (os : Os) (started : os.Started) (H : Type) (enc : TypeId × Value → H) :
    ReturnsInHanded {} Try.checked os 3 .any (Rows.keepPlaysSpec.pre6 enc Try.prog Try.f3 Rows.keepPlaysRow.domain false) (Rows.keepPlaysSpec.post enc Try.prog Try.f3 false true false false) :=
  returnsInHanded_of_change (C := Try.checked) own started (by kernel_rfl) Try.func3
    (ChangeSpec.witness6 (enc := enc) (C := Try.checked) false ⟨#[], #[.int .i64 0, .slice none 0 0], []⟩ 8 (by kernel_rfl) (by kernel_rfl) (by kernel_rfl) (by kernel_rfl))
    fun W base args ds gs before hval hW _ _ => step_of_walk laidOut (by rw [Try.params3]; exact of_decide_eq_true (by kernel_rfl)) (by kernel_rfl) Try.underlying4 rfl
      (fun ds h => by
        rw [Try.params3] at h
        match ds, h with
        | [_, _], _ => rfl) (walk H enc) W base args ds gs before hval hW

theorem holds : Rows.KeepPlaysSaid :=
  OpenClaim.holds_of_wide 3 Try.f3 rfl rfl rfl rfl rfl rfl rfl ⟨rfl, rfl, rfl, rfl, rfl⟩ rfl rfl rfl rfl rfl (by kernel_rfl) Try.func3 (by kernel_rfl)
    (of_decide_eq_true (by kernel_rfl)) (by unfold Func.isWrapper; first | (rw [if_pos (by decide +kernel)]; kernel_rfl) | (rw [if_neg (by decide +kernel)]; exact ⟨rfl, rfl⟩))
    (fun os started H enc _ => lifted os started H enc)
#print axioms holds
end Go.Proofs.Ytemlhpolafanhaa.KeepPlays
