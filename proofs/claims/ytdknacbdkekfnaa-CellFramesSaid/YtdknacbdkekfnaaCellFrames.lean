/-
  Law CellFrames: a slotframe does not become shorter than a cell of it needs; the call returns true. No condition.
-/
import Derived.Test.YtdknacbdkekfnaaCeLaw
import Derived.Deep.Strs
set_option maxRecDepth 100000
namespace Go.Proofs.Ytdknacbdkekfnaa.CellFrames
set_option linter.unusedVariables false
open Go.RowKit Go.ChangeShapes Go.WideShapes Go.ChangeAt Go.Deep Lb Cl Ce
set_option linter.unusedVariables false
theorem own : ownKnob Try.prog.godebug = none := by kernel_rfl
theorem laidOut : laidOutB Try.prog = true := by kernel_rfl
set_option maxHeartbeats 1000000 in
theorem body (c : C) (n : Int) (w : World) :
    Calls Try.prog 8 #[.agg #[.int .i64 c.f, .int .i64 c.s, .int .i64 c.c, .int .i64 c.o, .int .i64 c.p], .int .i64 n] w fun r w' => r = .returned (.bool true) ∧ Below w.heap.size w w' := by
  have o0 : Own (w.alloc (.cells #[.int .i64 c.f, .int .i64 c.s, .int .i64 c.c, .int .i64 c.o, .int .i64 c.p] 31)) w.heap.size 31 c.vals := Own.new w _ _
  have b0 := (Below.refl w.heap.size w).alloc (Nat.le_refl _) (.cells #[.int .i64 c.f, .int .i64 c.s, .int .i64 c.c, .int .i64 c.o, .int .i64 c.p] 31)
  have hmay := fun w => may_any c.f c.s c.c c.o c.p w
  have hz0 : w.heap.size < (w.alloc (.cells #[.int .i64 c.f, .int .i64 c.s, .int .i64 c.c, .int .i64 c.o, .int .i64 c.p] 31)).heap.size := by simp
  cases hm : c.may
  · have hm' : mayC c.f c.s c.c c.o c.p = false := hm
    rw [hm'] at hmay
    clear hm hm'
    go_enter Try.func8, Try.ntmps8
    go_wp2_with fail
    generalize w.alloc (.cells #[.int .i64 c.f, .int .i64 c.s, .int .i64 c.c, .int .i64 c.o, .int .i64 c.p] 31) = w1 at *
    obtain ⟨d0, d1, d2, d3, d4⟩ := own_c o0
    go_wp2_with fail
    refine (hmay _).mono ?_
    rintro r w2 ⟨rfl, b2⟩
    have b2 := b0.trans (b2.mono b0.size)
    go_wp2_with fail
    refine (awake_any _).mono ?_
    rintro r w3 ⟨rfl, b3⟩
    go_wp2_with fail
    go_ret
    exact ⟨rfl, b2.trans (b3.mono b2.size)⟩
  · have hm' : mayC c.f c.s c.c c.o c.p = true := hm
    rw [hm'] at hmay
    obtain ⟨f0, f1, s0, s1⟩ := may_in hm
    obtain ⟨m, hmz⟩ : ∃ m : Int, (n % 18446744073709551616) % 201 = m := ⟨_, rfl⟩
    have hm0 : 0 ≤ m := by omega
    have hm1 : m ≤ 200 := by omega
    have q1 : wrap64 ((IntKind.u64.wrap n).tmod 201) = m := by
      rw [IntKind.wrap_u64, Int.tmod_eq_emod_of_nonneg (Int.emod_nonneg _ (by decide)), hmz, IntWalk.wrap64_in _ ⟨by omega, by omega⟩]
    have hE1 : frE [] c.f 200 = 0 := fr_empty f0 f1 (by decide) (by decide)
    have HE1 := Lib.hid hE1
    obtain ⟨N1, hN1⟩ : ∃ N1, frN (fun _ => 0) [] c.f 200 = N1 := ⟨_, rfl⟩
    have h200 : N1 c.f.toNat = 200 := by rw [← hN1]; exact frN_at hE1
    have hE2 : addE N1 [] c = 0 := by rw [add_first hm, h200, if_neg (by omega)]
    have hL2 := addL_first hE2
    have hE3 := fr_one (c := c) (n := m) f0 f1 hm0 hm1
    have HE2 := Lib.hid hE2
    have HN1 := Lib.hid hN1
    have HL2 := Lib.hid hL2
    have HE3 := Lib.hid hE3
    have H200 := Lib.hid h200
    have HLN := fun N => Lib.hid (lenOf_in (N := N) f0 f1)
    clear hmz hE1 hN1 h200 hE2 hL2 hE3 hm hm'
    go_enter Try.func8, Try.ntmps8
    go_wp2_with fail
    generalize w.alloc (.cells #[.int .i64 c.f, .int .i64 c.s, .int .i64 c.c, .int .i64 c.o, .int .i64 c.p] 31) = w1 at *
    obtain ⟨d0, d1, d2, d3, d4⟩ := own_c o0
    go_wp2_with fail
    refine (hmay _).mono ?_
    rintro r w2 ⟨rfl, b2⟩
    have o2 := below_own b2 o0 o0.lt
    have b2 := b0.trans (b2.mono b0.size)
    clear d0 d1 d2 d3 d4 hmay
    go_wp2_with fail
    refine (new_any _).mono ?_
    rintro r w3 ⟨rfl, t3, b3⟩
    obtain ⟨B, hB⟩ : ∃ B, w2.heap.size = B := ⟨_, rfl⟩
    have o3 := below_own b3 o2 o2.lt
    have hlB : w.heap.size < B := by rw [← hB]; exact o2.lt
    have b3 := b2.trans (b3.mono b2.size)
    rw [hB] at t3 ⊢
    clear hB o2 o0
    obtain ⟨d0, d1, d2, d3, d4⟩ := own_c o3
    go_wp2_with fail
    refine (frm_any B B (fun _ => 0) [] _ c.f 200 _ t3).mono ?_
    rintro r w4 ⟨rfl, t4, j4⟩
    have k4 := j4.old t3
    have o4 := below_own k4 o3 hlB
    have b4 := b3.trans (k4.mono (Nat.le_of_lt hlB))
    rw [HE1.out]
    rw [HN1.out] at t4
    clear d0 d1 d2 d3 d4 o3 t3 j4 k4
    obtain ⟨d0, d1, d2, d3, d4⟩ := own_c o4
    go_wp2_with fail
    refine (add_any B B N1 [] _ c _ t4).mono ?_
    rintro r w5 ⟨rfl, v5, t5, j5⟩
    have k5 := j5.old t4
    have o5 := below_own k5 o4 hlB
    have b5 := b4.trans (k5.mono (Nat.le_of_lt hlB))
    rw [HE2.out]
    rw [HL2.out] at t5
    clear d0 d1 d2 d3 d4 o4 t4 j5 k5
    obtain ⟨d0, d1, d2, d3, d4⟩ := own_c o5
    go_wp2_with fail
    refine (frm_any B B N1 [c] v5 c.f m _ t5).mono ?_
    rintro r w6 ⟨rfl, t6, j6⟩
    have k6 := j6.old t5
    have o6 := below_own k6 o5 hlB
    have b6 := b5.trans (k6.mono (Nat.le_of_lt hlB))
    rw [HE3.out]
    clear d0 d1 d2 d3 d4 o5 t5 j6 k6
    obtain ⟨d0, d1, d2, d3, d4⟩ := own_c o6
    by_cases hs : m ≤ c.s
    · have hN : frN N1 [c] c.f m = N1 := frN_no (by rw [HE3.out, if_pos hs]; decide)
      rw [hN] at t6
      rw [if_pos hs]
      have hLen : lenOf N1 c.f = 200 := by rw [(HLN N1).out, H200.out]
      have HLen := Lib.hid hLen
      have gs : decide (c.s < m) = false := by simp; omega
      clear hN hLen
      go_wp2_with fail
      refine (len_any B B N1 [c] v5 c.f _ t6).mono ?_
      rintro r w' ⟨rfl, rfl⟩
      rw [HLen.out]
      go_wp2_with fail
      refine (all_any B B N1 [c] v5 _ t6).mono ?_
      rintro r w7 ⟨v7, rfl, m7, b7⟩
      obtain ⟨A7, c7, rfl, hc7, hd7, hR7⟩ := m7.row
      have b7 := b6.trans (b7.mono b6.size)
      clear m7 hR7
      go_wp2_with fail
      refine (awake_any _).mono ?_
      rintro r w9 ⟨rfl, b9⟩
      go_wp2_with fail
      go_ret
      exact ⟨rfl, b7.trans (b9.mono b7.size)⟩
    · obtain ⟨N2, hN2⟩ : ∃ N2, frN N1 [c] c.f m = N2 := ⟨_, rfl⟩
      have hLen : lenOf N2 c.f = m := by rw [(HLN N2).out, ← hN2]; exact frN_at (by rw [HE3.out, if_neg hs])
      rw [hN2] at t6
      rw [if_neg hs]
      have HLen := Lib.hid hLen
      have gs : c.s < m := by omega
      clear hN2 hLen hs
      go_wp2_with fail
      refine (len_any B B N2 [c] v5 c.f _ t6).mono ?_
      rintro r w' ⟨rfl, rfl⟩
      rw [HLen.out]
      go_wp2_with fail
      refine (all_any B B N2 [c] v5 _ t6).mono ?_
      rintro r w7 ⟨v7, rfl, m7, b7⟩
      obtain ⟨A7, c7, rfl, hc7, hd7, hR7⟩ := m7.row
      have b7 := b6.trans (b7.mono b6.size)
      clear m7 hR7
      go_wp2_with fail
      refine (awake_any _).mono ?_
      rintro r w9 ⟨rfl, b9⟩
      go_wp2_with fail
      go_ret
      exact ⟨rfl, b7.trans (b9.mono b7.size)⟩

theorem walk (H : Type) (enc : TypeId × Value → H) : Walk H enc Try.prog 8 Try.f8 := by
  intro W base args ds p hval hA
  rw [Try.params8] at hA hval
  obtain ⟨v0, v1, d0, d1, p0, p1, rfl, rfl, rfl, h0, h1⟩ := trodAll_two hA
  have hX : Try.prog.cellsOf 31 = 5 := by kernel_rfl
  have hI : Try.prog.cellsOf 3 = 1 := by kernel_rfl
  obtain ⟨t, rfl, rfl, rfl, _⟩ := open_int Try.underlying3 (hval 1 _ v1 rfl rfl) h1
  obtain ⟨cs, rfl, hsz⟩ := okWide_struct Try.underlying31 (hval 0 _ v0 rfl rfl)
  rw [hX] at hsz
  obtain ⟨l⟩ := cs
  match l, hsz with
  | [x0, x1, x2, x3, x4], _ =>
  obtain ⟨fuel, hf⟩ := h0
  obtain ⟨xs, k, _, _, _, hlen, hfs⟩ := DataW.trod_struct Try.underlying31 hf
  match xs, hlen with
  | [z0, z1, z2, z3, z4], _ =>
  obtain ⟨q0, f0, _⟩ := DataW.trod_int Try.underlying3 (hfs 0 _ rfl)
  obtain ⟨q1, f1, _⟩ := DataW.trod_int Try.underlying3 (hfs 1 _ rfl)
  obtain ⟨q2, f2, _⟩ := DataW.trod_int Try.underlying3 (hfs 2 _ rfl)
  obtain ⟨q3, f3, _⟩ := DataW.trod_int Try.underlying3 (hfs 3 _ rfl)
  obtain ⟨q4, f4, _⟩ := DataW.trod_int Try.underlying3 (hfs 4 _ rfl)
  simp [Value.cells, hI] at f0 f1 f2 f3 f4
  subst f0 f1 f2 f3 f4
  exact body ⟨q0, q1, q2, q3, q4⟩ t W

set_option maxRecDepth 100000 in
theorem lifted (os : Os) (started : os.Started) (H : Type) (enc : TypeId × Value → H) :
    ReturnsInHanded {} Try.checked os 8 .any (Rows.cellFramesSpec.pre6 enc Try.prog Try.f8 Rows.cellFramesRow.domain false) (Rows.cellFramesSpec.post enc Try.prog Try.f8 false true false false) :=
  returnsInHanded_of_change (C := Try.checked) own started (by kernel_rfl) Try.func8
    (ChangeSpec.witness6 (enc := enc) (C := Try.checked) false ⟨#[], #[.agg #[.int .i64 0, .int .i64 0, .int .i64 0, .int .i64 0, .int .i64 0], .int .i64 0], []⟩ 8 (by kernel_rfl) (by kernel_rfl) (by kernel_rfl) (by kernel_rfl))
    fun W base args ds gs before hval hW _ _ => step_of_walk laidOut (by rw [Try.params8]; exact of_decide_eq_true (by kernel_rfl)) (by kernel_rfl) Try.underlying4 rfl
      (fun ds h => by
        rw [Try.params8] at h
        match ds, h with
        | [_, _], _ => rfl) (walk H enc) W base args ds gs before hval hW

theorem holds : Rows.CellFramesSaid :=
  OpenClaim.holds_of_wide 8 Try.f8 rfl rfl rfl rfl rfl rfl rfl ⟨rfl, rfl, rfl, rfl, rfl⟩ rfl rfl rfl rfl rfl (by kernel_rfl) Try.func8 (by kernel_rfl)
    (of_decide_eq_true (by kernel_rfl)) (by unfold Func.isWrapper; first | (rw [if_pos (by decide +kernel)]; kernel_rfl) | (rw [if_neg (by decide +kernel)]; exact ⟨rfl, rfl⟩))
    (fun os started H enc _ => lifted os started H enc)
#print axioms holds
end Go.Proofs.Ytdknacbdkekfnaa.CellFrames
