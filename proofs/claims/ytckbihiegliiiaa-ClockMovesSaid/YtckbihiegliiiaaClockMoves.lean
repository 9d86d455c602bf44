/-
  Law ClockMoves: for every row of speeds and every number what a clock is moved by adds up, whatever it drifts between, and to be put anew forgets all; the call returns true. No condition.
-/
import Derived.Test.YtckbihiegliiiaaClockLaws
set_option maxRecDepth 100000
namespace Go.Proofs.Ytckbihiegliiiaa.ClockMoves
open Go.RowKit Go.ChangeShapes Go.WideShapes Go.ChangeAt Go.Deep Lb Ck
set_option linter.unusedVariables false
theorem own : ownKnob Try.prog.godebug = none := by kernel_rfl
theorem laidOut : laidOutB Try.prog = true := by kernel_rfl

theorem off_more (S m D : Int) : off (S + m) D = off 0 D + (S + m) := by unfold off; omega

set_option maxHeartbeats 2000000 in
theorem body (a : Option Addr) (n c : Nat) (Z : Nat → Int) (f : Int) (w : World) (hn : n ≤ c) (hm : c ≤ maxLen) (hZ : Row w a n (fun i => .int .i64 (Z i))) :
    Calls Try.prog 6 #[.slice a n c, .int .i64 f] w fun e w' => e = .returned (.bool true) ∧ Below w.heap.size w w' := by
  unfold maxLen at hm
  obtain ⟨f1, f2⟩ := tmod_bd f 1000000 (by omega)
  have hl := Lib.hid (lim_in (f.tmod 1000000) 1000000000000 (by omega) (by omega))
  have ho : off (f.tmod 1000000) 0 = f.tmod 1000000 := by unfold off; simp
  have HO := Lib.hid ho
  clear ho
  go_enter Try.func6, Try.ntmps6
  go_wp2_with fail
  refine (new_any _).mono ?_
  rintro r w1 ⟨rfl, k1, b1, z1⟩
  go_wp2_with fail
  refine (new_any _).mono ?_
  rintro r w2 ⟨rfl, k2, b2, z2⟩
  have k1' := below_own b2 k1 z1
  have hb2 := b1.trans (b2.mono (Nat.le_of_lt z1))
  obtain ⟨g, hg⟩ : ∃ g, g = w1.heap.size := ⟨_, rfl⟩
  rw [← hg] at k2 z1 z2 ⊢
  clear hg k1 b1 b2
  go_wp2_with fail
  go_loopw [7, 15] (fun u i wr => ∃ (k : Nat) (S D : Int), u = .int .i64 S ∧ i = .int .i64 k ∧ k ≤ n ∧ k ≤ 300 ∧ -999 * (k : Int) ≤ S ∧ S ≤ 999 * (k : Int) ∧ -1000000 * (k : Int) ≤ D ∧ D ≤ 1000000 * (k : Int) ∧ Clk wr w.heap.size S D k ∧ Clk wr g 0 D k ∧ Below w.heap.size w wr ∧ g < wr.heap.size) (fun _ i _ => n - (intOf i).toNat)
  case atStart => exact ⟨0, 0, 0, rfl, rfl, by omega, by omega, by omega, by omega, by omega, by omega, k1', k2, hb2, z2⟩
  case round =>
    obtain ⟨k, S, D, rfl, rfl, hk, hk3, hS0, hS1, hD0, hD1, kk, rr, bb, zz⟩ := hrel
    by_cases hlt : k < n ∧ k < 300
    · obtain ⟨hlt, h300⟩ := hlt
      obtain ⟨b, o, rfl, hb, hc⟩ := hZ.at_old bb hlt
      have l0 := lim_low (Z k) 100 (by omega)
      have l1 := lim_high (Z k) 100
      obtain ⟨m1, m2⟩ := tmod_bd (Z k) 1000 (by omega)
      have hlm := Lib.hid (lim_in ((Z k).tmod 1000) 1000000 (by omega) (by omega))
      have hlp := Lib.hid (lim_in (S + (Z k).tmod 1000) 1000000000000 (by omega) (by omega))
      have hof := Lib.hid (off_more S ((Z k).tmod 1000) (D + lim (Z k) 100 * 10000))
      have q0 : -1000000 * (k : Int) - 1000000 ≤ D + lim (Z k) 100 * 10000 := by omega
      have q1 : D + lim (Z k) 100 * 10000 ≤ 1000000 * (k : Int) + 1000000 := by omega
      go_wp2_with fail
      refine (slot_any _ _ _ _ _ _ kk (by omega) (by omega) (by omega) (by omega)).mono ?_
      rintro r w3 ⟨rfl, k3, j3⟩
      have r3 := j3.own rr (by omega)
      have b3 := j3.below bb (Nat.le_refl _) (by omega)
      have z3 := Nat.lt_of_lt_of_le zz j3.size
      go_wp2_with fail
      refine (slot_any _ _ _ _ _ _ r3 (by omega) (by omega) (by omega) (by omega)).mono ?_
      rintro r w4 ⟨rfl, r4, j4⟩
      have k4 := j4.own k3 (by omega)
      have b4 := j4.below b3 (by omega) (by omega)
      have z4 := Nat.lt_of_lt_of_le z3 j4.size
      go_wp2_with fail
      refine (move_any _ _ _ _ _ _ k4 (by omega) (by omega)).mono ?_
      rintro r w5 ⟨rfl, k5, j5⟩
      rw [hlm.out, hlp.out] at k5
      have r5 := j5.own r4 (by omega)
      have b5 := j5.below b4 (Nat.le_refl _) (by omega)
      have z5 := Nat.lt_of_lt_of_le z4 j5.size
      go_wp2_with fail
      refine (off_any _ _ _ _ _ k5 (by omega) (by omega) (by omega) (by omega)).mono ?_
      rintro r w' ⟨rfl, m, rfl⟩
      rw [hof.out]
      have o0 : -2000000000 ≤ off 0 (D + lim (Z k) 100 * 10000) := by unfold off; omega
      have o1 : off 0 (D + lim (Z k) 100 * 10000) ≤ 2000000000 := by unfold off; omega
      go_wp2_with fail
      refine (off_any _ _ _ _ _ (Own.drewN r5 m) (by omega) (by omega) (by omega) (by omega)).mono ?_
      rintro r w' ⟨rfl, m', rfl⟩
      go_wp2_with fail
      exact ⟨⟨k + 1, _, _, rfl, by go_num, by omega, by omega, by omega, by omega, by omega, by omega, k5, r5, below_drewN b5 _, z5⟩, by simp [intOf]; omega⟩
    · by_cases hlt2 : k < n
      · have h300 : ¬ k < 300 := fun h => hlt ⟨hlt2, h⟩
        obtain ⟨b, o, rfl, hb, hc⟩ := hZ.at_old bb hlt2
        clear hlt
        go_wp2_with fail
        refine (put_any _ _ _ _ _ _ kk).mono ?_
        rintro r w3 ⟨rfl, k3, j3⟩
        rw [hl.out] at k3
        have b3 := j3.below bb (Nat.le_refl _) (by omega)
        go_wp2_with fail
        refine (off_any _ _ _ _ _ k3 (by omega) (by omega) (by omega) (by omega)).mono ?_
        rintro r w' ⟨rfl, m, rfl⟩
        rw [HO.out]
        go_wp2_with fail
        refine (awake_behind (below_drewN b3 m)).mono ?_
        rintro r w9 ⟨rfl, b9⟩
        go_wp2_with fail
        go_ret
        exact ⟨rfl, b9⟩
      · clear hlt
        go_wp2_with fail
        refine (put_any _ _ _ _ _ _ kk).mono ?_
        rintro r w3 ⟨rfl, k3, j3⟩
        rw [hl.out] at k3
        have b3 := j3.below bb (Nat.le_refl _) (by omega)
        go_wp2_with fail
        refine (off_any _ _ _ _ _ k3 (by omega) (by omega) (by omega) (by omega)).mono ?_
        rintro r w' ⟨rfl, m, rfl⟩
        rw [HO.out]
        go_wp2_with fail
        refine (awake_behind (below_drewN b3 m)).mono ?_
        rintro r w9 ⟨rfl, b9⟩
        go_wp2_with fail
        go_ret
        exact ⟨rfl, b9⟩

theorem walk (H : Type) (enc : TypeId × Value → H) : Walk H enc Try.prog 6 Try.f6 := by
  intro W base args ds p hval hA
  rw [Try.params6] at hA hval
  obtain ⟨v0, v1, d0, d1, p0, p1, rfl, rfl, rfl, h0, h1⟩ := trodAll_two hA
  obtain ⟨a, n, c, Z, rfl, hn, hm, hZ, hz⟩ := open_row_int Try.underlying36 Try.underlying3 (by kernel_rfl) (hval 0 _ v0 rfl rfl) h0
  obtain ⟨f, rfl, rfl, rfl, w1⟩ := open_int Try.underlying2 (hval 1 _ v1 rfl rfl) h1
  exact body a n c Z f W hn hm hZ

set_option maxRecDepth 100000 in
theorem lifted (os : Os) (started : os.Started) (H : Type) (enc : TypeId × Value → H) :
    ReturnsInHanded {} Try.checked os 6 .any (Rows.clockMovesSpec.pre6 enc Try.prog Try.f6 Rows.clockMovesRow.domain false) (Rows.clockMovesSpec.post enc Try.prog Try.f6 false true false false) :=
  returnsInHanded_of_change (C := Try.checked) own started (by kernel_rfl) Try.func6
    (ChangeSpec.witness6 (enc := enc) (C := Try.checked) false ⟨#[], #[.slice none 0 0, .int .i64 0], []⟩ 8 (by kernel_rfl) (by kernel_rfl) (by kernel_rfl) (by kernel_rfl))
    fun W base args ds gs before hval hW _ _ => step_of_walk laidOut (by rw [Try.params6]; exact of_decide_eq_true (by kernel_rfl)) (by kernel_rfl) Try.underlying4 rfl
      (fun ds h => by
        rw [Try.params6] at h
        match ds, h with
        | [_, _], _ => rfl) (walk H enc) W base args ds gs before hval hW

theorem holds : Rows.ClockMovesSaid :=
  OpenClaim.holds_of_wide 6 Try.f6 rfl rfl rfl rfl rfl rfl rfl ⟨rfl, rfl, rfl, rfl, rfl⟩ rfl rfl rfl rfl rfl (by kernel_rfl) Try.func6 (by kernel_rfl)
    (of_decide_eq_true (by kernel_rfl)) (by unfold Func.isWrapper; first | (rw [if_pos (by decide +kernel)]; kernel_rfl) | (rw [if_neg (by decide +kernel)]; exact ⟨rfl, rfl⟩))
    (fun os started H enc _ => lifted os started H enc)
#print axioms holds
end Go.Proofs.Ytckbihiegliiiaa.ClockMoves
