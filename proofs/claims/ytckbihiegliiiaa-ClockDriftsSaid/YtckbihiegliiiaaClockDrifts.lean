/-
  Law ClockDrifts: for every start and every row of speeds: in so many slots a clock goes off by no more than so many ticks, in each slot by one at most, and by just what the speeds add up to in the long run; the call returns true. No condition.
-/
import Derived.Test.YtckbihiegliiiaaClockLaws
set_option maxRecDepth 100000
namespace Go.Proofs.Ytckbihiegliiiaa.ClockDrifts
open Go.RowKit Go.ChangeShapes Go.WideShapes Go.ChangeAt Go.Deep Lb Ck
set_option linter.unusedVariables false
theorem own : ownKnob Try.prog.godebug = none := by kernel_rfl
theorem laidOut : laidOutB Try.prog = true := by kernel_rfl

set_option maxHeartbeats 2000000 in
theorem body (f : Int) (a : Option Addr) (n c : Nat) (Z : Nat → Int) (w : World) (hn : n ≤ c) (hm : c ≤ maxLen) (hZ : Row w a n (fun i => .int .i64 (Z i))) :
    Calls Try.prog 5 #[.int .i64 f, .slice a n c] w fun e w' => e = .returned (.bool true) ∧ Below w.heap.size w w' := by
  unfold maxLen at hm
  obtain ⟨f1, f2⟩ := tmod_bd f 1000000 (by omega)
  have hl := lim_in (f.tmod 1000000) 1000000000000 (by omega) (by omega)
  go_enter Try.func5, Try.ntmps5
  go_wp2_with fail
  refine (new_any _).mono ?_
  rintro r w1 ⟨rfl, k1, b1, z1⟩
  go_wp2_with fail
  refine (put_any _ _ _ _ _ _ k1).mono ?_
  rintro r w2 ⟨rfl, k2, j2⟩
  rw [hl] at k2
  clear hl
  have b2 := j2.below b1 (Nat.le_refl _) (Nat.le_of_lt z1)
  have z2 := Nat.lt_of_lt_of_le z1 j2.size
  clear k1 j2 b1 z1
  go_wp2_with fail
  go_loopw [6, 7, 21] (fun u v i wr => ∃ (k : Nat) (S : Int), u = .int .i64 S ∧ v = .int .i64 (f.tmod 1000000 + S / 100) ∧ i = .int .i64 k ∧ k ≤ n ∧ k ≤ 300 ∧ -100 * (k : Int) ≤ S ∧ S ≤ 100 * (k : Int) ∧ Clk wr w.heap.size (f.tmod 1000000) (S * 10000) k ∧ Below w.heap.size w wr ∧ w.heap.size < wr.heap.size) (fun _ _ i _ => n - (intOf i).toNat)
  case atStart => exact ⟨0, 0, rfl, by simp, rfl, by omega, by omega, by omega, by omega, k2, b2, z2⟩
  case round =>
    obtain ⟨k, S, rfl, rfl, rfl, hk, hk3, hS0, hS1, kk, bb, zz⟩ := hrel
    by_cases hlt : k < n
    · obtain ⟨b, o, rfl, hb, hc⟩ := hZ.at_old bb hlt
      by_cases h300 : k < 300
      · have l0 := lim_low (Z k) 100 (by omega)
        have l1 := lim_high (Z k) 100
        have hlm : max (-100) (min (Z k) 100) = lim (Z k) 100 := by unfold lim; omega
        have hof : off (f.tmod 1000000) ((S + lim (Z k) 100) * 10000) = f.tmod 1000000 + (S + lim (Z k) 100) / 100 := by unfold off; omega
        have hm1 : max (-100) (min (Z k) 100) ≤ lim (Z k) 100 := by omega
        have hm2 : lim (Z k) 100 ≤ max (-100) (min (Z k) 100) := by omega
        have HM := Lib.hid hlm
        have HO := Lib.hid hof
        clear hlm hof
        go_wp2_with fail
        refine (slot_any _ _ _ _ _ _ kk (by omega) (by omega) (by omega) (by omega)).mono ?_
        rintro r w3 ⟨rfl, k3, j3⟩
        rw [show S * 10000 + lim (Z k) 100 * 10000 = (S + lim (Z k) 100) * 10000 from by omega] at k3
        have b3 := j3.below bb (Nat.le_refl _) (Nat.le_of_lt zz)
        have z3 := Nat.lt_of_lt_of_le zz j3.size
        go_wp2_with fail
        refine (off_any _ _ _ _ _ k3 (by omega) (by omega) (by omega) (by omega)).mono ?_
        rintro r w' ⟨rfl, m, rfl⟩
        rw [HO.out]
        go_wp2_with fail
        exact ⟨⟨k + 1, S + lim (Z k) 100, by rw [← HM.out], rfl, by go_num, by omega, by omega, by omega, by omega, k3, below_drewN b3 _, z3⟩, by simp [intOf]; omega⟩
      · go_wp2_with fail
        refine (awake_behind bb).mono ?_
        rintro r w9 ⟨rfl, b9⟩
        go_wp2_with fail
        go_ret
        exact ⟨rfl, b9⟩
    · go_wp2_with fail
      refine (awake_behind bb).mono ?_
      rintro r w9 ⟨rfl, b9⟩
      go_wp2_with fail
      go_ret
      exact ⟨rfl, b9⟩

theorem walk (H : Type) (enc : TypeId × Value → H) : Walk H enc Try.prog 5 Try.f5 := by
  intro W base args ds p hval hA
  rw [Try.params5] at hA hval
  obtain ⟨v0, v1, d0, d1, p0, p1, rfl, rfl, rfl, h0, h1⟩ := trodAll_two hA
  obtain ⟨f, rfl, rfl, rfl, w0⟩ := open_int Try.underlying2 (hval 0 _ v0 rfl rfl) h0
  obtain ⟨a, n, c, Z, rfl, hn, hm, hZ, hz⟩ := open_row_int Try.underlying36 Try.underlying3 (by kernel_rfl) (hval 1 _ v1 rfl rfl) h1
  exact body f a n c Z W hn hm hZ

set_option maxRecDepth 100000 in
theorem lifted (os : Os) (started : os.Started) (H : Type) (enc : TypeId × Value → H) :
    ReturnsInHanded {} Try.checked os 5 .any (Rows.clockDriftsSpec.pre6 enc Try.prog Try.f5 Rows.clockDriftsRow.domain false) (Rows.clockDriftsSpec.post enc Try.prog Try.f5 false true false false) :=
  returnsInHanded_of_change (C := Try.checked) own started (by kernel_rfl) Try.func5
    (ChangeSpec.witness6 (enc := enc) (C := Try.checked) false ⟨#[], #[.int .i64 0, .slice none 0 0], []⟩ 8 (by kernel_rfl) (by kernel_rfl) (by kernel_rfl) (by kernel_rfl))
    fun W base args ds gs before hval hW _ _ => step_of_walk laidOut (by rw [Try.params5]; exact of_decide_eq_true (by kernel_rfl)) (by kernel_rfl) Try.underlying4 rfl
      (fun ds h => by
        rw [Try.params5] at h
        match ds, h with
        | [_, _], _ => rfl) (walk H enc) W base args ds gs before hval hW

theorem holds : Rows.ClockDriftsSaid :=
  OpenClaim.holds_of_wide 5 Try.f5 rfl rfl rfl rfl rfl rfl rfl ⟨rfl, rfl, rfl, rfl, rfl⟩ rfl rfl rfl rfl rfl (by kernel_rfl) Try.func5 (by kernel_rfl)
    (of_decide_eq_true (by kernel_rfl)) (by unfold Func.isWrapper; first | (rw [if_pos (by decide +kernel)]; kernel_rfl) | (rw [if_neg (by decide +kernel)]; exact ⟨rfl, rfl⟩))
    (fun os started H enc _ => lifted os started H enc)
#print axioms holds
end Go.Proofs.Ytckbihiegliiiaa.ClockDrifts
