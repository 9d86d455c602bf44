/-
  Law OffsetBoth: measured from the other side, without an error, it is as much, turned about, and what is within a guard is so both ways, and within a greater one; the call returns true. No condition.
-/
import Derived.Test.YtjknppldpepcnaaOffLaws
set_option maxRecDepth 100000
namespace Go.Proofs.Ytjknppldpepcnaa.OffsetBoth
set_option linter.unusedVariables false
open Go.RowKit Go.ChangeShapes Go.WideShapes Go.ChangeAt Go.Deep Lb Of
set_option linter.unusedVariables false
theorem own : ownKnob Try.prog.godebug = none := by kernel_rfl
theorem laidOut : laidOutB Try.prog = true := by kernel_rfl

theorem both (a b : Int) : meas a b 0 0 = -meas b a 0 0 := by
  unfold meas far lim
  omega
theorem meas_bd (m t e x : Int) : -30000 ≤ meas m t e x ∧ meas m t e x ≤ 30000 := ⟨lim_low _ _ _ (by decide), lim_high _ _ _⟩
set_option maxHeartbeats 1000000 in
theorem body (a b g : Int) (w : World) (ha : -9223372036854775808 ≤ a ∧ a ≤ 9223372036854775807) (hb : -9223372036854775808 ≤ b ∧ b ≤ 9223372036854775807) :
    Calls Try.prog 7 #[.int .i64 a, .int .i64 b, .int .i64 g] w fun e w' => e = .returned (.bool true) ∧ Below w.heap.size w w' := by
  have hg := u64_pos g
  obtain ⟨x, hx⟩ : ∃ x, meas b a 0 0 = x := ⟨_, rfl⟩
  have hx2 := both a b
  rw [hx] at hx2
  obtain ⟨x0, x1⟩ := meas_bd b a 0 0
  rw [hx] at x0 x1
  have HX := Lib.hid hx
  have HX2 := Lib.hid hx2
  clear hx hx2
  go_enter Try.func7, Try.ntmps7
  go_wp2_with fail
  refine (measure_any a b 0 0 _ (by decide)).mono ?_
  rintro r w' ⟨rfl, rfl⟩
  rw [HX2.out]
  go_wp2_with fail
  refine (measure_any b a 0 0 _ (by decide)).mono ?_
  rintro r w' ⟨rfl, rfl⟩
  rw [HX.out]
  go_wp2_with fail
  have g0 : 0 ≤ IntKind.u64.wrap g % 5000 ∧ IntKind.u64.wrap g % 5000 < 5000 := by omega
  generalize IntKind.u64.wrap g % 5000 = G at *
  clear hg
  obtain ⟨g0, g1⟩ := g0
  have s0 : Hid (within b a G = within a b G) := Lib.hid (by unfold within; rw [Int.max_comm, Int.min_comm])
  have s1 : Hid (within a a 0 = true) := Lib.hid (by unfold within; simp)
  have s2 : Hid (within a b G = true → within a b (G + 1) = true) := Lib.hid (by unfold within; simp; omega)
  obtain ⟨V, hV⟩ : ∃ V, within a b G = V := ⟨_, rfl⟩
  have HV := Lib.hid hV
  clear hV
  refine (within_any a b G _ ha hb (by omega)).mono ?_
  rintro r w' ⟨rfl, rfl⟩
  rw [HV.out]
  go_wp2_with fail
  refine (within_any b a G _ hb ha (by omega)).mono ?_
  rintro r w' ⟨rfl, rfl⟩
  rw [s0.out, HV.out]
  cases V
  · go_wp2_with fail
    refine (within_any a b G _ ha hb (by omega)).mono ?_
    rintro r w' ⟨rfl, rfl⟩
    rw [HV.out]
    go_wp2_with fail
    refine (within_any a a 0 _ ha ha (by omega)).mono ?_
    rintro r w' ⟨rfl, rfl⟩
    rw [s1.out]
    go_wp2_with fail
    refine (awake_any _).mono ?_
    rintro r w' ⟨rfl, b9⟩
    go_wp2_with fail
    go_ret
    exact ⟨rfl, b9⟩
  · go_wp2_with fail
    refine (within_any a b G _ ha hb (by omega)).mono ?_
    rintro r w' ⟨rfl, rfl⟩
    rw [HV.out]
    go_wp2_with fail
    refine (within_any a b (G + 1) _ ha hb (by omega)).mono ?_
    rintro r w' ⟨rfl, rfl⟩
    rw [s2.out HV.out]
    go_wp2_with fail
    refine (within_any a a 0 _ ha ha (by omega)).mono ?_
    rintro r w' ⟨rfl, rfl⟩
    rw [s1.out]
    go_wp2_with fail
    refine (awake_any _).mono ?_
    rintro r w' ⟨rfl, b9⟩
    go_wp2_with fail
    go_ret
    exact ⟨rfl, b9⟩

theorem walk (H : Type) (enc : TypeId × Value → H) : Walk H enc Try.prog 7 Try.f7 := by
  intro W base args ds p hval hA
  rw [Try.params7] at hA hval
  obtain ⟨v0, v1, v2, d0, d1, d2, p0, p1, p2, rfl, rfl, rfl, h0, h1, h2⟩ := trodAll_three hA
  obtain ⟨a, rfl, rfl, rfl, w0⟩ := open_int Try.underlying2 (hval 0 _ v0 rfl rfl) h0
  obtain ⟨b, rfl, rfl, rfl, w1⟩ := open_int Try.underlying2 (hval 1 _ v1 rfl rfl) h1
  obtain ⟨g, rfl, rfl, rfl, w2⟩ := open_int Try.underlying3 (hval 2 _ v2 rfl rfl) h2
  exact body a b g W (i64_bd w0) (i64_bd w1)

set_option maxRecDepth 100000 in
theorem lifted (os : Os) (started : os.Started) (H : Type) (enc : TypeId × Value → H) :
    ReturnsInHanded {} Try.checked os 7 .any (Rows.offsetBothSpec.pre6 enc Try.prog Try.f7 Rows.offsetBothRow.domain false) (Rows.offsetBothSpec.post enc Try.prog Try.f7 false true false false) :=
  returnsInHanded_of_change (C := Try.checked) own started (by kernel_rfl) Try.func7
    (ChangeSpec.witness6 (enc := enc) (C := Try.checked) false ⟨#[], #[.int .i64 0, .int .i64 0, .int .i64 0], []⟩ 8 (by kernel_rfl) (by kernel_rfl) (by kernel_rfl) (by kernel_rfl))
    fun W base args ds gs before hval hW _ _ => step_of_walk laidOut (by rw [Try.params7]; exact of_decide_eq_true (by kernel_rfl)) (by kernel_rfl) Try.underlying4 rfl
      (fun ds h => by
        rw [Try.params7] at h
        match ds, h with
        | [_, _, _], _ => rfl) (walk H enc) W base args ds gs before hval hW

theorem holds : Rows.OffsetBothSaid :=
  OpenClaim.holds_of_wide 7 Try.f7 rfl rfl rfl rfl rfl rfl rfl ⟨rfl, rfl, rfl, rfl, rfl⟩ rfl rfl rfl rfl rfl (by kernel_rfl) Try.func7 (by kernel_rfl)
    (of_decide_eq_true (by kernel_rfl)) (by unfold Func.isWrapper; first | (rw [if_pos (by decide +kernel)]; kernel_rfl) | (rw [if_neg (by decide +kernel)]; exact ⟨rfl, rfl⟩))
    (fun os started H enc _ => lifted os started H enc)
#print axioms holds
end Go.Proofs.Ytjknppldpepcnaa.OffsetBoth
