/-
  Law HopShift: an offset is as good as so many slots later; the call returns true. No condition.
-/
import Derived.Test.YtfcnjoobigogcaaHopWalks
set_option maxRecDepth 100000
namespace Go.Proofs.Ytfcnjoobigogcaa.HopShift
set_option linter.unusedVariables false
open Go.RowKit Go.ChangeShapes Go.WideShapes Go.ChangeAt Go.Deep Lb Hp
set_option linter.unusedVariables false
theorem own : ownKnob Try.prog.godebug = none := by kernel_rfl
theorem laidOut : laidOutB Try.prog = true := by kernel_rfl

set_option maxHeartbeats 1000000 in
theorem body (a : Option Addr) (n c : Nat) (Z : Nat → Int) (bl : Nat) (t x y : Int) (w : World) (hn : n ≤ c) (hm : c ≤ maxLen) (hZ : Row w a n (fun i => .int .i64 (Z i))) (hbl : bl < 4294967296) :
    Calls Try.prog 5 #[.slice a n c, .int .u32 bl, .int .i64 t, .int .i64 x, .int .i64 y] w fun e w' => e = .returned (.bool true) ∧ Below w.heap.size w w' := by
  have ut := u64_pos t
  have ux := u64_pos x
  have uy := u64_pos y
  obtain ⟨M, hM⟩ : ∃ M, mayB Z n = M := ⟨_, rfl⟩
  have HM := Lib.hid hM
  clear hM
  go_enter Try.func5, Try.ntmps5
  go_wp2_with fail
  refine (may_any a n c Z _ hn hm hZ).mono ?_
  rintro r w' ⟨rfl, rfl⟩
  rw [HM.out]
  cases M
  · go_wp2_with fail
    refine (awake_any _).mono ?_
    rintro r w9 ⟨rfl, b9⟩
    go_wp2_with fail
    go_ret
    exact ⟨rfl, b9⟩
  · go_wp2_with fail
    have t0 : 0 ≤ IntKind.u64.wrap t % 549755813888 ∧ IntKind.u64.wrap t % 549755813888 < 549755813888 := by omega
    have x0 : 0 ≤ IntKind.u64.wrap x % 100 ∧ IntKind.u64.wrap x % 100 < 100 := by omega
    have y0 : 0 ≤ IntKind.u64.wrap y % 100 ∧ IntKind.u64.wrap y % 100 < 100 := by omega
    generalize IntKind.u64.wrap t % 549755813888 = T at *
    generalize IntKind.u64.wrap x % 100 = X at *
    generalize IntKind.u64.wrap y % 100 = Y at *
    clear ut ux uy
    obtain ⟨t0, t1⟩ := t0
    obtain ⟨x0, x1⟩ := x0
    obtain ⟨y0, y1⟩ := y0
    have hE : Hid (chanB Z bl n (T + X) Y = chanB Z bl n T (X + Y)) := Lib.hid (by
      unfold chanB chan
      rw [HM.out, if_pos ⟨rfl, by omega, by omega, by omega, by omega⟩, if_pos ⟨rfl, by omega, by omega, by omega, by omega⟩, Int.add_assoc])
    refine (channel_any a n c Z bl T (X + Y) _ hn hm hZ hbl).mono ?_
    rintro r w1 ⟨rfl, b1⟩
    obtain ⟨q, hq⟩ : ∃ q, chanB Z bl n T (X + Y) = q := ⟨_, rfl⟩
    have HQ := Lib.hid hq
    rw [HQ.out]
    clear hq
    go_wp2_with fail
    refine (channel_any a n c Z bl (T + X) Y _ hn hm (hZ.below b1) hbl).mono ?_
    rintro r w2 ⟨rfl, b2⟩
    rw [hE.out, HQ.out]
    have bb := b1.trans (b2.mono b1.size)
    go_wp2_with fail
    refine (awake_any _).mono ?_
    rintro r w9 ⟨rfl, b9⟩
    go_wp2_with fail
    go_ret
    exact ⟨rfl, bb.trans (b9.mono bb.size)⟩

theorem walk (H : Type) (enc : TypeId × Value → H) : Walk H enc Try.prog 5 Try.f5 := by
  intro W base args ds p hval hA
  rw [Try.params5] at hA hval
  obtain ⟨v0, vs, d0, ds', p0, q0, e0, rfl, rfl, h0, hA⟩ := trodAll_cons hA
  obtain ⟨v1, vs1, d1, ds1, p1, q1, rfl, rfl, rfl, h1, hA⟩ := trodAll_cons hA
  obtain ⟨v2, vs2, d2, ds2, p2, q2, rfl, rfl, rfl, h2, hA⟩ := trodAll_cons hA
  obtain ⟨v3, vs3, d3, ds3, p3, q3, rfl, rfl, rfl, h3, hA⟩ := trodAll_cons hA
  obtain ⟨v4, vs4, d4, ds4, p4, q4, rfl, rfl, rfl, h4, hA⟩ := trodAll_cons hA
  obtain ⟨rfl, rfl, rfl⟩ := trodAll_nil hA
  obtain ⟨l⟩ := args
  dsimp only at e0
  subst e0
  obtain ⟨a, n, c, Z, rfl, hn, hm, hZ, hz⟩ := open_row_int Try.underlying22 Try.underlying3 (by kernel_rfl) (hval 0 _ v0 rfl rfl) h0
  obtain ⟨bl, rfl, rfl, rfl, w1⟩ := open_int Try.underlying23 (hval 1 _ v1 rfl rfl) h1
  obtain ⟨t, rfl, rfl, rfl, w2⟩ := open_int Try.underlying2 (hval 2 _ v2 rfl rfl) h2
  obtain ⟨x, rfl, rfl, rfl, w3⟩ := open_int Try.underlying3 (hval 3 _ v3 rfl rfl) h3
  obtain ⟨y, rfl, rfl, rfl, w4⟩ := open_int Try.underlying3 (hval 4 _ v4 rfl rfl) h4
  obtain ⟨b0, b1⟩ := u32_bd w1
  obtain ⟨bl, rfl⟩ := Int.eq_ofNat_of_zero_le b0
  exact body a n c Z bl t x y W hn hm hZ (by omega)

set_option maxRecDepth 100000 in
theorem lifted (os : Os) (started : os.Started) (H : Type) (enc : TypeId × Value → H) :
    ReturnsInHanded {} Try.checked os 5 .any (Rows.hopShiftSpec.pre6 enc Try.prog Try.f5 Rows.hopShiftRow.domain false) (Rows.hopShiftSpec.post enc Try.prog Try.f5 false true false false) :=
  returnsInHanded_of_change (C := Try.checked) own started (by kernel_rfl) Try.func5
    (ChangeSpec.witness6 (enc := enc) (C := Try.checked) false ⟨#[], #[.slice none 0 0, .int .u32 0, .int .i64 0, .int .i64 0, .int .i64 0], []⟩ 8 (by kernel_rfl) (by kernel_rfl) (by kernel_rfl) (by kernel_rfl))
    fun W base args ds gs before hval hW _ _ => step_of_walk laidOut (by rw [Try.params5]; exact of_decide_eq_true (by kernel_rfl)) (by kernel_rfl) Try.underlying4 rfl
      (fun ds h => by
        rw [Try.params5] at h
        match ds, h with
        | [_, _, _, _, _], _ => rfl) (walk H enc) W base args ds gs before hval hW

theorem holds : Rows.HopShiftSaid :=
  OpenClaim.holds_of_wide 5 Try.f5 rfl rfl rfl rfl rfl rfl rfl ⟨rfl, rfl, rfl, rfl, rfl⟩ rfl rfl rfl rfl rfl (by kernel_rfl) Try.func5 (by kernel_rfl)
    (of_decide_eq_true (by kernel_rfl)) (by unfold Func.isWrapper; first | (rw [if_pos (by decide +kernel)]; kernel_rfl) | (rw [if_neg (by decide +kernel)]; exact ⟨rfl, rfl⟩))
    (fun os started H enc _ => lifted os started H enc)
#print axioms holds
end Go.Proofs.Ytfcnjoobigogcaa.HopShift
