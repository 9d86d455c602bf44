/-
  Law HopForms: for any channels, any slot, what may be, what is open, and the channel are the reference's; the call returns true. No condition.
-/
import Derived.Test.YtfcnjoobigogcaaHopRef
set_option maxRecDepth 100000
namespace Go.Proofs.Ytfcnjoobigogcaa.HopForms
set_option linter.unusedVariables false
open Go.RowKit Go.ChangeShapes Go.WideShapes Go.ChangeAt Go.Deep Lb Hp
set_option linter.unusedVariables false
theorem own : ownKnob Try.prog.godebug = none := by kernel_rfl
theorem laidOut : laidOutB Try.prog = true := by kernel_rfl

set_option maxHeartbeats 2000000 in
theorem body (a : Option Addr) (n c : Nat) (Z : Nat → Int) (bl : Nat) (t x : Int) (w : World) (hn : n ≤ c) (hm : c ≤ maxLen) (hZ : Row w a n (fun i => .int .i64 (Z i))) (hbl : bl < 4294967296) :
    Calls Try.prog 3 #[.slice a n c, .int .u32 bl, .int .i64 t, .int .i64 x] w fun e w' => e = .returned (.bool true) ∧ Below w.heap.size w w' := by
  by_cases hbig : 100 < n
  · have hb : (100 : Int) < (n : Int) := by omega
    go_enter Try.func3, Try.ntmps3
    go_wp2_with fail
    refine (awake_any _).mono ?_
    rintro r w9 ⟨rfl, b9⟩
    go_wp2_with fail
    go_ret
    exact ⟨rfl, b9⟩
  · have hb : decide ((100 : Int) < (n : Int)) = false := by simp; omega
    clear hbig
    obtain ⟨M, hM⟩ : ∃ M, mayB Z n = M := ⟨_, rfl⟩
    obtain ⟨q, hq⟩ : ∃ q, chanB Z bl n t x = q := ⟨_, rfl⟩
    have HM := Lib.hid hM
    have HQ := Lib.hid hq
    clear hM hq
    go_enter Try.func3, Try.ntmps3
    go_wp2_with fail
    refine (may_any a n c Z _ hn hm hZ).mono ?_
    rintro r w' ⟨rfl, rfl⟩
    rw [HM.out]
    go_wp2_with fail
    refine (ref_may a n c Z _ hn hm hZ).mono ?_
    rintro r w' ⟨rfl, rfl⟩
    rw [HM.out]
    cases M
    · go_wp2_with fail
      refine (open_no a n c Z bl _ hn hm hZ HM.out).mono ?_
      rintro r w' ⟨rfl, rfl⟩
      go_wp2_with fail
      refine (ref_open_no a n c Z bl _ hn hm hZ HM.out).mono ?_
      rintro r w' ⟨rfl, rfl⟩
      go_wp2_with fail
      refine (same_ints none none 0 0 0 (fun _ => 0) _ (by omega) (by omega) (by omega) (by omega) (Row.nil _ _ _) (Row.nil _ _ _)).mono ?_
      rintro r w' ⟨rfl, m, rfl⟩
      have hZ := hZ.drewN m
      have bb := below_drewN (Below.refl w.heap.size w) m
      go_wp2_with fail
      refine (channel_any a n c Z bl t x _ hn hm hZ hbl).mono ?_
      rintro r w1 ⟨rfl, b1⟩
      rw [HQ.out]
      have hZ := hZ.below b1
      have bb := bb.trans (b1.mono (Nat.le_refl _))
      go_wp2_with fail
      refine (ref_channel a n c Z bl t x _ hn hm hZ hbl).mono ?_
      rintro r w2 ⟨rfl, b2⟩
      rw [HQ.out]
      have bb := bb.trans (b2.mono bb.size)
      go_wp2_with fail
      refine (awake_any _).mono ?_
      rintro r w9 ⟨rfl, b9⟩
      go_wp2_with fail
      go_ret
      exact ⟨rfl, bb.trans (b9.mono bb.size)⟩
    · go_wp2_with fail
      refine (open_yes a n c Z bl _ hn hm hZ hbl HM.out).mono ?_
      rintro r w1 ⟨v1, rfl, hv1, b1⟩
      obtain ⟨a1, c1, rfl, hc11, hc12, hR1⟩ := hv1.row
      go_wp2_with fail
      refine (ref_open_yes a n c Z bl _ hn hm (hZ.below b1) hbl HM.out).mono ?_
      rintro r w2 ⟨v2, rfl, hv2, b2⟩
      obtain ⟨a2, c2, rfl, hc21, hc22, hR2⟩ := hv2.row
      have hR1 := hR1.below b2
      have bb := b1.trans (b2.mono b1.size)
      clear hv1 hv2 b1 b2
      go_wp2_with fail
      refine (same_ints a1 a2 (opn Z bl n).length c1 c2 (fun q => (opn Z bl n).getD q 0) _ hc11 hc21 hc12 hc22 hR1 hR2).mono ?_
      rintro r w' ⟨rfl, m, rfl⟩
      have bb := below_drewN bb m
      have hZ := hZ.below bb
      go_wp2_with fail
      refine (channel_any a n c Z bl t x _ hn hm hZ hbl).mono ?_
      rintro r w1 ⟨rfl, b1⟩
      rw [HQ.out]
      have hZ := hZ.below b1
      have bb := bb.trans (b1.mono bb.size)
      go_wp2_with fail
      refine (ref_channel a n c Z bl t x _ hn hm hZ hbl).mono ?_
      rintro r w2 ⟨rfl, b2⟩
      rw [HQ.out]
      have bb := bb.trans (b2.mono bb.size)
      go_wp2_with fail
      refine (awake_any _).mono ?_
      rintro r w9 ⟨rfl, b9⟩
      go_wp2_with fail
      go_ret
      exact ⟨rfl, bb.trans (b9.mono bb.size)⟩

theorem walk (H : Type) (enc : TypeId × Value → H) : Walk H enc Try.prog 3 Try.f3 := by
  intro W base args ds p hval hA
  rw [Try.params3] at hA hval
  obtain ⟨v0, v1, v2, v3, d0, d1, d2, d3, p0, p1, p2, p3, rfl, rfl, rfl, h0, h1, h2, h3⟩ := trodAll_four hA
  obtain ⟨a, n, c, Z, rfl, hn, hm, hZ, hz⟩ := open_row_int Try.underlying22 Try.underlying3 (by kernel_rfl) (hval 0 _ v0 rfl rfl) h0
  obtain ⟨bl, rfl, rfl, rfl, w1⟩ := open_int Try.underlying23 (hval 1 _ v1 rfl rfl) h1
  obtain ⟨t, rfl, rfl, rfl, w2⟩ := open_int Try.underlying2 (hval 2 _ v2 rfl rfl) h2
  obtain ⟨x, rfl, rfl, rfl, w3⟩ := open_int Try.underlying3 (hval 3 _ v3 rfl rfl) h3
  obtain ⟨b0, b1⟩ := u32_bd w1
  obtain ⟨bl, rfl⟩ := Int.eq_ofNat_of_zero_le b0
  exact body a n c Z bl t x W hn hm hZ (by omega)

set_option maxRecDepth 100000 in
theorem lifted (os : Os) (started : os.Started) (H : Type) (enc : TypeId × Value → H) :
    ReturnsInHanded {} Try.checked os 3 .any (Rows.hopFormsSpec.pre6 enc Try.prog Try.f3 Rows.hopFormsRow.domain false) (Rows.hopFormsSpec.post enc Try.prog Try.f3 false true false false) :=
  returnsInHanded_of_change (C := Try.checked) own started (by kernel_rfl) Try.func3
    (ChangeSpec.witness6 (enc := enc) (C := Try.checked) false ⟨#[], #[.slice none 0 0, .int .u32 0, .int .i64 0, .int .i64 0], []⟩ 8 (by kernel_rfl) (by kernel_rfl) (by kernel_rfl) (by kernel_rfl))
    fun W base args ds gs before hval hW _ _ => step_of_walk laidOut (by rw [Try.params3]; exact of_decide_eq_true (by kernel_rfl)) (by kernel_rfl) Try.underlying4 rfl
      (fun ds h => by
        rw [Try.params3] at h
        match ds, h with
        | [_, _, _, _], _ => rfl) (walk H enc) W base args ds gs before hval hW

theorem holds : Rows.HopFormsSaid :=
  OpenClaim.holds_of_wide 3 Try.f3 rfl rfl rfl rfl rfl rfl rfl ⟨rfl, rfl, rfl, rfl, rfl⟩ rfl rfl rfl rfl rfl (by kernel_rfl) Try.func3 (by kernel_rfl)
    (of_decide_eq_true (by kernel_rfl)) (by unfold Func.isWrapper; first | (rw [if_pos (by decide +kernel)]; kernel_rfl) | (rw [if_neg (by decide +kernel)]; exact ⟨rfl, rfl⟩))
    (fun os started H enc _ => lifted os started H enc)
#print axioms holds
end Go.Proofs.Ytfcnjoobigogcaa.HopForms
