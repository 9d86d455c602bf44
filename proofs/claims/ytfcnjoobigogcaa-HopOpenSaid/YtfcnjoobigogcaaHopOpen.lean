/-
  Law HopOpen: what is open is some of the channels, in order, with none black all of them, and with all black, too; the call returns true. No condition.
-/
import Derived.Test.YtfcnjoobigogcaaHopWalks
set_option maxRecDepth 100000
namespace Go.Proofs.Ytfcnjoobigogcaa.HopOpen
set_option linter.unusedVariables false
open Go.RowKit Go.ChangeShapes Go.WideShapes Go.ChangeAt Go.Deep Lb Hp
set_option linter.unusedVariables false
theorem own : ownKnob Try.prog.godebug = none := by kernel_rfl
theorem laidOut : laidOutB Try.prog = true := by kernel_rfl

set_option maxHeartbeats 2000000 in
theorem body (a : Option Addr) (n c : Nat) (Z : Nat → Int) (bl : Nat) (w : World) (hn : n ≤ c) (hm : c ≤ maxLen) (hZ : Row w a n (fun i => .int .i64 (Z i))) (hbl : bl < 4294967296) :
    Calls Try.prog 6 #[.slice a n c, .int .u32 bl] w fun e w' => e = .returned (.bool true) ∧ Below w.heap.size w w' := by
  cases hM : mayB Z n
  · have HM := Lib.hid hM
    clear hM
    go_enter Try.func6, Try.ntmps6
    go_wp2_with fail
    refine (open_no a n c Z bl _ hn hm hZ HM.out).mono ?_
    rintro r w' ⟨rfl, rfl⟩
    go_wp2_with fail
    refine (open_no a n c Z 0 _ hn hm hZ HM.out).mono ?_
    rintro r w' ⟨rfl, rfl⟩
    go_wp2_with fail
    refine (open_no a n c Z 4294967295 _ hn hm hZ HM.out).mono ?_
    rintro r w' ⟨rfl, rfl⟩
    go_wp2_with fail
    refine (may_any a n c Z _ hn hm hZ).mono ?_
    rintro r w' ⟨rfl, rfl⟩
    rw [HM.out]
    go_wp2_with fail
    refine (awake_any _).mono ?_
    rintro r w9 ⟨rfl, b9⟩
    go_wp2_with fail
    go_ret
    exact ⟨rfl, b9⟩
  · obtain ⟨n0, n1, hO⟩ := mayB_iff.1 hM
    obtain ⟨l0, l1⟩ := opn_len (Z := Z) (b := bl) n0
    have HO := Lib.hid hO
    have HM := Lib.hid hM
    have HA := Lib.hid (opn_none (Z := Z) (n := n))
    have HB := Lib.hid (opn_black hO)
    clear hM hO
    go_enter Try.func6, Try.ntmps6
    go_wp2_with fail
    refine (open_yes a n c Z bl _ hn hm hZ hbl HM.out).mono ?_
    rintro r w1 ⟨v1, rfl, hv1, b1⟩
    obtain ⟨a1, c1, rfl, hc11, hc12, hR1⟩ := hv1.row
    clear hv1
    go_wp2_with fail
    refine (open_yes a n c Z 0 _ hn hm (hZ.below b1) (by decide) HM.out).mono ?_
    rintro r w2 ⟨v2, rfl, hv2, b2⟩
    have hR1 := hR1.below b2
    have b2 := b1.trans (b2.mono b1.size)
    obtain ⟨a2, c2, rfl, hc21, hc22, hR2⟩ := hv2.row
    rw [HA.out, List.length_map, List.length_range] at hc21 hR2
    clear hv2
    go_wp2_with fail
    refine (open_yes a n c Z 4294967295 _ hn hm (hZ.below b2) (by decide) HM.out).mono ?_
    rintro r w3 ⟨v3, rfl, hv3, b3⟩
    have hR1 := hR1.below b3
    have hR2 := hR2.below b3
    have b3 := b2.trans (b3.mono b2.size)
    obtain ⟨a3, c3, rfl, hc31, hc32, hR3⟩ := hv3.row
    rw [HB.out, List.length_map, List.length_range] at hc31 hR3
    clear hv3
    rw [show (opn Z 0 n).length = n by rw [HA.out]; simp, show (opn Z 4294967295 n).length = n by rw [HB.out]; simp]
    have hZ3 := hZ.below b3
    go_wp2_with fail
    refine (may_any a n c Z _ hn hm hZ3).mono ?_
    rintro r w' ⟨rfl, rfl⟩
    rw [HM.out]
    clear hZ b1 b2
    unfold maxLen at hm hc12 hc22 hc32
    obtain ⟨m, hmm⟩ : ∃ m, (opn Z bl n).length = m := ⟨_, rfl⟩
    rw [hmm] at l0 l1 hc11 hR1 ⊢
    have HMM := Lib.hid hmm
    clear hmm
    have i0 : (1 : Int) ≤ (m : Int) := by omega
    have i1 : decide ((m : Int) < 1) = false := by simp; omega
    go_wp2_with fail
    go_loop [8, 52] (fun u i => ∃ k : Nat, u = .int .i64 (pre Z bl n k : Nat) ∧ i = .int .i64 k ∧ k ≤ n) (fun _ i => n - (intOf i).toNat)
    case atStart => exact ⟨0, by rw [pre_zero]; rfl, rfl, by omega⟩
    case round =>
      obtain ⟨k, rfl, rfl, hk⟩ := hrel
      have hp := pre_le Z bl n k
      by_cases hlt : k < n
      · obtain ⟨bz, oz, rfl, hbz, hcz⟩ := hZ3.at_ hlt
        obtain ⟨bx, ox, rfl, hbx, hcx⟩ := hR2.at_ hlt
        obtain ⟨by_, oy, rfl, hby, hcy⟩ := hR3.at_ hlt
        rw [lc_map Z n k hlt] at hcx hcy
        cases he : el Z bl n k
        · have h1 := opn_out he
          have HP := Lib.hid (pre_out he)
          clear he
          obtain ⟨p, hpp⟩ : ∃ p, pre Z bl n k = p := ⟨_, rfl⟩
          rw [hpp] at h1 hp ⊢
          have HPP := Lib.hid hpp
          clear hpp
          by_cases hpm : p < m
          · obtain ⟨b1, o1, rfl, hb1, hc1⟩ := hR1.at_ hpm
            have hne : ((opn Z bl n).getD p 0 == Z k) = false := by
              rw [beq_eq_false_iff_ne]
              intro e
              refine h1 ?_
              rw [← e, List.getD_eq_getElem?_getD]
              rw [List.getElem?_eq_getElem (by rw [HMM.out]; exact hpm)]
              rfl
            unfold lc at hc1
            obtain ⟨y, hy⟩ : ∃ y, (opn Z bl n).getD p 0 = y := ⟨_, rfl⟩
            rw [hy] at hc1 hne
            clear hy h1 hR1 hR2 hR3 hZ3
            go_wp2_with fail
            exact ⟨⟨k + 1, by rw [HP.out, HPP.out], by go_num, by omega⟩, by simp [intOf]; omega⟩
          · have hpm2 : decide (p < m) = false := by simp; omega
            clear h1 hR1 hR2 hR3 hZ3 hpm
            go_wp2_with fail
            exact ⟨⟨k + 1, by rw [HP.out, HPP.out], by go_num, by omega⟩, by simp [intOf]; omega⟩
        · have h1 := opn_in hlt he
          have HP := Lib.hid (pre_in he)
          clear he
          obtain ⟨p, hpp⟩ : ∃ p, pre Z bl n k = p := ⟨_, rfl⟩
          rw [hpp] at h1 hp ⊢
          have HPP := Lib.hid hpp
          clear hpp
          have hpm : p < m := by
            have := (List.getElem?_eq_some_iff.1 h1).1
            rw [HMM.out] at this
            exact this
          obtain ⟨b1, o1, rfl, hb1, hc1⟩ := hR1.at_ hpm
          unfold lc at hc1
          rw [List.getD_eq_getElem?_getD, h1] at hc1
          simp only [Option.getD_some] at hc1
          have hpm2 : (p : Int) < (m : Int) := by omega
          clear h1 hR1 hR2 hR3 hZ3
          go_wp2_with fail
          exact ⟨⟨k + 1, by rw [HP.out, HPP.out]; go_num, by go_num, by omega⟩, by simp [intOf]; omega⟩
      · obtain rfl : k = n := by omega
        have hpa := pre_all Z bl k
        rw [HMM.out] at hpa
        rw [hpa]
        clear hpa hlt hp
        go_wp2_with fail
        refine (awake_any _).mono ?_
        rintro r w9 ⟨rfl, b9⟩
        go_wp2_with fail
        go_ret
        exact ⟨rfl, b3.trans (b9.mono b3.size)⟩

theorem walk (H : Type) (enc : TypeId × Value → H) : Walk H enc Try.prog 6 Try.f6 := by
  intro W base args ds p hval hA
  rw [Try.params6] at hA hval
  obtain ⟨v0, v1, d0, d1, p0, p1, rfl, rfl, rfl, h0, h1⟩ := trodAll_two hA
  obtain ⟨a, n, c, Z, rfl, hn, hm, hZ, hz⟩ := open_row_int Try.underlying22 Try.underlying3 (by kernel_rfl) (hval 0 _ v0 rfl rfl) h0
  obtain ⟨bl, rfl, rfl, rfl, w1⟩ := open_int Try.underlying23 (hval 1 _ v1 rfl rfl) h1
  obtain ⟨b0, b1⟩ := u32_bd w1
  obtain ⟨bl, rfl⟩ := Int.eq_ofNat_of_zero_le b0
  exact body a n c Z bl W hn hm hZ (by omega)

set_option maxRecDepth 100000 in
theorem lifted (os : Os) (started : os.Started) (H : Type) (enc : TypeId × Value → H) :
    ReturnsInHanded {} Try.checked os 6 .any (Rows.hopOpenSpec.pre6 enc Try.prog Try.f6 Rows.hopOpenRow.domain false) (Rows.hopOpenSpec.post enc Try.prog Try.f6 false true false false) :=
  returnsInHanded_of_change (C := Try.checked) own started (by kernel_rfl) Try.func6
    (ChangeSpec.witness6 (enc := enc) (C := Try.checked) false ⟨#[], #[.slice none 0 0, .int .u32 0], []⟩ 8 (by kernel_rfl) (by kernel_rfl) (by kernel_rfl) (by kernel_rfl))
    fun W base args ds gs before hval hW _ _ => step_of_walk laidOut (by rw [Try.params6]; exact of_decide_eq_true (by kernel_rfl)) (by kernel_rfl) Try.underlying4 rfl
      (fun ds h => by
        rw [Try.params6] at h
        match ds, h with
        | [_, _], _ => rfl) (walk H enc) W base args ds gs before hval hW

theorem holds : Rows.HopOpenSaid :=
  OpenClaim.holds_of_wide 6 Try.f6 rfl rfl rfl rfl rfl rfl rfl ⟨rfl, rfl, rfl, rfl, rfl⟩ rfl rfl rfl rfl rfl (by kernel_rfl) Try.func6 (by kernel_rfl)
    (of_decide_eq_true (by kernel_rfl)) (by unfold Func.isWrapper; first | (rw [if_pos (by decide +kernel)]; kernel_rfl) | (rw [if_neg (by decide +kernel)]; exact ⟨rfl, rfl⟩))
    (fun os started H enc _ => lifted os started H enc)
#print axioms holds
end Go.Proofs.Ytfcnjoobigogcaa.HopOpen
