/-
  Law NeighApart: what is heard of one changes nothing of others; of itself it hears nothing; the call returns true. No condition.
-/
import Derived.Test.YtpapkcelgbnkaaaNeighOrb
set_option maxRecDepth 100000
namespace Go.Proofs.Ytpapkcelgbnkaaa.NeighApart
set_option linter.unusedVariables false
open Go.RowKit Go.ChangeShapes Go.WideShapes Go.ChangeAt Go.Deep Lb Ng
set_option linter.unusedVariables false
theorem own : ownKnob Try.prog.godebug = none := by kernel_rfl
theorem laidOut : laidOutB Try.prog = true := by kernel_rfl

set_option maxHeartbeats 4000000 in
theorem body (x y n : Int) (w : World) :
    Calls Try.prog 7 #[.int .i64 x, .int .i64 y, .int .i64 n] w fun r w' => r = .returned (.bool true) ∧ Below w.heap.size w w' := by
  have ux := u64_pos x
  have uy := u64_pos y
  have un := u64_pos n
  go_enter Try.func7, Try.ntmps7
  go_wp2_with fail
  have hx : 0 ≤ IntKind.u64.wrap x % 16 ∧ IntKind.u64.wrap x % 16 < 16 := by omega
  have hy : 0 ≤ IntKind.u64.wrap y % 16 ∧ IntKind.u64.wrap y % 16 < 16 := by omega
  generalize IntKind.u64.wrap x % 16 = X at *
  generalize IntKind.u64.wrap y % 16 = Y at *
  obtain ⟨M, rfl⟩ := Int.eq_ofNat_of_zero_le hx.1
  obtain ⟨A, rfl⟩ := Int.eq_ofNat_of_zero_le hy.1
  have hM : M < 16 := by omega
  have hA : A < 16 := by omega
  clear hx hy ux uy
  have hnd : ∀ i : Nat, i < 16 → ndB (i : Int) = true := fun i hi => by unfold ndB; rw [decide_eq_true_eq]; omega
  have HND := Lib.hid hnd
  clear hnd
  by_cases hAM : A = M
  · obtain rfl : A = M := hAM
    refine (new_yes A _ (HND.out A hM)).mono ?_
    rintro r w1 ⟨rfl, h1, b1, s1⟩
    have h1 : Tb w1 w.heap.size 47 A (only A A (U 0)) := by
      show Tb w1 w.heap.size 47 A (only A A 0)
      rw [only_zero]
      exact h1
    go_wp2_with fail
    obtain ⟨K, hK⟩ : ∃ K : Nat, IntKind.u64.wrap n % 40 = (K : Int) := ⟨(IntKind.u64.wrap n % 40).toNat, by omega⟩
    have hK40 : K < 40 := by omega
    have HK := Lib.hid hK
    rw [hK]
    clear hK
    go_loopw [26] (fun i wr => ∃ j : Nat, i = .int .i64 j ∧ j ≤ K ∧ Tb wr w.heap.size 47 A (only A A (U j)) ∧ Below w.heap.size w wr ∧ w.heap.size < wr.heap.size) (fun i _ => K - (intOf i).toNat)
    case atStart => exact ⟨0, rfl, by omega, h1, b1, s1⟩
    case round =>
      clear h1 b1 s1
      obtain ⟨j, rfl, hj, h1, b1, s1⟩ := hrel
      by_cases hlt : j < K
      · have HE : Hid (upTo A (only A A (U j)) A = only A A (U (j + 1))) := Lib.hid (only_up A A (U j))
        have hg := only_good (me := A) (a := A) (U_bd j)
        go_wp2_with fail
        refine (heard_any w.heap.size _ A _ A _ h1 hg).mono ?_
        rintro r w2 ⟨rfl, h2, j2⟩
        rw [HE.out] at h2
        have b2 := j2.below b1 (Nat.le_refl _) b1.size
        have s2 := Nat.lt_of_lt_of_le s1 j2.size
        clear h1 b1 s1 j2
        go_wp2_with fail
        exact ⟨⟨j + 1, by simp [intOf], by omega, h2, b2, s2⟩, by simp [intOf]; omega⟩
      · have hjK : j = K := by omega
        have gK : decide ((j : Int) < (K : Int)) = false := by simp; omega
        have gK2 : decide (j < K) = false := by simp; omega
        have HJ := Lib.hid hjK
        have hq : 0 < K → 0 < U j := fun h => by rw [HJ.out]; exact U_pos h
        have hz : K = 0 → U j = 0 := fun h => by rw [HJ.out, h]; rfl
        have hQ := Lib.hid hq
        have hZ := Lib.hid hz
        have hbd := Lib.hid (U_bd j)
        clear hjK hlt hj hq hz
        go_wp2_with fail
        generalize hUj : U j = q at *
        clear hUj
        go_loopw [32] (fun i w' => ∃ z : Nat, i = .int .i64 z ∧ z ≤ 16 ∧ wr = w') (fun i _ => 16 - (intOf i).toNat)
        case atStart => exact ⟨0, rfl, by omega, rfl⟩
        case round =>
          obtain ⟨z, rfl, hz, rfl⟩ := hrel
          by_cases hlt : z < 16
          · have g16 : (z : Int) < 16 := by omega
            obtain ⟨v, hv⟩ : ∃ v, qOf A (only A A q) z = v := ⟨_, rfl⟩
            have HV := Lib.hid hv
            have hv0 : v = 0 := by
              rw [only_of, if_neg] at hv
              · exact hv.symm
              · rintro ⟨h, _⟩
                unfold knB at h
                simp at h
            have g4 : decide (0 < v) = false := by rw [hv0]; rfl
            clear hv hv0
            by_cases e1 : z = A
            · obtain rfl : A = z := e1.symm
              go_wp2_with fail
              refine (quality_any w.heap.size _ A _ A _ h1).mono ?_
              rintro r w' ⟨rfl, rfl⟩
              rw [HV.out]
              go_wp2_with fail
              exact ⟨⟨A + 1, by simp [intOf], by omega, by first | trivial | rfl⟩, by simp [intOf]; omega⟩
            · have g1 : (z == A) = false := by simpa using e1
              have g1i : ((z : Int) == (A : Int)) = false := by simp; omega
              clear e1
              go_wp2_with fail
              refine (quality_any w.heap.size _ A _ z _ h1).mono ?_
              rintro r w' ⟨rfl, rfl⟩
              rw [HV.out]
              go_wp2_with fail
              exact ⟨⟨z + 1, by simp [intOf], by omega, by first | trivial | rfl⟩, by simp [intOf]; omega⟩
          · obtain rfl : 16 = z := by omega
            have HP : Hid (pairs (only A A q) 256 16 = []) := Lib.hid (pairs_none (fun k => by
              have := only_good (me := A) (a := A) hbd.out k
              omega) 16)
            have hgd := only_good (me := A) (a := A) hbd.out
            go_wp2_with fail
            refine (report_any w.heap.size A _ 256 5 _ h1 hgd (by decide)).mono ?_
            rintro r w4 ⟨a, m, c, rfl, hm, hmc, hcm, hR, b4⟩
            rw [HP.out] at hm
            obtain rfl : m = 0 := by
              simp at hm
              omega
            have bb := b1.trans (b4.mono b1.size)
            clear hR hm
            go_wp2_with fail
            refine (awake_any _).mono ?_
            rintro r w9 ⟨rfl, b9⟩
            have bb := bb.trans (b9.mono bb.size)
            go_wp2_with fail
            go_ret
            exact ⟨rfl, bb⟩
  · have HAM : Hid ((A != M) = true) := Lib.hid (by simpa using hAM)
    clear hAM
    refine (new_yes M _ (HND.out M hM)).mono ?_
    rintro r w1 ⟨rfl, h1, b1, s1⟩
    have h1 : Tb w1 w.heap.size 47 M (only M A (U 0)) := by
      show Tb w1 w.heap.size 47 M (only M A 0)
      rw [only_zero]
      exact h1
    go_wp2_with fail
    obtain ⟨K, hK⟩ : ∃ K : Nat, IntKind.u64.wrap n % 40 = (K : Int) := ⟨(IntKind.u64.wrap n % 40).toNat, by omega⟩
    have hK40 : K < 40 := by omega
    have HK := Lib.hid hK
    rw [hK]
    clear hK
    go_loopw [26] (fun i wr => ∃ j : Nat, i = .int .i64 j ∧ j ≤ K ∧ Tb wr w.heap.size 47 M (only M A (U j)) ∧ Below w.heap.size w wr ∧ w.heap.size < wr.heap.size) (fun i _ => K - (intOf i).toNat)
    case atStart => exact ⟨0, rfl, by omega, h1, b1, s1⟩
    case round =>
      clear h1 b1 s1
      obtain ⟨j, rfl, hj, h1, b1, s1⟩ := hrel
      by_cases hlt : j < K
      · have HE : Hid (upTo M (only M A (U j)) A = only M A (U (j + 1))) := Lib.hid (only_up M A (U j))
        have hg := only_good (me := M) (a := A) (U_bd j)
        go_wp2_with fail
        refine (heard_any w.heap.size _ M _ A _ h1 hg).mono ?_
        rintro r w2 ⟨rfl, h2, j2⟩
        rw [HE.out] at h2
        have b2 := j2.below b1 (Nat.le_refl _) b1.size
        have s2 := Nat.lt_of_lt_of_le s1 j2.size
        clear h1 b1 s1 j2
        go_wp2_with fail
        exact ⟨⟨j + 1, by simp [intOf], by omega, h2, b2, s2⟩, by simp [intOf]; omega⟩
      · have hjK : j = K := by omega
        have gK : decide ((j : Int) < (K : Int)) = false := by simp; omega
        have gK2 : decide (j < K) = false := by simp; omega
        have HJ := Lib.hid hjK
        have hq : 0 < K → 0 < U j := fun h => by rw [HJ.out]; exact U_pos h
        have hz : K = 0 → U j = 0 := fun h => by rw [HJ.out, h]; rfl
        have hQ := Lib.hid hq
        have hZ := Lib.hid hz
        have hbd := Lib.hid (U_bd j)
        clear hjK hlt hj hq hz
        go_wp2_with fail
        generalize hUj : U j = q at *
        clear hUj
        go_loopw [32] (fun i w' => ∃ z : Nat, i = .int .i64 z ∧ z ≤ 16 ∧ wr = w') (fun i _ => 16 - (intOf i).toNat)
        case atStart => exact ⟨0, rfl, by omega, rfl⟩
        case round =>
          obtain ⟨z, rfl, hz, rfl⟩ := hrel
          by_cases hlt : z < 16
          · have g16 : (z : Int) < 16 := by omega
            obtain ⟨v, hv⟩ : ∃ v, qOf M (only M A q) z = v := ⟨_, rfl⟩
            have HV := Lib.hid hv
            have hcase : (z = A ∧ 0 < K ∧ 0 < v) ∨ (v = 0 ∧ (z ≠ A ∨ (z = A ∧ K = 0))) := by
              rw [only_of] at hv
              by_cases e1 : z = A
              · have hk : knB M A = true := by
                  unfold knB
                  rw [HND.out A hA]
                  have hne : A ≠ M := by simpa using HAM.out
                  simp
                  omega
                rw [if_pos ⟨hk, e1⟩] at hv
                by_cases e3 : 0 < K
                · exact .inl ⟨e1, e3, by rw [← hv]; exact hQ.out e3⟩
                · exact .inr ⟨by rw [← hv]; exact hZ.out (by omega), .inr ⟨e1, by omega⟩⟩
              · right
                rw [if_neg (fun h => e1 h.2)] at hv
                exact ⟨hv.symm, .inl e1⟩
            clear hv
            rcases hcase with ⟨e1, e3, e4⟩ | ⟨e4, hc⟩
            · obtain rfl : A = z := e1.symm
              have g2 : (A != M) = true := HAM.out
              have g2i : ((A : Int) != (M : Int)) = true := by have := HAM.out; simp at this ⊢; omega
              have g3 : 0 < IntKind.u64.wrap n % 40 := by rw [HK.out]; omega
              clear e3
              go_wp2_with fail
              refine (quality_any w.heap.size _ M _ A _ h1).mono ?_
              rintro r w' ⟨rfl, rfl⟩
              rw [HV.out]
              go_wp2_with fail
              exact ⟨⟨A + 1, by simp [intOf], by omega, by first | trivial | rfl⟩, by simp [intOf]; omega⟩
            · have g4 : decide (0 < v) = false := by rw [e4]; rfl
              clear e4
              rcases hc with e1 | ⟨e1, e3⟩
              · have g1 : (z == A) = false := by simpa using e1
                have g1i : ((z : Int) == (A : Int)) = false := by simp; omega
                clear e1
                go_wp2_with fail
                refine (quality_any w.heap.size _ M _ z _ h1).mono ?_
                rintro r w' ⟨rfl, rfl⟩
                rw [HV.out]
                go_wp2_with fail
                exact ⟨⟨z + 1, by simp [intOf], by omega, by first | trivial | rfl⟩, by simp [intOf]; omega⟩
              · obtain rfl : A = z := e1.symm
                have g2 : (A != M) = true := HAM.out
                have g2i : ((A : Int) != (M : Int)) = true := by have := HAM.out; simp at this ⊢; omega
                have g3 : decide (0 < IntKind.u64.wrap n % 40) = false := by rw [HK.out, e3]; rfl
                clear e3
                go_wp2_with fail
                refine (quality_any w.heap.size _ M _ A _ h1).mono ?_
                rintro r w' ⟨rfl, rfl⟩
                rw [HV.out]
                go_wp2_with fail
                exact ⟨⟨A + 1, by simp [intOf], by omega, by first | trivial | rfl⟩, by simp [intOf]; omega⟩
          · obtain rfl : 16 = z := by omega
            have HP : Hid (pairs (only M A q) 256 16 = []) := Lib.hid (pairs_none (fun k => by
              have := only_good (me := M) (a := A) hbd.out k
              omega) 16)
            have hgd := only_good (me := M) (a := A) hbd.out
            go_wp2_with fail
            refine (report_any w.heap.size M _ 256 5 _ h1 hgd (by decide)).mono ?_
            rintro r w4 ⟨a, m, c, rfl, hm, hmc, hcm, hR, b4⟩
            rw [HP.out] at hm
            obtain rfl : m = 0 := by
              simp at hm
              omega
            have bb := b1.trans (b4.mono b1.size)
            clear hR hm
            go_wp2_with fail
            refine (awake_any _).mono ?_
            rintro r w9 ⟨rfl, b9⟩
            have bb := bb.trans (b9.mono bb.size)
            go_wp2_with fail
            go_ret
            exact ⟨rfl, bb⟩

theorem walk (H : Type) (enc : TypeId × Value → H) : Walk H enc Try.prog 7 Try.f7 := by
  intro W base args ds p hval hA
  rw [Try.params7] at hA hval
  obtain ⟨v0, v1, v2, d0, d1, d2, p0, p1, p2, rfl, rfl, rfl, h0, h1, h2⟩ := trodAll_three hA
  obtain ⟨x, rfl, rfl, rfl, _⟩ := open_int Try.underlying3 (hval 0 _ v0 rfl rfl) h0
  obtain ⟨y, rfl, rfl, rfl, _⟩ := open_int Try.underlying3 (hval 1 _ v1 rfl rfl) h1
  obtain ⟨z, rfl, rfl, rfl, _⟩ := open_int Try.underlying3 (hval 2 _ v2 rfl rfl) h2
  exact body x y z W

set_option maxRecDepth 100000 in
theorem lifted (os : Os) (started : os.Started) (H : Type) (enc : TypeId × Value → H) :
    ReturnsInHanded {} Try.checked os 7 .any (Rows.neighApartSpec.pre6 enc Try.prog Try.f7 Rows.neighApartRow.domain false) (Rows.neighApartSpec.post enc Try.prog Try.f7 false true false false) :=
  returnsInHanded_of_change (C := Try.checked) own started (by kernel_rfl) Try.func7
    (ChangeSpec.witness6 (enc := enc) (C := Try.checked) false ⟨#[], #[.int .i64 0, .int .i64 0, .int .i64 0], []⟩ 8 (by kernel_rfl) (by kernel_rfl) (by kernel_rfl) (by kernel_rfl))
    fun W base args ds gs before hval hW _ _ => step_of_walk laidOut (by rw [Try.params7]; exact of_decide_eq_true (by kernel_rfl)) (by kernel_rfl) Try.underlying4 rfl
      (fun ds h => by
        rw [Try.params7] at h
        match ds, h with
        | [_, _, _], _ => rfl) (walk H enc) W base args ds gs before hval hW

theorem holds : Rows.NeighApartSaid :=
  OpenClaim.holds_of_wide 7 Try.f7 rfl rfl rfl rfl rfl rfl rfl ⟨rfl, rfl, rfl, rfl, rfl⟩ rfl rfl rfl rfl rfl (by kernel_rfl) Try.func7 (by kernel_rfl)
    (of_decide_eq_true (by kernel_rfl)) (by unfold Func.isWrapper; first | (rw [if_pos (by decide +kernel)]; kernel_rfl) | (rw [if_neg (by decide +kernel)]; exact ⟨rfl, rfl⟩))
    (fun os started H enc _ => lifted os started H enc)
#print axioms holds
end Go.Proofs.Ytpapkcelgbnkaaa.NeighApart
