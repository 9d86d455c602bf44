/-
  Law NeighFades: a quality rises with each frame that is heard and falls with each that is missed, from 0 to 255 and back; the call returns true. No condition.
-/
import Derived.Test.YtpapkcelgbnkaaaNeighOrb
set_option maxRecDepth 100000
namespace Go.Proofs.Ytpapkcelgbnkaaa.NeighFades
set_option linter.unusedVariables false
open Go.RowKit Go.ChangeShapes Go.WideShapes Go.ChangeAt Go.Deep Lb Ng
set_option linter.unusedVariables false
theorem own : ownKnob Try.prog.godebug = none := by kernel_rfl
theorem laidOut : laidOutB Try.prog = true := by kernel_rfl

set_option maxHeartbeats 4000000 in
theorem body (n k : Int) (w : World) :
    Calls Try.prog 5 #[.int .i64 n, .int .i64 k] w fun r w' => r = .returned (.bool true) ∧ Below w.heap.size w w' := by
  have un := u64_pos n
  have uk := u64_pos k
  go_enter Try.func5, Try.ntmps5
  go_wp2_with fail
  have hp : 0 ≤ IntKind.u64.wrap n % 100 ∧ IntKind.u64.wrap n % 100 < 100 := by omega
  have hr : 0 ≤ IntKind.u64.wrap k % 100 ∧ IntKind.u64.wrap k % 100 < 100 := by omega
  generalize IntKind.u64.wrap n % 100 = P at *
  generalize IntKind.u64.wrap k % 100 = R at *
  obtain ⟨N, rfl⟩ := Int.eq_ofNat_of_zero_le hp.1
  obtain ⟨K, rfl⟩ := Int.eq_ofNat_of_zero_le hr.1
  have hN : N < 100 := by omega
  have hK : K < 100 := by omega
  clear hp hr un uk
  refine (new_yes 1 _ (by decide)).mono ?_
  rintro r w1 ⟨rfl, h1, b1, s1⟩
  have h1 : Tb w1 w.heap.size 47 1 (only 1 2 (U 0)) := by
    show Tb w1 w.heap.size 47 1 (only 1 2 0)
    rw [only_zero]
    exact h1
  go_wp2_with fail
  go_loopw [19, 6] (fun i v wr => ∃ j : Nat, i = .int .i64 j ∧ v = .int .i64 (U j) ∧ j ≤ N ∧ Tb wr w.heap.size 47 1 (only 1 2 (U j)) ∧ Below w.heap.size w wr ∧ w.heap.size < wr.heap.size) (fun i _ _ => N - (intOf i).toNat)
  case atStart => exact ⟨0, rfl, rfl, by omega, h1, b1, s1⟩
  case round =>
    clear h1 b1 s1
    obtain ⟨j, rfl, rfl, hj, h1, b1, s1⟩ := hrel
    by_cases hlt : j < N
    · have hs := U_step j
      have hb := U_bd (j + 1)
      have HE : Hid (upTo 1 (only 1 2 (U j)) 2 = only 1 2 (U (j + 1))) := Lib.hid (only_up 1 2 (U j))
      have HO : Hid (qOf 1 (only 1 2 (U (j + 1))) 2 = U (j + 1)) := Lib.hid ((only_of 1 2 (U (j + 1)) 2).trans (if_pos ⟨by decide, rfl⟩))
      have hg := only_good (me := 1) (a := 2) (U_bd j)
      obtain ⟨q, hq⟩ : ∃ q, U (j + 1) = q := ⟨_, rfl⟩
      obtain ⟨l, hl⟩ : ∃ l, U j = l := ⟨_, rfl⟩
      have HQ := Lib.hid hq
      rw [hq] at hs hb HO HE
      rw [hl] at hs HE hg h1
      rw [hl]
      clear hq hl
      rcases hs with ⟨rfl, rfl⟩ | hs
      · go_wp2_with fail
        refine (heard_any w.heap.size _ 1 _ 2 _ h1 hg).mono ?_
        rintro r w2 ⟨rfl, h2, j2⟩
        rw [HE.out] at h2
        have b2 := j2.below b1 (Nat.le_refl _) b1.size
        have s2 := Nat.lt_of_lt_of_le s1 j2.size
        clear h1 b1 s1 j2
        go_wp2_with fail
        refine (quality_any w.heap.size _ 1 _ 2 _ h2).mono ?_
        rintro r w' ⟨rfl, rfl⟩
        rw [HO.out]
        go_wp2_with fail
        exact ⟨⟨j + 1, by simp [intOf], by rw [HQ.out], by omega, by rw [HQ.out]; exact h2, b2, s2⟩, by simp [intOf]; omega⟩
      · have f1 : decide (q ≤ l) = false := by simp; omega
        have f2 : decide (255 < q) = false := by simp; omega
        clear hs hb
        go_wp2_with fail
        refine (heard_any w.heap.size _ 1 _ 2 _ h1 hg).mono ?_
        rintro r w2 ⟨rfl, h2, j2⟩
        rw [HE.out] at h2
        have b2 := j2.below b1 (Nat.le_refl _) b1.size
        have s2 := Nat.lt_of_lt_of_le s1 j2.size
        clear h1 b1 s1 j2
        go_wp2_with fail
        refine (quality_any w.heap.size _ 1 _ 2 _ h2).mono ?_
        rintro r w' ⟨rfl, rfl⟩
        rw [HO.out]
        go_wp2_with fail
        exact ⟨⟨j + 1, by simp [intOf], by rw [HQ.out], by omega, by rw [HQ.out]; exact h2, b2, s2⟩, by simp [intOf]; omega⟩
    · obtain rfl : N = j := by omega
      have hU := U_bd N
      have hT : 50 ≤ N → U N = 255 := fun h => by
        have := U_top (N - 50)
        rwa [show 50 + (N - 50) = N by omega] at this
      obtain ⟨q0, hq0⟩ : ∃ q0, U N = q0 := ⟨_, rfl⟩
      rw [hq0] at hU hT h1 ⊢
      clear hq0
      have HH : Hid (((50 : Int) ≤ (N : Int) ∧ (q0 != 255) = false) ∨ decide ((50 : Int) ≤ (N : Int)) = false) := Lib.hid (by
        by_cases h : 50 ≤ N
        · exact .inl ⟨by omega, by rw [hT h]; rfl⟩
        · exact .inr (by simp; omega))
      clear hT hlt hj
      have HU := Lib.hid hU
      clear hU
      rcases HH.out with ⟨e50, e51⟩ | e50
      all_goals
        clear HH
        go_wp2_with fail
        go_loopw [45, 6] (fun i v wr => ∃ j : Nat, i = .int .i64 j ∧ v = .int .i64 (D q0 j) ∧ j ≤ K ∧ Tb wr w.heap.size 47 1 (only 1 2 (D q0 j)) ∧ Below w.heap.size w wr ∧ w.heap.size < wr.heap.size) (fun i _ _ => K - (intOf i).toNat)
        case atStart => exact ⟨0, rfl, rfl, by omega, h1, b1, s1⟩
        case round =>
          clear h1 b1 s1
          obtain ⟨j, rfl, rfl, hj, h1, b1, s1⟩ := hrel
          by_cases hlt : j < K
          · have hs := D_step HU.out j
            have hb := D_bd HU.out (j + 1)
            have HE : Hid (downTo 1 (only 1 2 (D q0 j)) 2 = only 1 2 (D q0 (j + 1))) := Lib.hid (only_down 1 2 (D q0 j))
            have HO : Hid (qOf 1 (only 1 2 (D q0 (j + 1))) 2 = D q0 (j + 1)) := Lib.hid ((only_of 1 2 (D q0 (j + 1)) 2).trans (if_pos ⟨by decide, rfl⟩))
            have hg := only_good (me := 1) (a := 2) (D_bd HU.out j)
            obtain ⟨q, hq⟩ : ∃ q, D q0 (j + 1) = q := ⟨_, rfl⟩
            obtain ⟨l, hl⟩ : ∃ l, D q0 j = l := ⟨_, rfl⟩
            have HQ := Lib.hid hq
            rw [hq] at hs hb HO HE
            rw [hl] at hs HE hg h1
            rw [hl]
            clear hq hl
            rcases hs with ⟨rfl, rfl⟩ | hs
            · go_wp2_with fail
              refine (missed_any w.heap.size _ 1 _ 2 _ h1 hg).mono ?_
              rintro r w2 ⟨rfl, h2, j2⟩
              rw [HE.out] at h2
              have b2 := j2.below b1 (Nat.le_refl _) b1.size
              have s2 := Nat.lt_of_lt_of_le s1 j2.size
              clear h1 b1 s1 j2
              go_wp2_with fail
              refine (quality_any w.heap.size _ 1 _ 2 _ h2).mono ?_
              rintro r w' ⟨rfl, rfl⟩
              rw [HO.out]
              go_wp2_with fail
              exact ⟨⟨j + 1, by simp [intOf], by rw [HQ.out], by omega, by rw [HQ.out]; exact h2, b2, s2⟩, by simp [intOf]; omega⟩
            · have f1 : decide (l ≤ q) = false := by simp; omega
              have f2 : decide (q < 0) = false := by simp; omega
              clear hs hb
              go_wp2_with fail
              refine (missed_any w.heap.size _ 1 _ 2 _ h1 hg).mono ?_
              rintro r w2 ⟨rfl, h2, j2⟩
              rw [HE.out] at h2
              have b2 := j2.below b1 (Nat.le_refl _) b1.size
              have s2 := Nat.lt_of_lt_of_le s1 j2.size
              clear h1 b1 s1 j2
              go_wp2_with fail
              refine (quality_any w.heap.size _ 1 _ 2 _ h2).mono ?_
              rintro r w' ⟨rfl, rfl⟩
              rw [HO.out]
              go_wp2_with fail
              exact ⟨⟨j + 1, by simp [intOf], by rw [HQ.out], by omega, by rw [HQ.out]; exact h2, b2, s2⟩, by simp [intOf]; omega⟩
          · obtain rfl : K = j := by omega
            have HO : Hid (qOf 1 (only 1 2 (D q0 K)) 3 = 0) := Lib.hid ((only_of 1 2 (D q0 K) 3).trans (if_neg (fun h => absurd h.2 (by decide))))
            have HZ : Hid ((K : Int) < 50 ∨ (decide ((K : Int) < 50) = false ∧ (D q0 K == 0) = true)) := Lib.hid (by
              by_cases h : K < 50
              · exact .inl (by omega)
              · have := D_low HU.out (K - 50)
                rw [show 50 + (K - 50) = K by omega] at this
                exact .inr ⟨by simp; omega, by rw [this]; rfl⟩)
            clear hlt hj hK
            generalize D q0 K = z at *
            rcases HZ.out with k50 | ⟨k50, k51⟩
            all_goals
              go_wp2_with fail
              refine (quality_any w.heap.size _ 1 _ 3 _ h1).mono ?_
              rintro r w' ⟨rfl, rfl⟩
              rw [HO.out]
              go_wp2_with fail
              refine (awake_any _).mono ?_
              rintro r w9 ⟨rfl, b9⟩
              have bb := b1.trans (b9.mono b1.size)
              go_wp2_with fail
              go_ret
              exact ⟨rfl, bb⟩

theorem walk (H : Type) (enc : TypeId × Value → H) : Walk H enc Try.prog 5 Try.f5 := by
  intro W base args ds p hval hA
  rw [Try.params5] at hA hval
  obtain ⟨v0, v1, d0, d1, p0, p1, rfl, rfl, rfl, h0, h1⟩ := trodAll_two hA
  obtain ⟨x, rfl, rfl, rfl, _⟩ := open_int Try.underlying3 (hval 0 _ v0 rfl rfl) h0
  obtain ⟨y, rfl, rfl, rfl, _⟩ := open_int Try.underlying3 (hval 1 _ v1 rfl rfl) h1
  exact body x y W

set_option maxRecDepth 100000 in
theorem lifted (os : Os) (started : os.Started) (H : Type) (enc : TypeId × Value → H) :
    ReturnsInHanded {} Try.checked os 5 .any (Rows.neighFadesSpec.pre6 enc Try.prog Try.f5 Rows.neighFadesRow.domain false) (Rows.neighFadesSpec.post enc Try.prog Try.f5 false true false false) :=
  returnsInHanded_of_change (C := Try.checked) own started (by kernel_rfl) Try.func5
    (ChangeSpec.witness6 (enc := enc) (C := Try.checked) false ⟨#[], #[.int .i64 0, .int .i64 0], []⟩ 8 (by kernel_rfl) (by kernel_rfl) (by kernel_rfl) (by kernel_rfl))
    fun W base args ds gs before hval hW _ _ => step_of_walk laidOut (by rw [Try.params5]; exact of_decide_eq_true (by kernel_rfl)) (by kernel_rfl) Try.underlying4 rfl
      (fun ds h => by
        rw [Try.params5] at h
        match ds, h with
        | [_, _], _ => rfl) (walk H enc) W base args ds gs before hval hW

theorem holds : Rows.NeighFadesSaid :=
  OpenClaim.holds_of_wide 5 Try.f5 rfl rfl rfl rfl rfl rfl rfl ⟨rfl, rfl, rfl, rfl, rfl⟩ rfl rfl rfl rfl rfl (by kernel_rfl) Try.func5 (by kernel_rfl)
    (of_decide_eq_true (by kernel_rfl)) (by unfold Func.isWrapper; first | (rw [if_pos (by decide +kernel)]; kernel_rfl) | (rw [if_neg (by decide +kernel)]; exact ⟨rfl, rfl⟩))
    (fun os started H enc _ => lifted os started H enc)
#print axioms holds
end Go.Proofs.Ytpapkcelgbnkaaa.NeighFades
