/-
  Law DupLate: of the last 64 numbers each is new once, however late it comes, and what is older is not; the call returns true. No condition.
-/
import Derived.Test.YtbogpnfjlmhhhaaDupLaws
set_option maxRecDepth 100000
namespace Go.Proofs.Ytbogpnfjlmhhhaa.DupLate
set_option linter.unusedVariables false
open Go.RowKit Go.ChangeShapes Go.WideShapes Go.ChangeAt Go.Deep Lb Dp
set_option linter.unusedVariables false
theorem own : ownKnob Try.prog.godebug = none := by kernel_rfl
theorem laidOut : laidOutB Try.prog = true := by kernel_rfl

set_option maxHeartbeats 1000000 in
theorem body (t k : Int) (w : World) :
    Calls Try.prog 6 #[.int .i64 t, .int .i64 k] w fun e w' => e = .returned (.bool true) ∧ Below w.heap.size w w' := by
  have ht := u64_pos t
  have hk := u64_pos k
  go_enter Try.func6, Try.ntmps6
  go_wp2_with fail
  refine (new_any _).mono ?_
  rintro r w1 ⟨rfl, k1, b1, z1⟩
  go_wp2_with fail
  have t0 : 100 ≤ 100 + IntKind.u64.wrap t % 1099511627776 ∧ 100 + IntKind.u64.wrap t % 1099511627776 < 1099511627900 := by omega
  have u0 : 0 ≤ IntKind.u64.wrap k % 100 ∧ IntKind.u64.wrap k % 100 < 100 := by omega
  generalize 100 + IntKind.u64.wrap t % 1099511627776 = T at *
  generalize IntKind.u64.wrap k % 100 = K at *
  clear ht hk
  obtain ⟨t0, t1⟩ := t0
  obtain ⟨u0, u1⟩ := u0
  refine (new_is w.heap.size 5 _ _ T true _ k1 (by decide) (by omega) (by omega) (good_zero 0) rfl).mono ?_
  rintro r w2 ⟨rfl, k2, j2⟩
  have n1 : nL 0 0 T = T := by simp [nL]
  have n2 : nS 0 0 T = 1 := by simp [nS]
  rw [n1, n2] at k2
  have gA : DGood T 1 := ⟨by decide, fun _ => ⟨by omega, by omega⟩⟩
  have a2 : isN T 1 (T - K) = decide (0 < K ∧ K < 64) := by
    rw [Bool.eq_iff_iff, isN_iff]
    simp only [decide_eq_true_eq, has]
    have e : T - (T - K) = K := by omega
    rw [e]
    have e2 : Nat.testBit 1 K.toNat = decide (K = 0) := by
      rw [show (1 : Nat) = 2 ^ 0 from rfl, Nat.testBit_two_pow]
      simp
      omega
    rw [e2]
    simp
    omega
  have l3 : nL T 1 (T - K) = T := by unfold nL; rw [if_neg (by omega)]
  have s3 := nS_ne T 1 (T - K)
  have a3 : isN T (nS T 1 (T - K)) (T - K) = false := by
    by_cases hb : 0 < K ∧ K < 64
    · have h1 : has (nL T 1 (T - K)) (nS T 1 (T - K)) (T - K) := (has_new (by rw [a2]; simp [hb])).2 (.inl rfl)
      rw [l3] at h1
      by_cases hh : isN T (nS T 1 (T - K)) (T - K) = true
      · rcases isN_iff.1 hh with h2 | h2 | ⟨_, h2⟩
        · exact absurd h2 s3
        · omega
        · exact absurd h1 h2
      · simpa using hh
    · have h1 := (isN_false (by rw [a2]; simp; omega)).2
      rw [h1, a2]
      simp
      omega
  have l4 : nL T (nS T 1 (T - K)) (T - K) = T ∧ nS T (nS T 1 (T - K)) (T - K) = nS T 1 (T - K) := isN_false a3
  have gB : DGood T (nS T 1 (T - K)) := by
    have := good_step gA (n := T - K) (by omega) (by omega)
    rw [l3] at this
    exact this
  have a5 : isN T (nS T 1 (T - K)) (T + 1) = true := by simp [isN]; omega
  obtain ⟨s, hs⟩ : ∃ s, nS T 1 (T - K) = s := ⟨_, rfl⟩
  rw [hs] at s3 a3 l4 gB a5
  obtain ⟨l4, l5⟩ := l4
  obtain ⟨A, hA⟩ : ∃ A, decide (0 < K ∧ K < 64) = A := ⟨_, rfl⟩
  rw [hA] at a2
  have hA' : (A = true ∧ 0 < K ∧ K < 64) ∨ (A = false ∧ K ≤ 0) ∨ (A = false ∧ decide (K < 64) = false ∧ 0 < K) := by
    cases A <;> simp at hA <;> simp <;> omega
  have hsH := Lib.hid hs
  have l3H := Lib.hid l3
  have l4H := Lib.hid l4
  have l5H := Lib.hid l5
  have a2H := Lib.hid a2
  have a3H := Lib.hid a3
  have a5H := Lib.hid a5
  clear hA hs l3 l4 l5 a2 a3 a5 n1 n2
  rcases hA' with ⟨rfl, v0, v1⟩ | ⟨rfl, v0⟩ | ⟨rfl, v0, v1⟩
  all_goals
    go_wp2_with fail
    refine (new_is w.heap.size 5 _ _ (T - K) _ _ k2 (by decide) (by omega) (by omega) (by simp only [upd_same]; exact gA) (by simp only [upd_same]; exact a2H.out)).mono ?_
    rintro r w3 ⟨rfl, k3, j3⟩
    simp only [upd_same, l3H.out, hsH.out] at k3
    go_wp2_with fail
    refine (new_is w.heap.size 5 _ _ (T - K) false _ k3 (by decide) (by omega) (by omega) (by simp only [upd_same]; exact gB) (by simp only [upd_same]; exact a3H.out)).mono ?_
    rintro r w4 ⟨rfl, k4, j4⟩
    simp only [upd_same, l4H.out, l5H.out] at k4
    go_wp2_with fail
    refine (last_some w.heap.size 5 _ _ _ k4 (by decide) (by simp only [upd_same]; exact s3)).mono ?_
    rintro r w' ⟨rfl, rfl⟩
    simp only [upd_same]
    go_wp2_with fail
    refine (new_is w.heap.size 5 _ _ (T + 1) true _ k4 (by decide) (by omega) (by omega) (by simp only [upd_same]; exact gB) (by simp only [upd_same]; exact a5H.out)).mono ?_
    rintro r w6 ⟨rfl, k6, j6⟩
    go_wp2_with fail
    refine (awake_any _).mono ?_
    rintro r w7 ⟨rfl, b7⟩
    go_wp2_with fail
    go_ret
    have b6 := (((j2.trans j3).trans j4).trans j6).below b1 (Nat.le_refl _) (Nat.le_of_lt z1)
    exact ⟨rfl, b6.trans (b7.mono b6.size)⟩

theorem walk (H : Type) (enc : TypeId × Value → H) : Walk H enc Try.prog 6 Try.f6 := by
  intro W base args ds p hval hA
  rw [Try.params6] at hA hval
  obtain ⟨v0, v1, d0, d1, p0, p1, rfl, rfl, rfl, h0, h1⟩ := trodAll_two hA
  obtain ⟨t, rfl, rfl, rfl, w0⟩ := open_int Try.underlying3 (hval 0 _ v0 rfl rfl) h0
  obtain ⟨k, rfl, rfl, rfl, w1⟩ := open_int Try.underlying3 (hval 1 _ v1 rfl rfl) h1
  exact body t k W

set_option maxRecDepth 100000 in
theorem lifted (os : Os) (started : os.Started) (H : Type) (enc : TypeId × Value → H) :
    ReturnsInHanded {} Try.checked os 6 .any (Rows.dupLateSpec.pre6 enc Try.prog Try.f6 Rows.dupLateRow.domain false) (Rows.dupLateSpec.post enc Try.prog Try.f6 false true false false) :=
  returnsInHanded_of_change (C := Try.checked) own started (by kernel_rfl) Try.func6
    (ChangeSpec.witness6 (enc := enc) (C := Try.checked) false ⟨#[], #[.int .i64 0, .int .i64 0], []⟩ 8 (by kernel_rfl) (by kernel_rfl) (by kernel_rfl) (by kernel_rfl))
    fun W base args ds gs before hval hW _ _ => step_of_walk laidOut (by rw [Try.params6]; exact of_decide_eq_true (by kernel_rfl)) (by kernel_rfl) Try.underlying4 rfl
      (fun ds h => by
        rw [Try.params6] at h
        match ds, h with
        | [_, _], _ => rfl) (walk H enc) W base args ds gs before hval hW

theorem holds : Rows.DupLateSaid :=
  OpenClaim.holds_of_wide 6 Try.f6 rfl rfl rfl rfl rfl rfl rfl ⟨rfl, rfl, rfl, rfl, rfl⟩ rfl rfl rfl rfl rfl (by kernel_rfl) Try.func6 (by kernel_rfl)
    (of_decide_eq_true (by kernel_rfl)) (by unfold Func.isWrapper; first | (rw [if_pos (by decide +kernel)]; kernel_rfl) | (rw [if_neg (by decide +kernel)]; exact ⟨rfl, rfl⟩))
    (fun os started H enc _ => lifted os started H enc)
#print axioms holds
end Go.Proofs.Ytbogpnfjlmhhhaa.DupLate
