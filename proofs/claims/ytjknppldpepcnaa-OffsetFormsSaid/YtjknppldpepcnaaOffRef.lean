/-
  Contracts of the reference's measure, guard and proof (chapter 13).
-/
import Derived.Test.YtjknppldpepcnaaOffLaws
import Derived.Test.YtjknppldpepcnaaOwn
set_option maxRecDepth 100000
namespace Go.Proofs.Ytjknppldpepcnaa.Of
set_option linter.unusedVariables false
open Go.RowKit Lb

theorem infoL : (Try.prog.info? 2).map (fun i => (i.zero, i.size, i.bytes)) = some (some (.int .i64 0), 1, 8) := by kernel_rfl

theorem ref_clamp (n l m : Int) (w : World) (h : l ≤ m) :
    Calls Try.prog 26 #[.int .i64 n, .int .i64 l, .int .i64 m] w fun r w' => r = .returned (.int .i64 (lim n l m)) ∧ w = w' := by
  have e : lim n l m = max l (min n m) := by unfold lim; omega
  rw [e]
  clear e
  go_enter Try.func26, Try.ntmps26
  go_wp2
  go_ret
  exact ⟨rfl, rfl⟩

set_option maxHeartbeats 1000000 in
theorem ref_measure (m t e x : Int) (w : World) (hx : -9223372036854775808 ≤ x ∧ x ≤ 9223372036854775807) :
    Calls Try.prog 10 #[.int .i64 m, .int .i64 t, .int .i64 e, .int .i64 x] w fun r w' => r = .returned (.int .i64 (meas m t e x)) ∧ w = w' := by
  have a0 := lim_low x 0 1000 (by omega)
  have a1 := lim_high x 0 1000
  have b0 := lim_low t (-1000000000000) 1000000000000 (by omega)
  have b1 := lim_high t (-1000000000000) 1000000000000
  have c0 := lim_low m (-1000000000000) 1000000000000 (by omega)
  have c1 := lim_high m (-1000000000000) 1000000000000
  have d0 := lim_low e (-lim x 0 1000) (lim x 0 1000) (by omega)
  have d1 := lim_high e (-lim x 0 1000) (lim x 0 1000)
  have hH : Hid (meas m t e x = lim (lim t (-1000000000000) 1000000000000 - lim m (-1000000000000) 1000000000000 + lim e (-lim x 0 1000) (lim x 0 1000)) (-30000) 30000) := Lib.hid rfl
  rw [hH.out]
  have g0 := lim_low (lim t (-1000000000000) 1000000000000 - lim m (-1000000000000) 1000000000000 + lim e (-lim x 0 1000) (lim x 0 1000)) (-30000) 30000 (by omega)
  have g1 := lim_high (lim t (-1000000000000) 1000000000000 - lim m (-1000000000000) 1000000000000 + lim e (-lim x 0 1000) (lim x 0 1000)) (-30000) 30000
  clear hH
  go_enter Try.func10, Try.ntmps10
  go_wp2_with fail
  refine (ref_clamp _ _ _ _ (by omega)).mono ?_
  rintro r w' ⟨rfl, rfl⟩
  go_wp2_with fail
  refine (ref_clamp _ _ _ _ (by omega)).mono ?_
  rintro r w' ⟨rfl, rfl⟩
  go_wp2_with fail
  refine (ref_clamp _ _ _ _ (by omega)).mono ?_
  rintro r w' ⟨rfl, rfl⟩
  go_wp2_with fail
  refine (ref_clamp _ _ _ _ (by omega)).mono ?_
  rintro r w' ⟨rfl, rfl⟩
  go_wp2_with fail
  refine (ref_clamp _ _ _ _ (by omega)).mono ?_
  rintro r w' ⟨rfl, rfl⟩
  go_wp2_with fail
  go_ret
  exact ⟨rfl, rfl⟩

theorem ref_within (m t g : Int) (w : World) (hm : -9223372036854775808 ≤ m ∧ m ≤ 9223372036854775807) (ht : -9223372036854775808 ≤ t ∧ t ≤ 9223372036854775807) (hg : g ≤ 9223372036854775807) :
    Calls Try.prog 12 #[.int .i64 m, .int .i64 t, .int .i64 g] w fun r w' => r = .returned (.bool (within m t g)) ∧ w = w' := by
  obtain ⟨m0, m1⟩ := hm
  obtain ⟨t0, t1⟩ := ht
  have e1 : IntKind.u64.wrap (IntKind.u64.wrap t - IntKind.u64.wrap m) = if m ≤ t then t - m else t - m + 18446744073709551616 := by
    rw [IntKind.wrap_u64, IntKind.wrap_u64, IntKind.wrap_u64]
    split <;> omega
  have e2 : IntKind.u64.wrap (IntKind.u64.wrap m - IntKind.u64.wrap t) = if t ≤ m then m - t else m - t + 18446744073709551616 := by
    rw [IntKind.wrap_u64, IntKind.wrap_u64, IntKind.wrap_u64]
    split <;> omega
  by_cases h0 : 0 ≤ g
  · have e3 : IntKind.u64.wrap g = g := by rw [IntKind.wrap_u64]; omega
    by_cases h : t < m
    · have hw : within m t g = decide (m - t ≤ g) := by unfold within; rw [Bool.eq_iff_iff]; simp; omega
      rw [hw]
      clear hw e1
      rw [if_pos (by omega)] at e2
      go_enter Try.func12, Try.ntmps12
      go_wp2_with fail
      go_ret
      exact ⟨rfl, rfl⟩
    · have hw : within m t g = decide (t - m ≤ g) := by unfold within; rw [Bool.eq_iff_iff]; simp; omega
      have h' : m ≤ t := by omega
      rw [hw]
      clear hw e2
      rw [if_pos (by omega)] at e1
      go_enter Try.func12, Try.ntmps12
      go_wp2_with fail
      go_ret
      exact ⟨rfl, rfl⟩
  · have h0' : g < 0 := by omega
    have hw : within m t g = false := by unfold within; simp; omega
    rw [hw]
    clear hw h0 e1 e2
    by_cases h : t < m
    · go_enter Try.func12, Try.ntmps12
      go_wp2_with fail
      go_ret
      exact ⟨rfl, rfl⟩
    · have h' : m ≤ t := by omega
      go_enter Try.func12, Try.ntmps12
      go_wp2_with fail
      go_ret
      exact ⟨rfl, rfl⟩
end Go.Proofs.Ytjknppldpepcnaa.Of
