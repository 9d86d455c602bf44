/-
  What the laws of package offset share: contracts of Measure and Within, and what every program must know.
-/
import Derived.Test.YtjknppldpepcnaaOffWalks
import Derived.Laws.Bits64
set_option maxRecDepth 100000
namespace Go.Proofs.Ytjknppldpepcnaa.Of
set_option linter.unusedVariables false
open Go.RowKit Lb

def far (n : Int) : Int := lim n (-1000000000000) 1000000000000
def meas (m t e x : Int) : Int := lim (far t - far m + lim e (-lim x 0 1000) (lim x 0 1000)) (-30000) 30000
def within (m t g : Int) : Bool := decide (0 ≤ g ∧ max m t - min m t ≤ g)

set_option maxHeartbeats 1000000 in
theorem measure_any (m t e x : Int) (w : World) (hx : -9223372036854775808 ≤ x ∧ x ≤ 9223372036854775807) :
    Calls Try.prog 9 #[.int .i64 m, .int .i64 t, .int .i64 e, .int .i64 x] w fun r w' => r = .returned (.int .i64 (meas m t e x)) ∧ w = w' := by
  have a0 := lim_low x 0 1000 (by omega)
  have a1 := lim_high x 0 1000
  have b0 := lim_low t (-1000000000000) 1000000000000 (by omega)
  have b1 := lim_high t (-1000000000000) 1000000000000
  have c0 := lim_low m (-1000000000000) 1000000000000 (by omega)
  have c1 := lim_high m (-1000000000000) 1000000000000
  have d0 := lim_low e (-lim x 0 1000) (lim x 0 1000) (by omega)
  have d1 := lim_high e (-lim x 0 1000) (lim x 0 1000)
  have hH : Hid (meas m t e x = lim (lim t (-1000000000000) 1000000000000 - lim m (-1000000000000) 1000000000000 + lim e (-lim x 0 1000) (lim x 0 1000)) (-30000) 30000) := Lib.hid rfl
  rw [hH.out]
  have g0 := lim_low (lim t (-1000000000000) 1000000000000 - lim m (-1000000000000) 1000000000000 + lim e (-lim x 0 1000) (lim x 0 1000)) (-30000) 30000 (by omega)
  have g1 := lim_high (lim t (-1000000000000) 1000000000000 - lim m (-1000000000000) 1000000000000 + lim e (-lim x 0 1000) (lim x 0 1000)) (-30000) 30000
  clear hH
  go_enter Try.func9, Try.ntmps9
  go_wp2_with fail
  refine (cut_int _ _ _ _ (by omega)).mono ?_
  rintro r w' ⟨rfl, rfl⟩
  go_wp2_with fail
  refine (cut_long _ _ _ _ (by omega)).mono ?_
  rintro r w' ⟨rfl, rfl⟩
  go_wp2_with fail
  refine (cut_long _ _ _ _ (by omega)).mono ?_
  rintro r w' ⟨rfl, rfl⟩
  go_wp2_with fail
  refine (cut_int _ _ _ _ (by omega)).mono ?_
  rintro r w' ⟨rfl, rfl⟩
  go_wp2_with fail
  refine (cut_long _ _ _ _ (by omega)).mono ?_
  rintro r w' ⟨rfl, rfl⟩
  go_wp2_with fail
  go_ret
  exact ⟨rfl, rfl⟩

theorem within_any (m t g : Int) (w : World) (hm : -9223372036854775808 ≤ m ∧ m ≤ 9223372036854775807) (ht : -9223372036854775808 ≤ t ∧ t ≤ 9223372036854775807) (hg : g ≤ 9223372036854775807) :
    Calls Try.prog 11 #[.int .i64 m, .int .i64 t, .int .i64 g] w fun r w' => r = .returned (.bool (within m t g)) ∧ w = w' := by
  obtain ⟨m0, m1⟩ := hm
  obtain ⟨t0, t1⟩ := ht
  by_cases h0 : g < 0
  · have hw : within m t g = false := by unfold within; simp; omega
    rw [hw]
    clear hw
    go_enter Try.func11, Try.ntmps11
    go_wp2_with fail
    go_ret
    exact ⟨rfl, rfl⟩
  · have h0 : 0 ≤ g := by omega
    have hw : within m t g = decide (max m t - min m t ≤ g) := by unfold within; rw [Bool.eq_iff_iff]; simp; omega
    have e1 : IntKind.u64.wrap (IntKind.u64.wrap (max m t) - IntKind.u64.wrap (min m t)) = max m t - min m t := by
      rw [IntKind.wrap_u64, IntKind.wrap_u64, IntKind.wrap_u64]
      omega
    have e2 : IntKind.u64.wrap g = g := by rw [IntKind.wrap_u64]; omega
    rw [hw]
    clear hw
    go_enter Try.func11, Try.ntmps11
    go_wp2_with fail
    go_ret
    exact ⟨rfl, rfl⟩

set_option maxHeartbeats 1000000 in
theorem awake_any (w : World) :
    Calls Try.prog 13 #[] w fun r w' => r = .returned (.bool true) ∧ Below w.heap.size w w' := by
  go_enter Try.func13, Try.ntmps13
  go_wp2_with fail
  refine (new_any 3 _).mono ?_
  rintro r w1 ⟨rfl, k1, b1, z1⟩
  rw [show (lim 3 1 16).toNat = 3 from by decide] at k1
  go_wp2_with fail
  refine (heard_some _ 3 1 0 3 _ _ _ k1 (by decide) (by decide) (by decide) (by decide) (by decide) rfl (by decide) (by decide)).mono ?_
  rintro r w2 ⟨rfl, k2, j2⟩
  go_wp2_with fail
  refine (slot_any _ 3 _ _ _ k2 (by decide) (by decide) (fun i => ?_)).mono ?_
  · unfold upd; split
    · decide
    · show (-1000000000000 : Int) ≤ 0; decide
  rintro r w3 ⟨rfl, k3, j3⟩
  go_wp2_with fail
  refine (bound_in _ 3 1 _ _ _ k3 (by decide) (by decide)).mono ?_
  rintro r w4 ⟨rfl, m4, rfl⟩
  rw [show tick 3 (upd (upd (fun x => false) 0 true) 1 true) (upd (fun x => 0) 1 ((fun x => 0) 0 + lim 3 0 1000)) 3 1 = 4 from by decide, show upd (upd (fun x => false) 0 true) 1 true 1 = true from rfl]
  go_wp2_with fail
  refine (bound_in _ 3 2 _ _ _ (Blk.drewN k3 _) (by decide) (by decide)).mono ?_
  rintro r w5 ⟨rfl, m5, rfl⟩
  rw [show upd (upd (fun x => false) 0 true) 1 true 2 = false from rfl]
  go_wp2_with fail
  refine (measure_any 10 25 2 5 _ (by decide)).mono ?_
  rintro r w' ⟨rfl, rfl⟩
  rw [show meas 10 25 2 5 = 17 from by decide]
  go_wp2_with fail
  refine (within_any 10 15 5 _ (by decide) (by decide) (by decide)).mono ?_
  rintro r w' ⟨rfl, rfl⟩
  rw [show within 10 15 5 = true from by decide]
  go_wp2_with fail
  go_ret
  exact ⟨rfl, below_drewN ((j2.trans j3).below b1 (Nat.le_refl _) (Nat.le_of_lt z1)) _⟩
end Go.Proofs.Ytjknppldpepcnaa.Of
