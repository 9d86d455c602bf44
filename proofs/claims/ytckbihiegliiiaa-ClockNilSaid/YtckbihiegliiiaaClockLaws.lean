/-
  What the laws of package clock share: the known clock; clocks behind slots; sums.
-/
import Derived.Test.YtckbihiegliiiaaClockWalks
set_option maxRecDepth 100000
namespace Go.Proofs.Ytckbihiegliiiaa.Ck
open Go.RowKit Lb

theorem lim_in (n m : Int) (h0 : -m ≤ n) (h1 : n ≤ m) : lim n m = n := by unfold lim; omega

set_option maxHeartbeats 1000000 in
theorem awake_any (w : World) :
    Calls Try.prog 19 #[] w fun r w' => r = .returned (.bool true) ∧ Below w.heap.size w w' := by
  go_enter Try.func19, Try.ntmps19
  go_wp2_with fail
  refine (new_any _).mono ?_
  rintro r w1 ⟨rfl, k1, b1, z1⟩
  go_wp2_with fail
  refine (slot_any _ _ _ _ _ _ k1 (by omega) (by omega) (by omega) (by omega)).mono ?_
  rintro r w2 ⟨rfl, k2, j2⟩
  replace k2 : Clk w2 w.heap.size 0 500000 1 := k2
  have b2 := j2.below b1 (Nat.le_refl _) (Nat.le_of_lt z1)
  have z2 := Nat.lt_of_lt_of_le z1 j2.size
  go_wp2_with fail
  refine (slot_any _ _ _ _ _ _ k2 (by omega) (by omega) (by omega) (by omega)).mono ?_
  rintro r w3 ⟨rfl, k3, j3⟩
  replace k3 : Clk w3 w.heap.size 0 1000000 2 := k3
  have b3 := j3.below b2 (Nat.le_refl _) (Nat.le_of_lt z2)
  have z3 := Nat.lt_of_lt_of_le z2 j3.size
  have h3 : off 0 1000000 = 1 := rfl
  go_wp2_with fail
  refine (off_any _ _ _ _ _ k3 (by omega) (by omega) (by omega) (by omega)).mono ?_
  rintro r w' ⟨rfl, n3, rfl⟩
  rw [h3]
  clear h3
  go_wp2_with fail
  refine (slot_any _ _ _ _ _ _ (Own.drewN k3 n3) (by omega) (by omega) (by omega) (by omega)).mono ?_
  rintro r w4 ⟨rfl, k4, j4⟩
  replace k4 : Clk w4 w.heap.size 0 0 3 := k4
  have b4 := j4.below (below_drewN b3 n3) (Nat.le_refl _) (Nat.le_of_lt z3)
  have h4 : off 0 0 = 0 := rfl
  go_wp2_with fail
  refine (off_any _ _ _ _ _ k4 (by omega) (by omega) (by omega) (by omega)).mono ?_
  rintro r w' ⟨rfl, n4, rfl⟩
  rw [h4]
  clear h4
  go_wp2_with fail
  refine (slots_any _ _ _ _ _ (Own.drewN k4 n4)).mono ?_
  rintro r w' ⟨rfl, rfl⟩
  go_wp2_with fail
  go_ret
  exact ⟨rfl, below_drewN b4 _⟩

theorem awake_behind {w wr : World} (bb : Below w.heap.size w wr) : Calls Try.prog 19 #[] wr fun r w' => r = .returned (.bool true) ∧ Below w.heap.size w w' :=
  (awake_any wr).mono fun _ _ ⟨h1, h2⟩ => ⟨h1, bb.trans (h2.mono bb.size)⟩
end Go.Proofs.Ytckbihiegliiiaa.Ck
