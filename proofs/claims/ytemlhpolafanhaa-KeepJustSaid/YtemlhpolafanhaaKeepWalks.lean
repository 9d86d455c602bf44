/-
  Contracts of package keep (chapter 15) and of the reference's keeper, over the block that the keeper is.
-/
import Derived.Test.YtemlhpolafanhaaLib
namespace Go.Proofs.Ytemlhpolafanhaa.Kp
open Go.RowKit Lb

/-- Block b is a keeper: every e slots, s slots since the last sign. -/
def Kee (w : World) (b : Nat) (e s : Int) : Prop := Own w b 37 #[.int .i64 e, .int .i64 s]
def Ref (w : World) (b : Nat) (e s : Int) : Prop := Own w b 28 #[.int .i64 e, .int .i64 s]

theorem new_any (e : Int) (w : World) :
    Calls Try.prog 7 #[.int .i64 e] w fun r w' => r = .returned (.pointer (some ⟨w.heap.size, 0, none⟩)) ∧ Kee w' w.heap.size (min (max e 1) 10000) 0 ∧ Below w.heap.size w w' ∧ w.heap.size < w'.heap.size := by
  go_enter Try.func7, Try.ntmps7
  go_wp2
  go_ret
  exact ⟨rfl, Own.new _ _ _, (Below.refl _ _).alloc (Nat.le_refl _) _, by simp⟩

theorem rnew_any (e : Int) (w : World) :
    Calls Try.prog 8 #[.int .i64 e] w fun r w' => r = .returned (.pointer (some ⟨w.heap.size, 0, none⟩)) ∧ Ref w' w.heap.size (min (max e 1) 10000) 0 ∧ Below w.heap.size w w' ∧ w.heap.size < w'.heap.size := by
  go_enter Try.func8, Try.ntmps8
  go_wp2
  go_ret
  have h : max 1 (min e 10000) = min (max e 1) 10000 := by omega
  exact ⟨rfl, by rw [← h]; exact Own.new _ _ _, (Below.refl _ _).alloc (Nat.le_refl _) _, by simp⟩

theorem slot_any (b : Nat) (e s : Int) (w : World) (h : Kee w b e s) (hs0 : 0 ≤ s) (hs1 : s ≤ 1000000) :
    Calls Try.prog 10 #[.pointer (some ⟨b, 0, none⟩)] w fun r w' => r = .returned (.tuple #[]) ∧ Kee w' b e (min (s + 1) 1000000) ∧ Just b w w' := by
  have h1 : w.cell? ⟨b, 1, none⟩ = some (.int .i64 s) := h.cell 1
  have hf : w.frozen? ⟨b, 1, none⟩ = false := h.free 1
  go_enter Try.func10, Try.ntmps10
  go_wp2
  go_end0
  exact ⟨rfl, h.put 1 _, Just.set _ _ _ _⟩

theorem min_succ (s : Int) (h : s < 1000000) : min (s + 1) 1000000 = s + 1 := by omega
theorem slot_up (b : Nat) (e s : Int) (w : World) (h : Kee w b e s) (hs0 : 0 ≤ s) (hs1 : s < 1000000) :
    Calls Try.prog 10 #[.pointer (some ⟨b, 0, none⟩)] w fun r w' => r = .returned (.tuple #[]) ∧ Kee w' b e (s + 1) ∧ Just b w w' :=
  (slot_any b e s w h hs0 (Int.le_of_lt hs1)).mono fun _ _ ⟨h1, h2, h3⟩ => ⟨h1, by rw [min_succ s hs1] at h2; exact h2, h3⟩

theorem slot_nil (w : World) :
    Calls Try.prog 10 #[.pointer none] w fun r w' => r = .returned (.tuple #[]) ∧ w = w' := by
  go_enter Try.func10, Try.ntmps10
  go_wp2
  go_end0
  exact ⟨rfl, rfl⟩

theorem rslot_any (b : Nat) (e s : Int) (w : World) (h : Ref w b e s) (hs0 : 0 ≤ s) (hs1 : s ≤ 1000000) :
    Calls Try.prog 11 #[.pointer (some ⟨b, 0, none⟩)] w fun r w' => r = .returned (.tuple #[]) ∧ Ref w' b e (min (s + 1) 1000000) ∧ Just b w w' := by
  have h1 : w.cell? ⟨b, 1, none⟩ = some (.int .i64 s) := h.cell 1
  have hf : w.frozen? ⟨b, 1, none⟩ = false := h.free 1
  go_enter Try.func11, Try.ntmps11
  go_wp2
  go_end0
  exact ⟨rfl, h.put 1 _, Just.set _ _ _ _⟩

theorem rdue_any (b : Nat) (e s : Int) (w : World) (h : Ref w b e s) :
    Calls Try.prog 13 #[.pointer (some ⟨b, 0, none⟩)] w fun r w' => r = .returned (.bool (decide (e ≤ s))) ∧ ∃ n, w.drewN n = w' := by
  have h0 : w.cell? ⟨b, 0, none⟩ = some (.int .i64 e) := h.cell 0
  have h1 : w.cell? ⟨b, 1, none⟩ = some (.int .i64 s) := h.cell 1
  go_enter Try.func13, Try.ntmps13
  go_wp2
  go_quiet (fail)
  go_wp2
  go_ret
  exact ⟨rfl, _, rfl⟩

theorem heard_any (b : Nat) (e s : Int) (w : World) (h : Kee w b e s) :
    Calls Try.prog 9 #[.pointer (some ⟨b, 0, none⟩)] w fun r w' => r = .returned (.tuple #[]) ∧ Kee w' b e 0 ∧ Just b w w' := by
  have h1 : w.cell? ⟨b, 1, none⟩ = some (.int .i64 s) := h.cell 1
  have hf : w.frozen? ⟨b, 1, none⟩ = false := h.free 1
  go_enter Try.func9, Try.ntmps9
  go_wp2
  go_end0
  exact ⟨rfl, h.put 1 _, Just.set _ _ _ _⟩

theorem heard_nil (w : World) :
    Calls Try.prog 9 #[.pointer none] w fun r w' => r = .returned (.tuple #[]) ∧ w = w' := by
  go_enter Try.func9, Try.ntmps9
  go_wp2
  go_end0
  exact ⟨rfl, rfl⟩

theorem due_any (b : Nat) (e s : Int) (w : World) (h : Kee w b e s) :
    Calls Try.prog 12 #[.pointer (some ⟨b, 0, none⟩)] w fun r w' => r = .returned (.bool (decide (e ≤ s))) ∧ ∃ n, w.drewN n = w' := by
  have h0 : w.cell? ⟨b, 0, none⟩ = some (.int .i64 e) := h.cell 0
  have h1 : w.cell? ⟨b, 1, none⟩ = some (.int .i64 s) := h.cell 1
  go_enter Try.func12, Try.ntmps12
  go_wp2
  go_quiet (fail)
  go_wp2
  go_ret
  exact ⟨rfl, _, rfl⟩

theorem due_nil (w : World) :
    Calls Try.prog 12 #[.pointer none] w fun r w' => r = .returned (.bool false) ∧ ∃ n, w.drewN n = w' := by
  go_enter Try.func12, Try.ntmps12
  go_wp2
  go_quiet (fail)
  go_wp2
  go_ret
  exact ⟨rfl, _, rfl⟩

theorem since_any (b : Nat) (e s : Int) (w : World) (h : Kee w b e s) :
    Calls Try.prog 14 #[.pointer (some ⟨b, 0, none⟩)] w fun r w' => r = .returned (.int .i64 s) ∧ w = w' := by
  have h1 : w.cell? ⟨b, 1, none⟩ = some (.int .i64 s) := h.cell 1
  go_enter Try.func14, Try.ntmps14
  go_wp2
  go_ret
  exact ⟨rfl, rfl⟩

theorem since_nil (w : World) :
    Calls Try.prog 14 #[.pointer none] w fun r w' => r = .returned (.int .i64 0) ∧ w = w' := by
  go_enter Try.func14, Try.ntmps14
  go_wp2
  go_ret
  exact ⟨rfl, rfl⟩

set_option maxHeartbeats 400000 in
theorem awake_any (w : World) :
    Calls Try.prog 15 #[] w fun r w' => r = .returned (.bool true) ∧ Below w.heap.size w w' := by
  go_enter Try.func15, Try.ntmps15
  go_wp2_with fail
  refine (new_any _ _).mono ?_
  rintro e w1 ⟨rfl, k1, b1, z1⟩
  replace k1 : Kee w1 w.heap.size 2 0 := k1
  go_wp2_with fail
  refine (slot_any _ _ _ _ k1 (by omega) (by omega)).mono ?_
  rintro e w2 ⟨rfl, k2, j2⟩
  replace k2 : Kee w2 w.heap.size 2 1 := k2
  have b2 := j2.below b1 (Nat.le_refl _) (by omega)
  go_wp2_with fail
  refine (due_any _ _ _ _ k2).mono ?_
  rintro e w' ⟨rfl, n, rfl⟩
  go_wp2_with fail
  refine (slot_any _ _ _ _ (Own.drewN k2 n) (by omega) (by omega)).mono ?_
  rintro e w3 ⟨rfl, k3, j3⟩
  replace k3 : Kee w3 w.heap.size 2 2 := k3
  have b3 := j3.below (below_drewN b2 n) (Nat.le_refl _) (by have := b2.size; simpa using this)
  go_wp2_with fail
  refine (due_any _ _ _ _ k3).mono ?_
  rintro e w' ⟨rfl, n2, rfl⟩
  go_wp2_with fail
  refine (since_any _ _ _ _ (Own.drewN k3 n2)).mono ?_
  rintro e w' ⟨rfl, rfl⟩
  go_wp2_with fail
  go_ret
  exact ⟨rfl, below_drewN b3 _⟩
end Go.Proofs.Ytemlhpolafanhaa.Kp
