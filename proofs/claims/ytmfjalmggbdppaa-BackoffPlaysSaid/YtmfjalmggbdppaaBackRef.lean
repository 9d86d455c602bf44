/-
  Contracts of the reference's backoff, of awake, and of a backoff that there isn't.
-/
import Derived.Test.YtmfjalmggbdppaaBackWalks
set_option maxRecDepth 100000
namespace Go.Proofs.Ytmfjalmggbdppaa.Bk
set_option linter.unusedVariables false
open Go.RowKit Lb

theorem ref_new (l m n : Int) (w : World) :
    Calls Try.prog 8 #[.int .i64 l, .int .i64 m, .int .u32 n] w fun r w' => r = .returned (.pointer (some ⟨w.heap.size, 0, none⟩)) ∧ Ref w' w.heap.size (lo l) (hi l m) (lo l) 0 n ∧ Below w.heap.size w w' ∧ w.heap.size < w'.heap.size := by
  have e1 : max 0 (min l 8) = lo l := rfl
  have e2 : max (lo l) (min m 8) = hi l m := rfl
  go_enter Try.func8, Try.ntmps8
  go_wp2_with fail
  go_ret
  exact ⟨rfl, Own.new _ _ _, (Below.refl _ _).alloc (Nat.le_refl _) _, by simp⟩

theorem ref_slot (b : Nat) (l m e t n : Int) (w : World) (h : Ref w b l m e t n) (h0 : 0 ≤ t) (h1 : t < 1000000) :
    Calls Try.prog 10 #[.pointer (some ⟨b, 0, none⟩)] w fun r w' => r = .returned (.tuple #[]) ∧ Ref w' b l m e (max 0 (t - 1)) n ∧ Just b w w' := by
  have c3 : w.cell? ⟨b, 3, none⟩ = some (.int .i64 t) := h.cell 3
  have f3 : w.frozen? ⟨b, 3, none⟩ = false := h.free 3
  have e1 : IntKind.i64.wrap (t - 1) = t - 1 := IntWalk.i64_in _ (by omega)
  go_enter Try.func10, Try.ntmps10
  go_wp2_with fail
  go_end0
  exact ⟨rfl, Own.put h 3 _, Just.set b w 3 _⟩

theorem ref_true (b : Nat) (l m e t n : Int) (w : World) (h : Ref w b l m e t n) :
    Calls Try.prog 12 #[.pointer (some ⟨b, 0, none⟩), .bool true] w fun r w' => r = .returned (.tuple #[]) ∧ Ref w' b l m l 0 n ∧ Just b w w' := by
  have c0 : w.cell? ⟨b, 0, none⟩ = some (.int .i64 l) := h.cell 0
  have c2 : w.cell? ⟨b, 2, none⟩ = some (.int .i64 e) := h.cell 2
  have c3 : w.cell? ⟨b, 3, none⟩ = some (.int .i64 t) := h.cell 3
  have f2 : w.frozen? ⟨b, 2, none⟩ = false := h.free 2
  have f3 : w.frozen? ⟨b, 3, none⟩ = false := h.free 3
  go_enter Try.func12, Try.ntmps12
  go_wp2_with fail
  refine bodyPost_ret (results_none rfl _ _ _) rfl ?_
  exact ⟨rfl, Own.put (Own.put h 2 _) 3 _, (Just.set b w 2 _).put 3 _⟩

theorem rem_wait (n : Int) (k : Nat) : (n * 1664525 + 1013904223) % 4294967296 / 65536 % ((2 ^ k : Nat) : Int) = wait n k := by
  have e : (n * 1664525 + 1013904223) % 4294967296 = nxt n := rfl
  rw [e]; unfold wait; push_cast; rfl
theorem rem_nought (n : Int) : 0 = wait n 0 := by
  have := rem_wait n 0
  rw [Int.natCast_zero] at this
  rw [← this]; simp [Int.emod_one]

set_option maxHeartbeats 4000000 in
theorem ref_false (b : Nat) (l m e t n : Int) (w : World) (h : Ref w b l m e t n) (he0 : 0 ≤ e) (he8 : e ≤ 8) (hm0 : 0 ≤ m) (hm8 : m ≤ 8) :
    Calls Try.prog 12 #[.pointer (some ⟨b, 0, none⟩), .bool false] w fun r w' => r = .returned (.tuple #[]) ∧ Ref w' b l m (min (e + 1) m) (wait n (min (e + 1) m)) (nxt n) ∧ Just b w w' := by
  have c1 : w.cell? ⟨b, 1, none⟩ = some (.int .i64 m) := h.cell 1
  have c2 : w.cell? ⟨b, 2, none⟩ = some (.int .i64 e) := h.cell 2
  have c3 : w.cell? ⟨b, 3, none⟩ = some (.int .i64 t) := h.cell 3
  have c4 : w.cell? ⟨b, 4, none⟩ = some (.int .u32 n) := h.cell 4
  have f2 : w.frozen? ⟨b, 2, none⟩ = false := h.free 2
  have f3 : w.frozen? ⟨b, 3, none⟩ = false := h.free 3
  have f4 : w.frozen? ⟨b, 4, none⟩ = false := h.free 4
  obtain ⟨k, hk, hk0, hk8⟩ : ∃ k : Int, min (e + 1) m = k ∧ 0 ≤ k ∧ k ≤ 8 := ⟨_, rfl, by omega, by omega⟩
  have hk' : min m (e + 1) = k := by omega
  rw [hk]
  have e1 : IntKind.i64.wrap (e + 1) = e + 1 := IntWalk.i64_in _ (by omega)
  go_enter Try.func12, Try.ntmps12
  go_wp2_with fail
  go_region
  all_goals
    go_wp2_with fail
    rcases (show k = 0 ∨ k = 1 ∨ k = 2 ∨ k = 3 ∨ k = 4 ∨ k = 5 ∨ k = 6 ∨ k = 7 ∨ k = 8 by omega) with hkk | hkk | hkk | hkk | hkk | hkk | hkk | hkk | hkk
    all_goals
      subst hkk
      go_region
      all_goals
        go_end0
        refine ⟨rfl, ?_, (((Just.set b w 2 _).put 4 _).put 3 _).drewN 2⟩
        first
          | (rw [← rem_nought n]; exact (Own.put (Own.put (Own.put h 2 _) 4 _) 3 _))
          | (rw [show wait n 1 = _ from (rem_wait n 1).symm]; exact (Own.put (Own.put (Own.put h 2 _) 4 _) 3 _))
          | (rw [show wait n 2 = _ from (rem_wait n 2).symm]; exact (Own.put (Own.put (Own.put h 2 _) 4 _) 3 _))
          | (rw [show wait n 3 = _ from (rem_wait n 3).symm]; exact (Own.put (Own.put (Own.put h 2 _) 4 _) 3 _))
          | (rw [show wait n 4 = _ from (rem_wait n 4).symm]; exact (Own.put (Own.put (Own.put h 2 _) 4 _) 3 _))
          | (rw [show wait n 5 = _ from (rem_wait n 5).symm]; exact (Own.put (Own.put (Own.put h 2 _) 4 _) 3 _))
          | (rw [show wait n 6 = _ from (rem_wait n 6).symm]; exact (Own.put (Own.put (Own.put h 2 _) 4 _) 3 _))
          | (rw [show wait n 7 = _ from (rem_wait n 7).symm]; exact (Own.put (Own.put (Own.put h 2 _) 4 _) 3 _))
          | (rw [show wait n 8 = _ from (rem_wait n 8).symm]; exact (Own.put (Own.put (Own.put h 2 _) 4 _) 3 _))

theorem slot_nil (w : World) :
    Calls Try.prog 9 #[.pointer none] w fun r w' => r = .returned (.tuple #[]) ∧ w = w' := by
  go_enter Try.func9, Try.ntmps9
  go_wp2_with fail
  go_end0
  exact ⟨rfl, rfl⟩
theorem sent_nil (o : Bool) (w : World) :
    Calls Try.prog 11 #[.pointer none, .bool o] w fun r w' => r = .returned (.tuple #[]) ∧ w = w' := by
  go_enter Try.func11, Try.ntmps11
  go_wp2_with fail
  refine bodyPost_ret (results_none rfl _ _ _) rfl ?_
  exact ⟨rfl, rfl⟩
theorem free_nil (w : World) :
    Calls Try.prog 15 #[.pointer none] w fun r w' => r = .returned (.bool false) ∧ w = w' := by
  go_enter Try.func15, Try.ntmps15
  go_wp2_with fail
  go_ret
  exact ⟨rfl, rfl⟩
theorem wait_nil (w : World) :
    Calls Try.prog 13 #[.pointer none] w fun r w' => r = .returned (.int .i64 0) ∧ w = w' := by
  go_enter Try.func13, Try.ntmps13
  go_wp2_with fail
  go_ret
  exact ⟨rfl, rfl⟩
theorem exponent_nil (w : World) :
    Calls Try.prog 14 #[.pointer none] w fun r w' => r = .returned (.int .i64 0) ∧ w = w' := by
  go_enter Try.func14, Try.ntmps14
  go_wp2_with fail
  go_ret
  exact ⟨rfl, rfl⟩

theorem awake_any (w : World) :
    Calls Try.prog 16 #[] w fun r w' => r = .returned (.bool true) ∧ Below w.heap.size w w' := by
  go_enter Try.func16, Try.ntmps16
  go_wp2_with fail
  refine (new_any _ _ _ _).mono ?_
  rintro r w2 ⟨rfl, h2, b2, s2⟩
  have h2' : Bk w2 w.heap.size 1 5 1 0 0 := h2
  go_wp2_with fail
  refine (sent_false _ 1 5 1 0 0 w2 h2' (by decide) (by decide) (by decide) (by decide)).mono ?_
  rintro r w3 ⟨rfl, h3, b3⟩
  have h4 : Bk w3 w.heap.size 1 5 2 2 1013904223 := h3
  have b4 : Below w.heap.size w w3 := b3.below b2 (Nat.le_refl _) (Nat.le_of_lt s2)
  clear h3 h2 b3 b2
  go_wp2_with fail
  refine (exponent_any _ _ _ _ _ _ _ h4).mono ?_
  rintro r w' ⟨rfl, rfl⟩
  go_wp2_with fail
  refine (wait_any _ _ _ _ _ _ _ h4).mono ?_
  rintro r w' ⟨rfl, rfl⟩
  go_wp2_with fail
  refine (free_any _ _ _ _ _ _ _ h4).mono ?_
  rintro r w' ⟨rfl, rfl⟩
  go_wp2_with fail
  refine (wait_any _ _ _ _ _ _ _ h4).mono ?_
  rintro r w' ⟨rfl, rfl⟩
  go_wp2_with fail
  go_ret
  exact ⟨rfl, b4⟩
end Go.Proofs.Ytmfjalmggbdppaa.Bk
