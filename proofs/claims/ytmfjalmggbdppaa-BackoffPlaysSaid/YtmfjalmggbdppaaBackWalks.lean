/-
  Contracts of package backoff (chapter 11) and of the reference's, over the block that it is.
-/
import Derived.Test.YtmfjalmggbdppaaLib
import Derived.Deep.RegionWith
import Derived.Lib.Hide
import Derived.Laws.BitsAllLaws
set_option maxRecDepth 100000
namespace Go.Proofs.Ytmfjalmggbdppaa.Bk
set_option linter.unusedVariables false
open Go.RowKit Lb

def Bk (w : World) (b : Nat) (l m e t n : Int) : Prop := Own w b 41 #[.int .i64 l, .int .i64 m, .int .i64 e, .int .i64 t, .int .u32 n]
def Ref (w : World) (b : Nat) (l m e t n : Int) : Prop := Own w b 31 #[.int .i64 l, .int .i64 m, .int .i64 e, .int .i64 t, .int .u32 n]
def lo (l : Int) : Int := max 0 (min l 8)
def hi (l m : Int) : Int := max (lo l) (min m 8)
def nxt (n : Int) : Int := IntKind.u32.wrap (n * 1664525 + 1013904223)
def wait (n : Int) (e : Int) : Int := nxt n / 65536 % 2 ^ e.toNat

theorem and_mask (q : Int) (h0 : 0 ≤ q) (h1 : q < 4294967296) (k : Nat) (hk : k ≤ 8) : bits .and .u32 q ((2 ^ k - 1 : Nat) : Int) = q % ((2 ^ k : Nat) : Int) := by
  obtain ⟨x, rfl⟩ := Int.eq_ofNat_of_zero_le h0
  have hp : 2 ^ k ≤ 2 ^ 8 := Nat.pow_le_pow_right (by omega) hk
  have hm := Nat.mod_lt x (Nat.two_pow_pos k)
  show IntKind.u32.wrap ((BitVec.ofInt 32 (x : Int) &&& BitVec.ofInt 32 ((2 ^ k - 1 : Nat) : Int)).toNat : Int) = _
  rw [BitVec.toNat_and, ofInt_u32 x (by omega), ofInt_u32 (2 ^ k - 1) (by omega), Nat.and_two_pow_sub_one_eq_mod]
  rw [show ((x : Int) % ((2 ^ k : Nat) : Int)) = ((x % 2 ^ k : Nat) : Int) by push_cast; rfl]
  show ((x % 2 ^ k : Nat) : Int) % 4294967296 = _
  omega
theorem nxt_low (n : Int) : 0 ≤ nxt n := by show 0 ≤ (n * 1664525 + 1013904223) % 4294967296; omega
theorem nxt_high (n : Int) : nxt n < 4294967296 := by show (n * 1664525 + 1013904223) % 4294967296 < 4294967296; omega
theorem wait_low (n e : Int) : 0 ≤ wait n e := by unfold wait; exact Int.emod_nonneg _ (by have := Int.pow_pos (n := 2) (m := e.toNat) (by omega); omega)
theorem wait_high (n e : Int) (h0 : 0 ≤ e) (h8 : e ≤ 8) : wait n e < 256 := by
  unfold wait
  have h : (2 : Int) ^ e.toNat ≤ 256 := by
    rcases (show e = 0 ∨ e = 1 ∨ e = 2 ∨ e = 3 ∨ e = 4 ∨ e = 5 ∨ e = 6 ∨ e = 7 ∨ e = 8 by omega) with h | h | h | h | h | h | h | h | h <;> subst h <;> decide
  have := Int.emod_lt_of_pos (nxt n / 65536) (Int.pow_pos (n := 2) (m := e.toNat) (by omega))
  omega
theorem wait_mask (n : Int) (k : Nat) (hk : k ≤ 8) : wrap64 (bits .and .u32 ((n * 1664525 + 1013904223) % 4294967296 / 65536) ((2 ^ k - 1 : Nat) : Int)) = wait n (k : Int) := by
  have l0 := nxt_low n
  have l1 := nxt_high n
  have w0 := wait_low n k
  have w1 := wait_high n k (by omega) (by omega)
  have e : (n * 1664525 + 1013904223) % 4294967296 = nxt n := rfl
  rw [e, and_mask _ (by omega) (by omega) k hk]
  have e2 : nxt n / 65536 % ((2 ^ k : Nat) : Int) = wait n k := by unfold wait; push_cast; rfl
  rw [e2]
  unfold wrap64
  omega

theorem new_any (l m n : Int) (w : World) :
    Calls Try.prog 7 #[.int .i64 l, .int .i64 m, .int .u32 n] w fun r w' => r = .returned (.pointer (some ⟨w.heap.size, 0, none⟩)) ∧ Bk w' w.heap.size (lo l) (hi l m) (lo l) 0 n ∧ Below w.heap.size w w' ∧ w.heap.size < w'.heap.size := by
  have e1 : min (max l 0) 8 = lo l := by unfold lo; omega
  have e2 : min (max m (lo l)) 8 = hi l m := by unfold hi lo; omega
  go_enter Try.func7, Try.ntmps7
  go_wp2_with fail
  go_ret
  exact ⟨rfl, Own.new _ _ _, (Below.refl _ _).alloc (Nat.le_refl _) _, by simp⟩

theorem slot_any (b : Nat) (l m e t n : Int) (w : World) (h : Bk w b l m e t n) (h0 : 0 ≤ t) (h1 : t < 1000000) :
    Calls Try.prog 9 #[.pointer (some ⟨b, 0, none⟩)] w fun r w' => r = .returned (.tuple #[]) ∧ Bk w' b l m e (max 0 (t - 1)) n ∧ Just b w w' := by
  have c0 : w.cell? ⟨b, 0, none⟩ = some (.int .i64 l) := h.cell 0
  have f0 : w.frozen? ⟨b, 0, none⟩ = false := h.free 0
  have c1 : w.cell? ⟨b, 1, none⟩ = some (.int .i64 m) := h.cell 1
  have f1 : w.frozen? ⟨b, 1, none⟩ = false := h.free 1
  have c2 : w.cell? ⟨b, 2, none⟩ = some (.int .i64 e) := h.cell 2
  have f2 : w.frozen? ⟨b, 2, none⟩ = false := h.free 2
  have c3 : w.cell? ⟨b, 3, none⟩ = some (.int .i64 t) := h.cell 3
  have f3 : w.frozen? ⟨b, 3, none⟩ = false := h.free 3
  have c4 : w.cell? ⟨b, 4, none⟩ = some (.int .u32 n) := h.cell 4
  have f4 : w.frozen? ⟨b, 4, none⟩ = false := h.free 4
  by_cases ht : 0 < t
  · go_enter Try.func9, Try.ntmps9
    go_wp2_with fail
    have e1 : t - 1 = max 0 (t - 1) := by omega
    go_end0
    exact ⟨rfl, by rw [← e1]; exact Own.put h 3 _, Just.set b w 3 _⟩
  · obtain rfl : t = 0 := by omega
    go_enter Try.func9, Try.ntmps9
    go_wp2_with fail
    go_end0
    exact ⟨rfl, h, Just.refl _ _⟩

theorem sent_true (b : Nat) (l m e t n : Int) (w : World) (h : Bk w b l m e t n) :
    Calls Try.prog 11 #[.pointer (some ⟨b, 0, none⟩), .bool true] w fun r w' => r = .returned (.tuple #[]) ∧ Bk w' b l m l 0 n ∧ Just b w w' := by
  have c0 : w.cell? ⟨b, 0, none⟩ = some (.int .i64 l) := h.cell 0
  have f0 : w.frozen? ⟨b, 0, none⟩ = false := h.free 0
  have c1 : w.cell? ⟨b, 1, none⟩ = some (.int .i64 m) := h.cell 1
  have f1 : w.frozen? ⟨b, 1, none⟩ = false := h.free 1
  have c2 : w.cell? ⟨b, 2, none⟩ = some (.int .i64 e) := h.cell 2
  have f2 : w.frozen? ⟨b, 2, none⟩ = false := h.free 2
  have c3 : w.cell? ⟨b, 3, none⟩ = some (.int .i64 t) := h.cell 3
  have f3 : w.frozen? ⟨b, 3, none⟩ = false := h.free 3
  have c4 : w.cell? ⟨b, 4, none⟩ = some (.int .u32 n) := h.cell 4
  have f4 : w.frozen? ⟨b, 4, none⟩ = false := h.free 4
  go_enter Try.func11, Try.ntmps11
  go_wp2_with fail
  refine bodyPost_ret (results_none rfl _ _ _) rfl ?_
  exact ⟨rfl, Own.put (Own.put h 2 _) 3 _, (Just.set b w 2 _).put 3 _⟩

set_option maxHeartbeats 4000000 in
theorem sent_false (b : Nat) (l m e t n : Int) (w : World) (h : Bk w b l m e t n) (he0 : 0 ≤ e) (he8 : e ≤ 8) (hm0 : 0 ≤ m) (hm8 : m ≤ 8) :
    Calls Try.prog 11 #[.pointer (some ⟨b, 0, none⟩), .bool false] w fun r w' => r = .returned (.tuple #[]) ∧ Bk w' b l m (min (e + 1) m) (wait n (min (e + 1) m)) (nxt n) ∧ Just b w w' := by
  have c0 : w.cell? ⟨b, 0, none⟩ = some (.int .i64 l) := h.cell 0
  have f0 : w.frozen? ⟨b, 0, none⟩ = false := h.free 0
  have c1 : w.cell? ⟨b, 1, none⟩ = some (.int .i64 m) := h.cell 1
  have f1 : w.frozen? ⟨b, 1, none⟩ = false := h.free 1
  have c2 : w.cell? ⟨b, 2, none⟩ = some (.int .i64 e) := h.cell 2
  have f2 : w.frozen? ⟨b, 2, none⟩ = false := h.free 2
  have c3 : w.cell? ⟨b, 3, none⟩ = some (.int .i64 t) := h.cell 3
  have f3 : w.frozen? ⟨b, 3, none⟩ = false := h.free 3
  have c4 : w.cell? ⟨b, 4, none⟩ = some (.int .u32 n) := h.cell 4
  have f4 : w.frozen? ⟨b, 4, none⟩ = false := h.free 4
  obtain ⟨k, hk, hk0, hk8⟩ : ∃ k : Int, min (e + 1) m = k ∧ 0 ≤ k ∧ k ≤ 8 := ⟨_, rfl, by omega, by omega⟩
  rw [hk]
  go_enter Try.func11, Try.ntmps11
  go_wp2_with fail
  have e1 : IntKind.i64.wrap (e + 1) = e + 1 := IntWalk.i64_in _ (by omega)
  go_region
  all_goals
    go_wp2_with fail
    rcases (show k = 0 ∨ k = 1 ∨ k = 2 ∨ k = 3 ∨ k = 4 ∨ k = 5 ∨ k = 6 ∨ k = 7 ∨ k = 8 by omega) with hkk | hkk | hkk | hkk | hkk | hkk | hkk | hkk | hkk
    all_goals
      subst hkk
      go_region
      all_goals
        go_end0
        refine ⟨rfl, ?_, (((Just.set b w 2 _).put 4 _).put 3 _).drewN 2⟩
        first
          | (rw [show wait n 0 = _ from (wait_mask n 0 (by omega)).symm]; exact (Own.put (Own.put (Own.put h 2 _) 4 _) 3 _))
          | (rw [show wait n 1 = _ from (wait_mask n 1 (by omega)).symm]; exact (Own.put (Own.put (Own.put h 2 _) 4 _) 3 _))
          | (rw [show wait n 2 = _ from (wait_mask n 2 (by omega)).symm]; exact (Own.put (Own.put (Own.put h 2 _) 4 _) 3 _))
          | (rw [show wait n 3 = _ from (wait_mask n 3 (by omega)).symm]; exact (Own.put (Own.put (Own.put h 2 _) 4 _) 3 _))
          | (rw [show wait n 4 = _ from (wait_mask n 4 (by omega)).symm]; exact (Own.put (Own.put (Own.put h 2 _) 4 _) 3 _))
          | (rw [show wait n 5 = _ from (wait_mask n 5 (by omega)).symm]; exact (Own.put (Own.put (Own.put h 2 _) 4 _) 3 _))
          | (rw [show wait n 6 = _ from (wait_mask n 6 (by omega)).symm]; exact (Own.put (Own.put (Own.put h 2 _) 4 _) 3 _))
          | (rw [show wait n 7 = _ from (wait_mask n 7 (by omega)).symm]; exact (Own.put (Own.put (Own.put h 2 _) 4 _) 3 _))
          | (rw [show wait n 8 = _ from (wait_mask n 8 (by omega)).symm]; exact (Own.put (Own.put (Own.put h 2 _) 4 _) 3 _))

theorem free_any (b : Nat) (l m e t n : Int) (w : World) (h : Bk w b l m e t n) :
    Calls Try.prog 15 #[.pointer (some ⟨b, 0, none⟩)] w fun r w' => r = .returned (.bool (t == 0)) ∧ w = w' := by
  have c3 : w.cell? ⟨b, 3, none⟩ = some (.int .i64 t) := h.cell 3
  go_enter Try.func15, Try.ntmps15
  go_wp2_with fail
  go_ret
  exact ⟨rfl, rfl⟩
theorem wait_any (b : Nat) (l m e t n : Int) (w : World) (h : Bk w b l m e t n) :
    Calls Try.prog 13 #[.pointer (some ⟨b, 0, none⟩)] w fun r w' => r = .returned (.int .i64 t) ∧ w = w' := by
  have c3 : w.cell? ⟨b, 3, none⟩ = some (.int .i64 t) := h.cell 3
  go_enter Try.func13, Try.ntmps13
  go_wp2_with fail
  go_ret
  exact ⟨rfl, rfl⟩
theorem exponent_any (b : Nat) (l m e t n : Int) (w : World) (h : Bk w b l m e t n) :
    Calls Try.prog 14 #[.pointer (some ⟨b, 0, none⟩)] w fun r w' => r = .returned (.int .i64 e) ∧ w = w' := by
  have c2 : w.cell? ⟨b, 2, none⟩ = some (.int .i64 e) := h.cell 2
  go_enter Try.func14, Try.ntmps14
  go_wp2_with fail
  go_ret
  exact ⟨rfl, rfl⟩
end Go.Proofs.Ytmfjalmggbdppaa.Bk
