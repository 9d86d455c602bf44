/-
  Package parents: a parent that every program must know.
-/
import Derived.Test.YtjboilkbcajkcaaPaHear2
import Derived.Test.YtjboilkbcajkcaaSortI
set_option maxRecDepth 100000
namespace Go.Proofs.Ytjboilkbcajkcaa.Pa
set_option linter.unusedVariables false
open Go.RowKit Lb Go.Shelf

theorem hear_nil (x : P) (w : World) : Calls Try.prog 15 #[.pointer none, .int .i64 x.n, .int .i64 x.r, .int .i64 x.h] w fun r w' => r = .returned (.bool false) ∧ Below w.heap.size w w' := by
  have o1 : Own ((w.alloc (.cells #[.pointer none] 23)).alloc (.cells #[.int .i64 x.n] 3)) w.heap.size 23 #[.pointer none] := (Own.new w _ _).alloc _
  have b0 := ((Below.refl w.heap.size w).alloc (Nat.le_refl _) (.cells #[.pointer none] 23)).alloc (by simp) (.cells #[.int .i64 x.n] 3)
  have c0 : ((w.alloc (.cells #[.pointer none] 23)).alloc (.cells #[.int .i64 x.n] 3)).cell? ⟨w.heap.size, 0, none⟩ = some (.pointer none) := o1.cell 0
  go_enter Try.func15, Try.ntmps15
  go_wp2_with fail
  generalize (w.alloc (.cells #[.pointer none] 23)).alloc (.cells #[.int .i64 x.n] 3) = w1 at *
  go_quiet (fail)
  go_wp2_with fail
  go_ret
  exact ⟨rfl, below_drewN b0 _⟩
def aw : P := ⟨7, 2, 10⟩
theorem aw_b : hearB 3 5 [] aw = true := by rfl
theorem aw_r : hearR 3 5 [] aw = 3 := by rfl
theorem aw_l : hearL 3 5 [] aw = [aw] := by rfl
theorem aw_o : (goN 10 [aw]).length = 1 := by rfl
theorem awake_any (w : World) : Calls Try.prog 11 #[] w fun r w' => r = .returned (.bool true) ∧ Below w.heap.size w w' := by
  go_enter Try.func11, Try.ntmps11
  go_wp2_with fail
  refine (new_yes 3 5 _ rfl rfl).mono ?_
  rintro r w1 ⟨rfl, t1, b1⟩
  go_wp2_with fail
  refine (hear_any w.heap.size w.heap.size 3 5 [] (.slice none 0 0) aw w1 t1 (by simp) (by omega)).mono ?_
  rintro r w2 ⟨rfl, v2, t2, j2⟩
  have b2 := b1.trans (j2.below (Nat.le_refl w.heap.size) (fun q e => by cases e) b1.size)
  rw [aw_b]
  rw [aw_r, aw_l] at t2
  clear t1 j2 b1
  go_wp2_with fail
  refine (fst_any _ _ 3 3 [aw] v2 w2 t2).mono ?_
  rintro r w' ⟨rfl, rfl⟩
  have hf : fstN [aw] = 7 := rfl
  rw [hf]
  clear hf
  go_wp2_with fail
  refine (rnk_any _ _ 3 3 [aw] v2 w2 t2).mono ?_
  rintro r w' ⟨rfl, rfl⟩
  go_wp2_with fail
  refine (old_any sort_ok _ _ 3 3 15 5 10 [aw] v2 w2 t2 (by omega) (by omega) (by omega) rfl).mono ?_
  rintro r w3 ⟨gv, v3, rfl, m3, t3, j3⟩
  rw [aw_o] at m3
  have b3 := j3.old t2
  obtain ⟨a3, c3, rfl, hc3, hd3, hR3⟩ := m3.row
  go_wp2_with fail
  go_ret
  exact ⟨rfl, b2.trans b3⟩
end Go.Proofs.Ytjboilkbcajkcaa.Pa
