/-
  Package neigh: a new table; a table that there isn't; which of two links comes first.
-/
import Derived.Test.YtpapkcelgbnkaaaNeighWalks
import Derived.Shelf.SlicesG.Cmp
import Derived.Shelf.Lay
import Derived.Ground.SlgcProg
set_option maxRecDepth 100000
namespace Go.Proofs.Ytpapkcelgbnkaaa.Ng
set_option linter.unusedVariables false
open Go.RowKit Lb
theorem built (v : Int) : Try.prog.built 47 [(0, .int .i64 v)] = some ((.int .i64 v :: List.replicate 16 (.int .i64 0)).toArray) := by kernel_rfl
theorem new_no (x : Int) (w : World) (hx : ndB x = false) :
    Calls Try.prog 8 #[.int .i64 x] w fun r w' => r = .returned (.pointer none) ∧ w = w' := by
  have HX := Lib.hid hx
  clear hx
  go_enter Try.func8, Try.ntmps8
  go_wp2_with fail
  refine (isNode_any x _).mono ?_
  rintro r w' ⟨rfl, rfl⟩
  rw [HX.out]
  go_wp2_with fail
  go_ret
  exact ⟨rfl, rfl⟩
theorem new_yes (x : Int) (w : World) (hx : ndB x = true) :
    Calls Try.prog 8 #[.int .i64 x] w fun r w' => r = .returned (.pointer (some ⟨w.heap.size, 0, none⟩)) ∧ Tb w' w.heap.size 47 x (fun _ => 0) ∧ Below w.heap.size w w' ∧ w.heap.size < w'.heap.size := by
  have HX := Lib.hid hx
  obtain ⟨cs, hcs⟩ : ∃ cs : Array Value, cs = (Value.int .i64 x :: List.replicate 16 (Value.int .i64 0)).toArray := ⟨_, rfl⟩
  have HB := Lib.hid (built x)
  rw [← hcs] at HB
  have ho : Tb (w.alloc (.cells cs 47)) w.heap.size 47 x (fun _ => 0) := Blk.of (Own.new w _ cs) (by rw [hcs]; simp) (fun i hi => by
    rw [hcs]
    unfold tv
    rcases i with _ | i
    · rfl
    · rw [if_neg (by omega), List.getElem?_toArray, List.getElem?_cons_succ, List.getElem?_replicate, if_pos (by omega)])
  have hb := (Below.refl w.heap.size w).alloc (Nat.le_refl _) (.cells cs 47)
  have hs : w.heap.size < (w.alloc (.cells cs 47)).heap.size := by simp
  clear hcs hx
  go_enter Try.func8, Try.ntmps8
  go_wp2_with fail
  refine (isNode_any x _).mono ?_
  rintro r w' ⟨rfl, rfl⟩
  rw [HX.out]
  go_wp2_with (refine wpList_built cs rfl rfl HB.out ?_)
  go_ret
  exact ⟨rfl, ho, hb, hs⟩
theorem heard_nil (x : Int) (w : World) : Calls Try.prog 13 #[.pointer none, .int .i64 x] w fun r w' => r = .returned (.tuple #[]) ∧ w = w' := by
  go_enter Try.func13, Try.ntmps13
  go_wp2_with fail
  refine (knows_nil x _).mono ?_
  rintro r w' ⟨rfl, rfl⟩
  go_wp2_with fail
  go_end0
  exact ⟨rfl, rfl⟩
theorem missed_nil (x : Int) (w : World) : Calls Try.prog 11 #[.pointer none, .int .i64 x] w fun r w' => r = .returned (.tuple #[]) ∧ w = w' := by
  go_enter Try.func11, Try.ntmps11
  go_wp2_with fail
  refine (knows_nil x _).mono ?_
  rintro r w' ⟨rfl, rfl⟩
  go_wp2_with fail
  go_end0
  exact ⟨rfl, rfl⟩
theorem quality_nil (x : Int) (w : World) : Calls Try.prog 15 #[.pointer none, .int .i64 x] w fun r w' => r = .returned (.int .i64 0) ∧ w = w' := by
  go_enter Try.func15, Try.ntmps15
  go_wp2_with fail
  refine (knows_nil x _).mono ?_
  rintro r w' ⟨rfl, rfl⟩
  go_wp2_with fail
  go_ret
  exact ⟨rfl, rfl⟩
theorem report_nil (x y : Int) (w : World) : Calls Try.prog 18 #[.pointer none, .int .i64 x, .int .i64 y] w fun r w' => r = .returned (.slice none 0 0) ∧ w = w' := by
  go_enter Try.func18, Try.ntmps18
  go_wp2_with fail
  go_ret
  exact ⟨rfl, rfl⟩
end Go.Proofs.Ytpapkcelgbnkaaa.Ng
