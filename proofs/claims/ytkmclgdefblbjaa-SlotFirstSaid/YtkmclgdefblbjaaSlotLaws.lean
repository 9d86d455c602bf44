/-
  Layer 9: the slot that every program must know; what an answer is.
-/
import Derived.Test.YtkmclgdefblbjaaSlotRef
set_option maxRecDepth 100000
namespace Go.Proofs.Ytkmclgdefblbjaa.Sl
set_option linter.unusedVariables false
open Go.RowKit Lb Cl

def LA (k : Nat) : C := if k = 0 then ⟨0, 0, 0, 2, 64⟩ else ⟨0, 0, 1, 1, 3⟩
def WA (i : Nat) : Int := if i = 0 then 5 else 3
theorem decA : (dec LA 2 WA 2 true).vals = #[.int .i64 1, .int .i64 0, .int .i64 0, .int .i64 1, .int .i64 1, .int .i64 3, .int .i64 1] := by kernel_rfl
theorem awake_any (w : World) :
    Calls Try.prog 6 #[] w fun e w' => e = .returned (.bool true) ∧ Below w.heap.size w w' := by
  obtain ⟨cs, hcs⟩ : ∃ cs : Array Value, cs = #[.int .i64 0, .int .i64 0, .int .i64 0, .int .i64 2, .int .i64 64, .int .i64 0, .int .i64 0, .int .i64 1, .int .i64 1, .int .i64 3] := ⟨_, rfl⟩
  obtain ⟨ws, hws⟩ : ∃ ws : Array Value, ws = #[.int .i64 5, .int .i64 3] := ⟨_, rfl⟩
  have hL : Row ((w.alloc (.cells cs 26)).alloc (.cells ws 3)) (some ⟨w.heap.size, 0, none⟩) (2 * 5) (cv LA) :=
    (row_new w cs 26 (0, 0) (fun i hi => by
      rw [hcs]
      rcases (show i = 0 ∨ i = 1 ∨ i = 2 ∨ i = 3 ∨ i = 4 ∨ i = 5 ∨ i = 6 ∨ i = 7 ∨ i = 8 ∨ i = 9 by omega) with rfl | rfl | rfl | rfl | rfl | rfl | rfl | rfl | rfl | rfl <;> rfl)).below ((Below.refl _ _).alloc (Nat.le_refl _) _)
  have hW : Row ((w.alloc (.cells cs 26)).alloc (.cells ws 3)) (some ⟨w.heap.size + 1, 0, none⟩) 2 (fun i => .int .i64 (WA i)) := by
    have := row_new (w.alloc (.cells cs 26)) ws 3 (0, 0) (n := 2) (V := fun i => .int .i64 (WA i)) (fun i hi => by
      rw [hws]
      rcases (show i = 0 ∨ i = 1 by omega) with rfl | rfl <;> rfl)
    rwa [show (w.alloc (.cells cs 26)).heap.size = w.heap.size + 1 by simp] at this
  have hb := ((Below.refl w.heap.size w).alloc (Nat.le_refl _) (.cells cs 26)).alloc (by simp) (.cells ws 3)
  go_enter Try.func6, Try.ntmps6
  go_wp2_with fail
  rw [← hcs, ← hws]
  clear hcs hws
  generalize (w.alloc (.cells cs 26)).alloc (.cells ws 3) = w1 at *
  refine (decide_any _ _ 2 2 2 2 LA WA true _ (by decide) (by decide) (by decide) (by decide) hL hW).mono ?_
  rintro r w2 ⟨rfl, b2⟩
  rw [decA]
  have bb := hb.trans (b2.mono hb.size)
  have b3 := bb.alloc bb.size (.cells #[.int .i64 1, .int .i64 0, .int .i64 0, .int .i64 1, .int .i64 1, .int .i64 3, .int .i64 1] 28)
  go_wp2_with fail
  go_ret
  exact ⟨rfl, b3⟩
end Go.Proofs.Ytkmclgdefblbjaa.Sl
