/-
  What the laws of package queue share: a queue that every program must know.
-/
import Derived.Test.YtmabdegabeopbaaQueueMore
import Derived.Lib.SlBytesConst
set_option maxRecDepth 100000
namespace Go.Proofs.Ytmabdegabeopbaa.Qu
set_option linter.unusedVariables false
open Go.RowKit Lb

theorem convBB (w : World) (x : Int) : (convert 27 27 (.slice (some ⟨w.heap.size, 0, none⟩) 1 1)).run Try.prog (w.alloc (.cells #[.int .u8 x] 5)) = .ok (.slice (some ⟨w.heap.size, 0, none⟩) 1 1) (w.alloc (.cells #[.int .u8 x] 5 (1, 2))) :=
  Lib.run_convert_bytes_const w 27 5 #[.int .u8 x] 1 1 Try.underlying27 Try.underlying5
set_option maxHeartbeats 2000000 in
theorem awake_any (w : World) :
    Calls Try.prog 21 #[] w fun r w' => r = .returned (.bool true) ∧ Below w.heap.size w w' := by
  have HX : Hid (str (fun _ => 120) 1 = ⟨#[120]⟩) := Lib.hid (by decide +kernel)
  have hcv := convBB
  go_enter Try.func21, Try.ntmps21
  go_wp2_with fail
  refine (new_any 1 _).mono ?_
  rintro r w1 ⟨rfl, h1, b1, s1⟩
  have h1 : Que w1 w.heap.size w.heap.size 1 0 [] (.slice none 0 0) := h1
  go_wp2_with fail
  have hx := row_new (n := 1) (V := fun i => .int .u8 (120 : Int)) w1 #[.int .u8 120] 5 (1, 2) (fun i hi => by obtain rfl : i = 0 := (by omega); rfl)
  have h2 := h1.below ((Below.refl _ _).alloc (Nat.le_refl _) (.cells #[.int .u8 120] 5 (1, 2)))
  have b2 := b1.alloc b1.size (.cells #[.int .u8 120] 5 (1, 2))
  refine (put_room w.heap.size w.heap.size 1 0 [] _ 3 _ 1 1 (fun _ => 120) _ h2 (by decide) (by decide) (by omega) (by omega) hx (fun e => by cases e)).mono ?_
  rintro r w3 ⟨rfl, v3, u3, h3, b3⟩
  have b3 := b2.trans b3
  clear hx h1 h2
  go_wp2_with fail
  have h4 := h3.below ((Below.refl _ _).alloc (Nat.le_refl _) (.cells #[.int .u8 121] 5 (1, 2)))
  have b4 := b3.alloc b3.size (.cells #[.int .u8 121] 5 (1, 2))
  refine (put_full w.heap.size w.heap.size 1 0 _ _ 3 _ _ h4 (by simp) (by decide) (by decide)).mono ?_
  rintro r w5 ⟨rfl, h5, j5⟩
  have b5 := j5.below b4 (Nat.le_refl _) b4.size
  have h5 : Que w5 w.heap.size w.heap.size 1 1 ([] ++ [⟨3, u3, 1, fun _ => 120⟩]) v3 := h5
  clear h3 h4
  go_wp2_with fail
  refine (at_yes w.heap.size w.heap.size 1 1 _ _ 0 _ h5 (by simp) (by simp)).mono ?_
  rintro r w6 ⟨u6, rfl, hB, b6⟩
  have h6 := h5.below b6
  have b6 := b5.trans (b6.mono b5.size)
  obtain ⟨a6, c6, rfl, hc6, hd6, hR6, _⟩ := hB.row
  have hconv : ∀ n c, n = 1 → (convert 27 9 (.slice a6 n c)).run Try.prog w6 = .ok (.string ⟨#[120]⟩) w6 := fun n c hn => by
    subst hn
    rw [← HX.out]
    exact conv_string (P := Try.prog) Try.underlying27 Try.underlying5 Try.underlying9 hR6
  have hconv := hconv 1 c6 rfl
  go_wp2_with fail
  refine (lost_any w.heap.size w.heap.size 1 1 _ _ _ h6).mono ?_
  rintro r w' ⟨rfl, rfl⟩
  go_wp2_with fail
  go_ret
  exact ⟨rfl, b6⟩
theorem move_nil (x y : Int) (w : World) : Calls Try.prog 15 #[.pointer none, .int .i64 x, .int .i64 y] w fun r w' => r = .returned (.int .i64 0) ∧ w = w' := by
  go_enter Try.func15, Try.ntmps15
  go_wp2_with fail
  go_ret
  exact ⟨rfl, rfl⟩
theorem to_nil (w : World) : Calls Try.prog 18 #[.pointer none] w fun r w' => r = .returned (.slice none 0 0) ∧ w = w' := by
  go_enter Try.func18, Try.ntmps18
  go_wp2_with fail
  go_ret
  exact ⟨rfl, rfl⟩
end Go.Proofs.Ytmabdegabeopbaa.Qu
