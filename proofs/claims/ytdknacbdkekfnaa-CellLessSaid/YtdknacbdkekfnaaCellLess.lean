/-
  Law CellLess: cells stand in an order: of two one is ahead, or they are one; it goes on; the call returns true. No condition.
-/
import Derived.Test.YtdknacbdkekfnaaCeLaw
import Derived.Test.YtdknacbdkekfnaaCeRefLess
import Derived.Deep.Strs
set_option maxRecDepth 100000
namespace Go.Proofs.Ytdknacbdkekfnaa.CellLess
set_option linter.unusedVariables false
open Go.RowKit Go.ChangeShapes Go.WideShapes Go.ChangeAt Go.Deep Lb Cl Ce
set_option linter.unusedVariables false
theorem own : ownKnob Try.prog.godebug = none := by kernel_rfl
theorem laidOut : laidOutB Try.prog = true := by kernel_rfl
theorem s10 {w W : World} {a b : C} (h : W.cell? ⟨w.heap.size, 0, none⟩ = some (.int .i64 a.f) ∧ W.cell? ⟨w.heap.size, 1, none⟩ = some (.int .i64 a.s) ∧ W.cell? ⟨w.heap.size, 2, none⟩ = some (.int .i64 a.c) ∧ W.cell? ⟨w.heap.size, 3, none⟩ = some (.int .i64 a.o) ∧ W.cell? ⟨w.heap.size, 4, none⟩ = some (.int .i64 a.p))
    (k : W.cell? ⟨w.heap.size + 1, 0, none⟩ = some (.int .i64 b.f) ∧ W.cell? ⟨w.heap.size + 1, 1, none⟩ = some (.int .i64 b.s) ∧ W.cell? ⟨w.heap.size + 1, 2, none⟩ = some (.int .i64 b.c) ∧ W.cell? ⟨w.heap.size + 1, 3, none⟩ = some (.int .i64 b.o) ∧ W.cell? ⟨w.heap.size + 1, 4, none⟩ = some (.int .i64 b.p)) : (fun w' : World => w'.cell? ⟨w.heap.size, 0, none⟩ = some (.int .i64 a.f) ∧ w'.cell? ⟨w.heap.size, 1, none⟩ = some (.int .i64 a.s) ∧ w'.cell? ⟨w.heap.size, 2, none⟩ = some (.int .i64 a.c) ∧ w'.cell? ⟨w.heap.size, 3, none⟩ = some (.int .i64 a.o) ∧ w'.cell? ⟨w.heap.size, 4, none⟩ = some (.int .i64 a.p) ∧ w'.cell? ⟨w.heap.size + 1, 0, none⟩ = some (.int .i64 b.f) ∧ w'.cell? ⟨w.heap.size + 1, 1, none⟩ = some (.int .i64 b.s) ∧ w'.cell? ⟨w.heap.size + 1, 2, none⟩ = some (.int .i64 b.c) ∧ w'.cell? ⟨w.heap.size + 1, 3, none⟩ = some (.int .i64 b.o) ∧ w'.cell? ⟨w.heap.size + 1, 4, none⟩ = some (.int .i64 b.p)) W :=
  ⟨h.1, h.2.1, h.2.2.1, h.2.2.2.1, h.2.2.2.2, k.1, k.2.1, k.2.2.1, k.2.2.2.1, k.2.2.2.2⟩
theorem keep10 {w W W' : World} {a b : C} (hb : Below W.heap.size W W') (h : (fun w' : World => w'.cell? ⟨w.heap.size, 0, none⟩ = some (.int .i64 a.f) ∧ w'.cell? ⟨w.heap.size, 1, none⟩ = some (.int .i64 a.s) ∧ w'.cell? ⟨w.heap.size, 2, none⟩ = some (.int .i64 a.c) ∧ w'.cell? ⟨w.heap.size, 3, none⟩ = some (.int .i64 a.o) ∧ w'.cell? ⟨w.heap.size, 4, none⟩ = some (.int .i64 a.p) ∧ w'.cell? ⟨w.heap.size + 1, 0, none⟩ = some (.int .i64 b.f) ∧ w'.cell? ⟨w.heap.size + 1, 1, none⟩ = some (.int .i64 b.s) ∧ w'.cell? ⟨w.heap.size + 1, 2, none⟩ = some (.int .i64 b.c) ∧ w'.cell? ⟨w.heap.size + 1, 3, none⟩ = some (.int .i64 b.o) ∧ w'.cell? ⟨w.heap.size + 1, 4, none⟩ = some (.int .i64 b.p)) W) : (fun w' : World => w'.cell? ⟨w.heap.size, 0, none⟩ = some (.int .i64 a.f) ∧ w'.cell? ⟨w.heap.size, 1, none⟩ = some (.int .i64 a.s) ∧ w'.cell? ⟨w.heap.size, 2, none⟩ = some (.int .i64 a.c) ∧ w'.cell? ⟨w.heap.size, 3, none⟩ = some (.int .i64 a.o) ∧ w'.cell? ⟨w.heap.size, 4, none⟩ = some (.int .i64 a.p) ∧ w'.cell? ⟨w.heap.size + 1, 0, none⟩ = some (.int .i64 b.f) ∧ w'.cell? ⟨w.heap.size + 1, 1, none⟩ = some (.int .i64 b.s) ∧ w'.cell? ⟨w.heap.size + 1, 2, none⟩ = some (.int .i64 b.c) ∧ w'.cell? ⟨w.heap.size + 1, 3, none⟩ = some (.int .i64 b.o) ∧ w'.cell? ⟨w.heap.size + 1, 4, none⟩ = some (.int .i64 b.p)) W' :=
  ⟨keep_cell hb h.1, keep_cell hb h.2.1, keep_cell hb h.2.2.1, keep_cell hb h.2.2.2.1, keep_cell hb h.2.2.2.2.1, keep_cell hb h.2.2.2.2.2.1, keep_cell hb h.2.2.2.2.2.2.1, keep_cell hb h.2.2.2.2.2.2.2.1, keep_cell hb h.2.2.2.2.2.2.2.2.1, keep_cell hb h.2.2.2.2.2.2.2.2.2⟩
theorem no_self (a : C) : decide (cf a a < 0) = false := by
  rw [decide_eq_false_iff_not]
  exact fun h => cf_asym h h
theorem pq_ne {a b : C} (h : a ≠ b) : (decide (cf a b < 0) = true ∧ decide (cf b a < 0) = false) ∨ (decide (cf a b < 0) = false ∧ decide (cf b a < 0) = true) := by
  by_cases h1 : cf a b < 0
  · exact .inl ⟨by simpa using h1, decide_eq_false (cf_asym h1)⟩
  · by_cases h2 : cf b a < 0
    · exact .inr ⟨decide_eq_false h1, by simpa using h2⟩
    · exact absurd (cf_total h1 h2) h
theorem yz_of (a b c : C) : decide (cf a b < 0) = true → decide (cf b c < 0) = true → decide (cf a c < 0) = true := by
  simp only [decide_eq_true_eq]
  exact fun h k => cf_trans h k
set_option maxHeartbeats 2000000 in
theorem core1 (a1 a2 a3 a4 a5 b1 b2 b3 b4 b5 c1 c2 c3 c4 c5 : Int) (hne : ¬ a1 = b1) (p q y z : Bool) (hpq : (p = true ∧ q = false) ∨ (p = false ∧ q = true)) (hyz : p = true → y = true → z = true) (hab : (∀ w, Calls Try.prog 24 #[.agg #[.int .i64 a1, .int .i64 a2, .int .i64 a3, .int .i64 a4, .int .i64 a5], .agg #[.int .i64 b1, .int .i64 b2, .int .i64 b3, .int .i64 b4, .int .i64 b5]] w fun r w' => r = .returned (.bool p) ∧ Below w.heap.size w w')) (hba : (∀ w, Calls Try.prog 24 #[.agg #[.int .i64 b1, .int .i64 b2, .int .i64 b3, .int .i64 b4, .int .i64 b5], .agg #[.int .i64 a1, .int .i64 a2, .int .i64 a3, .int .i64 a4, .int .i64 a5]] w fun r w' => r = .returned (.bool q) ∧ Below w.heap.size w w')) (haa : (∀ w, Calls Try.prog 24 #[.agg #[.int .i64 a1, .int .i64 a2, .int .i64 a3, .int .i64 a4, .int .i64 a5], .agg #[.int .i64 a1, .int .i64 a2, .int .i64 a3, .int .i64 a4, .int .i64 a5]] w fun r w' => r = .returned (.bool false) ∧ Below w.heap.size w w')) (hbc : (∀ w, Calls Try.prog 24 #[.agg #[.int .i64 b1, .int .i64 b2, .int .i64 b3, .int .i64 b4, .int .i64 b5], .agg #[.int .i64 c1, .int .i64 c2, .int .i64 c3, .int .i64 c4, .int .i64 c5]] w fun r w' => r = .returned (.bool y) ∧ Below w.heap.size w w')) (hac : (∀ w, Calls Try.prog 24 #[.agg #[.int .i64 a1, .int .i64 a2, .int .i64 a3, .int .i64 a4, .int .i64 a5], .agg #[.int .i64 c1, .int .i64 c2, .int .i64 c3, .int .i64 c4, .int .i64 c5]] w fun r w' => r = .returned (.bool z) ∧ Below w.heap.size w w')) (hrl : (∀ w, Calls Try.prog 25 #[.agg #[.int .i64 a1, .int .i64 a2, .int .i64 a3, .int .i64 a4, .int .i64 a5], .agg #[.int .i64 b1, .int .i64 b2, .int .i64 b3, .int .i64 b4, .int .i64 b5]] w fun r w' => r = .returned (.bool p) ∧ Below w.heap.size w w')) (w : World) :
    Calls Try.prog 6 #[.agg #[.int .i64 a1, .int .i64 a2, .int .i64 a3, .int .i64 a4, .int .i64 a5], .agg #[.int .i64 b1, .int .i64 b2, .int .i64 b3, .int .i64 b4, .int .i64 b5], .agg #[.int .i64 c1, .int .i64 c2, .int .i64 c3, .int .i64 c4, .int .i64 c5]] w fun r w' => r = .returned (.bool true) ∧ Below w.heap.size w w' := by
  have o1 : Own (((w.alloc (.cells #[.int .i64 a1, .int .i64 a2, .int .i64 a3, .int .i64 a4, .int .i64 a5] 31)).alloc (.cells #[.int .i64 b1, .int .i64 b2, .int .i64 b3, .int .i64 b4, .int .i64 b5] 31)).alloc (.cells #[.int .i64 c1, .int .i64 c2, .int .i64 c3, .int .i64 c4, .int .i64 c5] 31)) w.heap.size 31 (C.vals ⟨a1, a2, a3, a4, a5⟩) := ((Own.new w _ _).alloc _).alloc _
  have o2 : Own (((w.alloc (.cells #[.int .i64 a1, .int .i64 a2, .int .i64 a3, .int .i64 a4, .int .i64 a5] 31)).alloc (.cells #[.int .i64 b1, .int .i64 b2, .int .i64 b3, .int .i64 b4, .int .i64 b5] 31)).alloc (.cells #[.int .i64 c1, .int .i64 c2, .int .i64 c3, .int .i64 c4, .int .i64 c5] 31)) (w.heap.size + 1) 31 (C.vals ⟨b1, b2, b3, b4, b5⟩) := by
    have := Own.new (w.alloc (.cells #[.int .i64 a1, .int .i64 a2, .int .i64 a3, .int .i64 a4, .int .i64 a5] 31)) 31 (C.vals ⟨b1, b2, b3, b4, b5⟩)
    rw [show (w.alloc (.cells #[.int .i64 a1, .int .i64 a2, .int .i64 a3, .int .i64 a4, .int .i64 a5] 31)).heap.size = w.heap.size + 1 by simp] at this
    exact this.alloc _
  have o3 : Own (((w.alloc (.cells #[.int .i64 a1, .int .i64 a2, .int .i64 a3, .int .i64 a4, .int .i64 a5] 31)).alloc (.cells #[.int .i64 b1, .int .i64 b2, .int .i64 b3, .int .i64 b4, .int .i64 b5] 31)).alloc (.cells #[.int .i64 c1, .int .i64 c2, .int .i64 c3, .int .i64 c4, .int .i64 c5] 31)) (w.heap.size + 1 + 1) 31 (C.vals ⟨c1, c2, c3, c4, c5⟩) := by
    have := Own.new ((w.alloc (.cells #[.int .i64 a1, .int .i64 a2, .int .i64 a3, .int .i64 a4, .int .i64 a5] 31)).alloc (.cells #[.int .i64 b1, .int .i64 b2, .int .i64 b3, .int .i64 b4, .int .i64 b5] 31)) 31 (C.vals ⟨c1, c2, c3, c4, c5⟩)
    rwa [show ((w.alloc (.cells #[.int .i64 a1, .int .i64 a2, .int .i64 a3, .int .i64 a4, .int .i64 a5] 31)).alloc (.cells #[.int .i64 b1, .int .i64 b2, .int .i64 b3, .int .i64 b4, .int .i64 b5] 31)).heap.size = w.heap.size + 1 + 1 by simp] at this
  have b0 := (((Below.refl w.heap.size w).alloc (Nat.le_refl _) (.cells #[.int .i64 a1, .int .i64 a2, .int .i64 a3, .int .i64 a4, .int .i64 a5] 31)).alloc (by simp) (.cells #[.int .i64 b1, .int .i64 b2, .int .i64 b3, .int .i64 b4, .int .i64 b5] 31)).alloc (by simp; omega) (.cells #[.int .i64 c1, .int .i64 c2, .int .i64 c3, .int .i64 c4, .int .i64 c5] 31)
  rcases hpq with ⟨rfl, rfl⟩ | ⟨rfl, rfl⟩
  · cases y
    · clear hyz
      go_enter Try.func6, Try.ntmps6
      go_wp2_with fail
      generalize ((w.alloc (.cells #[.int .i64 a1, .int .i64 a2, .int .i64 a3, .int .i64 a4, .int .i64 a5] 31)).alloc (.cells #[.int .i64 b1, .int .i64 b2, .int .i64 b3, .int .i64 b4, .int .i64 b5] 31)).alloc (.cells #[.int .i64 c1, .int .i64 c2, .int .i64 c3, .int .i64 c4, .int .i64 c5] 31) = w1 at *
      obtain ⟨d0, d1, d2, d3, d4⟩ := own_c o1
      obtain ⟨e0, e1, e2, e3, e4⟩ := own_c o2
      have s0 := s10 (w := w) (W := w1.drew) (a := ⟨a1, a2, a3, a4, a5⟩) (b := ⟨b1, b2, b3, b4, b5⟩) ⟨d0, d1, d2, d3, d4⟩ ⟨e0, e1, e2, e3, e4⟩
      go_region_held3 (fun w' : World => w'.cell? ⟨w.heap.size, 0, none⟩ = some (.int .i64 a1) ∧ w'.cell? ⟨w.heap.size, 1, none⟩ = some (.int .i64 a2) ∧ w'.cell? ⟨w.heap.size, 2, none⟩ = some (.int .i64 a3) ∧ w'.cell? ⟨w.heap.size, 3, none⟩ = some (.int .i64 a4) ∧ w'.cell? ⟨w.heap.size, 4, none⟩ = some (.int .i64 a5) ∧ w'.cell? ⟨w.heap.size + 1, 0, none⟩ = some (.int .i64 b1) ∧ w'.cell? ⟨w.heap.size + 1, 1, none⟩ = some (.int .i64 b2) ∧ w'.cell? ⟨w.heap.size + 1, 2, none⟩ = some (.int .i64 b3) ∧ w'.cell? ⟨w.heap.size + 1, 3, none⟩ = some (.int .i64 b4) ∧ w'.cell? ⟨w.heap.size + 1, 4, none⟩ = some (.int .i64 b5)) (first | exact s0 | exact s2 | exact s3) ((go_at_call 24; first | ((with_reducible refine (hab _).mono ?_); rintro r w5 ⟨rfl, b5'⟩; have s2 := keep10 (a := ⟨a1, a2, a3, a4, a5⟩) (b := ⟨b1, b2, b3, b4, b5⟩) b5' (by first | exact s0 | exact s3)) | ((with_reducible refine (hba _).mono ?_); rintro r w6 ⟨rfl, b6⟩; have s3 := keep10 (a := ⟨a1, a2, a3, a4, a5⟩) (b := ⟨b1, b2, b3, b4, b5⟩) b6 (by first | exact s0 | exact s2))))
      have b56 : Below w1.heap.size w1 w6 := ((below_drewN (Below.refl w1.heap.size w1) 1).trans b5').trans (b6.mono b5'.size)
      have p1 := below_own b56 o1 o1.lt
      have p2 := below_own b56 o2 o2.lt
      have p3 := below_own b56 o3 o3.lt
      have k6 := b0.trans (b56.mono b0.size)
      clear o1 o2 o3 d0 d1 d2 d3 d4 e0 e1 e2 e3 e4 s0 s2 s3 b5' b6 b56 b0
      obtain ⟨d0, d1, d2, d3, d4⟩ := own_c p1
      obtain ⟨e0, e1, e2, e3, e4⟩ := own_c p2
      obtain ⟨f0, f1, f2, f3, f4⟩ := own_c p3
      go_wp2_with fail
      refine (hbc _).mono ?_
      rintro r wY ⟨rfl, bN⟩
      have p1 := below_own bN p1 p1.lt
      have p2 := below_own bN p2 p2.lt
      have p3 := below_own bN p3 p3.lt
      have k6 := k6.trans (bN.mono k6.size)
      clear d0 d1 d2 d3 d4 e0 e1 e2 e3 e4 f0 f1 f2 f3 f4 bN
      obtain ⟨d0, d1, d2, d3, d4⟩ := own_c p1
      obtain ⟨e0, e1, e2, e3, e4⟩ := own_c p2
      obtain ⟨f0, f1, f2, f3, f4⟩ := own_c p3
      go_wp2_with fail
      refine (haa _).mono ?_
      rintro r wA ⟨rfl, bN⟩
      have p1 := below_own bN p1 p1.lt
      have p2 := below_own bN p2 p2.lt
      have p3 := below_own bN p3 p3.lt
      have k6 := k6.trans (bN.mono k6.size)
      clear d0 d1 d2 d3 d4 e0 e1 e2 e3 e4 f0 f1 f2 f3 f4 bN
      obtain ⟨d0, d1, d2, d3, d4⟩ := own_c p1
      obtain ⟨e0, e1, e2, e3, e4⟩ := own_c p2
      obtain ⟨f0, f1, f2, f3, f4⟩ := own_c p3
      go_wp2_with fail
      refine (hrl _).mono ?_
      rintro r wB ⟨rfl, bN⟩
      have p1 := below_own bN p1 p1.lt
      have p2 := below_own bN p2 p2.lt
      have p3 := below_own bN p3 p3.lt
      have k6 := k6.trans (bN.mono k6.size)
      clear d0 d1 d2 d3 d4 e0 e1 e2 e3 e4 f0 f1 f2 f3 f4 bN
      obtain ⟨d0, d1, d2, d3, d4⟩ := own_c p1
      obtain ⟨e0, e1, e2, e3, e4⟩ := own_c p2
      obtain ⟨f0, f1, f2, f3, f4⟩ := own_c p3
      go_wp2_with fail
      refine (awake_any _).mono ?_
      rintro r wC ⟨rfl, bC⟩
      go_wp2_with fail
      go_ret
      exact ⟨rfl, k6.trans (bC.mono k6.size)⟩
    · obtain rfl := hyz rfl rfl
      clear hyz
      go_enter Try.func6, Try.ntmps6
      go_wp2_with fail
      generalize ((w.alloc (.cells #[.int .i64 a1, .int .i64 a2, .int .i64 a3, .int .i64 a4, .int .i64 a5] 31)).alloc (.cells #[.int .i64 b1, .int .i64 b2, .int .i64 b3, .int .i64 b4, .int .i64 b5] 31)).alloc (.cells #[.int .i64 c1, .int .i64 c2, .int .i64 c3, .int .i64 c4, .int .i64 c5] 31) = w1 at *
      obtain ⟨d0, d1, d2, d3, d4⟩ := own_c o1
      obtain ⟨e0, e1, e2, e3, e4⟩ := own_c o2
      have s0 := s10 (w := w) (W := w1.drew) (a := ⟨a1, a2, a3, a4, a5⟩) (b := ⟨b1, b2, b3, b4, b5⟩) ⟨d0, d1, d2, d3, d4⟩ ⟨e0, e1, e2, e3, e4⟩
      go_region_held3 (fun w' : World => w'.cell? ⟨w.heap.size, 0, none⟩ = some (.int .i64 a1) ∧ w'.cell? ⟨w.heap.size, 1, none⟩ = some (.int .i64 a2) ∧ w'.cell? ⟨w.heap.size, 2, none⟩ = some (.int .i64 a3) ∧ w'.cell? ⟨w.heap.size, 3, none⟩ = some (.int .i64 a4) ∧ w'.cell? ⟨w.heap.size, 4, none⟩ = some (.int .i64 a5) ∧ w'.cell? ⟨w.heap.size + 1, 0, none⟩ = some (.int .i64 b1) ∧ w'.cell? ⟨w.heap.size + 1, 1, none⟩ = some (.int .i64 b2) ∧ w'.cell? ⟨w.heap.size + 1, 2, none⟩ = some (.int .i64 b3) ∧ w'.cell? ⟨w.heap.size + 1, 3, none⟩ = some (.int .i64 b4) ∧ w'.cell? ⟨w.heap.size + 1, 4, none⟩ = some (.int .i64 b5)) (first | exact s0 | exact s2 | exact s3) ((go_at_call 24; first | ((with_reducible refine (hab _).mono ?_); rintro r w5 ⟨rfl, b5'⟩; have s2 := keep10 (a := ⟨a1, a2, a3, a4, a5⟩) (b := ⟨b1, b2, b3, b4, b5⟩) b5' (by first | exact s0 | exact s3)) | ((with_reducible refine (hba _).mono ?_); rintro r w6 ⟨rfl, b6⟩; have s3 := keep10 (a := ⟨a1, a2, a3, a4, a5⟩) (b := ⟨b1, b2, b3, b4, b5⟩) b6 (by first | exact s0 | exact s2))))
      have b56 : Below w1.heap.size w1 w6 := ((below_drewN (Below.refl w1.heap.size w1) 1).trans b5').trans (b6.mono b5'.size)
      have p1 := below_own b56 o1 o1.lt
      have p2 := below_own b56 o2 o2.lt
      have p3 := below_own b56 o3 o3.lt
      have k6 := b0.trans (b56.mono b0.size)
      clear o1 o2 o3 d0 d1 d2 d3 d4 e0 e1 e2 e3 e4 s0 s2 s3 b5' b6 b56 b0
      obtain ⟨d0, d1, d2, d3, d4⟩ := own_c p1
      obtain ⟨e0, e1, e2, e3, e4⟩ := own_c p2
      obtain ⟨f0, f1, f2, f3, f4⟩ := own_c p3
      go_wp2_with fail
      refine (hbc _).mono ?_
      rintro r wY ⟨rfl, bN⟩
      have p1 := below_own bN p1 p1.lt
      have p2 := below_own bN p2 p2.lt
      have p3 := below_own bN p3 p3.lt
      have k6 := k6.trans (bN.mono k6.size)
      clear d0 d1 d2 d3 d4 e0 e1 e2 e3 e4 f0 f1 f2 f3 f4 bN
      obtain ⟨d0, d1, d2, d3, d4⟩ := own_c p1
      obtain ⟨e0, e1, e2, e3, e4⟩ := own_c p2
      obtain ⟨f0, f1, f2, f3, f4⟩ := own_c p3
      go_wp2_with fail
      refine (hac _).mono ?_
      rintro r wZ ⟨rfl, bN⟩
      have p1 := below_own bN p1 p1.lt
      have p2 := below_own bN p2 p2.lt
      have p3 := below_own bN p3 p3.lt
      have k6 := k6.trans (bN.mono k6.size)
      clear d0 d1 d2 d3 d4 e0 e1 e2 e3 e4 f0 f1 f2 f3 f4 bN
      obtain ⟨d0, d1, d2, d3, d4⟩ := own_c p1
      obtain ⟨e0, e1, e2, e3, e4⟩ := own_c p2
      obtain ⟨f0, f1, f2, f3, f4⟩ := own_c p3
      go_wp2_with fail
      refine (haa _).mono ?_
      rintro r wA ⟨rfl, bN⟩
      have p1 := below_own bN p1 p1.lt
      have p2 := below_own bN p2 p2.lt
      have p3 := below_own bN p3 p3.lt
      have k6 := k6.trans (bN.mono k6.size)
      clear d0 d1 d2 d3 d4 e0 e1 e2 e3 e4 f0 f1 f2 f3 f4 bN
      obtain ⟨d0, d1, d2, d3, d4⟩ := own_c p1
      obtain ⟨e0, e1, e2, e3, e4⟩ := own_c p2
      obtain ⟨f0, f1, f2, f3, f4⟩ := own_c p3
      go_wp2_with fail
      refine (hrl _).mono ?_
      rintro r wB ⟨rfl, bN⟩
      have p1 := below_own bN p1 p1.lt
      have p2 := below_own bN p2 p2.lt
      have p3 := below_own bN p3 p3.lt
      have k6 := k6.trans (bN.mono k6.size)
      clear d0 d1 d2 d3 d4 e0 e1 e2 e3 e4 f0 f1 f2 f3 f4 bN
      obtain ⟨d0, d1, d2, d3, d4⟩ := own_c p1
      obtain ⟨e0, e1, e2, e3, e4⟩ := own_c p2
      obtain ⟨f0, f1, f2, f3, f4⟩ := own_c p3
      go_wp2_with fail
      refine (awake_any _).mono ?_
      rintro r wC ⟨rfl, bC⟩
      go_wp2_with fail
      go_ret
      exact ⟨rfl, k6.trans (bC.mono k6.size)⟩
  · clear hyz
    go_enter Try.func6, Try.ntmps6
    go_wp2_with fail
    generalize ((w.alloc (.cells #[.int .i64 a1, .int .i64 a2, .int .i64 a3, .int .i64 a4, .int .i64 a5] 31)).alloc (.cells #[.int .i64 b1, .int .i64 b2, .int .i64 b3, .int .i64 b4, .int .i64 b5] 31)).alloc (.cells #[.int .i64 c1, .int .i64 c2, .int .i64 c3, .int .i64 c4, .int .i64 c5] 31) = w1 at *
    obtain ⟨d0, d1, d2, d3, d4⟩ := own_c o1
    obtain ⟨e0, e1, e2, e3, e4⟩ := own_c o2
    have s0 := s10 (w := w) (W := w1.drew) (a := ⟨a1, a2, a3, a4, a5⟩) (b := ⟨b1, b2, b3, b4, b5⟩) ⟨d0, d1, d2, d3, d4⟩ ⟨e0, e1, e2, e3, e4⟩
    go_region_held3 (fun w' : World => w'.cell? ⟨w.heap.size, 0, none⟩ = some (.int .i64 a1) ∧ w'.cell? ⟨w.heap.size, 1, none⟩ = some (.int .i64 a2) ∧ w'.cell? ⟨w.heap.size, 2, none⟩ = some (.int .i64 a3) ∧ w'.cell? ⟨w.heap.size, 3, none⟩ = some (.int .i64 a4) ∧ w'.cell? ⟨w.heap.size, 4, none⟩ = some (.int .i64 a5) ∧ w'.cell? ⟨w.heap.size + 1, 0, none⟩ = some (.int .i64 b1) ∧ w'.cell? ⟨w.heap.size + 1, 1, none⟩ = some (.int .i64 b2) ∧ w'.cell? ⟨w.heap.size + 1, 2, none⟩ = some (.int .i64 b3) ∧ w'.cell? ⟨w.heap.size + 1, 3, none⟩ = some (.int .i64 b4) ∧ w'.cell? ⟨w.heap.size + 1, 4, none⟩ = some (.int .i64 b5)) (first | exact s0 | exact s2 | exact s3) ((go_at_call 24; first | ((with_reducible refine (hab _).mono ?_); rintro r w5 ⟨rfl, b5'⟩; have s2 := keep10 (a := ⟨a1, a2, a3, a4, a5⟩) (b := ⟨b1, b2, b3, b4, b5⟩) b5' (by first | exact s0 | exact s3)) | ((with_reducible refine (hba _).mono ?_); rintro r w6 ⟨rfl, b6⟩; have s3 := keep10 (a := ⟨a1, a2, a3, a4, a5⟩) (b := ⟨b1, b2, b3, b4, b5⟩) b6 (by first | exact s0 | exact s2))))
    have b56 : Below w1.heap.size w1 w6 := ((below_drewN (Below.refl w1.heap.size w1) 1).trans b5').trans (b6.mono b5'.size)
    have p1 := below_own b56 o1 o1.lt
    have p2 := below_own b56 o2 o2.lt
    have p3 := below_own b56 o3 o3.lt
    have k6 := b0.trans (b56.mono b0.size)
    clear o1 o2 o3 d0 d1 d2 d3 d4 e0 e1 e2 e3 e4 s0 s2 s3 b5' b6 b56 b0
    obtain ⟨d0, d1, d2, d3, d4⟩ := own_c p1
    obtain ⟨e0, e1, e2, e3, e4⟩ := own_c p2
    obtain ⟨f0, f1, f2, f3, f4⟩ := own_c p3
    go_wp2_with fail
    refine (haa _).mono ?_
    rintro r wA ⟨rfl, bN⟩
    have p1 := below_own bN p1 p1.lt
    have p2 := below_own bN p2 p2.lt
    have p3 := below_own bN p3 p3.lt
    have k6 := k6.trans (bN.mono k6.size)
    clear d0 d1 d2 d3 d4 e0 e1 e2 e3 e4 f0 f1 f2 f3 f4 bN
    obtain ⟨d0, d1, d2, d3, d4⟩ := own_c p1
    obtain ⟨e0, e1, e2, e3, e4⟩ := own_c p2
    obtain ⟨f0, f1, f2, f3, f4⟩ := own_c p3
    go_wp2_with fail
    refine (hrl _).mono ?_
    rintro r wB ⟨rfl, bN⟩
    have p1 := below_own bN p1 p1.lt
    have p2 := below_own bN p2 p2.lt
    have p3 := below_own bN p3 p3.lt
    have k6 := k6.trans (bN.mono k6.size)
    clear d0 d1 d2 d3 d4 e0 e1 e2 e3 e4 f0 f1 f2 f3 f4 bN
    obtain ⟨d0, d1, d2, d3, d4⟩ := own_c p1
    obtain ⟨e0, e1, e2, e3, e4⟩ := own_c p2
    obtain ⟨f0, f1, f2, f3, f4⟩ := own_c p3
    go_wp2_with fail
    refine (awake_any _).mono ?_
    rintro r wC ⟨rfl, bC⟩
    go_wp2_with fail
    go_ret
    exact ⟨rfl, k6.trans (bC.mono k6.size)⟩
set_option maxHeartbeats 2000000 in
theorem core2 (x1 a2 a3 a4 a5 b2 b3 b4 b5 c1 c2 c3 c4 c5 : Int) (hne : ¬ a2 = b2) (p q y z : Bool) (hpq : (p = true ∧ q = false) ∨ (p = false ∧ q = true)) (hyz : p = true → y = true → z = true) (hab : (∀ w, Calls Try.prog 24 #[.agg #[.int .i64 x1, .int .i64 a2, .int .i64 a3, .int .i64 a4, .int .i64 a5], .agg #[.int .i64 x1, .int .i64 b2, .int .i64 b3, .int .i64 b4, .int .i64 b5]] w fun r w' => r = .returned (.bool p) ∧ Below w.heap.size w w')) (hba : (∀ w, Calls Try.prog 24 #[.agg #[.int .i64 x1, .int .i64 b2, .int .i64 b3, .int .i64 b4, .int .i64 b5], .agg #[.int .i64 x1, .int .i64 a2, .int .i64 a3, .int .i64 a4, .int .i64 a5]] w fun r w' => r = .returned (.bool q) ∧ Below w.heap.size w w')) (haa : (∀ w, Calls Try.prog 24 #[.agg #[.int .i64 x1, .int .i64 a2, .int .i64 a3, .int .i64 a4, .int .i64 a5], .agg #[.int .i64 x1, .int .i64 a2, .int .i64 a3, .int .i64 a4, .int .i64 a5]] w fun r w' => r = .returned (.bool false) ∧ Below w.heap.size w w')) (hbc : (∀ w, Calls Try.prog 24 #[.agg #[.int .i64 x1, .int .i64 b2, .int .i64 b3, .int .i64 b4, .int .i64 b5], .agg #[.int .i64 c1, .int .i64 c2, .int .i64 c3, .int .i64 c4, .int .i64 c5]] w fun r w' => r = .returned (.bool y) ∧ Below w.heap.size w w')) (hac : (∀ w, Calls Try.prog 24 #[.agg #[.int .i64 x1, .int .i64 a2, .int .i64 a3, .int .i64 a4, .int .i64 a5], .agg #[.int .i64 c1, .int .i64 c2, .int .i64 c3, .int .i64 c4, .int .i64 c5]] w fun r w' => r = .returned (.bool z) ∧ Below w.heap.size w w')) (hrl : (∀ w, Calls Try.prog 25 #[.agg #[.int .i64 x1, .int .i64 a2, .int .i64 a3, .int .i64 a4, .int .i64 a5], .agg #[.int .i64 x1, .int .i64 b2, .int .i64 b3, .int .i64 b4, .int .i64 b5]] w fun r w' => r = .returned (.bool p) ∧ Below w.heap.size w w')) (w : World) :
    Calls Try.prog 6 #[.agg #[.int .i64 x1, .int .i64 a2, .int .i64 a3, .int .i64 a4, .int .i64 a5], .agg #[.int .i64 x1, .int .i64 b2, .int .i64 b3, .int .i64 b4, .int .i64 b5], .agg #[.int .i64 c1, .int .i64 c2, .int .i64 c3, .int .i64 c4, .int .i64 c5]] w fun r w' => r = .returned (.bool true) ∧ Below w.heap.size w w' := by
  have o1 : Own (((w.alloc (.cells #[.int .i64 x1, .int .i64 a2, .int .i64 a3, .int .i64 a4, .int .i64 a5] 31)).alloc (.cells #[.int .i64 x1, .int .i64 b2, .int .i64 b3, .int .i64 b4, .int .i64 b5] 31)).alloc (.cells #[.int .i64 c1, .int .i64 c2, .int .i64 c3, .int .i64 c4, .int .i64 c5] 31)) w.heap.size 31 (C.vals ⟨x1, a2, a3, a4, a5⟩) := ((Own.new w _ _).alloc _).alloc _
  have o2 : Own (((w.alloc (.cells #[.int .i64 x1, .int .i64 a2, .int .i64 a3, .int .i64 a4, .int .i64 a5] 31)).alloc (.cells #[.int .i64 x1, .int .i64 b2, .int .i64 b3, .int .i64 b4, .int .i64 b5] 31)).alloc (.cells #[.int .i64 c1, .int .i64 c2, .int .i64 c3, .int .i64 c4, .int .i64 c5] 31)) (w.heap.size + 1) 31 (C.vals ⟨x1, b2, b3, b4, b5⟩) := by
    have := Own.new (w.alloc (.cells #[.int .i64 x1, .int .i64 a2, .int .i64 a3, .int .i64 a4, .int .i64 a5] 31)) 31 (C.vals ⟨x1, b2, b3, b4, b5⟩)
    rw [show (w.alloc (.cells #[.int .i64 x1, .int .i64 a2, .int .i64 a3, .int .i64 a4, .int .i64 a5] 31)).heap.size = w.heap.size + 1 by simp] at this
    exact this.alloc _
  have o3 : Own (((w.alloc (.cells #[.int .i64 x1, .int .i64 a2, .int .i64 a3, .int .i64 a4, .int .i64 a5] 31)).alloc (.cells #[.int .i64 x1, .int .i64 b2, .int .i64 b3, .int .i64 b4, .int .i64 b5] 31)).alloc (.cells #[.int .i64 c1, .int .i64 c2, .int .i64 c3, .int .i64 c4, .int .i64 c5] 31)) (w.heap.size + 1 + 1) 31 (C.vals ⟨c1, c2, c3, c4, c5⟩) := by
    have := Own.new ((w.alloc (.cells #[.int .i64 x1, .int .i64 a2, .int .i64 a3, .int .i64 a4, .int .i64 a5] 31)).alloc (.cells #[.int .i64 x1, .int .i64 b2, .int .i64 b3, .int .i64 b4, .int .i64 b5] 31)) 31 (C.vals ⟨c1, c2, c3, c4, c5⟩)
    rwa [show ((w.alloc (.cells #[.int .i64 x1, .int .i64 a2, .int .i64 a3, .int .i64 a4, .int .i64 a5] 31)).alloc (.cells #[.int .i64 x1, .int .i64 b2, .int .i64 b3, .int .i64 b4, .int .i64 b5] 31)).heap.size = w.heap.size + 1 + 1 by simp] at this
  have b0 := (((Below.refl w.heap.size w).alloc (Nat.le_refl _) (.cells #[.int .i64 x1, .int .i64 a2, .int .i64 a3, .int .i64 a4, .int .i64 a5] 31)).alloc (by simp) (.cells #[.int .i64 x1, .int .i64 b2, .int .i64 b3, .int .i64 b4, .int .i64 b5] 31)).alloc (by simp; omega) (.cells #[.int .i64 c1, .int .i64 c2, .int .i64 c3, .int .i64 c4, .int .i64 c5] 31)
  rcases hpq with ⟨rfl, rfl⟩ | ⟨rfl, rfl⟩
  · cases y
    · clear hyz
      go_enter Try.func6, Try.ntmps6
      go_wp2_with fail
      generalize ((w.alloc (.cells #[.int .i64 x1, .int .i64 a2, .int .i64 a3, .int .i64 a4, .int .i64 a5] 31)).alloc (.cells #[.int .i64 x1, .int .i64 b2, .int .i64 b3, .int .i64 b4, .int .i64 b5] 31)).alloc (.cells #[.int .i64 c1, .int .i64 c2, .int .i64 c3, .int .i64 c4, .int .i64 c5] 31) = w1 at *
      obtain ⟨d0, d1, d2, d3, d4⟩ := own_c o1
      obtain ⟨e0, e1, e2, e3, e4⟩ := own_c o2
      have s0 := s10 (w := w) (W := w1.drew) (a := ⟨x1, a2, a3, a4, a5⟩) (b := ⟨x1, b2, b3, b4, b5⟩) ⟨d0, d1, d2, d3, d4⟩ ⟨e0, e1, e2, e3, e4⟩
      go_region_held3 (fun w' : World => w'.cell? ⟨w.heap.size, 0, none⟩ = some (.int .i64 x1) ∧ w'.cell? ⟨w.heap.size, 1, none⟩ = some (.int .i64 a2) ∧ w'.cell? ⟨w.heap.size, 2, none⟩ = some (.int .i64 a3) ∧ w'.cell? ⟨w.heap.size, 3, none⟩ = some (.int .i64 a4) ∧ w'.cell? ⟨w.heap.size, 4, none⟩ = some (.int .i64 a5) ∧ w'.cell? ⟨w.heap.size + 1, 0, none⟩ = some (.int .i64 x1) ∧ w'.cell? ⟨w.heap.size + 1, 1, none⟩ = some (.int .i64 b2) ∧ w'.cell? ⟨w.heap.size + 1, 2, none⟩ = some (.int .i64 b3) ∧ w'.cell? ⟨w.heap.size + 1, 3, none⟩ = some (.int .i64 b4) ∧ w'.cell? ⟨w.heap.size + 1, 4, none⟩ = some (.int .i64 b5)) (first | exact s0 | exact s2 | exact s3) ((go_at_call 24; first | ((with_reducible refine (hab _).mono ?_); rintro r w5 ⟨rfl, b5'⟩; have s2 := keep10 (a := ⟨x1, a2, a3, a4, a5⟩) (b := ⟨x1, b2, b3, b4, b5⟩) b5' (by first | exact s0 | exact s3)) | ((with_reducible refine (hba _).mono ?_); rintro r w6 ⟨rfl, b6⟩; have s3 := keep10 (a := ⟨x1, a2, a3, a4, a5⟩) (b := ⟨x1, b2, b3, b4, b5⟩) b6 (by first | exact s0 | exact s2))))
      have b56 : Below w1.heap.size w1 w6 := ((below_drewN (Below.refl w1.heap.size w1) 1).trans b5').trans (b6.mono b5'.size)
      have p1 := below_own b56 o1 o1.lt
      have p2 := below_own b56 o2 o2.lt
      have p3 := below_own b56 o3 o3.lt
      have k6 := b0.trans (b56.mono b0.size)
      clear o1 o2 o3 d0 d1 d2 d3 d4 e0 e1 e2 e3 e4 s0 s2 s3 b5' b6 b56 b0
      obtain ⟨d0, d1, d2, d3, d4⟩ := own_c p1
      obtain ⟨e0, e1, e2, e3, e4⟩ := own_c p2
      obtain ⟨f0, f1, f2, f3, f4⟩ := own_c p3
      go_wp2_with fail
      refine (hbc _).mono ?_
      rintro r wY ⟨rfl, bN⟩
      have p1 := below_own bN p1 p1.lt
      have p2 := below_own bN p2 p2.lt
      have p3 := below_own bN p3 p3.lt
      have k6 := k6.trans (bN.mono k6.size)
      clear d0 d1 d2 d3 d4 e0 e1 e2 e3 e4 f0 f1 f2 f3 f4 bN
      obtain ⟨d0, d1, d2, d3, d4⟩ := own_c p1
      obtain ⟨e0, e1, e2, e3, e4⟩ := own_c p2
      obtain ⟨f0, f1, f2, f3, f4⟩ := own_c p3
      go_wp2_with fail
      refine (haa _).mono ?_
      rintro r wA ⟨rfl, bN⟩
      have p1 := below_own bN p1 p1.lt
      have p2 := below_own bN p2 p2.lt
      have p3 := below_own bN p3 p3.lt
      have k6 := k6.trans (bN.mono k6.size)
      clear d0 d1 d2 d3 d4 e0 e1 e2 e3 e4 f0 f1 f2 f3 f4 bN
      obtain ⟨d0, d1, d2, d3, d4⟩ := own_c p1
      obtain ⟨e0, e1, e2, e3, e4⟩ := own_c p2
      obtain ⟨f0, f1, f2, f3, f4⟩ := own_c p3
      go_wp2_with fail
      refine (hrl _).mono ?_
      rintro r wB ⟨rfl, bN⟩
      have p1 := below_own bN p1 p1.lt
      have p2 := below_own bN p2 p2.lt
      have p3 := below_own bN p3 p3.lt
      have k6 := k6.trans (bN.mono k6.size)
      clear d0 d1 d2 d3 d4 e0 e1 e2 e3 e4 f0 f1 f2 f3 f4 bN
      obtain ⟨d0, d1, d2, d3, d4⟩ := own_c p1
      obtain ⟨e0, e1, e2, e3, e4⟩ := own_c p2
      obtain ⟨f0, f1, f2, f3, f4⟩ := own_c p3
      go_wp2_with fail
      refine (awake_any _).mono ?_
      rintro r wC ⟨rfl, bC⟩
      go_wp2_with fail
      go_ret
      exact ⟨rfl, k6.trans (bC.mono k6.size)⟩
    · obtain rfl := hyz rfl rfl
      clear hyz
      go_enter Try.func6, Try.ntmps6
      go_wp2_with fail
      generalize ((w.alloc (.cells #[.int .i64 x1, .int .i64 a2, .int .i64 a3, .int .i64 a4, .int .i64 a5] 31)).alloc (.cells #[.int .i64 x1, .int .i64 b2, .int .i64 b3, .int .i64 b4, .int .i64 b5] 31)).alloc (.cells #[.int .i64 c1, .int .i64 c2, .int .i64 c3, .int .i64 c4, .int .i64 c5] 31) = w1 at *
      obtain ⟨d0, d1, d2, d3, d4⟩ := own_c o1
      obtain ⟨e0, e1, e2, e3, e4⟩ := own_c o2
      have s0 := s10 (w := w) (W := w1.drew) (a := ⟨x1, a2, a3, a4, a5⟩) (b := ⟨x1, b2, b3, b4, b5⟩) ⟨d0, d1, d2, d3, d4⟩ ⟨e0, e1, e2, e3, e4⟩
      go_region_held3 (fun w' : World => w'.cell? ⟨w.heap.size, 0, none⟩ = some (.int .i64 x1) ∧ w'.cell? ⟨w.heap.size, 1, none⟩ = some (.int .i64 a2) ∧ w'.cell? ⟨w.heap.size, 2, none⟩ = some (.int .i64 a3) ∧ w'.cell? ⟨w.heap.size, 3, none⟩ = some (.int .i64 a4) ∧ w'.cell? ⟨w.heap.size, 4, none⟩ = some (.int .i64 a5) ∧ w'.cell? ⟨w.heap.size + 1, 0, none⟩ = some (.int .i64 x1) ∧ w'.cell? ⟨w.heap.size + 1, 1, none⟩ = some (.int .i64 b2) ∧ w'.cell? ⟨w.heap.size + 1, 2, none⟩ = some (.int .i64 b3) ∧ w'.cell? ⟨w.heap.size + 1, 3, none⟩ = some (.int .i64 b4) ∧ w'.cell? ⟨w.heap.size + 1, 4, none⟩ = some (.int .i64 b5)) (first | exact s0 | exact s2 | exact s3) ((go_at_call 24; first | ((with_reducible refine (hab _).mono ?_); rintro r w5 ⟨rfl, b5'⟩; have s2 := keep10 (a := ⟨x1, a2, a3, a4, a5⟩) (b := ⟨x1, b2, b3, b4, b5⟩) b5' (by first | exact s0 | exact s3)) | ((with_reducible refine (hba _).mono ?_); rintro r w6 ⟨rfl, b6⟩; have s3 := keep10 (a := ⟨x1, a2, a3, a4, a5⟩) (b := ⟨x1, b2, b3, b4, b5⟩) b6 (by first | exact s0 | exact s2))))
      have b56 : Below w1.heap.size w1 w6 := ((below_drewN (Below.refl w1.heap.size w1) 1).trans b5').trans (b6.mono b5'.size)
      have p1 := below_own b56 o1 o1.lt
      have p2 := below_own b56 o2 o2.lt
      have p3 := below_own b56 o3 o3.lt
      have k6 := b0.trans (b56.mono b0.size)
      clear o1 o2 o3 d0 d1 d2 d3 d4 e0 e1 e2 e3 e4 s0 s2 s3 b5' b6 b56 b0
      obtain ⟨d0, d1, d2, d3, d4⟩ := own_c p1
      obtain ⟨e0, e1, e2, e3, e4⟩ := own_c p2
      obtain ⟨f0, f1, f2, f3, f4⟩ := own_c p3
      go_wp2_with fail
      refine (hbc _).mono ?_
      rintro r wY ⟨rfl, bN⟩
      have p1 := below_own bN p1 p1.lt
      have p2 := below_own bN p2 p2.lt
      have p3 := below_own bN p3 p3.lt
      have k6 := k6.trans (bN.mono k6.size)
      clear d0 d1 d2 d3 d4 e0 e1 e2 e3 e4 f0 f1 f2 f3 f4 bN
      obtain ⟨d0, d1, d2, d3, d4⟩ := own_c p1
      obtain ⟨e0, e1, e2, e3, e4⟩ := own_c p2
      obtain ⟨f0, f1, f2, f3, f4⟩ := own_c p3
      go_wp2_with fail
      refine (hac _).mono ?_
      rintro r wZ ⟨rfl, bN⟩
      have p1 := below_own bN p1 p1.lt
      have p2 := below_own bN p2 p2.lt
      have p3 := below_own bN p3 p3.lt
      have k6 := k6.trans (bN.mono k6.size)
      clear d0 d1 d2 d3 d4 e0 e1 e2 e3 e4 f0 f1 f2 f3 f4 bN
      obtain ⟨d0, d1, d2, d3, d4⟩ := own_c p1
      obtain ⟨e0, e1, e2, e3, e4⟩ := own_c p2
      obtain ⟨f0, f1, f2, f3, f4⟩ := own_c p3
      go_wp2_with fail
      refine (haa _).mono ?_
      rintro r wA ⟨rfl, bN⟩
      have p1 := below_own bN p1 p1.lt
      have p2 := below_own bN p2 p2.lt
      have p3 := below_own bN p3 p3.lt
      have k6 := k6.trans (bN.mono k6.size)
      clear d0 d1 d2 d3 d4 e0 e1 e2 e3 e4 f0 f1 f2 f3 f4 bN
      obtain ⟨d0, d1, d2, d3, d4⟩ := own_c p1
      obtain ⟨e0, e1, e2, e3, e4⟩ := own_c p2
      obtain ⟨f0, f1, f2, f3, f4⟩ := own_c p3
      go_wp2_with fail
      refine (hrl _).mono ?_
      rintro r wB ⟨rfl, bN⟩
      have p1 := below_own bN p1 p1.lt
      have p2 := below_own bN p2 p2.lt
      have p3 := below_own bN p3 p3.lt
      have k6 := k6.trans (bN.mono k6.size)
      clear d0 d1 d2 d3 d4 e0 e1 e2 e3 e4 f0 f1 f2 f3 f4 bN
      obtain ⟨d0, d1, d2, d3, d4⟩ := own_c p1
      obtain ⟨e0, e1, e2, e3, e4⟩ := own_c p2
      obtain ⟨f0, f1, f2, f3, f4⟩ := own_c p3
      go_wp2_with fail
      refine (awake_any _).mono ?_
      rintro r wC ⟨rfl, bC⟩
      go_wp2_with fail
      go_ret
      exact ⟨rfl, k6.trans (bC.mono k6.size)⟩
  · clear hyz
    go_enter Try.func6, Try.ntmps6
    go_wp2_with fail
    generalize ((w.alloc (.cells #[.int .i64 x1, .int .i64 a2, .int .i64 a3, .int .i64 a4, .int .i64 a5] 31)).alloc (.cells #[.int .i64 x1, .int .i64 b2, .int .i64 b3, .int .i64 b4, .int .i64 b5] 31)).alloc (.cells #[.int .i64 c1, .int .i64 c2, .int .i64 c3, .int .i64 c4, .int .i64 c5] 31) = w1 at *
    obtain ⟨d0, d1, d2, d3, d4⟩ := own_c o1
    obtain ⟨e0, e1, e2, e3, e4⟩ := own_c o2
    have s0 := s10 (w := w) (W := w1.drew) (a := ⟨x1, a2, a3, a4, a5⟩) (b := ⟨x1, b2, b3, b4, b5⟩) ⟨d0, d1, d2, d3, d4⟩ ⟨e0, e1, e2, e3, e4⟩
    go_region_held3 (fun w' : World => w'.cell? ⟨w.heap.size, 0, none⟩ = some (.int .i64 x1) ∧ w'.cell? ⟨w.heap.size, 1, none⟩ = some (.int .i64 a2) ∧ w'.cell? ⟨w.heap.size, 2, none⟩ = some (.int .i64 a3) ∧ w'.cell? ⟨w.heap.size, 3, none⟩ = some (.int .i64 a4) ∧ w'.cell? ⟨w.heap.size, 4, none⟩ = some (.int .i64 a5) ∧ w'.cell? ⟨w.heap.size + 1, 0, none⟩ = some (.int .i64 x1) ∧ w'.cell? ⟨w.heap.size + 1, 1, none⟩ = some (.int .i64 b2) ∧ w'.cell? ⟨w.heap.size + 1, 2, none⟩ = some (.int .i64 b3) ∧ w'.cell? ⟨w.heap.size + 1, 3, none⟩ = some (.int .i64 b4) ∧ w'.cell? ⟨w.heap.size + 1, 4, none⟩ = some (.int .i64 b5)) (first | exact s0 | exact s2 | exact s3) ((go_at_call 24; first | ((with_reducible refine (hab _).mono ?_); rintro r w5 ⟨rfl, b5'⟩; have s2 := keep10 (a := ⟨x1, a2, a3, a4, a5⟩) (b := ⟨x1, b2, b3, b4, b5⟩) b5' (by first | exact s0 | exact s3)) | ((with_reducible refine (hba _).mono ?_); rintro r w6 ⟨rfl, b6⟩; have s3 := keep10 (a := ⟨x1, a2, a3, a4, a5⟩) (b := ⟨x1, b2, b3, b4, b5⟩) b6 (by first | exact s0 | exact s2))))
    have b56 : Below w1.heap.size w1 w6 := ((below_drewN (Below.refl w1.heap.size w1) 1).trans b5').trans (b6.mono b5'.size)
    have p1 := below_own b56 o1 o1.lt
    have p2 := below_own b56 o2 o2.lt
    have p3 := below_own b56 o3 o3.lt
    have k6 := b0.trans (b56.mono b0.size)
    clear o1 o2 o3 d0 d1 d2 d3 d4 e0 e1 e2 e3 e4 s0 s2 s3 b5' b6 b56 b0
    obtain ⟨d0, d1, d2, d3, d4⟩ := own_c p1
    obtain ⟨e0, e1, e2, e3, e4⟩ := own_c p2
    obtain ⟨f0, f1, f2, f3, f4⟩ := own_c p3
    go_wp2_with fail
    refine (haa _).mono ?_
    rintro r wA ⟨rfl, bN⟩
    have p1 := below_own bN p1 p1.lt
    have p2 := below_own bN p2 p2.lt
    have p3 := below_own bN p3 p3.lt
    have k6 := k6.trans (bN.mono k6.size)
    clear d0 d1 d2 d3 d4 e0 e1 e2 e3 e4 f0 f1 f2 f3 f4 bN
    obtain ⟨d0, d1, d2, d3, d4⟩ := own_c p1
    obtain ⟨e0, e1, e2, e3, e4⟩ := own_c p2
    obtain ⟨f0, f1, f2, f3, f4⟩ := own_c p3
    go_wp2_with fail
    refine (hrl _).mono ?_
    rintro r wB ⟨rfl, bN⟩
    have p1 := below_own bN p1 p1.lt
    have p2 := below_own bN p2 p2.lt
    have p3 := below_own bN p3 p3.lt
    have k6 := k6.trans (bN.mono k6.size)
    clear d0 d1 d2 d3 d4 e0 e1 e2 e3 e4 f0 f1 f2 f3 f4 bN
    obtain ⟨d0, d1, d2, d3, d4⟩ := own_c p1
    obtain ⟨e0, e1, e2, e3, e4⟩ := own_c p2
    obtain ⟨f0, f1, f2, f3, f4⟩ := own_c p3
    go_wp2_with fail
    refine (awake_any _).mono ?_
    rintro r wC ⟨rfl, bC⟩
    go_wp2_with fail
    go_ret
    exact ⟨rfl, k6.trans (bC.mono k6.size)⟩
set_option maxHeartbeats 2000000 in
theorem core3 (x1 x2 a3 a4 a5 b3 b4 b5 c1 c2 c3 c4 c5 : Int) (hne : ¬ a3 = b3) (p q y z : Bool) (hpq : (p = true ∧ q = false) ∨ (p = false ∧ q = true)) (hyz : p = true → y = true → z = true) (hab : (∀ w, Calls Try.prog 24 #[.agg #[.int .i64 x1, .int .i64 x2, .int .i64 a3, .int .i64 a4, .int .i64 a5], .agg #[.int .i64 x1, .int .i64 x2, .int .i64 b3, .int .i64 b4, .int .i64 b5]] w fun r w' => r = .returned (.bool p) ∧ Below w.heap.size w w')) (hba : (∀ w, Calls Try.prog 24 #[.agg #[.int .i64 x1, .int .i64 x2, .int .i64 b3, .int .i64 b4, .int .i64 b5], .agg #[.int .i64 x1, .int .i64 x2, .int .i64 a3, .int .i64 a4, .int .i64 a5]] w fun r w' => r = .returned (.bool q) ∧ Below w.heap.size w w')) (haa : (∀ w, Calls Try.prog 24 #[.agg #[.int .i64 x1, .int .i64 x2, .int .i64 a3, .int .i64 a4, .int .i64 a5], .agg #[.int .i64 x1, .int .i64 x2, .int .i64 a3, .int .i64 a4, .int .i64 a5]] w fun r w' => r = .returned (.bool false) ∧ Below w.heap.size w w')) (hbc : (∀ w, Calls Try.prog 24 #[.agg #[.int .i64 x1, .int .i64 x2, .int .i64 b3, .int .i64 b4, .int .i64 b5], .agg #[.int .i64 c1, .int .i64 c2, .int .i64 c3, .int .i64 c4, .int .i64 c5]] w fun r w' => r = .returned (.bool y) ∧ Below w.heap.size w w')) (hac : (∀ w, Calls Try.prog 24 #[.agg #[.int .i64 x1, .int .i64 x2, .int .i64 a3, .int .i64 a4, .int .i64 a5], .agg #[.int .i64 c1, .int .i64 c2, .int .i64 c3, .int .i64 c4, .int .i64 c5]] w fun r w' => r = .returned (.bool z) ∧ Below w.heap.size w w')) (hrl : (∀ w, Calls Try.prog 25 #[.agg #[.int .i64 x1, .int .i64 x2, .int .i64 a3, .int .i64 a4, .int .i64 a5], .agg #[.int .i64 x1, .int .i64 x2, .int .i64 b3, .int .i64 b4, .int .i64 b5]] w fun r w' => r = .returned (.bool p) ∧ Below w.heap.size w w')) (w : World) :
    Calls Try.prog 6 #[.agg #[.int .i64 x1, .int .i64 x2, .int .i64 a3, .int .i64 a4, .int .i64 a5], .agg #[.int .i64 x1, .int .i64 x2, .int .i64 b3, .int .i64 b4, .int .i64 b5], .agg #[.int .i64 c1, .int .i64 c2, .int .i64 c3, .int .i64 c4, .int .i64 c5]] w fun r w' => r = .returned (.bool true) ∧ Below w.heap.size w w' := by
  have o1 : Own (((w.alloc (.cells #[.int .i64 x1, .int .i64 x2, .int .i64 a3, .int .i64 a4, .int .i64 a5] 31)).alloc (.cells #[.int .i64 x1, .int .i64 x2, .int .i64 b3, .int .i64 b4, .int .i64 b5] 31)).alloc (.cells #[.int .i64 c1, .int .i64 c2, .int .i64 c3, .int .i64 c4, .int .i64 c5] 31)) w.heap.size 31 (C.vals ⟨x1, x2, a3, a4, a5⟩) := ((Own.new w _ _).alloc _).alloc _
  have o2 : Own (((w.alloc (.cells #[.int .i64 x1, .int .i64 x2, .int .i64 a3, .int .i64 a4, .int .i64 a5] 31)).alloc (.cells #[.int .i64 x1, .int .i64 x2, .int .i64 b3, .int .i64 b4, .int .i64 b5] 31)).alloc (.cells #[.int .i64 c1, .int .i64 c2, .int .i64 c3, .int .i64 c4, .int .i64 c5] 31)) (w.heap.size + 1) 31 (C.vals ⟨x1, x2, b3, b4, b5⟩) := by
    have := Own.new (w.alloc (.cells #[.int .i64 x1, .int .i64 x2, .int .i64 a3, .int .i64 a4, .int .i64 a5] 31)) 31 (C.vals ⟨x1, x2, b3, b4, b5⟩)
    rw [show (w.alloc (.cells #[.int .i64 x1, .int .i64 x2, .int .i64 a3, .int .i64 a4, .int .i64 a5] 31)).heap.size = w.heap.size + 1 by simp] at this
    exact this.alloc _
  have o3 : Own (((w.alloc (.cells #[.int .i64 x1, .int .i64 x2, .int .i64 a3, .int .i64 a4, .int .i64 a5] 31)).alloc (.cells #[.int .i64 x1, .int .i64 x2, .int .i64 b3, .int .i64 b4, .int .i64 b5] 31)).alloc (.cells #[.int .i64 c1, .int .i64 c2, .int .i64 c3, .int .i64 c4, .int .i64 c5] 31)) (w.heap.size + 1 + 1) 31 (C.vals ⟨c1, c2, c3, c4, c5⟩) := by
    have := Own.new ((w.alloc (.cells #[.int .i64 x1, .int .i64 x2, .int .i64 a3, .int .i64 a4, .int .i64 a5] 31)).alloc (.cells #[.int .i64 x1, .int .i64 x2, .int .i64 b3, .int .i64 b4, .int .i64 b5] 31)) 31 (C.vals ⟨c1, c2, c3, c4, c5⟩)
    rwa [show ((w.alloc (.cells #[.int .i64 x1, .int .i64 x2, .int .i64 a3, .int .i64 a4, .int .i64 a5] 31)).alloc (.cells #[.int .i64 x1, .int .i64 x2, .int .i64 b3, .int .i64 b4, .int .i64 b5] 31)).heap.size = w.heap.size + 1 + 1 by simp] at this
  have b0 := (((Below.refl w.heap.size w).alloc (Nat.le_refl _) (.cells #[.int .i64 x1, .int .i64 x2, .int .i64 a3, .int .i64 a4, .int .i64 a5] 31)).alloc (by simp) (.cells #[.int .i64 x1, .int .i64 x2, .int .i64 b3, .int .i64 b4, .int .i64 b5] 31)).alloc (by simp; omega) (.cells #[.int .i64 c1, .int .i64 c2, .int .i64 c3, .int .i64 c4, .int .i64 c5] 31)
  rcases hpq with ⟨rfl, rfl⟩ | ⟨rfl, rfl⟩
  · cases y
    · clear hyz
      go_enter Try.func6, Try.ntmps6
      go_wp2_with fail
      generalize ((w.alloc (.cells #[.int .i64 x1, .int .i64 x2, .int .i64 a3, .int .i64 a4, .int .i64 a5] 31)).alloc (.cells #[.int .i64 x1, .int .i64 x2, .int .i64 b3, .int .i64 b4, .int .i64 b5] 31)).alloc (.cells #[.int .i64 c1, .int .i64 c2, .int .i64 c3, .int .i64 c4, .int .i64 c5] 31) = w1 at *
      obtain ⟨d0, d1, d2, d3, d4⟩ := own_c o1
      obtain ⟨e0, e1, e2, e3, e4⟩ := own_c o2
      have s0 := s10 (w := w) (W := w1.drew) (a := ⟨x1, x2, a3, a4, a5⟩) (b := ⟨x1, x2, b3, b4, b5⟩) ⟨d0, d1, d2, d3, d4⟩ ⟨e0, e1, e2, e3, e4⟩
      go_region_held3 (fun w' : World => w'.cell? ⟨w.heap.size, 0, none⟩ = some (.int .i64 x1) ∧ w'.cell? ⟨w.heap.size, 1, none⟩ = some (.int .i64 x2) ∧ w'.cell? ⟨w.heap.size, 2, none⟩ = some (.int .i64 a3) ∧ w'.cell? ⟨w.heap.size, 3, none⟩ = some (.int .i64 a4) ∧ w'.cell? ⟨w.heap.size, 4, none⟩ = some (.int .i64 a5) ∧ w'.cell? ⟨w.heap.size + 1, 0, none⟩ = some (.int .i64 x1) ∧ w'.cell? ⟨w.heap.size + 1, 1, none⟩ = some (.int .i64 x2) ∧ w'.cell? ⟨w.heap.size + 1, 2, none⟩ = some (.int .i64 b3) ∧ w'.cell? ⟨w.heap.size + 1, 3, none⟩ = some (.int .i64 b4) ∧ w'.cell? ⟨w.heap.size + 1, 4, none⟩ = some (.int .i64 b5)) (first | exact s0 | exact s2 | exact s3) ((go_at_call 24; first | ((with_reducible refine (hab _).mono ?_); rintro r w5 ⟨rfl, b5'⟩; have s2 := keep10 (a := ⟨x1, x2, a3, a4, a5⟩) (b := ⟨x1, x2, b3, b4, b5⟩) b5' (by first | exact s0 | exact s3)) | ((with_reducible refine (hba _).mono ?_); rintro r w6 ⟨rfl, b6⟩; have s3 := keep10 (a := ⟨x1, x2, a3, a4, a5⟩) (b := ⟨x1, x2, b3, b4, b5⟩) b6 (by first | exact s0 | exact s2))))
      have b56 : Below w1.heap.size w1 w6 := ((below_drewN (Below.refl w1.heap.size w1) 1).trans b5').trans (b6.mono b5'.size)
      have p1 := below_own b56 o1 o1.lt
      have p2 := below_own b56 o2 o2.lt
      have p3 := below_own b56 o3 o3.lt
      have k6 := b0.trans (b56.mono b0.size)
      clear o1 o2 o3 d0 d1 d2 d3 d4 e0 e1 e2 e3 e4 s0 s2 s3 b5' b6 b56 b0
      obtain ⟨d0, d1, d2, d3, d4⟩ := own_c p1
      obtain ⟨e0, e1, e2, e3, e4⟩ := own_c p2
      obtain ⟨f0, f1, f2, f3, f4⟩ := own_c p3
      go_wp2_with fail
      refine (hbc _).mono ?_
      rintro r wY ⟨rfl, bN⟩
      have p1 := below_own bN p1 p1.lt
      have p2 := below_own bN p2 p2.lt
      have p3 := below_own bN p3 p3.lt
      have k6 := k6.trans (bN.mono k6.size)
      clear d0 d1 d2 d3 d4 e0 e1 e2 e3 e4 f0 f1 f2 f3 f4 bN
      obtain ⟨d0, d1, d2, d3, d4⟩ := own_c p1
      obtain ⟨e0, e1, e2, e3, e4⟩ := own_c p2
      obtain ⟨f0, f1, f2, f3, f4⟩ := own_c p3
      go_wp2_with fail
      refine (haa _).mono ?_
      rintro r wA ⟨rfl, bN⟩
      have p1 := below_own bN p1 p1.lt
      have p2 := below_own bN p2 p2.lt
      have p3 := below_own bN p3 p3.lt
      have k6 := k6.trans (bN.mono k6.size)
      clear d0 d1 d2 d3 d4 e0 e1 e2 e3 e4 f0 f1 f2 f3 f4 bN
      obtain ⟨d0, d1, d2, d3, d4⟩ := own_c p1
      obtain ⟨e0, e1, e2, e3, e4⟩ := own_c p2
      obtain ⟨f0, f1, f2, f3, f4⟩ := own_c p3
      go_wp2_with fail
      refine (hrl _).mono ?_
      rintro r wB ⟨rfl, bN⟩
      have p1 := below_own bN p1 p1.lt
      have p2 := below_own bN p2 p2.lt
      have p3 := below_own bN p3 p3.lt
      have k6 := k6.trans (bN.mono k6.size)
      clear d0 d1 d2 d3 d4 e0 e1 e2 e3 e4 f0 f1 f2 f3 f4 bN
      obtain ⟨d0, d1, d2, d3, d4⟩ := own_c p1
      obtain ⟨e0, e1, e2, e3, e4⟩ := own_c p2
      obtain ⟨f0, f1, f2, f3, f4⟩ := own_c p3
      go_wp2_with fail
      refine (awake_any _).mono ?_
      rintro r wC ⟨rfl, bC⟩
      go_wp2_with fail
      go_ret
      exact ⟨rfl, k6.trans (bC.mono k6.size)⟩
    · obtain rfl := hyz rfl rfl
      clear hyz
      go_enter Try.func6, Try.ntmps6
      go_wp2_with fail
      generalize ((w.alloc (.cells #[.int .i64 x1, .int .i64 x2, .int .i64 a3, .int .i64 a4, .int .i64 a5] 31)).alloc (.cells #[.int .i64 x1, .int .i64 x2, .int .i64 b3, .int .i64 b4, .int .i64 b5] 31)).alloc (.cells #[.int .i64 c1, .int .i64 c2, .int .i64 c3, .int .i64 c4, .int .i64 c5] 31) = w1 at *
      obtain ⟨d0, d1, d2, d3, d4⟩ := own_c o1
      obtain ⟨e0, e1, e2, e3, e4⟩ := own_c o2
      have s0 := s10 (w := w) (W := w1.drew) (a := ⟨x1, x2, a3, a4, a5⟩) (b := ⟨x1, x2, b3, b4, b5⟩) ⟨d0, d1, d2, d3, d4⟩ ⟨e0, e1, e2, e3, e4⟩
      go_region_held3 (fun w' : World => w'.cell? ⟨w.heap.size, 0, none⟩ = some (.int .i64 x1) ∧ w'.cell? ⟨w.heap.size, 1, none⟩ = some (.int .i64 x2) ∧ w'.cell? ⟨w.heap.size, 2, none⟩ = some (.int .i64 a3) ∧ w'.cell? ⟨w.heap.size, 3, none⟩ = some (.int .i64 a4) ∧ w'.cell? ⟨w.heap.size, 4, none⟩ = some (.int .i64 a5) ∧ w'.cell? ⟨w.heap.size + 1, 0, none⟩ = some (.int .i64 x1) ∧ w'.cell? ⟨w.heap.size + 1, 1, none⟩ = some (.int .i64 x2) ∧ w'.cell? ⟨w.heap.size + 1, 2, none⟩ = some (.int .i64 b3) ∧ w'.cell? ⟨w.heap.size + 1, 3, none⟩ = some (.int .i64 b4) ∧ w'.cell? ⟨w.heap.size + 1, 4, none⟩ = some (.int .i64 b5)) (first | exact s0 | exact s2 | exact s3) ((go_at_call 24; first | ((with_reducible refine (hab _).mono ?_); rintro r w5 ⟨rfl, b5'⟩; have s2 := keep10 (a := ⟨x1, x2, a3, a4, a5⟩) (b := ⟨x1, x2, b3, b4, b5⟩) b5' (by first | exact s0 | exact s3)) | ((with_reducible refine (hba _).mono ?_); rintro r w6 ⟨rfl, b6⟩; have s3 := keep10 (a := ⟨x1, x2, a3, a4, a5⟩) (b := ⟨x1, x2, b3, b4, b5⟩) b6 (by first | exact s0 | exact s2))))
      have b56 : Below w1.heap.size w1 w6 := ((below_drewN (Below.refl w1.heap.size w1) 1).trans b5').trans (b6.mono b5'.size)
      have p1 := below_own b56 o1 o1.lt
      have p2 := below_own b56 o2 o2.lt
      have p3 := below_own b56 o3 o3.lt
      have k6 := b0.trans (b56.mono b0.size)
      clear o1 o2 o3 d0 d1 d2 d3 d4 e0 e1 e2 e3 e4 s0 s2 s3 b5' b6 b56 b0
      obtain ⟨d0, d1, d2, d3, d4⟩ := own_c p1
      obtain ⟨e0, e1, e2, e3, e4⟩ := own_c p2
      obtain ⟨f0, f1, f2, f3, f4⟩ := own_c p3
      go_wp2_with fail
      refine (hbc _).mono ?_
      rintro r wY ⟨rfl, bN⟩
      have p1 := below_own bN p1 p1.lt
      have p2 := below_own bN p2 p2.lt
      have p3 := below_own bN p3 p3.lt
      have k6 := k6.trans (bN.mono k6.size)
      clear d0 d1 d2 d3 d4 e0 e1 e2 e3 e4 f0 f1 f2 f3 f4 bN
      obtain ⟨d0, d1, d2, d3, d4⟩ := own_c p1
      obtain ⟨e0, e1, e2, e3, e4⟩ := own_c p2
      obtain ⟨f0, f1, f2, f3, f4⟩ := own_c p3
      go_wp2_with fail
      refine (hac _).mono ?_
      rintro r wZ ⟨rfl, bN⟩
      have p1 := below_own bN p1 p1.lt
      have p2 := below_own bN p2 p2.lt
      have p3 := below_own bN p3 p3.lt
      have k6 := k6.trans (bN.mono k6.size)
      clear d0 d1 d2 d3 d4 e0 e1 e2 e3 e4 f0 f1 f2 f3 f4 bN
      obtain ⟨d0, d1, d2, d3, d4⟩ := own_c p1
      obtain ⟨e0, e1, e2, e3, e4⟩ := own_c p2
      obtain ⟨f0, f1, f2, f3, f4⟩ := own_c p3
      go_wp2_with fail
      refine (haa _).mono ?_
      rintro r wA ⟨rfl, bN⟩
      have p1 := below_own bN p1 p1.lt
      have p2 := below_own bN p2 p2.lt
      have p3 := below_own bN p3 p3.lt
      have k6 := k6.trans (bN.mono k6.size)
      clear d0 d1 d2 d3 d4 e0 e1 e2 e3 e4 f0 f1 f2 f3 f4 bN
      obtain ⟨d0, d1, d2, d3, d4⟩ := own_c p1
      obtain ⟨e0, e1, e2, e3, e4⟩ := own_c p2
      obtain ⟨f0, f1, f2, f3, f4⟩ := own_c p3
      go_wp2_with fail
      refine (hrl _).mono ?_
      rintro r wB ⟨rfl, bN⟩
      have p1 := below_own bN p1 p1.lt
      have p2 := below_own bN p2 p2.lt
      have p3 := below_own bN p3 p3.lt
      have k6 := k6.trans (bN.mono k6.size)
      clear d0 d1 d2 d3 d4 e0 e1 e2 e3 e4 f0 f1 f2 f3 f4 bN
      obtain ⟨d0, d1, d2, d3, d4⟩ := own_c p1
      obtain ⟨e0, e1, e2, e3, e4⟩ := own_c p2
      obtain ⟨f0, f1, f2, f3, f4⟩ := own_c p3
      go_wp2_with fail
      refine (awake_any _).mono ?_
      rintro r wC ⟨rfl, bC⟩
      go_wp2_with fail
      go_ret
      exact ⟨rfl, k6.trans (bC.mono k6.size)⟩
  · clear hyz
    go_enter Try.func6, Try.ntmps6
    go_wp2_with fail
    generalize ((w.alloc (.cells #[.int .i64 x1, .int .i64 x2, .int .i64 a3, .int .i64 a4, .int .i64 a5] 31)).alloc (.cells #[.int .i64 x1, .int .i64 x2, .int .i64 b3, .int .i64 b4, .int .i64 b5] 31)).alloc (.cells #[.int .i64 c1, .int .i64 c2, .int .i64 c3, .int .i64 c4, .int .i64 c5] 31) = w1 at *
    obtain ⟨d0, d1, d2, d3, d4⟩ := own_c o1
    obtain ⟨e0, e1, e2, e3, e4⟩ := own_c o2
    have s0 := s10 (w := w) (W := w1.drew) (a := ⟨x1, x2, a3, a4, a5⟩) (b := ⟨x1, x2, b3, b4, b5⟩) ⟨d0, d1, d2, d3, d4⟩ ⟨e0, e1, e2, e3, e4⟩
    go_region_held3 (fun w' : World => w'.cell? ⟨w.heap.size, 0, none⟩ = some (.int .i64 x1) ∧ w'.cell? ⟨w.heap.size, 1, none⟩ = some (.int .i64 x2) ∧ w'.cell? ⟨w.heap.size, 2, none⟩ = some (.int .i64 a3) ∧ w'.cell? ⟨w.heap.size, 3, none⟩ = some (.int .i64 a4) ∧ w'.cell? ⟨w.heap.size, 4, none⟩ = some (.int .i64 a5) ∧ w'.cell? ⟨w.heap.size + 1, 0, none⟩ = some (.int .i64 x1) ∧ w'.cell? ⟨w.heap.size + 1, 1, none⟩ = some (.int .i64 x2) ∧ w'.cell? ⟨w.heap.size + 1, 2, none⟩ = some (.int .i64 b3) ∧ w'.cell? ⟨w.heap.size + 1, 3, none⟩ = some (.int .i64 b4) ∧ w'.cell? ⟨w.heap.size + 1, 4, none⟩ = some (.int .i64 b5)) (first | exact s0 | exact s2 | exact s3) ((go_at_call 24; first | ((with_reducible refine (hab _).mono ?_); rintro r w5 ⟨rfl, b5'⟩; have s2 := keep10 (a := ⟨x1, x2, a3, a4, a5⟩) (b := ⟨x1, x2, b3, b4, b5⟩) b5' (by first | exact s0 | exact s3)) | ((with_reducible refine (hba _).mono ?_); rintro r w6 ⟨rfl, b6⟩; have s3 := keep10 (a := ⟨x1, x2, a3, a4, a5⟩) (b := ⟨x1, x2, b3, b4, b5⟩) b6 (by first | exact s0 | exact s2))))
    have b56 : Below w1.heap.size w1 w6 := ((below_drewN (Below.refl w1.heap.size w1) 1).trans b5').trans (b6.mono b5'.size)
    have p1 := below_own b56 o1 o1.lt
    have p2 := below_own b56 o2 o2.lt
    have p3 := below_own b56 o3 o3.lt
    have k6 := b0.trans (b56.mono b0.size)
    clear o1 o2 o3 d0 d1 d2 d3 d4 e0 e1 e2 e3 e4 s0 s2 s3 b5' b6 b56 b0
    obtain ⟨d0, d1, d2, d3, d4⟩ := own_c p1
    obtain ⟨e0, e1, e2, e3, e4⟩ := own_c p2
    obtain ⟨f0, f1, f2, f3, f4⟩ := own_c p3
    go_wp2_with fail
    refine (haa _).mono ?_
    rintro r wA ⟨rfl, bN⟩
    have p1 := below_own bN p1 p1.lt
    have p2 := below_own bN p2 p2.lt
    have p3 := below_own bN p3 p3.lt
    have k6 := k6.trans (bN.mono k6.size)
    clear d0 d1 d2 d3 d4 e0 e1 e2 e3 e4 f0 f1 f2 f3 f4 bN
    obtain ⟨d0, d1, d2, d3, d4⟩ := own_c p1
    obtain ⟨e0, e1, e2, e3, e4⟩ := own_c p2
    obtain ⟨f0, f1, f2, f3, f4⟩ := own_c p3
    go_wp2_with fail
    refine (hrl _).mono ?_
    rintro r wB ⟨rfl, bN⟩
    have p1 := below_own bN p1 p1.lt
    have p2 := below_own bN p2 p2.lt
    have p3 := below_own bN p3 p3.lt
    have k6 := k6.trans (bN.mono k6.size)
    clear d0 d1 d2 d3 d4 e0 e1 e2 e3 e4 f0 f1 f2 f3 f4 bN
    obtain ⟨d0, d1, d2, d3, d4⟩ := own_c p1
    obtain ⟨e0, e1, e2, e3, e4⟩ := own_c p2
    obtain ⟨f0, f1, f2, f3, f4⟩ := own_c p3
    go_wp2_with fail
    refine (awake_any _).mono ?_
    rintro r wC ⟨rfl, bC⟩
    go_wp2_with fail
    go_ret
    exact ⟨rfl, k6.trans (bC.mono k6.size)⟩
set_option maxHeartbeats 2000000 in
theorem core4 (x1 x2 x3 a4 a5 b4 b5 c1 c2 c3 c4 c5 : Int) (hne : ¬ a4 = b4) (p q y z : Bool) (hpq : (p = true ∧ q = false) ∨ (p = false ∧ q = true)) (hyz : p = true → y = true → z = true) (hab : (∀ w, Calls Try.prog 24 #[.agg #[.int .i64 x1, .int .i64 x2, .int .i64 x3, .int .i64 a4, .int .i64 a5], .agg #[.int .i64 x1, .int .i64 x2, .int .i64 x3, .int .i64 b4, .int .i64 b5]] w fun r w' => r = .returned (.bool p) ∧ Below w.heap.size w w')) (hba : (∀ w, Calls Try.prog 24 #[.agg #[.int .i64 x1, .int .i64 x2, .int .i64 x3, .int .i64 b4, .int .i64 b5], .agg #[.int .i64 x1, .int .i64 x2, .int .i64 x3, .int .i64 a4, .int .i64 a5]] w fun r w' => r = .returned (.bool q) ∧ Below w.heap.size w w')) (haa : (∀ w, Calls Try.prog 24 #[.agg #[.int .i64 x1, .int .i64 x2, .int .i64 x3, .int .i64 a4, .int .i64 a5], .agg #[.int .i64 x1, .int .i64 x2, .int .i64 x3, .int .i64 a4, .int .i64 a5]] w fun r w' => r = .returned (.bool false) ∧ Below w.heap.size w w')) (hbc : (∀ w, Calls Try.prog 24 #[.agg #[.int .i64 x1, .int .i64 x2, .int .i64 x3, .int .i64 b4, .int .i64 b5], .agg #[.int .i64 c1, .int .i64 c2, .int .i64 c3, .int .i64 c4, .int .i64 c5]] w fun r w' => r = .returned (.bool y) ∧ Below w.heap.size w w')) (hac : (∀ w, Calls Try.prog 24 #[.agg #[.int .i64 x1, .int .i64 x2, .int .i64 x3, .int .i64 a4, .int .i64 a5], .agg #[.int .i64 c1, .int .i64 c2, .int .i64 c3, .int .i64 c4, .int .i64 c5]] w fun r w' => r = .returned (.bool z) ∧ Below w.heap.size w w')) (hrl : (∀ w, Calls Try.prog 25 #[.agg #[.int .i64 x1, .int .i64 x2, .int .i64 x3, .int .i64 a4, .int .i64 a5], .agg #[.int .i64 x1, .int .i64 x2, .int .i64 x3, .int .i64 b4, .int .i64 b5]] w fun r w' => r = .returned (.bool p) ∧ Below w.heap.size w w')) (w : World) :
    Calls Try.prog 6 #[.agg #[.int .i64 x1, .int .i64 x2, .int .i64 x3, .int .i64 a4, .int .i64 a5], .agg #[.int .i64 x1, .int .i64 x2, .int .i64 x3, .int .i64 b4, .int .i64 b5], .agg #[.int .i64 c1, .int .i64 c2, .int .i64 c3, .int .i64 c4, .int .i64 c5]] w fun r w' => r = .returned (.bool true) ∧ Below w.heap.size w w' := by
  have o1 : Own (((w.alloc (.cells #[.int .i64 x1, .int .i64 x2, .int .i64 x3, .int .i64 a4, .int .i64 a5] 31)).alloc (.cells #[.int .i64 x1, .int .i64 x2, .int .i64 x3, .int .i64 b4, .int .i64 b5] 31)).alloc (.cells #[.int .i64 c1, .int .i64 c2, .int .i64 c3, .int .i64 c4, .int .i64 c5] 31)) w.heap.size 31 (C.vals ⟨x1, x2, x3, a4, a5⟩) := ((Own.new w _ _).alloc _).alloc _
  have o2 : Own (((w.alloc (.cells #[.int .i64 x1, .int .i64 x2, .int .i64 x3, .int .i64 a4, .int .i64 a5] 31)).alloc (.cells #[.int .i64 x1, .int .i64 x2, .int .i64 x3, .int .i64 b4, .int .i64 b5] 31)).alloc (.cells #[.int .i64 c1, .int .i64 c2, .int .i64 c3, .int .i64 c4, .int .i64 c5] 31)) (w.heap.size + 1) 31 (C.vals ⟨x1, x2, x3, b4, b5⟩) := by
    have := Own.new (w.alloc (.cells #[.int .i64 x1, .int .i64 x2, .int .i64 x3, .int .i64 a4, .int .i64 a5] 31)) 31 (C.vals ⟨x1, x2, x3, b4, b5⟩)
    rw [show (w.alloc (.cells #[.int .i64 x1, .int .i64 x2, .int .i64 x3, .int .i64 a4, .int .i64 a5] 31)).heap.size = w.heap.size + 1 by simp] at this
    exact this.alloc _
  have o3 : Own (((w.alloc (.cells #[.int .i64 x1, .int .i64 x2, .int .i64 x3, .int .i64 a4, .int .i64 a5] 31)).alloc (.cells #[.int .i64 x1, .int .i64 x2, .int .i64 x3, .int .i64 b4, .int .i64 b5] 31)).alloc (.cells #[.int .i64 c1, .int .i64 c2, .int .i64 c3, .int .i64 c4, .int .i64 c5] 31)) (w.heap.size + 1 + 1) 31 (C.vals ⟨c1, c2, c3, c4, c5⟩) := by
    have := Own.new ((w.alloc (.cells #[.int .i64 x1, .int .i64 x2, .int .i64 x3, .int .i64 a4, .int .i64 a5] 31)).alloc (.cells #[.int .i64 x1, .int .i64 x2, .int .i64 x3, .int .i64 b4, .int .i64 b5] 31)) 31 (C.vals ⟨c1, c2, c3, c4, c5⟩)
    rwa [show ((w.alloc (.cells #[.int .i64 x1, .int .i64 x2, .int .i64 x3, .int .i64 a4, .int .i64 a5] 31)).alloc (.cells #[.int .i64 x1, .int .i64 x2, .int .i64 x3, .int .i64 b4, .int .i64 b5] 31)).heap.size = w.heap.size + 1 + 1 by simp] at this
  have b0 := (((Below.refl w.heap.size w).alloc (Nat.le_refl _) (.cells #[.int .i64 x1, .int .i64 x2, .int .i64 x3, .int .i64 a4, .int .i64 a5] 31)).alloc (by simp) (.cells #[.int .i64 x1, .int .i64 x2, .int .i64 x3, .int .i64 b4, .int .i64 b5] 31)).alloc (by simp; omega) (.cells #[.int .i64 c1, .int .i64 c2, .int .i64 c3, .int .i64 c4, .int .i64 c5] 31)
  rcases hpq with ⟨rfl, rfl⟩ | ⟨rfl, rfl⟩
  · cases y
    · clear hyz
      go_enter Try.func6, Try.ntmps6
      go_wp2_with fail
      generalize ((w.alloc (.cells #[.int .i64 x1, .int .i64 x2, .int .i64 x3, .int .i64 a4, .int .i64 a5] 31)).alloc (.cells #[.int .i64 x1, .int .i64 x2, .int .i64 x3, .int .i64 b4, .int .i64 b5] 31)).alloc (.cells #[.int .i64 c1, .int .i64 c2, .int .i64 c3, .int .i64 c4, .int .i64 c5] 31) = w1 at *
      obtain ⟨d0, d1, d2, d3, d4⟩ := own_c o1
      obtain ⟨e0, e1, e2, e3, e4⟩ := own_c o2
      have s0 := s10 (w := w) (W := w1.drew) (a := ⟨x1, x2, x3, a4, a5⟩) (b := ⟨x1, x2, x3, b4, b5⟩) ⟨d0, d1, d2, d3, d4⟩ ⟨e0, e1, e2, e3, e4⟩
      go_region_held3 (fun w' : World => w'.cell? ⟨w.heap.size, 0, none⟩ = some (.int .i64 x1) ∧ w'.cell? ⟨w.heap.size, 1, none⟩ = some (.int .i64 x2) ∧ w'.cell? ⟨w.heap.size, 2, none⟩ = some (.int .i64 x3) ∧ w'.cell? ⟨w.heap.size, 3, none⟩ = some (.int .i64 a4) ∧ w'.cell? ⟨w.heap.size, 4, none⟩ = some (.int .i64 a5) ∧ w'.cell? ⟨w.heap.size + 1, 0, none⟩ = some (.int .i64 x1) ∧ w'.cell? ⟨w.heap.size + 1, 1, none⟩ = some (.int .i64 x2) ∧ w'.cell? ⟨w.heap.size + 1, 2, none⟩ = some (.int .i64 x3) ∧ w'.cell? ⟨w.heap.size + 1, 3, none⟩ = some (.int .i64 b4) ∧ w'.cell? ⟨w.heap.size + 1, 4, none⟩ = some (.int .i64 b5)) (first | exact s0 | exact s2 | exact s3) ((go_at_call 24; first | ((with_reducible refine (hab _).mono ?_); rintro r w5 ⟨rfl, b5'⟩; have s2 := keep10 (a := ⟨x1, x2, x3, a4, a5⟩) (b := ⟨x1, x2, x3, b4, b5⟩) b5' (by first | exact s0 | exact s3)) | ((with_reducible refine (hba _).mono ?_); rintro r w6 ⟨rfl, b6⟩; have s3 := keep10 (a := ⟨x1, x2, x3, a4, a5⟩) (b := ⟨x1, x2, x3, b4, b5⟩) b6 (by first | exact s0 | exact s2))))
      have b56 : Below w1.heap.size w1 w6 := ((below_drewN (Below.refl w1.heap.size w1) 1).trans b5').trans (b6.mono b5'.size)
      have p1 := below_own b56 o1 o1.lt
      have p2 := below_own b56 o2 o2.lt
      have p3 := below_own b56 o3 o3.lt
      have k6 := b0.trans (b56.mono b0.size)
      clear o1 o2 o3 d0 d1 d2 d3 d4 e0 e1 e2 e3 e4 s0 s2 s3 b5' b6 b56 b0
      obtain ⟨d0, d1, d2, d3, d4⟩ := own_c p1
      obtain ⟨e0, e1, e2, e3, e4⟩ := own_c p2
      obtain ⟨f0, f1, f2, f3, f4⟩ := own_c p3
      go_wp2_with fail
      refine (hbc _).mono ?_
      rintro r wY ⟨rfl, bN⟩
      have p1 := below_own bN p1 p1.lt
      have p2 := below_own bN p2 p2.lt
      have p3 := below_own bN p3 p3.lt
      have k6 := k6.trans (bN.mono k6.size)
      clear d0 d1 d2 d3 d4 e0 e1 e2 e3 e4 f0 f1 f2 f3 f4 bN
      obtain ⟨d0, d1, d2, d3, d4⟩ := own_c p1
      obtain ⟨e0, e1, e2, e3, e4⟩ := own_c p2
      obtain ⟨f0, f1, f2, f3, f4⟩ := own_c p3
      go_wp2_with fail
      refine (haa _).mono ?_
      rintro r wA ⟨rfl, bN⟩
      have p1 := below_own bN p1 p1.lt
      have p2 := below_own bN p2 p2.lt
      have p3 := below_own bN p3 p3.lt
      have k6 := k6.trans (bN.mono k6.size)
      clear d0 d1 d2 d3 d4 e0 e1 e2 e3 e4 f0 f1 f2 f3 f4 bN
      obtain ⟨d0, d1, d2, d3, d4⟩ := own_c p1
      obtain ⟨e0, e1, e2, e3, e4⟩ := own_c p2
      obtain ⟨f0, f1, f2, f3, f4⟩ := own_c p3
      go_wp2_with fail
      refine (hrl _).mono ?_
      rintro r wB ⟨rfl, bN⟩
      have p1 := below_own bN p1 p1.lt
      have p2 := below_own bN p2 p2.lt
      have p3 := below_own bN p3 p3.lt
      have k6 := k6.trans (bN.mono k6.size)
      clear d0 d1 d2 d3 d4 e0 e1 e2 e3 e4 f0 f1 f2 f3 f4 bN
      obtain ⟨d0, d1, d2, d3, d4⟩ := own_c p1
      obtain ⟨e0, e1, e2, e3, e4⟩ := own_c p2
      obtain ⟨f0, f1, f2, f3, f4⟩ := own_c p3
      go_wp2_with fail
      refine (awake_any _).mono ?_
      rintro r wC ⟨rfl, bC⟩
      go_wp2_with fail
      go_ret
      exact ⟨rfl, k6.trans (bC.mono k6.size)⟩
    · obtain rfl := hyz rfl rfl
      clear hyz
      go_enter Try.func6, Try.ntmps6
      go_wp2_with fail
      generalize ((w.alloc (.cells #[.int .i64 x1, .int .i64 x2, .int .i64 x3, .int .i64 a4, .int .i64 a5] 31)).alloc (.cells #[.int .i64 x1, .int .i64 x2, .int .i64 x3, .int .i64 b4, .int .i64 b5] 31)).alloc (.cells #[.int .i64 c1, .int .i64 c2, .int .i64 c3, .int .i64 c4, .int .i64 c5] 31) = w1 at *
      obtain ⟨d0, d1, d2, d3, d4⟩ := own_c o1
      obtain ⟨e0, e1, e2, e3, e4⟩ := own_c o2
      have s0 := s10 (w := w) (W := w1.drew) (a := ⟨x1, x2, x3, a4, a5⟩) (b := ⟨x1, x2, x3, b4, b5⟩) ⟨d0, d1, d2, d3, d4⟩ ⟨e0, e1, e2, e3, e4⟩
      go_region_held3 (fun w' : World => w'.cell? ⟨w.heap.size, 0, none⟩ = some (.int .i64 x1) ∧ w'.cell? ⟨w.heap.size, 1, none⟩ = some (.int .i64 x2) ∧ w'.cell? ⟨w.heap.size, 2, none⟩ = some (.int .i64 x3) ∧ w'.cell? ⟨w.heap.size, 3, none⟩ = some (.int .i64 a4) ∧ w'.cell? ⟨w.heap.size, 4, none⟩ = some (.int .i64 a5) ∧ w'.cell? ⟨w.heap.size + 1, 0, none⟩ = some (.int .i64 x1) ∧ w'.cell? ⟨w.heap.size + 1, 1, none⟩ = some (.int .i64 x2) ∧ w'.cell? ⟨w.heap.size + 1, 2, none⟩ = some (.int .i64 x3) ∧ w'.cell? ⟨w.heap.size + 1, 3, none⟩ = some (.int .i64 b4) ∧ w'.cell? ⟨w.heap.size + 1, 4, none⟩ = some (.int .i64 b5)) (first | exact s0 | exact s2 | exact s3) ((go_at_call 24; first | ((with_reducible refine (hab _).mono ?_); rintro r w5 ⟨rfl, b5'⟩; have s2 := keep10 (a := ⟨x1, x2, x3, a4, a5⟩) (b := ⟨x1, x2, x3, b4, b5⟩) b5' (by first | exact s0 | exact s3)) | ((with_reducible refine (hba _).mono ?_); rintro r w6 ⟨rfl, b6⟩; have s3 := keep10 (a := ⟨x1, x2, x3, a4, a5⟩) (b := ⟨x1, x2, x3, b4, b5⟩) b6 (by first | exact s0 | exact s2))))
      have b56 : Below w1.heap.size w1 w6 := ((below_drewN (Below.refl w1.heap.size w1) 1).trans b5').trans (b6.mono b5'.size)
      have p1 := below_own b56 o1 o1.lt
      have p2 := below_own b56 o2 o2.lt
      have p3 := below_own b56 o3 o3.lt
      have k6 := b0.trans (b56.mono b0.size)
      clear o1 o2 o3 d0 d1 d2 d3 d4 e0 e1 e2 e3 e4 s0 s2 s3 b5' b6 b56 b0
      obtain ⟨d0, d1, d2, d3, d4⟩ := own_c p1
      obtain ⟨e0, e1, e2, e3, e4⟩ := own_c p2
      obtain ⟨f0, f1, f2, f3, f4⟩ := own_c p3
      go_wp2_with fail
      refine (hbc _).mono ?_
      rintro r wY ⟨rfl, bN⟩
      have p1 := below_own bN p1 p1.lt
      have p2 := below_own bN p2 p2.lt
      have p3 := below_own bN p3 p3.lt
      have k6 := k6.trans (bN.mono k6.size)
      clear d0 d1 d2 d3 d4 e0 e1 e2 e3 e4 f0 f1 f2 f3 f4 bN
      obtain ⟨d0, d1, d2, d3, d4⟩ := own_c p1
      obtain ⟨e0, e1, e2, e3, e4⟩ := own_c p2
      obtain ⟨f0, f1, f2, f3, f4⟩ := own_c p3
      go_wp2_with fail
      refine (hac _).mono ?_
      rintro r wZ ⟨rfl, bN⟩
      have p1 := below_own bN p1 p1.lt
      have p2 := below_own bN p2 p2.lt
      have p3 := below_own bN p3 p3.lt
      have k6 := k6.trans (bN.mono k6.size)
      clear d0 d1 d2 d3 d4 e0 e1 e2 e3 e4 f0 f1 f2 f3 f4 bN
      obtain ⟨d0, d1, d2, d3, d4⟩ := own_c p1
      obtain ⟨e0, e1, e2, e3, e4⟩ := own_c p2
      obtain ⟨f0, f1, f2, f3, f4⟩ := own_c p3
      go_wp2_with fail
      refine (haa _).mono ?_
      rintro r wA ⟨rfl, bN⟩
      have p1 := below_own bN p1 p1.lt
      have p2 := below_own bN p2 p2.lt
      have p3 := below_own bN p3 p3.lt
      have k6 := k6.trans (bN.mono k6.size)
      clear d0 d1 d2 d3 d4 e0 e1 e2 e3 e4 f0 f1 f2 f3 f4 bN
      obtain ⟨d0, d1, d2, d3, d4⟩ := own_c p1
      obtain ⟨e0, e1, e2, e3, e4⟩ := own_c p2
      obtain ⟨f0, f1, f2, f3, f4⟩ := own_c p3
      go_wp2_with fail
      refine (hrl _).mono ?_
      rintro r wB ⟨rfl, bN⟩
      have p1 := below_own bN p1 p1.lt
      have p2 := below_own bN p2 p2.lt
      have p3 := below_own bN p3 p3.lt
      have k6 := k6.trans (bN.mono k6.size)
      clear d0 d1 d2 d3 d4 e0 e1 e2 e3 e4 f0 f1 f2 f3 f4 bN
      obtain ⟨d0, d1, d2, d3, d4⟩ := own_c p1
      obtain ⟨e0, e1, e2, e3, e4⟩ := own_c p2
      obtain ⟨f0, f1, f2, f3, f4⟩ := own_c p3
      go_wp2_with fail
      refine (awake_any _).mono ?_
      rintro r wC ⟨rfl, bC⟩
      go_wp2_with fail
      go_ret
      exact ⟨rfl, k6.trans (bC.mono k6.size)⟩
  · clear hyz
    go_enter Try.func6, Try.ntmps6
    go_wp2_with fail
    generalize ((w.alloc (.cells #[.int .i64 x1, .int .i64 x2, .int .i64 x3, .int .i64 a4, .int .i64 a5] 31)).alloc (.cells #[.int .i64 x1, .int .i64 x2, .int .i64 x3, .int .i64 b4, .int .i64 b5] 31)).alloc (.cells #[.int .i64 c1, .int .i64 c2, .int .i64 c3, .int .i64 c4, .int .i64 c5] 31) = w1 at *
    obtain ⟨d0, d1, d2, d3, d4⟩ := own_c o1
    obtain ⟨e0, e1, e2, e3, e4⟩ := own_c o2
    have s0 := s10 (w := w) (W := w1.drew) (a := ⟨x1, x2, x3, a4, a5⟩) (b := ⟨x1, x2, x3, b4, b5⟩) ⟨d0, d1, d2, d3, d4⟩ ⟨e0, e1, e2, e3, e4⟩
    go_region_held3 (fun w' : World => w'.cell? ⟨w.heap.size, 0, none⟩ = some (.int .i64 x1) ∧ w'.cell? ⟨w.heap.size, 1, none⟩ = some (.int .i64 x2) ∧ w'.cell? ⟨w.heap.size, 2, none⟩ = some (.int .i64 x3) ∧ w'.cell? ⟨w.heap.size, 3, none⟩ = some (.int .i64 a4) ∧ w'.cell? ⟨w.heap.size, 4, none⟩ = some (.int .i64 a5) ∧ w'.cell? ⟨w.heap.size + 1, 0, none⟩ = some (.int .i64 x1) ∧ w'.cell? ⟨w.heap.size + 1, 1, none⟩ = some (.int .i64 x2) ∧ w'.cell? ⟨w.heap.size + 1, 2, none⟩ = some (.int .i64 x3) ∧ w'.cell? ⟨w.heap.size + 1, 3, none⟩ = some (.int .i64 b4) ∧ w'.cell? ⟨w.heap.size + 1, 4, none⟩ = some (.int .i64 b5)) (first | exact s0 | exact s2 | exact s3) ((go_at_call 24; first | ((with_reducible refine (hab _).mono ?_); rintro r w5 ⟨rfl, b5'⟩; have s2 := keep10 (a := ⟨x1, x2, x3, a4, a5⟩) (b := ⟨x1, x2, x3, b4, b5⟩) b5' (by first | exact s0 | exact s3)) | ((with_reducible refine (hba _).mono ?_); rintro r w6 ⟨rfl, b6⟩; have s3 := keep10 (a := ⟨x1, x2, x3, a4, a5⟩) (b := ⟨x1, x2, x3, b4, b5⟩) b6 (by first | exact s0 | exact s2))))
    have b56 : Below w1.heap.size w1 w6 := ((below_drewN (Below.refl w1.heap.size w1) 1).trans b5').trans (b6.mono b5'.size)
    have p1 := below_own b56 o1 o1.lt
    have p2 := below_own b56 o2 o2.lt
    have p3 := below_own b56 o3 o3.lt
    have k6 := b0.trans (b56.mono b0.size)
    clear o1 o2 o3 d0 d1 d2 d3 d4 e0 e1 e2 e3 e4 s0 s2 s3 b5' b6 b56 b0
    obtain ⟨d0, d1, d2, d3, d4⟩ := own_c p1
    obtain ⟨e0, e1, e2, e3, e4⟩ := own_c p2
    obtain ⟨f0, f1, f2, f3, f4⟩ := own_c p3
    go_wp2_with fail
    refine (haa _).mono ?_
    rintro r wA ⟨rfl, bN⟩
    have p1 := below_own bN p1 p1.lt
    have p2 := below_own bN p2 p2.lt
    have p3 := below_own bN p3 p3.lt
    have k6 := k6.trans (bN.mono k6.size)
    clear d0 d1 d2 d3 d4 e0 e1 e2 e3 e4 f0 f1 f2 f3 f4 bN
    obtain ⟨d0, d1, d2, d3, d4⟩ := own_c p1
    obtain ⟨e0, e1, e2, e3, e4⟩ := own_c p2
    obtain ⟨f0, f1, f2, f3, f4⟩ := own_c p3
    go_wp2_with fail
    refine (hrl _).mono ?_
    rintro r wB ⟨rfl, bN⟩
    have p1 := below_own bN p1 p1.lt
    have p2 := below_own bN p2 p2.lt
    have p3 := below_own bN p3 p3.lt
    have k6 := k6.trans (bN.mono k6.size)
    clear d0 d1 d2 d3 d4 e0 e1 e2 e3 e4 f0 f1 f2 f3 f4 bN
    obtain ⟨d0, d1, d2, d3, d4⟩ := own_c p1
    obtain ⟨e0, e1, e2, e3, e4⟩ := own_c p2
    obtain ⟨f0, f1, f2, f3, f4⟩ := own_c p3
    go_wp2_with fail
    refine (awake_any _).mono ?_
    rintro r wC ⟨rfl, bC⟩
    go_wp2_with fail
    go_ret
    exact ⟨rfl, k6.trans (bC.mono k6.size)⟩
set_option maxHeartbeats 2000000 in
theorem core5 (x1 x2 x3 x4 a5 b5 c1 c2 c3 c4 c5 : Int) (hne : ¬ a5 = b5) (p q y z : Bool) (hpq : (p = true ∧ q = false) ∨ (p = false ∧ q = true)) (hyz : p = true → y = true → z = true) (hab : (∀ w, Calls Try.prog 24 #[.agg #[.int .i64 x1, .int .i64 x2, .int .i64 x3, .int .i64 x4, .int .i64 a5], .agg #[.int .i64 x1, .int .i64 x2, .int .i64 x3, .int .i64 x4, .int .i64 b5]] w fun r w' => r = .returned (.bool p) ∧ Below w.heap.size w w')) (hba : (∀ w, Calls Try.prog 24 #[.agg #[.int .i64 x1, .int .i64 x2, .int .i64 x3, .int .i64 x4, .int .i64 b5], .agg #[.int .i64 x1, .int .i64 x2, .int .i64 x3, .int .i64 x4, .int .i64 a5]] w fun r w' => r = .returned (.bool q) ∧ Below w.heap.size w w')) (haa : (∀ w, Calls Try.prog 24 #[.agg #[.int .i64 x1, .int .i64 x2, .int .i64 x3, .int .i64 x4, .int .i64 a5], .agg #[.int .i64 x1, .int .i64 x2, .int .i64 x3, .int .i64 x4, .int .i64 a5]] w fun r w' => r = .returned (.bool false) ∧ Below w.heap.size w w')) (hbc : (∀ w, Calls Try.prog 24 #[.agg #[.int .i64 x1, .int .i64 x2, .int .i64 x3, .int .i64 x4, .int .i64 b5], .agg #[.int .i64 c1, .int .i64 c2, .int .i64 c3, .int .i64 c4, .int .i64 c5]] w fun r w' => r = .returned (.bool y) ∧ Below w.heap.size w w')) (hac : (∀ w, Calls Try.prog 24 #[.agg #[.int .i64 x1, .int .i64 x2, .int .i64 x3, .int .i64 x4, .int .i64 a5], .agg #[.int .i64 c1, .int .i64 c2, .int .i64 c3, .int .i64 c4, .int .i64 c5]] w fun r w' => r = .returned (.bool z) ∧ Below w.heap.size w w')) (hrl : (∀ w, Calls Try.prog 25 #[.agg #[.int .i64 x1, .int .i64 x2, .int .i64 x3, .int .i64 x4, .int .i64 a5], .agg #[.int .i64 x1, .int .i64 x2, .int .i64 x3, .int .i64 x4, .int .i64 b5]] w fun r w' => r = .returned (.bool p) ∧ Below w.heap.size w w')) (w : World) :
    Calls Try.prog 6 #[.agg #[.int .i64 x1, .int .i64 x2, .int .i64 x3, .int .i64 x4, .int .i64 a5], .agg #[.int .i64 x1, .int .i64 x2, .int .i64 x3, .int .i64 x4, .int .i64 b5], .agg #[.int .i64 c1, .int .i64 c2, .int .i64 c3, .int .i64 c4, .int .i64 c5]] w fun r w' => r = .returned (.bool true) ∧ Below w.heap.size w w' := by
  have o1 : Own (((w.alloc (.cells #[.int .i64 x1, .int .i64 x2, .int .i64 x3, .int .i64 x4, .int .i64 a5] 31)).alloc (.cells #[.int .i64 x1, .int .i64 x2, .int .i64 x3, .int .i64 x4, .int .i64 b5] 31)).alloc (.cells #[.int .i64 c1, .int .i64 c2, .int .i64 c3, .int .i64 c4, .int .i64 c5] 31)) w.heap.size 31 (C.vals ⟨x1, x2, x3, x4, a5⟩) := ((Own.new w _ _).alloc _).alloc _
  have o2 : Own (((w.alloc (.cells #[.int .i64 x1, .int .i64 x2, .int .i64 x3, .int .i64 x4, .int .i64 a5] 31)).alloc (.cells #[.int .i64 x1, .int .i64 x2, .int .i64 x3, .int .i64 x4, .int .i64 b5] 31)).alloc (.cells #[.int .i64 c1, .int .i64 c2, .int .i64 c3, .int .i64 c4, .int .i64 c5] 31)) (w.heap.size + 1) 31 (C.vals ⟨x1, x2, x3, x4, b5⟩) := by
    have := Own.new (w.alloc (.cells #[.int .i64 x1, .int .i64 x2, .int .i64 x3, .int .i64 x4, .int .i64 a5] 31)) 31 (C.vals ⟨x1, x2, x3, x4, b5⟩)
    rw [show (w.alloc (.cells #[.int .i64 x1, .int .i64 x2, .int .i64 x3, .int .i64 x4, .int .i64 a5] 31)).heap.size = w.heap.size + 1 by simp] at this
    exact this.alloc _
  have o3 : Own (((w.alloc (.cells #[.int .i64 x1, .int .i64 x2, .int .i64 x3, .int .i64 x4, .int .i64 a5] 31)).alloc (.cells #[.int .i64 x1, .int .i64 x2, .int .i64 x3, .int .i64 x4, .int .i64 b5] 31)).alloc (.cells #[.int .i64 c1, .int .i64 c2, .int .i64 c3, .int .i64 c4, .int .i64 c5] 31)) (w.heap.size + 1 + 1) 31 (C.vals ⟨c1, c2, c3, c4, c5⟩) := by
    have := Own.new ((w.alloc (.cells #[.int .i64 x1, .int .i64 x2, .int .i64 x3, .int .i64 x4, .int .i64 a5] 31)).alloc (.cells #[.int .i64 x1, .int .i64 x2, .int .i64 x3, .int .i64 x4, .int .i64 b5] 31)) 31 (C.vals ⟨c1, c2, c3, c4, c5⟩)
    rwa [show ((w.alloc (.cells #[.int .i64 x1, .int .i64 x2, .int .i64 x3, .int .i64 x4, .int .i64 a5] 31)).alloc (.cells #[.int .i64 x1, .int .i64 x2, .int .i64 x3, .int .i64 x4, .int .i64 b5] 31)).heap.size = w.heap.size + 1 + 1 by simp] at this
  have b0 := (((Below.refl w.heap.size w).alloc (Nat.le_refl _) (.cells #[.int .i64 x1, .int .i64 x2, .int .i64 x3, .int .i64 x4, .int .i64 a5] 31)).alloc (by simp) (.cells #[.int .i64 x1, .int .i64 x2, .int .i64 x3, .int .i64 x4, .int .i64 b5] 31)).alloc (by simp; omega) (.cells #[.int .i64 c1, .int .i64 c2, .int .i64 c3, .int .i64 c4, .int .i64 c5] 31)
  rcases hpq with ⟨rfl, rfl⟩ | ⟨rfl, rfl⟩
  · cases y
    · clear hyz
      go_enter Try.func6, Try.ntmps6
      go_wp2_with fail
      generalize ((w.alloc (.cells #[.int .i64 x1, .int .i64 x2, .int .i64 x3, .int .i64 x4, .int .i64 a5] 31)).alloc (.cells #[.int .i64 x1, .int .i64 x2, .int .i64 x3, .int .i64 x4, .int .i64 b5] 31)).alloc (.cells #[.int .i64 c1, .int .i64 c2, .int .i64 c3, .int .i64 c4, .int .i64 c5] 31) = w1 at *
      obtain ⟨d0, d1, d2, d3, d4⟩ := own_c o1
      obtain ⟨e0, e1, e2, e3, e4⟩ := own_c o2
      have s0 := s10 (w := w) (W := w1.drew) (a := ⟨x1, x2, x3, x4, a5⟩) (b := ⟨x1, x2, x3, x4, b5⟩) ⟨d0, d1, d2, d3, d4⟩ ⟨e0, e1, e2, e3, e4⟩
      go_region_held3 (fun w' : World => w'.cell? ⟨w.heap.size, 0, none⟩ = some (.int .i64 x1) ∧ w'.cell? ⟨w.heap.size, 1, none⟩ = some (.int .i64 x2) ∧ w'.cell? ⟨w.heap.size, 2, none⟩ = some (.int .i64 x3) ∧ w'.cell? ⟨w.heap.size, 3, none⟩ = some (.int .i64 x4) ∧ w'.cell? ⟨w.heap.size, 4, none⟩ = some (.int .i64 a5) ∧ w'.cell? ⟨w.heap.size + 1, 0, none⟩ = some (.int .i64 x1) ∧ w'.cell? ⟨w.heap.size + 1, 1, none⟩ = some (.int .i64 x2) ∧ w'.cell? ⟨w.heap.size + 1, 2, none⟩ = some (.int .i64 x3) ∧ w'.cell? ⟨w.heap.size + 1, 3, none⟩ = some (.int .i64 x4) ∧ w'.cell? ⟨w.heap.size + 1, 4, none⟩ = some (.int .i64 b5)) (first | exact s0 | exact s2 | exact s3) ((go_at_call 24; first | ((with_reducible refine (hab _).mono ?_); rintro r w5 ⟨rfl, b5'⟩; have s2 := keep10 (a := ⟨x1, x2, x3, x4, a5⟩) (b := ⟨x1, x2, x3, x4, b5⟩) b5' (by first | exact s0 | exact s3)) | ((with_reducible refine (hba _).mono ?_); rintro r w6 ⟨rfl, b6⟩; have s3 := keep10 (a := ⟨x1, x2, x3, x4, a5⟩) (b := ⟨x1, x2, x3, x4, b5⟩) b6 (by first | exact s0 | exact s2))))
      have b56 : Below w1.heap.size w1 w6 := ((below_drewN (Below.refl w1.heap.size w1) 1).trans b5').trans (b6.mono b5'.size)
      have p1 := below_own b56 o1 o1.lt
      have p2 := below_own b56 o2 o2.lt
      have p3 := below_own b56 o3 o3.lt
      have k6 := b0.trans (b56.mono b0.size)
      clear o1 o2 o3 d0 d1 d2 d3 d4 e0 e1 e2 e3 e4 s0 s2 s3 b5' b6 b56 b0
      obtain ⟨d0, d1, d2, d3, d4⟩ := own_c p1
      obtain ⟨e0, e1, e2, e3, e4⟩ := own_c p2
      obtain ⟨f0, f1, f2, f3, f4⟩ := own_c p3
      go_wp2_with fail
      refine (hbc _).mono ?_
      rintro r wY ⟨rfl, bN⟩
      have p1 := below_own bN p1 p1.lt
      have p2 := below_own bN p2 p2.lt
      have p3 := below_own bN p3 p3.lt
      have k6 := k6.trans (bN.mono k6.size)
      clear d0 d1 d2 d3 d4 e0 e1 e2 e3 e4 f0 f1 f2 f3 f4 bN
      obtain ⟨d0, d1, d2, d3, d4⟩ := own_c p1
      obtain ⟨e0, e1, e2, e3, e4⟩ := own_c p2
      obtain ⟨f0, f1, f2, f3, f4⟩ := own_c p3
      go_wp2_with fail
      refine (haa _).mono ?_
      rintro r wA ⟨rfl, bN⟩
      have p1 := below_own bN p1 p1.lt
      have p2 := below_own bN p2 p2.lt
      have p3 := below_own bN p3 p3.lt
      have k6 := k6.trans (bN.mono k6.size)
      clear d0 d1 d2 d3 d4 e0 e1 e2 e3 e4 f0 f1 f2 f3 f4 bN
      obtain ⟨d0, d1, d2, d3, d4⟩ := own_c p1
      obtain ⟨e0, e1, e2, e3, e4⟩ := own_c p2
      obtain ⟨f0, f1, f2, f3, f4⟩ := own_c p3
      go_wp2_with fail
      refine (hrl _).mono ?_
      rintro r wB ⟨rfl, bN⟩
      have p1 := below_own bN p1 p1.lt
      have p2 := below_own bN p2 p2.lt
      have p3 := below_own bN p3 p3.lt
      have k6 := k6.trans (bN.mono k6.size)
      clear d0 d1 d2 d3 d4 e0 e1 e2 e3 e4 f0 f1 f2 f3 f4 bN
      obtain ⟨d0, d1, d2, d3, d4⟩ := own_c p1
      obtain ⟨e0, e1, e2, e3, e4⟩ := own_c p2
      obtain ⟨f0, f1, f2, f3, f4⟩ := own_c p3
      go_wp2_with fail
      refine (awake_any _).mono ?_
      rintro r wC ⟨rfl, bC⟩
      go_wp2_with fail
      go_ret
      exact ⟨rfl, k6.trans (bC.mono k6.size)⟩
    · obtain rfl := hyz rfl rfl
      clear hyz
      go_enter Try.func6, Try.ntmps6
      go_wp2_with fail
      generalize ((w.alloc (.cells #[.int .i64 x1, .int .i64 x2, .int .i64 x3, .int .i64 x4, .int .i64 a5] 31)).alloc (.cells #[.int .i64 x1, .int .i64 x2, .int .i64 x3, .int .i64 x4, .int .i64 b5] 31)).alloc (.cells #[.int .i64 c1, .int .i64 c2, .int .i64 c3, .int .i64 c4, .int .i64 c5] 31) = w1 at *
      obtain ⟨d0, d1, d2, d3, d4⟩ := own_c o1
      obtain ⟨e0, e1, e2, e3, e4⟩ := own_c o2
      have s0 := s10 (w := w) (W := w1.drew) (a := ⟨x1, x2, x3, x4, a5⟩) (b := ⟨x1, x2, x3, x4, b5⟩) ⟨d0, d1, d2, d3, d4⟩ ⟨e0, e1, e2, e3, e4⟩
      go_region_held3 (fun w' : World => w'.cell? ⟨w.heap.size, 0, none⟩ = some (.int .i64 x1) ∧ w'.cell? ⟨w.heap.size, 1, none⟩ = some (.int .i64 x2) ∧ w'.cell? ⟨w.heap.size, 2, none⟩ = some (.int .i64 x3) ∧ w'.cell? ⟨w.heap.size, 3, none⟩ = some (.int .i64 x4) ∧ w'.cell? ⟨w.heap.size, 4, none⟩ = some (.int .i64 a5) ∧ w'.cell? ⟨w.heap.size + 1, 0, none⟩ = some (.int .i64 x1) ∧ w'.cell? ⟨w.heap.size + 1, 1, none⟩ = some (.int .i64 x2) ∧ w'.cell? ⟨w.heap.size + 1, 2, none⟩ = some (.int .i64 x3) ∧ w'.cell? ⟨w.heap.size + 1, 3, none⟩ = some (.int .i64 x4) ∧ w'.cell? ⟨w.heap.size + 1, 4, none⟩ = some (.int .i64 b5)) (first | exact s0 | exact s2 | exact s3) ((go_at_call 24; first | ((with_reducible refine (hab _).mono ?_); rintro r w5 ⟨rfl, b5'⟩; have s2 := keep10 (a := ⟨x1, x2, x3, x4, a5⟩) (b := ⟨x1, x2, x3, x4, b5⟩) b5' (by first | exact s0 | exact s3)) | ((with_reducible refine (hba _).mono ?_); rintro r w6 ⟨rfl, b6⟩; have s3 := keep10 (a := ⟨x1, x2, x3, x4, a5⟩) (b := ⟨x1, x2, x3, x4, b5⟩) b6 (by first | exact s0 | exact s2))))
      have b56 : Below w1.heap.size w1 w6 := ((below_drewN (Below.refl w1.heap.size w1) 1).trans b5').trans (b6.mono b5'.size)
      have p1 := below_own b56 o1 o1.lt
      have p2 := below_own b56 o2 o2.lt
      have p3 := below_own b56 o3 o3.lt
      have k6 := b0.trans (b56.mono b0.size)
      clear o1 o2 o3 d0 d1 d2 d3 d4 e0 e1 e2 e3 e4 s0 s2 s3 b5' b6 b56 b0
      obtain ⟨d0, d1, d2, d3, d4⟩ := own_c p1
      obtain ⟨e0, e1, e2, e3, e4⟩ := own_c p2
      obtain ⟨f0, f1, f2, f3, f4⟩ := own_c p3
      go_wp2_with fail
      refine (hbc _).mono ?_
      rintro r wY ⟨rfl, bN⟩
      have p1 := below_own bN p1 p1.lt
      have p2 := below_own bN p2 p2.lt
      have p3 := below_own bN p3 p3.lt
      have k6 := k6.trans (bN.mono k6.size)
      clear d0 d1 d2 d3 d4 e0 e1 e2 e3 e4 f0 f1 f2 f3 f4 bN
      obtain ⟨d0, d1, d2, d3, d4⟩ := own_c p1
      obtain ⟨e0, e1, e2, e3, e4⟩ := own_c p2
      obtain ⟨f0, f1, f2, f3, f4⟩ := own_c p3
      go_wp2_with fail
      refine (hac _).mono ?_
      rintro r wZ ⟨rfl, bN⟩
      have p1 := below_own bN p1 p1.lt
      have p2 := below_own bN p2 p2.lt
      have p3 := below_own bN p3 p3.lt
      have k6 := k6.trans (bN.mono k6.size)
      clear d0 d1 d2 d3 d4 e0 e1 e2 e3 e4 f0 f1 f2 f3 f4 bN
      obtain ⟨d0, d1, d2, d3, d4⟩ := own_c p1
      obtain ⟨e0, e1, e2, e3, e4⟩ := own_c p2
      obtain ⟨f0, f1, f2, f3, f4⟩ := own_c p3
      go_wp2_with fail
      refine (haa _).mono ?_
      rintro r wA ⟨rfl, bN⟩
      have p1 := below_own bN p1 p1.lt
      have p2 := below_own bN p2 p2.lt
      have p3 := below_own bN p3 p3.lt
      have k6 := k6.trans (bN.mono k6.size)
      clear d0 d1 d2 d3 d4 e0 e1 e2 e3 e4 f0 f1 f2 f3 f4 bN
      obtain ⟨d0, d1, d2, d3, d4⟩ := own_c p1
      obtain ⟨e0, e1, e2, e3, e4⟩ := own_c p2
      obtain ⟨f0, f1, f2, f3, f4⟩ := own_c p3
      go_wp2_with fail
      refine (hrl _).mono ?_
      rintro r wB ⟨rfl, bN⟩
      have p1 := below_own bN p1 p1.lt
      have p2 := below_own bN p2 p2.lt
      have p3 := below_own bN p3 p3.lt
      have k6 := k6.trans (bN.mono k6.size)
      clear d0 d1 d2 d3 d4 e0 e1 e2 e3 e4 f0 f1 f2 f3 f4 bN
      obtain ⟨d0, d1, d2, d3, d4⟩ := own_c p1
      obtain ⟨e0, e1, e2, e3, e4⟩ := own_c p2
      obtain ⟨f0, f1, f2, f3, f4⟩ := own_c p3
      go_wp2_with fail
      refine (awake_any _).mono ?_
      rintro r wC ⟨rfl, bC⟩
      go_wp2_with fail
      go_ret
      exact ⟨rfl, k6.trans (bC.mono k6.size)⟩
  · clear hyz
    go_enter Try.func6, Try.ntmps6
    go_wp2_with fail
    generalize ((w.alloc (.cells #[.int .i64 x1, .int .i64 x2, .int .i64 x3, .int .i64 x4, .int .i64 a5] 31)).alloc (.cells #[.int .i64 x1, .int .i64 x2, .int .i64 x3, .int .i64 x4, .int .i64 b5] 31)).alloc (.cells #[.int .i64 c1, .int .i64 c2, .int .i64 c3, .int .i64 c4, .int .i64 c5] 31) = w1 at *
    obtain ⟨d0, d1, d2, d3, d4⟩ := own_c o1
    obtain ⟨e0, e1, e2, e3, e4⟩ := own_c o2
    have s0 := s10 (w := w) (W := w1.drew) (a := ⟨x1, x2, x3, x4, a5⟩) (b := ⟨x1, x2, x3, x4, b5⟩) ⟨d0, d1, d2, d3, d4⟩ ⟨e0, e1, e2, e3, e4⟩
    go_region_held3 (fun w' : World => w'.cell? ⟨w.heap.size, 0, none⟩ = some (.int .i64 x1) ∧ w'.cell? ⟨w.heap.size, 1, none⟩ = some (.int .i64 x2) ∧ w'.cell? ⟨w.heap.size, 2, none⟩ = some (.int .i64 x3) ∧ w'.cell? ⟨w.heap.size, 3, none⟩ = some (.int .i64 x4) ∧ w'.cell? ⟨w.heap.size, 4, none⟩ = some (.int .i64 a5) ∧ w'.cell? ⟨w.heap.size + 1, 0, none⟩ = some (.int .i64 x1) ∧ w'.cell? ⟨w.heap.size + 1, 1, none⟩ = some (.int .i64 x2) ∧ w'.cell? ⟨w.heap.size + 1, 2, none⟩ = some (.int .i64 x3) ∧ w'.cell? ⟨w.heap.size + 1, 3, none⟩ = some (.int .i64 x4) ∧ w'.cell? ⟨w.heap.size + 1, 4, none⟩ = some (.int .i64 b5)) (first | exact s0 | exact s2 | exact s3) ((go_at_call 24; first | ((with_reducible refine (hab _).mono ?_); rintro r w5 ⟨rfl, b5'⟩; have s2 := keep10 (a := ⟨x1, x2, x3, x4, a5⟩) (b := ⟨x1, x2, x3, x4, b5⟩) b5' (by first | exact s0 | exact s3)) | ((with_reducible refine (hba _).mono ?_); rintro r w6 ⟨rfl, b6⟩; have s3 := keep10 (a := ⟨x1, x2, x3, x4, a5⟩) (b := ⟨x1, x2, x3, x4, b5⟩) b6 (by first | exact s0 | exact s2))))
    have b56 : Below w1.heap.size w1 w6 := ((below_drewN (Below.refl w1.heap.size w1) 1).trans b5').trans (b6.mono b5'.size)
    have p1 := below_own b56 o1 o1.lt
    have p2 := below_own b56 o2 o2.lt
    have p3 := below_own b56 o3 o3.lt
    have k6 := b0.trans (b56.mono b0.size)
    clear o1 o2 o3 d0 d1 d2 d3 d4 e0 e1 e2 e3 e4 s0 s2 s3 b5' b6 b56 b0
    obtain ⟨d0, d1, d2, d3, d4⟩ := own_c p1
    obtain ⟨e0, e1, e2, e3, e4⟩ := own_c p2
    obtain ⟨f0, f1, f2, f3, f4⟩ := own_c p3
    go_wp2_with fail
    refine (haa _).mono ?_
    rintro r wA ⟨rfl, bN⟩
    have p1 := below_own bN p1 p1.lt
    have p2 := below_own bN p2 p2.lt
    have p3 := below_own bN p3 p3.lt
    have k6 := k6.trans (bN.mono k6.size)
    clear d0 d1 d2 d3 d4 e0 e1 e2 e3 e4 f0 f1 f2 f3 f4 bN
    obtain ⟨d0, d1, d2, d3, d4⟩ := own_c p1
    obtain ⟨e0, e1, e2, e3, e4⟩ := own_c p2
    obtain ⟨f0, f1, f2, f3, f4⟩ := own_c p3
    go_wp2_with fail
    refine (hrl _).mono ?_
    rintro r wB ⟨rfl, bN⟩
    have p1 := below_own bN p1 p1.lt
    have p2 := below_own bN p2 p2.lt
    have p3 := below_own bN p3 p3.lt
    have k6 := k6.trans (bN.mono k6.size)
    clear d0 d1 d2 d3 d4 e0 e1 e2 e3 e4 f0 f1 f2 f3 f4 bN
    obtain ⟨d0, d1, d2, d3, d4⟩ := own_c p1
    obtain ⟨e0, e1, e2, e3, e4⟩ := own_c p2
    obtain ⟨f0, f1, f2, f3, f4⟩ := own_c p3
    go_wp2_with fail
    refine (awake_any _).mono ?_
    rintro r wC ⟨rfl, bC⟩
    go_wp2_with fail
    go_ret
    exact ⟨rfl, k6.trans (bC.mono k6.size)⟩
set_option maxHeartbeats 2000000 in
theorem core6 (x1 x2 x3 x4 x5 c1 c2 c3 c4 c5 : Int) (p q y z : Bool) (hpq : p = false ∧ q = false) (hyz : p = true → y = true → z = true) (hab : (∀ w, Calls Try.prog 24 #[.agg #[.int .i64 x1, .int .i64 x2, .int .i64 x3, .int .i64 x4, .int .i64 x5], .agg #[.int .i64 x1, .int .i64 x2, .int .i64 x3, .int .i64 x4, .int .i64 x5]] w fun r w' => r = .returned (.bool p) ∧ Below w.heap.size w w')) (hba : (∀ w, Calls Try.prog 24 #[.agg #[.int .i64 x1, .int .i64 x2, .int .i64 x3, .int .i64 x4, .int .i64 x5], .agg #[.int .i64 x1, .int .i64 x2, .int .i64 x3, .int .i64 x4, .int .i64 x5]] w fun r w' => r = .returned (.bool q) ∧ Below w.heap.size w w')) (haa : (∀ w, Calls Try.prog 24 #[.agg #[.int .i64 x1, .int .i64 x2, .int .i64 x3, .int .i64 x4, .int .i64 x5], .agg #[.int .i64 x1, .int .i64 x2, .int .i64 x3, .int .i64 x4, .int .i64 x5]] w fun r w' => r = .returned (.bool false) ∧ Below w.heap.size w w')) (hbc : (∀ w, Calls Try.prog 24 #[.agg #[.int .i64 x1, .int .i64 x2, .int .i64 x3, .int .i64 x4, .int .i64 x5], .agg #[.int .i64 c1, .int .i64 c2, .int .i64 c3, .int .i64 c4, .int .i64 c5]] w fun r w' => r = .returned (.bool y) ∧ Below w.heap.size w w')) (hac : (∀ w, Calls Try.prog 24 #[.agg #[.int .i64 x1, .int .i64 x2, .int .i64 x3, .int .i64 x4, .int .i64 x5], .agg #[.int .i64 c1, .int .i64 c2, .int .i64 c3, .int .i64 c4, .int .i64 c5]] w fun r w' => r = .returned (.bool z) ∧ Below w.heap.size w w')) (hrl : (∀ w, Calls Try.prog 25 #[.agg #[.int .i64 x1, .int .i64 x2, .int .i64 x3, .int .i64 x4, .int .i64 x5], .agg #[.int .i64 x1, .int .i64 x2, .int .i64 x3, .int .i64 x4, .int .i64 x5]] w fun r w' => r = .returned (.bool p) ∧ Below w.heap.size w w')) (w : World) :
    Calls Try.prog 6 #[.agg #[.int .i64 x1, .int .i64 x2, .int .i64 x3, .int .i64 x4, .int .i64 x5], .agg #[.int .i64 x1, .int .i64 x2, .int .i64 x3, .int .i64 x4, .int .i64 x5], .agg #[.int .i64 c1, .int .i64 c2, .int .i64 c3, .int .i64 c4, .int .i64 c5]] w fun r w' => r = .returned (.bool true) ∧ Below w.heap.size w w' := by
  have o1 : Own (((w.alloc (.cells #[.int .i64 x1, .int .i64 x2, .int .i64 x3, .int .i64 x4, .int .i64 x5] 31)).alloc (.cells #[.int .i64 x1, .int .i64 x2, .int .i64 x3, .int .i64 x4, .int .i64 x5] 31)).alloc (.cells #[.int .i64 c1, .int .i64 c2, .int .i64 c3, .int .i64 c4, .int .i64 c5] 31)) w.heap.size 31 (C.vals ⟨x1, x2, x3, x4, x5⟩) := ((Own.new w _ _).alloc _).alloc _
  have o2 : Own (((w.alloc (.cells #[.int .i64 x1, .int .i64 x2, .int .i64 x3, .int .i64 x4, .int .i64 x5] 31)).alloc (.cells #[.int .i64 x1, .int .i64 x2, .int .i64 x3, .int .i64 x4, .int .i64 x5] 31)).alloc (.cells #[.int .i64 c1, .int .i64 c2, .int .i64 c3, .int .i64 c4, .int .i64 c5] 31)) (w.heap.size + 1) 31 (C.vals ⟨x1, x2, x3, x4, x5⟩) := by
    have := Own.new (w.alloc (.cells #[.int .i64 x1, .int .i64 x2, .int .i64 x3, .int .i64 x4, .int .i64 x5] 31)) 31 (C.vals ⟨x1, x2, x3, x4, x5⟩)
    rw [show (w.alloc (.cells #[.int .i64 x1, .int .i64 x2, .int .i64 x3, .int .i64 x4, .int .i64 x5] 31)).heap.size = w.heap.size + 1 by simp] at this
    exact this.alloc _
  have o3 : Own (((w.alloc (.cells #[.int .i64 x1, .int .i64 x2, .int .i64 x3, .int .i64 x4, .int .i64 x5] 31)).alloc (.cells #[.int .i64 x1, .int .i64 x2, .int .i64 x3, .int .i64 x4, .int .i64 x5] 31)).alloc (.cells #[.int .i64 c1, .int .i64 c2, .int .i64 c3, .int .i64 c4, .int .i64 c5] 31)) (w.heap.size + 1 + 1) 31 (C.vals ⟨c1, c2, c3, c4, c5⟩) := by
    have := Own.new ((w.alloc (.cells #[.int .i64 x1, .int .i64 x2, .int .i64 x3, .int .i64 x4, .int .i64 x5] 31)).alloc (.cells #[.int .i64 x1, .int .i64 x2, .int .i64 x3, .int .i64 x4, .int .i64 x5] 31)) 31 (C.vals ⟨c1, c2, c3, c4, c5⟩)
    rwa [show ((w.alloc (.cells #[.int .i64 x1, .int .i64 x2, .int .i64 x3, .int .i64 x4, .int .i64 x5] 31)).alloc (.cells #[.int .i64 x1, .int .i64 x2, .int .i64 x3, .int .i64 x4, .int .i64 x5] 31)).heap.size = w.heap.size + 1 + 1 by simp] at this
  have b0 := (((Below.refl w.heap.size w).alloc (Nat.le_refl _) (.cells #[.int .i64 x1, .int .i64 x2, .int .i64 x3, .int .i64 x4, .int .i64 x5] 31)).alloc (by simp) (.cells #[.int .i64 x1, .int .i64 x2, .int .i64 x3, .int .i64 x4, .int .i64 x5] 31)).alloc (by simp; omega) (.cells #[.int .i64 c1, .int .i64 c2, .int .i64 c3, .int .i64 c4, .int .i64 c5] 31)
  obtain ⟨rfl, rfl⟩ := hpq
  clear hyz
  go_enter Try.func6, Try.ntmps6
  go_wp2_with fail
  generalize ((w.alloc (.cells #[.int .i64 x1, .int .i64 x2, .int .i64 x3, .int .i64 x4, .int .i64 x5] 31)).alloc (.cells #[.int .i64 x1, .int .i64 x2, .int .i64 x3, .int .i64 x4, .int .i64 x5] 31)).alloc (.cells #[.int .i64 c1, .int .i64 c2, .int .i64 c3, .int .i64 c4, .int .i64 c5] 31) = w1 at *
  obtain ⟨d0, d1, d2, d3, d4⟩ := own_c o1
  obtain ⟨e0, e1, e2, e3, e4⟩ := own_c o2
  have s0 := s10 (w := w) (W := w1.drew) (a := ⟨x1, x2, x3, x4, x5⟩) (b := ⟨x1, x2, x3, x4, x5⟩) ⟨d0, d1, d2, d3, d4⟩ ⟨e0, e1, e2, e3, e4⟩
  go_region_held3 (fun w' : World => w'.cell? ⟨w.heap.size, 0, none⟩ = some (.int .i64 x1) ∧ w'.cell? ⟨w.heap.size, 1, none⟩ = some (.int .i64 x2) ∧ w'.cell? ⟨w.heap.size, 2, none⟩ = some (.int .i64 x3) ∧ w'.cell? ⟨w.heap.size, 3, none⟩ = some (.int .i64 x4) ∧ w'.cell? ⟨w.heap.size, 4, none⟩ = some (.int .i64 x5) ∧ w'.cell? ⟨w.heap.size + 1, 0, none⟩ = some (.int .i64 x1) ∧ w'.cell? ⟨w.heap.size + 1, 1, none⟩ = some (.int .i64 x2) ∧ w'.cell? ⟨w.heap.size + 1, 2, none⟩ = some (.int .i64 x3) ∧ w'.cell? ⟨w.heap.size + 1, 3, none⟩ = some (.int .i64 x4) ∧ w'.cell? ⟨w.heap.size + 1, 4, none⟩ = some (.int .i64 x5)) (first | exact s0 | exact s2 | exact s3) ((go_at_call 24; first | ((with_reducible refine (hab w1.drew).mono ?_); rintro r w5 ⟨rfl, b5'⟩; have s2 := keep10 (a := ⟨x1, x2, x3, x4, x5⟩) (b := ⟨x1, x2, x3, x4, x5⟩) b5' s0) | ((with_reducible refine (hba _).mono ?_); rintro r w6 ⟨rfl, b6⟩; have s3 := keep10 (a := ⟨x1, x2, x3, x4, x5⟩) (b := ⟨x1, x2, x3, x4, x5⟩) b6 s2)))
  have b56 : Below w1.heap.size w1 w6 := ((below_drewN (Below.refl w1.heap.size w1) 1).trans b5').trans (b6.mono b5'.size)
  have p1 := below_own b56 o1 o1.lt
  have p2 := below_own b56 o2 o2.lt
  have p3 := below_own b56 o3 o3.lt
  have k6 := b0.trans (b56.mono b0.size)
  clear o1 o2 o3 d0 d1 d2 d3 d4 e0 e1 e2 e3 e4 s0 s2 s3 b5' b6 b56 b0
  obtain ⟨d0, d1, d2, d3, d4⟩ := own_c p1
  obtain ⟨e0, e1, e2, e3, e4⟩ := own_c p2
  obtain ⟨f0, f1, f2, f3, f4⟩ := own_c p3
  go_wp2_with fail
  refine (haa _).mono ?_
  rintro r wA ⟨rfl, bN⟩
  have p1 := below_own bN p1 p1.lt
  have p2 := below_own bN p2 p2.lt
  have p3 := below_own bN p3 p3.lt
  have k6 := k6.trans (bN.mono k6.size)
  clear d0 d1 d2 d3 d4 e0 e1 e2 e3 e4 f0 f1 f2 f3 f4 bN
  obtain ⟨d0, d1, d2, d3, d4⟩ := own_c p1
  obtain ⟨e0, e1, e2, e3, e4⟩ := own_c p2
  obtain ⟨f0, f1, f2, f3, f4⟩ := own_c p3
  go_wp2_with fail
  refine (hrl _).mono ?_
  rintro r wB ⟨rfl, bN⟩
  have p1 := below_own bN p1 p1.lt
  have p2 := below_own bN p2 p2.lt
  have p3 := below_own bN p3 p3.lt
  have k6 := k6.trans (bN.mono k6.size)
  clear d0 d1 d2 d3 d4 e0 e1 e2 e3 e4 f0 f1 f2 f3 f4 bN
  obtain ⟨d0, d1, d2, d3, d4⟩ := own_c p1
  obtain ⟨e0, e1, e2, e3, e4⟩ := own_c p2
  obtain ⟨f0, f1, f2, f3, f4⟩ := own_c p3
  go_wp2_with fail
  refine (awake_any _).mono ?_
  rintro r wC ⟨rfl, bC⟩
  go_wp2_with fail
  go_ret
  exact ⟨rfl, k6.trans (bC.mono k6.size)⟩
theorem body (a b c : C) (w : World) :
    Calls Try.prog 6 #[.agg #[.int .i64 a.f, .int .i64 a.s, .int .i64 a.c, .int .i64 a.o, .int .i64 a.p], .agg #[.int .i64 b.f, .int .i64 b.s, .int .i64 b.c, .int .i64 b.o, .int .i64 b.p], .agg #[.int .i64 c.f, .int .i64 c.s, .int .i64 c.c, .int .i64 c.o, .int .i64 c.p]] w fun r w' => r = .returned (.bool true) ∧ Below w.heap.size w w' := by
  have haa : ∀ w, Calls Try.prog 24 #[.agg #[.int .i64 a.f, .int .i64 a.s, .int .i64 a.c, .int .i64 a.o, .int .i64 a.p], .agg #[.int .i64 a.f, .int .i64 a.s, .int .i64 a.c, .int .i64 a.o, .int .i64 a.p]] w fun r w' => r = .returned (.bool false) ∧ Below w.heap.size w w' := fun w => by
    have := less_any a a w
    rwa [no_self] at this
  have hab := fun w => less_any a b w
  have hba := fun w => less_any b a w
  have hbc := fun w => less_any b c w
  have hac := fun w => less_any a c w
  have hrl := fun w => rless_any a b w
  have hyz := yz_of a b c
  have hpq := pq_ne (a := a) (b := b)
  have hs := no_self a
  generalize decide (cf b c < 0) = y at *
  generalize decide (cf a c < 0) = z at *
  by_cases he : a = b
  · subst he
    rw [hs] at hab hba hrl
    obtain ⟨x1, x2, x3, x4, x5⟩ := a
    obtain ⟨c1, c2, c3, c4, c5⟩ := c
    exact core6 x1 x2 x3 x4 x5 c1 c2 c3 c4 c5 false false y z ⟨rfl, rfl⟩ (fun h => by cases h) hab hba haa hbc hac hrl w
  · have hpq2 := hpq he
    clear hpq
    generalize decide (cf a b < 0) = p at *
    generalize decide (cf b a < 0) = q at *
    obtain ⟨a1, a2, a3, a4, a5⟩ := a
    obtain ⟨b1, b2, b3, b4, b5⟩ := b
    obtain ⟨c1, c2, c3, c4, c5⟩ := c
    by_cases e1 : a1 = b1
    · subst e1
      by_cases e2 : a2 = b2
      · subst e2
        by_cases e3 : a3 = b3
        · subst e3
          by_cases e4 : a4 = b4
          · subst e4
            exact core5 a1 a2 a3 a4 a5 b5 c1 c2 c3 c4 c5 (fun e => he (by rw [e])) p q y z hpq2 hyz hab hba haa hbc hac hrl w
          · exact core4 a1 a2 a3 a4 a5 b4 b5 c1 c2 c3 c4 c5 e4 p q y z hpq2 hyz hab hba haa hbc hac hrl w
        · exact core3 a1 a2 a3 a4 a5 b3 b4 b5 c1 c2 c3 c4 c5 e3 p q y z hpq2 hyz hab hba haa hbc hac hrl w
      · exact core2 a1 a2 a3 a4 a5 b2 b3 b4 b5 c1 c2 c3 c4 c5 e2 p q y z hpq2 hyz hab hba haa hbc hac hrl w
    · exact core1 a1 a2 a3 a4 a5 b1 b2 b3 b4 b5 c1 c2 c3 c4 c5 e1 p q y z hpq2 hyz hab hba haa hbc hac hrl w
theorem open_c {H : Type} {enc : TypeId × Value → H} (W : World) (base : Nat) (v : Value) {d : DataW H} {p : List MemPlace} (hv : Value.okWide Try.prog W .any base 31 v) (h : DataW.Trod enc Try.prog W 0 (fun _ => true) true 31 v d p) :
    ∃ x : C, v = .agg #[.int .i64 x.f, .int .i64 x.s, .int .i64 x.c, .int .i64 x.o, .int .i64 x.p] := by
  have hX : Try.prog.cellsOf 31 = 5 := by kernel_rfl
  have hI : Try.prog.cellsOf 3 = 1 := by kernel_rfl
  obtain ⟨cs, rfl, hsz⟩ := okWide_struct Try.underlying31 hv
  rw [hX] at hsz
  obtain ⟨l⟩ := cs
  match l, hsz with
  | [x0, x1, x2, x3, x4], _ =>
  obtain ⟨fuel, hf⟩ := h
  obtain ⟨xs, k, _, _, _, hlen, hfs⟩ := DataW.trod_struct Try.underlying31 hf
  match xs, hlen with
  | [z0, z1, z2, z3, z4], _ =>
  obtain ⟨q0, f0, _⟩ := DataW.trod_int Try.underlying3 (hfs 0 _ rfl)
  obtain ⟨q1, f1, _⟩ := DataW.trod_int Try.underlying3 (hfs 1 _ rfl)
  obtain ⟨q2, f2, _⟩ := DataW.trod_int Try.underlying3 (hfs 2 _ rfl)
  obtain ⟨q3, f3, _⟩ := DataW.trod_int Try.underlying3 (hfs 3 _ rfl)
  obtain ⟨q4, f4, _⟩ := DataW.trod_int Try.underlying3 (hfs 4 _ rfl)
  simp [Value.cells, hI] at f0 f1 f2 f3 f4
  subst f0 f1 f2 f3 f4
  exact ⟨⟨q0, q1, q2, q3, q4⟩, rfl⟩
theorem walk (H : Type) (enc : TypeId × Value → H) : Walk H enc Try.prog 6 Try.f6 := by
  intro W base args ds p hval hA
  rw [Try.params6] at hA hval
  obtain ⟨v0, v1, v2, d0, d1, d2, p0, p1, p2, rfl, rfl, rfl, h0, h1, h2⟩ := trodAll_three hA
  obtain ⟨a, rfl⟩ := open_c W base v0 (hval 0 _ v0 rfl rfl) h0
  obtain ⟨b, rfl⟩ := open_c W base v1 (hval 1 _ v1 rfl rfl) h1
  obtain ⟨c, rfl⟩ := open_c W base v2 (hval 2 _ v2 rfl rfl) h2
  exact body a b c W

set_option maxRecDepth 100000 in
theorem lifted (os : Os) (started : os.Started) (H : Type) (enc : TypeId × Value → H) :
    ReturnsInHanded {} Try.checked os 6 .any (Rows.cellLessSpec.pre6 enc Try.prog Try.f6 Rows.cellLessRow.domain false) (Rows.cellLessSpec.post enc Try.prog Try.f6 false true false false) :=
  returnsInHanded_of_change (C := Try.checked) own started (by kernel_rfl) Try.func6
    (ChangeSpec.witness6 (enc := enc) (C := Try.checked) false ⟨#[], #[.agg #[.int .i64 0, .int .i64 0, .int .i64 0, .int .i64 0, .int .i64 0], .agg #[.int .i64 0, .int .i64 0, .int .i64 0, .int .i64 0, .int .i64 0], .agg #[.int .i64 0, .int .i64 0, .int .i64 0, .int .i64 0, .int .i64 0]], []⟩ 8 (by kernel_rfl) (by kernel_rfl) (by kernel_rfl) (by kernel_rfl))
    fun W base args ds gs before hval hW _ _ => step_of_walk laidOut (by rw [Try.params6]; exact of_decide_eq_true (by kernel_rfl)) (by kernel_rfl) Try.underlying4 rfl
      (fun ds h => by
        rw [Try.params6] at h
        match ds, h with
        | [_, _, _], _ => rfl) (walk H enc) W base args ds gs before hval hW

theorem holds : Rows.CellLessSaid :=
  OpenClaim.holds_of_wide 6 Try.f6 rfl rfl rfl rfl rfl rfl rfl ⟨rfl, rfl, rfl, rfl, rfl⟩ rfl rfl rfl rfl rfl (by kernel_rfl) Try.func6 (by kernel_rfl)
    (of_decide_eq_true (by kernel_rfl)) (by unfold Func.isWrapper; first | (rw [if_pos (by decide +kernel)]; kernel_rfl) | (rw [if_neg (by decide +kernel)]; exact ⟨rfl, rfl⟩))
    (fun os started H enc _ => lifted os started H enc)
#print axioms holds
end Go.Proofs.Ytdknacbdkekfnaa.CellLess
