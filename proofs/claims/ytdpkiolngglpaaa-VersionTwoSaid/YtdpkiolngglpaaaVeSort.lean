/-
  Package version (chapter 23): inOrder: a row's cells by Less, in new memory.
-/
import Derived.Test.YtdpkiolngglpaaaCeWalks
import Derived.Test.YtdpkiolngglpaaaOwnK
import Derived.Lib.Overlaps
import Derived.Test.YtdpkiolngglpaaaMapInt
import Derived.Shelf.SlSortCmp.NoneTotal
import Derived.Ground.SlsfProg
import Derived.Sort.Grow
set_option maxRecDepth 100000
namespace Go.Proofs.Ytdpkiolngglpaaa.Ve
set_option linter.unusedVariables false
set_option linter.unusedSimpArgs false
open Go.RowKit Lb Cl Ce Mi Go.Sort Go.Shelf Go.Lib
def sortC_ren : Go.Shelf.Ren := ⟨fun | 6 => 51 | 15 => 61 | 14 => 64 | 28 => 75 | 29 => 76 | 20 => 77 | 21 => 78 | 22 => 79 | 23 => 80 | 24 => 81 | 25 => 82 | 26 => 83 | 27 => 84 | 46 => 90 | 47 => 86 | 48 => 87 | 49 => 91 | 50 => 92 | 57 => 94 | n => n, fun | 22 => 33 | 24 => 69 | 25 => 88 | 3 => 3 | 39 => 93 | 0 => 0 | 53 => 105 | 55 => 59 | 4 => 4 | 46 => 98 | 45 => 97 | 50 => 102 | 5 => 5 | 9 => 9 | 66 => 113 | 70 => 117 | 76 => 121 | 77 => 122 | n => n, fun | n => n⟩
theorem sortC : Go.Proofs.SlLaysF0.n6 Try.prog sortC_ren := {
  mixed := by kernel_rfl
  f6 := ⟨Try.f51.name, by decide, Try.func51.trans (congrArg some (by kernel_rfl))⟩
  f14 := ⟨Try.f64.name, by decide, Try.func64.trans (congrArg some (by kernel_rfl))⟩
  f15 := Try.func61.trans (congrArg some (by kernel_rfl))
  f20 := ⟨Try.f77.name, by decide, Try.func77.trans (congrArg some (by kernel_rfl))⟩
  f21 := ⟨Try.f78.name, by decide, Try.func78.trans (congrArg some (by kernel_rfl))⟩
  f22 := ⟨Try.f79.name, by decide, Try.func79.trans (congrArg some (by kernel_rfl))⟩
  f23 := ⟨Try.f80.name, by decide, Try.func80.trans (congrArg some (by kernel_rfl))⟩
  f24 := ⟨Try.f81.name, by decide, Try.func81.trans (congrArg some (by kernel_rfl))⟩
  f25 := ⟨Try.f82.name, by decide, Try.func82.trans (congrArg some (by kernel_rfl))⟩
  f26 := ⟨Try.f83.name, by decide, Try.func83.trans (congrArg some (by kernel_rfl))⟩
  f27 := ⟨Try.f84.name, by decide, Try.func84.trans (congrArg some (by kernel_rfl))⟩
  f28 := Try.func75.trans (congrArg some (by kernel_rfl))
  f29 := Try.func76.trans (congrArg some (by kernel_rfl))
  f46 := ⟨Try.f90.name, by decide, Try.func90.trans (congrArg some (by kernel_rfl))⟩
  f47 := Try.func86.trans (congrArg some (by kernel_rfl))
  f48 := Try.func87.trans (congrArg some (by kernel_rfl))
  f49 := ⟨Try.f91.name, by decide, Try.func91.trans (congrArg some (by kernel_rfl))⟩
  f50 := ⟨Try.f92.name, by decide, Try.func92.trans (congrArg some (by kernel_rfl))⟩
  f57 := ⟨Try.f94.name, by decide, Try.func94.trans (congrArg some (by kernel_rfl))⟩
  t0 := Try.underlying0
  a0 := Try.isAgg0
  z0 := Try.sizeOf0
  v0 := Try.zeroValue0
  t3 := Try.underlying3
  a3 := Try.isAgg3
  z3 := Try.sizeOf3
  v3 := Try.zeroValue3
  t4 := Try.underlying4
  a4 := Try.isAgg4
  z4 := Try.sizeOf4
  v4 := Try.zeroValue4
  t5 := Try.underlying5
  a5 := Try.isAgg5
  z5 := Try.sizeOf5
  v5 := Try.zeroValue5
  t9 := Try.underlying9
  a9 := Try.isAgg9
  z9 := Try.sizeOf9
  v9 := Try.zeroValue9
  t22 := Try.underlying33
  a22 := Try.isAgg33
  z22 := Try.sizeOf33
  v22 := Try.zeroValue33
  t25 := Try.underlying88
  a25 := Try.isAgg88
  z25 := Try.sizeOf88
  v25 := Try.zeroValue88
  t39 := Try.underlying93
  a39 := Try.isAgg93
  z39 := Try.sizeOf93
  v39 := Try.zeroValue93
  t45 := Try.underlying97
  a45 := Try.isAgg97
  z45 := Try.sizeOf97
  v45 := Try.zeroValue97
  t46 := Try.underlying98
  a46 := Try.isAgg98
  z46 := Try.sizeOf98
  v46 := Try.zeroValue98
  t50 := Try.underlying102
  a50 := Try.isAgg102
  z50 := Try.sizeOf102
  v50 := Try.zeroValue102
  t53 := Try.underlying105
  a53 := Try.isAgg105
  z53 := Try.sizeOf105
  v53 := Try.zeroValue105
  t55 := Try.underlying59
  a55 := Try.isAgg59
  z55 := Try.sizeOf59
  v55 := Try.zeroValue59
  t66 := Try.underlying113
  a66 := Try.isAgg113
  z66 := Try.sizeOf113
  v66 := Try.zeroValue113
  t70 := Try.underlying117
  a70 := Try.isAgg117
  z70 := Try.sizeOf117
  v70 := Try.zeroValue117
  t76 := Try.underlying121
  a76 := Try.isAgg121
  z76 := Try.sizeOf121
  v76 := Try.zeroValue121
  t77 := Try.underlying122
  a77 := Try.isAgg122
  z77 := Try.sizeOf122
  v77 := Try.zeroValue122 }
/-- From w to w' there is only new memory. -/
def Gw (w w' : World) : Prop := ∃ q os', w' = grow (w.drewN q) os'
theorem Gw.refl (w : World) : Gw w w := ⟨0, #[], by simp [grow]; rfl⟩
theorem Gw.alloc {w w' : World} (h : Gw w w') (o : Obj) : Gw w (w'.alloc o) := by
  obtain ⟨q, os, rfl⟩ := h
  exact ⟨q, os ++ #[o], by rw [alloc_eq_grow, grow_grow]⟩
theorem Gw.drew {w w' : World} (h : Gw w w') : Gw w w'.drew := by
  obtain ⟨q, os, rfl⟩ := h
  exact ⟨q + 1, os, by rw [drew_grow]; rfl⟩
theorem Gw.trans {u v w : World} (h : Gw u v) (k : Gw v w) : Gw u w := by
  obtain ⟨q, os, rfl⟩ := h
  obtain ⟨q', os', rfl⟩ := k
  refine ⟨q + q', os ++ os', ?_⟩
  rw [← grow_grow]
  congr 1
  unfold grow World.drewN
  simp [Nat.add_assoc]
theorem Gw.below {w w' : World} (h : Gw w w') : Below w.heap.size w w' := by
  obtain ⟨q, os, rfl⟩ := h
  refine ⟨rfl, rfl, rfl, by simp [grow], fun k hk => ?_⟩
  unfold grow
  simp only
  rw [Array.getElem?_append_left (by exact hk)]
  rfl
set_option maxHeartbeats 4000000 in
theorem com_grow (x y : C) (w : World) :
    Calls Try.prog 65 #[.agg #[.int .i64 x.f, .int .i64 x.s, .int .i64 x.c, .int .i64 x.o, .int .i64 x.p], .agg #[.int .i64 y.f, .int .i64 y.s, .int .i64 y.c, .int .i64 y.o, .int .i64 y.p]] w fun r w' => r = .returned (.int .i64 (cf x y)) ∧ Gw w w' := by
  obtain ⟨x1, x2, x3, x4, x5⟩ := x
  obtain ⟨y1, y2, y3, y4, y5⟩ := y
  obtain ⟨c1, hc1⟩ : ∃ c, cmpI x1 y1 = c := ⟨_, rfl⟩
  obtain ⟨c2, hc2⟩ : ∃ c, cmpI x2 y2 = c := ⟨_, rfl⟩
  obtain ⟨c3, hc3⟩ : ∃ c, cmpI x3 y3 = c := ⟨_, rfl⟩
  obtain ⟨c4, hc4⟩ : ∃ c, cmpI x4 y4 = c := ⟨_, rfl⟩
  obtain ⟨c5, hc5⟩ : ∃ c, cmpI x5 y5 = c := ⟨_, rfl⟩
  have H1 := Lib.hid hc1
  have H2 := Lib.hid hc2
  have H3 := Lib.hid hc3
  have H4 := Lib.hid hc4
  have H5 := Lib.hid hc5
  obtain ⟨X, hX⟩ : ∃ X : Nat → Int, X = fun k => if k = 0 then c1 else if k = 1 then c2 else if k = 2 then c3 else if k = 3 then c4 else c5 := ⟨_, rfl⟩
  have HD : Hid (cf ⟨x1, x2, x3, x4, x5⟩ ⟨y1, y2, y3, y4, y5⟩ = orC X) := Lib.hid (by rw [hX]; unfold cf orC; simp only [hc1, hc2, hc3, hc4, hc5]; rfl)
  have HX := Lib.hid hX
  clear hc1 hc2 hc3 hc4 hc5 hX
  have k1 : Own ((w.alloc (.cells #[.int .i64 x1, .int .i64 x2, .int .i64 x3, .int .i64 x4, .int .i64 x5] 69)).alloc (.cells #[.int .i64 y1, .int .i64 y2, .int .i64 y3, .int .i64 y4, .int .i64 y5] 69)) w.heap.size 69 #[.int .i64 x1, .int .i64 x2, .int .i64 x3, .int .i64 x4, .int .i64 x5] := (Own.new w _ _).alloc _
  have k2 : Own ((w.alloc (.cells #[.int .i64 x1, .int .i64 x2, .int .i64 x3, .int .i64 x4, .int .i64 x5] 69)).alloc (.cells #[.int .i64 y1, .int .i64 y2, .int .i64 y3, .int .i64 y4, .int .i64 y5] 69)) (w.heap.size + 1) 69 #[.int .i64 y1, .int .i64 y2, .int .i64 y3, .int .i64 y4, .int .i64 y5] := by
    have := Own.new (w.alloc (.cells #[.int .i64 x1, .int .i64 x2, .int .i64 x3, .int .i64 x4, .int .i64 x5] 69)) 69 #[.int .i64 y1, .int .i64 y2, .int .i64 y3, .int .i64 y4, .int .i64 y5]
    rwa [show (w.alloc (.cells #[.int .i64 x1, .int .i64 x2, .int .i64 x3, .int .i64 x4, .int .i64 x5] 69)).heap.size = w.heap.size + 1 by simp] at this
  have b0 : Gw w _ := ((Gw.refl w).alloc (.cells #[.int .i64 x1, .int .i64 x2, .int .i64 x3, .int .i64 x4, .int .i64 x5] 69)).alloc (.cells #[.int .i64 y1, .int .i64 y2, .int .i64 y3, .int .i64 y4, .int .i64 y5] 69)
  go_enter Try.func65, Try.ntmps65
  go_wp2_with fail
  obtain ⟨w1, hw1⟩ : ∃ w1, (w.alloc (.cells #[.int .i64 x1, .int .i64 x2, .int .i64 x3, .int .i64 x4, .int .i64 x5] 69)).alloc (.cells #[.int .i64 y1, .int .i64 y2, .int .i64 y3, .int .i64 y4, .int .i64 y5] 69) = w1 := ⟨_, rfl⟩
  rw [hw1] at k1 k2 b0 ⊢
  clear hw1
  have s0 : (fun w' : World => w'.cell? ⟨w.heap.size, 0, none⟩ = some (.int .i64 x1) ∧ w'.cell? ⟨w.heap.size, 1, none⟩ = some (.int .i64 x2) ∧ w'.cell? ⟨w.heap.size, 2, none⟩ = some (.int .i64 x3) ∧ w'.cell? ⟨w.heap.size, 3, none⟩ = some (.int .i64 x4) ∧ w'.cell? ⟨w.heap.size, 4, none⟩ = some (.int .i64 x5) ∧ w'.cell? ⟨w.heap.size + 1, 0, none⟩ = some (.int .i64 y1) ∧ w'.cell? ⟨w.heap.size + 1, 1, none⟩ = some (.int .i64 y2) ∧ w'.cell? ⟨w.heap.size + 1, 2, none⟩ = some (.int .i64 y3) ∧ w'.cell? ⟨w.heap.size + 1, 3, none⟩ = some (.int .i64 y4) ∧ w'.cell? ⟨w.heap.size + 1, 4, none⟩ = some (.int .i64 y5)) w1.drew := ⟨k1.cell 0, k1.cell 1, k1.cell 2, k1.cell 3, k1.cell 4, k2.cell 0, k2.cell 1, k2.cell 2, k2.cell 3, k2.cell 4⟩
  have o1 := (k1.drewN 1).alloc (.cells #[.int .i64 c1, .int .i64 c2, .int .i64 c3, .int .i64 c4, .int .i64 c5] 3)
  have o2 := (k2.drewN 1).alloc (.cells #[.int .i64 c1, .int .i64 c2, .int .i64 c3, .int .i64 c4, .int .i64 c5] 3)
  have s1 : (fun w' : World => w'.cell? ⟨w.heap.size, 0, none⟩ = some (.int .i64 x1) ∧ w'.cell? ⟨w.heap.size, 1, none⟩ = some (.int .i64 x2) ∧ w'.cell? ⟨w.heap.size, 2, none⟩ = some (.int .i64 x3) ∧ w'.cell? ⟨w.heap.size, 3, none⟩ = some (.int .i64 x4) ∧ w'.cell? ⟨w.heap.size, 4, none⟩ = some (.int .i64 x5) ∧ w'.cell? ⟨w.heap.size + 1, 0, none⟩ = some (.int .i64 y1) ∧ w'.cell? ⟨w.heap.size + 1, 1, none⟩ = some (.int .i64 y2) ∧ w'.cell? ⟨w.heap.size + 1, 2, none⟩ = some (.int .i64 y3) ∧ w'.cell? ⟨w.heap.size + 1, 3, none⟩ = some (.int .i64 y4) ∧ w'.cell? ⟨w.heap.size + 1, 4, none⟩ = some (.int .i64 y5)) (w1.drew.alloc (.cells #[.int .i64 c1, .int .i64 c2, .int .i64 c3, .int .i64 c4, .int .i64 c5] 3)) := ⟨o1.cell 0, o1.cell 1, o1.cell 2, o1.cell 3, o1.cell 4, o2.cell 0, o2.cell 1, o2.cell 2, o2.cell 3, o2.cell 4⟩
  have o3 := Own.new w1.drew 3 #[.int .i64 c1, .int .i64 c2, .int .i64 c3, .int .i64 c4, .int .i64 c5]
  have hsz : w1.drew.heap.size = w1.heap.size := rfl
  rw [hsz] at o3
  have HO : Hid (∀ k, k < 5 → (w1.drew.alloc (.cells #[.int .i64 c1, .int .i64 c2, .int .i64 c3, .int .i64 c4, .int .i64 c5] 3)).cell? ⟨w1.heap.size, 0 + k, none⟩ = some (.int .i64 (X k))) := Lib.hid (fun k hk => by
    rw [o3.cell, HX.out]
    rcases (show k = 0 ∨ k = 1 ∨ k = 2 ∨ k = 3 ∨ k = 4 by omega) with rfl | rfl | rfl | rfl | rfl <;> rfl)
  have hb9 : Gw w _ := b0.drew.alloc (.cells #[.int .i64 c1, .int .i64 c2, .int .i64 c3, .int .i64 c4, .int .i64 c5] 3)
  clear o1 o2 o3 k1 k2
  go_region_held3 (fun w' => w'.cell? ⟨w.heap.size, 0, none⟩ = some (.int .i64 x1) ∧ w'.cell? ⟨w.heap.size, 1, none⟩ = some (.int .i64 x2) ∧ w'.cell? ⟨w.heap.size, 2, none⟩ = some (.int .i64 x3) ∧ w'.cell? ⟨w.heap.size, 3, none⟩ = some (.int .i64 x4) ∧ w'.cell? ⟨w.heap.size, 4, none⟩ = some (.int .i64 x5) ∧ w'.cell? ⟨w.heap.size + 1, 0, none⟩ = some (.int .i64 y1) ∧ w'.cell? ⟨w.heap.size + 1, 1, none⟩ = some (.int .i64 y2) ∧ w'.cell? ⟨w.heap.size + 1, 2, none⟩ = some (.int .i64 y3) ∧ w'.cell? ⟨w.heap.size + 1, 3, none⟩ = some (.int .i64 y4) ∧ w'.cell? ⟨w.heap.size + 1, 4, none⟩ = some (.int .i64 y5)) (first | exact s0 | exact s1) (first
    | (go_at_call 49; first | ((with_reducible refine (cmp_any x1 y1 _).mono ?_); rintro q5 w5 ⟨rfl, rfl⟩; rw [H1.out]) | ((with_reducible refine (cmp_any x2 y2 _).mono ?_); rintro q5 w5 ⟨rfl, rfl⟩; rw [H2.out]) | ((with_reducible refine (cmp_any x3 y3 _).mono ?_); rintro q5 w5 ⟨rfl, rfl⟩; rw [H3.out]) | ((with_reducible refine (cmp_any x4 y4 _).mono ?_); rintro q5 w5 ⟨rfl, rfl⟩; rw [H4.out]) | ((with_reducible refine (cmp_any x5 y5 _).mono ?_); rintro q5 w5 ⟨rfl, rfl⟩; rw [H5.out]))
    | (go_at_call 48; refine (or_any w1.heap.size X _ HO.out).mono ?_; rintro q5 w5 ⟨rfl, rfl⟩))
  all_goals
    go_wp2_with fail
    go_ret
    exact ⟨by rw [HD.out]; rfl, hb9⟩
theorem less_grow (x y : C) (w : World) :
    Calls Try.prog 53 #[.agg #[.int .i64 x.f, .int .i64 x.s, .int .i64 x.c, .int .i64 x.o, .int .i64 x.p], .agg #[.int .i64 y.f, .int .i64 y.s, .int .i64 y.c, .int .i64 y.o, .int .i64 y.p]] w fun r w' => r = .returned (.bool (decide (cf x y < 0))) ∧ Gw w w' := by
  have hcom := fun w => com_grow x y w
  obtain ⟨z, hz⟩ : ∃ z, cf x y = z := ⟨_, rfl⟩
  rw [hz]
  rw [hz] at hcom
  clear hz
  obtain ⟨x1, x2, x3, x4, x5⟩ := x
  obtain ⟨y1, y2, y3, y4, y5⟩ := y
  have b0 : Gw w _ := ((Gw.refl w).alloc (.cells #[.int .i64 x1, .int .i64 x2, .int .i64 x3, .int .i64 x4, .int .i64 x5] 69)).alloc (.cells #[.int .i64 y1, .int .i64 y2, .int .i64 y3, .int .i64 y4, .int .i64 y5] 69)
  go_enter Try.func53, Try.ntmps53
  go_wp2_with ((with_reducible refine (hcom _).mono ?_); rintro r w' ⟨rfl, b1⟩)
  go_ret
  exact ⟨rfl, b0.trans b1⟩
def encC (x : C) : List Value := [.int .i64 x.f, .int .i64 x.s, .int .i64 x.c, .int .i64 x.o, .int .i64 x.p]
def cfV (x y : C) : Int := if cf x y < 0 then -1 else if cf y x < 0 then 1 else 0
theorem ltV (x y : C) : ltOf cfV x y = decide (cf x y < 0) := by
  unfold ltOf cfV
  by_cases h : cf x y < 0
  · simp [h]
  · by_cases h2 : cf y x < 0 <;> simp [h, h2]
theorem swoV : SWO (ltOf cfV) where
  irrefl x := by
    rw [ltV, decide_eq_false_iff_not]
    exact fun h => cf_asym h h
  trans x y z h1 h2 := by
    rw [ltV, decide_eq_true_eq] at *
    exact cf_trans h1 h2
  ntrans x y z h1 h2 := by
    rw [ltV, decide_eq_false_iff_not] at *
    intro h
    by_cases h3 : cf y x < 0
    · exact h2 (cf_trans h3 h)
    · have := cf_total h1 h3
      subst this
      exact h2 h
theorem totV (x y : C) (h1 : ltOf cfV x y = false) (h2 : ltOf cfV y x = false) : x = y := by
  rw [ltV, decide_eq_false_iff_not] at h1 h2
  exact cf_total h1 h2
theorem clos_any (x y : C) (w : World) :
    Calls Try.prog 52 #[.agg #[.int .i64 x.f, .int .i64 x.s, .int .i64 x.c, .int .i64 x.o, .int .i64 x.p], .agg #[.int .i64 y.f, .int .i64 y.s, .int .i64 y.c, .int .i64 y.o, .int .i64 y.p]] w fun r w' => r = .returned (.int .i64 (cfV x y)) ∧ Gw w w' := by
  have h1 := fun w => less_grow x y w
  have h2 := fun w => less_grow y x w
  have HD : Hid (cfV x y = if decide (cf x y < 0) = true then -1 else if decide (cf y x < 0) = true then 1 else 0) := Lib.hid (by unfold cfV; simp)
  obtain ⟨q1, hq1⟩ : ∃ q, decide (cf x y < 0) = q := ⟨_, rfl⟩
  obtain ⟨q2, hq2⟩ : ∃ q, decide (cf y x < 0) = q := ⟨_, rfl⟩
  rw [hq1] at h1 HD
  rw [hq2] at h2 HD
  clear hq1 hq2
  obtain ⟨x1, x2, x3, x4, x5⟩ := x
  obtain ⟨y1, y2, y3, y4, y5⟩ := y
  have b0 : Gw w _ := ((Gw.refl w).alloc (.cells #[.int .i64 x1, .int .i64 x2, .int .i64 x3, .int .i64 x4, .int .i64 x5] 69)).alloc (.cells #[.int .i64 y1, .int .i64 y2, .int .i64 y3, .int .i64 y4, .int .i64 y5] 69)
  have k1 := (Own.new w 69 #[.int .i64 x1, .int .i64 x2, .int .i64 x3, .int .i64 x4, .int .i64 x5]).alloc (.cells #[.int .i64 y1, .int .i64 y2, .int .i64 y3, .int .i64 y4, .int .i64 y5] 69)
  have k2 := Own.new (w.alloc (.cells #[.int .i64 x1, .int .i64 x2, .int .i64 x3, .int .i64 x4, .int .i64 x5] 69)) 69 #[.int .i64 y1, .int .i64 y2, .int .i64 y3, .int .i64 y4, .int .i64 y5]
  rw [show (w.alloc (.cells #[.int .i64 x1, .int .i64 x2, .int .i64 x3, .int .i64 x4, .int .i64 x5] 69)).heap.size = w.heap.size + 1 by simp] at k2
  go_enter Try.func52, Try.ntmps52
  go_wp2_with fail
  generalize (w.alloc (.cells #[.int .i64 x1, .int .i64 x2, .int .i64 x3, .int .i64 x4, .int .i64 x5] 69)).alloc (.cells #[.int .i64 y1, .int .i64 y2, .int .i64 y3, .int .i64 y4, .int .i64 y5] 69) = w0 at *
  refine (h1 _).mono ?_
  rintro r w1 ⟨rfl, g1⟩
  have b1 := b0.trans g1
  have o1 := below_own g1.below k1 k1.lt
  have o2 := below_own g1.below k2 k2.lt
  have d0 := o1.cell 0
  have d1 := o1.cell 1
  have d2 := o1.cell 2
  have d3 := o1.cell 3
  have d4 := o1.cell 4
  have f0 := o2.cell 0
  have f1 := o2.cell 1
  have f2 := o2.cell 2
  have f3 := o2.cell 3
  have f4 := o2.cell 4
  simp only [List.size_toArray, List.length_cons, List.length_nil, Nat.reduceAdd, Nat.reduceLT, getElem?_pos, List.getElem_toArray, List.getElem_cons_zero, List.getElem_cons_succ] at d0 d1 d2 d3 d4 f0 f1 f2 f3 f4
  cases q1
  rotate_left 1
  · go_wp2_with fail
    go_ret
    exact ⟨by rw [HD.out]; rfl, b1⟩
  go_wp2_with fail
  refine (h2 _).mono ?_
  rintro r w2 ⟨rfl, g2⟩
  have b2 := b1.trans g2
  cases q2
  · go_wp2_with fail
    go_ret
    exact ⟨by rw [HD.out]; rfl, b2⟩
  · go_wp2_with fail
    go_ret
    exact ⟨by rw [HD.out]; rfl, b2⟩
theorem infoE : (Try.prog.info? 69).map (fun i => (i.zero, i.size, i.bytes)) = some (some (.agg #[.int .i64 0, .int .i64 0, .int .i64 0, .int .i64 0, .int .i64 0]), 5, 40) := by kernel_rfl
theorem row_none {w : World} {A : Option Addr} {n : Nat} {V : Nat → Value} (h : Row w A (n * 5) V) (e : A = none) : n = 0 := by
  rcases Nat.eq_zero_or_pos n with h0 | h0
  · exact h0
  · obtain ⟨_, _, h1, _⟩ := h (by omega)
    rw [e] at h1
    cases h1
theorem clo_any (A : Option Addr) (n c : Nat) (l : List C) (w : World) (hR : Row w A (n * 5) (lv l)) (hn : n ≤ 100000) :
    Calls Try.prog 39 #[.slice A n c] w fun r w' => ∃ va, r = .returned va ∧ MineK w' w.heap.size 69 5 va n (lv l) ∧ Below w.heap.size w w' := by
  obtain ⟨i0, hi0, hz0, hz1, hz2⟩ := info_parts infoE
  cases A with
  | none =>
    obtain rfl : n = 0 := row_none hR rfl
    clear hR
    have hne := Lib.run_eql_slice_nil (P := Try.prog) w 33 69 none 0 c 0 0 Try.underlying33
    go_enter Try.func39, Try.ntmps39
    go_wp2_with fail
    go_ret
    exact ⟨_, rfl, MineK.nil _ _ _ _ _, Below.refl _ _⟩
  | some p =>
    have hne := Lib.run_eql_slice_nil (P := Try.prog) w 33 69 (some p) n c 0 0 Try.underlying33
    have h0 : MineK (w.alloc (.cells #[] 69)) w.heap.size 69 5 (.slice (some ⟨w.heap.size, 0, none⟩) 0 0) 0 (lv []) := MineK.made (c := 0) (Own.new w 69 #[]) (Nat.le_refl _) rfl (by decide) (by decide) (fun i hi => by omega)
    have hr : Row (w.alloc (.cells #[] 69)) (some p) (n * 5) (lv l) := hR.below ((Below.refl _ _).alloc (Nat.le_refl _) _)
    have b0 := (Below.refl w.heap.size w).alloc (Nat.le_refl _) (.cells #[] 69)
    have H0 := Lib.hid h0
    have HR := Lib.hid hr
    have HNM : Hid (0 + n ≤ maxLen) := Lib.hid (by unfold maxLen; omega)
    have hbs : w.heap.size ≤ (w.alloc (.cells #[] 69)).heap.size := b0.size
    clear h0 hr hR
    go_enter Try.func39, Try.ntmps39
    go_wp2_with (at_builtin; go_must (refine wp_appK rfl (.tmp 5) (.tmp 6) _ rfl w.heap.size 69 i0 _ 5 40 Try.underlying33 hi0 hz0 hz1 hz2 rfl (by decide) _ 0 (lv []) rfl H0.out _ n _ (lv l) rfl HR.out (fun i _ => lv_one l i) HNM.out ?c2 hbs ?_))
    case c2 => omega
    intro v5 w5 m5 g5 q5
    have M5 : Hid (MineK w5 w.heap.size 69 5 v5 n (lv l)) := Lib.hid m5
    have B5 : Hid (Below w.heap.size w w5) := Lib.hid (b0.grown g5 hbs (fun q e => by
      have e : some w.heap.size = some q := e
      injection e with e
      omega))
    clear m5 g5 q5
    go_wp2_with fail
    go_ret
    exact ⟨_, rfl, M5.out, B5.out⟩
theorem just_sortC {α : Type} [Inhabited α] (enc : α → List Value) (k : Nat) (w : World) (blk off n : Nat) (dk : Array α) (os : Array Obj) : Just blk w (sortWorldK enc k w blk off n dk os) := by
  refine ⟨rfl, rfl, rfl, size_sortWorldK_c enc k w blk off n dk os, fun b hb hne => ?_⟩
  show ((w.heap.modify blk (onCells (putCells id off (flatK enc k dk)))) ++ os)[b]? = w.heap[b]?
  rw [Array.getElem?_append_left (by simpa using hb)]
  rw [Array.getElem?_modify, if_neg (fun e => hne e.symm)]
/-- A row in order. -/
def srtC (l : List C) : List C := l.mergeSort fun x y => !(ltOf cfV) y x
theorem flat_lv {l : List C} {j : Nat} (hj : j < l.length * 5) : (flatK encC 5 l.toArray)[j]! = lv l j := by
  have hi : j / 5 < l.length := by omega
  rw [get_flatK _ _ _ _ (by simpa using hj)]
  have e : l.toArray[j / 5]! = at_ l (j / 5) := by
    unfold at_
    rw [List.getD_eq_getElem?_getD, List.getElem?_eq_getElem hi, getElem!_pos l.toArray (j / 5) (by simpa using hi)]
    rfl
  unfold lv cv C.vals
  rw [e]
  unfold encC
  rcases (show j % 5 = 0 ∨ j % 5 = 1 ∨ j % 5 = 2 ∨ j % 5 = 3 ∨ j % 5 = 4 by omega) with h | h | h | h | h <;> rw [h] <;> rfl
theorem ino_any (A : Option Addr) (c : Nat) (l : List C) (w : World) (hR : Row w A (l.length * 5) (lv l)) (hn : l.length ≤ 100000) :
    Calls Try.prog 37 #[.slice A l.length c] w fun r w' => ∃ v, r = .returned v ∧ Rv w' w.heap.size v (srtC l) ∧ Below w.heap.size w w' := by
  go_enter Try.func37, Try.ntmps37
  go_wp2_with fail
  refine (clo_any A l.length c l w hR hn).mono ?_
  rintro r w1 ⟨va, rfl, m1, b1⟩
  have hs1 := b1.size
  by_cases h0 : l.length = 0
  · obtain ⟨a, c1, rfl, h1, h2, _⟩ := m1.row
    have hl : l = [] := List.length_eq_zero_iff.1 h0
    subst hl
    go_wp2_with fail
    refine (AnyF.slices_SortFunc_none sortC a c1 _ w1).mono ?_
    rintro r w2 ⟨rfl, rfl⟩
    go_wp2_with fail
    go_ret
    have hnil : srtC [] = [] := by simp [srtC]
    rw [hnil]
    exact ⟨_, rfl, ⟨a, c1, rfl, h1, h2, Row.nil _ _ _, fun h => absurd h (by simp)⟩, b1⟩
  · obtain ⟨g, c1, cs, rfl, hg, ho, h1, h2, h3, h4⟩ := m1.block (by omega)
    have hh : HoldsK encC 5 w1 g 0 l.toArray := by
      intro j hj
      have hj2 : j < l.length * 5 := by simpa using hj
      refine ⟨?_, ho.free _⟩
      rw [Nat.zero_add, ho.cell, h4 j hj2, flat_lv hj2]
      rfl
    have eg : ∀ args w, (callFunc 52 args).run Try.prog w = .ok (.enter 52 args) w := enters_of Try.func52 (by kernel_rfl) rfl
    have hcmp : CmpLays Try.prog 52 #[] encC 5 cfV g 0 l.toArray.size w1 := fun m os dk _ x y => clos_any x y _
    have hcon := AnyQ.slices_SortFunc_total sortC 5 (fun w => by kernel_rfl) (fun w => by kernel_rfl) encC (fun _ => rfl) (fun x v hv => by simp [encC] at hv; rcases hv with rfl | rfl | rfl | rfl | rfl <;> rfl) cfV swoV 52 #[] g 0 c1 l.toArray w1 eg hcmp hh ho.lt (by simp; omega) totV
    rw [List.size_toArray] at hcon
    clear h4 hcmp eg
    go_wp2_with fail
    refine hcon.mono ?_
    rintro r w2 ⟨rfl, n, os, hw⟩
    have j2 : Just g w1 w2 := by rw [hw]; exact just_sortC encC 5 w1 g 0 n _ os
    have hl2 : (srtC l).length = l.length := List.length_mergeSort _
    have hh2 : HoldsK encC 5 w2 g 0 (srtC l).toArray := by
      rw [hw]
      exact holdsK_sortWorldK encC 5 w1 g 0 n l.toArray _ os ho.lt hh (by simp [hl2])
    clear hcon hw
    go_wp2_with fail
    go_ret
    refine ⟨.slice (some ⟨g, 0, none⟩) l.length c1, rfl, ⟨some ⟨g, 0, none⟩, c1, congrArg (fun n => Value.slice (some ⟨g, 0, none⟩) n c1) hl2.symm, by rw [hl2]; exact h1, h2, fun _ => ?_, fun _ q e => ?_⟩, j2.below b1 hg hs1⟩
    · refine ⟨g, 0, rfl, Nat.lt_of_lt_of_le ho.lt j2.size, fun j hj => ?_⟩
      have := (hh2 j (by simpa using hj)).1
      rw [this, flat_lv hj]
      rfl
    · injection e with e
      subst e
      exact hg
end Go.Proofs.Ytdpkiolngglpaaa.Ve
