/-
  Package version (chapter 23): inOrder: a row's cells by Less, in new memory.
-/
import Derived.Test.YtahcplddonipcaaGreatCeWalks
import Derived.Test.YtahcplddonipcaaGreatOwnK
import Derived.Lib.Overlaps
import Derived.Test.YtahcplddonipcaaGreatMapInt
import Derived.Shelf.SlSortCmp.NoneTotal
import Derived.Ground.SlsfProg
import Derived.Sort.Grow
set_option maxRecDepth 100000
namespace Go.Proofs.YtahcplddonipcaaGreat.Ve
set_option linter.unusedVariables false
set_option linter.unusedSimpArgs false
open Go.RowKit Lb Cl Ce Mi Go.Sort Go.Shelf Go.Lib
def sortC_ren : Go.Shelf.Ren := ⟨fun | 6 => 24 | 15 => 50 | 14 => 49 | 28 => 74 | 29 => 75 | 20 => 66 | 21 => 67 | 22 => 68 | 23 => 69 | 24 => 70 | 25 => 71 | 26 => 72 | 27 => 73 | 46 => 98 | 47 => 99 | 48 => 100 | 49 => 101 | 50 => 102 | 57 => 120 | n => n, fun | 22 => 34 | 24 => 50 | 25 => 67 | 3 => 3 | 39 => 108 | 0 => 0 | 53 => 124 | 55 => 46 | 4 => 4 | 46 => 117 | 45 => 116 | 50 => 121 | 5 => 5 | 9 => 9 | 66 => 139 | 70 => 143 | 76 => 153 | 77 => 154 | n => n, fun | n => n⟩
theorem sortC : Go.Proofs.SlLaysF0.n6 Tryz.prog sortC_ren := {
  mixed := by kernel_rfl
  f6 := ⟨Tryz.f24.name, by decide, Tryz.func24.trans (congrArg some (by kernel_rfl))⟩
  f14 := ⟨Tryz.f49.name, by decide, Tryz.func49.trans (congrArg some (by kernel_rfl))⟩
  f15 := Tryz.func50.trans (congrArg some (by kernel_rfl))
  f20 := ⟨Tryz.f66.name, by decide, Tryz.func66.trans (congrArg some (by kernel_rfl))⟩
  f21 := ⟨Tryz.f67.name, by decide, Tryz.func67.trans (congrArg some (by kernel_rfl))⟩
  f22 := ⟨Tryz.f68.name, by decide, Tryz.func68.trans (congrArg some (by kernel_rfl))⟩
  f23 := ⟨Tryz.f69.name, by decide, Tryz.func69.trans (congrArg some (by kernel_rfl))⟩
  f24 := ⟨Tryz.f70.name, by decide, Tryz.func70.trans (congrArg some (by kernel_rfl))⟩
  f25 := ⟨Tryz.f71.name, by decide, Tryz.func71.trans (congrArg some (by kernel_rfl))⟩
  f26 := ⟨Tryz.f72.name, by decide, Tryz.func72.trans (congrArg some (by kernel_rfl))⟩
  f27 := ⟨Tryz.f73.name, by decide, Tryz.func73.trans (congrArg some (by kernel_rfl))⟩
  f28 := Tryz.func74.trans (congrArg some (by kernel_rfl))
  f29 := Tryz.func75.trans (congrArg some (by kernel_rfl))
  f46 := ⟨Tryz.f98.name, by decide, Tryz.func98.trans (congrArg some (by kernel_rfl))⟩
  f47 := Tryz.func99.trans (congrArg some (by kernel_rfl))
  f48 := Tryz.func100.trans (congrArg some (by kernel_rfl))
  f49 := ⟨Tryz.f101.name, by decide, Tryz.func101.trans (congrArg some (by kernel_rfl))⟩
  f50 := ⟨Tryz.f102.name, by decide, Tryz.func102.trans (congrArg some (by kernel_rfl))⟩
  f57 := ⟨Tryz.f120.name, by decide, Tryz.func120.trans (congrArg some (by kernel_rfl))⟩
  t0 := Tryz.underlying0
  a0 := Tryz.isAgg0
  z0 := Tryz.sizeOf0
  v0 := Tryz.zeroValue0
  t3 := Tryz.underlying3
  a3 := Tryz.isAgg3
  z3 := Tryz.sizeOf3
  v3 := Tryz.zeroValue3
  t4 := Tryz.underlying4
  a4 := Tryz.isAgg4
  z4 := Tryz.sizeOf4
  v4 := Tryz.zeroValue4
  t5 := Tryz.underlying5
  a5 := Tryz.isAgg5
  z5 := Tryz.sizeOf5
  v5 := Tryz.zeroValue5
  t9 := Tryz.underlying9
  a9 := Tryz.isAgg9
  z9 := Tryz.sizeOf9
  v9 := Tryz.zeroValue9
  t22 := Tryz.underlying34
  a22 := Tryz.isAgg34
  z22 := Tryz.sizeOf34
  v22 := Tryz.zeroValue34
  t25 := Tryz.underlying67
  a25 := Tryz.isAgg67
  z25 := Tryz.sizeOf67
  v25 := Tryz.zeroValue67
  t39 := Tryz.underlying108
  a39 := Tryz.isAgg108
  z39 := Tryz.sizeOf108
  v39 := Tryz.zeroValue108
  t45 := Tryz.underlying116
  a45 := Tryz.isAgg116
  z45 := Tryz.sizeOf116
  v45 := Tryz.zeroValue116
  t46 := Tryz.underlying117
  a46 := Tryz.isAgg117
  z46 := Tryz.sizeOf117
  v46 := Tryz.zeroValue117
  t50 := Tryz.underlying121
  a50 := Tryz.isAgg121
  z50 := Tryz.sizeOf121
  v50 := Tryz.zeroValue121
  t53 := Tryz.underlying124
  a53 := Tryz.isAgg124
  z53 := Tryz.sizeOf124
  v53 := Tryz.zeroValue124
  t55 := Tryz.underlying46
  a55 := Tryz.isAgg46
  z55 := Tryz.sizeOf46
  v55 := Tryz.zeroValue46
  t66 := Tryz.underlying139
  a66 := Tryz.isAgg139
  z66 := Tryz.sizeOf139
  v66 := Tryz.zeroValue139
  t70 := Tryz.underlying143
  a70 := Tryz.isAgg143
  z70 := Tryz.sizeOf143
  v70 := Tryz.zeroValue143
  t76 := Tryz.underlying153
  a76 := Tryz.isAgg153
  z76 := Tryz.sizeOf153
  v76 := Tryz.zeroValue153
  t77 := Tryz.underlying154
  a77 := Tryz.isAgg154
  z77 := Tryz.sizeOf154
  v77 := Tryz.zeroValue154 }
/-- From w to w' there is only new memory. -/
def Gw (w w' : World) : Prop := ∃ q os', w' = grow (w.drewN q) os'
theorem Gw.refl (w : World) : Gw w w := ⟨0, #[], by simp [grow]; rfl⟩
theorem Gw.alloc {w w' : World} (h : Gw w w') (o : Obj) : Gw w (w'.alloc o) := by
  obtain ⟨q, os, rfl⟩ := h
  exact ⟨q, os ++ #[o], by rw [alloc_eq_grow, grow_grow]⟩
theorem Gw.drew {w w' : World} (h : Gw w w') : Gw w w'.drew := by
  obtain ⟨q, os, rfl⟩ := h
  exact ⟨q + 1, os, by rw [drew_grow]; rfl⟩
theorem Gw.trans {u v w : World} (h : Gw u v) (k : Gw v w) : Gw u w := by
  obtain ⟨q, os, rfl⟩ := h
  obtain ⟨q', os', rfl⟩ := k
  refine ⟨q + q', os ++ os', ?_⟩
  rw [← grow_grow]
  congr 1
  unfold grow World.drewN
  simp [Nat.add_assoc]
theorem Gw.below {w w' : World} (h : Gw w w') : Below w.heap.size w w' := by
  obtain ⟨q, os, rfl⟩ := h
  refine ⟨rfl, rfl, rfl, by simp [grow], fun k hk => ?_⟩
  unfold grow
  simp only
  rw [Array.getElem?_append_left (by exact hk)]
  rfl
set_option maxHeartbeats 4000000 in
theorem com_grow (x y : C) (w : World) :
    Calls Tryz.prog 76 #[.agg #[.int .i64 x.f, .int .i64 x.s, .int .i64 x.c, .int .i64 x.o, .int .i64 x.p], .agg #[.int .i64 y.f, .int .i64 y.s, .int .i64 y.c, .int .i64 y.o, .int .i64 y.p]] w fun r w' => r = .returned (.int .i64 (cf x y)) ∧ Gw w w' := by
  obtain ⟨x1, x2, x3, x4, x5⟩ := x
  obtain ⟨y1, y2, y3, y4, y5⟩ := y
  obtain ⟨c1, hc1⟩ : ∃ c, cmpI x1 y1 = c := ⟨_, rfl⟩
  obtain ⟨c2, hc2⟩ : ∃ c, cmpI x2 y2 = c := ⟨_, rfl⟩
  obtain ⟨c3, hc3⟩ : ∃ c, cmpI x3 y3 = c := ⟨_, rfl⟩
  obtain ⟨c4, hc4⟩ : ∃ c, cmpI x4 y4 = c := ⟨_, rfl⟩
  obtain ⟨c5, hc5⟩ : ∃ c, cmpI x5 y5 = c := ⟨_, rfl⟩
  have H1 := Lib.hid hc1
  have H2 := Lib.hid hc2
  have H3 := Lib.hid hc3
  have H4 := Lib.hid hc4
  have H5 := Lib.hid hc5
  obtain ⟨X, hX⟩ : ∃ X : Nat → Int, X = fun k => if k = 0 then c1 else if k = 1 then c2 else if k = 2 then c3 else if k = 3 then c4 else c5 := ⟨_, rfl⟩
  have HD : Hid (cf ⟨x1, x2, x3, x4, x5⟩ ⟨y1, y2, y3, y4, y5⟩ = orC X) := Lib.hid (by rw [hX]; unfold cf orC; simp only [hc1, hc2, hc3, hc4, hc5]; rfl)
  have HX := Lib.hid hX
  clear hc1 hc2 hc3 hc4 hc5 hX
  have k1 : Own ((w.alloc (.cells #[.int .i64 x1, .int .i64 x2, .int .i64 x3, .int .i64 x4, .int .i64 x5] 50)).alloc (.cells #[.int .i64 y1, .int .i64 y2, .int .i64 y3, .int .i64 y4, .int .i64 y5] 50)) w.heap.size 50 #[.int .i64 x1, .int .i64 x2, .int .i64 x3, .int .i64 x4, .int .i64 x5] := (Own.new w _ _).alloc _
  have k2 : Own ((w.alloc (.cells #[.int .i64 x1, .int .i64 x2, .int .i64 x3, .int .i64 x4, .int .i64 x5] 50)).alloc (.cells #[.int .i64 y1, .int .i64 y2, .int .i64 y3, .int .i64 y4, .int .i64 y5] 50)) (w.heap.size + 1) 50 #[.int .i64 y1, .int .i64 y2, .int .i64 y3, .int .i64 y4, .int .i64 y5] := by
    have := Own.new (w.alloc (.cells #[.int .i64 x1, .int .i64 x2, .int .i64 x3, .int .i64 x4, .int .i64 x5] 50)) 50 #[.int .i64 y1, .int .i64 y2, .int .i64 y3, .int .i64 y4, .int .i64 y5]
    rwa [show (w.alloc (.cells #[.int .i64 x1, .int .i64 x2, .int .i64 x3, .int .i64 x4, .int .i64 x5] 50)).heap.size = w.heap.size + 1 by simp] at this
  have b0 : Gw w _ := ((Gw.refl w).alloc (.cells #[.int .i64 x1, .int .i64 x2, .int .i64 x3, .int .i64 x4, .int .i64 x5] 50)).alloc (.cells #[.int .i64 y1, .int .i64 y2, .int .i64 y3, .int .i64 y4, .int .i64 y5] 50)
  go_enter Tryz.func76, Tryz.ntmps76
  go_wp2_with fail
  obtain ⟨w1, hw1⟩ : ∃ w1, (w.alloc (.cells #[.int .i64 x1, .int .i64 x2, .int .i64 x3, .int .i64 x4, .int .i64 x5] 50)).alloc (.cells #[.int .i64 y1, .int .i64 y2, .int .i64 y3, .int .i64 y4, .int .i64 y5] 50) = w1 := ⟨_, rfl⟩
  rw [hw1] at k1 k2 b0 ⊢
  clear hw1
  have s0 : (fun w' : World => w'.cell? ⟨w.heap.size, 0, none⟩ = some (.int .i64 x1) ∧ w'.cell? ⟨w.heap.size, 1, none⟩ = some (.int .i64 x2) ∧ w'.cell? ⟨w.heap.size, 2, none⟩ = some (.int .i64 x3) ∧ w'.cell? ⟨w.heap.size, 3, none⟩ = some (.int .i64 x4) ∧ w'.cell? ⟨w.heap.size, 4, none⟩ = some (.int .i64 x5) ∧ w'.cell? ⟨w.heap.size + 1, 0, none⟩ = some (.int .i64 y1) ∧ w'.cell? ⟨w.heap.size + 1, 1, none⟩ = some (.int .i64 y2) ∧ w'.cell? ⟨w.heap.size + 1, 2, none⟩ = some (.int .i64 y3) ∧ w'.cell? ⟨w.heap.size + 1, 3, none⟩ = some (.int .i64 y4) ∧ w'.cell? ⟨w.heap.size + 1, 4, none⟩ = some (.int .i64 y5)) w1.drew := ⟨k1.cell 0, k1.cell 1, k1.cell 2, k1.cell 3, k1.cell 4, k2.cell 0, k2.cell 1, k2.cell 2, k2.cell 3, k2.cell 4⟩
  have o1 := (k1.drewN 1).alloc (.cells #[.int .i64 c1, .int .i64 c2, .int .i64 c3, .int .i64 c4, .int .i64 c5] 3)
  have o2 := (k2.drewN 1).alloc (.cells #[.int .i64 c1, .int .i64 c2, .int .i64 c3, .int .i64 c4, .int .i64 c5] 3)
  have s1 : (fun w' : World => w'.cell? ⟨w.heap.size, 0, none⟩ = some (.int .i64 x1) ∧ w'.cell? ⟨w.heap.size, 1, none⟩ = some (.int .i64 x2) ∧ w'.cell? ⟨w.heap.size, 2, none⟩ = some (.int .i64 x3) ∧ w'.cell? ⟨w.heap.size, 3, none⟩ = some (.int .i64 x4) ∧ w'.cell? ⟨w.heap.size, 4, none⟩ = some (.int .i64 x5) ∧ w'.cell? ⟨w.heap.size + 1, 0, none⟩ = some (.int .i64 y1) ∧ w'.cell? ⟨w.heap.size + 1, 1, none⟩ = some (.int .i64 y2) ∧ w'.cell? ⟨w.heap.size + 1, 2, none⟩ = some (.int .i64 y3) ∧ w'.cell? ⟨w.heap.size + 1, 3, none⟩ = some (.int .i64 y4) ∧ w'.cell? ⟨w.heap.size + 1, 4, none⟩ = some (.int .i64 y5)) (w1.drew.alloc (.cells #[.int .i64 c1, .int .i64 c2, .int .i64 c3, .int .i64 c4, .int .i64 c5] 3)) := ⟨o1.cell 0, o1.cell 1, o1.cell 2, o1.cell 3, o1.cell 4, o2.cell 0, o2.cell 1, o2.cell 2, o2.cell 3, o2.cell 4⟩
  have o3 := Own.new w1.drew 3 #[.int .i64 c1, .int .i64 c2, .int .i64 c3, .int .i64 c4, .int .i64 c5]
  have hsz : w1.drew.heap.size = w1.heap.size := rfl
  rw [hsz] at o3
  have HO : Hid (∀ k, k < 5 → (w1.drew.alloc (.cells #[.int .i64 c1, .int .i64 c2, .int .i64 c3, .int .i64 c4, .int .i64 c5] 3)).cell? ⟨w1.heap.size, 0 + k, none⟩ = some (.int .i64 (X k))) := Lib.hid (fun k hk => by
    rw [o3.cell, HX.out]
    rcases (show k = 0 ∨ k = 1 ∨ k = 2 ∨ k = 3 ∨ k = 4 by omega) with rfl | rfl | rfl | rfl | rfl <;> rfl)
  have hb9 : Gw w _ := b0.drew.alloc (.cells #[.int .i64 c1, .int .i64 c2, .int .i64 c3, .int .i64 c4, .int .i64 c5] 3)
  clear o1 o2 o3 k1 k2
  go_region_held3 (fun w' => w'.cell? ⟨w.heap.size, 0, none⟩ = some (.int .i64 x1) ∧ w'.cell? ⟨w.heap.size, 1, none⟩ = some (.int .i64 x2) ∧ w'.cell? ⟨w.heap.size, 2, none⟩ = some (.int .i64 x3) ∧ w'.cell? ⟨w.heap.size, 3, none⟩ = some (.int .i64 x4) ∧ w'.cell? ⟨w.heap.size, 4, none⟩ = some (.int .i64 x5) ∧ w'.cell? ⟨w.heap.size + 1, 0, none⟩ = some (.int .i64 y1) ∧ w'.cell? ⟨w.heap.size + 1, 1, none⟩ = some (.int .i64 y2) ∧ w'.cell? ⟨w.heap.size + 1, 2, none⟩ = some (.int .i64 y3) ∧ w'.cell? ⟨w.heap.size + 1, 3, none⟩ = some (.int .i64 y4) ∧ w'.cell? ⟨w.heap.size + 1, 4, none⟩ = some (.int .i64 y5)) (first | exact s0 | exact s1) (first
    | (go_at_call 41; first | ((with_reducible refine (cmp_any x1 y1 _).mono ?_); rintro q5 w5 ⟨rfl, rfl⟩; rw [H1.out]) | ((with_reducible refine (cmp_any x2 y2 _).mono ?_); rintro q5 w5 ⟨rfl, rfl⟩; rw [H2.out]) | ((with_reducible refine (cmp_any x3 y3 _).mono ?_); rintro q5 w5 ⟨rfl, rfl⟩; rw [H3.out]) | ((with_reducible refine (cmp_any x4 y4 _).mono ?_); rintro q5 w5 ⟨rfl, rfl⟩; rw [H4.out]) | ((with_reducible refine (cmp_any x5 y5 _).mono ?_); rintro q5 w5 ⟨rfl, rfl⟩; rw [H5.out]))
    | (go_at_call 40; refine (or_any w1.heap.size X _ HO.out).mono ?_; rintro q5 w5 ⟨rfl, rfl⟩))
  all_goals
    go_wp2_with fail
    go_ret
    exact ⟨by rw [HD.out]; rfl, hb9⟩
theorem less_grow (x y : C) (w : World) :
    Calls Tryz.prog 51 #[.agg #[.int .i64 x.f, .int .i64 x.s, .int .i64 x.c, .int .i64 x.o, .int .i64 x.p], .agg #[.int .i64 y.f, .int .i64 y.s, .int .i64 y.c, .int .i64 y.o, .int .i64 y.p]] w fun r w' => r = .returned (.bool (decide (cf x y < 0))) ∧ Gw w w' := by
  have hcom := fun w => com_grow x y w
  obtain ⟨z, hz⟩ : ∃ z, cf x y = z := ⟨_, rfl⟩
  rw [hz]
  rw [hz] at hcom
  clear hz
  obtain ⟨x1, x2, x3, x4, x5⟩ := x
  obtain ⟨y1, y2, y3, y4, y5⟩ := y
  have b0 : Gw w _ := ((Gw.refl w).alloc (.cells #[.int .i64 x1, .int .i64 x2, .int .i64 x3, .int .i64 x4, .int .i64 x5] 50)).alloc (.cells #[.int .i64 y1, .int .i64 y2, .int .i64 y3, .int .i64 y4, .int .i64 y5] 50)
  go_enter Tryz.func51, Tryz.ntmps51
  go_wp2_with ((with_reducible refine (hcom _).mono ?_); rintro r w' ⟨rfl, b1⟩)
  go_ret
  exact ⟨rfl, b0.trans b1⟩
def encC (x : C) : List Value := [.int .i64 x.f, .int .i64 x.s, .int .i64 x.c, .int .i64 x.o, .int .i64 x.p]
def cfV (x y : C) : Int := if cf x y < 0 then -1 else if cf y x < 0 then 1 else 0
theorem ltV (x y : C) : ltOf cfV x y = decide (cf x y < 0) := by
  unfold ltOf cfV
  by_cases h : cf x y < 0
  · simp [h]
  · by_cases h2 : cf y x < 0 <;> simp [h, h2]
theorem swoV : SWO (ltOf cfV) where
  irrefl x := by
    rw [ltV, decide_eq_false_iff_not]
    exact fun h => cf_asym h h
  trans x y z h1 h2 := by
    rw [ltV, decide_eq_true_eq] at *
    exact cf_trans h1 h2
  ntrans x y z h1 h2 := by
    rw [ltV, decide_eq_false_iff_not] at *
    intro h
    by_cases h3 : cf y x < 0
    · exact h2 (cf_trans h3 h)
    · have := cf_total h1 h3
      subst this
      exact h2 h
theorem totV (x y : C) (h1 : ltOf cfV x y = false) (h2 : ltOf cfV y x = false) : x = y := by
  rw [ltV, decide_eq_false_iff_not] at h1 h2
  exact cf_total h1 h2
theorem infoE : (Tryz.prog.info? 50).map (fun i => (i.zero, i.size, i.bytes)) = some (some (.agg #[.int .i64 0, .int .i64 0, .int .i64 0, .int .i64 0, .int .i64 0]), 5, 40) := by kernel_rfl
theorem row_none {w : World} {A : Option Addr} {n : Nat} {V : Nat → Value} (h : Row w A (n * 5) V) (e : A = none) : n = 0 := by
  rcases Nat.eq_zero_or_pos n with h0 | h0
  · exact h0
  · obtain ⟨_, _, h1, _⟩ := h (by omega)
    rw [e] at h1
    cases h1
end Go.Proofs.YtahcplddonipcaaGreat.Ve
