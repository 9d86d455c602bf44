/-
  Package alloc (chapter 22): slices.SortFunc at cells with whose they are, by slotframe and slot.
-/
import Derived.Test.YtahcplddonipcaaGreatCmpInt
import Derived.Test.YtahcplddonipcaaGreatRowC
import Derived.Test.YtahcplddonipcaaGreatOwn
import Derived.Shelf.SlSortCmp.NoneTotal
import Derived.Ground.SlsfProg
set_option maxRecDepth 100000
namespace Go.Proofs.YtahcplddonipcaaGreat.Al
set_option linter.unusedVariables false
set_option linter.unusedSimpArgs false
open Go.RowKit Lb Cl Go.Sort Go.Shelf Go.Lib
def sortO_ren : Go.Shelf.Ren := ⟨fun | 6 => 38 | 15 => 50 | 14 => 62 | 28 => 74 | 29 => 75 | 20 => 88 | 21 => 89 | 22 => 90 | 23 => 91 | 24 => 92 | 25 => 93 | 26 => 94 | 27 => 95 | 46 => 116 | 47 => 99 | 48 => 100 | 49 => 117 | 50 => 118 | 57 => 125 | n => n, fun | 22 => 90 | 24 => 93 | 25 => 97 | 3 => 3 | 39 => 108 | 0 => 0 | 53 => 124 | 55 => 46 | 4 => 4 | 46 => 117 | 45 => 116 | 50 => 121 | 5 => 5 | 9 => 9 | 66 => 139 | 70 => 143 | 76 => 153 | 77 => 154 | n => n, fun | n => n⟩
theorem sortO : Go.Proofs.SlLaysF0.n6 Tryz.prog sortO_ren := {
  mixed := by kernel_rfl
  f6 := ⟨Tryz.f38.name, by decide, Tryz.func38.trans (congrArg some (by kernel_rfl))⟩
  f14 := ⟨Tryz.f62.name, by decide, Tryz.func62.trans (congrArg some (by kernel_rfl))⟩
  f15 := Tryz.func50.trans (congrArg some (by kernel_rfl))
  f20 := ⟨Tryz.f88.name, by decide, Tryz.func88.trans (congrArg some (by kernel_rfl))⟩
  f21 := ⟨Tryz.f89.name, by decide, Tryz.func89.trans (congrArg some (by kernel_rfl))⟩
  f22 := ⟨Tryz.f90.name, by decide, Tryz.func90.trans (congrArg some (by kernel_rfl))⟩
  f23 := ⟨Tryz.f91.name, by decide, Tryz.func91.trans (congrArg some (by kernel_rfl))⟩
  f24 := ⟨Tryz.f92.name, by decide, Tryz.func92.trans (congrArg some (by kernel_rfl))⟩
  f25 := ⟨Tryz.f93.name, by decide, Tryz.func93.trans (congrArg some (by kernel_rfl))⟩
  f26 := ⟨Tryz.f94.name, by decide, Tryz.func94.trans (congrArg some (by kernel_rfl))⟩
  f27 := ⟨Tryz.f95.name, by decide, Tryz.func95.trans (congrArg some (by kernel_rfl))⟩
  f28 := Tryz.func74.trans (congrArg some (by kernel_rfl))
  f29 := Tryz.func75.trans (congrArg some (by kernel_rfl))
  f46 := ⟨Tryz.f116.name, by decide, Tryz.func116.trans (congrArg some (by kernel_rfl))⟩
  f47 := Tryz.func99.trans (congrArg some (by kernel_rfl))
  f48 := Tryz.func100.trans (congrArg some (by kernel_rfl))
  f49 := ⟨Tryz.f117.name, by decide, Tryz.func117.trans (congrArg some (by kernel_rfl))⟩
  f50 := ⟨Tryz.f118.name, by decide, Tryz.func118.trans (congrArg some (by kernel_rfl))⟩
  f57 := ⟨Tryz.f125.name, by decide, Tryz.func125.trans (congrArg some (by kernel_rfl))⟩
  t0 := Tryz.underlying0
  a0 := Tryz.isAgg0
  z0 := Tryz.sizeOf0
  v0 := Tryz.zeroValue0
  t3 := Tryz.underlying3
  a3 := Tryz.isAgg3
  z3 := Tryz.sizeOf3
  v3 := Tryz.zeroValue3
  t4 := Tryz.underlying4
  a4 := Tryz.isAgg4
  z4 := Tryz.sizeOf4
  v4 := Tryz.zeroValue4
  t5 := Tryz.underlying5
  a5 := Tryz.isAgg5
  z5 := Tryz.sizeOf5
  v5 := Tryz.zeroValue5
  t9 := Tryz.underlying9
  a9 := Tryz.isAgg9
  z9 := Tryz.sizeOf9
  v9 := Tryz.zeroValue9
  t22 := Tryz.underlying90
  a22 := Tryz.isAgg90
  z22 := Tryz.sizeOf90
  v22 := Tryz.zeroValue90
  t25 := Tryz.underlying97
  a25 := Tryz.isAgg97
  z25 := Tryz.sizeOf97
  v25 := Tryz.zeroValue97
  t39 := Tryz.underlying108
  a39 := Tryz.isAgg108
  z39 := Tryz.sizeOf108
  v39 := Tryz.zeroValue108
  t45 := Tryz.underlying116
  a45 := Tryz.isAgg116
  z45 := Tryz.sizeOf116
  v45 := Tryz.zeroValue116
  t46 := Tryz.underlying117
  a46 := Tryz.isAgg117
  z46 := Tryz.sizeOf117
  v46 := Tryz.zeroValue117
  t50 := Tryz.underlying121
  a50 := Tryz.isAgg121
  z50 := Tryz.sizeOf121
  v50 := Tryz.zeroValue121
  t53 := Tryz.underlying124
  a53 := Tryz.isAgg124
  z53 := Tryz.sizeOf124
  v53 := Tryz.zeroValue124
  t55 := Tryz.underlying46
  a55 := Tryz.isAgg46
  z55 := Tryz.sizeOf46
  v55 := Tryz.zeroValue46
  t66 := Tryz.underlying139
  a66 := Tryz.isAgg139
  z66 := Tryz.sizeOf139
  v66 := Tryz.zeroValue139
  t70 := Tryz.underlying143
  a70 := Tryz.isAgg143
  z70 := Tryz.sizeOf143
  v70 := Tryz.zeroValue143
  t76 := Tryz.underlying153
  a76 := Tryz.isAgg153
  z76 := Tryz.sizeOf153
  v76 := Tryz.zeroValue153
  t77 := Tryz.underlying154
  a77 := Tryz.isAgg154
  z77 := Tryz.sizeOf154
  v77 := Tryz.zeroValue154 }
/-- A cell with whose it is. -/
structure Ow where
  c : C
  n : Int
instance : Inhabited Ow := ⟨⟨⟨0, 0, 0, 0, 0⟩, 0⟩⟩
def encO (x : Ow) : List Value := [.int .i64 x.c.f, .int .i64 x.c.s, .int .i64 x.c.c, .int .i64 x.c.o, .int .i64 x.c.p, .int .i64 x.n]
def cfO (x y : Ow) : Int := orI (cmpI x.c.f y.c.f) (cmpI x.c.s y.c.s)
set_option maxHeartbeats 2000000 in
theorem closure_any (x y : Ow) (w : World) :
    Calls Tryz.prog 39 #[.agg #[.int .i64 x.c.f, .int .i64 x.c.s, .int .i64 x.c.c, .int .i64 x.c.o, .int .i64 x.c.p, .int .i64 x.n], .agg #[.int .i64 y.c.f, .int .i64 y.c.s, .int .i64 y.c.c, .int .i64 y.c.o, .int .i64 y.c.p, .int .i64 y.n]] w fun r w' => r = .returned (.int .i64 (cfO x y)) ∧ ∃ q os', w' = grow (w.drewN q) os' := by
  obtain ⟨⟨xf, xs, xc, xo, xp⟩, xn⟩ := x
  obtain ⟨⟨yf, ys, yc, yo, yp⟩, yn⟩ := y
  obtain ⟨c1, hc1⟩ : ∃ c, cmpI xf yf = c := ⟨_, rfl⟩
  obtain ⟨c2, hc2⟩ : ∃ c, cmpI xs ys = c := ⟨_, rfl⟩
  have H1 := Lib.hid hc1
  have H2 := Lib.hid hc2
  have HD : Hid (cfO ⟨⟨xf, xs, xc, xo, xp⟩, xn⟩ ⟨⟨yf, ys, yc, yo, yp⟩, yn⟩ = orI c1 c2) := Lib.hid (by rw [← hc1, ← hc2]; rfl)
  clear hc1 hc2
  have k1 : Own ((w.alloc (.cells #[.int .i64 xf, .int .i64 xs, .int .i64 xc, .int .i64 xo, .int .i64 xp, .int .i64 xn] 93)).alloc (.cells #[.int .i64 yf, .int .i64 ys, .int .i64 yc, .int .i64 yo, .int .i64 yp, .int .i64 yn] 93)) w.heap.size 93 #[.int .i64 xf, .int .i64 xs, .int .i64 xc, .int .i64 xo, .int .i64 xp, .int .i64 xn] := (Own.new w _ _).alloc _
  have k2 : Own ((w.alloc (.cells #[.int .i64 xf, .int .i64 xs, .int .i64 xc, .int .i64 xo, .int .i64 xp, .int .i64 xn] 93)).alloc (.cells #[.int .i64 yf, .int .i64 ys, .int .i64 yc, .int .i64 yo, .int .i64 yp, .int .i64 yn] 93)) (w.heap.size + 1) 93 #[.int .i64 yf, .int .i64 ys, .int .i64 yc, .int .i64 yo, .int .i64 yp, .int .i64 yn] := by
    have := Own.new (w.alloc (.cells #[.int .i64 xf, .int .i64 xs, .int .i64 xc, .int .i64 xo, .int .i64 xp, .int .i64 xn] 93)) 93 #[.int .i64 yf, .int .i64 ys, .int .i64 yc, .int .i64 yo, .int .i64 yp, .int .i64 yn]
    rwa [show (w.alloc (.cells #[.int .i64 xf, .int .i64 xs, .int .i64 xc, .int .i64 xo, .int .i64 xp, .int .i64 xn] 93)).heap.size = w.heap.size + 1 by simp] at this
  have hg : (w.alloc (.cells #[.int .i64 xf, .int .i64 xs, .int .i64 xc, .int .i64 xo, .int .i64 xp, .int .i64 xn] 93)).alloc (.cells #[.int .i64 yf, .int .i64 ys, .int .i64 yc, .int .i64 yo, .int .i64 yp, .int .i64 yn] 93) = grow w (#[.cells #[.int .i64 xf, .int .i64 xs, .int .i64 xc, .int .i64 xo, .int .i64 xp, .int .i64 xn] 93] ++ #[.cells #[.int .i64 yf, .int .i64 ys, .int .i64 yc, .int .i64 yo, .int .i64 yp, .int .i64 yn] 93]) := by rw [alloc_eq_grow, alloc_eq_grow, grow_grow]
  obtain ⟨os1, hos⟩ : ∃ os1 : Array Obj, os1 = (#[.cells #[.int .i64 xf, .int .i64 xs, .int .i64 xc, .int .i64 xo, .int .i64 xp, .int .i64 xn] 93] ++ #[.cells #[.int .i64 yf, .int .i64 ys, .int .i64 yc, .int .i64 yo, .int .i64 yp, .int .i64 yn] 93]) := ⟨_, rfl⟩
  rw [← hos] at hg
  have HG := Lib.hid hg
  clear hg hos
  go_enter Tryz.func39, Tryz.ntmps39
  go_wp2_with fail
  obtain ⟨w1, hw1⟩ : ∃ w1, (w.alloc (.cells #[.int .i64 xf, .int .i64 xs, .int .i64 xc, .int .i64 xo, .int .i64 xp, .int .i64 xn] 93)).alloc (.cells #[.int .i64 yf, .int .i64 ys, .int .i64 yc, .int .i64 yo, .int .i64 yp, .int .i64 yn] 93) = w1 := ⟨_, rfl⟩
  rw [hw1] at k1 k2 HG ⊢
  clear hw1
  have s0 : (fun w' : World => w'.cell? ⟨w.heap.size, 0, none⟩ = some (.int .i64 xf) ∧ w'.cell? ⟨w.heap.size, 1, none⟩ = some (.int .i64 xs) ∧ w'.cell? ⟨w.heap.size + 1, 0, none⟩ = some (.int .i64 yf) ∧ w'.cell? ⟨w.heap.size + 1, 1, none⟩ = some (.int .i64 ys)) w1.drew := ⟨k1.cell 0, k1.cell 1, k2.cell 0, k2.cell 1⟩
  have o1 := (k1.drewN 1).alloc (.cells #[.int .i64 c1, .int .i64 c2] 3)
  have o2 := (k2.drewN 1).alloc (.cells #[.int .i64 c1, .int .i64 c2] 3)
  have s1 : (fun w' : World => w'.cell? ⟨w.heap.size, 0, none⟩ = some (.int .i64 xf) ∧ w'.cell? ⟨w.heap.size, 1, none⟩ = some (.int .i64 xs) ∧ w'.cell? ⟨w.heap.size + 1, 0, none⟩ = some (.int .i64 yf) ∧ w'.cell? ⟨w.heap.size + 1, 1, none⟩ = some (.int .i64 ys)) (w1.drew.alloc (.cells #[.int .i64 c1, .int .i64 c2] 3)) := ⟨o1.cell 0, o1.cell 1, o2.cell 0, o2.cell 1⟩
  have o3 := Own.new w1.drew 3 #[.int .i64 c1, .int .i64 c2]
  have hsz : w1.drew.heap.size = w1.heap.size := rfl
  go_region_held3 (fun w' => w'.cell? ⟨w.heap.size, 0, none⟩ = some (.int .i64 xf) ∧ w'.cell? ⟨w.heap.size, 1, none⟩ = some (.int .i64 xs) ∧ w'.cell? ⟨w.heap.size + 1, 0, none⟩ = some (.int .i64 yf) ∧ w'.cell? ⟨w.heap.size + 1, 1, none⟩ = some (.int .i64 ys)) (first | exact s0 | exact s1) (first
    | (go_at_call 41; first | ((with_reducible refine (compare_any xf yf _).mono ?_); rintro q5 w5 ⟨rfl, rfl⟩; rw [H1.out]) | ((with_reducible refine (compare_any xs ys _).mono ?_); rintro q5 w5 ⟨rfl, rfl⟩; rw [H2.out]))
    | (go_at_call 40; refine (or_two w1.heap.size c1 c2 _ (o3.cell 0) (o3.cell 1)).mono ?_; rintro q5 w5 ⟨rfl, rfl⟩))
  all_goals
    go_wp2_with fail
    go_ret
    exact ⟨by rw [HD.out]; rfl, 1, os1 ++ #[.cells #[.int .i64 c1, .int .i64 c2] 3], by rw [HG.out, alloc_eq_grow, grow_grow, drew_grow]; rfl⟩
theorem ltO (x y : Ow) : ltOf cfO x y = decide (x.c.f < y.c.f ∨ (x.c.f = y.c.f ∧ x.c.s < y.c.s)) := by
  unfold ltOf cfO orI cmpI
  by_cases h1 : x.c.f < y.c.f
  · simp [h1]
  · by_cases h2 : y.c.f < x.c.f
    · have : ¬ x.c.f = y.c.f := by omega
      simp [h1, h2, this]
    · have h3 : x.c.f = y.c.f := by omega
      by_cases h4 : x.c.s < y.c.s
      · simp [h3, h4]
      · by_cases h5 : y.c.s < x.c.s <;> simp [h3, h4, h5]
theorem swoO : SWO (ltOf cfO) where
  irrefl x := by rw [ltO]; simp
  trans x y z h1 h2 := by rw [ltO] at *; simp at *; omega
  ntrans x y z h1 h2 := by rw [ltO] at *; simp at *; omega
theorem just_sort {α : Type} [Inhabited α] (enc : α → List Value) (k : Nat) (w : World) (blk off n : Nat) (dk : Array α) (os : Array Obj) : Just blk w (sortWorldK enc k w blk off n dk os) := by
  refine ⟨rfl, rfl, rfl, size_sortWorldK_c enc k w blk off n dk os, fun b hb hne => ?_⟩
  show ((w.heap.modify blk (onCells (putCells id off (flatK enc k dk)))) ++ os)[b]? = w.heap[b]?
  rw [Array.getElem?_append_left (by simpa using hb)]
  rw [Array.getElem?_modify, if_neg (fun e => hne e.symm)]
theorem sort_any (blk cap : Nat) (d : Array Ow) (w : World) (hH : HoldsK encO 6 w blk 0 d) (hblk : blk < w.heap.size) (hsz : d.size < 4611686018427387904) :
    Calls Tryz.prog 38 #[.slice (some ⟨blk, 0, none⟩) d.size cap, .func (.func 39) #[] #[]] w fun e w' =>
      e = .returned (.tuple #[]) ∧ ∃ d' : Array Ow, PermIn 0 d.size d d' ∧ SortedIn (ltOf cfO) 0 d.size d' ∧ HoldsK encO 6 w' blk 0 d' ∧ Just blk w w' := by
  have eg : ∀ args w, (callFunc 39 args).run Tryz.prog w = .ok (.enter 39 args) w := enters_of Tryz.func39 (by kernel_rfl) rfl
  have hcmp : CmpLays Tryz.prog 39 #[] encO 6 cfO blk 0 d.size w := fun m os dk _ x y => closure_any x y _
  have hcon := AnyQ.slices_SortFunc sortO 6 (fun w => by kernel_rfl) (fun w => by kernel_rfl) encO (fun _ => rfl) (fun x v hv => by simp [encO] at hv; rcases hv with rfl | rfl | rfl | rfl | rfl | rfl <;> rfl) cfO swoO 39 #[] blk 0 cap d w eg hcmp hH hblk hsz
  refine hcon.mono fun e w' ⟨he, d', n, os, hp, hs, hw⟩ => ⟨he, d', hp, hs, ?_, ?_⟩
  · rw [hw]
    exact holdsK_sortWorldK encO 6 w blk 0 n d _ os hblk hH hp.1
  · rw [hw]
    exact just_sort encO 6 w blk 0 n _ os
theorem sort_none (cap : Nat) (p : Option Addr) (fv : Value) (w : World) : Calls Tryz.prog 38 #[.slice p 0 cap, fv] w fun e w' => e = .returned (.tuple #[]) ∧ w' = w := AnyF.slices_SortFunc_none sortO p cap fv w
end Go.Proofs.YtahcplddonipcaaGreat.Al
