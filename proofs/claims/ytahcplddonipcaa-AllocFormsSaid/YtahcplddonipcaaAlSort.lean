/-
  Package alloc (chapter 22): slices.SortFunc at cells with whose they are, by slotframe and slot.
-/
import Derived.Test.YtahcplddonipcaaCmpInt
import Derived.Test.YtahcplddonipcaaRowC
import Derived.Test.YtahcplddonipcaaOwn
import Derived.Shelf.SlSortCmp.NoneTotal
import Derived.Ground.SlsfProg
set_option maxRecDepth 100000
namespace Go.Proofs.Ytahcplddonipcaa.Al
set_option linter.unusedVariables false
open Go.RowKit Lb Cl Go.Sort Go.Shelf Go.Lib
def sortO_ren : Go.Shelf.Ren := ⟨fun | 6 => 18 | 15 => 25 | 14 => 24 | 28 => 35 | 29 => 36 | 20 => 27 | 21 => 28 | 22 => 29 | 23 => 30 | 24 => 31 | 25 => 32 | 26 => 33 | 27 => 34 | 46 => 37 | 47 => 38 | 48 => 39 | 49 => 40 | 50 => 41 | 57 => 42 | n => n, fun | 22 => 43 | 24 => 45 | 25 => 49 | 3 => 3 | 39 => 53 | 0 => 0 | 53 => 64 | 55 => 66 | 4 => 4 | 46 => 57 | 45 => 56 | 50 => 61 | 5 => 5 | 9 => 9 | 66 => 67 | 70 => 71 | 76 => 73 | 77 => 74 | n => n, fun | n => n⟩
theorem sortO : Go.Proofs.SlLaysF0.n6 Try.prog sortO_ren := {
  mixed := by kernel_rfl
  f6 := ⟨Try.f18.name, by decide, Try.func18.trans (congrArg some (by kernel_rfl))⟩
  f14 := ⟨Try.f24.name, by decide, Try.func24.trans (congrArg some (by kernel_rfl))⟩
  f15 := Try.func25.trans (congrArg some (by kernel_rfl))
  f20 := ⟨Try.f27.name, by decide, Try.func27.trans (congrArg some (by kernel_rfl))⟩
  f21 := ⟨Try.f28.name, by decide, Try.func28.trans (congrArg some (by kernel_rfl))⟩
  f22 := ⟨Try.f29.name, by decide, Try.func29.trans (congrArg some (by kernel_rfl))⟩
  f23 := ⟨Try.f30.name, by decide, Try.func30.trans (congrArg some (by kernel_rfl))⟩
  f24 := ⟨Try.f31.name, by decide, Try.func31.trans (congrArg some (by kernel_rfl))⟩
  f25 := ⟨Try.f32.name, by decide, Try.func32.trans (congrArg some (by kernel_rfl))⟩
  f26 := ⟨Try.f33.name, by decide, Try.func33.trans (congrArg some (by kernel_rfl))⟩
  f27 := ⟨Try.f34.name, by decide, Try.func34.trans (congrArg some (by kernel_rfl))⟩
  f28 := Try.func35.trans (congrArg some (by kernel_rfl))
  f29 := Try.func36.trans (congrArg some (by kernel_rfl))
  f46 := ⟨Try.f37.name, by decide, Try.func37.trans (congrArg some (by kernel_rfl))⟩
  f47 := Try.func38.trans (congrArg some (by kernel_rfl))
  f48 := Try.func39.trans (congrArg some (by kernel_rfl))
  f49 := ⟨Try.f40.name, by decide, Try.func40.trans (congrArg some (by kernel_rfl))⟩
  f50 := ⟨Try.f41.name, by decide, Try.func41.trans (congrArg some (by kernel_rfl))⟩
  f57 := ⟨Try.f42.name, by decide, Try.func42.trans (congrArg some (by kernel_rfl))⟩
  t0 := Try.underlying0
  a0 := Try.isAgg0
  z0 := Try.sizeOf0
  v0 := Try.zeroValue0
  t3 := Try.underlying3
  a3 := Try.isAgg3
  z3 := Try.sizeOf3
  v3 := Try.zeroValue3
  t4 := Try.underlying4
  a4 := Try.isAgg4
  z4 := Try.sizeOf4
  v4 := Try.zeroValue4
  t5 := Try.underlying5
  a5 := Try.isAgg5
  z5 := Try.sizeOf5
  v5 := Try.zeroValue5
  t9 := Try.underlying9
  a9 := Try.isAgg9
  z9 := Try.sizeOf9
  v9 := Try.zeroValue9
  t22 := Try.underlying43
  a22 := Try.isAgg43
  z22 := Try.sizeOf43
  v22 := Try.zeroValue43
  t25 := Try.underlying49
  a25 := Try.isAgg49
  z25 := Try.sizeOf49
  v25 := Try.zeroValue49
  t39 := Try.underlying53
  a39 := Try.isAgg53
  z39 := Try.sizeOf53
  v39 := Try.zeroValue53
  t45 := Try.underlying56
  a45 := Try.isAgg56
  z45 := Try.sizeOf56
  v45 := Try.zeroValue56
  t46 := Try.underlying57
  a46 := Try.isAgg57
  z46 := Try.sizeOf57
  v46 := Try.zeroValue57
  t50 := Try.underlying61
  a50 := Try.isAgg61
  z50 := Try.sizeOf61
  v50 := Try.zeroValue61
  t53 := Try.underlying64
  a53 := Try.isAgg64
  z53 := Try.sizeOf64
  v53 := Try.zeroValue64
  t55 := Try.underlying66
  a55 := Try.isAgg66
  z55 := Try.sizeOf66
  v55 := Try.zeroValue66
  t66 := Try.underlying67
  a66 := Try.isAgg67
  z66 := Try.sizeOf67
  v66 := Try.zeroValue67
  t70 := Try.underlying71
  a70 := Try.isAgg71
  z70 := Try.sizeOf71
  v70 := Try.zeroValue71
  t76 := Try.underlying73
  a76 := Try.isAgg73
  z76 := Try.sizeOf73
  v76 := Try.zeroValue73
  t77 := Try.underlying74
  a77 := Try.isAgg74
  z77 := Try.sizeOf74
  v77 := Try.zeroValue74 }
/-- A cell with whose it is. -/
structure Ow where
  c : C
  n : Int
instance : Inhabited Ow := ⟨⟨⟨0, 0, 0, 0, 0⟩, 0⟩⟩
def encO (x : Ow) : List Value := [.int .i64 x.c.f, .int .i64 x.c.s, .int .i64 x.c.c, .int .i64 x.c.o, .int .i64 x.c.p, .int .i64 x.n]
def cfO (x y : Ow) : Int := orI (cmpI x.c.f y.c.f) (cmpI x.c.s y.c.s)
set_option maxHeartbeats 2000000 in
theorem closure_any (x y : Ow) (w : World) :
    Calls Try.prog 19 #[.agg #[.int .i64 x.c.f, .int .i64 x.c.s, .int .i64 x.c.c, .int .i64 x.c.o, .int .i64 x.c.p, .int .i64 x.n], .agg #[.int .i64 y.c.f, .int .i64 y.c.s, .int .i64 y.c.c, .int .i64 y.c.o, .int .i64 y.c.p, .int .i64 y.n]] w fun r w' => r = .returned (.int .i64 (cfO x y)) ∧ ∃ q os', w' = grow (w.drewN q) os' := by
  obtain ⟨⟨xf, xs, xc, xo, xp⟩, xn⟩ := x
  obtain ⟨⟨yf, ys, yc, yo, yp⟩, yn⟩ := y
  obtain ⟨c1, hc1⟩ : ∃ c, cmpI xf yf = c := ⟨_, rfl⟩
  obtain ⟨c2, hc2⟩ : ∃ c, cmpI xs ys = c := ⟨_, rfl⟩
  have H1 := Lib.hid hc1
  have H2 := Lib.hid hc2
  have HD : Hid (cfO ⟨⟨xf, xs, xc, xo, xp⟩, xn⟩ ⟨⟨yf, ys, yc, yo, yp⟩, yn⟩ = orI c1 c2) := Lib.hid (by rw [← hc1, ← hc2]; rfl)
  clear hc1 hc2
  have k1 : Own ((w.alloc (.cells #[.int .i64 xf, .int .i64 xs, .int .i64 xc, .int .i64 xo, .int .i64 xp, .int .i64 xn] 45)).alloc (.cells #[.int .i64 yf, .int .i64 ys, .int .i64 yc, .int .i64 yo, .int .i64 yp, .int .i64 yn] 45)) w.heap.size 45 #[.int .i64 xf, .int .i64 xs, .int .i64 xc, .int .i64 xo, .int .i64 xp, .int .i64 xn] := (Own.new w _ _).alloc _
  have k2 : Own ((w.alloc (.cells #[.int .i64 xf, .int .i64 xs, .int .i64 xc, .int .i64 xo, .int .i64 xp, .int .i64 xn] 45)).alloc (.cells #[.int .i64 yf, .int .i64 ys, .int .i64 yc, .int .i64 yo, .int .i64 yp, .int .i64 yn] 45)) (w.heap.size + 1) 45 #[.int .i64 yf, .int .i64 ys, .int .i64 yc, .int .i64 yo, .int .i64 yp, .int .i64 yn] := by
    have := Own.new (w.alloc (.cells #[.int .i64 xf, .int .i64 xs, .int .i64 xc, .int .i64 xo, .int .i64 xp, .int .i64 xn] 45)) 45 #[.int .i64 yf, .int .i64 ys, .int .i64 yc, .int .i64 yo, .int .i64 yp, .int .i64 yn]
    rwa [show (w.alloc (.cells #[.int .i64 xf, .int .i64 xs, .int .i64 xc, .int .i64 xo, .int .i64 xp, .int .i64 xn] 45)).heap.size = w.heap.size + 1 by simp] at this
  have hg : (w.alloc (.cells #[.int .i64 xf, .int .i64 xs, .int .i64 xc, .int .i64 xo, .int .i64 xp, .int .i64 xn] 45)).alloc (.cells #[.int .i64 yf, .int .i64 ys, .int .i64 yc, .int .i64 yo, .int .i64 yp, .int .i64 yn] 45) = grow w (#[.cells #[.int .i64 xf, .int .i64 xs, .int .i64 xc, .int .i64 xo, .int .i64 xp, .int .i64 xn] 45] ++ #[.cells #[.int .i64 yf, .int .i64 ys, .int .i64 yc, .int .i64 yo, .int .i64 yp, .int .i64 yn] 45]) := by rw [alloc_eq_grow, alloc_eq_grow, grow_grow]
  obtain ⟨os1, hos⟩ : ∃ os1 : Array Obj, os1 = (#[.cells #[.int .i64 xf, .int .i64 xs, .int .i64 xc, .int .i64 xo, .int .i64 xp, .int .i64 xn] 45] ++ #[.cells #[.int .i64 yf, .int .i64 ys, .int .i64 yc, .int .i64 yo, .int .i64 yp, .int .i64 yn] 45]) := ⟨_, rfl⟩
  rw [← hos] at hg
  have HG := Lib.hid hg
  clear hg hos
  go_enter Try.func19, Try.ntmps19
  go_wp2_with fail
  obtain ⟨w1, hw1⟩ : ∃ w1, (w.alloc (.cells #[.int .i64 xf, .int .i64 xs, .int .i64 xc, .int .i64 xo, .int .i64 xp, .int .i64 xn] 45)).alloc (.cells #[.int .i64 yf, .int .i64 ys, .int .i64 yc, .int .i64 yo, .int .i64 yp, .int .i64 yn] 45) = w1 := ⟨_, rfl⟩
  rw [hw1] at k1 k2 HG ⊢
  clear hw1
  have s0 : (fun w' : World => w'.cell? ⟨w.heap.size, 0, none⟩ = some (.int .i64 xf) ∧ w'.cell? ⟨w.heap.size, 1, none⟩ = some (.int .i64 xs) ∧ w'.cell? ⟨w.heap.size + 1, 0, none⟩ = some (.int .i64 yf) ∧ w'.cell? ⟨w.heap.size + 1, 1, none⟩ = some (.int .i64 ys)) w1.drew := ⟨k1.cell 0, k1.cell 1, k2.cell 0, k2.cell 1⟩
  have o1 := (k1.drewN 1).alloc (.cells #[.int .i64 c1, .int .i64 c2] 3)
  have o2 := (k2.drewN 1).alloc (.cells #[.int .i64 c1, .int .i64 c2] 3)
  have s1 : (fun w' : World => w'.cell? ⟨w.heap.size, 0, none⟩ = some (.int .i64 xf) ∧ w'.cell? ⟨w.heap.size, 1, none⟩ = some (.int .i64 xs) ∧ w'.cell? ⟨w.heap.size + 1, 0, none⟩ = some (.int .i64 yf) ∧ w'.cell? ⟨w.heap.size + 1, 1, none⟩ = some (.int .i64 ys)) (w1.drew.alloc (.cells #[.int .i64 c1, .int .i64 c2] 3)) := ⟨o1.cell 0, o1.cell 1, o2.cell 0, o2.cell 1⟩
  have o3 := Own.new w1.drew 3 #[.int .i64 c1, .int .i64 c2]
  have hsz : w1.drew.heap.size = w1.heap.size := rfl
  go_region_held3 (fun w' => w'.cell? ⟨w.heap.size, 0, none⟩ = some (.int .i64 xf) ∧ w'.cell? ⟨w.heap.size, 1, none⟩ = some (.int .i64 xs) ∧ w'.cell? ⟨w.heap.size + 1, 0, none⟩ = some (.int .i64 yf) ∧ w'.cell? ⟨w.heap.size + 1, 1, none⟩ = some (.int .i64 ys)) (first | exact s0 | exact s1) (first
    | (go_at_call 21; first | ((with_reducible refine (compare_any xf yf _).mono ?_); rintro q5 w5 ⟨rfl, rfl⟩; rw [H1.out]) | ((with_reducible refine (compare_any xs ys _).mono ?_); rintro q5 w5 ⟨rfl, rfl⟩; rw [H2.out]))
    | (go_at_call 20; refine (or_two w1.heap.size c1 c2 _ (o3.cell 0) (o3.cell 1)).mono ?_; rintro q5 w5 ⟨rfl, rfl⟩))
  all_goals
    go_wp2_with fail
    go_ret
    exact ⟨by rw [HD.out]; rfl, 1, os1 ++ #[.cells #[.int .i64 c1, .int .i64 c2] 3], by rw [HG.out, alloc_eq_grow, grow_grow, drew_grow]; rfl⟩
theorem ltO (x y : Ow) : ltOf cfO x y = decide (x.c.f < y.c.f ∨ (x.c.f = y.c.f ∧ x.c.s < y.c.s)) := by
  unfold ltOf cfO orI cmpI
  by_cases h1 : x.c.f < y.c.f
  · simp [h1]
  · by_cases h2 : y.c.f < x.c.f
    · have : ¬ x.c.f = y.c.f := by omega
      simp [h1, h2, this]
    · have h3 : x.c.f = y.c.f := by omega
      by_cases h4 : x.c.s < y.c.s
      · simp [h3, h4]
      · by_cases h5 : y.c.s < x.c.s <;> simp [h3, h4, h5]
theorem swoO : SWO (ltOf cfO) where
  irrefl x := by rw [ltO]; simp
  trans x y z h1 h2 := by rw [ltO] at *; simp at *; omega
  ntrans x y z h1 h2 := by rw [ltO] at *; simp at *; omega
theorem just_sort {α : Type} [Inhabited α] (enc : α → List Value) (k : Nat) (w : World) (blk off n : Nat) (dk : Array α) (os : Array Obj) : Just blk w (sortWorldK enc k w blk off n dk os) := by
  refine ⟨rfl, rfl, rfl, size_sortWorldK_c enc k w blk off n dk os, fun b hb hne => ?_⟩
  show ((w.heap.modify blk (onCells (putCells id off (flatK enc k dk)))) ++ os)[b]? = w.heap[b]?
  rw [Array.getElem?_append_left (by simpa using hb)]
  rw [Array.getElem?_modify, if_neg (fun e => hne e.symm)]
theorem sort_any (blk cap : Nat) (d : Array Ow) (w : World) (hH : HoldsK encO 6 w blk 0 d) (hblk : blk < w.heap.size) (hsz : d.size < 4611686018427387904) :
    Calls Try.prog 18 #[.slice (some ⟨blk, 0, none⟩) d.size cap, .func (.func 19) #[] #[]] w fun e w' =>
      e = .returned (.tuple #[]) ∧ ∃ d' : Array Ow, PermIn 0 d.size d d' ∧ SortedIn (ltOf cfO) 0 d.size d' ∧ HoldsK encO 6 w' blk 0 d' ∧ Just blk w w' := by
  have eg : ∀ args w, (callFunc 19 args).run Try.prog w = .ok (.enter 19 args) w := enters_of Try.func19 (by kernel_rfl) rfl
  have hcmp : CmpLays Try.prog 19 #[] encO 6 cfO blk 0 d.size w := fun m os dk _ x y => closure_any x y _
  have hcon := AnyQ.slices_SortFunc sortO 6 (fun w => by kernel_rfl) (fun w => by kernel_rfl) encO (fun _ => rfl) (fun x v hv => by simp [encO] at hv; rcases hv with rfl | rfl | rfl | rfl | rfl | rfl <;> rfl) cfO swoO 19 #[] blk 0 cap d w eg hcmp hH hblk hsz
  refine hcon.mono fun e w' ⟨he, d', n, os, hp, hs, hw⟩ => ⟨he, d', hp, hs, ?_, ?_⟩
  · rw [hw]
    exact holdsK_sortWorldK encO 6 w blk 0 n d _ os hblk hH hp.1
  · rw [hw]
    exact just_sort encO 6 w blk 0 n _ os
theorem sort_none (cap : Nat) (p : Option Addr) (fv : Value) (w : World) : Calls Try.prog 18 #[.slice p 0 cap, fv] w fun e w' => e = .returned (.tuple #[]) ∧ w' = w := AnyF.slices_SortFunc_none sortO p cap fv w
end Go.Proofs.Ytahcplddonipcaa.Al
