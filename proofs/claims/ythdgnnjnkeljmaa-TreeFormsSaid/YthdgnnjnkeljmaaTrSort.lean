/-
  Package tree (chapter 21): the closures of its sorts; slices.SortFunc and slices.SortStableFunc at nodes.
-/
import Derived.Test.YthdgnnjnkeljmaaTrWalks
import Derived.Test.YthdgnnjnkeljmaaCmpInt
import Derived.Shelf.SlSortCmp.Whole1
import Derived.Shelf.SlSortCmp.NoneTotal
import Derived.Ground.SlsfProg
set_option maxRecDepth 100000
namespace Go.Proofs.Ythdgnnjnkeljmaa.Tr
set_option linter.unusedVariables false
open Go.RowKit Lb Tp Go.Sort Go.Shelf Go.Lib

def sortI_ren : Go.Shelf.Ren := ⟨fun | 6 => 43 | 15 => 50 | 14 => 49 | 28 => 60 | 29 => 61 | 20 => 51 | 21 => 53 | 22 => 54 | 23 => 55 | 24 => 56 | 25 => 57 | 26 => 58 | 27 => 59 | 46 => 63 | 47 => 64 | 48 => 65 | 49 => 66 | 50 => 67 | 57 => 69 | n => n, fun | 22 => 33 | 24 => 3 | 25 => 42 | 3 => 3 | 39 => 78 | 0 => 0 | 53 => 87 | 55 => 89 | 4 => 4 | 46 => 81 | 45 => 80 | 50 => 35 | 5 => 5 | 9 => 9 | 66 => 90 | 70 => 94 | 76 => 96 | 77 => 97 | n => n, fun | n => n⟩
theorem sortI : Go.Proofs.SlLaysF.n6 Try.prog sortI_ren := {
  mixed := by kernel_rfl
  f6 := ⟨Try.f43.name, by decide, Try.func43.trans (congrArg some (by kernel_rfl))⟩
  f14 := ⟨Try.f49.name, by decide, Try.func49.trans (congrArg some (by kernel_rfl))⟩
  f15 := Try.func50.trans (congrArg some (by kernel_rfl))
  f20 := ⟨Try.f51.name, by decide, Try.func51.trans (congrArg some (by kernel_rfl))⟩
  f21 := ⟨Try.f53.name, by decide, Try.func53.trans (congrArg some (by kernel_rfl))⟩
  f22 := ⟨Try.f54.name, by decide, Try.func54.trans (congrArg some (by kernel_rfl))⟩
  f23 := ⟨Try.f55.name, by decide, Try.func55.trans (congrArg some (by kernel_rfl))⟩
  f24 := ⟨Try.f56.name, by decide, Try.func56.trans (congrArg some (by kernel_rfl))⟩
  f25 := ⟨Try.f57.name, by decide, Try.func57.trans (congrArg some (by kernel_rfl))⟩
  f26 := ⟨Try.f58.name, by decide, Try.func58.trans (congrArg some (by kernel_rfl))⟩
  f27 := ⟨Try.f59.name, by decide, Try.func59.trans (congrArg some (by kernel_rfl))⟩
  f28 := Try.func60.trans (congrArg some (by kernel_rfl))
  f29 := Try.func61.trans (congrArg some (by kernel_rfl))
  f46 := ⟨Try.f63.name, by decide, Try.func63.trans (congrArg some (by kernel_rfl))⟩
  f47 := Try.func64.trans (congrArg some (by kernel_rfl))
  f48 := Try.func65.trans (congrArg some (by kernel_rfl))
  f49 := ⟨Try.f66.name, by decide, Try.func66.trans (congrArg some (by kernel_rfl))⟩
  f50 := ⟨Try.f67.name, by decide, Try.func67.trans (congrArg some (by kernel_rfl))⟩
  f57 := ⟨Try.f69.name, by decide, Try.func69.trans (congrArg some (by kernel_rfl))⟩
  t0 := Try.underlying0
  a0 := Try.isAgg0
  z0 := Try.sizeOf0
  v0 := Try.zeroValue0
  t3 := Try.underlying3
  a3 := Try.isAgg3
  z3 := Try.sizeOf3
  v3 := Try.zeroValue3
  t4 := Try.underlying4
  a4 := Try.isAgg4
  z4 := Try.sizeOf4
  v4 := Try.zeroValue4
  t5 := Try.underlying5
  a5 := Try.isAgg5
  z5 := Try.sizeOf5
  v5 := Try.zeroValue5
  t9 := Try.underlying9
  a9 := Try.isAgg9
  z9 := Try.sizeOf9
  v9 := Try.zeroValue9
  t22 := Try.underlying33
  a22 := Try.isAgg33
  z22 := Try.sizeOf33
  v22 := Try.zeroValue33
  a24 := Try.isAgg3
  z24 := Try.sizeOf3
  t25 := Try.underlying42
  a25 := Try.isAgg42
  z25 := Try.sizeOf42
  v25 := Try.zeroValue42
  t39 := Try.underlying78
  a39 := Try.isAgg78
  z39 := Try.sizeOf78
  v39 := Try.zeroValue78
  t45 := Try.underlying80
  a45 := Try.isAgg80
  z45 := Try.sizeOf80
  v45 := Try.zeroValue80
  t46 := Try.underlying81
  a46 := Try.isAgg81
  z46 := Try.sizeOf81
  v46 := Try.zeroValue81
  t50 := Try.underlying35
  a50 := Try.isAgg35
  z50 := Try.sizeOf35
  v50 := Try.zeroValue35
  t53 := Try.underlying87
  a53 := Try.isAgg87
  z53 := Try.sizeOf87
  v53 := Try.zeroValue87
  t55 := Try.underlying89
  a55 := Try.isAgg89
  z55 := Try.sizeOf89
  v55 := Try.zeroValue89
  t66 := Try.underlying90
  a66 := Try.isAgg90
  z66 := Try.sizeOf90
  v66 := Try.zeroValue90
  t70 := Try.underlying94
  a70 := Try.isAgg94
  z70 := Try.sizeOf94
  v70 := Try.zeroValue94
  t76 := Try.underlying96
  a76 := Try.isAgg96
  z76 := Try.sizeOf96
  v76 := Try.zeroValue96
  t77 := Try.underlying97
  a77 := Try.isAgg97
  z77 := Try.sizeOf97
  v77 := Try.zeroValue97 }
def sortI0_ren : Go.Shelf.Ren := ⟨fun | 6 => 43 | 15 => 50 | 14 => 49 | 28 => 60 | 29 => 61 | 20 => 51 | 21 => 53 | 22 => 54 | 23 => 55 | 24 => 56 | 25 => 57 | 26 => 58 | 27 => 59 | 46 => 63 | 47 => 64 | 48 => 65 | 49 => 66 | 50 => 67 | 57 => 69 | n => n, fun | 22 => 33 | 24 => 3 | 25 => 42 | 3 => 3 | 39 => 78 | 0 => 0 | 53 => 87 | 55 => 89 | 4 => 4 | 46 => 81 | 45 => 80 | 50 => 35 | 5 => 5 | 9 => 9 | 66 => 90 | 70 => 94 | 76 => 96 | 77 => 97 | n => n, fun | n => n⟩
theorem sortI0 : Go.Proofs.SlLaysF0.n6 Try.prog sortI0_ren := {
  mixed := by kernel_rfl
  f6 := ⟨Try.f43.name, by decide, Try.func43.trans (congrArg some (by kernel_rfl))⟩
  f14 := ⟨Try.f49.name, by decide, Try.func49.trans (congrArg some (by kernel_rfl))⟩
  f15 := Try.func50.trans (congrArg some (by kernel_rfl))
  f20 := ⟨Try.f51.name, by decide, Try.func51.trans (congrArg some (by kernel_rfl))⟩
  f21 := ⟨Try.f53.name, by decide, Try.func53.trans (congrArg some (by kernel_rfl))⟩
  f22 := ⟨Try.f54.name, by decide, Try.func54.trans (congrArg some (by kernel_rfl))⟩
  f23 := ⟨Try.f55.name, by decide, Try.func55.trans (congrArg some (by kernel_rfl))⟩
  f24 := ⟨Try.f56.name, by decide, Try.func56.trans (congrArg some (by kernel_rfl))⟩
  f25 := ⟨Try.f57.name, by decide, Try.func57.trans (congrArg some (by kernel_rfl))⟩
  f26 := ⟨Try.f58.name, by decide, Try.func58.trans (congrArg some (by kernel_rfl))⟩
  f27 := ⟨Try.f59.name, by decide, Try.func59.trans (congrArg some (by kernel_rfl))⟩
  f28 := Try.func60.trans (congrArg some (by kernel_rfl))
  f29 := Try.func61.trans (congrArg some (by kernel_rfl))
  f46 := ⟨Try.f63.name, by decide, Try.func63.trans (congrArg some (by kernel_rfl))⟩
  f47 := Try.func64.trans (congrArg some (by kernel_rfl))
  f48 := Try.func65.trans (congrArg some (by kernel_rfl))
  f49 := ⟨Try.f66.name, by decide, Try.func66.trans (congrArg some (by kernel_rfl))⟩
  f50 := ⟨Try.f67.name, by decide, Try.func67.trans (congrArg some (by kernel_rfl))⟩
  f57 := ⟨Try.f69.name, by decide, Try.func69.trans (congrArg some (by kernel_rfl))⟩
  t0 := Try.underlying0
  a0 := Try.isAgg0
  z0 := Try.sizeOf0
  v0 := Try.zeroValue0
  t3 := Try.underlying3
  a3 := Try.isAgg3
  z3 := Try.sizeOf3
  v3 := Try.zeroValue3
  t4 := Try.underlying4
  a4 := Try.isAgg4
  z4 := Try.sizeOf4
  v4 := Try.zeroValue4
  t5 := Try.underlying5
  a5 := Try.isAgg5
  z5 := Try.sizeOf5
  v5 := Try.zeroValue5
  t9 := Try.underlying9
  a9 := Try.isAgg9
  z9 := Try.sizeOf9
  v9 := Try.zeroValue9
  t22 := Try.underlying33
  a22 := Try.isAgg33
  z22 := Try.sizeOf33
  v22 := Try.zeroValue33
  t25 := Try.underlying42
  a25 := Try.isAgg42
  z25 := Try.sizeOf42
  v25 := Try.zeroValue42
  t39 := Try.underlying78
  a39 := Try.isAgg78
  z39 := Try.sizeOf78
  v39 := Try.zeroValue78
  t45 := Try.underlying80
  a45 := Try.isAgg80
  z45 := Try.sizeOf80
  v45 := Try.zeroValue80
  t46 := Try.underlying81
  a46 := Try.isAgg81
  z46 := Try.sizeOf81
  v46 := Try.zeroValue81
  t50 := Try.underlying35
  a50 := Try.isAgg35
  z50 := Try.sizeOf35
  v50 := Try.zeroValue35
  t53 := Try.underlying87
  a53 := Try.isAgg87
  z53 := Try.sizeOf87
  v53 := Try.zeroValue87
  t55 := Try.underlying89
  a55 := Try.isAgg89
  z55 := Try.sizeOf89
  v55 := Try.zeroValue89
  t66 := Try.underlying90
  a66 := Try.isAgg90
  z66 := Try.sizeOf90
  v66 := Try.zeroValue90
  t70 := Try.underlying94
  a70 := Try.isAgg94
  z70 := Try.sizeOf94
  v70 := Try.zeroValue94
  t76 := Try.underlying96
  a76 := Try.isAgg96
  z76 := Try.sizeOf96
  v76 := Try.zeroValue96
  t77 := Try.underlying97
  a77 := Try.isAgg97
  z77 := Try.sizeOf97
  v77 := Try.zeroValue97 }
theorem sort_none (cap : Nat) (p : Option Addr) (fv : Value) (w : World) : Calls Try.prog 43 #[.slice p 0 cap, fv] w fun e w' => e = .returned (.tuple #[]) ∧ w' = w := AnyF.slices_SortFunc_none sortI0 p cap fv w
def insI_ren : Go.Shelf.Ren := ⟨fun | 20 => 51 | n => n, fun | 24 => 3 | 22 => 33 | 3 => 3 | 25 => 42 | 4 => 4 | 0 => 0 | n => n, fun | n => n⟩
theorem insI : Go.Proofs.SlLaysF.n20 Try.prog insI_ren := {
  mixed := by kernel_rfl
  f20 := ⟨Try.f51.name, by decide, Try.func51.trans (congrArg some (by kernel_rfl))⟩
  t0 := Try.underlying0
  a0 := Try.isAgg0
  z0 := Try.sizeOf0
  v0 := Try.zeroValue0
  t3 := Try.underlying3
  a3 := Try.isAgg3
  z3 := Try.sizeOf3
  v3 := Try.zeroValue3
  t4 := Try.underlying4
  a4 := Try.isAgg4
  z4 := Try.sizeOf4
  v4 := Try.zeroValue4
  t22 := Try.underlying33
  a22 := Try.isAgg33
  z22 := Try.sizeOf33
  v22 := Try.zeroValue33
  a24 := Try.isAgg3
  z24 := Try.sizeOf3
  t25 := Try.underlying42
  a25 := Try.isAgg42
  z25 := Try.sizeOf42
  v25 := Try.zeroValue42 }
def encN (x : Nat) : Value := .int .i64 (x : Int)
def cfQ (N : Nat) (Q : Nat → Nat → Int) (n : Nat) (x y : Nat) : Int := orI (cmpI (qual N Q n y) (qual N Q n x)) (cmpI x y)
theorem ltQ_is (N : Nat) (Q : Nat → Nat → Int) (n x y : Nat) : ltOf (cfQ N Q n) x y = ltQ N Q n x y := by
  unfold ltOf cfQ ltQ orI cmpI
  generalize qual N Q n y = p
  generalize qual N Q n x = q
  by_cases h1 : p < q
  · simp [h1]
  · by_cases h2 : q < p
    · have : ¬ p = q := by omega
      simp [h1, h2, this]
    · have h3 : p = q := by omega
      by_cases h4 : x < y
      · simp [h3, h4]
      · by_cases h5 : y < x <;> simp [h3, h4, h5]
theorem swoQ (N : Nat) (Q : Nat → Nat → Int) (n : Nat) : SWO (ltOf (cfQ N Q n)) where
  irrefl x := by rw [ltQ_is]; unfold ltQ; simp
  trans x y z h1 h2 := by rw [ltQ_is] at *; unfold ltQ at *; simp at *; omega
  ntrans x y z h1 h2 := by rw [ltQ_is] at *; unfold ltQ at *; simp at *; omega
theorem totQ (N : Nat) (Q : Nat → Nat → Int) (n : Nat) (x y : Nat) (h1 : ltOf (cfQ N Q n) x y = false) (h2 : ltOf (cfQ N Q n) y x = false) : x = y := by
  rw [ltQ_is] at h1 h2
  unfold ltQ at h1 h2
  simp at h1 h2
  omega
/-- A world with new blocks and further on the tape. -/
def Gw (w w' : World) : Prop := ∃ q os', w' = grow (w.drewN q) os'
theorem Gw.refl (w : World) : Gw w w := ⟨0, #[], by rw [grow_empty]; rfl⟩
theorem Gw.drewN {w w' : World} (h : Gw w w') (m : Nat) : Gw w (w'.drewN m) := by
  obtain ⟨q, os, rfl⟩ := h
  exact ⟨q + m, os, by rw [show (grow (w.drewN q) os).drewN m = grow ((w.drewN q).drewN m) os from rfl]; unfold World.drewN; rw [Nat.add_assoc]⟩
theorem Gw.alloc {w w' : World} (h : Gw w w') (o : Obj) : Gw w (w'.alloc o) := by
  obtain ⟨q, os, rfl⟩ := h
  exact ⟨q, os ++ #[o], by rw [alloc_eq_grow, grow_grow]⟩
set_option maxHeartbeats 4000000 in
theorem cl_any (g N : Nat) (Q : Nat → Nat → Int) (n gb nb x y : Nat) (w : World) (hN : N ≤ 16) (hg : Gr w g 73 N Q) (o1 : w.cell? ⟨gb, 0, none⟩ = some (.pointer (some ⟨g, 0, none⟩))) (o2 : w.cell? ⟨nb, 0, none⟩ = some (.int .i64 (n : Int))) :
    Calls Try.prog 44 #[.int .i64 (x : Int), .int .i64 (y : Int), .pointer (some ⟨gb, 0, none⟩), .pointer (some ⟨nb, 0, none⟩)] w fun r w' => r = .returned (.int .i64 (cfQ N Q n x y)) ∧ Gw w w' := by
  obtain ⟨p, hp⟩ : ∃ p, qual N Q n y = p := ⟨_, rfl⟩
  obtain ⟨q, hq⟩ : ∃ q, qual N Q n x = q := ⟨_, rfl⟩
  obtain ⟨c1, hc1⟩ : ∃ c, cmpI p q = c := ⟨_, rfl⟩
  obtain ⟨c2, hc2⟩ : ∃ c, cmpI (x : Int) (y : Int) = c := ⟨_, rfl⟩
  have HD : Hid (cfQ N Q n x y = orI c1 c2) := Lib.hid (by unfold cfQ; rw [hp, hq, hc1, hc2])
  obtain ⟨D, hD0⟩ : ∃ D : World → Prop, D = fun w' => ∃ k, w' = w.drewN k := ⟨_, rfl⟩
  have hDs : ∀ w', D w' → (w'.cell? ⟨gb, 0, none⟩ = some (.pointer (some ⟨g, 0, none⟩)) ∧ w'.cell? ⟨nb, 0, none⟩ = some (.int .i64 (n : Int))) := fun w' hd => by
    rw [hD0] at hd
    obtain ⟨k, rfl⟩ := hd
    exact ⟨o1, o2⟩
  have hDa : ∀ w', D w' → (fun w' : World => w'.cell? ⟨gb, 0, none⟩ = some (.pointer (some ⟨g, 0, none⟩)) ∧ w'.cell? ⟨nb, 0, none⟩ = some (.int .i64 (n : Int))) (w'.alloc (.cells #[.int .i64 c1, .int .i64 c2] 3)) := fun w' hd => by
    have hb := (Below.refl w'.heap.size w').alloc (Nat.le_refl _) (.cells #[.int .i64 c1, .int .i64 c2] 3)
    have := hDs w' hd
    exact ⟨(hb.cell (lt_of_cell this.1)).trans this.1, (hb.cell (lt_of_cell this.2)).trans this.2⟩
  have H1 : Hid (∀ w', D w' → Calls Try.prog 24 #[.pointer (some ⟨g, 0, none⟩), .int .i64 (n : Int), .int .i64 (y : Int)] w' fun r w'' => r = .returned (.int .i64 p) ∧ D w'') := Lib.hid (fun w' hd => by
    rw [hD0] at hd ⊢
    obtain ⟨k, rfl⟩ := hd
    refine (quality_any g 73 N Q n y (w.drewN k) hg hN).mono ?_
    rintro r w'' ⟨rfl, m, rfl⟩
    exact ⟨by rw [hp], k + m, by unfold World.drewN; rw [Nat.add_assoc]⟩)
  have H2 : Hid (∀ w', D w' → Calls Try.prog 24 #[.pointer (some ⟨g, 0, none⟩), .int .i64 (n : Int), .int .i64 (x : Int)] w' fun r w'' => r = .returned (.int .i64 q) ∧ D w'') := Lib.hid (fun w' hd => by
    rw [hD0] at hd ⊢
    obtain ⟨k, rfl⟩ := hd
    refine (quality_any g 73 N Q n x (w.drewN k) hg hN).mono ?_
    rintro r w'' ⟨rfl, m, rfl⟩
    exact ⟨by rw [hq], k + m, by unfold World.drewN; rw [Nat.add_assoc]⟩)
  have H3 : Hid (∀ w', D w' → Calls Try.prog 38 #[.int .i64 p, .int .i64 q] w' fun r w'' => r = .returned (.int .i64 c1) ∧ D w'') := Lib.hid (fun w' hd => by
    refine (compare_any p q w').mono ?_
    rintro r w'' ⟨rfl, rfl⟩
    exact ⟨by rw [hc1], hd⟩)
  have H4 : Hid (∀ w', D w' → Calls Try.prog 38 #[.int .i64 (x : Int), .int .i64 (y : Int)] w' fun r w'' => r = .returned (.int .i64 c2) ∧ D w'') := Lib.hid (fun w' hd => by
    refine (compare_any x y w').mono ?_
    rintro r w'' ⟨rfl, rfl⟩
    exact ⟨by rw [hc2], hd⟩)
  have H5 : Hid (∀ w', D w' → Calls Try.prog 45 #[.slice (some ⟨w'.heap.size, 0, none⟩) 2 2] (w'.alloc (.cells #[.int .i64 c1, .int .i64 c2] 3)) fun r w'' => r = .returned (.int .i64 (orI c1 c2)) ∧ Gw w w'' ∧ (fun w' : World => w'.cell? ⟨gb, 0, none⟩ = some (.pointer (some ⟨g, 0, none⟩)) ∧ w'.cell? ⟨nb, 0, none⟩ = some (.int .i64 (n : Int))) w'') := Lib.hid (fun w' hd => by
    refine (or_two w'.heap.size c1 c2 (w'.alloc (.cells #[.int .i64 c1, .int .i64 c2] 3)) ((Own.new w' 3 #[.int .i64 c1, .int .i64 c2]).cell 0) ((Own.new w' 3 #[.int .i64 c1, .int .i64 c2]).cell 1)).mono ?_
    rintro r w'' ⟨rfl, rfl⟩
    have ha := hDa w' hd
    rw [hD0] at hd
    obtain ⟨k, rfl⟩ := hd
    exact ⟨rfl, ((Gw.refl w).drewN k).alloc _, ha⟩)
  have d0 : D w.drew := by rw [hD0]; exact ⟨1, rfl⟩
  have s0 : (fun w' : World => w'.cell? ⟨gb, 0, none⟩ = some (.pointer (some ⟨g, 0, none⟩)) ∧ w'.cell? ⟨nb, 0, none⟩ = some (.int .i64 (n : Int))) w.drew := hDs _ d0
  clear hp hq hc1 hc2 hg hD0
  go_enter Try.func44, Try.ntmps44
  go_wp2_with fail
  go_region_held3 (fun w' : World => w'.cell? ⟨gb, 0, none⟩ = some (.pointer (some ⟨g, 0, none⟩)) ∧ w'.cell? ⟨nb, 0, none⟩ = some (.int .i64 (n : Int))) (with_reducible first | exact s0 | exact s1 | exact s2 | exact s3 | exact t1 | exact t2 | exact t3 | exact t4 | exact s5) (first
    | (go_at_call 24; first | (with_reducible refine (H1.out _ (by assumption)).mono ?_; rintro q1 w1 ⟨rfl, d1⟩; have s1 : (fun w' : World => w'.cell? ⟨gb, 0, none⟩ = some (.pointer (some ⟨g, 0, none⟩)) ∧ w'.cell? ⟨nb, 0, none⟩ = some (.int .i64 (n : Int))) w1 := hDs _ d1; have t1 := hDa _ d1) | (with_reducible refine (H2.out _ (by assumption)).mono ?_; rintro q2 w2 ⟨rfl, d2⟩; have s2 : (fun w' : World => w'.cell? ⟨gb, 0, none⟩ = some (.pointer (some ⟨g, 0, none⟩)) ∧ w'.cell? ⟨nb, 0, none⟩ = some (.int .i64 (n : Int))) w2 := hDs _ d2; have t2 := hDa _ d2) | fail)
    | (go_at_call 38; first | (with_reducible refine (H3.out _ (by assumption)).mono ?_; rintro q3 w3 ⟨rfl, d3⟩; have s3 : (fun w' : World => w'.cell? ⟨gb, 0, none⟩ = some (.pointer (some ⟨g, 0, none⟩)) ∧ w'.cell? ⟨nb, 0, none⟩ = some (.int .i64 (n : Int))) w3 := hDs _ d3; have t3 := hDa _ d3) | (with_reducible refine (H4.out _ (by assumption)).mono ?_; rintro q4 w4 ⟨rfl, d4⟩; have s3 : (fun w' : World => w'.cell? ⟨gb, 0, none⟩ = some (.pointer (some ⟨g, 0, none⟩)) ∧ w'.cell? ⟨nb, 0, none⟩ = some (.int .i64 (n : Int))) w4 := hDs _ d4; have t4 := hDa _ d4) | fail)
    | (go_at_call 45; with_reducible refine (H5.out _ (by assumption)).mono ?_; rintro q5 w5 ⟨rfl, d5, s5⟩)
    | fail)
  all_goals
    go_wp2_with fail
    go_ret
    exact ⟨by rw [HD.out]; rfl, by assumption⟩
theorem just_sort1 {α : Type} [Inhabited α] (enc : α → Value) (w : World) (blk off n : Nat) (dk : Array α) (os : Array Obj) : Just blk w (sortWorld enc w blk off n dk os) := by
  refine ⟨rfl, rfl, rfl, ?_, fun b hb hne => ?_⟩
  · show w.heap.size ≤ ((w.heap.modify blk (onCells (putCells enc off dk))) ++ os).size
    simp
  · show ((w.heap.modify blk (onCells (putCells enc off dk))) ++ os)[b]? = w.heap[b]?
    rw [Array.getElem?_append_left (by simpa using hb)]
    rw [Array.getElem?_modify, if_neg (fun e => hne e.symm)]
theorem pair_sorted {α : Type} [Inhabited α] {lt : α → α → Bool} {d : Array α} (h : SortedIn lt 0 d.size d) : d.toList.Pairwise fun x y => lt y x = false := by
  rw [List.pairwise_iff_getElem]
  intro i j hi hj hij
  have := h i j (Nat.zero_le _) hij (by simpa using hj)
  rw [getElem!_pos d j (by simpa using hj), getElem!_pos d i (by simpa using hi)] at this
  simpa using this
theorem sort_any (g N : Nat) (Q : Nat → Nat → Int) (n gb nb blk cap : Nat) (d : Array Nat) (w : World) (hN : N ≤ 16) (hg : Gr w g 73 N Q) (o1 : w.cell? ⟨gb, 0, none⟩ = some (.pointer (some ⟨g, 0, none⟩))) (o2 : w.cell? ⟨nb, 0, none⟩ = some (.int .i64 (n : Int)))
    (h1 : g ≠ blk) (h2 : gb ≠ blk) (h3 : nb ≠ blk) (hH : Holds encN w blk 0 d) (hblk : blk < w.heap.size) (hsz : d.size ≤ 1000) :
    Calls Try.prog 43 #[.slice (some ⟨blk, 0, none⟩) d.size cap, .func (.func 44) #[] #[.pointer (some ⟨gb, 0, none⟩), .pointer (some ⟨nb, 0, none⟩)]] w fun e w' =>
      e = .returned (.tuple #[]) ∧ ∃ d' : Array Nat, d'.size = d.size ∧ d'.toList = d.toList.mergeSort (fun x y => !ltQ N Q n y x) ∧ Holds encN w' blk 0 d' ∧ Just blk w w' := by
  have eg : ∀ args w, (callFunc 44 args).run Try.prog w = .ok (.enter 44 args) w := enters_of Try.func44 (by kernel_rfl) rfl
  have hcmp : CmpLays1 Try.prog 44 #[.pointer (some ⟨gb, 0, none⟩), .pointer (some ⟨nb, 0, none⟩)] encN (cfQ N Q n) blk 0 d.size w := fun m os dk _ x y => by
    have j := just_sort1 encN w blk 0 m dk os
    exact cl_any g N Q n gb nb x y _ hN (j.blk hg h1) ((World.cell?_of_block (a := ⟨gb, 0, none⟩) (j.block gb (lt_of_cell o1) h2)).trans o1) ((World.cell?_of_block (a := ⟨nb, 0, none⟩) (j.block nb (lt_of_cell o2) h3)).trans o2)
  refine (Any.slices_SortFunc sortI encN (fun _ => rfl) (cfQ N Q n) (swoQ N Q n) 44 _ blk 0 cap d w eg hcmp hH hblk (by omega)).mono fun e w' ⟨he, d', m, os, hp, hs, hw⟩ => ⟨he, d', hp.1, ?_, ?_, ?_⟩
  · rw [sorted_unique_holds (swoQ N Q n) (totQ N Q n) d d' hp hs]
    congr 1
    funext x y
    rw [ltQ_is]
  · rw [hw]
    exact (SW.on (SW.start hH) hblk m d' os hp.1).holds hblk hH hp.1
  · rw [hw]
    exact just_sort1 encN w blk 0 m d' os
end Go.Proofs.Ythdgnnjnkeljmaa.Tr
