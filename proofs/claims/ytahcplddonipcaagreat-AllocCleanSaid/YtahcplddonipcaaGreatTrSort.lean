/-
  Package tree (chapter 21): the closures of its sorts; slices.SortFunc and slices.SortStableFunc at nodes.
-/
import Derived.Test.YtahcplddonipcaaGreatTrWalks
import Derived.Test.YtahcplddonipcaaGreatCmpInt
import Derived.Shelf.SlSortCmp.Whole1
import Derived.Shelf.SlSortCmp.NoneTotal
import Derived.Ground.SlsfProg
set_option maxRecDepth 100000
namespace Go.Proofs.YtahcplddonipcaaGreat.Tr
set_option linter.unusedVariables false
set_option linter.unusedSimpArgs false
open Go.RowKit Lb Tp Go.Sort Go.Shelf Go.Lib

def sortI_ren : Go.Shelf.Ren := ⟨fun | 6 => 54 | 15 => 50 | 14 => 86 | 28 => 74 | 29 => 75 | 20 => 96 | 21 => 106 | 22 => 107 | 23 => 108 | 24 => 109 | 25 => 110 | 26 => 111 | 27 => 112 | 46 => 122 | 47 => 99 | 48 => 100 | 49 => 123 | 50 => 124 | 57 => 127 | n => n, fun | 22 => 29 | 24 => 3 | 25 => 96 | 3 => 3 | 39 => 108 | 0 => 0 | 53 => 124 | 55 => 46 | 4 => 4 | 46 => 117 | 45 => 116 | 50 => 121 | 5 => 5 | 9 => 9 | 66 => 139 | 70 => 143 | 76 => 153 | 77 => 154 | n => n, fun | n => n⟩
theorem sortI : Go.Proofs.SlLaysF.n6 Tryz.prog sortI_ren := {
  mixed := by kernel_rfl
  f6 := ⟨Tryz.f54.name, by decide, Tryz.func54.trans (congrArg some (by kernel_rfl))⟩
  f14 := ⟨Tryz.f86.name, by decide, Tryz.func86.trans (congrArg some (by kernel_rfl))⟩
  f15 := Tryz.func50.trans (congrArg some (by kernel_rfl))
  f20 := ⟨Tryz.f96.name, by decide, Tryz.func96.trans (congrArg some (by kernel_rfl))⟩
  f21 := ⟨Tryz.f106.name, by decide, Tryz.func106.trans (congrArg some (by kernel_rfl))⟩
  f22 := ⟨Tryz.f107.name, by decide, Tryz.func107.trans (congrArg some (by kernel_rfl))⟩
  f23 := ⟨Tryz.f108.name, by decide, Tryz.func108.trans (congrArg some (by kernel_rfl))⟩
  f24 := ⟨Tryz.f109.name, by decide, Tryz.func109.trans (congrArg some (by kernel_rfl))⟩
  f25 := ⟨Tryz.f110.name, by decide, Tryz.func110.trans (congrArg some (by kernel_rfl))⟩
  f26 := ⟨Tryz.f111.name, by decide, Tryz.func111.trans (congrArg some (by kernel_rfl))⟩
  f27 := ⟨Tryz.f112.name, by decide, Tryz.func112.trans (congrArg some (by kernel_rfl))⟩
  f28 := Tryz.func74.trans (congrArg some (by kernel_rfl))
  f29 := Tryz.func75.trans (congrArg some (by kernel_rfl))
  f46 := ⟨Tryz.f122.name, by decide, Tryz.func122.trans (congrArg some (by kernel_rfl))⟩
  f47 := Tryz.func99.trans (congrArg some (by kernel_rfl))
  f48 := Tryz.func100.trans (congrArg some (by kernel_rfl))
  f49 := ⟨Tryz.f123.name, by decide, Tryz.func123.trans (congrArg some (by kernel_rfl))⟩
  f50 := ⟨Tryz.f124.name, by decide, Tryz.func124.trans (congrArg some (by kernel_rfl))⟩
  f57 := ⟨Tryz.f127.name, by decide, Tryz.func127.trans (congrArg some (by kernel_rfl))⟩
  t0 := Tryz.underlying0
  a0 := Tryz.isAgg0
  z0 := Tryz.sizeOf0
  v0 := Tryz.zeroValue0
  t3 := Tryz.underlying3
  a3 := Tryz.isAgg3
  z3 := Tryz.sizeOf3
  v3 := Tryz.zeroValue3
  t4 := Tryz.underlying4
  a4 := Tryz.isAgg4
  z4 := Tryz.sizeOf4
  v4 := Tryz.zeroValue4
  t5 := Tryz.underlying5
  a5 := Tryz.isAgg5
  z5 := Tryz.sizeOf5
  v5 := Tryz.zeroValue5
  t9 := Tryz.underlying9
  a9 := Tryz.isAgg9
  z9 := Tryz.sizeOf9
  v9 := Tryz.zeroValue9
  t22 := Tryz.underlying29
  a22 := Tryz.isAgg29
  z22 := Tryz.sizeOf29
  v22 := Tryz.zeroValue29
  a24 := Tryz.isAgg3
  z24 := Tryz.sizeOf3
  t25 := Tryz.underlying96
  a25 := Tryz.isAgg96
  z25 := Tryz.sizeOf96
  v25 := Tryz.zeroValue96
  t39 := Tryz.underlying108
  a39 := Tryz.isAgg108
  z39 := Tryz.sizeOf108
  v39 := Tryz.zeroValue108
  t45 := Tryz.underlying116
  a45 := Tryz.isAgg116
  z45 := Tryz.sizeOf116
  v45 := Tryz.zeroValue116
  t46 := Tryz.underlying117
  a46 := Tryz.isAgg117
  z46 := Tryz.sizeOf117
  v46 := Tryz.zeroValue117
  t50 := Tryz.underlying121
  a50 := Tryz.isAgg121
  z50 := Tryz.sizeOf121
  v50 := Tryz.zeroValue121
  t53 := Tryz.underlying124
  a53 := Tryz.isAgg124
  z53 := Tryz.sizeOf124
  v53 := Tryz.zeroValue124
  t55 := Tryz.underlying46
  a55 := Tryz.isAgg46
  z55 := Tryz.sizeOf46
  v55 := Tryz.zeroValue46
  t66 := Tryz.underlying139
  a66 := Tryz.isAgg139
  z66 := Tryz.sizeOf139
  v66 := Tryz.zeroValue139
  t70 := Tryz.underlying143
  a70 := Tryz.isAgg143
  z70 := Tryz.sizeOf143
  v70 := Tryz.zeroValue143
  t76 := Tryz.underlying153
  a76 := Tryz.isAgg153
  z76 := Tryz.sizeOf153
  v76 := Tryz.zeroValue153
  t77 := Tryz.underlying154
  a77 := Tryz.isAgg154
  z77 := Tryz.sizeOf154
  v77 := Tryz.zeroValue154 }
def sortI0_ren : Go.Shelf.Ren := ⟨fun | 6 => 54 | 15 => 50 | 14 => 86 | 28 => 74 | 29 => 75 | 20 => 96 | 21 => 106 | 22 => 107 | 23 => 108 | 24 => 109 | 25 => 110 | 26 => 111 | 27 => 112 | 46 => 122 | 47 => 99 | 48 => 100 | 49 => 123 | 50 => 124 | 57 => 127 | n => n, fun | 22 => 29 | 24 => 3 | 25 => 96 | 3 => 3 | 39 => 108 | 0 => 0 | 53 => 124 | 55 => 46 | 4 => 4 | 46 => 117 | 45 => 116 | 50 => 121 | 5 => 5 | 9 => 9 | 66 => 139 | 70 => 143 | 76 => 153 | 77 => 154 | n => n, fun | n => n⟩
theorem sortI0 : Go.Proofs.SlLaysF0.n6 Tryz.prog sortI0_ren := {
  mixed := by kernel_rfl
  f6 := ⟨Tryz.f54.name, by decide, Tryz.func54.trans (congrArg some (by kernel_rfl))⟩
  f14 := ⟨Tryz.f86.name, by decide, Tryz.func86.trans (congrArg some (by kernel_rfl))⟩
  f15 := Tryz.func50.trans (congrArg some (by kernel_rfl))
  f20 := ⟨Tryz.f96.name, by decide, Tryz.func96.trans (congrArg some (by kernel_rfl))⟩
  f21 := ⟨Tryz.f106.name, by decide, Tryz.func106.trans (congrArg some (by kernel_rfl))⟩
  f22 := ⟨Tryz.f107.name, by decide, Tryz.func107.trans (congrArg some (by kernel_rfl))⟩
  f23 := ⟨Tryz.f108.name, by decide, Tryz.func108.trans (congrArg some (by kernel_rfl))⟩
  f24 := ⟨Tryz.f109.name, by decide, Tryz.func109.trans (congrArg some (by kernel_rfl))⟩
  f25 := ⟨Tryz.f110.name, by decide, Tryz.func110.trans (congrArg some (by kernel_rfl))⟩
  f26 := ⟨Tryz.f111.name, by decide, Tryz.func111.trans (congrArg some (by kernel_rfl))⟩
  f27 := ⟨Tryz.f112.name, by decide, Tryz.func112.trans (congrArg some (by kernel_rfl))⟩
  f28 := Tryz.func74.trans (congrArg some (by kernel_rfl))
  f29 := Tryz.func75.trans (congrArg some (by kernel_rfl))
  f46 := ⟨Tryz.f122.name, by decide, Tryz.func122.trans (congrArg some (by kernel_rfl))⟩
  f47 := Tryz.func99.trans (congrArg some (by kernel_rfl))
  f48 := Tryz.func100.trans (congrArg some (by kernel_rfl))
  f49 := ⟨Tryz.f123.name, by decide, Tryz.func123.trans (congrArg some (by kernel_rfl))⟩
  f50 := ⟨Tryz.f124.name, by decide, Tryz.func124.trans (congrArg some (by kernel_rfl))⟩
  f57 := ⟨Tryz.f127.name, by decide, Tryz.func127.trans (congrArg some (by kernel_rfl))⟩
  t0 := Tryz.underlying0
  a0 := Tryz.isAgg0
  z0 := Tryz.sizeOf0
  v0 := Tryz.zeroValue0
  t3 := Tryz.underlying3
  a3 := Tryz.isAgg3
  z3 := Tryz.sizeOf3
  v3 := Tryz.zeroValue3
  t4 := Tryz.underlying4
  a4 := Tryz.isAgg4
  z4 := Tryz.sizeOf4
  v4 := Tryz.zeroValue4
  t5 := Tryz.underlying5
  a5 := Tryz.isAgg5
  z5 := Tryz.sizeOf5
  v5 := Tryz.zeroValue5
  t9 := Tryz.underlying9
  a9 := Tryz.isAgg9
  z9 := Tryz.sizeOf9
  v9 := Tryz.zeroValue9
  t22 := Tryz.underlying29
  a22 := Tryz.isAgg29
  z22 := Tryz.sizeOf29
  v22 := Tryz.zeroValue29
  t25 := Tryz.underlying96
  a25 := Tryz.isAgg96
  z25 := Tryz.sizeOf96
  v25 := Tryz.zeroValue96
  t39 := Tryz.underlying108
  a39 := Tryz.isAgg108
  z39 := Tryz.sizeOf108
  v39 := Tryz.zeroValue108
  t45 := Tryz.underlying116
  a45 := Tryz.isAgg116
  z45 := Tryz.sizeOf116
  v45 := Tryz.zeroValue116
  t46 := Tryz.underlying117
  a46 := Tryz.isAgg117
  z46 := Tryz.sizeOf117
  v46 := Tryz.zeroValue117
  t50 := Tryz.underlying121
  a50 := Tryz.isAgg121
  z50 := Tryz.sizeOf121
  v50 := Tryz.zeroValue121
  t53 := Tryz.underlying124
  a53 := Tryz.isAgg124
  z53 := Tryz.sizeOf124
  v53 := Tryz.zeroValue124
  t55 := Tryz.underlying46
  a55 := Tryz.isAgg46
  z55 := Tryz.sizeOf46
  v55 := Tryz.zeroValue46
  t66 := Tryz.underlying139
  a66 := Tryz.isAgg139
  z66 := Tryz.sizeOf139
  v66 := Tryz.zeroValue139
  t70 := Tryz.underlying143
  a70 := Tryz.isAgg143
  z70 := Tryz.sizeOf143
  v70 := Tryz.zeroValue143
  t76 := Tryz.underlying153
  a76 := Tryz.isAgg153
  z76 := Tryz.sizeOf153
  v76 := Tryz.zeroValue153
  t77 := Tryz.underlying154
  a77 := Tryz.isAgg154
  z77 := Tryz.sizeOf154
  v77 := Tryz.zeroValue154 }
theorem sort_none (cap : Nat) (p : Option Addr) (fv : Value) (w : World) : Calls Tryz.prog 54 #[.slice p 0 cap, fv] w fun e w' => e = .returned (.tuple #[]) ∧ w' = w := AnyF.slices_SortFunc_none sortI0 p cap fv w
def insI_ren : Go.Shelf.Ren := ⟨fun | 20 => 96 | n => n, fun | 24 => 3 | 22 => 29 | 3 => 3 | 25 => 96 | 4 => 4 | 0 => 0 | n => n, fun | n => n⟩
theorem insI : Go.Proofs.SlLaysF.n20 Tryz.prog insI_ren := {
  mixed := by kernel_rfl
  f20 := ⟨Tryz.f96.name, by decide, Tryz.func96.trans (congrArg some (by kernel_rfl))⟩
  t0 := Tryz.underlying0
  a0 := Tryz.isAgg0
  z0 := Tryz.sizeOf0
  v0 := Tryz.zeroValue0
  t3 := Tryz.underlying3
  a3 := Tryz.isAgg3
  z3 := Tryz.sizeOf3
  v3 := Tryz.zeroValue3
  t4 := Tryz.underlying4
  a4 := Tryz.isAgg4
  z4 := Tryz.sizeOf4
  v4 := Tryz.zeroValue4
  t22 := Tryz.underlying29
  a22 := Tryz.isAgg29
  z22 := Tryz.sizeOf29
  v22 := Tryz.zeroValue29
  a24 := Tryz.isAgg3
  z24 := Tryz.sizeOf3
  t25 := Tryz.underlying96
  a25 := Tryz.isAgg96
  z25 := Tryz.sizeOf96
  v25 := Tryz.zeroValue96 }
def encN (x : Nat) : Value := .int .i64 (x : Int)
def cfQ (N : Nat) (Q : Nat → Nat → Int) (n : Nat) (x y : Nat) : Int := orI (cmpI (qual N Q n y) (qual N Q n x)) (cmpI x y)
theorem ltQ_is (N : Nat) (Q : Nat → Nat → Int) (n x y : Nat) : ltOf (cfQ N Q n) x y = ltQ N Q n x y := by
  unfold ltOf cfQ ltQ orI cmpI
  generalize qual N Q n y = p
  generalize qual N Q n x = q
  by_cases h1 : p < q
  · simp [h1]
  · by_cases h2 : q < p
    · have : ¬ p = q := by omega
      simp [h1, h2, this]
    · have h3 : p = q := by omega
      by_cases h4 : x < y
      · simp [h3, h4]
      · by_cases h5 : y < x <;> simp [h3, h4, h5]
theorem swoQ (N : Nat) (Q : Nat → Nat → Int) (n : Nat) : SWO (ltOf (cfQ N Q n)) where
  irrefl x := by rw [ltQ_is]; unfold ltQ; simp
  trans x y z h1 h2 := by rw [ltQ_is] at *; unfold ltQ at *; simp at *; omega
  ntrans x y z h1 h2 := by rw [ltQ_is] at *; unfold ltQ at *; simp at *; omega
theorem totQ (N : Nat) (Q : Nat → Nat → Int) (n : Nat) (x y : Nat) (h1 : ltOf (cfQ N Q n) x y = false) (h2 : ltOf (cfQ N Q n) y x = false) : x = y := by
  rw [ltQ_is] at h1 h2
  unfold ltQ at h1 h2
  simp at h1 h2
  omega
/-- A world with new blocks and further on the tape. -/
def Gw (w w' : World) : Prop := ∃ q os', w' = grow (w.drewN q) os'
theorem Gw.refl (w : World) : Gw w w := ⟨0, #[], by rw [grow_empty]; rfl⟩
theorem Gw.drewN {w w' : World} (h : Gw w w') (m : Nat) : Gw w (w'.drewN m) := by
  obtain ⟨q, os, rfl⟩ := h
  exact ⟨q + m, os, by rw [show (grow (w.drewN q) os).drewN m = grow ((w.drewN q).drewN m) os from rfl]; unfold World.drewN; rw [Nat.add_assoc]⟩
theorem Gw.alloc {w w' : World} (h : Gw w w') (o : Obj) : Gw w (w'.alloc o) := by
  obtain ⟨q, os, rfl⟩ := h
  exact ⟨q, os ++ #[o], by rw [alloc_eq_grow, grow_grow]⟩
set_option maxHeartbeats 4000000 in
theorem cl_any (g N : Nat) (Q : Nat → Nat → Int) (n gb nb x y : Nat) (w : World) (hN : N ≤ 16) (hg : Gr w g 101 N Q) (o1 : w.cell? ⟨gb, 0, none⟩ = some (.pointer (some ⟨g, 0, none⟩))) (o2 : w.cell? ⟨nb, 0, none⟩ = some (.int .i64 (n : Int))) :
    Calls Tryz.prog 55 #[.int .i64 (x : Int), .int .i64 (y : Int), .pointer (some ⟨gb, 0, none⟩), .pointer (some ⟨nb, 0, none⟩)] w fun r w' => r = .returned (.int .i64 (cfQ N Q n x y)) ∧ Gw w w' := by
  obtain ⟨p, hp⟩ : ∃ p, qual N Q n y = p := ⟨_, rfl⟩
  obtain ⟨q, hq⟩ : ∃ q, qual N Q n x = q := ⟨_, rfl⟩
  obtain ⟨c1, hc1⟩ : ∃ c, cmpI p q = c := ⟨_, rfl⟩
  obtain ⟨c2, hc2⟩ : ∃ c, cmpI (x : Int) (y : Int) = c := ⟨_, rfl⟩
  have HD : Hid (cfQ N Q n x y = orI c1 c2) := Lib.hid (by unfold cfQ; rw [hp, hq, hc1, hc2])
  obtain ⟨D, hD0⟩ : ∃ D : World → Prop, D = fun w' => ∃ k, w' = w.drewN k := ⟨_, rfl⟩
  have hDs : ∀ w', D w' → (w'.cell? ⟨gb, 0, none⟩ = some (.pointer (some ⟨g, 0, none⟩)) ∧ w'.cell? ⟨nb, 0, none⟩ = some (.int .i64 (n : Int))) := fun w' hd => by
    rw [hD0] at hd
    obtain ⟨k, rfl⟩ := hd
    exact ⟨o1, o2⟩
  have hDa : ∀ w', D w' → (fun w' : World => w'.cell? ⟨gb, 0, none⟩ = some (.pointer (some ⟨g, 0, none⟩)) ∧ w'.cell? ⟨nb, 0, none⟩ = some (.int .i64 (n : Int))) (w'.alloc (.cells #[.int .i64 c1, .int .i64 c2] 3)) := fun w' hd => by
    have hb := (Below.refl w'.heap.size w').alloc (Nat.le_refl _) (.cells #[.int .i64 c1, .int .i64 c2] 3)
    have := hDs w' hd
    exact ⟨(hb.cell (lt_of_cell this.1)).trans this.1, (hb.cell (lt_of_cell this.2)).trans this.2⟩
  have H1 : Hid (∀ w', D w' → Calls Tryz.prog 53 #[.pointer (some ⟨g, 0, none⟩), .int .i64 (n : Int), .int .i64 (y : Int)] w' fun r w'' => r = .returned (.int .i64 p) ∧ D w'') := Lib.hid (fun w' hd => by
    rw [hD0] at hd ⊢
    obtain ⟨k, rfl⟩ := hd
    refine (quality_any g 101 N Q n y (w.drewN k) hg hN).mono ?_
    rintro r w'' ⟨rfl, m, rfl⟩
    exact ⟨by rw [hp], k + m, by unfold World.drewN; rw [Nat.add_assoc]⟩)
  have H2 : Hid (∀ w', D w' → Calls Tryz.prog 53 #[.pointer (some ⟨g, 0, none⟩), .int .i64 (n : Int), .int .i64 (x : Int)] w' fun r w'' => r = .returned (.int .i64 q) ∧ D w'') := Lib.hid (fun w' hd => by
    rw [hD0] at hd ⊢
    obtain ⟨k, rfl⟩ := hd
    refine (quality_any g 101 N Q n x (w.drewN k) hg hN).mono ?_
    rintro r w'' ⟨rfl, m, rfl⟩
    exact ⟨by rw [hq], k + m, by unfold World.drewN; rw [Nat.add_assoc]⟩)
  have H3 : Hid (∀ w', D w' → Calls Tryz.prog 41 #[.int .i64 p, .int .i64 q] w' fun r w'' => r = .returned (.int .i64 c1) ∧ D w'') := Lib.hid (fun w' hd => by
    refine (compare_any p q w').mono ?_
    rintro r w'' ⟨rfl, rfl⟩
    exact ⟨by rw [hc1], hd⟩)
  have H4 : Hid (∀ w', D w' → Calls Tryz.prog 41 #[.int .i64 (x : Int), .int .i64 (y : Int)] w' fun r w'' => r = .returned (.int .i64 c2) ∧ D w'') := Lib.hid (fun w' hd => by
    refine (compare_any x y w').mono ?_
    rintro r w'' ⟨rfl, rfl⟩
    exact ⟨by rw [hc2], hd⟩)
  have H5 : Hid (∀ w', D w' → Calls Tryz.prog 40 #[.slice (some ⟨w'.heap.size, 0, none⟩) 2 2] (w'.alloc (.cells #[.int .i64 c1, .int .i64 c2] 3)) fun r w'' => r = .returned (.int .i64 (orI c1 c2)) ∧ Gw w w'' ∧ (fun w' : World => w'.cell? ⟨gb, 0, none⟩ = some (.pointer (some ⟨g, 0, none⟩)) ∧ w'.cell? ⟨nb, 0, none⟩ = some (.int .i64 (n : Int))) w'') := Lib.hid (fun w' hd => by
    refine (or_two w'.heap.size c1 c2 (w'.alloc (.cells #[.int .i64 c1, .int .i64 c2] 3)) ((Own.new w' 3 #[.int .i64 c1, .int .i64 c2]).cell 0) ((Own.new w' 3 #[.int .i64 c1, .int .i64 c2]).cell 1)).mono ?_
    rintro r w'' ⟨rfl, rfl⟩
    have ha := hDa w' hd
    rw [hD0] at hd
    obtain ⟨k, rfl⟩ := hd
    exact ⟨rfl, ((Gw.refl w).drewN k).alloc _, ha⟩)
  have d0 : D w.drew := by rw [hD0]; exact ⟨1, rfl⟩
  have s0 : (fun w' : World => w'.cell? ⟨gb, 0, none⟩ = some (.pointer (some ⟨g, 0, none⟩)) ∧ w'.cell? ⟨nb, 0, none⟩ = some (.int .i64 (n : Int))) w.drew := hDs _ d0
  clear hp hq hc1 hc2 hg hD0
  go_enter Tryz.func55, Tryz.ntmps55
  go_wp2_with fail
  go_region_held3 (fun w' : World => w'.cell? ⟨gb, 0, none⟩ = some (.pointer (some ⟨g, 0, none⟩)) ∧ w'.cell? ⟨nb, 0, none⟩ = some (.int .i64 (n : Int))) (with_reducible first | exact s0 | exact s1 | exact s2 | exact s3 | exact t1 | exact t2 | exact t3 | exact t4 | exact s5) (first
    | (go_at_call 53; first | (with_reducible refine (H1.out _ (by assumption)).mono ?_; rintro q1 w1 ⟨rfl, d1⟩; have s1 : (fun w' : World => w'.cell? ⟨gb, 0, none⟩ = some (.pointer (some ⟨g, 0, none⟩)) ∧ w'.cell? ⟨nb, 0, none⟩ = some (.int .i64 (n : Int))) w1 := hDs _ d1; have t1 := hDa _ d1) | (with_reducible refine (H2.out _ (by assumption)).mono ?_; rintro q2 w2 ⟨rfl, d2⟩; have s2 : (fun w' : World => w'.cell? ⟨gb, 0, none⟩ = some (.pointer (some ⟨g, 0, none⟩)) ∧ w'.cell? ⟨nb, 0, none⟩ = some (.int .i64 (n : Int))) w2 := hDs _ d2; have t2 := hDa _ d2) | fail)
    | (go_at_call 41; first | (with_reducible refine (H3.out _ (by assumption)).mono ?_; rintro q3 w3 ⟨rfl, d3⟩; have s3 : (fun w' : World => w'.cell? ⟨gb, 0, none⟩ = some (.pointer (some ⟨g, 0, none⟩)) ∧ w'.cell? ⟨nb, 0, none⟩ = some (.int .i64 (n : Int))) w3 := hDs _ d3; have t3 := hDa _ d3) | (with_reducible refine (H4.out _ (by assumption)).mono ?_; rintro q4 w4 ⟨rfl, d4⟩; have s3 : (fun w' : World => w'.cell? ⟨gb, 0, none⟩ = some (.pointer (some ⟨g, 0, none⟩)) ∧ w'.cell? ⟨nb, 0, none⟩ = some (.int .i64 (n : Int))) w4 := hDs _ d4; have t4 := hDa _ d4) | fail)
    | (go_at_call 40; with_reducible refine (H5.out _ (by assumption)).mono ?_; rintro q5 w5 ⟨rfl, d5, s5⟩)
    | fail)
  all_goals
    go_wp2_with fail
    go_ret
    exact ⟨by rw [HD.out]; rfl, by assumption⟩
theorem just_sort1 {α : Type} [Inhabited α] (enc : α → Value) (w : World) (blk off n : Nat) (dk : Array α) (os : Array Obj) : Just blk w (sortWorld enc w blk off n dk os) := by
  refine ⟨rfl, rfl, rfl, ?_, fun b hb hne => ?_⟩
  · show w.heap.size ≤ ((w.heap.modify blk (onCells (putCells enc off dk))) ++ os).size
    simp
  · show ((w.heap.modify blk (onCells (putCells enc off dk))) ++ os)[b]? = w.heap[b]?
    rw [Array.getElem?_append_left (by simpa using hb)]
    rw [Array.getElem?_modify, if_neg (fun e => hne e.symm)]
theorem pair_sorted {α : Type} [Inhabited α] {lt : α → α → Bool} {d : Array α} (h : SortedIn lt 0 d.size d) : d.toList.Pairwise fun x y => lt y x = false := by
  rw [List.pairwise_iff_getElem]
  intro i j hi hj hij
  have := h i j (Nat.zero_le _) hij (by simpa using hj)
  rw [getElem!_pos d j (by simpa using hj), getElem!_pos d i (by simpa using hi)] at this
  simpa using this
theorem sort_any (g N : Nat) (Q : Nat → Nat → Int) (n gb nb blk cap : Nat) (d : Array Nat) (w : World) (hN : N ≤ 16) (hg : Gr w g 101 N Q) (o1 : w.cell? ⟨gb, 0, none⟩ = some (.pointer (some ⟨g, 0, none⟩))) (o2 : w.cell? ⟨nb, 0, none⟩ = some (.int .i64 (n : Int)))
    (h1 : g ≠ blk) (h2 : gb ≠ blk) (h3 : nb ≠ blk) (hH : Holds encN w blk 0 d) (hblk : blk < w.heap.size) (hsz : d.size ≤ 1000) :
    Calls Tryz.prog 54 #[.slice (some ⟨blk, 0, none⟩) d.size cap, .func (.func 55) #[] #[.pointer (some ⟨gb, 0, none⟩), .pointer (some ⟨nb, 0, none⟩)]] w fun e w' =>
      e = .returned (.tuple #[]) ∧ ∃ d' : Array Nat, d'.size = d.size ∧ d'.toList = d.toList.mergeSort (fun x y => !ltQ N Q n y x) ∧ Holds encN w' blk 0 d' ∧ Just blk w w' := by
  have eg : ∀ args w, (callFunc 55 args).run Tryz.prog w = .ok (.enter 55 args) w := enters_of Tryz.func55 (by kernel_rfl) rfl
  have hcmp : CmpLays1 Tryz.prog 55 #[.pointer (some ⟨gb, 0, none⟩), .pointer (some ⟨nb, 0, none⟩)] encN (cfQ N Q n) blk 0 d.size w := fun m os dk _ x y => by
    have j := just_sort1 encN w blk 0 m dk os
    exact cl_any g N Q n gb nb x y _ hN (j.blk hg h1) ((World.cell?_of_block (a := ⟨gb, 0, none⟩) (j.block gb (lt_of_cell o1) h2)).trans o1) ((World.cell?_of_block (a := ⟨nb, 0, none⟩) (j.block nb (lt_of_cell o2) h3)).trans o2)
  refine (Any.slices_SortFunc sortI encN (fun _ => rfl) (cfQ N Q n) (swoQ N Q n) 55 _ blk 0 cap d w eg hcmp hH hblk (by omega)).mono fun e w' ⟨he, d', m, os, hp, hs, hw⟩ => ⟨he, d', hp.1, ?_, ?_, ?_⟩
  · rw [sorted_unique_holds (swoQ N Q n) (totQ N Q n) d d' hp hs]
    congr 1
    funext x y
    rw [ltQ_is]
  · rw [hw]
    exact (SW.on (SW.start hH) hblk m d' os hp.1).holds hblk hH hp.1
  · rw [hw]
    exact just_sort1 encN w blk 0 m d' os
end Go.Proofs.YtahcplddonipcaaGreat.Tr
