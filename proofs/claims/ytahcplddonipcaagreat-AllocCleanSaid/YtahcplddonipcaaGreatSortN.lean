/-
  slices.Sort at int: the shelf's contract, over a slice that is owned.
-/
import Derived.Test.YtahcplddonipcaaGreatOwn
import Derived.Ground.NamesProg
import Derived.Shelf.Slices.In.SortNone
import Derived.Sort.EveryDepth
import Derived.Sort.OwnSortedInts
set_option maxRecDepth 100000
namespace Go.Proofs
set_option linter.unusedVariables false
set_option linter.unusedSimpArgs false
open Go.Shelf
def Tryz.laysSort_ren : Go.Shelf.Ren := ⟨fun | 189 => 26 | 125 => 50 | 257 => 52 | 128 => 74 | 129 => 75 | 294 => 77 | 295 => 78 | 296 => 79 | 297 => 80 | 298 => 81 | 299 => 82 | 216 => 83 | 300 => 84 | 301 => 85 | 328 => 103 | 329 => 99 | 330 => 100 | 331 => 104 | 332 => 105 | 215 => 63 | 343 => 121 | n => n, fun | 28 => 29 | 3 => 3 | 46 => 108 | 0 => 0 | 51 => 124 | 53 => 46 | 4 => 4 | 183 => 117 | 182 => 116 | 131 => 121 | 5 => 5 | 9 => 9 | 218 => 139 | 222 => 143 | 228 => 153 | 229 => 154 | n => n, fun | n => n⟩
theorem Tryz.laysSort : Go.Proofs.Lays.n189 Tryz.prog Tryz.laysSort_ren := {
  mixed := by kernel_rfl
  f125 := Tryz.func50.trans (congrArg some (by kernel_rfl))
  f128 := Tryz.func74.trans (congrArg some (by kernel_rfl))
  f129 := Tryz.func75.trans (congrArg some (by kernel_rfl))
  f189 := Tryz.func26.trans (congrArg some (by kernel_rfl))
  f215 := Tryz.func63.trans (congrArg some (by kernel_rfl))
  f216 := Tryz.func83.trans (congrArg some (by kernel_rfl))
  f257 := Tryz.func52.trans (congrArg some (by kernel_rfl))
  f294 := Tryz.func77.trans (congrArg some (by kernel_rfl))
  f295 := Tryz.func78.trans (congrArg some (by kernel_rfl))
  f296 := Tryz.func79.trans (congrArg some (by kernel_rfl))
  f297 := Tryz.func80.trans (congrArg some (by kernel_rfl))
  f298 := Tryz.func81.trans (congrArg some (by kernel_rfl))
  f299 := Tryz.func82.trans (congrArg some (by kernel_rfl))
  f300 := Tryz.func84.trans (congrArg some (by kernel_rfl))
  f301 := Tryz.func85.trans (congrArg some (by kernel_rfl))
  f328 := Tryz.func103.trans (congrArg some (by kernel_rfl))
  f329 := Tryz.func99.trans (congrArg some (by kernel_rfl))
  f330 := Tryz.func100.trans (congrArg some (by kernel_rfl))
  f331 := Tryz.func104.trans (congrArg some (by kernel_rfl))
  f332 := Tryz.func105.trans (congrArg some (by kernel_rfl))
  f343 := Tryz.func121.trans (congrArg some (by kernel_rfl))
  t0 := Tryz.underlying0
  a0 := Tryz.isAgg0
  z0 := Tryz.sizeOf0
  v0 := Tryz.zeroValue0
  t3 := Tryz.underlying3
  a3 := Tryz.isAgg3
  z3 := Tryz.sizeOf3
  v3 := Tryz.zeroValue3
  t4 := Tryz.underlying4
  a4 := Tryz.isAgg4
  z4 := Tryz.sizeOf4
  v4 := Tryz.zeroValue4
  t5 := Tryz.underlying5
  a5 := Tryz.isAgg5
  z5 := Tryz.sizeOf5
  v5 := Tryz.zeroValue5
  t9 := Tryz.underlying9
  a9 := Tryz.isAgg9
  z9 := Tryz.sizeOf9
  v9 := Tryz.zeroValue9
  t28 := Tryz.underlying29
  a28 := Tryz.isAgg29
  z28 := Tryz.sizeOf29
  v28 := Tryz.zeroValue29
  t46 := Tryz.underlying108
  a46 := Tryz.isAgg108
  z46 := Tryz.sizeOf108
  v46 := Tryz.zeroValue108
  t51 := Tryz.underlying124
  a51 := Tryz.isAgg124
  z51 := Tryz.sizeOf124
  v51 := Tryz.zeroValue124
  t53 := Tryz.underlying46
  a53 := Tryz.isAgg46
  z53 := Tryz.sizeOf46
  v53 := Tryz.zeroValue46
  t131 := Tryz.underlying121
  a131 := Tryz.isAgg121
  z131 := Tryz.sizeOf121
  v131 := Tryz.zeroValue121
  t182 := Tryz.underlying116
  a182 := Tryz.isAgg116
  z182 := Tryz.sizeOf116
  v182 := Tryz.zeroValue116
  t183 := Tryz.underlying117
  a183 := Tryz.isAgg117
  z183 := Tryz.sizeOf117
  v183 := Tryz.zeroValue117
  t218 := Tryz.underlying139
  a218 := Tryz.isAgg139
  z218 := Tryz.sizeOf139
  v218 := Tryz.zeroValue139
  t222 := Tryz.underlying143
  a222 := Tryz.isAgg143
  z222 := Tryz.sizeOf143
  v222 := Tryz.zeroValue143
  t228 := Tryz.underlying153
  a228 := Tryz.isAgg153
  z228 := Tryz.sizeOf153
  v228 := Tryz.zeroValue153
  t229 := Tryz.underlying154
  a229 := Tryz.isAgg154
  z229 := Tryz.sizeOf154
  v229 := Tryz.zeroValue154 }
end Go.Proofs
namespace Go.Proofs.YtahcplddonipcaaGreat.Al
set_option linter.unusedVariables false
set_option linter.unusedSimpArgs false
open Go.RowKit Lb Go.Shelf Go.Sort

def srtZ (zs : List Int) : List Int := zs.mergeSort fun x y => decide (x ≤ y)
def zval (zs : List Int) (j : Nat) : Value := .int .i64 (zs.getD j 0)
theorem zlist (zs : List Int) : (List.range zs.length).map (zval zs) = zs.map (Value.int .i64) := by
  apply List.ext_getElem
  · simp
  · intro i h1 h2
    simp at h1
    simp [zval, List.getD, h1]
theorem sort_ints (base n : Nat) (v : Value) (zs : List Int) (w : World) (h : Mine w base 3 v n (zval zs)) (hz : zs.length = n) (hn : n ≤ 1000) :
    Calls Tryz.prog 26 #[v] w fun r w' => r = .returned (.tuple #[]) ∧ Mine w' base 3 v n (zval (srtZ zs)) ∧ w.grownBy w' v.ownBlock := by
  subst hz
  have hs : (srtZ zs).length = zs.length := List.length_mergeSort _
  unfold Mine at h
  rw [zlist] at h
  obtain ⟨h1, h2⟩ := id h
  by_cases h0 : zs.length = 0
  · obtain rfl : zs = [] := List.length_eq_zero_iff.1 h0
    have hv : ∃ p cap, v = .slice p 0 cap := by
      rcases h2 with ⟨hv, _⟩ | ⟨g, cap, cur, hv, _⟩
      · exact ⟨_, _, hv⟩
      · exact ⟨_, _, hv⟩
    obtain ⟨p, cap, rfl⟩ := hv
    refine (calls_of_every_depth fun D => AnyS.slices_Sort_int_none_alone Tryz.laysSort D p cap w).mono ?_
    rintro r w' ⟨rfl, rfl⟩
    exact ⟨rfl, h, World.grownBy.refl _ _⟩
  · rcases h2 with ⟨_, hv⟩ | ⟨g, cap, cur, rfl, hg, hh, hc, hm, hsz, ht⟩
    · exact absurd (by simpa using hv) h0
    · rw [Nat.mul_one] at ht
      have hH : Holds (Value.int .i64) w g 0 zs.toArray := holds_of_blockI hh ht
      have hgl : g < w.heap.size := (Array.getElem?_eq_some_iff.1 hh).1
      refine (calls_of_every_depth fun D => AnyS.slices_Sort_int_alone Tryz.laysSort D g 0 cap zs w hH hgl (by omega)).mono ?_
      rintro r w' ⟨rfl, q, os, rfl⟩
      refine ⟨rfl, ?_, grownBy_sortedI _⟩
      unfold Mine
      have hl := zlist (srtZ zs)
      rw [hs] at hl
      rw [hl]
      exact ownsRow_sortedI hs hg hh hc hm hsz
end Go.Proofs.YtahcplddonipcaaGreat.Al
