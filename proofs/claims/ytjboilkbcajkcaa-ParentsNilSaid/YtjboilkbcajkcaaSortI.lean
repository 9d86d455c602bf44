/-
  slices.Sort at int: the shelf's contract, over a slice that is owned.
-/
import Derived.Test.YtjboilkbcajkcaaPaOld
import Derived.Ground.NamesProg
import Derived.Shelf.Lay
import Derived.Shelf.Slices.In.SortNone
import Derived.Sort.EveryDepth
import Derived.Sort.OwnSortedInts
set_option maxRecDepth 100000
namespace Go.Proofs
set_option linter.unusedVariables false
open Go.Shelf
shelf_lay Lays.n189 Nm 189 at Try as Try.laysSort
end Go.Proofs
namespace Go.Proofs.Ytjboilkbcajkcaa.Pa
set_option linter.unusedVariables false
open Go.RowKit Lb Go.Shelf Go.Sort

theorem zlist (zs : List Int) : (List.range zs.length).map (zval zs) = zs.map (Value.int .i64) := by
  apply List.ext_getElem
  · simp
  · intro i h1 h2
    simp at h1
    simp [zval, List.getD, h1]
theorem sort_ok : SortOk := by
  intro base n v zs w h hz hn
  subst hz
  have hs : (srtd zs).length = zs.length := List.length_mergeSort _
  unfold Mine at h
  rw [zlist] at h
  obtain ⟨h1, h2⟩ := id h
  by_cases h0 : zs.length = 0
  · obtain rfl : zs = [] := List.length_eq_zero_iff.1 h0
    have hv : ∃ p cap, v = .slice p 0 cap := by
      rcases h2 with ⟨hv, _⟩ | ⟨g, cap, cur, hv, _⟩
      · exact ⟨_, _, hv⟩
      · exact ⟨_, _, hv⟩
    obtain ⟨p, cap, rfl⟩ := hv
    refine (calls_of_every_depth fun D => AnyS.slices_Sort_int_none_alone Try.laysSort D p cap w).mono ?_
    rintro r w' ⟨rfl, rfl⟩
    exact ⟨rfl, h, World.grownBy.refl _ _⟩
  · rcases h2 with ⟨_, hv⟩ | ⟨g, cap, cur, rfl, hg, hh, hc, hm, hsz, ht⟩
    · exact absurd (by simpa using hv) h0
    · rw [Nat.mul_one] at ht
      have hH : Holds (Value.int .i64) w g 0 zs.toArray := holds_of_blockI hh ht
      have hgl : g < w.heap.size := (Array.getElem?_eq_some_iff.1 hh).1
      refine (calls_of_every_depth fun D => AnyS.slices_Sort_int_alone Try.laysSort D g 0 cap zs w hH hgl (by omega)).mono ?_
      rintro r w' ⟨rfl, q, os, rfl⟩
      refine ⟨rfl, ?_, grownBy_sortedI _⟩
      unfold Mine
      have hl := zlist (srtd zs)
      rw [hs] at hl
      rw [hl]
      exact ownsRow_sortedI hs hg hh hc hm hsz
end Go.Proofs.Ytjboilkbcajkcaa.Pa
