/-
  slices.SortFunc at links, by the closure of Report: the row holds the links, the best one first, then by the node.
-/
import Derived.Test.YtpapkcelgbnkaaaNeighCmp
import Derived.Shelf.SlSortCmp.NoneTotal
import Derived.Shelf.Lay
import Derived.Ground.SlsfProg
set_option maxRecDepth 100000
namespace Go.Proofs.Ytpapkcelgbnkaaa.Ng
set_option linter.unusedVariables false
open Go.RowKit Lb Go.Sort Go.Shelf Go.Lib
shelf_lay_g SlLaysF0.n6 Slsf 6 at Try 24 as sortL
/-- Links of node me: to whom, how well. -/
def encM (me : Int) (x : Int × Int) : List Value := [.int .i64 me, .int .i64 x.1, .int .i64 x.2]
def cfM (x y : Int × Int) : Int := orI (cmpI y.2 x.2) (cmpI x.1 y.1)
theorem ltM (x y : Int × Int) : ltOf cfM x y = decide (y.2 < x.2 ∨ (y.2 = x.2 ∧ x.1 < y.1)) := by
  unfold ltOf cfM orI cmpI
  by_cases h1 : y.2 < x.2
  · simp [h1]
  · by_cases h2 : x.2 < y.2
    · have : ¬ y.2 = x.2 := by omega
      simp [h1, h2, this]
    · have h3 : y.2 = x.2 := by omega
      by_cases h4 : x.1 < y.1
      · simp [h3, h4]
      · by_cases h5 : y.1 < x.1 <;> simp [h3, h4, h5]
theorem swoM : SWO (ltOf cfM) where
  irrefl x := by rw [ltM]; simp
  trans x y z h1 h2 := by rw [ltM] at *; simp at *; omega
  ntrans x y z h1 h2 := by rw [ltM] at *; simp at *; omega
theorem totM (x y : Int × Int) (h1 : ltOf cfM x y = false) (h2 : ltOf cfM y x = false) : x = y := by
  rw [ltM] at h1 h2
  simp at h1 h2
  exact Prod.ext (by omega) (by omega)
theorem just_sort {α : Type} [Inhabited α] (enc : α → List Value) (k : Nat) (w : World) (blk off n : Nat) (dk : Array α) (os : Array Obj) : Just blk w (sortWorldK enc k w blk off n dk os) := by
  refine ⟨rfl, rfl, rfl, size_sortWorldK_c enc k w blk off n dk os, fun b hb hne => ?_⟩
  show ((w.heap.modify blk (onCells (putCells id off (flatK enc k dk)))) ++ os)[b]? = w.heap[b]?
  rw [Array.getElem?_append_left (by simpa using hb)]
  rw [Array.getElem?_modify, if_neg (fun e => hne e.symm)]
theorem sort_any (me : Int) (blk cap : Nat) (d : Array (Int × Int)) (w : World) (hH : HoldsK (encM me) 3 w blk 0 d) (hblk : blk < w.heap.size) (hsz : d.size < 4611686018427387904) :
    Calls Try.prog 24 #[.slice (some ⟨blk, 0, none⟩) d.size cap, .func (.func 25) #[] #[]] w fun e w' =>
      e = .returned (.tuple #[]) ∧ HoldsK (encM me) 3 w' blk 0 (d.toList.mergeSort fun x y => !(ltOf cfM) y x).toArray ∧ Just blk w w' := by
  have eg : ∀ args w, (callFunc 25 args).run Try.prog w = .ok (.enter 25 args) w := enters_of Try.func25 (by kernel_rfl) rfl
  have hcmp : CmpLays Try.prog 25 #[] (encM me) 3 cfM blk 0 d.size w := fun m os dk _ x y => closure_any ⟨me, x.1, x.2⟩ ⟨me, y.1, y.2⟩ _
  have hcon := AnyQ.slices_SortFunc_total sortL 3 (fun w => by kernel_rfl) (fun w => by kernel_rfl) (encM me) (fun _ => rfl) (fun x v hv => by simp [encM] at hv; rcases hv with rfl | rfl | rfl <;> rfl) cfM swoM 25 #[] blk 0 cap d w eg hcmp hH hblk hsz totM
  refine hcon.mono fun e w' ⟨he, n, os, hw⟩ => ⟨he, ?_, ?_⟩
  · rw [hw]
    exact holdsK_sortWorldK (encM me) 3 w blk 0 n d _ os hblk hH (by simp)
  · rw [hw]
    exact just_sort (encM me) 3 w blk 0 n _ os
end Go.Proofs.Ytpapkcelgbnkaaa.Ng
