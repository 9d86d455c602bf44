/-
  Rows of cells in order, by alloc.byLess (chapter 22).
-/
import Derived.Test.YtahcplddonipcaaGreatVeSort
set_option maxRecDepth 100000
namespace Go.Proofs.YtahcplddonipcaaGreat.Al
set_option linter.unusedVariables false
set_option linter.unusedSimpArgs false
open Go.RowKit Lb Cl Ce Mi Ve Go.Sort Go.Shelf Go.Lib
theorem byless_any (x y : C) (w : World) :
    Calls Tryz.prog 25 #[.agg #[.int .i64 x.f, .int .i64 x.s, .int .i64 x.c, .int .i64 x.o, .int .i64 x.p], .agg #[.int .i64 y.f, .int .i64 y.s, .int .i64 y.c, .int .i64 y.o, .int .i64 y.p]] w fun r w' => r = .returned (.int .i64 (cfV x y)) ∧ Gw w w' := by
  have h1 := fun w => less_grow x y w
  have h2 := fun w => less_grow y x w
  have HD : Hid (cfV x y = if decide (cf x y < 0) = true then -1 else if decide (cf y x < 0) = true then 1 else 0) := Lib.hid (by unfold cfV; simp)
  obtain ⟨q1, hq1⟩ : ∃ q, decide (cf x y < 0) = q := ⟨_, rfl⟩
  obtain ⟨q2, hq2⟩ : ∃ q, decide (cf y x < 0) = q := ⟨_, rfl⟩
  rw [hq1] at h1 HD
  rw [hq2] at h2 HD
  clear hq1 hq2
  obtain ⟨x1, x2, x3, x4, x5⟩ := x
  obtain ⟨y1, y2, y3, y4, y5⟩ := y
  have b0 : Gw w _ := ((Gw.refl w).alloc (.cells #[.int .i64 x1, .int .i64 x2, .int .i64 x3, .int .i64 x4, .int .i64 x5] 50)).alloc (.cells #[.int .i64 y1, .int .i64 y2, .int .i64 y3, .int .i64 y4, .int .i64 y5] 50)
  have k1 := (Own.new w 50 #[.int .i64 x1, .int .i64 x2, .int .i64 x3, .int .i64 x4, .int .i64 x5]).alloc (.cells #[.int .i64 y1, .int .i64 y2, .int .i64 y3, .int .i64 y4, .int .i64 y5] 50)
  have k2 := Own.new (w.alloc (.cells #[.int .i64 x1, .int .i64 x2, .int .i64 x3, .int .i64 x4, .int .i64 x5] 50)) 50 #[.int .i64 y1, .int .i64 y2, .int .i64 y3, .int .i64 y4, .int .i64 y5]
  rw [show (w.alloc (.cells #[.int .i64 x1, .int .i64 x2, .int .i64 x3, .int .i64 x4, .int .i64 x5] 50)).heap.size = w.heap.size + 1 by simp] at k2
  go_enter Tryz.func25, Tryz.ntmps25
  go_wp2_with fail
  generalize (w.alloc (.cells #[.int .i64 x1, .int .i64 x2, .int .i64 x3, .int .i64 x4, .int .i64 x5] 50)).alloc (.cells #[.int .i64 y1, .int .i64 y2, .int .i64 y3, .int .i64 y4, .int .i64 y5] 50) = w0 at *
  refine (h1 _).mono ?_
  rintro r w1 ⟨rfl, g1⟩
  have b1 := b0.trans g1
  have o1 := below_own g1.below k1 k1.lt
  have o2 := below_own g1.below k2 k2.lt
  have d0 := o1.cell 0
  have d1 := o1.cell 1
  have d2 := o1.cell 2
  have d3 := o1.cell 3
  have d4 := o1.cell 4
  have f0 := o2.cell 0
  have f1 := o2.cell 1
  have f2 := o2.cell 2
  have f3 := o2.cell 3
  have f4 := o2.cell 4
  simp only [List.size_toArray, List.length_cons, List.length_nil, Nat.reduceAdd, Nat.reduceLT, getElem?_pos, List.getElem_toArray, List.getElem_cons_zero, List.getElem_cons_succ] at d0 d1 d2 d3 d4 f0 f1 f2 f3 f4
  cases q1
  rotate_left 1
  · go_wp2_with fail
    go_ret
    exact ⟨by rw [HD.out]; rfl, b1⟩
  go_wp2_with fail
  refine (h2 _).mono ?_
  rintro r w2 ⟨rfl, g2⟩
  have b2 := b1.trans g2
  cases q2
  · go_wp2_with fail
    go_ret
    exact ⟨by rw [HD.out]; rfl, b2⟩
  · go_wp2_with fail
    go_ret
    exact ⟨by rw [HD.out]; rfl, b2⟩
theorem just_sortA {α : Type} [Inhabited α] (enc : α → List Value) (k : Nat) (w : World) (blk off n : Nat) (dk : Array α) (os : Array Obj) : Just blk w (sortWorldK enc k w blk off n dk os) := by
  refine ⟨rfl, rfl, rfl, size_sortWorldK_c enc k w blk off n dk os, fun b hb hne => ?_⟩
  show ((w.heap.modify blk (onCells (putCells id off (flatK enc k dk)))) ++ os)[b]? = w.heap[b]?
  rw [Array.getElem?_append_left (by simpa using hb)]
  rw [Array.getElem?_modify, if_neg (fun e => hne e.symm)]
/-- A row in order. -/
def srtA (l : List C) : List C := l.mergeSort fun x y => !(ltOf cfV) y x
theorem flat_lvA {l : List C} {j : Nat} (hj : j < l.length * 5) : (flatK encC 5 l.toArray)[j]! = lv l j := by
  have hi : j / 5 < l.length := by omega
  rw [get_flatK _ _ _ _ (by simpa using hj)]
  have e : l.toArray[j / 5]! = at_ l (j / 5) := by
    unfold at_
    rw [List.getD_eq_getElem?_getD, List.getElem?_eq_getElem hi, getElem!_pos l.toArray (j / 5) (by simpa using hi)]
    rfl
  unfold lv cv C.vals
  rw [e]
  unfold encC
  rcases (show j % 5 = 0 ∨ j % 5 = 1 ∨ j % 5 = 2 ∨ j % 5 = 3 ∨ j % 5 = 4 by omega) with h | h | h | h | h <;> rw [h] <;> rfl
theorem srtA_len (l : List C) : (srtA l).length = l.length := List.length_mergeSort _
theorem srtA_nil {l : List C} : srtA l = [] ↔ l = [] := by
  rw [← List.length_eq_zero_iff, srtA_len, List.length_eq_zero_iff]
/-- The sort, over a row of the call's own. -/
theorem sort_mine (base : Nat) (v : Value) (l : List C) (w : World) (h : MineK w base 50 5 v l.length (lv l)) (h0 : 0 < l.length) (hn : l.length ≤ 100000) :
    Calls Tryz.prog 24 #[v, .func (.func 25) #[] #[]] w fun r w' => r = .returned (.tuple #[]) ∧ ∃ g c, v = .slice (some ⟨g, 0, none⟩) l.length c ∧ base ≤ g ∧ l.length ≤ c ∧ c ≤ maxLen ∧ Row w' (some ⟨g, 0, none⟩) ((srtA l).length * 5) (lv (srtA l)) ∧ (∃ cs, Own w' g 50 cs) ∧ Just g w w' := by
  obtain ⟨g, c1, cs, rfl, hg, ho, h1, h2, h3, h4⟩ := h.block h0
  have hh : HoldsK encC 5 w g 0 l.toArray := by
    intro j hj
    have hj2 : j < l.length * 5 := by simpa using hj
    refine ⟨?_, ho.free _⟩
    rw [Nat.zero_add, ho.cell, h4 j hj2, flat_lvA hj2]
    rfl
  have eg : ∀ args w, (callFunc 25 args).run Tryz.prog w = .ok (.enter 25 args) w := enters_of Tryz.func25 (by kernel_rfl) rfl
  have hcmp : CmpLays Tryz.prog 25 #[] encC 5 cfV g 0 l.toArray.size w := fun m os dk _ x y => byless_any x y _
  have hcon := AnyQ.slices_SortFunc_total sortC 5 (fun w => by kernel_rfl) (fun w => by kernel_rfl) encC (fun _ => rfl) (fun x v hv => by simp [encC] at hv; rcases hv with rfl | rfl | rfl | rfl | rfl <;> rfl) cfV swoV 25 #[] g 0 c1 l.toArray w eg hcmp hh ho.lt (by simp; omega) totV
  rw [List.size_toArray] at hcon
  refine hcon.mono ?_
  rintro r w2 ⟨rfl, n, os, hw⟩
  have j2 : Just g w w2 := by rw [hw]; exact just_sortA encC 5 w g 0 n _ os
  have hl2 := srtA_len l
  have hh2 : HoldsK encC 5 w2 g 0 (srtA l).toArray := by
    rw [hw]
    exact holdsK_sortWorldK encC 5 w g 0 n l.toArray _ os ho.lt hh (by simp [hl2])
  have hown : ∃ cs, Own w2 g 50 cs := by
    have ho' : w.heap[g]? = some _ := ho
    have e : w2.heap[g]? = (some (Obj.cells cs 50 (0, 0))).map (onCells (putCells id 0 (flatK encC 5 (srtA l).toArray))) := by
      rw [hw]
      show ((w.heap.modify g (onCells (putCells id 0 (flatK encC 5 (srtA l).toArray)))) ++ os)[g]? = _
      rw [Array.getElem?_append_left (by simpa using ho.lt), Array.getElem?_modify, if_pos rfl, ho']
    exact ⟨_, e⟩
  refine ⟨rfl, g, c1, rfl, hg, h1, h2, fun _ => ⟨g, 0, rfl, Nat.lt_of_lt_of_le ho.lt j2.size, fun j hj => ?_⟩, hown, j2⟩
  have := (hh2 j (by simpa using hj)).1
  rw [this, flat_lvA hj]
  rfl
end Go.Proofs.YtahcplddonipcaaGreat.Al
