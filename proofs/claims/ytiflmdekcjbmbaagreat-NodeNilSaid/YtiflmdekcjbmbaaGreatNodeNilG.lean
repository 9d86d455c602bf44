/-
  Law NodeNil: a node that there isn't: each call's answer; the call returns true. No condition.
-/
import Derived.Test.YtiflmdekcjbmbaaGreatGNodeNil27
import Derived.Test.YtiflmdekcjbmbaaGreatGNodeNil05
import Derived.Test.YtiflmdekcjbmbaaGreatGNodeNil20
set_option maxRecDepth 100000
namespace Go.Proofs.YtiflmdekcjbmbaaGreat.NodeNil
set_option linter.unusedVariables false
set_option linter.unusedSimpArgs false
open Go.RowKit Go.ChangeShapes Go.WideShapes Lb Nd Ie
theorem own : ownKnob Tryz.prog.godebug = none := by kernel_rfl
theorem laidOut : laidOutB Tryz.prog = true := by kernel_rfl
section
variable {H : Type} {enc : TypeId × Value → H} {w : World} {base : Nat}
theorem open_callN {v : Value} {d : DataW H} {pl : List MemPlace} (hv : Value.okWide Tryz.prog w .any base 41 v)
    (h : DataW.Trod enc Tryz.prog w 0 (fun _ => true) true 41 v d pl) : ∃ (z0 z1 z2 z3 : Int) (y : List Value) (a : Option Addr) (n c : Nat), v = .agg (([.int .i64 z0, .int .i64 z1, .int .i64 z2, .int .i64 z3] ++ y ++ [.slice a n c] : List Value)).toArray ∧ y.length = 12 := by
  have hC : Tryz.prog.cellsOf 41 = 17 := by kernel_rfl
  have hI : Tryz.prog.cellsOf 3 = 1 := by kernel_rfl
  have hJ : Tryz.prog.cellsOf 2 = 1 := by kernel_rfl
  have hF : Tryz.prog.cellsOf 37 = 6 := by kernel_rfl
  have hP : Tryz.prog.cellsOf 39 = 6 := by kernel_rfl
  have hB : Tryz.prog.cellsOf 35 = 1 := by kernel_rfl
  obtain ⟨cs, rfl, hsz⟩ := okWide_struct Tryz.underlying41 hv
  rw [hC] at hsz
  obtain ⟨l⟩ := cs
  match l, hsz with
  | [x0, x1, x2, x3, x4, x5, x6, x7, x8, x9, x10, x11, x12, x13, x14, x15, x16], _ =>
  obtain ⟨fuel, hf⟩ := h
  obtain ⟨xs, k, _, _, _, hlen, hfs⟩ := DataW.trod_struct Tryz.underlying41 hf
  match xs, hlen with
  | [y0, y1, y2, y3, y4, y5, y6], _ =>
  obtain ⟨z0, e0, _, w0⟩ := DataW.trod_int Tryz.underlying3 (hfs 0 _ rfl)
  obtain ⟨z1, e1, _, w1⟩ := DataW.trod_int Tryz.underlying3 (hfs 1 _ rfl)
  obtain ⟨z2, e2, _, w2⟩ := DataW.trod_int Tryz.underlying3 (hfs 2 _ rfl)
  obtain ⟨z3, e3, _, w3⟩ := DataW.trod_int Tryz.underlying2 (hfs 3 _ rfl)
  have e6 := hfs 6 _ rfl
  simp [Value.cells, hI, hJ, hF, hP, hB] at e0 e1 e2 e3 e6
  subst e0 e1 e2 e3
  obtain ⟨b, m, e, Y, rfl, k1, k2, k3, k4⟩ := open_cell Tryz.underlying35 Tryz.underlying5 (by kernel_rfl) e6
  exact ⟨z0, z1, z2, z3, [x4, x5, x6, x7, x8, x9, x10, x11, x12, x13, x14, x15], b, m, e, rfl, rfl⟩
end
set_option maxHeartbeats 4000000 in
theorem body (z0 z1 z2 z3 : Int) (y : List Value) (a : Option Addr) (n c : Nat) (hy : y.length = 12) (w : World) :
    Calls Tryz.prog 4 #[.agg (([.int .i64 z0, .int .i64 z1, .int .i64 z2, .int .i64 z3] ++ y ++ [.slice a n c] : List Value)).toArray] w fun r w' => r = .returned (.bool true) ∧ Below w.heap.size w w' := by
  obtain ⟨Z, hZ⟩ : ∃ Z : Array Value, ([.int .i64 z0, .int .i64 z1, .int .i64 z2, .int .i64 z3] ++ y ++ [.slice a n c] : List Value).toArray = Z := ⟨_, rfl⟩
  have h1 : Z[1]? = some (.int .i64 z1) := by rw [← hZ]; rfl
  have h2 : Z[2]? = some (.int .i64 z2) := by rw [← hZ]; rfl
  have h3 : Z[3]? = some (.int .i64 z3) := by rw [← hZ]; rfl
  have h16 : Z[16]? = some (.slice a n c) := by
    rw [← hZ]
    match y, hy with
    | [x4, x5, x6, x7, x8, x9, x10, x11, x12, x13, x14, x15], _ => rfl
  rw [hZ]
  clear hZ hy
  have b0 := (Below.refl w.heap.size w).alloc (Nat.le_refl _) (.cells Z 41)
  have o0 := Own.new w 41 Z
  go_enter Tryz.func4, Tryz.ntmps4
  go_upto_region 2 with (fail)
  obtain ⟨xb, hxb⟩ : ∃ q, w.heap.size = q := ⟨_, rfl⟩
  have HB := Lib.hid b0
  rw [hxb] at o0 ⊢
  clear b0 hxb
  generalize w.alloc (.cells Z 41) = wx at *
  have c1 : wx.cell? ⟨xb, 1, none⟩ = some (.int .i64 z1) := (o0.cell 1).trans h1
  have c2 : wx.cell? ⟨xb, 2, none⟩ = some (.int .i64 z2) := (o0.cell 2).trans h2
  have c3 : wx.cell? ⟨xb, 3, none⟩ = some (.int .i64 z3) := (o0.cell 3).trans h3
  have c16 : wx.cell? ⟨xb, 16, none⟩ = some (.slice a n c) := (o0.cell 16).trans h16
  have hxl := o0.lt
  clear o0 h1 h2 h3 h16
  go_wp2_with fail
  refine (slot_nil z3 z1 wx).mono ?_
  rintro r w' ⟨rfl, rfl⟩
  go_wp2_with fail
  refine (reboot_nil wx).mono ?_
  rintro r w' ⟨rfl, rfl⟩
  go_wp2_with fail
  refine (plan_nil z3 wx).mono ?_
  rintro r w' ⟨rfl, rfl⟩
  go_wp2_with fail
  refine (hear_nil z3 z2 a n c wx).mono ?_
  rintro r w' ⟨rfl, rfl⟩
  go_wp2_with fail
  refine (send_nil z3 z1 a n c wx).mono ?_
  rintro r w' ⟨rfl, rfl⟩
  go_wp2_with fail
  have d2 : ∀ z : Gw wx, z.toW.cell? ⟨xb, 2, none⟩ = some (.int .i64 z2) := fun z => (z.ok.cell (p := ⟨xb, 2, none⟩) hxl).trans c2
  have d3 : ∀ z : Gw wx, z.toW.cell? ⟨xb, 3, none⟩ = some (.int .i64 z3) := fun z => (z.ok.cell (p := ⟨xb, 3, none⟩) hxl).trans c3
  have d16 : ∀ z : Gw wx, z.toW.cell? ⟨xb, 16, none⟩ = some (.slice a n c) := fun z => (z.ok.cell (p := ⟨xb, 16, none⟩) hxl).trans c16
  clear c1 c2 c3 c16
  refine wp_region_grow wx (Below.refl _ _) [.is (.int .i64 (-1)), .is (.bool true), .is (.bool true), .is (.slice none 0 0), .is (.int .i64 0), .is (.slice none 0 0), .is (.int .i64 0), .is (.int .i64 0), .is (.slice none 0 0), .is (.int .i64 0), .is (.int .i64 0), .is (.pointer none), .is (.pointer (some ⟨xb, 3, none⟩)), .is (.int .i64 z3), .is (.pointer (some ⟨xb, 16, none⟩)), .is (.slice a n c), .is (.pointer (some ⟨xb, 2, none⟩)), .is (.int .i64 z2), .is (.slice none 0 0), .is (.int .i64 0), .is (.int .i64 0), .is (.pointer none), .is (.pointer (some ⟨xb, 3, none⟩)), .is (.int .i64 z3), .is (.slice none 0 0), .is (.int .i64 0), .is (.int .i64 0), .is (.bool true), .is (.bool true), .is (.bool true), .is (.int .i64 0), .is (.bool true), .is (.bool true), .is (.bool true), .is (.int .i64 1), .is (.bool true), .is (.bool true), .is (.bool true), .is (.pointer none), .is (.bool false), .is (.bool true), .is (.bool true), .is (.bool true), .is (.pointer none), .is (.int .i64 255), .is (.bool true), .is (.bool true), .is (.bool true), .is (.pointer none), .is (.slice none 0 0), .is (.int .i64 0), .is (.bool true), .is (.bool true), .is (.bool true), .is (.pointer none), .is (.int .i64 0), .is (.bool true), .is (.bool true), .is (.bool true), .is (.pointer none), .is (.int .i64 0), .is (.bool true), .is (.bool true), .is (.bool true), .is (.bool true), .is (.bool true), .is (.bool true)] [] (by kernel_rfl) (by kernel_rfl) rfl (by kernel_rfl) ?_
  iterate 18
    refine kd_is (by rfl) (fun z hz K Q hK => ?_) ?_
    · go_big_op
      exact hK _ _ rfl rfl
    simp only [Act.put, List.setIfInBounds_toArray, List.set_cons_zero, List.set_cons_succ]
  refine kd_isc (by rfl) (fun z hz K Q hK => ?_) ?_
  · go_big_op
    refine (ack_nil z3 z2 a n c z.toW).mono ?_
    rintro r w' ⟨rfl, rfl⟩
    exact hK _ _ rfl (Below.refl _ _)
  simp only [Act.put, List.setIfInBounds_toArray, List.set_cons_zero, List.set_cons_succ]
  iterate 5
    refine kd_is (by rfl) (fun z hz K Q hK => ?_) ?_
    · go_big_op
      exact hK _ _ rfl rfl
    simp only [Act.put, List.setIfInBounds_toArray, List.set_cons_zero, List.set_cons_succ]
  refine kd_isc (by rfl) (fun z hz K Q hK => ?_) ?_
  · go_big_op
    refine (end_nil z3 z.toW).mono ?_
    rintro r w' ⟨rfl, rfl⟩
    exact hK _ _ rfl (Below.refl _ _)
  simp only [Act.put, List.setIfInBounds_toArray, List.set_cons_zero, List.set_cons_succ]
  iterate 14
    refine kd_is (by rfl) (fun z hz K Q hK => ?_) ?_
    · go_big_op
      exact hK _ _ rfl rfl
    simp only [Act.put, List.setIfInBounds_toArray, List.set_cons_zero, List.set_cons_succ]
  refine kd_isc (by rfl) (fun z hz K Q hK => ?_) ?_
  · go_big_op
    refine (synced_nil z.toW).mono ?_
    rintro r w' ⟨rfl, rfl⟩
    exact hK _ _ rfl (Below.refl _ _)
  simp only [Act.put, List.setIfInBounds_toArray, List.set_cons_zero, List.set_cons_succ]
  iterate 4
    refine kd_is (by rfl) (fun z hz K Q hK => ?_) ?_
    · go_big_op
      exact hK _ _ rfl rfl
    simp only [Act.put, List.setIfInBounds_toArray, List.set_cons_zero, List.set_cons_succ]
  refine kd_isc (by rfl) (fun z hz K Q hK => ?_) ?_
  · go_big_op
    refine (rank_nil z.toW).mono ?_
    rintro r w' ⟨rfl, rfl⟩
    exact hK _ _ rfl (Below.refl _ _)
  simp only [Act.put, List.setIfInBounds_toArray, List.set_cons_zero, List.set_cons_succ]
  iterate 4
    refine kd_is (by rfl) (fun z hz K Q hK => ?_) ?_
    · go_big_op
      exact hK _ _ rfl rfl
    simp only [Act.put, List.setIfInBounds_toArray, List.set_cons_zero, List.set_cons_succ]
  refine kd_isc (by rfl) (fun z hz K Q hK => ?_) ?_
  · go_big_op
    refine (parents_nil z.toW).mono ?_
    rintro r w' ⟨rfl, rfl⟩
    exact hK _ _ rfl (Below.refl _ _)
  simp only [Act.put, List.setIfInBounds_toArray, List.set_cons_zero, List.set_cons_succ]
  iterate 5
    refine kd_is (by rfl) (fun z hz K Q hK => ?_) ?_
    · go_big_op
      exact hK _ _ rfl rfl
    simp only [Act.put, List.setIfInBounds_toArray, List.set_cons_zero, List.set_cons_succ]
  refine kd_isc (by rfl) (fun z hz K Q hK => ?_) ?_
  · go_big_op
    refine (off_nil z.toW).mono ?_
    rintro r w' ⟨rfl, rfl⟩
    exact hK _ _ rfl (Below.refl _ _)
  simp only [Act.put, List.setIfInBounds_toArray, List.set_cons_zero, List.set_cons_succ]
  iterate 4
    refine kd_is (by rfl) (fun z hz K Q hK => ?_) ?_
    · go_big_op
      exact hK _ _ rfl rfl
    simp only [Act.put, List.setIfInBounds_toArray, List.set_cons_zero, List.set_cons_succ]
  refine kd_isc (by rfl) (fun z hz K Q hK => ?_) ?_
  · go_big_op
    refine (waiting_nil z.toW).mono ?_
    rintro r w' ⟨rfl, rfl⟩
    exact hK _ _ rfl (Below.refl _ _)
  simp only [Act.put, List.setIfInBounds_toArray, List.set_cons_zero, List.set_cons_succ]
  iterate 3
    refine kd_is (by rfl) (fun z hz K Q hK => ?_) ?_
    · go_big_op
      exact hK _ _ rfl rfl
    simp only [Act.put, List.setIfInBounds_toArray, List.set_cons_zero, List.set_cons_succ]
  refine kd_isc (by rfl) (fun z hz K Q hK => ?_) ?_
  · go_big_op
    refine (awake24_any z.toW).mono ?_
    rintro r w' ⟨rfl, b9⟩
    exact hK _ _ rfl b9
  simp only [Act.put, List.setIfInBounds_toArray, List.set_cons_zero, List.set_cons_succ]
  iterate 2
    refine kd_is (by rfl) (fun z hz K Q hK => ?_) ?_
    · go_big_op
      exact hK _ _ rfl rfl
    simp only [Act.put, List.setIfInBounds_toArray, List.set_cons_zero, List.set_cons_succ]
  refine kd_nil (fun z hz => ?_)
  have b9 := z.ok
  clear hz d2 d3 d16
  generalize z.toW = wq at *
  go_wp2_with fail
  go_ret
  exact ⟨rfl, HB.out.trans (b9.mono HB.out.size)⟩
theorem walk (H : Type) (enc : TypeId × Value → H) : Walk H enc Tryz.prog 4 Tryz.f4 := by
  intro W base args ds p hval hA
  rw [Tryz.params4] at hA hval
  obtain ⟨v0, d0, rfl, rfl, h0⟩ := trodAll_one hA
  obtain ⟨z0, z1, z2, z3, y, a, n, c, rfl, hy⟩ := open_callN (hval 0 _ v0 rfl rfl) h0
  exact body z0 z1 z2 z3 y a n c hy W

set_option maxRecDepth 100000 in
theorem lifted (os : Os) (started : os.Started) (H : Type) (enc : TypeId × Value → H) :
    ReturnsInHanded {} Tryz.checked os 4 .any (Rows.nodeNilSpec.pre6 enc Tryz.prog Tryz.f4 Rows.nodeNilRow.domain false) (Rows.nodeNilSpec.post enc Tryz.prog Tryz.f4 false true false false) :=
  returnsInHanded_of_change (C := Tryz.checked) own started (by kernel_rfl) Tryz.func4
    (ChangeSpec.witness6 (enc := enc) (C := Tryz.checked) false ⟨#[], #[.agg #[.int .i64 0, .int .i64 0, .int .i64 0, .int .i64 0, .int .i64 0, .int .i64 0, .int .i64 0, .int .i64 0, .slice none 0 0, .slice none 0 0, .int .i64 0, .int .i64 0, .int .i64 0, .int .i64 0, .slice none 0 0, .slice none 0 0, .slice none 0 0]], []⟩ 8 (by kernel_rfl) (by kernel_rfl) (by kernel_rfl) (by kernel_rfl))
    fun W base args ds gs before hval hW _ _ => step_of_walk laidOut (by rw [Tryz.params4]; exact of_decide_eq_true (by kernel_rfl)) (by kernel_rfl) Tryz.underlying4 rfl
      (fun ds h => by
        rw [Tryz.params4] at h
        match ds, h with
        | [_], _ => rfl) (walk H enc) W base args ds gs before hval hW

theorem holds : Rows.NodeNilSaid :=
  OpenClaim.holds_of_wide 4 Tryz.f4 rfl rfl rfl rfl rfl rfl rfl ⟨rfl, rfl, rfl, rfl, rfl⟩ rfl rfl rfl rfl rfl (by kernel_rfl) Tryz.func4 (by kernel_rfl)
    (of_decide_eq_true (by kernel_rfl)) (by unfold Func.isWrapper; first | (rw [if_pos (by decide +kernel)]; kernel_rfl) | (rw [if_neg (by decide +kernel)]; exact ⟨rfl, rfl⟩))
    (fun os started H enc _ => lifted os started H enc)
#print axioms holds
end Go.Proofs.YtiflmdekcjbmbaaGreat.NodeNil
