/-
  Package route: a path that every program must know.
-/
import Derived.Test.YtcpmnfoenpdaeaaRtDown
set_option maxRecDepth 100000
namespace Go.Proofs.Ytcpmnfoenpdaeaa.Rt
set_option linter.unusedVariables false
open Go.RowKit Lb Go.Shelf

def awp : Pk := ⟨1, 3, 0, 2, [0, 2, 3], [5]⟩
theorem aw_back : backL [3, 2, 0] = [0, 2, 3] := by decide
theorem aw_down : downR awp 2 = (lessP awp, 3, 0) := by rfl
theorem builtAw (g h : Nat) : Try.prog.built 25 [(0, .int .i64 1), (1, .int .i64 3), (3, .int .i64 2), (4, .slice (some ⟨g, 0, none⟩) 3 3), (5, .slice (some ⟨h, 0, none⟩) 1 1)] = some (awp.vals (some ⟨g, 0, none⟩) 3 (some ⟨h, 0, none⟩) 1) := by kernel_rfl
set_option maxHeartbeats 1000000 in
theorem awake_any (w : World) : Calls Try.prog 10 #[] w fun r w' => r = .returned (.bool true) ∧ Below w.heap.size w w' := by
  have r1 := row_new (n := 3) (V := zval [3, 2, 0]) w #[.int .i64 3, .int .i64 2, .int .i64 0] 3 (0, 0) (fun i hi => by rcases (show i = 0 ∨ i = 1 ∨ i = 2 by omega) with rfl | rfl | rfl <;> rfl)
  have b1 := (Below.refl w.heap.size w).alloc (Nat.le_refl _) (.cells #[.int .i64 3, .int .i64 2, .int .i64 0] 3)
  go_enter Try.func10, Try.ntmps10
  go_wp2_with fail
  refine (back_any (some ⟨w.heap.size, 0, none⟩) 3 [3, 2, 0] _ (by simp) (by unfold maxLen; omega) r1 (fun e => by cases e)).mono ?_
  rintro r w2 ⟨v2, rfl, m2, b2⟩
  rw [aw_back] at m2
  obtain ⟨a2, c2, rfl, hc2, hd2, hR2⟩ := m2.row
  have b3 := b1.trans (b2.mono b1.size)
  clear r1 b1 b2
  have x0 := hR2.at_ (k := 0) (by decide)
  have x2 := hR2.at_ (k := 2) (by decide)
  obtain ⟨pb, po, rfl, hpb, hcs⟩ := hR2 (by decide)
  have k0 : w2.cell? ⟨pb, po, none⟩ = some (.int .i64 0) := hcs 0 (by decide)
  have k2 : w2.cell? ⟨pb, po + 2, none⟩ = some (.int .i64 3) := hcs 2 (by decide)
  clear x0 x2 hcs m2 hR2
  have e1 := row_new (n := 3) (V := zval awp.path) w2 #[.int .i64 0, .int .i64 2, .int .i64 3] 3 (0, 0) (fun i hi => by rcases (show i = 0 ∨ i = 1 ∨ i = 2 by omega) with rfl | rfl | rfl <;> rfl)
  have f1 := (Below.refl w2.heap.size w2).alloc (Nat.le_refl _) (.cells #[.int .i64 0, .int .i64 2, .int .i64 3] 3)
  have e2 := row_new (n := 1) (V := bval awp.data) (w2.alloc (.cells #[.int .i64 0, .int .i64 2, .int .i64 3] 3)) #[.int .u8 5] 5 (0, 0) (fun i hi => by obtain rfl : i = 0 := (by omega); rfl)
  have f2 := (Below.refl _ (w2.alloc (.cells #[.int .i64 0, .int .i64 2, .int .i64 3] 3))).alloc (Nat.le_refl _) (.cells #[.int .u8 5] 5)
  have f3 := f1.alloc f1.size (.cells #[.int .u8 5] 5)
  have e3 := e1.below f2
  have hsz : (w2.alloc (.cells #[.int .i64 0, .int .i64 2, .int .i64 3] 3)).heap.size = w2.heap.size + 1 := by simp
  rw [hsz] at e2
  have hAt : awp.At ((w2.alloc (.cells #[.int .i64 0, .int .i64 2, .int .i64 3] 3)).alloc (.cells #[.int .u8 5] 5)) (some ⟨w2.heap.size, 0, none⟩) 3 (some ⟨w2.heap.size + 1, 0, none⟩) 1 :=
    ⟨Nat.le_refl _, (by unfold maxLen; omega), e3, (fun e => by cases e), Nat.le_refl _, (by unfold maxLen; omega), e2, (fun e => by cases e)⟩
  clear e1 f1 e2 f2 e3
  go_wp2_with (refine wpList_built (awp.vals (some ⟨w2.heap.size, 0, none⟩) 3 (some ⟨w2.heap.size + 1, 0, none⟩) 1) rfl rfl (builtAw _ _) ?_)
  refine (down_any awp _ 3 _ 1 2 _ hAt).mono ?_
  rintro r w4 ⟨a4, c4, b4, d4, rfl, q4, j4⟩
  rw [aw_down] at q4 ⊢
  have b5 := b3.trans ((f3.mono b3.size).trans (j4.mono (Nat.le_trans b3.size f3.size)))
  have k0' := (b5.mono (Nat.le_refl _))
  have l0 := keep_cell (f3.trans (j4.mono f3.size)) k0
  have l2 := keep_cell (f3.trans (j4.mono f3.size)) k2
  have o5 := Own.new w4 25 ((lessP awp).vals a4 c4 b4 d4)
  have b6 := b5.alloc b5.size (.cells ((lessP awp).vals a4 c4 b4 d4) 25)
  have b7 := (Below.refl _ w4).alloc (Nat.le_refl _) (.cells ((lessP awp).vals a4 c4 b4 d4) 25)
  have n0 := keep_cell b7 l0
  have n2 := keep_cell b7 l2
  have n3 : (w4.alloc (.cells ((lessP awp).vals a4 c4 b4 d4) 25)).cell? ⟨w4.heap.size, 3, none⟩ = some (.int .i64 1) := o5.cell 3
  clear k0 k2 l0 l2 k0'
  go_wp2_with (refine wpList_alloc_store ((lessP awp).vals a4 c4 b4 d4) rfl rfl rfl rfl infoP rfl rfl (by kernel_rfl) rfl (cells6 _ _ _ _ _) ?_)
  go_ret
  exact ⟨rfl, b6⟩
end Go.Proofs.Ytcpmnfoenpdaeaa.Rt
