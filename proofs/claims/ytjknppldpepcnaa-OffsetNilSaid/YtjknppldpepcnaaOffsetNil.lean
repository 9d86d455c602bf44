/-
  Law OffsetNil: a proof that there is not tells nothing; the call returns true. No condition.
-/
import Derived.Test.YtjknppldpepcnaaLib
import Derived.Lib.SmallJoins
import Derived.Deep.RegionWith
set_option maxRecDepth 100000
namespace Go.Proofs.Ytjknppldpepcnaa.OffsetNil
set_option linter.unusedVariables false
open Go.RowKit Go.ChangeShapes Go.WideShapes Go.ChangeAt Go.Deep Lb
set_option linter.unusedVariables false
theorem own : ownKnob Try.prog.godebug = none := by kernel_rfl
theorem laidOut : laidOutB Try.prog = true := by kernel_rfl

theorem cut_three (w : World) :
    Calls Try.prog 24 #[.int .i64 3, .int .i64 0, .int .i64 1000] w fun r w' => r = .returned (.int .i64 3) ∧ w = w' := by
  have e : min (max (3 : Int) 0) 1000 = 3 := by decide
  go_enter Try.func24, Try.ntmps24
  go_wp2
  go_ret
  exact ⟨rfl, rfl⟩

def One (w : World) (b : Nat) : Prop := Own w b 49 #[.int .i64 3, .bool true, .int .i64 0, .bool true, .int .i64 3, .bool false, .int .i64 0, .bool false, .int .i64 0, .bool false, .int .i64 0, .bool false, .int .i64 0, .bool false, .int .i64 0, .bool false, .int .i64 0, .bool false, .int .i64 0, .bool false, .int .i64 0, .bool false, .int .i64 0, .bool false, .int .i64 0, .bool false, .int .i64 0, .bool false, .int .i64 0, .bool false, .int .i64 0, .bool false, .int .i64 0]
def Two (w : World) (b : Nat) : Prop := Own w b 49 #[.int .i64 3, .bool true, .int .i64 0, .bool true, .int .i64 4, .bool false, .int .i64 0, .bool false, .int .i64 0, .bool false, .int .i64 0, .bool false, .int .i64 0, .bool false, .int .i64 0, .bool false, .int .i64 0, .bool false, .int .i64 0, .bool false, .int .i64 0, .bool false, .int .i64 0, .bool false, .int .i64 0, .bool false, .int .i64 0, .bool false, .int .i64 0, .bool false, .int .i64 0, .bool false, .int .i64 0]

set_option maxHeartbeats 4000000 in
theorem slot_three (b : Nat) (w : World) (h : One w b) :
    Calls Try.prog 16 #[.pointer (some ⟨b, 0, none⟩)] w fun r w' => r = .returned (.tuple #[]) ∧ Two w' b ∧ Just b w w' := by
  go_enter Try.func16, Try.ntmps16
  go_wp2_with fail
  go_loopw [2] (fun i wr => ∃ k : Nat, i = .int .i64 k ∧ ((k = 1 ∧ One wr b ∧ Just b w wr) ∨ ((k = 2 ∨ k = 3) ∧ Two wr b ∧ Just b w wr))) (fun i _ => 5 - (intOf i).toNat)
  case atStart => exact ⟨1, rfl, .inl ⟨rfl, h, Just.refl _ _⟩⟩
  case round =>
    obtain ⟨k, rfl, hk⟩ := hrel
    rcases hk with ⟨rfl, o, j⟩ | ⟨rfl | rfl, o, j⟩
    · have c0 : wr.cell? ⟨b, 0, none⟩ = some (.int .i64 3) := Own.cell o 0
      have c3 : wr.cell? ⟨b, 3, none⟩ = some (.bool true) := Own.cell o 3
      have c4 : wr.cell? ⟨b, 4, none⟩ = some (.int .i64 3) := Own.cell o 4
      have f4 : wr.frozen? ⟨b, 4, none⟩ = false := Own.free o 4
      go_wp2_with fail
      go_region
      all_goals
        go_wp2_with fail
        first
          | exact ⟨⟨2, by go_num, .inr ⟨.inl rfl, Own.put o 4 _, (j.put 4 _).drewN 1⟩⟩, by simp [intOf]⟩
          | (go_roundw
             case rel => exact ⟨2, by go_num, .inr ⟨.inl rfl, Own.put o 4 _, (j.put 4 _).drewN 1⟩⟩
             case measure => simp [intOf])
    · have c0 : wr.cell? ⟨b, 0, none⟩ = some (.int .i64 3) := Own.cell o 0
      have c5 : wr.cell? ⟨b, 5, none⟩ = some (.bool false) := Own.cell o 5
      go_wp2_with fail
      first
        | exact ⟨⟨3, by go_num, .inr ⟨.inr rfl, o, j⟩⟩, by simp [intOf]⟩
        | (go_roundw
           case rel => exact ⟨3, by go_num, .inr ⟨.inr rfl, o, j⟩⟩
           case measure => simp [intOf])
    · have c0 : wr.cell? ⟨b, 0, none⟩ = some (.int .i64 3) := Own.cell o 0
      go_wp2_with fail
      go_end0
      exact ⟨rfl, o, j⟩

set_option maxHeartbeats 4000000 in
theorem awake_any (w : World) :
    Calls Try.prog 13 #[] w fun r w' => r = .returned (.bool true) ∧ Below w.heap.size w w' := by
  have e3 : min (max (3 : Int) 1) 16 = 3 := by decide
  go_enter Try.func13, Try.ntmps13
  go_wp2
  go_region_with (go_at_call 24; refine (cut_three _).mono ?_; rintro r w' ⟨rfl, rfl⟩)
  all_goals
    go_wp2_with fail
    go_end0
    go_wp2_with fail
    refine (slot_three w.heap.size _ ?_).mono ?_
    · exact Own.alloc (Own.new _ _ _) _
    rintro r w2 ⟨rfl, o2, j2⟩
    have c0 : w2.cell? ⟨w.heap.size, 0, none⟩ = some (.int .i64 3) := Own.cell o2 0
    have c3 : w2.cell? ⟨w.heap.size, 3, none⟩ = some (.bool true) := Own.cell o2 3
    have c4 : w2.cell? ⟨w.heap.size, 4, none⟩ = some (.int .i64 4) := Own.cell o2 4
    have c5 : w2.cell? ⟨w.heap.size, 5, none⟩ = some (.bool false) := Own.cell o2 5
    have c6 : w2.cell? ⟨w.heap.size, 6, none⟩ = some (.int .i64 0) := Own.cell o2 6
    have b2 : Below w.heap.size w w2 := Just.below j2 (below_drewN (((Below.refl _ _).alloc (Nat.le_refl _) _).alloc (by simp) _) 1) (Nat.le_refl _) (by simp; omega)
    clear o2 j2
    go_wp2
    go_quiet (fail)
    go_wp2
    go_quiet (fail)
    go_wp2
    go_ret
    first
      | exact ⟨rfl, below_drewN b2 _⟩
      | exact ⟨rfl, below_drewN (below_drewN b2 _) _⟩
      | exact ⟨rfl, below_drewN (below_drewN (below_drewN b2 _) _) _⟩

theorem slot_nil (w : World) :
    Calls Try.prog 16 #[.pointer none] w fun r w' => r = .returned (.tuple #[]) ∧ w = w' := by
  go_enter Try.func16, Try.ntmps16
  go_wp2
  refine bodyPost_ret (results_none rfl _ _ _) rfl ?_
  exact ⟨rfl, rfl⟩
theorem heard_nil (i y e : Int) (w : World) :
    Calls Try.prog 20 #[.pointer none, .int .i64 i, .int .i64 y, .int .i64 e] w fun r w' => r = .returned (.tuple #[]) ∧ w = w' := by
  go_enter Try.func20, Try.ntmps20
  go_wp2
  refine bodyPost_ret (results_none rfl _ _ _) rfl ?_
  exact ⟨rfl, rfl⟩
theorem lose_nil (i : Int) (w : World) :
    Calls Try.prog 18 #[.pointer none, .int .i64 i] w fun r w' => r = .returned (.tuple #[]) ∧ w = w' := by
  go_enter Try.func18, Try.ntmps18
  go_wp2
  go_end0
  exact ⟨rfl, rfl⟩
theorem bound_nil (i : Int) (w : World) :
    Calls Try.prog 22 #[.pointer none, .int .i64 i] w fun r w' => r = .returned (.tuple #[.int .i64 0, .bool false]) ∧ w = w' := by
  go_enter Try.func22, Try.ntmps22
  go_wp2
  refine bodyPost_ret (results_tmp2 rfl _ _ _) rfl ?_
  exact ⟨rfl, rfl⟩
theorem body (d i y x : Int) (w : World) :
    Calls Try.prog 5 #[.agg #[.int .i64 d, .int .i64 i, .int .i64 y, .int .i64 x]] w fun e w' => e = .returned (.bool true) ∧ Below w.heap.size w w' := by
  go_enter Try.func5, Try.ntmps5
  go_wp2_with fail
  have bx := (Below.refl w.heap.size w).alloc (Nat.le_refl _) (.cells #[.int .i64 d, .int .i64 i, .int .i64 y, .int .i64 x] 32)
  have cx1 : (w.alloc (.cells #[.int .i64 d, .int .i64 i, .int .i64 y, .int .i64 x] 32)).cell? ⟨w.heap.size, 1, none⟩ = some (.int .i64 i) := Own.cell (Own.new w 32 #[.int .i64 d, .int .i64 i, .int .i64 y, .int .i64 x]) 1
  have cx2 : (w.alloc (.cells #[.int .i64 d, .int .i64 i, .int .i64 y, .int .i64 x] 32)).cell? ⟨w.heap.size, 2, none⟩ = some (.int .i64 y) := Own.cell (Own.new w 32 #[.int .i64 d, .int .i64 i, .int .i64 y, .int .i64 x]) 2
  have cx3 : (w.alloc (.cells #[.int .i64 d, .int .i64 i, .int .i64 y, .int .i64 x] 32)).cell? ⟨w.heap.size, 3, none⟩ = some (.int .i64 x) := Own.cell (Own.new w 32 #[.int .i64 d, .int .i64 i, .int .i64 y, .int .i64 x]) 3
  generalize w.alloc (.cells #[.int .i64 d, .int .i64 i, .int .i64 y, .int .i64 x] 32) = w1 at *
  refine (slot_nil _).mono ?_
  rintro r w' ⟨rfl, rfl⟩
  go_wp2_with fail
  refine (heard_nil _ _ _ _).mono ?_
  rintro r w' ⟨rfl, rfl⟩
  go_wp2_with fail
  refine (lose_nil _ _).mono ?_
  rintro r w' ⟨rfl, rfl⟩
  go_wp2_with fail
  refine (bound_nil _ _).mono ?_
  rintro r w' ⟨rfl, rfl⟩
  go_wp2_with fail
  refine (awake_any _).mono ?_
  rintro r w' ⟨rfl, b9⟩
  go_wp2_with fail
  go_ret
  exact ⟨rfl, bx.trans (b9.mono bx.size)⟩

theorem walk (H : Type) (enc : TypeId × Value → H) : Walk H enc Try.prog 5 Try.f5 := by
  intro W base args ds p hval hA
  rw [Try.params5] at hA hval
  obtain ⟨v0, d0, rfl, rfl, h0⟩ := trodAll_one hA
  have hC : Try.prog.cellsOf 32 = 4 := by kernel_rfl
  have hI : Try.prog.cellsOf 3 = 1 := by kernel_rfl
  obtain ⟨cs, rfl, hsz⟩ := okWide_struct Try.underlying32 (hval 0 _ v0 rfl rfl)
  rw [hC] at hsz
  obtain ⟨l⟩ := cs
  match l, hsz with
  | [x0, x1, x2, x3], _ =>
  obtain ⟨fuel, hf⟩ := h0
  obtain ⟨y0, y1, y2, y3, m, hx, _, hy0, hy1, hy2, hy3⟩ := Go.Joins.trod_struct4 Try.underlying32 hf
  obtain ⟨a0, e0, rfl, _⟩ := DataW.trod_int Try.underlying3 hy0
  obtain ⟨a1, e1, rfl, _⟩ := DataW.trod_int Try.underlying3 hy1
  obtain ⟨a2, e2, rfl, _⟩ := DataW.trod_int Try.underlying3 hy2
  obtain ⟨a3, e3, rfl, _⟩ := DataW.trod_int Try.underlying3 hy3
  simp [Value.cells, hI] at e0 e1 e2 e3
  subst e0 e1 e2 e3
  exact body a0 a1 a2 a3 W

set_option maxRecDepth 100000 in
theorem lifted (os : Os) (started : os.Started) (H : Type) (enc : TypeId × Value → H) :
    ReturnsInHanded {} Try.checked os 5 .any (Rows.offsetNilSpec.pre6 enc Try.prog Try.f5 Rows.offsetNilRow.domain false) (Rows.offsetNilSpec.post enc Try.prog Try.f5 false true false false) :=
  returnsInHanded_of_change (C := Try.checked) own started (by kernel_rfl) Try.func5
    (ChangeSpec.witness6 (enc := enc) (C := Try.checked) false ⟨#[], #[.agg #[.int .i64 0, .int .i64 0, .int .i64 0, .int .i64 0]], []⟩ 8 (by kernel_rfl) (by kernel_rfl) (by kernel_rfl) (by kernel_rfl))
    fun W base args ds gs before hval hW _ _ => step_of_walk laidOut (by rw [Try.params5]; exact of_decide_eq_true (by kernel_rfl)) (by kernel_rfl) Try.underlying4 rfl
      (fun ds h => by
        rw [Try.params5] at h
        match ds, h with
        | [_], _ => rfl) (walk H enc) W base args ds gs before hval hW

theorem holds : Rows.OffsetNilSaid :=
  OpenClaim.holds_of_wide 5 Try.f5 rfl rfl rfl rfl rfl rfl rfl ⟨rfl, rfl, rfl, rfl, rfl⟩ rfl rfl rfl rfl rfl (by kernel_rfl) Try.func5 (by kernel_rfl)
    (of_decide_eq_true (by kernel_rfl)) (by unfold Func.isWrapper; first | (rw [if_pos (by decide +kernel)]; kernel_rfl) | (rw [if_neg (by decide +kernel)]; exact ⟨rfl, rfl⟩))
    (fun os started H enc _ => lifted os started H enc)
#print axioms holds
end Go.Proofs.Ytjknppldpepcnaa.OffsetNil
