/-
  Law CellNil: a table that there is not takes nothing and tells nothing; the call returns true. No condition.
-/
import Derived.Test.YtdknacbdkekfnaaCeAwake
import Derived.Deep.Strs
import Derived.Lib.SmallJoins
set_option maxRecDepth 100000
namespace Go.Proofs.Ytdknacbdkekfnaa.CellNil
set_option linter.unusedVariables false
open Go.RowKit Go.ChangeShapes Go.WideShapes Go.ChangeAt Go.Deep Lb Cl Ce
set_option linter.unusedVariables false
theorem own : ownKnob Try.prog.godebug = none := by kernel_rfl
theorem laidOut : laidOutB Try.prog = true := by kernel_rfl

set_option maxHeartbeats 1000000 in
theorem body (d h n t : Int) (x : C) (w : World) :
    Calls Try.prog 4 #[.agg #[.int .i64 d, .int .i64 h, .int .i64 n, .int .i64 x.f, .int .i64 x.s, .int .i64 x.c, .int .i64 x.o, .int .i64 x.p], .int .i64 t] w fun r w' => r = .returned (.bool true) ∧ Below w.heap.size w w' := by
  have b0 := (Below.refl w.heap.size w).alloc (Nat.le_refl _) (.cells #[.int .i64 d, .int .i64 h, .int .i64 n, .int .i64 x.f, .int .i64 x.s, .int .i64 x.c, .int .i64 x.o, .int .i64 x.p] 33)
  have o0 := Own.new w 33 #[.int .i64 d, .int .i64 h, .int .i64 n, .int .i64 x.f, .int .i64 x.s, .int .i64 x.c, .int .i64 x.o, .int .i64 x.p]
  go_enter Try.func4, Try.ntmps4
  go_wp2_with fail
  generalize w.alloc (.cells #[.int .i64 d, .int .i64 h, .int .i64 n, .int .i64 x.f, .int .i64 x.s, .int .i64 x.c, .int .i64 x.o, .int .i64 x.p] 33) = w1 at *
  have e1 := o0.cell 1
  have e2 := o0.cell 2
  have e3 := o0.cell 3
  have e4 := o0.cell 4
  have e5 := o0.cell 5
  have e6 := o0.cell 6
  have e7 := o0.cell 7
  simp at e1 e2 e3 e4 e5 e6 e7
  go_wp2_with fail
  refine (frm_nil h n _).mono ?_
  rintro r w' ⟨rfl, rfl⟩
  go_wp2_with fail
  refine (add_nil x _).mono ?_
  rintro r w2 ⟨rfl, b2⟩
  have e1 := keep_cell b2 e1
  have e3 := keep_cell b2 e3
  have e4 := keep_cell b2 e4
  have e5 := keep_cell b2 e5
  have e6 := keep_cell b2 e6
  have e7 := keep_cell b2 e7
  have b2 := b0.trans (b2.mono b0.size)
  go_wp2_with fail
  refine (rem_nil x _).mono ?_
  rintro r w3 ⟨rfl, b3⟩
  have e1 := keep_cell b3 e1
  have b3 := b2.trans (b3.mono b2.size)
  go_wp2_with fail
  refine (act_nil t _).mono ?_
  rintro r w' ⟨rfl, rfl⟩
  go_wp2_with fail
  refine (all_nil _).mono ?_
  rintro r w' ⟨rfl, rfl⟩
  go_wp2_with fail
  refine (len_nil h _).mono ?_
  rintro r w' ⟨rfl, rfl⟩
  go_wp2_with fail
  refine (awake_any _).mono ?_
  rintro r w9 ⟨rfl, b9⟩
  go_wp2_with fail
  go_ret
  exact ⟨rfl, b3.trans (b9.mono b3.size)⟩

theorem walk (H : Type) (enc : TypeId × Value → H) : Walk H enc Try.prog 4 Try.f4 := by
  intro W base args ds p hval hA
  rw [Try.params4] at hA hval
  obtain ⟨v0, v1, d0, d1, p0, p1, rfl, rfl, rfl, h0, h1⟩ := trodAll_two hA
  have hC : Try.prog.cellsOf 33 = 8 := by kernel_rfl
  have hX : Try.prog.cellsOf 31 = 5 := by kernel_rfl
  have hI : Try.prog.cellsOf 3 = 1 := by kernel_rfl
  obtain ⟨t, rfl, rfl, rfl, _⟩ := open_int Try.underlying2 (hval 1 _ v1 rfl rfl) h1
  obtain ⟨cs, rfl, hsz⟩ := okWide_struct Try.underlying33 (hval 0 _ v0 rfl rfl)
  rw [hC] at hsz
  obtain ⟨l⟩ := cs
  match l, hsz with
  | [x0, x1, x2, x3, x4, x5, x6, x7], _ =>
  obtain ⟨fuel, hf⟩ := h0
  obtain ⟨y0, y1, y2, y3, m, hx, _, hy0, hy1, hy2, hy3⟩ := Go.Joins.trod_struct4 Try.underlying33 hf
  obtain ⟨o, e0, _⟩ := DataW.trod_int Try.underlying3 hy0
  obtain ⟨a, e1, _⟩ := DataW.trod_int Try.underlying3 hy1
  obtain ⟨b, e2, _⟩ := DataW.trod_int Try.underlying3 hy2
  simp [Value.cells, hI, hX] at e0 e1 e2 hy3
  subst e0 e1 e2
  obtain ⟨xs, k, _, _, _, hlen, hfs⟩ := DataW.trod_struct Try.underlying31 hy3
  match xs, hlen with
  | [z0, z1, z2, z3, z4], _ =>
  obtain ⟨q0, f0, _⟩ := DataW.trod_int Try.underlying3 (hfs 0 _ rfl)
  obtain ⟨q1, f1, _⟩ := DataW.trod_int Try.underlying3 (hfs 1 _ rfl)
  obtain ⟨q2, f2, _⟩ := DataW.trod_int Try.underlying3 (hfs 2 _ rfl)
  obtain ⟨q3, f3, _⟩ := DataW.trod_int Try.underlying3 (hfs 3 _ rfl)
  obtain ⟨q4, f4, _⟩ := DataW.trod_int Try.underlying3 (hfs 4 _ rfl)
  simp [Value.cells, hI] at f0 f1 f2 f3 f4
  subst f0 f1 f2 f3 f4
  exact body o a b t ⟨q0, q1, q2, q3, q4⟩ W

set_option maxRecDepth 100000 in
theorem lifted (os : Os) (started : os.Started) (H : Type) (enc : TypeId × Value → H) :
    ReturnsInHanded {} Try.checked os 4 .any (Rows.cellNilSpec.pre6 enc Try.prog Try.f4 Rows.cellNilRow.domain false) (Rows.cellNilSpec.post enc Try.prog Try.f4 false true false false) :=
  returnsInHanded_of_change (C := Try.checked) own started (by kernel_rfl) Try.func4
    (ChangeSpec.witness6 (enc := enc) (C := Try.checked) false ⟨#[], #[.agg #[.int .i64 0, .int .i64 0, .int .i64 0, .int .i64 0, .int .i64 0, .int .i64 0, .int .i64 0, .int .i64 0], .int .i64 0], []⟩ 8 (by kernel_rfl) (by kernel_rfl) (by kernel_rfl) (by kernel_rfl))
    fun W base args ds gs before hval hW _ _ => step_of_walk laidOut (by rw [Try.params4]; exact of_decide_eq_true (by kernel_rfl)) (by kernel_rfl) Try.underlying4 rfl
      (fun ds h => by
        rw [Try.params4] at h
        match ds, h with
        | [_, _], _ => rfl) (walk H enc) W base args ds gs before hval hW

theorem holds : Rows.CellNilSaid :=
  OpenClaim.holds_of_wide 4 Try.f4 rfl rfl rfl rfl rfl rfl rfl ⟨rfl, rfl, rfl, rfl, rfl⟩ rfl rfl rfl rfl rfl (by kernel_rfl) Try.func4 (by kernel_rfl)
    (of_decide_eq_true (by kernel_rfl)) (by unfold Func.isWrapper; first | (rw [if_pos (by decide +kernel)]; kernel_rfl) | (rw [if_neg (by decide +kernel)]; exact ⟨rfl, rfl⟩))
    (fun os started H enc _ => lifted os started H enc)
#print axioms holds
end Go.Proofs.Ytdknacbdkekfnaa.CellNil
