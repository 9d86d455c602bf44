/-
  Package cell: a cell that every program must know; Remove.
-/
import Derived.Test.YtdknacbdkekfnaaCeAct
set_option maxRecDepth 100000
namespace Go.Proofs.Ytdknacbdkekfnaa.Ce
set_option linter.unusedVariables false
open Go.RowKit Lb Cl

theorem rem_nil (x : C) (w : World) : Calls Try.prog 14 #[.pointer none, .agg #[.int .i64 x.f, .int .i64 x.s, .int .i64 x.c, .int .i64 x.o, .int .i64 x.p]] w fun r w' => r = .returned (.int .i64 1) ∧ Below w.heap.size w w' := by
  have b0 := (Below.refl w.heap.size w).alloc (Nat.le_refl _) (.cells #[.int .i64 x.f, .int .i64 x.s, .int .i64 x.c, .int .i64 x.o, .int .i64 x.p] 31)
  go_enter Try.func14, Try.ntmps14
  go_wp2_with fail
  go_ret
  exact ⟨rfl, b0⟩
def aw : C := ⟨0, 2, 0, 1, 3⟩
def awN : Nat → Int := frN (fun _ => 0) [] 0 5
theorem aw_fr : frE [] 0 5 = 0 := by decide
theorem aw_add : addE awN [] aw = 0 := by decide
theorem aw_l : addL awN [] aw = [aw] := by unfold addL; rw [aw_add, if_pos rfl]; rfl
theorem aw_7 : act awN [aw] 7 = [aw] := by unfold act; rw [if_pos (by decide), List.filter_cons, if_pos (by decide)]; rfl
theorem aw_8 : act awN [aw] 8 = [] := by unfold act; rw [if_pos (by decide), List.filter_cons, if_neg (by decide)]; rfl
set_option maxHeartbeats 1000000 in
theorem awake_any (w : World) :
    Calls Try.prog 23 #[] w fun r w' => r = .returned (.bool true) ∧ Below w.heap.size w w' := by
  have h8 := fun (w : World) (base b : Nat) (v : Value) (t : Tab w base b awN [aw] v) => act_any base b awN [aw] v 8 w t
  rw [aw_8] at h8
  have h7 := fun (w : World) (base b : Nat) (v : Value) (t : Tab w base b awN [aw] v) => act_any base b awN [aw] v 7 w t
  rw [aw_7] at h7
  go_enter Try.func23, Try.ntmps23
  go_wp2_with fail
  refine (new_any _).mono ?_
  rintro r w1 ⟨rfl, t1, b1⟩
  go_wp2_with fail
  refine (frm_any _ _ (fun _ => 0) [] _ 0 5 _ t1).mono ?_
  rintro r w2 ⟨rfl, t2, j2⟩
  have b2 := b1.trans (j2.below (Nat.le_refl w.heap.size) (fun q e => by cases e) b1.size)
  rw [aw_fr]
  clear t1 b1 j2
  go_wp2_with fail
  refine (add_any _ _ awN [] _ aw _ t2).mono ?_
  rintro r w3 ⟨rfl, v3, t3, j3⟩
  have b3 := b2.trans (j3.below (Nat.le_refl w.heap.size) (fun q e => by cases e) b2.size)
  rw [aw_add]
  rw [aw_l] at t3
  clear t2 b2 j3
  go_wp2_with fail
  refine (h7 _ _ _ _ t3).mono ?_
  rintro r w4 ⟨v4, rfl, m4, b4⟩
  have t4 := t3.below b4
  have b4 := b3.trans (b4.mono b3.size)
  obtain ⟨A4, c4, rfl, hc4, hd4, hR4⟩ := m4.row
  obtain ⟨bo, off, rfl, hbo, e0, e1, e2, e3, e4⟩ := row_c (k := 0) hR4 (Below.refl _ _) (by decide)
  have e4 : w4.cell? ⟨bo, off + 4, none⟩ = some (.int .i64 3) := e4
  clear t3 b3 m4 hR4 e0 e1 e2 e3
  have hc4 : 1 ≤ c4 := hc4
  have g5 := h8 _ _ _ _ t4
  clear h7 h8 t4
  go_wp2_with (go_at_call 18; refine g5.mono ?_; rintro r w5 ⟨v5, rfl, m5, b5⟩; obtain ⟨A5, c5, rfl, hc5, hd5, hR5⟩ := m5.row)
  go_ret
  exact ⟨rfl, b4.trans (b5.mono b4.size)⟩
end Go.Proofs.Ytdknacbdkekfnaa.Ce
