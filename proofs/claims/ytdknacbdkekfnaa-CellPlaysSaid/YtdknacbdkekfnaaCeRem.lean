/-
  Package cell: Remove.
-/
import Derived.Test.YtdknacbdkekfnaaCeLaw
set_option maxRecDepth 100000
namespace Go.Proofs.Ytdknacbdkekfnaa.Ce
set_option linter.unusedVariables false
open Go.RowKit Lb Cl

def RemPost (base b : Nat) (N : Nat → Int) (l : List C) (v : Value) (x : C) (w : World) (r : Ending) (w' : World) : Prop :=
  r = .returned (.int .i64 (remE l x)) ∧ ∃ v', Tab w' base b N (remL l x) v' ∧ Turn w w' b v v'
theorem rem_no {base b : Nat} {N : Nat → Int} {l : List C} {v : Value} {x : C} {w w' : World} (t : Tab w base b N l v) (he : fndB l x = false) (hb : Below w.heap.size w w') : RemPost base b N l v x w (.returned (.int .i64 6)) w' := by
  have h6 : remE l x = 6 := by
    unfold remE
    rw [if_neg]
    unfold fndB at he
    simpa using he
  refine ⟨by rw [h6], v, ?_, Turn.of_below hb _ _⟩
  unfold remL
  rw [h6, if_neg (by decide)]
  exact t.below hb
set_option maxHeartbeats 1000000 in
theorem rem_any (base b : Nat) (N : Nat → Int) (l : List C) (v : Value) (x : C) (w : World) (t : Tab w base b N l v) :
    Calls Try.prog 14 #[.pointer (some ⟨b, 0, none⟩), .agg #[.int .i64 x.f, .int .i64 x.s, .int .i64 x.c, .int .i64 x.o, .int .i64 x.p]] w (RemPost base b N l v x w) := by
  have o0 : Own (w.alloc (.cells #[.int .i64 x.f, .int .i64 x.s, .int .i64 x.c, .int .i64 x.o, .int .i64 x.p] 31)) w.heap.size 31 x.vals := Own.new w _ _
  have b0 := (Below.refl w.heap.size w).alloc (Nat.le_refl _) (.cells #[.int .i64 x.f, .int .i64 x.s, .int .i64 x.c, .int .i64 x.o, .int .i64 x.p] 31)
  have t1 := t.below b0
  have hfew := t.good.few
  have HT := Lib.hid t
  obtain ⟨A, c, rfl, hc1, hc2, hR⟩ := t.row.row
  unfold maxLen at hc2
  obtain ⟨m, hmm⟩ : ∃ m, l.length = m := ⟨_, rfl⟩
  have HM := Lib.hid hmm
  rw [hmm] at hc1 hfew HT t1 ⊢
  clear t hR hmm
  go_enter Try.func14, Try.ntmps14
  go_wp2_with fail
  generalize w.alloc (.cells #[.int .i64 x.f, .int .i64 x.s, .int .i64 x.c, .int .i64 x.o, .int .i64 x.p] 31) = w7 at *
  have hol7 := o0.lt
  obtain ⟨d0, d1, d2, d3, d4⟩ := own_c o0
  have k4 := t1.v4
  have hr7 : MineK w7 base 31 5 (.slice A m c) m (lv l) := by have := t1.row; rwa [HM.out] at this
  have hbs := bsf_any A m c l x w7.drew (hr7.drewN 1).rowAt HM.out (by omega) t1.good.srt
  obtain ⟨p, hp⟩ : ∃ p, pos l x = p := ⟨_, rfl⟩
  have HP := Lib.hid hp
  obtain ⟨fb, hfb⟩ : ∃ fb, fndB l x = fb := ⟨_, rfl⟩
  have HF := Lib.hid hfb
  rw [hp, hfb] at hbs
  clear hp hfb
  have s0 : (fun w' : World => w'.cell? ⟨b, 4, none⟩ = some (.slice A m c) ∧ w'.cell? ⟨w.heap.size, 0, none⟩ = some (.int .i64 x.f) ∧ w'.cell? ⟨w.heap.size, 1, none⟩ = some (.int .i64 x.s) ∧ w'.cell? ⟨w.heap.size, 2, none⟩ = some (.int .i64 x.c) ∧ w'.cell? ⟨w.heap.size, 3, none⟩ = some (.int .i64 x.o) ∧ w'.cell? ⟨w.heap.size, 4, none⟩ = some (.int .i64 x.p)) w7.drew := ⟨k4, d0, d1, d2, d3, d4⟩
  cases fb
  · have HD := fun w' hb => Lib.hid (rem_no (w' := w') HT.out HF.out hb)
    go_wp2_with fail
    go_region_held3 (fun w' : World => w'.cell? ⟨b, 4, none⟩ = some (.slice A m c) ∧ w'.cell? ⟨w.heap.size, 0, none⟩ = some (.int .i64 x.f) ∧ w'.cell? ⟨w.heap.size, 1, none⟩ = some (.int .i64 x.s) ∧ w'.cell? ⟨w.heap.size, 2, none⟩ = some (.int .i64 x.c) ∧ w'.cell? ⟨w.heap.size, 3, none⟩ = some (.int .i64 x.o) ∧ w'.cell? ⟨w.heap.size, 4, none⟩ = some (.int .i64 x.p)) (first | exact s0 | exact s2) ((go_at_call 28; refine hbs.mono ?_; rintro r w8 ⟨rfl, b8⟩; have s2 : (fun w' : World => w'.cell? ⟨b, 4, none⟩ = some (.slice A m c) ∧ w'.cell? ⟨w.heap.size, 0, none⟩ = some (.int .i64 x.f) ∧ w'.cell? ⟨w.heap.size, 1, none⟩ = some (.int .i64 x.s) ∧ w'.cell? ⟨w.heap.size, 2, none⟩ = some (.int .i64 x.c) ∧ w'.cell? ⟨w.heap.size, 3, none⟩ = some (.int .i64 x.o) ∧ w'.cell? ⟨w.heap.size, 4, none⟩ = some (.int .i64 x.p)) w8 := ⟨keep_cell (W := w7.drew) b8 k4, keep_cell (W := w7.drew) b8 d0, keep_cell (W := w7.drew) b8 d1, keep_cell (W := w7.drew) b8 d2, keep_cell (W := w7.drew) b8 d3, keep_cell (W := w7.drew) b8 d4⟩))
    have b8' : Below w7.heap.size w7 w8 := (below_drewN (Below.refl w7.heap.size w7) 1).trans b8
    clear s0 s2 d0 d1 d2 d3 d4 k4
    go_wp2_with fail
    go_ret
    exact (HD _ (b0.trans (b8'.mono b0.size))).out
  · have hpm : p < m := by
      have := HF.out
      unfold fndB at this
      simp only [Bool.and_eq_true, decide_eq_true_eq] at this
      rw [HP.out, HM.out] at this
      exact this.1
    have h0 : remE l x = 0 := by
      unfold remE
      rw [if_pos]
      have := HF.out
      unfold fndB at this
      simpa using this
    have H0 := Lib.hid h0
    clear h0
    go_wp2_with fail
    go_region_held3 (fun w' : World => w'.cell? ⟨b, 4, none⟩ = some (.slice A m c) ∧ w'.cell? ⟨w.heap.size, 0, none⟩ = some (.int .i64 x.f) ∧ w'.cell? ⟨w.heap.size, 1, none⟩ = some (.int .i64 x.s) ∧ w'.cell? ⟨w.heap.size, 2, none⟩ = some (.int .i64 x.c) ∧ w'.cell? ⟨w.heap.size, 3, none⟩ = some (.int .i64 x.o) ∧ w'.cell? ⟨w.heap.size, 4, none⟩ = some (.int .i64 x.p)) (first | exact s0 | exact s2) ((go_at_call 28; refine hbs.mono ?_; rintro r w8 ⟨rfl, b8⟩; have s2 : (fun w' : World => w'.cell? ⟨b, 4, none⟩ = some (.slice A m c) ∧ w'.cell? ⟨w.heap.size, 0, none⟩ = some (.int .i64 x.f) ∧ w'.cell? ⟨w.heap.size, 1, none⟩ = some (.int .i64 x.s) ∧ w'.cell? ⟨w.heap.size, 2, none⟩ = some (.int .i64 x.c) ∧ w'.cell? ⟨w.heap.size, 3, none⟩ = some (.int .i64 x.o) ∧ w'.cell? ⟨w.heap.size, 4, none⟩ = some (.int .i64 x.p)) w8 := ⟨keep_cell (W := w7.drew) b8 k4, keep_cell (W := w7.drew) b8 d0, keep_cell (W := w7.drew) b8 d1, keep_cell (W := w7.drew) b8 d2, keep_cell (W := w7.drew) b8 d3, keep_cell (W := w7.drew) b8 d4⟩))
    have b8' : Below w7.heap.size w7 w8 := (below_drewN (Below.refl w7.heap.size w7) 1).trans b8
    have t8 := t1.below b8'
    have bb8 := b0.trans (b8'.mono b0.size)
    have hr8 : MineK w8 base 31 5 (.slice A m c) m (lv l) := by have := t8.row; rwa [HM.out] at this
    clear d0 d1 d2 d3 d4 k4 s0 hbs t1 o0 b8 b8' hr7 s2 b0
    obtain ⟨g, c', cs, hv, _, _, _, _, _, _⟩ := hr8.block (by omega)
    injection hv with hv1 hv2 hv3
    subst hv1 hv3
    have k4 := t8.v4
    have f4 : w8.frozen? ⟨b, 4, none⟩ = false := t8.blk.free 4
    have hdel := delete_any base g m c p (p + 1) (lv l) w8 hr8 hpm rfl (lv_one l)
    have hgb : b ≠ g := fun e => t8.ne (by subst e; rfl)
    have HT8 := Lib.hid t8
    have pw : (p : Int) + 1 = ((p + 1 : Nat) : Int) := by omega
    rw [← pw] at hdel
    have hpc : (p : Int) + 1 ≤ 9223372036854775807 := by omega
    clear t8 hr8 pw
    go_wp2_with (go_at_call 32; refine hdel.mono ?_; rintro r w9 ⟨rfl, m9, j9⟩; have o9 : Blk w9 b 51 5 (tv N (.slice (some ⟨g, 0, none⟩) m c)) := j9.blk HT8.out.blk hgb; have s3 : w9.cell? ⟨b, 4, none⟩ = some (.slice (some ⟨g, 0, none⟩) m c) := o9.cell (by omega); have f9 : w9.frozen? ⟨b, 4, none⟩ = false := o9.free 4)
    go_ret
    have hL : remL l x = l.eraseIdx p := by unfold remL; rw [H0.out, if_pos rfl, HP.out]
    have hlen : (l.eraseIdx p).length = m - 1 := by rw [List.length_eraseIdx, HM.out, if_pos hpm]
    refine ⟨by rw [H0.out]; rfl, .slice (some ⟨g, 0, none⟩) (m - 1) c, ⟨(o9.put 4 _).ext (fun j hj => tv_row N _ _ j hj), ?_, good_rem HT8.out.good x, HT8.out.low⟩, ((Turn.of_below bb8 b _).trans (show Turn w8 w9 b (.slice (some ⟨g, 0, none⟩) m c) (.slice (some ⟨g, 0, none⟩) (m - 1) c) from ⟨j9.os, j9.tape, j9.output, j9.size, fun q hq _ hv => j9.block q hq (fun e => hv (by subst e; rfl)), fun _ e => .inl e⟩)).put 4 _⟩
    rw [hL, hlen]
    refine MineK.kept (m9.ext (fun q _ => lv_erase l p q)) (fun q _ => ?_)
    by_cases e : q = b
    · exact .inr (fun e' => by
        injection e' with e'
        exact hgb (e ▸ e'.symm))
    · exact .inl (Below.heap_setCell _ _ _ _ e)
end Go.Proofs.Ytdknacbdkekfnaa.Ce
