/-
  Law NeighPlays: any calls: each quality, any report, are the reference's; the call returns true. No condition.
-/
import Derived.Test.YtpapkcelgbnkaaaNeighRep2
import Derived.Deep.Cut
import Derived.Deep.RegionHeld3
import Derived.StillTactics
set_option maxRecDepth 100000
namespace Go.Proofs.Ytpapkcelgbnkaaa.NeighPlays
set_option linter.unusedVariables false
open Go.RowKit Go.ChangeShapes Go.WideShapes Go.ChangeAt Go.Deep Lb Ng
set_option linter.unusedVariables false
theorem own : ownKnob Try.prog.godebug = none := by kernel_rfl
theorem laidOut : laidOutB Try.prog = true := by kernel_rfl
theorem Row.ext {w : World} {a : Option Addr} {n : Nat} {V U : Nat → Value} (h : Row w a n V) (hv : ∀ i, i < n → V i = U i) : Row w a n U := by
  intro hn
  obtain ⟨b, off, h1, h2, h3⟩ := h hn
  exact ⟨b, off, h1, h2, fun i hi => by rw [h3 i hi, hv i hi]⟩
theorem pv_take (me : Int) (l : List (Int × Int)) {m k i : Nat} (hm : m ≤ k) (hi : i < m * 3) : pv me l i = pv me (l.take k) i := by
  unfold pv
  rw [List.getD_eq_getElem?_getD, List.getD_eq_getElem?_getD, List.getElem?_take, if_pos (by omega)]

set_option maxHeartbeats 4000000 in
theorem body (x : Int) (a : Option Addr) (n c : Nat) (V : Nat → Value) (X0 : Nat → Bool) (X1 : Nat → Int) (y z : Int) (w : World) (hn : n ≤ c) (hc : c ≤ maxLen) (hV : Row w a (n * 2) V)
    (hC : ∀ i, i < n → V (i * 2) = .bool (X0 i) ∧ V (i * 2 + 1) = .int .i64 (X1 i)) :
    Calls Try.prog 3 #[.int .i64 x, .slice a n c, .int .i64 y, .int .i64 z] w fun r w' => r = .returned (.bool true) ∧ Below w.heap.size w w' := by
  have hcap : (n : Int) ≤ 9223372036854775807 := by unfold maxLen at hc; omega
  have HC := Lib.hid hC
  clear hC
  cases hx : ndB x
  · have HX := Lib.hid hx
    go_enter Try.func3, Try.ntmps3
    go_wp2_with fail
    refine (new_no x _ HX.out).mono ?_
    rintro r w' ⟨rfl, rfl⟩
    go_wp2_with fail
    refine (rnew_no x _ HX.out).mono ?_
    rintro r w' ⟨rfl, rfl⟩
    go_wp2_with fail
    refine (awake_any _).mono ?_
    rintro r w9 ⟨rfl, b9⟩
    go_wp2_with fail
    go_ret
    exact ⟨rfl, b9⟩
  · have HX := Lib.hid hx
    have HX0 : Hid (0 ≤ x) := Lib.hid (by unfold ndB at hx; rw [decide_eq_true_eq] at hx; exact hx.1)
    clear hx
    go_enter Try.func3, Try.ntmps3
    go_wp2_with fail
    refine (new_yes x _ HX.out).mono ?_
    rintro r w1 ⟨rfl, h1, b1, s1⟩
    go_wp2_with fail
    refine (rnew_yes x _ HX.out).mono ?_
    rintro r w2 ⟨rfl, h2, b2, s2⟩
    have h3 := below_blk b2 h1 s1
    have b3 := b1.trans (b2.mono (Nat.le_of_lt s1))
    have hg : Hid (Ng.Good (fun _ => 0)) := Lib.hid good_zero
    have h0 : Hid (Own0 x (fun _ => 0)) := Lib.hid rfl
    generalize hgg : w1.heap.size = g at *
    have sg : w.heap.size < g := s1
    clear hgg b1 s1 h1 b2
    go_wp2_with fail
    go_loopw [27] (fun i wr => ∃ (k : Nat) (Q : Nat → Int), i = .int .i64 k ∧ k ≤ n ∧ k ≤ 300 ∧ Tb wr w.heap.size 47 x Q ∧ Tb wr g 49 x Q ∧ Hid (Ng.Good Q) ∧ Hid (Own0 x Q) ∧ Below w.heap.size w wr) (fun i _ => n - (intOf i).toNat)
    case atStart => exact ⟨0, _, rfl, by omega, by omega, h3, h2, hg, h0, b3⟩
    case round =>
      clear h3 h2 hg h0 b3 s2
      obtain ⟨k, Q, rfl, hk, hk3, h1, h2, hg, h0, bb⟩ := hrel
      by_cases hlt : k < n ∧ k < 300
      · obtain ⟨hlt, h300⟩ := hlt
        have e300 : decide ((300 : Int) ≤ (k : Int)) = false := by simp; omega
        obtain ⟨bo, off, rfl, hbo, hcs⟩ := hV.at_struct bb hlt (by decide)
        obtain ⟨e0, e1⟩ := HC.out k hlt
        have c0 := (hcs 0 (by decide)).trans (congrArg some e0)
        have c1 := (hcs 1 (by decide)).trans (congrArg some e1)
        rw [Nat.add_zero] at c0
        clear hcs e0 e1
        generalize X0 k = f at *
        generalize X1 k = m at *
        have hx1 : Tb (wr.alloc (.cells #[.bool f, .int .i64 m] 29)) w.heap.size 47 x Q := Blk.alloc h1 _
        have hx2 : Tb (wr.alloc (.cells #[.bool f, .int .i64 m] 29)) g 49 x Q := Blk.alloc h2 _
        have bx := bb.alloc bb.size (.cells #[.bool f, .int .i64 m] 29)
        have ox := Own.new wr 29 #[.bool f, .int .i64 m]
        have z3 : g < wr.heap.size := h2.lt
        cases f
        · have hg2 := Lib.hid (good_up hg.out x m)
          have h02 := Lib.hid (own0_up h0.out HX0.out m)
          obtain ⟨qv, hqv⟩ : ∃ qv, qOf x (upTo x Q m) m = qv := ⟨_, rfl⟩
          have HQ := Lib.hid hqv
          clear hqv
          go_wp2_with fail
          generalize hrr : wr.heap.size = r at *
          generalize wr.alloc (.cells #[.bool false, .int .i64 m] 29) = wx at *
          clear hrr c0 c1 bb h1 h2
          have x1 : wx.cell? ⟨r, 1, none⟩ = some (.int .i64 m) := ox.cell 1
          refine (heard_any w.heap.size _ x Q m _ hx1 hg.out).mono ?_
          rintro q w4 ⟨rfl, h4, j4⟩
          have r4 := j4.blk hx2 (by omega)
          have o4 := j4.own ox (by omega)
          have b4 := j4.below bx (Nat.le_refl _) bx.size
          have x4 : w4.cell? ⟨r, 1, none⟩ = some (.int .i64 m) := o4.cell 1
          clear x1 hx1 hx2 ox bx
          go_wp2_with fail
          refine (rheard g x Q m _ r4 hg.out).mono ?_
          rintro q w5 ⟨rfl, r5, j5⟩
          have h5 := j5.blk h4 (by omega)
          have o5 := j5.own o4 (by omega)
          have b5 := j5.below b4 (by omega) b4.size
          have x5 : w5.cell? ⟨r, 1, none⟩ = some (.int .i64 m) := o5.cell 1
          clear x4 o4 b4 h4 r4
          have A1 : ∀ z, Calls Try.prog 15 #[.pointer (some ⟨w.heap.size, 0, none⟩), .int .i64 m] (w5.drewN z) fun r w' => r = .returned (.int .i64 qv) ∧ w5.drewN z = w' := fun z => by
            rw [← HQ.out]; exact quality_any w.heap.size _ x _ m _ (Blk.drewN h5 z)
          have A2 : ∀ z, Calls Try.prog 16 #[.pointer (some ⟨g, 0, none⟩), .int .i64 m] (w5.drewN z) fun r w' => r = .returned (.int .i64 qv) ∧ w5.drewN z = w' := fun z => by
            rw [← HQ.out]; exact rquality g x _ m _ (Blk.drewN r5 z) h02.out
          have HA1 := Lib.hid A1
          have HA2 := Lib.hid A2
          clear A1 A2
          go_wp2_with fail
          go_quiet (first | (go_at_call 15; exact quiet_left (HA1.out _)) | (go_at_call 16; exact quiet_left (HA2.out _)))
          go_wp2_with fail
          exact ⟨⟨k + 1, _, by simp [intOf], by omega, by omega, Blk.drewN h5 _, Blk.drewN r5 _, hg2, h02, below_drewN b5 _⟩, by simp [intOf]; omega⟩
        · have hg2 := Lib.hid (good_down hg.out x m)
          have h02 := Lib.hid (own0_down h0.out HX0.out m)
          obtain ⟨qv, hqv⟩ : ∃ qv, qOf x (downTo x Q m) m = qv := ⟨_, rfl⟩
          have HQ := Lib.hid hqv
          clear hqv
          go_wp2_with fail
          generalize hrr : wr.heap.size = r at *
          generalize wr.alloc (.cells #[.bool true, .int .i64 m] 29) = wx at *
          clear hrr c0 c1 bb h1 h2
          have x1 : wx.cell? ⟨r, 1, none⟩ = some (.int .i64 m) := ox.cell 1
          refine (missed_any w.heap.size _ x Q m _ hx1 hg.out).mono ?_
          rintro q w4 ⟨rfl, h4, j4⟩
          have r4 := j4.blk hx2 (by omega)
          have o4 := j4.own ox (by omega)
          have b4 := j4.below bx (Nat.le_refl _) bx.size
          have x4 : w4.cell? ⟨r, 1, none⟩ = some (.int .i64 m) := o4.cell 1
          clear x1 hx1 hx2 ox bx
          go_wp2_with fail
          refine (rmissed g x Q m _ r4 hg.out).mono ?_
          rintro q w5 ⟨rfl, r5, j5⟩
          have h5 := j5.blk h4 (by omega)
          have o5 := j5.own o4 (by omega)
          have b5 := j5.below b4 (by omega) b4.size
          have x5 : w5.cell? ⟨r, 1, none⟩ = some (.int .i64 m) := o5.cell 1
          clear x4 o4 b4 h4 r4
          have A1 : ∀ z, Calls Try.prog 15 #[.pointer (some ⟨w.heap.size, 0, none⟩), .int .i64 m] (w5.drewN z) fun r w' => r = .returned (.int .i64 qv) ∧ w5.drewN z = w' := fun z => by
            rw [← HQ.out]; exact quality_any w.heap.size _ x _ m _ (Blk.drewN h5 z)
          have A2 : ∀ z, Calls Try.prog 16 #[.pointer (some ⟨g, 0, none⟩), .int .i64 m] (w5.drewN z) fun r w' => r = .returned (.int .i64 qv) ∧ w5.drewN z = w' := fun z => by
            rw [← HQ.out]; exact rquality g x _ m _ (Blk.drewN r5 z) h02.out
          have HA1 := Lib.hid A1
          have HA2 := Lib.hid A2
          clear A1 A2
          go_wp2_with fail
          go_quiet (first | (go_at_call 15; exact quiet_left (HA1.out _)) | (go_at_call 16; exact quiet_left (HA2.out _)))
          go_wp2_with fail
          exact ⟨⟨k + 1, _, by simp [intOf], by omega, by omega, Blk.drewN h5 _, Blk.drewN r5 _, hg2, h02, below_drewN b5 _⟩, by simp [intOf]; omega⟩
      · have hx : (k < n ∧ decide ((300 : Int) ≤ (k : Int)) = true) ∨ ¬ k < n := by
          by_cases h1 : k < n
          · exact .inl ⟨h1, by simp; omega⟩
          · exact .inr h1
        clear hlt
        have htail : ∀ (wz : World), Tb wz w.heap.size 47 x Q → Tb wz g 49 x Q → Below w.heap.size w wz → Calls Try.prog 18 #[.pointer (some ⟨w.heap.size, 0, none⟩), .int .i64 y, .int .i64 z] wz fun r w' => ∃ a m c, r = .returned (.slice a m c) ∧ m = ((srt Q y).take z.toNat).length ∧ m ≤ c ∧ c ≤ maxLen ∧ Row w' a (m * 3) (pv x ((srt Q y).take z.toNat)) ∧ Below wz.heap.size wz w' := by
          intro wz k1 k2 kb
          by_cases hz : 0 < z
          · refine (report_any w.heap.size x Q y z _ k1 hg.out hz).mono ?_
            rintro r w4 ⟨a, m, c, rfl, hm, hmc, hcm, hR, b4⟩
            have hm2 : m = ((srt Q y).take z.toNat).length := by
              rw [List.length_take, srt_len]
              omega
            exact ⟨a, m, c, rfl, hm2, hmc, hcm, Row.ext hR (fun i hi => pv_take x _ (by rw [List.length_take] at hm2; omega) hi), b4⟩
          · refine (report_low w.heap.size y z _ (by omega)).mono ?_
            rintro r w' ⟨rfl, rfl⟩
            refine ⟨none, 0, 0, rfl, ?_, Nat.le_refl _, Nat.zero_le _, by rw [Nat.zero_mul]; exact Row.nil _ _ _, Below.refl _ _⟩
            rw [show z.toNat = 0 by omega]
            simp
        have HT := Lib.hid htail
        have HS := Lib.hid (tiers_srt hg.out y)
        clear htail
        rcases hx with ⟨hlt, e300⟩ | hlt
        · obtain ⟨bo, off, rfl, hbo, hcs⟩ := hV.at_struct bb hlt (by decide)
          obtain ⟨e0, e1⟩ := HC.out k hlt
          have c0 := (hcs 0 (by decide)).trans (congrArg some e0)
          have c1 := (hcs 1 (by decide)).trans (congrArg some e1)
          rw [Nat.add_zero] at c0
          clear hcs e0 e1
          have hx1 : Tb (wr.alloc (.cells #[.bool (X0 k), .int .i64 (X1 k)] 29)) w.heap.size 47 x Q := Blk.alloc h1 _
          have hx2 : Tb (wr.alloc (.cells #[.bool (X0 k), .int .i64 (X1 k)] 29)) g 49 x Q := Blk.alloc h2 _
          have bx := bb.alloc bb.size (.cells #[.bool (X0 k), .int .i64 (X1 k)] 29)
          go_wp2_with fail
          generalize wr.alloc (.cells #[.bool (X0 k), .int .i64 (X1 k)] 29) = wx at *
          clear h1 h2 bb
          refine (HT.out wx hx1 hx2 bx).mono ?_
          rintro r w4 ⟨a4, m4, c4, rfl, hm4, hc4, hd4, hR4, b4⟩
          have HM4 := Lib.hid hm4
          clear hm4
          have h4 := below_blk b4 hx2 hx2.lt
          have b4 := bx.trans (b4.mono bx.size)
          go_wp2_with fail
          refine (rreport g x Q y z _ h4).mono ?_
          rintro r w5 ⟨v, rfl, hv, b5⟩
          rw [HS.out] at hv
          rw [← HM4.out] at hv
          obtain ⟨a5, c5, rfl, hc5, hd5, hR5⟩ := hv.row
          have hR4 := hR4.below b5
          have b5 := b4.trans (b5.mono b4.size)
          clear hv
          go_wp2_with fail
          refine (same_links a4 a5 m4 c4 c5 x _ _ hc4 hc5 hd4 hd5 hR4 hR5).mono ?_
          rintro r w' ⟨rfl, mm, rfl⟩
          have b6 := below_drewN b5 mm
          go_wp2_with fail
          refine (awake_any _).mono ?_
          rintro r w9 ⟨rfl, b9⟩
          have bb := b6.trans (b9.mono b6.size)
          go_wp2_with fail
          go_ret
          exact ⟨rfl, bb⟩
        · go_wp2_with fail
          refine (HT.out _ h1 h2 bb).mono ?_
          rintro r w4 ⟨a4, m4, c4, rfl, hm4, hc4, hd4, hR4, b4⟩
          have HM4 := Lib.hid hm4
          clear hm4
          have h4 := below_blk b4 h2 h2.lt
          have b4 := bb.trans (b4.mono bb.size)
          go_wp2_with fail
          refine (rreport g x Q y z _ h4).mono ?_
          rintro r w5 ⟨v, rfl, hv, b5⟩
          rw [HS.out] at hv
          rw [← HM4.out] at hv
          obtain ⟨a5, c5, rfl, hc5, hd5, hR5⟩ := hv.row
          have hR4 := hR4.below b5
          have b5 := b4.trans (b5.mono b4.size)
          clear hv
          go_wp2_with fail
          refine (same_links a4 a5 m4 c4 c5 x _ _ hc4 hc5 hd4 hd5 hR4 hR5).mono ?_
          rintro r w' ⟨rfl, mm, rfl⟩
          have b6 := below_drewN b5 mm
          go_wp2_with fail
          refine (awake_any _).mono ?_
          rintro r w9 ⟨rfl, b9⟩
          have bb := b6.trans (b9.mono b6.size)
          go_wp2_with fail
          go_ret
          exact ⟨rfl, bb⟩

theorem walk (H : Type) (enc : TypeId × Value → H) : Walk H enc Try.prog 3 Try.f3 := by
  intro W base args ds p hval hA
  rw [Try.params3] at hA hval
  obtain ⟨v0, v1, v2, v3, d0, d1, d2, d3, p0, p1, p2, p3, rfl, rfl, rfl, h0, h1, h2, h3⟩ := trodAll_four hA
  obtain ⟨x, rfl, rfl, rfl, _⟩ := open_int Try.underlying3 (hval 0 _ v0 rfl rfl) h0
  obtain ⟨a, n, c, V, rfl, hn, hm, hV, hf⟩ := open_row_struct Try.underlying22 Try.underlying29 (by kernel_rfl) (by kernel_rfl) (by decide) (hval 1 _ v1 rfl rfl) h1
  obtain ⟨X0, e0⟩ := field_bool (n := n) (m := 2) (j := 0) Try.underlying4 (fun i hi => hf i hi 0 _ rfl)
  obtain ⟨X1, e1⟩ := field_int (n := n) (m := 2) (j := 1) Try.underlying3 (fun i hi => hf i hi 1 _ rfl)
  obtain ⟨y, rfl, rfl, rfl, _⟩ := open_int Try.underlying3 (hval 2 _ v2 rfl rfl) h2
  obtain ⟨z, rfl, rfl, rfl, _⟩ := open_int Try.underlying3 (hval 3 _ v3 rfl rfl) h3
  exact body x a n c V X0 X1 y z W hn hm hV (fun i hi => ⟨e0 i hi, (e1 i hi).1⟩)

set_option maxRecDepth 100000 in
theorem lifted (os : Os) (started : os.Started) (H : Type) (enc : TypeId × Value → H) :
    ReturnsInHanded {} Try.checked os 3 .any (Rows.neighPlaysSpec.pre6 enc Try.prog Try.f3 Rows.neighPlaysRow.domain false) (Rows.neighPlaysSpec.post enc Try.prog Try.f3 false true false false) :=
  returnsInHanded_of_change (C := Try.checked) own started (by kernel_rfl) Try.func3
    (ChangeSpec.witness6 (enc := enc) (C := Try.checked) false ⟨#[], #[.int .i64 0, .slice none 0 0, .int .i64 0, .int .i64 0], []⟩ 8 (by kernel_rfl) (by kernel_rfl) (by kernel_rfl) (by kernel_rfl))
    fun W base args ds gs before hval hW _ _ => step_of_walk laidOut (by rw [Try.params3]; exact of_decide_eq_true (by kernel_rfl)) (by kernel_rfl) Try.underlying4 rfl
      (fun ds h => by
        rw [Try.params3] at h
        match ds, h with
        | [_, _, _, _], _ => rfl) (walk H enc) W base args ds gs before hval hW

theorem holds : Rows.NeighPlaysSaid :=
  OpenClaim.holds_of_wide 3 Try.f3 rfl rfl rfl rfl rfl rfl rfl ⟨rfl, rfl, rfl, rfl, rfl⟩ rfl rfl rfl rfl rfl (by kernel_rfl) Try.func3 (by kernel_rfl)
    (of_decide_eq_true (by kernel_rfl)) (by unfold Func.isWrapper; first | (rw [if_pos (by decide +kernel)]; kernel_rfl) | (rw [if_neg (by decide +kernel)]; exact ⟨rfl, rfl⟩))
    (fun os started H enc _ => lifted os started H enc)
#print axioms holds
end Go.Proofs.Ytpapkcelgbnkaaa.NeighPlays
