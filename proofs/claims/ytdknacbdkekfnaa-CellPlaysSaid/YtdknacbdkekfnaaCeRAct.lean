/-
  The reference's table: Active.
-/
import Derived.Test.YtdknacbdkekfnaaCeRTab2
set_option maxRecDepth 100000
namespace Go.Proofs.Ytdknacbdkekfnaa.Ce
set_option linter.unusedVariables false
open Go.RowKit Lb Cl
set_option maxHeartbeats 1000000 in
theorem ract_any (base b : Nat) (N : Nat → Int) (l : List C) (v : Value) (t : Int) (w : World) (tb : Rtb w base b N l v) :
    Calls Try.prog 19 #[.pointer (some ⟨b, 0, none⟩), .int .i64 t] w fun r w' => ∃ va, r = .returned va ∧ MineK w' w.heap.size 31 5 va (act N l t).length (lv (act N l t)) ∧ Below w.heap.size w w' := by
  obtain ⟨i0, hi0, hz0, hz1, hz2⟩ := info_parts infoC
  rcases (show t < 0 ∨ (0 ≤ t ∧ 1099511627776 ≤ t) ∨ (0 ≤ t ∧ t < 1099511627776) by omega) with ht | ⟨ht0, ht⟩ | ⟨ht0, ht⟩
  · have HD : Hid (act N l t = []) := Lib.hid (by unfold act; rw [if_neg (by omega)])
    have hA := asn_any t w
    rw [decide_eq_false (by omega)] at hA
    go_enter Try.func19, Try.ntmps19
    go_wp2_with (go_at_call 34; refine hA.mono ?_; rintro r w' ⟨rfl, rfl⟩)
    go_ret
    exact ⟨_, rfl, by rw [HD.out]; exact MineK.nil _ _ _ _ _, Below.refl _ _⟩
  · have HD : Hid (act N l t = []) := Lib.hid (by unfold act; rw [if_neg (by omega)])
    have g0 : decide (t < 0) = false := by simp; omega
    have hA := asn_any t w
    rw [decide_eq_false (by omega)] at hA
    go_enter Try.func19, Try.ntmps19
    go_wp2_with (go_at_call 34; refine hA.mono ?_; rintro r w' ⟨rfl, rfl⟩)
    go_ret
    exact ⟨_, rfl, by rw [HD.out]; exact MineK.nil _ _ _ _ _, Below.refl _ _⟩
  · have HD : Hid (act N l t = upto N l t l.length) := Lib.hid (by unfold act upto; rw [if_pos ⟨ht0, ht⟩, List.take_of_length_le (Nat.le_refl _)])
    have g0 : decide (t < 0) = false := by simp; omega
    have g1 : decide (1099511627776 ≤ t) = false := by simp; omega
    obtain ⟨A, c, rfl, hc1, hc2, hR⟩ := tb.row.row
    unfold maxLen at hc2
    have hfew := tb.good.few
    have c4 := tb.v4
    have HT := Lib.hid tb
    have HR := Lib.hid hR
    obtain ⟨m, hm⟩ : ∃ m, l.length = m := ⟨_, rfl⟩
    rw [hm] at c4 HT HR hfew hc1 HD
    have HL := Lib.hid hm
    clear tb hR hm
    have hA := asn_any t w
    rw [decide_eq_true ⟨ht0, ht⟩] at hA
    go_enter Try.func19, Try.ntmps19
    go_wp2_with (go_at_call 34; refine hA.mono ?_; rintro r w' ⟨rfl, rfl⟩)
    go_loopw [5, 16] (fun u i wr => ∃ k : Nat, i = .int .i64 k ∧ k ≤ m ∧ MineK wr w.heap.size 31 5 u (upto N l t k).length (lv (upto N l t k)) ∧ Below w.heap.size w wr) (fun _ i _ => m - (intOf i).toNat)
    case atStart => exact ⟨0, rfl, by omega, MineK.nil _ _ _ _ _, Below.refl _ _⟩
    case round =>
      obtain ⟨k, rfl, hk, mu, b1⟩ := hrel
      by_cases hlt : k < m
      · obtain ⟨bo, off, rfl, hbo, d0, d1, d2, d3, d4⟩ := row_c HR.out b1 hlt
        have hup := upto_succ N l t k (by rw [HL.out]; exact hlt)
        have hul := upto_len N l t k
        have hcell := HT.out.good.cell _ (at_mem (k := k) (by rw [HL.out]; exact hlt))
        have hNle := HT.out.good.len
        obtain ⟨x, hx⟩ : ∃ x, at_ l k = x := ⟨_, rfl⟩
        rw [hx] at d0 d1 d2 d3 d4 hup hcell
        obtain ⟨a, ha0⟩ := Int.eq_ofNat_of_zero_le hcell.1
        have ha : a < 4 := by omega
        rw [ha0, Int.toNat_natCast] at hcell
        have i0' : (0 : Int) ≤ (a : Int) := by omega
        have i1' : (a : Int) < 4 := by omega
        have cN := (HT.out.below b1).n ha
        obtain ⟨n0, hn0⟩ : ∃ n0, N a = n0 := ⟨_, rfl⟩
        have hn1 := hNle a
        rw [hn0] at cN hcell hn1
        have z1 : (n0 == 0) = false := by simp; omega
        have z2 : n0 ≠ 0 := by omega
        have z3 : t.tmod n0 = t % n0 := Int.tmod_eq_emod_of_nonneg ht0
        obtain ⟨e, he⟩ : ∃ e, (x.s == t % n0) = e := ⟨_, rfl⟩
        have hon : onB N t x = e := by unfold onB; rw [ha0, Int.toNat_natCast, hn0, ← he]; exact BEq.comm
        rw [hon] at hup
        rw [ha0] at d0
        have HA := Lib.hid ha0
        have b2 := b1.alloc b1.size (.cells #[.int .i64 (a : Int), .int .i64 x.s, .int .i64 x.c, .int .i64 x.o, .int .i64 x.p] 31)
        have mu2 := mu.alloc (.cells #[.int .i64 (a : Int), .int .i64 x.s, .int .i64 x.c, .int .i64 x.o, .int .i64 x.p] 31)
        have o2 := Own.new wr 31 #[.int .i64 (a : Int), .int .i64 x.s, .int .i64 x.c, .int .i64 x.o, .int .i64 x.p]
        have cN2 := keep_cell ((Below.refl wr.heap.size wr).alloc (Nat.le_refl _) (.cells #[.int .i64 (a : Int), .int .i64 x.s, .int .i64 x.c, .int .i64 x.o, .int .i64 x.p] 31)) cN
        have HUP := Lib.hid hup
        have HMU := Lib.hid mu2
        clear hx hup hcell hn1 hNle hn0 ha0 hon mu mu2
        have bk4 := keep_cell b2 c4
        cases e
        · go_wp2_with fail
          generalize wr.alloc (.cells #[.int .i64 (a : Int), .int .i64 x.s, .int .i64 x.c, .int .i64 x.o, .int .i64 x.p] 31) = w2 at *
          have e0 := o2.cell 0
          have e1 := o2.cell 1
          simp at e0 e1
          go_quiet (fail)
          go_wp2_with fail
          exact ⟨⟨k + 1, by simp, by omega, by rw [HUP.out]; have := HMU.out.drewN nq; simpa using this, below_drewN b2 _⟩, by simp [intOf]; omega⟩
        · go_wp2_with fail
          generalize wr.alloc (.cells #[.int .i64 (a : Int), .int .i64 x.s, .int .i64 x.c, .int .i64 x.o, .int .i64 x.p] 31) = w2 at *
          have e0 := o2.cell 0
          have e1 := o2.cell 1
          have e2 := o2.cell 2
          have e3 := o2.cell 3
          have e4 := o2.cell 4
          simp at e0 e1 e2 e3 e4
          go_quiet (fail)
          have o3 := o2.drewN nq
          have b3 := below_drewN b2 nq
          have HM3 := Lib.hid ((HMU.out.drewN nq).alloc (.cells #[.int .i64 (a : Int), .int .i64 x.s, .int .i64 x.c, .int .i64 x.o, .int .i64 x.p] 31))
          generalize w2.drewN nq = w3 at *
          have hsz : w.heap.size ≤ w3.heap.size := b3.size
          have HR3 : Hid (Row (w3.alloc (.cells #[.int .i64 (a : Int), .int .i64 x.s, .int .i64 x.c, .int .i64 x.o, .int .i64 x.p] 31)) (some ⟨w3.heap.size, 0, none⟩) (1 * 5) (lv [x])) := Lib.hid (row_new _ _ _ _ (fun i hi => by
            rcases (show i = 0 ∨ i = 1 ∨ i = 2 ∨ i = 3 ∨ i = 4 by omega) with rfl | rfl | rfl | rfl | rfl
            · show some (Value.int .i64 (a : Int)) = some (Value.int .i64 x.f); rw [HA.out]
            · rfl
            · rfl
            · rfl
            · rfl))
          have HNM : Hid ((upto N l t k).length + 1 ≤ maxLen) := Lib.hid (by unfold maxLen; omega)
          have HB3 : Hid (w.heap.size ≤ (w3.alloc (.cells #[.int .i64 (a : Int), .int .i64 x.s, .int .i64 x.c, .int .i64 x.o, .int .i64 x.p] 31)).heap.size) := Lib.hid (by simp; omega)
          have hb40 : ((upto N l t k).length + 1) * 40 ≤ 140737488355328 := by omega
          have HB40 := Lib.hid hb40
          have b4 := Lib.hid (b3.alloc hsz (.cells #[.int .i64 (a : Int), .int .i64 x.s, .int .i64 x.c, .int .i64 x.o, .int .i64 x.p] 31))
          clear e0 e1 e2 e3 e4 hb40 cN2 bk4 d0 d1 d2 d3 d4 cN
          have e0 := o3.cell 0
          have e1 := o3.cell 1
          have e2 := o3.cell 2
          have e3 := o3.cell 3
          have e4 := o3.cell 4
          simp at e0 e1 e2 e3 e4
          go_wp2_with (at_builtin; go_must (refine wp_appK rfl (.tmp 32) (.tmp 34) _ rfl w.heap.size 31 i0 _ 5 40 Try.underlying27 hi0 hz0 hz1 hz2 rfl (by decide) _ (upto N l t k).length (lv (upto N l t k)) rfl HM3.out _ 1 _ (lv [x]) rfl HR3.out (fun i _ => lv_one _ i) HNM.out HB40.out HB3.out ?_))
          intro v5 w5 m5 g5 q5
          have M5 : Hid (MineK w5 w.heap.size 31 5 v5 (upto N l t (k + 1)).length (lv (upto N l t (k + 1)))) := Lib.hid (by
            have hu : upto N l t (k + 1) = upto N l t k ++ [x] := by rw [HUP.out]; simp
            rw [hu, List.length_append]
            exact m5.ext (fun q hq => (lv_snoc _ x q).resolve_right (by omega)))
          have B5 : Hid (Below w.heap.size w w5) := Lib.hid (b4.out.grown g5 HB3.out (fun q e => ((HM3.out.lt q e).1)))
          clear m5 g5 q5
          go_wp2_with fail
          exact ⟨⟨k + 1, by simp, by omega, M5.out, B5.out⟩, by simp [intOf]; omega⟩
      · obtain rfl : m = k := by omega
        go_wp2_with fail
        go_ret
        exact ⟨_, rfl, by rw [HD.out]; exact mu, b1⟩
end Go.Proofs.Ytdknacbdkekfnaa.Ce
