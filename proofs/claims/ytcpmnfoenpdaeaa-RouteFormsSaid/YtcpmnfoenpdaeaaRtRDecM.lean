/-
  The reference of packets (chapter 19): DecodePacket.
-/
import Derived.Test.YtcpmnfoenpdaeaaRtRDecE
set_option maxRecDepth 100000
namespace Go.Proofs.Ytcpmnfoenpdaeaa.Rq
set_option linter.unusedVariables false
open Go.RowKit Lb Go.Shelf Bf Rt


theorem row_just {w w' : World} {a : Option Addr} {n b : Nat} {V : Nat → Value} (h : Row w a n V) (j : Just b w w') (hb : ∀ p, a = some p → p.block ≠ b) : Row w' a n V := fun h0 => by
  obtain ⟨q, off, rfl, hq, hc⟩ := h h0
  have hne := hb _ rfl
  exact ⟨q, off, rfl, Nat.lt_of_lt_of_le hq j.size, fun i hi => (World.cell?_of_block (a := ⟨q, off + i, none⟩) (j.block q hq hne)).trans (hc i hi)⟩
set_option maxHeartbeats 8000000 in
theorem rdec_main (a : Option Addr) (c : Nat) (L : List Int) (w : World) (h1 : 10 + (L.getD 9 0).toNat ≤ L.length) (h16 : (L.getD 9 0).toNat ≤ 16) (hR : Bs w a c L) (hB : okB L) :
    Calls Try.prog 25 #[.slice a L.length c] w (RDecPost L w) := by
  have hb9 := okD_at hB 9
  obtain ⟨hn', hhn⟩ : ∃ m : Nat, L.getD 9 0 = (m : Int) := ⟨(L.getD 9 0).toNat, by omega⟩
  rw [hhn, Int.toNat_natCast] at h1 h16
  have HHN := Lib.hid hhn
  have HE1 : Hid (L.length < 10 + hn' + 1 → decE L = 2) := Lib.hid (fun q => decE_short (by omega) hhn (by omega) q)
  have HE2 : Hid (∀ sz, L.getD (10 + hn') 0 = sz → ¬ L.length < 10 + hn' + 1 → (sz < 1 ∨ 24 < sz) → decE L = 3) := Lib.hid (fun sz hs q b => decE_size (by omega) hhn (by omega) q hs b)
  have HE3 : Hid (∀ s : Nat, L.getD (10 + hn') 0 = (s : Int) → ¬ ((s : Int) < 1 ∨ 24 < (s : Int)) → L.length < 10 + hn' + 1 + s → decE L = 2) := Lib.hid (fun s hs b q => by
    by_cases q1 : L.length < 10 + hn' + 1
    · exact decE_short (by omega) hhn (by omega) q1
    · exact decE_less (by omega) hhn (by omega) q1 hs b q)
  have HE4 : Hid (∀ s : Nat, L.getD (10 + hn') 0 = (s : Int) → ¬ ((s : Int) < 1 ∨ 24 < (s : Int)) → ¬ L.length < 10 + hn' + 1 + s → L.length ≠ 10 + hn' + 1 + s → decE L = 3) := Lib.hid (fun s hs b q q2 => decE_more (by omega) hhn (by omega) (by omega) hs b q q2)
  have HE5 : Hid (∀ s x : Nat, L.getD (10 + hn') 0 = (s : Int) → ¬ ((s : Int) < 1 ∨ 24 < (s : Int)) → L.length = 10 + hn' + 1 + s → decX L = x → decE L = if mayK (decP L x) = false then 3 else 0) := Lib.hid (fun s x hs b q hx => by
    unfold decE
    rw [if_neg (by omega), hhn, Int.toNat_natCast, if_neg (by omega), if_neg (by omega), hs, if_neg b, Int.toNat_natCast, if_neg (by omega), if_neg (by omega), hx])
  have HOB := Lib.hid hB
  have S0 := gds_start a c L w hR
  unfold Z6 at S0
  obtain ⟨f, hf⟩ : ∃ x, L.getD 0 0 = x := ⟨_, rfl⟩
  obtain ⟨t, ht⟩ : ∃ x, L.getD 1 0 = x := ⟨_, rfl⟩
  obtain ⟨lf, hlf⟩ : ∃ x, L.getD 8 0 = x := ⟨_, rfl⟩
  obtain ⟨x, hx, hxb, hxd⟩ := num6 hB
  have HX := Lib.hid hx
  have HF := Lib.hid hf
  have HT := Lib.hid ht
  have HLF := Lib.hid hlf
  have ex : IntKind.i64.wrap (x : Int) = (x : Int) := IntWalk.i64_in _ ⟨by omega, by omega⟩
  obtain ⟨h, hh⟩ : ∃ h, w.heap.size = h := ⟨_, rfl⟩
  rw [hh] at S0
  have HH := Lib.hid hh
  obtain ⟨n, hn⟩ : ∃ n, L.length = n := ⟨_, rfl⟩
  have HN := Lib.hid hn
  have E10 : Hid (Se L 10 = 0) := Lib.hid (se_yes (by omega))
  have g1 : decide (16 < hn') = false := by simp; omega
  have g2 : decide ((16 : Int) < (hn' : Int)) = false := by simp; omega
  have HXD : Hid (decX L = x) := Lib.hid (hxd (by omega))
  have HSR : Hid (10 + hn' ≤ L.length) := Lib.hid h1
  have HPK : ∀ s : Nat, L.getD (10 + hn') 0 = (s : Int) → L.length = 10 + hn' + 1 + s → Hid ((decP L x).path.length = hn' ∧ (decP L x).data.length = s ∧ (∀ i, i < hn' → zval (decP L x).path i = .int .i64 (L.getD (10 + i) 0)) ∧ (∀ i, i < s → bval (decP L x).data i = .int .u8 (L.getD (10 + hn' + 1 + i) 0)) ∧ (decP L x).f = f ∧ (decP L x).t = t ∧ (decP L x).n = (x : Int) ∧ (decP L x).life = lf) := fun s hs hl => Lib.hid (by
    obtain ⟨v1, v2, _, v4, v5⟩ := decP_vals (L := L) (x := x) hf ht hlf hhn hs (by omega) none none 0 0
    refine ⟨v1, v2, fun i hi => by rw [← v4 i hi]; rfl, fun i hi => by rw [← v5 i hi, show 11 + hn' + i = 10 + hn' + 1 + i by omega], hf, ht, rfl, hlf⟩)
  have HPKH := Lib.hid HPK
  rw [hn] at S0 ⊢
  obtain ⟨i0, hi0, hz0, hz1, hz2⟩ := info_parts infoI
  clear hn hf ht hlf hx hxd hB hR h1 hb9 hhn HPK
  go_enter Try.func25, Try.ntmps25
  go_upto_region 3 with (fail)
  generalize ((w.alloc (.cells #[.int .i64 0, .int .i64 0, .int .i64 0, .int .i64 0, .slice none 0 0, .slice none 0 0] 25)).alloc (.cells #[.int .i64 0, .int .i64 0, .int .i64 0, .int .i64 0, .slice none 0 0, .slice none 0 0] 25)).alloc (.cells #[.slice a n c, .int .i64 0] 67) = w0 at *
  go_wp2_with fail
  refine (rdk_u8 (h + 2) L 0 w0 S0.rd HOB.out).mono ?_
  rintro r w1 ⟨rfl, r1, j1⟩
  have S1 := S0.read r1 j1
  rw [HF.out]
  clear S0 r1 j1
  go_wp2_with fail
  refine (rdk_u8 (h + 2) L 1 w1 S1.rd HOB.out).mono ?_
  rintro r w2 ⟨rfl, r2, j2⟩
  have S2 := S1.read r2 j2
  rw [HT.out]
  clear S1 r2 j2
  go_wp2_with fail
  refine (rdk_num (h + 2) L 2 6 w2 S2.rd HOB.out (by decide) (by decide)).mono ?_
  rintro r w3 ⟨rfl, r3, j3⟩
  have S3 := S2.read r3 j3
  rw [HX.out]
  clear S2 r3 j3
  go_wp2_with fail
  refine (rdk_u8 (h + 2) L 8 w3 S3.rd HOB.out).mono ?_
  rintro r w4 ⟨rfl, r4, j4⟩
  have S4 := S3.read r4 j4
  rw [HLF.out]
  have og := Own.new w4 25 #[.int .i64 f, .int .i64 t, .int .i64 (x : Int), .int .i64 lf, .slice none 0 0, .slice none 0 0]
  have S5 := S4.alloc (.cells #[.int .i64 f, .int .i64 t, .int .i64 (x : Int), .int .i64 lf, .slice none 0 0, .slice none 0 0] 25)
  have hg := S4.lt
  clear S3 S4 r4 j4
  go_upto_region 4 with (fail)
  obtain ⟨g, hgg⟩ : ∃ g, w4.heap.size = g := ⟨_, rfl⟩
  rw [hgg] at og hg ⊢
  generalize w4.alloc (.cells #[.int .i64 f, .int .i64 t, .int .i64 (x : Int), .int .i64 lf, .slice none 0 0, .slice none 0 0] 25) = w5 at *
  clear hgg
  go_wp2_with fail
  refine (rdk_u8 (h + 2) L 9 w5 S5.rd HOB.out).mono ?_
  rintro r w6 ⟨rfl, r6, j6⟩
  have S6 := S5.read r6 j6
  have og6 := j6.own og (Nat.ne_of_gt hg)
  have c1 := S6.err
  rw [E10.out] at c1
  rw [HHN.out]
  clear S5 og r6 j6
  have hs6 : g + 1 ≤ w6.heap.size := og6.lt
  go_wp2_with fail
  refine (rdk_raw (h + 2) L 10 hn' w6 S6.rd HSR.out (by omega)).mono ?_
  rintro r w7 ⟨ra, rc, rfl, hrc, hrm, mr, r7, j7⟩
  have S7 := S6.read r7 j7
  have og7 := j7.own og6 (Nat.ne_of_gt hg)
  have mr := mine_low mr hs6
  have hs7 := Nat.le_trans hs6 j7.size
  unfold maxLen at hrm
  have hn63 : (hn' : Int) ≤ 9223372036854775807 := by omega
  have hr63 : (rc : Int) ≤ 9223372036854775807 := by omega
  have mv0 : Mine w7 (g + 1) 3 (.slice none 0 0) 0 (fun i => .int .i64 (L.getD (10 + i) 0)) := Mine.nil _ _ _ _
  clear S6 og6 r7 j7 c1 g1 g2 hs6
  go_wp2_with fail
  go_loopw [42] (fun i wr => ∃ (k : Nat) (v : Value), i = .int .i64 (k : Int) ∧ k ≤ hn' ∧ GdS L w h (10 + hn') wr ∧ Lb.Own wr g 25 #[.int .i64 f, .int .i64 t, .int .i64 (x : Int), .int .i64 lf, v, .slice none 0 0] ∧ Mine wr (g + 1) 3 v k (fun i => .int .i64 (L.getD (10 + i) 0)) ∧ Mine wr (g + 1) 5 (.slice ra hn' rc) hn' (bval (L.drop 10)) ∧ g + 1 ≤ wr.heap.size) (fun i _ => hn' - (intOf i).toNat)
  case atStart => exact ⟨0, _, rfl, Nat.zero_le _, S7, og7, mv0, mr, hs7⟩
  case round =>
    clear S7 og7 mv0 mr hs7
    obtain ⟨k, v, rfl, hk, S, og, mv, mr, hs⟩ := hrel
    by_cases hlt : k < hn'
    · obtain ⟨rb, ro, rfl, hrb, hrr⟩ := mr.rowAt (by omega)
      have d0 : wr.cell? ⟨rb, ro + k, none⟩ = some (.int .u8 (L.getD (10 + k) 0)) := by
        rw [hrr k hlt]
        unfold bval
        rw [List.getD_eq_getElem?_getD, List.getD_eq_getElem?_getD, List.getElem?_drop]
      have hx0 := okD_at HOB.out (10 + k)
      have HSN : Hid (∀ q, q < k + 1 → (if q < k then Value.int .i64 (L.getD (10 + q) 0) else .int .i64 (L.getD (10 + k) 0)) = .int .i64 (L.getD (10 + q) 0)) := Lib.hid (fun q hq => by
        by_cases e : q < k
        · rw [if_pos e]
        · rw [if_neg e, show q = k by omega])
      obtain ⟨y, hy⟩ : ∃ y, L.getD (10 + k) 0 = y := ⟨_, rfl⟩
      rw [hy] at d0 hx0 HSN
      obtain ⟨y0, y1⟩ := hx0
      obtain ⟨va, vc, rfl, hvc, hvm, _⟩ := mv.row
      have d4 := og.cell 4
      have rw0 := Lib.hid (row_new (n := 1) (V := fun _ => .int .i64 y) wr #[.int .i64 y] 3 (0, 0) (fun i hi => by obtain rfl : i = 0 := (by omega); rfl))
      have hk1 : Hid (k + 1 ≤ maxLen) := Lib.hid (by unfold maxLen; omega)
      have mv2 := mv.alloc (.cells #[.int .i64 y] 3)
      have mr2 := mr.alloc (.cells #[.int .i64 y] 3)
      have S2 := S.alloc (.cells #[.int .i64 y] 3)
      have og2 := og.alloc (.cells #[.int .i64 y] 3)
      have hs2 : g + 1 ≤ (wr.alloc (.cells #[.int .i64 y] 3)).heap.size := by simp; omega
      clear hrr hy mv mr S
      go_wp2_with (at_builtin; go_must (refine wp_app rfl (.tmp 47) (.tmp 50) _ rfl (g + 1) 3 i0 _ 8 Try.underlying22 hi0 hz0 hz1 hz2 rfl (.slice va k vc) k (fun i => .int .i64 (L.getD (10 + i) 0)) rfl mv2 _ 1 _ (fun _ => .int .i64 y) rfl rw0.out (fun _ _ => rfl) hk1.out ?c3 hs2 ?_))
      case c3 => omega
      intro v' w8 m8 g8
      have hgb : ∀ q, (Value.slice va k vc).ownBlock = some q → g + 1 ≤ q := fun q hq => (mv2.lt q hq).1
      have bg := (Below.refl (g + 1) (wr.alloc (.cells #[.int .i64 y] 3))).grown g8 hs2 hgb
      have S3 := S2.high bg (by omega)
      have og3 := below_own bg og2 (Nat.lt_succ_self g)
      have mr3 : Mine w8 (g + 1) 5 (.slice (some ⟨rb, ro, none⟩) hn' rc) hn' (bval (L.drop 10)) := mr2.kept (fun q _ => by
        by_cases e : (Value.slice (some ⟨rb, ro, none⟩) hn' rc).ownBlock = some q
        · exact .inl (g8.block q (mr2.lt q e).2 (fun e' => mine_apart mr2 mv2 (by decide) q e e'.symm))
        · exact .inr e)
      have m9 : Mine w8 (g + 1) 3 v' (k + 1) (fun i => .int .i64 (L.getD (10 + i) 0)) := m8.ext (fun q hq => HSN.out q hq)
      have k4 := og3.cell 4
      have f4 := og3.free 4
      have J := Just.set g w8 4 v'
      have og4 := og3.put 4 v'
      have S4 := S3.setHigh hg 4 v'
      have m10 := m9.just J (Nat.lt_succ_self g)
      have mr4 := mr3.just J (Nat.lt_succ_self g)
      have hs4 : g + 1 ≤ (w8.setCell ⟨g, 4, none⟩ v').heap.size := Nat.le_trans (Nat.le_trans hs2 bg.size) J.size
      obtain ⟨ua, uc, rfl, _, _, _⟩ := m10.row
      clear mv2 mr2 S2 og2 hs2 m8 g8 hgb bg S3 og3 mr3 m9 J rw0 d0 d4 og hs
      go_wp2_with fail
      exact ⟨⟨k + 1, _, by simp, by omega, S4, og4, m10, mr4, hs4⟩, by simp [intOf]; omega⟩
    · obtain rfl : k = hn' := by omega
      clear mr
      obtain ⟨sz, hsz⟩ : ∃ y, L.getD (10 + k) 0 = y := ⟨_, rfl⟩
      have HSZ := Lib.hid hsz
      have hszb := okD_at HOB.out (10 + k)
      rw [hsz] at hszb
      clear hsz
      go_wp2_with fail
      refine (rdk_u8 (h + 2) L (10 + k) wr S.rd HOB.out).mono ?_
      rintro r w8 ⟨rfl, r8, j8⟩
      have S8 := S.read r8 j8
      have og8 := j8.own og (Nat.ne_of_gt hg)
      have mv8 := mv.just j8 (by omega)
      have hs8 := Nat.le_trans hs j8.size
      rw [HSZ.out]
      clear S og mv r8 j8 hs
      obtain ⟨s, rfl⟩ : ∃ s : Nat, sz = (s : Int) := ⟨sz.toNat, by omega⟩
      have hs63 : (s : Int) ≤ 9223372036854775807 := by omega
      have hs256 : s < 256 := by omega
      by_cases hD : n < 10 + k + 1
      · have HDL : Hid (L.length < 10 + k + 1) := Lib.hid (by rw [HN.out]; exact hD)
        have HE := Lib.hid (HE1.out HDL.out)
        have c1 := S8.err
        rw [se_no HDL.out] at c1
        clear hD mv8
        go_wp2_with fail
        refine (rdk_raw_bad (h + 2) L (10 + k + 1) s w8 S8.rd (.inl HDL.out) (by omega)).mono ?_
        rintro r w9 ⟨rfl, r9, j9⟩
        have S9 := (S8.read r9 j9).setHigh hg 5 (.slice none 0 0)
        have f5 := (j9.own og8 (Nat.ne_of_gt hg)).free 5
        have k5 := (j9.own og8 (Nat.ne_of_gt hg)).cell 5
        clear S8 og8 r9 j9 c1
        go_upto_region 16 with (fail)
        generalize w9.setCell ⟨g, 5, none⟩ (.slice none 0 0) = w10 at *
        clear f5 k5
        go_wp2_with fail
        refine (rdk_end (h + 2) L (10 + k + 1 + s) w10 S9.rd).mono ?_
        rintro r w11 ⟨rfl, rfl⟩
        rw [if_pos (by have := HDL.out; omega)]
        have oo4 := S9.o4
        have oo2 := S9.o2
        unfold Z6 at oo4 oo2
        have y0 := oo4.cell 0
        have y1 := oo4.cell 1
        have y2 := oo4.cell 2
        have y3 := oo4.cell 3
        have y4 := oo4.cell 4
        have y5 := oo4.cell 5
        have z0 := oo2.cell 0
        have z1 := oo2.cell 1
        have z2 := oo2.cell 2
        have z3 := oo2.cell 3
        have z4 := oo2.cell 4
        have z5 := oo2.cell 5
        have q0 := oo2.free 0
        have q1 := oo2.free 1
        have q2 := oo2.free 2
        have q3 := oo2.free 3
        have q4 := oo2.free 4
        have q5 := oo2.free 5
        have HP := Lib.hid (S9.put (.int .i64 0) (.int .i64 0) (.int .i64 0) (.int .i64 0) (.slice none 0 0) (.slice none 0 0))
        have HB := Lib.hid S9.bb
        have HL := Lib.hid S9.le
        clear S9 oo2 oo4
        go_wp2_with fail
        refine bodyPost_ret (results_row_tmp rfl _ _ h 25 _ (0, 0) _ rfl HP.out.1 Try.underlying25 rfl (by kernel_rfl)) rfl ?_
        exact rdec_err HE.out (by decide) (by rw [HH.out]; exact HP.out.2.below HB.out (Nat.le_refl _) HL.out)
      · have HDL : Hid (¬ L.length < 10 + k + 1) := Lib.hid (by rw [HN.out]; exact hD)
        have c1 := S8.err
        rw [se_yes (by have := HDL.out; omega)] at c1
        by_cases hbad : (s : Int) < 1 ∨ 24 < (s : Int)
        · have HE := Lib.hid (HE2.out _ HSZ.out HDL.out hbad)
          have hcs : (decide ((s : Int) < 1) = true ∧ decide (s < 1) = true) ∨ (decide ((s : Int) < 1) = false ∧ decide (s < 1) = false ∧ decide ((24 : Int) < (s : Int)) = true ∧ decide (24 < s) = true) := by
            by_cases q : s < 1
            · exact .inl ⟨decide_eq_true (by omega), decide_eq_true q⟩
            · exact .inr ⟨decide_eq_false (by omega), decide_eq_false q, decide_eq_true (by omega), decide_eq_true (by omega)⟩
          clear hbad hD mv8
          rcases hcs with ⟨g3, g4⟩ | ⟨g3, g4, g5, g6⟩
          all_goals
            have oo4 := S8.o4
            have oo2 := S8.o2
            unfold Z6 at oo4 oo2
            have y0 := oo4.cell 0
            have y1 := oo4.cell 1
            have y2 := oo4.cell 2
            have y3 := oo4.cell 3
            have y4 := oo4.cell 4
            have y5 := oo4.cell 5
            have z0 := oo2.cell 0
            have z1 := oo2.cell 1
            have z2 := oo2.cell 2
            have z3 := oo2.cell 3
            have z4 := oo2.cell 4
            have z5 := oo2.cell 5
            have q0 := oo2.free 0
            have q1 := oo2.free 1
            have q2 := oo2.free 2
            have q3 := oo2.free 3
            have q4 := oo2.free 4
            have q5 := oo2.free 5
            have HP := Lib.hid (S8.put (.int .i64 0) (.int .i64 0) (.int .i64 0) (.int .i64 0) (.slice none 0 0) (.slice none 0 0))
            have HB := Lib.hid S8.bb
            have HL := Lib.hid S8.le
            clear S8 oo2 oo4
            clear og8
            go_wp2_with fail
            refine bodyPost_ret (results_row_tmp rfl _ _ h 25 _ (0, 0) _ rfl HP.out.1 Try.underlying25 rfl (by kernel_rfl)) rfl ?_
            exact rdec_err HE.out (by decide) (by rw [HH.out]; exact HP.out.2.below HB.out (Nat.le_refl _) HL.out)
        · have HSB := Lib.hid hbad
          have g3 : decide ((s : Int) < 1) = false := decide_eq_false (fun q => hbad (.inl q))
          have g4 : decide (s < 1) = false := decide_eq_false (fun q => hbad (.inl (by omega)))
          have g5 : decide ((24 : Int) < (s : Int)) = false := decide_eq_false (fun q => hbad (.inr q))
          have g6 : decide (24 < s) = false := decide_eq_false (fun q => hbad (.inr (by omega)))
          have g7 : (s == 0) = false := by simp; omega
          have g8 : decide (s = 0) = false := decide_eq_false (by omega)
          clear hbad
          by_cases hF : n < 10 + k + 1 + s
          · have HFL : Hid (L.length < 10 + k + 1 + s) := Lib.hid (by rw [HN.out]; exact hF)
            have HE := Lib.hid (HE3.out s HSZ.out HSB.out HFL.out)
            clear hF hD mv8
            go_wp2_with fail
            refine (rdk_raw_bad (h + 2) L (10 + k + 1) s w8 S8.rd (.inr HFL.out) (by omega)).mono ?_
            rintro r w9 ⟨rfl, r9, j9⟩
            have S9 := (S8.read r9 j9).setHigh hg 5 (.slice none 0 0)
            have f5 := (j9.own og8 (Nat.ne_of_gt hg)).free 5
            have k5 := (j9.own og8 (Nat.ne_of_gt hg)).cell 5
            clear S8 og8 r9 j9 c1
            go_upto_region 16 with (fail)
            generalize w9.setCell ⟨g, 5, none⟩ (.slice none 0 0) = w10 at *
            clear f5 k5
            go_wp2_with fail
            refine (rdk_end (h + 2) L (10 + k + 1 + s) w10 S9.rd).mono ?_
            rintro r w11 ⟨rfl, rfl⟩
            rw [if_pos HFL.out]
            have oo4 := S9.o4
            have oo2 := S9.o2
            unfold Z6 at oo4 oo2
            have y0 := oo4.cell 0
            have y1 := oo4.cell 1
            have y2 := oo4.cell 2
            have y3 := oo4.cell 3
            have y4 := oo4.cell 4
            have y5 := oo4.cell 5
            have z0 := oo2.cell 0
            have z1 := oo2.cell 1
            have z2 := oo2.cell 2
            have z3 := oo2.cell 3
            have z4 := oo2.cell 4
            have z5 := oo2.cell 5
            have q0 := oo2.free 0
            have q1 := oo2.free 1
            have q2 := oo2.free 2
            have q3 := oo2.free 3
            have q4 := oo2.free 4
            have q5 := oo2.free 5
            have HP := Lib.hid (S9.put (.int .i64 0) (.int .i64 0) (.int .i64 0) (.int .i64 0) (.slice none 0 0) (.slice none 0 0))
            have HB := Lib.hid S9.bb
            have HL := Lib.hid S9.le
            clear S9 oo2 oo4
            go_wp2_with fail
            refine bodyPost_ret (results_row_tmp rfl _ _ h 25 _ (0, 0) _ rfl HP.out.1 Try.underlying25 rfl (by kernel_rfl)) rfl ?_
            exact rdec_err HE.out (by decide) (by rw [HH.out]; exact HP.out.2.below HB.out (Nat.le_refl _) HL.out)
          · have HFL : Hid (¬ L.length < 10 + k + 1 + s) := Lib.hid (by rw [HN.out]; exact hF)
            go_wp2_with fail
            refine (rdk_raw (h + 2) L (10 + k + 1) s w8 S8.rd (by have := HFL.out; omega) (by omega)).mono ?_
            rintro r w9 ⟨da, dc, rfl, hdc, hdm, md, r9, j9⟩
            have S9 := (S8.read r9 j9).setHigh hg 5 (.slice da s dc)
            have f5 := (j9.own og8 (Nat.ne_of_gt hg)).free 5
            have k5 := (j9.own og8 (Nat.ne_of_gt hg)).cell 5
            have JG := Just.set g w9 5 (.slice da s dc)
            have og9 := (j9.own og8 (Nat.ne_of_gt hg)).put 5 (.slice da s dc)
            have md9 := (mine_low md hs8).just JG (Nat.lt_succ_self g)
            have mv9 := (mv8.just j9 (by omega)).just JG (Nat.lt_succ_self g)
            clear S8 og8 mv8 r9 j9 c1 md JG hD
            go_upto_region 16 with (fail)
            generalize w9.setCell ⟨g, 5, none⟩ (.slice da s dc) = w10 at *
            clear f5 k5
            have PE := rdk_end (h + 2) L (10 + k + 1 + s) w10 S9.rd
            rw [if_neg HFL.out] at PE
            by_cases hM : n = 10 + k + 1 + s
            case neg =>
              have HML : Hid (L.length ≠ 10 + k + 1 + s) := Lib.hid (by rw [HN.out]; exact hM)
              have HE := Lib.hid (HE4.out s HSZ.out HSB.out HFL.out HML.out)
              rw [if_pos HML.out] at PE
              clear hM hF og9 md9 mv9
              go_wp2_with fail
              refine PE.mono ?_
              rintro r w11 ⟨rfl, rfl⟩
              clear PE
              have oo4 := S9.o4
              have oo2 := S9.o2
              unfold Z6 at oo4 oo2
              have y0 := oo4.cell 0
              have y1 := oo4.cell 1
              have y2 := oo4.cell 2
              have y3 := oo4.cell 3
              have y4 := oo4.cell 4
              have y5 := oo4.cell 5
              have z0 := oo2.cell 0
              have z1 := oo2.cell 1
              have z2 := oo2.cell 2
              have z3 := oo2.cell 3
              have z4 := oo2.cell 4
              have z5 := oo2.cell 5
              have q0 := oo2.free 0
              have q1 := oo2.free 1
              have q2 := oo2.free 2
              have q3 := oo2.free 3
              have q4 := oo2.free 4
              have q5 := oo2.free 5
              have HP := Lib.hid (S9.put (.int .i64 0) (.int .i64 0) (.int .i64 0) (.int .i64 0) (.slice none 0 0) (.slice none 0 0))
              have HB := Lib.hid S9.bb
              have HL := Lib.hid S9.le
              clear S9 oo2 oo4
              go_wp2_with fail
              refine bodyPost_ret (results_row_tmp rfl _ _ h 25 _ (0, 0) _ rfl HP.out.1 Try.underlying25 rfl (by kernel_rfl)) rfl ?_
              exact rdec_err HE.out (by decide) (by rw [HH.out]; exact HP.out.2.below HB.out (Nat.le_refl _) HL.out)
            have HML : Hid (L.length = 10 + k + 1 + s) := Lib.hid (by rw [HN.out]; exact hM)
            rw [if_neg (fun q => q HML.out)] at PE
            have HE6 := Lib.hid (HE5.out s x HSZ.out HSB.out HML.out HXD.out)
            obtain ⟨v1, v2, v3, v4, v5, v6, v7, v8⟩ := (HPKH.out s HSZ.out HML.out).out
            have HPX : Hid (decE L = 0 → decK L = decP L x) := Lib.hid (fun q => by unfold decK; rw [if_pos q, HXD.out])
            obtain ⟨P, hP⟩ : ∃ P, decP L x = P := ⟨_, rfl⟩
            rw [hP] at v1 v2 v3 v4 v5 v6 v7 v8 HE6 HPX
            obtain ⟨va, vc, rfl, hvc, hvm, _⟩ := mv9.row
            have hAt : P.At w10 va vc da dc := by
              have mp : Mine w10 (g + 1) 3 (.slice va k vc) k (zval P.path) := mv9.ext (fun i hi => (v3 i hi).symm)
              have mq : Mine w10 (g + 1) 5 (.slice da s dc) s (bval P.data) := md9.ext (fun i hi => by
                rw [v4 i hi]
                unfold bval
                rw [List.getD_eq_getElem?_getD, List.getD_eq_getElem?_getD, List.getElem?_drop])
              exact ⟨by rw [v1]; exact hvc, hvm, by rw [v1]; exact mp.rowAt, fun e => by rw [v1]; exact row_none mp.rowAt e, by rw [v2]; exact hdc, hdm, by rw [v2]; exact mq.rowAt, fun e => by rw [v2]; exact row_none mq.rowAt e⟩
            have hvals : P.vals va vc da dc = #[.int .i64 f, .int .i64 t, .int .i64 (x : Int), .int .i64 lf, .slice va k vc, .slice da s dc] := by
              unfold Pk.vals
              rw [v1, v2, v5, v6, v7, v8]
            have PM := rmay_any P va vc da dc w10 hAt
            rw [hvals] at PM
            have HVA := Lib.hid hvals
            have HA := Lib.hid hAt
            have d0 := og9.cell 0
            have d1 := og9.cell 1
            have d2 := og9.cell 2
            have d3 := og9.cell 3
            have d4 := og9.cell 4
            have d5 := og9.cell 5
            unfold maxLen at hdm hvm
            have m63 : (vc : Int) ≤ 9223372036854775807 := by omega
            have m64 : (dc : Int) ≤ 9223372036854775807 := by omega
            have HLV : Hid (∀ p, va = some p → p.block ≠ h) := Lib.hid (fun p hp e => by
              subst hp
              have := (mv9.lt p.block rfl).1
              omega)
            have HLD : Hid (∀ p, da = some p → p.block ≠ h) := Lib.hid (fun p hp e => by
              subst hp
              have := (md9.lt p.block rfl).1
              omega)
            clear v1 v2 v3 v4 v5 v6 v7 v8 hP hAt hvals hM hF md9 mv9
            cases hm : mayK P with
            | false =>
              rw [hm] at PM HE6
              have HE : Hid (decE L = 3) := Lib.hid (by rw [HE6.out]; rfl)
              clear hm
              go_wp2_with fail
              refine PE.mono ?_
              rintro r w11 ⟨rfl, rfl⟩
              clear PE
              go_wp2_with fail
              refine PM.mono ?_
              rintro r w11 ⟨rfl, b11⟩
              have S11 := S9.high b11 S9.lt
              clear PM b11 S9 og9 d0 d1 d2 d3 d4 d5
              have oo4 := S11.o4
              have oo2 := S11.o2
              unfold Z6 at oo4 oo2
              have y0 := oo4.cell 0
              have y1 := oo4.cell 1
              have y2 := oo4.cell 2
              have y3 := oo4.cell 3
              have y4 := oo4.cell 4
              have y5 := oo4.cell 5
              have z0 := oo2.cell 0
              have z1 := oo2.cell 1
              have z2 := oo2.cell 2
              have z3 := oo2.cell 3
              have z4 := oo2.cell 4
              have z5 := oo2.cell 5
              have q0 := oo2.free 0
              have q1 := oo2.free 1
              have q2 := oo2.free 2
              have q3 := oo2.free 3
              have q4 := oo2.free 4
              have q5 := oo2.free 5
              have HP := Lib.hid (S11.put (.int .i64 0) (.int .i64 0) (.int .i64 0) (.int .i64 0) (.slice none 0 0) (.slice none 0 0))
              have HB := Lib.hid S11.bb
              have HL := Lib.hid S11.le
              clear S11 oo2 oo4
              go_wp2_with fail
              refine bodyPost_ret (results_row_tmp rfl _ _ h 25 _ (0, 0) _ rfl HP.out.1 Try.underlying25 rfl (by kernel_rfl)) rfl ?_
              exact rdec_err HE.out (by decide) (by rw [HH.out]; exact HP.out.2.below HB.out (Nat.le_refl _) HL.out)
            | true =>
              rw [hm] at PM HE6
              have HE : Hid (decE L = 0) := Lib.hid (by rw [HE6.out]; rfl)
              have HPX2 := Lib.hid (HPX.out HE.out)
              clear hm
              go_wp2_with fail
              refine PE.mono ?_
              rintro r w11 ⟨rfl, rfl⟩
              clear PE
              go_wp2_with fail
              refine PM.mono ?_
              rintro r w11 ⟨rfl, b11⟩
              have S11 := S9.high b11 S9.lt
              have og11 := below_own b11 og9 og9.lt
              have A11 := Lib.hid (HA.out.below b11)
              clear PM b11 S9 og9 d0 d1 d2 d3 d4 d5
              have d0 := og11.cell 0
              have d1 := og11.cell 1
              have d2 := og11.cell 2
              have d3 := og11.cell 3
              have d4 := og11.cell 4
              have d5 := og11.cell 5
              have oo2 := S11.o2
              unfold Z6 at oo2
              have z0 := oo2.cell 0
              have z1 := oo2.cell 1
              have z2 := oo2.cell 2
              have z3 := oo2.cell 3
              have z4 := oo2.cell 4
              have z5 := oo2.cell 5
              have q0 := oo2.free 0
              have q1 := oo2.free 1
              have q2 := oo2.free 2
              have q3 := oo2.free 3
              have q4 := oo2.free 4
              have q5 := oo2.free 5
              have HP := Lib.hid (S11.put (.int .i64 f) (.int .i64 t) (.int .i64 (x : Int)) (.int .i64 lf) (.slice va k vc) (.slice da s dc))
              have HB := Lib.hid S11.bb
              have HL := Lib.hid S11.le
              clear S11 oo2 og11
              go_wp2_with fail
              refine bodyPost_ret (results_row_tmp rfl _ _ h 25 _ (0, 0) _ rfl HP.out.1 Try.underlying25 rfl (by kernel_rfl)) rfl ?_
              refine ⟨va, vc, da, dc, ?_, ?_, by rw [HH.out]; exact HP.out.2.below HB.out (Nat.le_refl _) HL.out⟩
              · rw [HPX2.out, HE.out, HVA.out]; rfl
              · rw [HPX2.out]
                have A := A11.out
                exact ⟨A.pc, A.pm, row_just A.prow HP.out.2 HLV.out, A.pnil, A.dc, A.dm, row_just A.drow HP.out.2 HLD.out, A.dnil⟩
theorem rdec_any (a : Option Addr) (c : Nat) (L : List Int) (w : World) (hR : Bs w a c L) (hB : okB L) :
    Calls Try.prog 25 #[.slice a L.length c] w (RDecPost L w) := by
  by_cases h16 : (L.getD 9 0).toNat ≤ 16
  · by_cases hS : L.length < 10 ∨ L.length < 10 + (L.getD 9 0).toNat
    · exact rdec_short a c L w hS h16 hR hB
    · exact rdec_main a c L w (by omega) h16 hR hB
  · by_cases h1 : L.length < 10
    · rw [getD_out (by omega)] at h16
      exact absurd (by decide) h16
    · exact rdec_hops a c L w h1 (by omega) hR hB
end Go.Proofs.Ytcpmnfoenpdaeaa.Rq
