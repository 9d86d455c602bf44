/-
  The reference of packets (chapter 19): DecodePacket, where bytes are refused.
-/
import Derived.Test.YtcpmnfoenpdaeaaRtRDecS
set_option maxRecDepth 100000
namespace Go.Proofs.Ytcpmnfoenpdaeaa.Rq
set_option linter.unusedVariables false
open Go.RowKit Lb Go.Shelf Bf Rt


theorem numB_N {l : List Int} (h : okB l) : numB l = (numN l : Int) ∧ numN l < 256 ^ l.length := by
  have : ∀ (l : List Int) (y : Nat), okB l → l.foldl (fun x c => x * 256 + c) (y : Int) = ((l.foldl (fun x c => x * 256 + c.toNat) y : Nat) : Int) ∧ l.foldl (fun x c => x * 256 + c.toNat) y < (y + 1) * 256 ^ l.length := by
    intro l
    induction l with
    | nil => intro y _; exact ⟨rfl, by simp⟩
    | cons c l ih =>
      intro y hl
      have hc := hl c (by simp)
      have e : (y : Int) * 256 + c = ((y * 256 + c.toNat : Nat) : Int) := by push_cast; omega
      simp only [List.foldl_cons, List.length_cons]
      rw [e]
      obtain ⟨h1, h2⟩ := ih (y * 256 + c.toNat) (fun z hz => hl z (by simp [hz]))
      refine ⟨h1, Nat.lt_of_lt_of_le h2 ?_⟩
      rw [Nat.pow_succ, Nat.mul_comm (256 ^ l.length) 256, ← Nat.mul_assoc]
      exact Nat.mul_le_mul_right _ (by omega)
  have := this l 0 h
  unfold numB numN
  refine ⟨this.1, by simpa using this.2⟩
theorem num6 {L : List Int} (h : okB L) : ∃ x : Nat, (if L.length < 2 + 6 then (0 : Int) else numB ((L.drop 2).take 6)) = (x : Int) ∧ x < 281474976710656 ∧ (8 ≤ L.length → decX L = x) := by
  by_cases hs : L.length < 2 + 6
  · exact ⟨0, if_pos hs, by decide, fun h => by omega⟩
  · have h6 : okB ((L.drop 2).take 6) := fun z hz => h z (List.mem_of_mem_drop (List.mem_of_mem_take hz))
    obtain ⟨h1, h2⟩ := numB_N h6
    have hl : ((L.drop 2).take 6).length = 6 := by rw [List.length_take, List.length_drop]; omega
    rw [hl] at h2
    exact ⟨_, by rw [if_neg hs]; exact h1, h2, fun _ => rfl⟩
def RDecPost (L : List Int) (w : World) (r : Ending) (w' : World) : Prop :=
  ∃ a c b d, r = .returned (.tuple #[.agg ((decK L).vals a c b d), .int .i64 (decE L)]) ∧ (decK L).At w' a c b d ∧ Below w.heap.size w w'
theorem rdec_err {L : List Int} {e : Int} {w w' : World} (h : decE L = e) (he : e ≠ 0) (hb : Below w.heap.size w w') :
    RDecPost L w (.returned (.tuple #[.agg #[.int .i64 0, .int .i64 0, .int .i64 0, .int .i64 0, .slice none 0 0, .slice none 0 0], .int .i64 e])) w' := by
  have hk : decK L = noP := if_neg (by rw [h]; exact he)
  exact ⟨none, 0, none, 0, by rw [hk, h]; rfl, by rw [hk]; exact noP_at _, hb⟩
set_option maxHeartbeats 4000000 in
theorem rdec_hops (a : Option Addr) (c : Nat) (L : List Int) (w : World) (h1 : ¬ L.length < 10) (h2 : 16 < (L.getD 9 0).toNat) (hR : Bs w a c L) (hB : okB L) :
    Calls Try.prog 25 #[.slice a L.length c] w (RDecPost L w) := by
  have hb9 := okD_at hB 9
  obtain ⟨hn', hhn⟩ : ∃ m : Nat, L.getD 9 0 = (m : Int) := ⟨(L.getD 9 0).toNat, by omega⟩
  rw [hhn, Int.toNat_natCast] at h2
  have HHN := Lib.hid hhn
  have HE := Lib.hid (decE_hops h1 hhn h2)
  have HOB := Lib.hid hB
  have S0 := gds_start a c L w hR
  unfold Z6 at S0
  obtain ⟨f, hf⟩ : ∃ x, L.getD 0 0 = x := ⟨_, rfl⟩
  obtain ⟨t, ht⟩ : ∃ x, L.getD 1 0 = x := ⟨_, rfl⟩
  obtain ⟨lf, hlf⟩ : ∃ x, L.getD 8 0 = x := ⟨_, rfl⟩
  obtain ⟨x, hx, hxb, hxd⟩ := num6 hB
  have HX := Lib.hid hx
  have HF := Lib.hid hf
  have HT := Lib.hid ht
  have HLF := Lib.hid hlf
  have ex : IntKind.i64.wrap (x : Int) = (x : Int) := IntWalk.i64_in _ ⟨by omega, by omega⟩
  obtain ⟨h, hh⟩ : ∃ h, w.heap.size = h := ⟨_, rfl⟩
  rw [hh] at S0
  have HH := Lib.hid hh
  obtain ⟨n, hn⟩ : ∃ n, L.length = n := ⟨_, rfl⟩
  have HN := Lib.hid hn
  have E10 : Hid (Se L 10 = 0) := Lib.hid (se_yes (by omega))
  have g1 : decide (16 < hn') = true := by simpa using h2
  have g2 : decide ((16 : Int) < (hn' : Int)) = true := by simp; omega
  rw [hn] at S0 ⊢
  clear hn hf ht hlf hx hxd hB hR h1 h2 hb9 hhn
  go_enter Try.func25, Try.ntmps25
  go_upto_region 3 with (fail)
  generalize ((w.alloc (.cells #[.int .i64 0, .int .i64 0, .int .i64 0, .int .i64 0, .slice none 0 0, .slice none 0 0] 25)).alloc (.cells #[.int .i64 0, .int .i64 0, .int .i64 0, .int .i64 0, .slice none 0 0, .slice none 0 0] 25)).alloc (.cells #[.slice a n c, .int .i64 0] 67) = w0 at *
  go_wp2_with fail
  refine (rdk_u8 (h + 2) L 0 w0 S0.rd HOB.out).mono ?_
  rintro r w1 ⟨rfl, r1, j1⟩
  have S1 := S0.read r1 j1
  rw [HF.out]
  clear S0 r1 j1
  go_wp2_with fail
  refine (rdk_u8 (h + 2) L 1 w1 S1.rd HOB.out).mono ?_
  rintro r w2 ⟨rfl, r2, j2⟩
  have S2 := S1.read r2 j2
  rw [HT.out]
  clear S1 r2 j2
  go_wp2_with fail
  refine (rdk_num (h + 2) L 2 6 w2 S2.rd HOB.out (by decide) (by decide)).mono ?_
  rintro r w3 ⟨rfl, r3, j3⟩
  have S3 := S2.read r3 j3
  rw [HX.out]
  clear S2 r3 j3
  go_wp2_with fail
  refine (rdk_u8 (h + 2) L 8 w3 S3.rd HOB.out).mono ?_
  rintro r w4 ⟨rfl, r4, j4⟩
  have S4 := S3.read r4 j4
  rw [HLF.out]
  have og := Own.new w4 25 #[.int .i64 f, .int .i64 t, .int .i64 (x : Int), .int .i64 lf, .slice none 0 0, .slice none 0 0]
  have S5 := S4.alloc (.cells #[.int .i64 f, .int .i64 t, .int .i64 (x : Int), .int .i64 lf, .slice none 0 0, .slice none 0 0] 25)
  have hg := S4.lt
  clear S3 S4 r4 j4
  go_upto_region 4 with (fail)
  obtain ⟨g, hgg⟩ : ∃ g, w4.heap.size = g := ⟨_, rfl⟩
  rw [hgg] at og hg ⊢
  generalize w4.alloc (.cells #[.int .i64 f, .int .i64 t, .int .i64 (x : Int), .int .i64 lf, .slice none 0 0, .slice none 0 0] 25) = w5 at *
  clear hgg
  go_wp2_with fail
  refine (rdk_u8 (h + 2) L 9 w5 S5.rd HOB.out).mono ?_
  rintro r w6 ⟨rfl, r6, j6⟩
  have S6 := S5.read r6 j6
  have og6 := j6.own og (Nat.ne_of_gt hg)
  have c1 := S6.err
  rw [E10.out] at c1
  rw [HHN.out]
  clear S5 og r6 j6
  have oo4 := S6.o4
  have oo2 := S6.o2
  unfold Z6 at oo4 oo2
  have y0 := oo4.cell 0
  have y1 := oo4.cell 1
  have y2 := oo4.cell 2
  have y3 := oo4.cell 3
  have y4 := oo4.cell 4
  have y5 := oo4.cell 5
  have z0 := oo2.cell 0
  have z1 := oo2.cell 1
  have z2 := oo2.cell 2
  have z3 := oo2.cell 3
  have z4 := oo2.cell 4
  have z5 := oo2.cell 5
  have q0 := oo2.free 0
  have q1 := oo2.free 1
  have q2 := oo2.free 2
  have q3 := oo2.free 3
  have q4 := oo2.free 4
  have q5 := oo2.free 5
  have HP := Lib.hid (S6.put (.int .i64 0) (.int .i64 0) (.int .i64 0) (.int .i64 0) (.slice none 0 0) (.slice none 0 0))
  have HB := Lib.hid S6.bb
  have HL := Lib.hid S6.le
  clear S6 oo2 oo4
  clear og6
  go_wp2_with fail
  refine bodyPost_ret (results_row_tmp rfl _ _ h 25 _ (0, 0) _ rfl HP.out.1 Try.underlying25 rfl (by kernel_rfl)) rfl ?_
  exact rdec_err HE.out (by decide) (by rw [HH.out]; exact HP.out.2.below HB.out (Nat.le_refl _) HL.out)
set_option maxHeartbeats 4000000 in
theorem rdec_short (a : Option Addr) (c : Nat) (L : List Int) (w : World) (hS : L.length < 10 ∨ L.length < 10 + (L.getD 9 0).toNat) (h16 : (L.getD 9 0).toNat ≤ 16) (hR : Bs w a c L) (hB : okB L) :
    Calls Try.prog 25 #[.slice a L.length c] w (RDecPost L w) := by
  have hb9 := okD_at hB 9
  obtain ⟨hn', hhn⟩ : ∃ m : Nat, L.getD 9 0 = (m : Int) := ⟨(L.getD 9 0).toNat, by omega⟩
  rw [hhn, Int.toNat_natCast] at hS h16
  have HHN := Lib.hid hhn
  have HE : Hid (decE L = 2) := Lib.hid (by
    by_cases h1 : L.length < 10
    · exact decE_ten h1
    · exact decE_short h1 hhn (by omega) (by omega))
  have HS := Lib.hid hS
  have HOB := Lib.hid hB
  have S0 := gds_start a c L w hR
  unfold Z6 at S0
  obtain ⟨f, hf⟩ : ∃ x, L.getD 0 0 = x := ⟨_, rfl⟩
  obtain ⟨t, ht⟩ : ∃ x, L.getD 1 0 = x := ⟨_, rfl⟩
  obtain ⟨lf, hlf⟩ : ∃ x, L.getD 8 0 = x := ⟨_, rfl⟩
  obtain ⟨x, hx, hxb, hxd⟩ := num6 hB
  have HX := Lib.hid hx
  have HF := Lib.hid hf
  have HT := Lib.hid ht
  have HLF := Lib.hid hlf
  have ex : IntKind.i64.wrap (x : Int) = (x : Int) := IntWalk.i64_in _ ⟨by omega, by omega⟩
  obtain ⟨h, hh⟩ : ∃ h, w.heap.size = h := ⟨_, rfl⟩
  rw [hh] at S0
  have HH := Lib.hid hh
  obtain ⟨n, hn⟩ : ∃ n, L.length = n := ⟨_, rfl⟩
  have HN := Lib.hid hn
  have HC : Se L 10 = 2 ∨ (Se L 10 = 0 ∧ decide (16 < hn') = false ∧ decide ((16 : Int) < (hn' : Int)) = false) := by
    by_cases h1 : L.length < 10
    · exact .inl (se_no h1)
    · exact .inr ⟨se_yes (by omega), by simp; omega, by simp; omega⟩
  have E11 : Hid (Se L (10 + hn' + 1) = 2) := Lib.hid (se_no (by omega))
  have H10 : Hid (L.getD (10 + hn') 0 = 0) := Lib.hid (getD_out (by omega))
  have HEND : Hid (L.length < 10 + hn' + 1 + 0) := Lib.hid (by omega)
  rw [hn] at S0 ⊢
  clear hn hf ht hlf hx hxd hB hR hb9 hhn hS
  rcases HC with e10 | ⟨e10, g1, g2⟩
  all_goals
    have E10 := Lib.hid e10
    clear e10
    go_enter Try.func25, Try.ntmps25
    go_upto_region 3 with (fail)
    generalize ((w.alloc (.cells #[.int .i64 0, .int .i64 0, .int .i64 0, .int .i64 0, .slice none 0 0, .slice none 0 0] 25)).alloc (.cells #[.int .i64 0, .int .i64 0, .int .i64 0, .int .i64 0, .slice none 0 0, .slice none 0 0] 25)).alloc (.cells #[.slice a n c, .int .i64 0] 67) = w0 at *
    go_wp2_with fail
    refine (rdk_u8 (h + 2) L 0 w0 S0.rd HOB.out).mono ?_
    rintro r w1 ⟨rfl, r1, j1⟩
    have S1 := S0.read r1 j1
    rw [HF.out]
    clear S0 r1 j1
    go_wp2_with fail
    refine (rdk_u8 (h + 2) L 1 w1 S1.rd HOB.out).mono ?_
    rintro r w2 ⟨rfl, r2, j2⟩
    have S2 := S1.read r2 j2
    rw [HT.out]
    clear S1 r2 j2
    go_wp2_with fail
    refine (rdk_num (h + 2) L 2 6 w2 S2.rd HOB.out (by decide) (by decide)).mono ?_
    rintro r w3 ⟨rfl, r3, j3⟩
    have S3 := S2.read r3 j3
    rw [HX.out]
    clear S2 r3 j3
    go_wp2_with fail
    refine (rdk_u8 (h + 2) L 8 w3 S3.rd HOB.out).mono ?_
    rintro r w4 ⟨rfl, r4, j4⟩
    have S4 := S3.read r4 j4
    rw [HLF.out]
    have og := Own.new w4 25 #[.int .i64 f, .int .i64 t, .int .i64 (x : Int), .int .i64 lf, .slice none 0 0, .slice none 0 0]
    have S5 := S4.alloc (.cells #[.int .i64 f, .int .i64 t, .int .i64 (x : Int), .int .i64 lf, .slice none 0 0, .slice none 0 0] 25)
    have hg := S4.lt
    clear S3 S4 r4 j4
    go_upto_region 4 with (fail)
    obtain ⟨g, hgg⟩ : ∃ g, w4.heap.size = g := ⟨_, rfl⟩
    rw [hgg] at og hg ⊢
    generalize w4.alloc (.cells #[.int .i64 f, .int .i64 t, .int .i64 (x : Int), .int .i64 lf, .slice none 0 0, .slice none 0 0] 25) = w5 at *
    clear hgg
    go_wp2_with fail
    refine (rdk_u8 (h + 2) L 9 w5 S5.rd HOB.out).mono ?_
    rintro r w6 ⟨rfl, r6, j6⟩
    have S6 := S5.read r6 j6
    have og6 := j6.own og (Nat.ne_of_gt hg)
    have c1 := S6.err
    rw [E10.out] at c1
    rw [HHN.out]
    clear S5 og r6 j6
    go_wp2_with fail
    refine (rdk_raw_bad (h + 2) L 10 hn' w6 S6.rd HS.out (by omega)).mono ?_
    rintro r w7 ⟨rfl, r7, j7⟩
    have S7 := S6.read r7 j7
    have og7 := j7.own og6 (Nat.ne_of_gt hg)
    clear S6 og6 r7 j7 c1
    go_wp2_with fail
    go_loopw [42] (fun i wr => i = .int .i64 0 ∧ w7 = wr) (fun _ _ => 0)
    case atStart => exact ⟨rfl, rfl⟩
    case round =>
      obtain ⟨rfl, rfl⟩ := hrel
      go_wp2_with fail
      refine (rdk_u8 (h + 2) L (10 + hn') w7 S7.rd HOB.out).mono ?_
      rintro r w8 ⟨rfl, r8, j8⟩
      have S8 := S7.read r8 j8
      have og8 := j8.own og7 (Nat.ne_of_gt hg)
      rw [H10.out]
      have c1 := S8.err
      rw [E11.out] at c1
      clear S7 og7 r8 j8
      go_wp2_with fail
      refine (rdk_raw_bad (h + 2) L (10 + hn' + 1) 0 w8 S8.rd (.inr HEND.out) (by decide)).mono ?_
      rintro r w9 ⟨rfl, r9, j9⟩
      have S9 := (S8.read r9 j9).setHigh hg 5 (.slice none 0 0)
      have f5 := (j9.own og8 (Nat.ne_of_gt hg)).free 5
      have k5 := (j9.own og8 (Nat.ne_of_gt hg)).cell 5
      clear S8 og8 r9 j9 c1
      go_upto_region 16 with (fail)
      generalize w9.setCell ⟨g, 5, none⟩ (.slice none 0 0) = w10 at *
      clear f5 k5
      go_wp2_with fail
      refine (rdk_end (h + 2) L (10 + hn' + 1 + 0) w10 S9.rd).mono ?_
      rintro r w11 ⟨rfl, rfl⟩
      rw [if_pos HEND.out]
      have oo4 := S9.o4
      have oo2 := S9.o2
      unfold Z6 at oo4 oo2
      have y0 := oo4.cell 0
      have y1 := oo4.cell 1
      have y2 := oo4.cell 2
      have y3 := oo4.cell 3
      have y4 := oo4.cell 4
      have y5 := oo4.cell 5
      have z0 := oo2.cell 0
      have z1 := oo2.cell 1
      have z2 := oo2.cell 2
      have z3 := oo2.cell 3
      have z4 := oo2.cell 4
      have z5 := oo2.cell 5
      have q0 := oo2.free 0
      have q1 := oo2.free 1
      have q2 := oo2.free 2
      have q3 := oo2.free 3
      have q4 := oo2.free 4
      have q5 := oo2.free 5
      have HP := Lib.hid (S9.put (.int .i64 0) (.int .i64 0) (.int .i64 0) (.int .i64 0) (.slice none 0 0) (.slice none 0 0))
      have HB := Lib.hid S9.bb
      have HL := Lib.hid S9.le
      clear S9 oo2 oo4
      go_wp2_with fail
      refine bodyPost_ret (results_row_tmp rfl _ _ h 25 _ (0, 0) _ rfl HP.out.1 Try.underlying25 rfl (by kernel_rfl)) rfl ?_
      exact rdec_err HE.out (by decide) (by rw [HH.out]; exact HP.out.2.below HB.out (Nat.le_refl _) HL.out)
end Go.Proofs.Ytcpmnfoenpdaeaa.Rq
