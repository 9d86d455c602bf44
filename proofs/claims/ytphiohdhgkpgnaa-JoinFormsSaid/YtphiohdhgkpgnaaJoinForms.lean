/-
  Law JoinForms: any requests, any grants, as bytes; any bytes as these: the answers are the reference's; the call returns true. No condition.
-/
import Derived.Test.YtphiohdhgkpgnaaJoRG
import Derived.Test.YtphiohdhgkpgnaaJoRAsked
set_option maxRecDepth 100000
namespace Go.Proofs.Ytphiohdhgkpgnaa.JoinForms
set_option linter.unusedVariables false
open Go.RowKit Go.ChangeShapes Go.WideShapes Go.ChangeAt Go.Deep Lb Go.Shelf Bf Se Cl Jo
theorem own : ownKnob Try.prog.godebug = none := by kernel_rfl
theorem laidOut : laidOutB Try.prog = true := by kernel_rfl
theorem light_any (g : Gt) (a : Option Addr) (c : Nat) (w : World) (hc : g.n ≤ c) (hm : c ≤ maxLen) :
    Calls Try.prog 7 #[.agg (g.vals a c)] w fun r w' => r = .returned (.bool (decide (g.n ≤ 40))) ∧ Below w.heap.size w w' := by
  obtain ⟨nd, cd, no, n, L, tg⟩ := g
  dsimp only at hc
  unfold maxLen at hm
  have b0 := (Below.refl w.heap.size w).alloc (Nat.le_refl _) (.cells (Gt.vals ⟨nd, cd, no, n, L, tg⟩ a c) 28)
  have hn63 : (n : Int) ≤ 9223372036854775807 := by omega
  have hc63 : (c : Int) ≤ 9223372036854775807 := by omega
  unfold Gt.vals at *
  dsimp only at *
  cases h : decide (n ≤ 40) with
  | false =>
    have h2 : decide ((n : Int) ≤ 40) = false := by simp at h ⊢; omega
    go_enter Try.func7, Try.ntmps7
    go_wp2_with fail
    go_ret
    exact ⟨rfl, b0⟩
  | true =>
    have h2 : decide ((n : Int) ≤ 40) = true := by simp at h ⊢; omega
    go_enter Try.func7, Try.ntmps7
    go_wp2_with fail
    go_ret
    exact ⟨rfl, b0⟩
set_option maxHeartbeats 8000000 in
theorem body (key : Int) (r : Rq) (g : Gt) (a : Option Addr) (c : Nat) (A : Option Addr) (m C : Nat) (Z : Nat → Int) (x cut : Int) (aR : Option Addr) (lR : List Int) (cR : Nat) (w : World)
    (hk : 0 ≤ key) (hw : r.wide) (hno : In32 g.no) (hc : g.n ≤ c) (hcm : c ≤ maxLen) (hL : Row w a (g.n * 5) (cv g.L)) (hm : m ≤ C) (hC : C ≤ maxLen) (hZ : Row w A m (fun i => .int .i64 (Z i))) (hx : 0 ≤ x ∧ x < 256) (hRR : Bs w aR cR lR) (hRB : okB lR) :
    Calls Try.prog 3 #[.int .u64 key, .agg r.vals, .agg (g.vals a c), .slice A m C, .int .u8 x, .int .i64 cut, .slice aR lR.length cR] w fun e w' => e = .returned (.bool true) ∧ Below w.heap.size w w' := by
  have o8 := (Own.new w 25 r.vals).alloc (.cells (g.vals a c) 28)
  have o9 := Own.new (w.alloc (.cells r.vals 25)) 28 (g.vals a c)
  have b0 := ((Below.refl w.heap.size w).alloc (Nat.le_refl _) (.cells r.vals 25)).alloc (by simp) (.cells (g.vals a c) 28)
  have hsz : (w.alloc (.cells r.vals 25)).heap.size = w.heap.size + 1 := by simp
  rw [hsz] at o9
  have hL1 := hL.below b0
  have hZ1 := hZ.below b0
  have hR1 := hRR.below b0
  have hcR := hRR.cap
  have hlR := hRR.le
  unfold maxLen at hcR
  obtain ⟨nR, hnR⟩ : ∃ n, lR.length = n := ⟨_, rfl⟩
  have HNR := Lib.hid hnR
  rw [hnR] at hlR ⊢
  have e63 : (nR : Int) ≤ 9223372036854775807 := by omega
  have f63 : (cR : Int) ≤ 9223372036854775807 := by omega
  have PLI := Lib.hid (fun W => light_any g a c W hc hcm)
  obtain ⟨h, hh⟩ : ∃ h, w.heap.size = h := ⟨_, rfl⟩
  have HH := Lib.hid hh
  rw [hh] at o8 o9 b0
  obtain ⟨gn, hgn⟩ : ∃ n, g.n = n := ⟨_, rfl⟩
  have HGN := Lib.hid hgn
  obtain ⟨q1, q2, q3, q4, q5⟩ := r
  obtain ⟨nd, cd, no, n, L, tg⟩ := g
  dsimp only at hno hc hL1 hgn
  subst hgn
  unfold Rq.vals Gt.vals at *
  dsimp only at *
  clear hnR hL hZ hRR hh hsz
  go_enter Try.func3, Try.ntmps3
  go_upto_region 1 with (fail)
  generalize (w.alloc (.cells #[.int .i64 q1, .int .i64 q2, .int .u32 q3, .int .u32 q4, .int .u32 q5] 25)).alloc (.cells #[.int .i64 nd, .int .i64 cd, .int .u32 no, .slice a n c, .int .u32 tg] 28) = w1 at *
  rw [HH.out]
  have c0 := o8.cell 0
  have c1 := o8.cell 1
  have c2 := o8.cell 2
  have c3 := o8.cell 3
  have c4 := o8.cell 4
  have d0 := o9.cell 0
  have d1 := o9.cell 1
  have d2 := o9.cell 2
  have d3 := o9.cell 3
  have d4 := o9.cell 4
  have hs1 : h ≤ w1.heap.size := by have := o9.lt; omega
  by_cases h40 : n ≤ 40
  case neg =>
    go_wp2_with fail
    refine (PLI.out _).mono ?_
    rintro e w2 ⟨rfl, b2⟩
    rw [decide_eq_false h40]
    have b3 := Lib.hid (b0.trans (b2.mono hs1))
    have s3 := Nat.le_trans hs1 b2.size
    clear h40 b2
    go_wp2_with fail
    refine (awake_join _).mono ?_
    rintro e w3 ⟨rfl, b4⟩
    go_wp2_with fail
    go_ret
    exact ⟨rfl, by rw [HH.out]; exact b3.out.trans (b4.mono s3)⟩
  by_cases h200 : nR ≤ 200
  case neg =>
    have g2 : decide (200 < (nR : Int)) = true := by simp; omega
    have g3 : decide (200 < nR) = true := by simp; omega
    go_wp2_with fail
    refine (PLI.out _).mono ?_
    rintro e w2 ⟨rfl, b2⟩
    rw [decide_eq_true h40]
    have b3 := Lib.hid (b0.trans (b2.mono hs1))
    have s3 := Nat.le_trans hs1 b2.size
    clear h40 b2
    go_wp2_with fail
    refine (awake_join _).mono ?_
    rintro e w3 ⟨rfl, b4⟩
    go_wp2_with fail
    go_ret
    exact ⟨rfl, by rw [HH.out]; exact b3.out.trans (b4.mono s3)⟩
  have g2 : decide (200 < (nR : Int)) = false := by simp; omega
  have g3 : decide (200 < nR) = false := by simp; omega
  clear c0 c1 c2 c3 c4
  go_wp2_with fail
  refine (PLI.out _).mono ?_
  rintro e w2 ⟨rfl, b2⟩
  rw [decide_eq_true h40]
  have B2 := Lib.hid (b0.trans (b2.mono hs1))
  have s2 := Nat.le_trans hs1 b2.size
  have O8 := below_own b2 o8 o8.lt
  have O9 := below_own b2 o9 o9.lt
  have L2 := hL1.below b2
  have Z2 := hZ1.below b2
  have R2 := hR1.below b2
  clear d0 d1 d2 d3 d4 o8 o9 b0 b2 hs1 hL1 hZ1 hR1 PLI
  have c0 := O8.cell 0
  have c1 := O8.cell 1
  have c2 := O8.cell 2
  have c3 := O8.cell 3
  have c4 := O8.cell 4
  have PA := ask_any key ⟨q1, q2, q3, q4, q5⟩ w2 hk hw
  obtain ⟨LA, hLA⟩ : ∃ x, askO key ⟨q1, q2, q3, q4, q5⟩ = x := ⟨_, rfl⟩
  obtain ⟨EA, hEA⟩ : ∃ x, askC ⟨q1, q2, q3, q4, q5⟩ = x := ⟨_, rfl⟩
  have PA2 := Lib.hid (fun W => rask_any key ⟨q1, q2, q3, q4, q5⟩ W hk hw)
  rw [hLA, hEA] at PA PA2
  have HLA := Lib.hid hLA
  obtain ⟨na, hna⟩ : ∃ x, LA.length = x := ⟨_, rfl⟩
  have HNA := Lib.hid hna
  rw [hna] at PA PA2
  clear hLA hEA hna
  go_wp2_with fail
  refine PA.mono ?_
  rintro e w3 ⟨a1, k1, rfl, Y1, b3⟩
  have Y1 := Y1.toBs
  have B3 := Lib.hid (B2.out.trans (b3.mono s2))
  have s3 := Nat.le_trans s2 b3.size
  have O8' := below_own b3 O8 O8.lt
  have O9' := below_own b3 O9 O9.lt
  have L3 := L2.below b3
  have Z3 := Z2.below b3
  have R3 := R2.below b3
  clear c0 c1 c2 c3 c4 O8 O9 L2 Z2 R2 b3 PA B2 s2
  have c0 := O8'.cell 0
  have c1 := O8'.cell 1
  have c2 := O8'.cell 2
  have c3 := O8'.cell 3
  have c4 := O8'.cell 4
  go_wp2_with fail
  refine (PA2.out _).mono ?_
  rintro e w4 ⟨a2, k2, rfl, Y2, b4⟩
  have B4 := Lib.hid (B3.out.trans (b4.mono s3))
  have s4 := Nat.le_trans s3 b4.size
  have O9 := below_own b4 O9' O9'.lt
  have L4 := L3.below b4
  have Z4 := Z3.below b4
  have R4 := R3.below b4
  have Y1 := Y1.below b4
  clear c0 c1 c2 c3 c4 O8' O9' L3 Z3 R3 b4 PA2 B3 s3
  have d0 := O9.cell 0
  have d1 := O9.cell 1
  have d2 := O9.cell 2
  have d3 := O9.cell 3
  have d4 := O9.cell 4
  have PG := give_any key ⟨nd, cd, no, n, L, tg⟩ a c w4 hk hno hc hcm L4
  have PG2 := Lib.hid (fun W hR => rgive_any key ⟨nd, cd, no, n, L, tg⟩ a c W hk hno hc hcm hR)
  obtain ⟨LG, hLG⟩ : ∃ x, giveO key ⟨nd, cd, no, n, L, tg⟩ = x := ⟨_, rfl⟩
  obtain ⟨EG, hEG⟩ : ∃ x, giveC ⟨nd, cd, no, n, L, tg⟩ = x := ⟨_, rfl⟩
  rw [hLG, hEG] at PG PG2
  have HLG := Lib.hid hLG
  obtain ⟨ng, hng⟩ : ∃ x, LG.length = x := ⟨_, rfl⟩
  have HNG := Lib.hid hng
  rw [hng] at PG PG2
  clear hLG hEG hng
  go_wp2_with fail
  refine PG.mono ?_
  rintro e w5 ⟨a3, k3, rfl, Y3, b5⟩
  have B5 := Lib.hid (B4.out.trans (b5.mono s4))
  have s5 := Nat.le_trans s4 b5.size
  have O9' := below_own b5 O9 O9.lt
  have L5 := Lib.hid (L4.below b5)
  have Z5 := Z4.below b5
  have R5 := R4.below b5
  have Y1 := Y1.below b5
  have Y2 := Y2.below b5
  clear d0 d1 d2 d3 d4 O9 L4 Z4 R4 b5 PG B4 s4
  have d0 := O9'.cell 0
  have d1 := O9'.cell 1
  have d2 := O9'.cell 2
  have d3 := O9'.cell 3
  have d4 := O9'.cell 4
  go_wp2_with fail
  refine (PG2.out _ L5.out).mono ?_
  rintro e w6 ⟨a4, k4, rfl, Y4, b6⟩
  have B6 := Lib.hid (B5.out.trans (b6.mono s5))
  have s6 := Nat.le_trans s5 b6.size
  have Z6 := Lib.hid (Z5.below b6)
  have R6 := Lib.hid (R5.below b6)
  have Y1 := Y1.below b6
  have Y2 := Y2.below b6
  have Y3 := Y3.below b6
  clear d0 d1 d2 d3 d4 O9' L5 Z5 R5 b6 PG2 B5 s5
  have LLA : LA.length ≤ 1000 := by
    rw [← HLA.out]; unfold askO; split
    · rw [sealL_len, askB_len]; decide
    · exact Nat.zero_le _
  have OLA : okB LA := by
    rw [← HLA.out]
    unfold askO
    split
    · rename_i hmy
      unfold mayR at hmy
      rw [Bool.and_eq_true] at hmy
      exact okB_seal (askB_ok hmy.1 (otherB_node hmy.2))
    · exact okB_nil
  have LLG : LG.length ≤ 1000 := by
    rw [← HLG.out]; unfold giveO; split
    · rw [sealL_len, giveB_len]; dsimp only; omega
    · exact Nat.zero_le _
  have OLG : okB LG := by
    rw [← HLG.out]
    unfold giveO
    split
    · rename_i hmy
      have := mayG_iff.1 hmy
      exact okB_seal (giveB_ok this.1 this.2.1 this.2.2.1 this.2.2.2)
    · exact okB_nil
  have v1 : (convert 30 9 (.slice a1 na k1)).run Try.prog w6 = .ok (.string (str (fun i => LA.getD i 0) na)) w6 := conv_string (P := Try.prog) Try.underlying30 Try.underlying5 Try.underlying9 (by rw [← HNA.out]; exact Y1.row)
  have v2 : (convert 30 9 (.slice a2 na k2)).run Try.prog w6 = .ok (.string (str (fun i => LA.getD i 0) na)) w6 := conv_string (P := Try.prog) Try.underlying30 Try.underlying5 Try.underlying9 (by rw [← HNA.out]; exact Y2.row)
  have v3 : (convert 30 9 (.slice a3 ng k3)).run Try.prog w6 = .ok (.string (str (fun i => LG.getD i 0) ng)) w6 := conv_string (P := Try.prog) Try.underlying30 Try.underlying5 Try.underlying9 (by rw [← HNG.out]; exact Y3.row)
  have v4 : (convert 30 9 (.slice a4 ng k4)).run Try.prog w6 = .ok (.string (str (fun i => LG.getD i 0) ng)) w6 := conv_string (P := Try.prog) Try.underlying30 Try.underlying5 Try.underlying9 (by rw [← HNG.out]; exact Y4.row)
  generalize str (fun i => LA.getD i 0) na = S1 at v1 v2
  generalize str (fun i => LG.getD i 0) ng = S2 at v3 v4
  have HLL := Lib.hid (And.intro (And.intro LLA OLA) (And.intro LLG OLG))
  clear HLA HLG LLA OLA LLG OLG
  have hY2 := Lib.hid Y2
  have hY4 := Lib.hid Y4
  clear Y1 Y2 Y3 Y4
  go_upto_region 8 with (fail)
  clear v1 v2 v3 v4
  have PB := bent_any a2 k2 LA A m C Z x cut w6 HLL.out.1.1 hY2.out HLL.out.1.2 hm hC Z6.out hx
  rw [HNA.out] at PB
  refine PB.mono ?_
  rintro e w7 ⟨a5, k5, L5, rfl, Y5, O5, N5, b7⟩
  have B7 := Lib.hid (B6.out.trans (b7.mono s6))
  have s7 := Nat.le_trans s6 b7.size
  have Z7 := Z6.out.below b7
  have R7 := R6.out.below b7
  have Y4 := hY4.out.below b7
  have PB := bent_any a4 k4 LG A m C Z x cut w7 HLL.out.2.1 Y4 HLL.out.2.2 hm hC Z7 hx
  rw [HNG.out] at PB
  have PBH := Lib.hid PB
  have hh5 := Lib.hid (And.intro O5 (Nat.le_trans N5 (show na ≤ 1000 by rw [← HNA.out]; exact HLL.out.1.1)))
  obtain ⟨n5, hn5⟩ : ∃ n, L5.length = n := ⟨_, rfl⟩
  have HN5 := Lib.hid hn5
  rw [hn5]
  clear PB b7 B6 s6 Z6 R6 hY2 hY4 Y4 Z7 O5 N5 hn5
  go_wp2_with fail
  refine PBH.out.mono ?_
  rintro e w8 ⟨a6, k6, L6, rfl, Y6, O6, N6, b8⟩
  have B8 := B7.out.trans (b8.mono s7)
  have s8 := Nat.le_trans s7 b8.size
  have R8 := R7.below b8
  have Y5 := Y5.below b8
  have hh6 := Lib.hid (And.intro O6 (Nat.le_trans N6 (show ng ≤ 1000 by rw [← HNG.out]; exact HLL.out.2.1)))
  have hhR : Hid (okB lR ∧ nR ≤ 1000) := Lib.hid ⟨hRB, by omega⟩
  obtain ⟨n6, hn6⟩ : ∃ n, L6.length = n := ⟨_, rfl⟩
  have HN6 := Lib.hid hn6
  rw [hn6]
  clear b8 B7 s7 R7 PBH O6 N6 hn6 g2 g3 HLL HNA HNG hw hno hc
  have hBR : Bs w8 aR cR lR := R8
  clear R8
  go_wp2_with fail
  go_loopw [100] (fun i wr => ∃ k : Nat, i = .int .i64 (k : Int) ∧ k ≤ 3 ∧ Bs wr a5 k5 L5 ∧ Bs wr a6 k6 L6 ∧ Bs wr aR cR lR ∧ Below h w wr ∧ h ≤ wr.heap.size) (fun i _ => 3 - (intOf i).toNat)
  case atStart => exact ⟨0, rfl, by decide, Y5, Y6, hBR, B8, s8⟩
  case round =>
    clear Y5 Y6 hBR B8 s8
    obtain ⟨k, rfl, hk3, Y5, Y6, YR, bb, hs⟩ := hrel
    by_cases hlt : k < 3
    · have hix : ∃ (B : Option Addr) (cc : Nat) (l : List Int) (nl : Nat), (∀ W, (Instr.index 38 (.agg #[.slice a5 n5 k5, .slice a6 n6 k6, .slice aR nR cR]) (.int .i64 (k : Int))).run Try.prog W = .ok (.slice B nl cc) W) ∧ Hid (l.length = nl) ∧ Bs wr B cc l ∧ Hid (okB l ∧ l.length ≤ 1000) := by
        match k, hlt with
        | 0, _ => exact ⟨a5, k5, L5, n5, fun _ => by kernel_rfl, HN5, Y5, Lib.hid hh5.out⟩
        | 1, _ => exact ⟨a6, k6, L6, n6, fun _ => by kernel_rfl, HN6, Y6, Lib.hid hh6.out⟩
        | 2, _ => exact ⟨aR, cR, lR, nR, fun _ => by kernel_rfl, HNR, YR, Lib.hid ⟨hhR.out.1, by rw [HNR.out]; exact hhR.out.2⟩⟩
      obtain ⟨B, cc, l, nl, hix, HNL, Y, HL⟩ := hix
      have PQ := asked_any B cc l wr HL.out.2 Y HL.out.1
      have PQ2 := Lib.hid (fun W hY => rasked_any B cc l W HL.out.2 hY HL.out.1)
      have PV := Lib.hid (fun W hY => given_any B cc l W HL.out.2 hY HL.out.1)
      have PV2 := Lib.hid (fun W hY => rgiven_any B cc l W hY HL.out.1)
      obtain ⟨⟨p1, p2, p3, p4, p5⟩, hq⟩ : ∃ q, askR l = q := ⟨_, rfl⟩
      obtain ⟨ea, hea⟩ : ∃ q, askE l = q := ⟨_, rfl⟩
      rw [hq, hea, HNL.out] at PQ PQ2
      rw [HNL.out] at PV PV2
      unfold Rq.vals at PQ PQ2
      dsimp only at PQ PQ2
      clear hq hea
      go_wp2_with fail
      refine PQ.mono ?_
      rintro e z1 ⟨rfl, b1⟩
      have B1 := Lib.hid (bb.trans (b1.mono hs))
      have s1 := Nat.le_trans hs b1.size
      have Y51 := Y5.below b1
      have Y61 := Y6.below b1
      have YR1 := YR.below b1
      have Y1 := Y.below b1
      have b2 := (Below.refl z1.heap.size z1).alloc (Nat.le_refl _) (.cells #[.int .i64 p1, .int .i64 p2, .int .u32 p3, .int .u32 p4, .int .u32 p5] 25)
      have oa := Own.new z1 25 #[.int .i64 p1, .int .i64 p2, .int .u32 p3, .int .u32 p4, .int .u32 p5]
      have B2 := Lib.hid (B1.out.trans (b2.mono s1))
      have s2 := Nat.le_trans s1 b2.size
      have Y52 := Y51.below b2
      have Y62 := Y61.below b2
      have YR2 := YR1.below b2
      have Y2 := Y1.below b2
      clear PQ b1 bb hs Y5 Y6 YR Y Y51 Y61 YR1 Y1 b2 B1 s1
      go_upto_region 13 with (fail)
      obtain ⟨ga, hga⟩ : ∃ g, z1.heap.size = g := ⟨_, rfl⟩
      rw [hga] at oa ⊢
      generalize z1.alloc (.cells #[.int .i64 p1, .int .i64 p2, .int .u32 p3, .int .u32 p4, .int .u32 p5] 25) = z2 at *
      clear hga hix
      go_wp2_with fail
      refine (PQ2.out z2 Y2).mono ?_
      rintro e z3 ⟨rfl, b3⟩
      have B3 := Lib.hid (B2.out.trans (b3.mono s2))
      have s3 := Nat.le_trans s2 b3.size
      have oa3 := below_own b3 oa oa.lt
      have Y53 := Y52.below b3
      have Y63 := Y62.below b3
      have YR3 := YR2.below b3
      have Y3 := Y2.below b3
      have b4 := (Below.refl z3.heap.size z3).alloc (Nat.le_refl _) (.cells #[.int .i64 p1, .int .i64 p2, .int .u32 p3, .int .u32 p4, .int .u32 p5] 25)
      have ob := Own.new z3 25 #[.int .i64 p1, .int .i64 p2, .int .u32 p3, .int .u32 p4, .int .u32 p5]
      have oa4 := below_own b4 oa3 oa3.lt
      have B4 := Lib.hid (B3.out.trans (b4.mono s3))
      have s4 := Nat.le_trans s3 b4.size
      have Y54 := Y53.below b4
      have Y64 := Y63.below b4
      have YR4 := YR3.below b4
      have Y4 := Y3.below b4
      clear PQ2 b3 oa oa3 Y52 Y62 YR2 Y2 Y53 Y63 YR3 Y3 b4 B2 B3 s2 s3
      go_upto_region 14 with (fail)
      obtain ⟨gb, hgb⟩ : ∃ g, z3.heap.size = g := ⟨_, rfl⟩
      rw [hgb] at ob ⊢
      generalize z3.alloc (.cells #[.int .i64 p1, .int .i64 p2, .int .u32 p3, .int .u32 p4, .int .u32 p5] 25) = z4 at *
      clear hgb
      have PV := PV.out z4 Y4
      obtain ⟨⟨u1, u2, u3, u4, u5, u6⟩, hq⟩ : ∃ q, giveR l = q := ⟨_, rfl⟩
      obtain ⟨eg, heg⟩ : ∃ q, giveE l = q := ⟨_, rfl⟩
      unfold GnP at PV PV2
      rw [hq, heg] at PV PV2
      unfold Gt.vals at PV PV2
      dsimp only at PV PV2
      clear hq heg
      go_wp2_with fail
      refine PV.mono ?_
      rintro e z5 ⟨⟨va, vc, rfl, j1, j2, j3, _⟩, b5⟩
      have B5 := Lib.hid (B4.out.trans (b5.mono s4))
      have s5 := Nat.le_trans s4 b5.size
      have oa5 := below_own b5 oa4 oa4.lt
      have ob5 := below_own b5 ob ob.lt
      have Y55 := Y54.below b5
      have Y65 := Y64.below b5
      have YR5 := YR4.below b5
      have Y5 := Y4.below b5
      have b6 := (Below.refl z5.heap.size z5).alloc (Nat.le_refl _) (.cells #[.int .i64 u1, .int .i64 u2, .int .u32 u3, .slice va u4 vc, .int .u32 u6] 28)
      have oc := Own.new z5 28 #[.int .i64 u1, .int .i64 u2, .int .u32 u3, .slice va u4 vc, .int .u32 u6]
      have oa6 := below_own b6 oa5 oa5.lt
      have ob6 := below_own b6 ob5 ob5.lt
      have B6 := Lib.hid (B5.out.trans (b6.mono s5))
      have s6 := Nat.le_trans s5 b6.size
      have Y56 := Y55.below b6
      have Y66 := Y65.below b6
      have YR6 := YR5.below b6
      have Y6 := Y5.below b6
      have J6 := j3.below b6
      clear PV b5 oa4 oa5 ob ob5 Y54 Y64 YR4 Y4 Y55 Y65 YR5 Y5 b6 B4 B5 s4 s5 j3
      go_upto_region 15 with (fail)
      obtain ⟨gc, hgc⟩ : ∃ g, z5.heap.size = g := ⟨_, rfl⟩
      rw [hgc] at oc ⊢
      generalize z5.alloc (.cells #[.int .i64 u1, .int .i64 u2, .int .u32 u3, .slice va u4 vc, .int .u32 u6] 28) = z6 at *
      clear hgc
      go_wp2_with fail
      refine (PV2.out z6 Y6).mono ?_
      rintro e z7 ⟨⟨wa, wc, rfl, j4, j5, j6, _⟩, b7⟩
      have B7 := Lib.hid (B6.out.trans (b7.mono s6))
      have s7 := Nat.le_trans s6 b7.size
      have oa7 := below_own b7 oa6 oa6.lt
      have ob7 := below_own b7 ob6 ob6.lt
      have oc7 := below_own b7 oc oc.lt
      have Y57 := Y56.below b7
      have Y67 := Y66.below b7
      have YR7 := YR6.below b7
      have J7 := J6.below b7
      have b8 := (Below.refl z7.heap.size z7).alloc (Nat.le_refl _) (.cells #[.int .i64 u1, .int .i64 u2, .int .u32 u3, .slice wa u4 wc, .int .u32 u6] 28)
      have od := Own.new z7 28 #[.int .i64 u1, .int .i64 u2, .int .u32 u3, .slice wa u4 wc, .int .u32 u6]
      have oa8 := below_own b8 oa7 oa7.lt
      have ob8 := below_own b8 ob7 ob7.lt
      have oc8 := below_own b8 oc7 oc7.lt
      have B8 := Lib.hid (B7.out.trans (b8.mono s7))
      have s8 := Nat.le_trans s7 b8.size
      have Y58 := Y57.below b8
      have Y68 := Y67.below b8
      have YR8 := YR7.below b8
      have J8 := J7.below b8
      have K8 := j6.below b8
      clear PV2 b7 oa6 oa7 ob6 ob7 oc oc7 Y56 Y66 YR6 Y6 Y57 Y67 YR7 b8 B6 B7 s6 s7 j6 J6 J7
      go_upto_region 16 with (fail)
      obtain ⟨gd, hgd⟩ : ∃ g, z7.heap.size = g := ⟨_, rfl⟩
      rw [hgd] at od ⊢
      generalize z7.alloc (.cells #[.int .i64 u1, .int .i64 u2, .int .u32 u3, .slice wa u4 wc, .int .u32 u6] 28) = z8 at *
      clear hgd
      have a0 := oa8.cell 0
      have a1' := oa8.cell 1
      have a2' := oa8.cell 2
      have a3' := oa8.cell 3
      have a4' := oa8.cell 4
      have b0' := ob8.cell 0
      have b1' := ob8.cell 1
      have b2' := ob8.cell 2
      have b3' := ob8.cell 3
      have b4' := ob8.cell 4
      have c0' := oc8.cell 0
      have c1' := oc8.cell 1
      have c2' := oc8.cell 2
      have c3' := oc8.cell 3
      have c4' := oc8.cell 4
      have d0' := od.cell 0
      have d1' := od.cell 1
      have d2' := od.cell 2
      have d3' := od.cell 3
      have d4' := od.cell 4
      have PS := Lib.hid (rsamegrant_any ⟨u1, u2, u3, u4, u5, u6⟩ va wa vc wc z8 j1 j4 j2 j5 J8 K8)
      clear oa8 ob8 oc8 od J8 K8
      go_wp2_with fail
      refine PS.out.mono ?_
      rintro e z9 ⟨rfl, b9⟩
      have B9 := B8.out.trans (b9.mono s8)
      have s9 := Nat.le_trans s8 b9.size
      have Y59 := Y58.below b9
      have Y69 := Y68.below b9
      have YR9 := YR8.below b9
      clear b9 PS B8 a0 a1' a2' a3' a4' b0' b1' b2' b3' b4' c0' c1' c2' c3' c4' d0' d1' d2' d3' d4' s8 Y58 Y68 YR8
      go_wp2_with fail
      exact ⟨⟨k + 1, by simp, by omega, Y59, Y69, YR9, B9, s9⟩, by simp [intOf]; omega⟩
    · obtain rfl : k = 3 := by omega
      go_wp2_with fail
      refine (awake_join _).mono ?_
      rintro e w9 ⟨rfl, b9⟩
      have B9 := Lib.hid (bb.trans (b9.mono hs))
      clear Y5 Y6 YR bb b9
      go_wp2_with fail
      go_ret
      exact ⟨rfl, by rw [HH.out]; exact B9.out⟩

theorem walk (H : Type) (enc : TypeId × Value → H) : Walk H enc Try.prog 3 Try.f3 := by
  intro W base args ds p hval hA
  rw [Try.params3] at hA hval
  obtain ⟨v0, vs, d0, ds', p0, q0, e0, rfl, rfl, h0, hA⟩ := trodAll_cons hA
  obtain ⟨v1, vs1, d1, ds1, p1, q1, rfl, rfl, rfl, h1, hA⟩ := trodAll_cons hA
  obtain ⟨v2, vs2, d2, ds2, p2, q2, rfl, rfl, rfl, h2, hA⟩ := trodAll_cons hA
  obtain ⟨v3, vs3, d3, ds3, p3, q3, rfl, rfl, rfl, h3, hA⟩ := trodAll_cons hA
  obtain ⟨v4, vs4, d4, ds4, p4, q4, rfl, rfl, rfl, h4, hA⟩ := trodAll_cons hA
  obtain ⟨v5, vs5, d5, ds5, p5, q5, rfl, rfl, rfl, h5, hA⟩ := trodAll_cons hA
  obtain ⟨v6, vs6, d6, ds6, p6, q6, rfl, rfl, rfl, h6, hA⟩ := trodAll_cons hA
  obtain ⟨rfl, rfl, rfl⟩ := trodAll_nil hA
  obtain ⟨l⟩ := args
  dsimp only at e0
  subst e0
  obtain ⟨key, rfl, rfl, rfl, w0⟩ := open_int Try.underlying22 (hval 0 _ v0 rfl rfl) h0
  obtain ⟨r, rfl, hw⟩ := open_request (hval 1 _ v1 rfl rfl) h1
  obtain ⟨g, a, c, rfl, hno, hc, hcm, hL⟩ := open_grant (hval 2 _ v2 rfl rfl) h2
  obtain ⟨A, m, C, Z, rfl, hm, hC, hZ, _⟩ := open_row_int Try.underlying29 Try.underlying3 (by kernel_rfl) (hval 3 _ v3 rfl rfl) h3
  obtain ⟨x, rfl, rfl, rfl, w4⟩ := open_int Try.underlying5 (hval 4 _ v4 rfl rfl) h4
  obtain ⟨cut, rfl, rfl, rfl, _⟩ := open_int Try.underlying3 (hval 5 _ v5 rfl rfl) h5
  obtain ⟨aR, lR, cR, rfl, k1, k2, k3, k4⟩ := open_bytes (hval 6 _ v6 rfl rfl) h6
  exact body key r g a c A m C Z x cut aR lR cR W (Lb.u64_bd w0).1 hw hno hc hcm hL hm hC hZ (Lb.u8_bd w4) ⟨k1, k2, k3⟩ k4

set_option maxRecDepth 100000 in
theorem lifted (os : Os) (started : os.Started) (H : Type) (enc : TypeId × Value → H) :
    ReturnsInHanded {} Try.checked os 3 .any (Rows.joinFormsSpec.pre6 enc Try.prog Try.f3 Rows.joinFormsRow.domain false) (Rows.joinFormsSpec.post enc Try.prog Try.f3 false true false false) :=
  returnsInHanded_of_change (C := Try.checked) own started (by kernel_rfl) Try.func3
    (ChangeSpec.witness6 (enc := enc) (C := Try.checked) false ⟨#[], #[.int .u64 0, (.agg #[.int .i64 0, .int .i64 0, .int .u32 0, .int .u32 0, .int .u32 0]), (.agg #[.int .i64 0, .int .i64 0, .int .u32 0, .slice none 0 0, .int .u32 0]), (.slice none 0 0), (.int .u8 0), (.int .i64 0), (.slice none 0 0)], []⟩ 8 (by kernel_rfl) (by kernel_rfl) (by kernel_rfl) (by kernel_rfl))
    fun W base args ds gs before hval hW _ _ => step_of_walk laidOut (by rw [Try.params3]; exact of_decide_eq_true (by kernel_rfl)) (by kernel_rfl) Try.underlying4 rfl
      (fun ds h => by
        rw [Try.params3] at h
        match ds, h with
        | [_, _, _, _, _, _, _], _ => rfl) (walk H enc) W base args ds gs before hval hW

theorem holds : Rows.JoinFormsSaid :=
  OpenClaim.holds_of_wide 3 Try.f3 rfl rfl rfl rfl rfl rfl rfl ⟨rfl, rfl, rfl, rfl, rfl⟩ rfl rfl rfl rfl rfl (by kernel_rfl) Try.func3 (by kernel_rfl)
    (of_decide_eq_true (by kernel_rfl)) (by unfold Func.isWrapper; first | (rw [if_pos (by decide +kernel)]; kernel_rfl) | (rw [if_neg (by decide +kernel)]; exact ⟨rfl, rfl⟩))
    (fun os started H enc _ => lifted os started H enc)
#print axioms holds
end Go.Proofs.Ytphiohdhgkpgnaa.JoinForms
