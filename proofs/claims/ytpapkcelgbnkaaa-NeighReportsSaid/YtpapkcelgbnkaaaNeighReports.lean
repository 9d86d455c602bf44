/-
  Law NeighReports: a report has the best ones first, each once, none of less quality than it is asked for, as many as there are, or as are asked for; the call returns true. No condition.
-/
import Derived.Test.YtpapkcelgbnkaaaNeighRep2
import Derived.Test.YtpapkcelgbnkaaaVar
import Derived.Deep.Cut
import Derived.Deep.CutRange
import Derived.Deep.CutBlock
import Derived.StillTactics
set_option maxRecDepth 100000
namespace Go.Proofs.Ytpapkcelgbnkaaa.NeighReports
set_option linter.unusedVariables false
open Go.RowKit Go.ChangeShapes Go.WideShapes Go.ChangeAt Go.Deep Lb Ng
set_option linter.unusedVariables false
theorem own : ownKnob Try.prog.godebug = none := by kernel_rfl
theorem laidOut : laidOutB Try.prog = true := by kernel_rfl
/-- Is node t among the first j rows? -/
def sn (l : List (Int × Int)) (j t : Nat) : Bool := (List.range j).any fun i => (l.getD i (0, 0)).1 == (t : Int)
theorem sn_step (l : List (Int × Int)) (j t : Nat) : sn l (j + 1) t = (sn l j t || (l.getD j (0, 0)).1 == (t : Int)) := by
  unfold sn
  rw [List.range_succ, List.any_append]
  simp
def sv (l : List (Int × Int)) (j t : Nat) : Value := .bool (sn l j t)
theorem sn_new {Q : Nat → Int} {least : Int} {j k : Nat} (h : j < (srt Q least).length) (hk : (srt Q least).getD j (0, 0) = ((k : Int), Q k)) : sn (srt Q least) j k = false := by
  unfold sn
  rw [List.any_eq_false]
  intro i hi
  rw [List.mem_range] at hi
  have := srt_nodes (Q := Q) (least := least) hi h
  rw [hk] at this
  simpa using this
theorem own0_len {Q : Nat → Int} {least : Int} (k : Nat) : (pairs Q least (k + 1)).length = (pairs Q least k).length + if 0 < Q k ∧ least ≤ Q k then 1 else 0 := by
  by_cases h : 0 < Q k ∧ least ≤ Q k
  · rw [pairs_yes h, if_pos h, List.length_append]; rfl
  · rw [pairs_not h, if_neg h]; rfl

set_option maxHeartbeats 8000000 in
theorem body (a : Option Addr) (n c : Nat) (V : Nat → Value) (X0 : Nat → Bool) (X1 : Nat → Int) (y z : Int) (w : World) (hn : n ≤ c) (hc : c ≤ maxLen) (hV : Row w a (n * 2) V)
    (hC : ∀ i, i < n → V (i * 2) = .bool (X0 i) ∧ V (i * 2 + 1) = .int .i64 (X1 i)) :
    Calls Try.prog 6 #[.slice a n c, .int .i64 y, .int .i64 z] w fun r w' => r = .returned (.bool true) ∧ Below w.heap.size w w' := by
  have hcap : (n : Int) ≤ 9223372036854775807 := by unfold maxLen at hc; omega
  have HC := Lib.hid hC
  clear hC
  go_enter Try.func6, Try.ntmps6
  go_wp2_with fail
  refine (new_yes 0 _ (by decide)).mono ?_
  rintro r w1 ⟨rfl, h1, b1, s1⟩
  have hg : Hid (Ng.Good (fun _ => 0)) := Lib.hid good_zero
  have h0 : Hid (Own0 0 (fun _ => 0)) := Lib.hid rfl
  go_upto_block 0 with (fail)
  go_cut [8, 9] from 17 (fun s8 s9 wz => ∃ Q : Nat → Int, Tb wz w.heap.size 47 0 Q ∧ Hid (Ng.Good Q) ∧ Hid (Own0 0 Q) ∧ Below w.heap.size w wz)
  case first =>
    go_wp2_with fail
    go_loopw [22] (fun i wr => ∃ (k : Nat) (Q : Nat → Int), i = .int .i64 k ∧ k ≤ n ∧ k ≤ 200 ∧ Tb wr w.heap.size 47 0 Q ∧ Hid (Ng.Good Q) ∧ Hid (Own0 0 Q) ∧ Below w.heap.size w wr) (fun i _ => n - (intOf i).toNat)
    case atStart => exact ⟨0, _, rfl, by omega, by omega, h1, hg, h0, b1⟩
    case round =>
      clear h1 hg h0 b1 s1
      obtain ⟨k, Q, rfl, hk, hk3, h1, hg, h0, bb⟩ := hrel
      by_cases hlt : k < n ∧ k < 200
      · obtain ⟨hlt, h300⟩ := hlt
        have e300 : decide ((200 : Int) ≤ (k : Int)) = false := by simp; omega
        obtain ⟨bo, off, rfl, hbo, hcs⟩ := hV.at_struct bb hlt (by decide)
        obtain ⟨e0, e1⟩ := HC.out k hlt
        have c0 := (hcs 0 (by decide)).trans (congrArg some e0)
        have c1 := (hcs 1 (by decide)).trans (congrArg some e1)
        rw [Nat.add_zero] at c0
        clear hcs e0 e1
        generalize X0 k = f at *
        generalize X1 k = m at *
        have hx1 : Tb (wr.alloc (.cells #[.bool f, .int .i64 m] 29)) w.heap.size 47 0 Q := Blk.alloc h1 _
        have bx := bb.alloc bb.size (.cells #[.bool f, .int .i64 m] 29)
        have ox := Own.new wr 29 #[.bool f, .int .i64 m]
        cases f
        · have hg2 := Lib.hid (good_up hg.out 0 m)
          have h02 := Lib.hid (own0_up h0.out (by decide) m)
          go_wp2_with fail
          generalize hrr : wr.heap.size = r at *
          generalize wr.alloc (.cells #[.bool false, .int .i64 m] 29) = wx at *
          clear hrr c0 c1 bb h1
          have x1 : wx.cell? ⟨r, 1, none⟩ = some (.int .i64 m) := ox.cell 1
          refine (heard_any w.heap.size _ 0 Q m _ hx1 hg.out).mono ?_
          rintro q w4 ⟨rfl, h4, j4⟩
          have b4 := j4.below bx (Nat.le_refl _) bx.size
          clear x1 hx1 ox bx
          go_wp2_with fail
          exact ⟨⟨k + 1, _, by simp, by omega, by omega, h4, hg2, h02, b4⟩, by simp [intOf]; omega⟩
        · have hg2 := Lib.hid (good_down hg.out 0 m)
          have h02 := Lib.hid (own0_down h0.out (by decide) m)
          go_wp2_with fail
          generalize hrr : wr.heap.size = r at *
          generalize wr.alloc (.cells #[.bool true, .int .i64 m] 29) = wx at *
          clear hrr c0 c1 bb h1
          have x1 : wx.cell? ⟨r, 1, none⟩ = some (.int .i64 m) := ox.cell 1
          refine (missed_any w.heap.size _ 0 Q m _ hx1 hg.out).mono ?_
          rintro q w4 ⟨rfl, h4, j4⟩
          have b4 := j4.below bx (Nat.le_refl _) bx.size
          clear x1 hx1 ox bx
          go_wp2_with fail
          exact ⟨⟨k + 1, _, by simp, by omega, by omega, h4, hg2, h02, b4⟩, by simp [intOf]; omega⟩
      · have hx : (k < n ∧ decide ((200 : Int) ≤ (k : Int)) = true) ∨ ¬ k < n := by
          by_cases h1 : k < n
          · exact .inl ⟨h1, by simp; omega⟩
          · exact .inr h1
        clear hlt
        rcases hx with ⟨hlt, e300⟩ | hlt
        · obtain ⟨bo, off, rfl, hbo, hcs⟩ := hV.at_struct bb hlt (by decide)
          obtain ⟨e0, e1⟩ := HC.out k hlt
          have c0 := (hcs 0 (by decide)).trans (congrArg some e0)
          have c1 := (hcs 1 (by decide)).trans (congrArg some e1)
          rw [Nat.add_zero] at c0
          clear hcs e0 e1
          have hx1 : Tb (wr.alloc (.cells #[.bool (X0 k), .int .i64 (X1 k)] 29)) w.heap.size 47 0 Q := Blk.alloc h1 _
          have bx := bb.alloc bb.size (.cells #[.bool (X0 k), .int .i64 (X1 k)] 29)
          go_wp2_with fail
          go_meet
          exact ⟨Q, hx1, hg, h0, bx⟩
        · go_wp2_with fail
          go_meet
          exact ⟨Q, h1, hg, h0, bb⟩
  case rest =>
    obtain ⟨Q, hx1, hg, h0, bx⟩ := hcut
    clear h1 b1 s1
    generalize wc = wx at *
    go_wp2_with fail
    go_loopw [40, 10] (fun i v w' => ∃ j : Nat, i = .int .i64 j ∧ v = .int .i64 (((pairs Q y j).length : Nat) : Int) ∧ j ≤ 16 ∧ wx = w') (fun i _ _ => 16 - (intOf i).toNat)
    case atStart => exact ⟨0, rfl, rfl, by omega, rfl⟩
    case round =>
      obtain ⟨j, rfl, rfl, hj, rfl⟩ := hrel
      have hpl := pairs_len Q y j
      by_cases hjt : j < 16
      · have g2 : (j : Int) < 16 := by omega
        have HQ : Hid (qOf 0 Q (j : Int) = Q j) := Lib.hid (by rw [own0_q h0.out (j : Int) (by unfold ndB; rw [decide_eq_true_eq]; omega), Int.toNat_natCast])
        obtain ⟨q, hq⟩ : ∃ q, Q j = q := ⟨_, rfl⟩
        rw [hq] at HQ
        by_cases hy : 0 < q ∧ y ≤ q
        · have HL : Hid (((pairs Q y (j + 1)).length : Int) = ((pairs Q y j).length : Int) + 1) := Lib.hid (by rw [own0_len, if_pos (by rw [hq]; exact hy)]; rfl)
          obtain ⟨hy1, hy2⟩ := hy
          generalize (pairs Q y j).length = L at *
          clear hq
          go_wp2_with fail
          refine (quality_any w.heap.size _ 0 Q j _ hx1).mono ?_
          rintro r w' ⟨rfl, rfl⟩
          rw [HQ.out]
          go_wp2_with fail
          exact ⟨⟨j + 1, by simp, by rw [HL.out], by omega, by first | trivial | rfl⟩, by simp [intOf]; omega⟩
        · have HL : Hid (((pairs Q y (j + 1)).length : Int) = ((pairs Q y j).length : Int)) := Lib.hid (by rw [own0_len, if_neg (by rw [hq]; exact hy)]; rfl)
          generalize (pairs Q y j).length = L at *
          have hcs : decide (0 < q) = false ∨ (0 < q ∧ decide (y ≤ q) = false) := by
            simp only [decide_eq_false_iff_not]
            omega
          clear hq hy
          rcases hcs with g3 | ⟨g3, g4⟩
          all_goals
            go_wp2_with fail
            refine (quality_any w.heap.size _ 0 Q j _ hx1).mono ?_
            rintro r w' ⟨rfl, rfl⟩
            rw [HQ.out]
            go_wp2_with fail
            exact ⟨⟨j + 1, by simp, by rw [HL.out], by omega, by first | trivial | rfl⟩, by simp [intOf]; omega⟩
      · obtain rfl : 16 = j := by omega
        generalize hLL : (pairs Q y 16).length = L at *
        have HLL := Lib.hid hLL
        clear hLL hjt hj
        go_wp2_with fail
        have hrep : Calls Try.prog 18 #[.pointer (some ⟨w.heap.size, 0, none⟩), .int .i64 y, .int .i64 z] wx fun r w' => ∃ a m c, r = .returned (.slice a m c) ∧ max (0 : Int) (min (L : Int) z) = (m : Int) ∧ m ≤ (srt Q y).length ∧ m ≤ c ∧ c ≤ maxLen ∧ Row w' a (m * 3) (pv 0 (srt Q y)) ∧ Below wx.heap.size wx w' := by
          by_cases hz : 0 < z
          · refine (report_any w.heap.size 0 Q y z _ hx1 hg.out hz).mono ?_
            rintro r w4 ⟨a, m, c, rfl, hm, hmc, hcm, hR, b4⟩
            rw [HLL.out] at hm
            exact ⟨a, m, c, rfl, by omega, by rw [srt_len, HLL.out]; omega, hmc, hcm, hR, b4⟩
          · refine (report_low w.heap.size y z _ (by omega)).mono ?_
            rintro r w' ⟨rfl, rfl⟩
            exact ⟨none, 0, 0, rfl, by omega, Nat.zero_le _, Nat.le_refl _, Nat.zero_le _, by rw [Nat.zero_mul]; exact Row.nil _ _ _, Below.refl _ _⟩
        refine hrep.mono ?_
        rintro r w4 ⟨a4, m, c4, rfl, hm4, hms, hmc, hcm, hR, b4⟩
        have h4 := below_blk b4 hx1 hx1.lt
        have b4 := bx.trans (b4.mono bx.size)
        have hmb : (m : Int) ≤ 9223372036854775807 := by unfold maxLen at hcm; omega
        have HS : Hid (m ≤ (srt Q y).length) := Lib.hid hms
        clear hrep hms hpl
        go_upto_region 23 with (fail)
        refine wp_zero_var (z := #[.bool false, .bool false, .bool false, .bool false, .bool false, .bool false, .bool false, .bool false, .bool false, .bool false, .bool false, .bool false, .bool false, .bool false, .bool false, .bool false]) rfl rfl rfl rfl rfl rfl rfl (by kernel_rfl) (by kernel_rfl) (by kernel_rfl) rfl rfl ?_
        have hz4 : Blk (w4.alloc (.cells #[.bool false, .bool false, .bool false, .bool false, .bool false, .bool false, .bool false, .bool false, .bool false, .bool false, .bool false, .bool false, .bool false, .bool false, .bool false, .bool false] 39)) w4.heap.size 39 16 (sv (srt Q y) 0) := Blk.of (Own.new w4 _ _) (by simp) (fun i hi => by
          have e : sv (srt Q y) 0 i = .bool false := rfl
          rw [e]
          rcases (show i = 0 ∨ i = 1 ∨ i = 2 ∨ i = 3 ∨ i = 4 ∨ i = 5 ∨ i = 6 ∨ i = 7 ∨ i = 8 ∨ i = 9 ∨ i = 10 ∨ i = 11 ∨ i = 12 ∨ i = 13 ∨ i = 14 ∨ i = 15 by omega) with rfl | rfl | rfl | rfl | rfl | rfl | rfl | rfl | rfl | rfl | rfl | rfl | rfl | rfl | rfl | rfl <;> rfl)
        have bz := (Below.refl w4.heap.size w4).alloc (Nat.le_refl _) (.cells #[.bool false, .bool false, .bool false, .bool false, .bool false, .bool false, .bool false, .bool false, .bool false, .bool false, .bool false, .bool false, .bool false, .bool false, .bool false, .bool false] 39)
        generalize w4.alloc (.cells #[.bool false, .bool false, .bool false, .bool false, .bool false, .bool false, .bool false, .bool false, .bool false, .bool false, .bool false, .bool false, .bool false, .bool false, .bool false, .bool false] 39) = w5 at *
        obtain ⟨sb, hsb⟩ : ∃ sb, sb = w4.heap.size := ⟨_, rfl⟩
        rw [← hsb] at hz4 ⊢
        have HSB := Lib.hid hsb
        clear hsb
        go_wp2_with fail
        go_loopw [70] (fun i wr => ∃ j : Nat, i = .int .i64 j ∧ j ≤ m ∧ Blk wr sb 39 16 (sv (srt Q y) j) ∧ Below w4.heap.size w4 wr) (fun i _ => m - (intOf i).toNat)
        case atStart => exact ⟨0, rfl, by omega, hz4, bz⟩
        case round =>
          clear hz4 bz
          rename_i wr _
          obtain ⟨j, rfl, hj, hz, bz⟩ := hrel
          by_cases hjm : j < m
          · have hjs : j < (srt Q y).length := Nat.lt_of_lt_of_le hjm HS.out
            obtain ⟨k', hk16, hk0, hky, hke⟩ := srt_at (Q := Q) (least := y) hjs
            have hsn := sn_new hjs hke
            obtain ⟨p0, p1, p2⟩ := pv_at 0 (srt Q y) j
            rw [hke] at p1 p2
            obtain ⟨g, off, ha4, hgl, hcs⟩ := hR.at_struct bz hjm (by decide)
            have a0 := (hcs 0 (by decide)).trans (congrArg some p0)
            have a1 := (hcs 1 (by decide)).trans (congrArg some p1)
            have a2 := (hcs 2 (by decide)).trans (congrArg some p2)
            rw [Nat.add_zero] at a0
            subst ha4
            have hk1 : k' ≠ 0 := by
              rintro rfl
              have : Q 0 = 0 := h0.out
              omega
            have HT : Hid (∀ u : Nat, sn (srt Q y) (j + 1) u = (sn (srt Q y) j u || decide (u = k'))) := Lib.hid (fun u => by
              rw [sn_step, hke]
              congr 1
              rw [Bool.eq_iff_iff]
              simp
              omega)
            have hq1 : qOf 0 Q (k' : Int) = Q k' := by rw [own0_q h0.out (k' : Int) (by unfold ndB; rw [decide_eq_true_eq]; omega), Int.toNat_natCast]
            obtain ⟨q, hq⟩ : ∃ q, Q k' = q := ⟨_, rfl⟩
            rw [hq] at a2 hq1 hky hk0
            have HQ := Lib.hid hq1
            have HK := Lib.hid hke
            have HQQ := Lib.hid hq
            clear hcs p0 p1 p2 hq1 hke hq
            have n1 : decide ((k' : Int) < 1) = false := by simp; omega
            have n1' : decide (k' < 1) = false := by simp; omega
            have n2 : decide ((15 : Int) < (k' : Int)) = false := by simp; omega
            have n3 : decide (q < y) = false := by simp; omega
            have n4 : (k' : Int) < 16 := by omega
            have zc0 := hz.cell hk16
            have zf := hz.free k'
            have zc : wr.cell? ⟨sb, k', none⟩ = some (.bool false) := by rw [zc0]; unfold sv; rw [hsn]
            clear zc0
            have o5 := Own.new wr 41 #[.int .i64 0, .int .i64 (k' : Int), .int .i64 q]
            have z5 : Blk (wr.alloc (.cells #[.int .i64 0, .int .i64 (k' : Int), .int .i64 q] 41)) sb 39 16 (sv (srt Q y) j) := Blk.alloc hz _
            have b5 := bz.alloc bz.size (.cells #[.int .i64 0, .int .i64 (k' : Int), .int .i64 q] 41)
            have hgsz : g < wr.heap.size := by have := bz.size; omega
            clear hsn hk1 hky hk0
            have hcase : (decide (0 < j) = false ∧ decide ((0 : Int) < (j : Int)) = false) ∨ ∃ i, j = i + 1 := by
              rcases Nat.eq_zero_or_pos j with h | h
              · left; subst h; exact ⟨rfl, rfl⟩
              · exact .inr ⟨j - 1, by omega⟩
            rcases hcase with ⟨g1, g2⟩ | ⟨i, rfl⟩
            · go_wp2_with fail
              have k4 := below_blk b5 h4 h4.lt
              generalize hr6 : wr.heap.size = r6 at *
              generalize wr.alloc (.cells #[.int .i64 0, .int .i64 (k' : Int), .int .i64 q] 41) = w6 at *
              have x0 : w6.cell? ⟨r6, 0, none⟩ = some (.int .i64 0) := o5.cell 0
              have x1 : w6.cell? ⟨r6, 1, none⟩ = some (.int .i64 (k' : Int)) := o5.cell 1
              have x2 : w6.cell? ⟨r6, 2, none⟩ = some (.int .i64 q) := o5.cell 2
              have y1 : w6.cell? ⟨sb, k', none⟩ = some (.bool false) := by rw [z5.cell hk16, ← hz.cell hk16]; exact zc
              have HA : Hid (∀ u, Calls Try.prog 15 #[.pointer (some ⟨w.heap.size, 0, none⟩), .int .i64 (k' : Int)] (w6.drewN u) fun r w' => r = .returned (.int .i64 q) ∧ w6.drewN u = w') := Lib.hid (fun u => by
                rw [← HQ.out]
                exact quality_any w.heap.size _ 0 Q k' _ (Blk.drewN k4 u))
              clear a0 a1 a2 zc hgsz hr6
              go_quiet (first | (go_at_call 15; exact quiet_left (HA.out _)))
              generalize hw7 : w6.drewN _ = w7 at *
              have z7 : Blk w7 sb 39 16 (sv (srt Q y) j) := by rw [← hw7]; exact Blk.drewN z5 _
              have b7 : Below w4.heap.size w4 w7 := by rw [← hw7]; exact below_drewN b5 _
              have o7 : Own w7 r6 41 #[.int .i64 0, .int .i64 (k' : Int), .int .i64 q] := by rw [← hw7]; exact o5.drewN _
              clear hw7 x0 x1 x2 y1
              have x1 : w7.cell? ⟨r6, 1, none⟩ = some (.int .i64 (k' : Int)) := o7.cell 1
              have y1 : w7.cell? ⟨sb, k', none⟩ = some (sv (srt Q y) j k') := z7.cell hk16
              have y2 : w7.frozen? ⟨sb, k', none⟩ = false := z7.free k'
              have z8 := (z7.put k' (.bool true)).ext (U := sv (srt Q y) (j + 1)) (fun u _ => by
                unfold sv
                rw [HT.out u]
                by_cases hu : u = k'
                · rw [if_pos hu, decide_eq_true hu, Bool.or_true]
                · rw [if_neg hu, decide_eq_false hu, Bool.or_false])
              have b8 := (Just.set sb w7 k' (.bool true)).below b7 (by rw [HSB.out]; exact Nat.le_refl _) b7.size
              have HZ8 := Lib.hid z8
              unfold sv at y1
              clear z8
              go_wp2_with fail
              exact ⟨⟨j + 1, by simp, by omega, HZ8.out, b8⟩, by simp [intOf]; omega⟩
            · obtain ⟨p0, p1, p2⟩ := pv_at 0 (srt Q y) i
              obtain ⟨pk', _, _, _, hpe⟩ := srt_at (Q := Q) (least := y) (i := i) (by omega)
              have hord := srt_order (Q := Q) (least := y) (i := i) (j := i + 1) (by omega) hjs
              rw [hpe, HK.out] at hord
              rw [hpe] at p1 p2
              have hcs := hR.at_struct (k := i) bz (by omega) (by decide)
              obtain ⟨g', off', ha', hgl', hcs⟩ := hcs
              injection ha' with ha'
              injection ha' with e1 e2 _
              subst e1 e2
              have a3 := (hcs 1 (by decide)).trans (congrArg some p1)
              have a4 := (hcs 2 (by decide)).trans (congrArg some p2)
              unfold before at hord
              dsimp only at hord
              rw [HQQ.out] at hord
              generalize Q pk' = pq at *
              clear hcs p0 p1 p2 hpe
              have hcase : (decide (pq < q) = false ∧ (q == pq) = false) ∨ (pq = q ∧ decide (k' < pk') = false ∧ decide ((k' : Int) < (pk' : Int)) = false) := by
                simp only [decide_eq_false_iff_not, beq_eq_false_iff_ne]
                omega
              clear hord
              rcases hcase with ⟨g1, g2⟩ | ⟨hpq, g1, g2⟩
              · have b6c : ∀ p : Addr, p.block < wr.heap.size → (wr.alloc (.cells #[.int .i64 0, .int .i64 (k' : Int), .int .i64 q] 41)).cell? p = wr.cell? p := fun p hp => ((Below.refl wr.heap.size wr).alloc (Nat.le_refl _) (.cells #[.int .i64 0, .int .i64 (k' : Int), .int .i64 q] 41)).cell hp
                have HB6 := Lib.hid b6c
                clear b6c
                go_wp2_with fail
                have b6c := HB6.out
                clear HB6
                have k4 := below_blk b5 h4 h4.lt
                generalize hr6 : wr.heap.size = r6 at *
                generalize wr.alloc (.cells #[.int .i64 0, .int .i64 (k' : Int), .int .i64 q] 41) = w6 at *
                have x0 : w6.cell? ⟨r6, 0, none⟩ = some (.int .i64 0) := o5.cell 0
                have x1 : w6.cell? ⟨r6, 1, none⟩ = some (.int .i64 (k' : Int)) := o5.cell 1
                have x2 : w6.cell? ⟨r6, 2, none⟩ = some (.int .i64 q) := o5.cell 2
                have y1 : w6.cell? ⟨sb, k', none⟩ = some (.bool false) := by rw [z5.cell hk16, ← hz.cell hk16]; exact zc
                have v3 : w6.cell? ⟨g, off + i * 3 + 1, none⟩ = some (.int .i64 (pk' : Int)) := (b6c ⟨g, off + i * 3 + 1, none⟩ hgsz).trans a3
                have v4 : w6.cell? ⟨g, off + i * 3 + 2, none⟩ = some (.int .i64 pq) := (b6c ⟨g, off + i * 3 + 2, none⟩ hgsz).trans a4
                clear b6c a3 a4
                have HA : Hid (∀ u, Calls Try.prog 15 #[.pointer (some ⟨w.heap.size, 0, none⟩), .int .i64 (k' : Int)] (w6.drewN u) fun r w' => r = .returned (.int .i64 q) ∧ w6.drewN u = w') := Lib.hid (fun u => by
                  rw [← HQ.out]
                  exact quality_any w.heap.size _ 0 Q k' _ (Blk.drewN k4 u))
                clear a0 a1 a2 zc hgsz hr6
                go_quiet (first | (go_at_call 15; exact quiet_left (HA.out _)))
                generalize hw7 : w6.drewN _ = w7 at *
                have z7 : Blk w7 sb 39 16 (sv (srt Q y) (i + 1)) := by rw [← hw7]; exact Blk.drewN z5 _
                have b7 : Below w4.heap.size w4 w7 := by rw [← hw7]; exact below_drewN b5 _
                have o7 : Own w7 r6 41 #[.int .i64 0, .int .i64 (k' : Int), .int .i64 q] := by rw [← hw7]; exact o5.drewN _
                clear hw7 x0 x1 x2 y1 v3 v4
                have x1 : w7.cell? ⟨r6, 1, none⟩ = some (.int .i64 (k' : Int)) := o7.cell 1
                have y1 : w7.cell? ⟨sb, k', none⟩ = some (sv (srt Q y) (i + 1) k') := z7.cell hk16
                have y2 : w7.frozen? ⟨sb, k', none⟩ = false := z7.free k'
                have z8 := (z7.put k' (.bool true)).ext (U := sv (srt Q y) ((i + 1) + 1)) (fun u _ => by
                  unfold sv
                  rw [HT.out u]
                  by_cases hu : u = k'
                  · rw [if_pos hu, decide_eq_true hu, Bool.or_true]
                  · rw [if_neg hu, decide_eq_false hu, Bool.or_false])
                have b8 := (Just.set sb w7 k' (.bool true)).below b7 (by rw [HSB.out]; exact Nat.le_refl _) b7.size
                have HZ8 := Lib.hid z8
                unfold sv at y1
                clear z8
                go_wp2_with fail
                exact ⟨⟨(i + 1) + 1, by simp, by omega, HZ8.out, b8⟩, by simp [intOf]; omega⟩
              · rw [hpq] at a4
                clear hpq
                have b6c : ∀ p : Addr, p.block < wr.heap.size → (wr.alloc (.cells #[.int .i64 0, .int .i64 (k' : Int), .int .i64 q] 41)).cell? p = wr.cell? p := fun p hp => ((Below.refl wr.heap.size wr).alloc (Nat.le_refl _) (.cells #[.int .i64 0, .int .i64 (k' : Int), .int .i64 q] 41)).cell hp
                have HB6 := Lib.hid b6c
                clear b6c
                go_wp2_with fail
                have b6c := HB6.out
                clear HB6
                have k4 := below_blk b5 h4 h4.lt
                generalize hr6 : wr.heap.size = r6 at *
                generalize wr.alloc (.cells #[.int .i64 0, .int .i64 (k' : Int), .int .i64 q] 41) = w6 at *
                have x0 : w6.cell? ⟨r6, 0, none⟩ = some (.int .i64 0) := o5.cell 0
                have x1 : w6.cell? ⟨r6, 1, none⟩ = some (.int .i64 (k' : Int)) := o5.cell 1
                have x2 : w6.cell? ⟨r6, 2, none⟩ = some (.int .i64 q) := o5.cell 2
                have y1 : w6.cell? ⟨sb, k', none⟩ = some (.bool false) := by rw [z5.cell hk16, ← hz.cell hk16]; exact zc
                have v3 : w6.cell? ⟨g, off + i * 3 + 1, none⟩ = some (.int .i64 (pk' : Int)) := (b6c ⟨g, off + i * 3 + 1, none⟩ hgsz).trans a3
                have v4 : w6.cell? ⟨g, off + i * 3 + 2, none⟩ = some (.int .i64 q) := (b6c ⟨g, off + i * 3 + 2, none⟩ hgsz).trans a4
                clear b6c a3 a4
                have HA : Hid (∀ u, Calls Try.prog 15 #[.pointer (some ⟨w.heap.size, 0, none⟩), .int .i64 (k' : Int)] (w6.drewN u) fun r w' => r = .returned (.int .i64 q) ∧ w6.drewN u = w') := Lib.hid (fun u => by
                  rw [← HQ.out]
                  exact quality_any w.heap.size _ 0 Q k' _ (Blk.drewN k4 u))
                clear a0 a1 a2 zc hgsz hr6
                go_quiet (first | (go_at_call 15; exact quiet_left (HA.out _)))
                generalize hw7 : w6.drewN _ = w7 at *
                have z7 : Blk w7 sb 39 16 (sv (srt Q y) (i + 1)) := by rw [← hw7]; exact Blk.drewN z5 _
                have b7 : Below w4.heap.size w4 w7 := by rw [← hw7]; exact below_drewN b5 _
                have o7 : Own w7 r6 41 #[.int .i64 0, .int .i64 (k' : Int), .int .i64 q] := by rw [← hw7]; exact o5.drewN _
                clear hw7 x0 x1 x2 y1 v3 v4
                have x1 : w7.cell? ⟨r6, 1, none⟩ = some (.int .i64 (k' : Int)) := o7.cell 1
                have y1 : w7.cell? ⟨sb, k', none⟩ = some (sv (srt Q y) (i + 1) k') := z7.cell hk16
                have y2 : w7.frozen? ⟨sb, k', none⟩ = false := z7.free k'
                have z8 := (z7.put k' (.bool true)).ext (U := sv (srt Q y) ((i + 1) + 1)) (fun u _ => by
                  unfold sv
                  rw [HT.out u]
                  by_cases hu : u = k'
                  · rw [if_pos hu, decide_eq_true hu, Bool.or_true]
                  · rw [if_neg hu, decide_eq_false hu, Bool.or_false])
                have b8 := (Just.set sb w7 k' (.bool true)).below b7 (by rw [HSB.out]; exact Nat.le_refl _) b7.size
                have HZ8 := Lib.hid z8
                unfold sv at y1
                clear z8
                go_wp2_with fail
                exact ⟨⟨(i + 1) + 1, by simp, by omega, HZ8.out, b8⟩, by simp [intOf]; omega⟩
          · obtain rfl : m = j := by omega
            have bb := b4.trans (bz.mono b4.size)
            clear hz bz hjm hj
            go_wp2_with fail
            refine (awake_any _).mono ?_
            rintro r w9 ⟨rfl, b9⟩
            have bb := bb.trans (b9.mono bb.size)
            go_wp2_with fail
            go_ret
            exact ⟨rfl, bb⟩

theorem walk (H : Type) (enc : TypeId × Value → H) : Walk H enc Try.prog 6 Try.f6 := by
  intro W base args ds p hval hA
  rw [Try.params6] at hA hval
  obtain ⟨v1, v2, v3, d1, d2, d3, p1, p2, p3, rfl, rfl, rfl, h1, h2, h3⟩ := trodAll_three hA
  obtain ⟨a, n, c, V, rfl, hn, hm, hV, hf⟩ := open_row_struct Try.underlying22 Try.underlying29 (by kernel_rfl) (by kernel_rfl) (by decide) (hval 0 _ v1 rfl rfl) h1
  obtain ⟨X0, e0⟩ := field_bool (n := n) (m := 2) (j := 0) Try.underlying4 (fun i hi => hf i hi 0 _ rfl)
  obtain ⟨X1, e1⟩ := field_int (n := n) (m := 2) (j := 1) Try.underlying3 (fun i hi => hf i hi 1 _ rfl)
  obtain ⟨y, rfl, rfl, rfl, _⟩ := open_int Try.underlying3 (hval 1 _ v2 rfl rfl) h2
  obtain ⟨z, rfl, rfl, rfl, _⟩ := open_int Try.underlying3 (hval 2 _ v3 rfl rfl) h3
  exact body a n c V X0 X1 y z W hn hm hV (fun i hi => ⟨e0 i hi, (e1 i hi).1⟩)

set_option maxRecDepth 100000 in
theorem lifted (os : Os) (started : os.Started) (H : Type) (enc : TypeId × Value → H) :
    ReturnsInHanded {} Try.checked os 6 .any (Rows.neighReportsSpec.pre6 enc Try.prog Try.f6 Rows.neighReportsRow.domain false) (Rows.neighReportsSpec.post enc Try.prog Try.f6 false true false false) :=
  returnsInHanded_of_change (C := Try.checked) own started (by kernel_rfl) Try.func6
    (ChangeSpec.witness6 (enc := enc) (C := Try.checked) false ⟨#[], #[.slice none 0 0, .int .i64 0, .int .i64 0], []⟩ 8 (by kernel_rfl) (by kernel_rfl) (by kernel_rfl) (by kernel_rfl))
    fun W base args ds gs before hval hW _ _ => step_of_walk laidOut (by rw [Try.params6]; exact of_decide_eq_true (by kernel_rfl)) (by kernel_rfl) Try.underlying4 rfl
      (fun ds h => by
        rw [Try.params6] at h
        match ds, h with
        | [_, _, _], _ => rfl) (walk H enc) W base args ds gs before hval hW

theorem holds : Rows.NeighReportsSaid :=
  OpenClaim.holds_of_wide 6 Try.f6 rfl rfl rfl rfl rfl rfl rfl ⟨rfl, rfl, rfl, rfl, rfl⟩ rfl rfl rfl rfl rfl (by kernel_rfl) Try.func6 (by kernel_rfl)
    (of_decide_eq_true (by kernel_rfl)) (by unfold Func.isWrapper; first | (rw [if_pos (by decide +kernel)]; kernel_rfl) | (rw [if_neg (by decide +kernel)]; exact ⟨rfl, rfl⟩))
    (fun os started H enc _ => lifted os started H enc)
#print axioms holds
end Go.Proofs.Ytpapkcelgbnkaaa.NeighReports
