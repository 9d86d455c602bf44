/-
  Package slot's Decide and the reference's: what they answer.
-/
import Derived.Test.YtkmclgdefblbjaaSlotWalks
import Derived.Test.YtkmclgdefblbjaaCellMay
set_option maxRecDepth 100000
namespace Go.Proofs.Ytkmclgdefblbjaa.Sl
set_option linter.unusedVariables false
open Go.RowKit Lb Cl

theorem ofn_all (F : Nat → Int) (n : Nat) : (Array.ofFn (n := n) fun i => Value.int .i64 (F i)).all (·.oneCell') = true := by rw [Array.all_eq_true]; intro i hi; simp; rfl
theorem all7 (a b c d e f g : Int) : (#[.int .i64 a, .int .i64 b, .int .i64 c, .int .i64 d, .int .i64 e, .int .i64 f, .int .i64 g] : Array Value).all (·.oneCell') = true := by
  rw [Array.all_eq_true]
  intro i hi
  have hi7 : i < 7 := hi
  rcases (show i = 0 ∨ i = 1 ∨ i = 2 ∨ i = 3 ∨ i = 4 ∨ i = 5 ∨ i = 6 by omega) with rfl | rfl | rfl | rfl | rfl | rfl | rfl <;> rfl
set_option maxHeartbeats 2000000 in
theorem decide_any (a b : Option Addr) (n c m e : Nat) (L : Nat → C) (W : Nat → Int) (free : Bool) (w : World) (hn : n ≤ c) (hc : c ≤ maxLen) (hm : m ≤ e) (he : e ≤ maxLen) (hL : Row w a (n * 5) (cv L)) (hW : Row w b m (fun i => .int .i64 (W i))) :
    Calls Try.prog 7 #[.slice a n c, .slice b m e, .bool free] w fun r w' => r = .returned (.agg (dec L n W m free).vals) ∧ Below w.heap.size w w' := by
  have b0 := (Below.refl w.heap.size w).alloc (Nat.le_refl _) (.cells idle 28)
  have o0 := Own.new w 28 idle
  have z0 : w.heap.size < (w.alloc (.cells idle 28)).heap.size := by simp
  go_enter Try.func7, Try.ntmps7
  go_wp2_with fail
  obtain ⟨w1, hw1⟩ : ∃ w1, w1 = w.alloc (.cells idle 28) := ⟨_, rfl⟩
  rw [← hw1] at b0 o0 z0
  show Calls _ _ _ (w.alloc (.cells idle 28)) _
  rw [← hw1]
  refine (places_any b m e W _ hm he (hW.below b0)).mono ?_
  rintro r w2 ⟨rfl, b2⟩
  have hcap : (n : Int) ≤ 9223372036854775807 := by unfold maxLen at hc; omega
  obtain ⟨fs, hfs⟩ : ∃ fs : Array Value, fs = Array.ofFn (n := 17) fun i => .int .i64 (fst1 W m i) := ⟨_, rfl⟩
  have hf17 : fs.size = 17 := by rw [hfs]; simp
  have hall : fs.all (·.oneCell') = true := by rw [hfs]; exact ofn_all _ 17
  have k3 : Blk (w2.alloc (.cells fs 34)) w2.heap.size 34 17 (fun q => .int .i64 (fst1 W m q)) := by rw [hfs]; exact Own.new _ _ _
  have o3 := (below_own b2 o0 z0).alloc (.cells fs 34)
  have z3 : w.heap.size < w2.heap.size := Nat.lt_of_lt_of_le z0 b2.size
  have b3 := (b0.trans (b2.mono (Nat.le_of_lt z0))).alloc (Nat.le_of_lt z3) (.cells fs 34)
  have s3 : w2.heap.size < (w2.alloc (.cells fs 34)).heap.size := by simp
  rw [← hfs]
  clear hfs
  obtain ⟨g, hg⟩ : ∃ g, g = w2.heap.size := ⟨_, rfl⟩
  rw [← hg] at k3 z3 s3
  go_wp2_with (refine wpList_alloc_store (t := 34) (zs := (List.replicate 17 (.int .i64 0)).toArray) fs rfl rfl rfl rfl (by kernel_rfl) rfl rfl (by rw [hf17]; kernel_rfl) (by rw [hf17]; rfl) hall ?_)
  rw [← hg]
  generalize w2.alloc (.cells fs 34) = w3 at *
  clear hg hf17 hall b2 b0 o0 z0 hw1
  go_wp2_with fail
  have hz0 : least (sOK L W m free) 0 = none := rfl
  go_loopw [17] (fun i wr => ∃ k : Nat, i = .int .i64 k ∧ k ≤ n ∧ least (sOK L W m free) k = none ∧ Blk wr g 34 17 (fun q => .int .i64 (fst1 W m q)) ∧ Own wr w.heap.size 28 idle ∧ Below w.heap.size w wr ∧ g < wr.heap.size) (fun i _ => n - (intOf i).toNat)
  case atStart => exact ⟨0, rfl, by omega, hz0, k3, o3, b3, s3⟩
  case round =>
    clear k3 o3 b3 s3 hz0
    obtain ⟨k, rfl, hk, hl, kg, oo, bb, ss⟩ := hrel
    by_cases hlt : k < n
    · obtain ⟨ba, off, rfl, hba, c0, c1, c2, c3, c4⟩ := crow hL bb hlt
      obtain ⟨M, hM⟩ : ∃ M, mayC (L k).f (L k).s (L k).c (L k).o (L k).p = M := ⟨_, rfl⟩
      obtain ⟨G, hG⟩ : ∃ G, goB (L k).o free = G := ⟨_, rfl⟩
      have HM := Lib.hid hM
      have HG := Lib.hid hG
      have HS : Hid (sOK L W m free k = (M && G && (plc W m (L k).p).isSome)) := Lib.hid (by rw [← hM, ← hG]; rfl)
      have HL := Lib.hid hl
      clear hM hG hl
      go_wp2_with fail
      have ox := Own.new wr 26 #[.int .i64 (L k).f, .int .i64 (L k).s, .int .i64 (L k).c, .int .i64 (L k).o, .int .i64 (L k).p]
      have kx := kg.alloc (.cells #[.int .i64 (L k).f, .int .i64 (L k).s, .int .i64 (L k).c, .int .i64 (L k).o, .int .i64 (L k).p] 26)
      have o1 := oo.alloc (.cells #[.int .i64 (L k).f, .int .i64 (L k).s, .int .i64 (L k).c, .int .i64 (L k).o, .int .i64 (L k).p] 26)
      have bx := bb.alloc (Nat.le_trans (Nat.le_of_lt z3) (Nat.le_of_lt ss)) (.cells #[.int .i64 (L k).f, .int .i64 (L k).s, .int .i64 (L k).c, .int .i64 (L k).o, .int .i64 (L k).p] 26)
      have sx : wr.heap.size < (wr.alloc (.cells #[.int .i64 (L k).f, .int .i64 (L k).s, .int .i64 (L k).c, .int .i64 (L k).o, .int .i64 (L k).p] 26)).heap.size := by simp
      have zr : w.heap.size < wr.heap.size := Nat.lt_trans z3 ss
      generalize wr.alloc (.cells #[.int .i64 (L k).f, .int .i64 (L k).s, .int .i64 (L k).c, .int .i64 (L k).o, .int .i64 (L k).p] 26) = wx at *
      have x0 : wx.cell? ⟨wr.heap.size, 0, none⟩ = some (.int .i64 (L k).f) := ox.cell 0
      have x1 : wx.cell? ⟨wr.heap.size, 1, none⟩ = some (.int .i64 (L k).s) := ox.cell 1
      have x2 : wx.cell? ⟨wr.heap.size, 2, none⟩ = some (.int .i64 (L k).c) := ox.cell 2
      have x3 : wx.cell? ⟨wr.heap.size, 3, none⟩ = some (.int .i64 (L k).o) := ox.cell 3
      have x4 : wx.cell? ⟨wr.heap.size, 4, none⟩ = some (.int .i64 (L k).p) := ox.cell 4
      clear c0 c1 c2 c3 c4 kg oo bb
      obtain ⟨r, hr⟩ : ∃ r, r = wr.heap.size := ⟨_, rfl⟩
      rw [← hr] at ox sx zr x0 x1 x2 x3 x4 ⊢
      have hgr : g < r := by omega
      clear hr
      refine (may_any _ _ _ _ _ _).mono ?_
      rintro q w4 ⟨rfl, b4⟩
      rw [HM.out]
      have o4 := below_own b4 o1 (by omega)
      have k4 := below_blk b4 kx (by omega)
      have ox4 := below_own b4 ox sx
      have bb4 := bx.trans (b4.mono (by omega))
      have s4 : r < w4.heap.size := Nat.lt_of_lt_of_le sx b4.size
      have y0 : w4.cell? ⟨r, 0, none⟩ = some (.int .i64 (L k).f) := ox4.cell 0
      have y1 : w4.cell? ⟨r, 1, none⟩ = some (.int .i64 (L k).s) := ox4.cell 1
      have y2 : w4.cell? ⟨r, 2, none⟩ = some (.int .i64 (L k).c) := ox4.cell 2
      have y3 : w4.cell? ⟨r, 3, none⟩ = some (.int .i64 (L k).o) := ox4.cell 3
      have y4 : w4.cell? ⟨r, 4, none⟩ = some (.int .i64 (L k).p) := ox4.cell 4
      clear x0 x1 x2 x3 x4 bx o1 kx ox b4 sx
      cases M
      · have hl2 := Lib.hid (least_no HL.out HS.out)
        go_wp2_with fail
        exact ⟨⟨k + 1, by simp [intOf], by omega, hl2.out, k4, o4, bb4, by omega⟩, by simp [intOf]; omega⟩
      · go_wp2_with fail
        refine (mayGo_any (L k) free _).mono ?_
        rintro q w5 ⟨rfl, b5⟩
        rw [HG.out]
        have o5 := below_own b5 o4 (by omega)
        have k5 := below_blk b5 k4 (by omega)
        have ox5 := below_own b5 ox4 s4
        have bb5 := bb4.trans (b5.mono (by omega))
        have s5 : r < w5.heap.size := Nat.lt_of_lt_of_le s4 b5.size
        have u0 : w5.cell? ⟨r, 0, none⟩ = some (.int .i64 (L k).f) := ox5.cell 0
        have u1 : w5.cell? ⟨r, 1, none⟩ = some (.int .i64 (L k).s) := ox5.cell 1
        have u2 : w5.cell? ⟨r, 2, none⟩ = some (.int .i64 (L k).c) := ox5.cell 2
        have u3 : w5.cell? ⟨r, 3, none⟩ = some (.int .i64 (L k).o) := ox5.cell 3
        have u4 : w5.cell? ⟨r, 4, none⟩ = some (.int .i64 (L k).p) := ox5.cell 4
        clear y0 y1 y2 y3 y4 bb4 o4 k4 ox4 b5 s4
        cases G
        · have hl2 := Lib.hid (least_no HL.out HS.out)
          go_wp2_with fail
          exact ⟨⟨k + 1, by simp [intOf], by omega, hl2.out, k5, o5, bb5, by omega⟩, by simp [intOf]; omega⟩
        · have hpe : peB (L k).p = true := by
            have := HM.out
            unfold mayC at this
            simp only [Bool.and_eq_true] at this
            exact this.1.2
          obtain ⟨q, hq, hq17, hmin⟩ : ∃ q : Nat, (min (L k).p 16).toNat = q ∧ q < 17 ∧ min (L k).p 16 = (q : Int) := by
            unfold peB at hpe
            simp only [decide_eq_true_eq] at hpe
            exact ⟨_, rfl, by omega, by omega⟩
          have cq := k5.cell hq17
          have hP := Lib.hid (fst1_plc (W := W) (m := m) hpe)
          rw [hq] at hP
          have hpm : (L k).p ≤ 16 ∨ 16 < (L k).p := by omega
          clear hpe hq
          rcases hP.out with ⟨i, hi, him, hv⟩ | ⟨hi, hv⟩
          · rw [hv] at cq
            have hne : ((i : Int) == -1) = false := by simp
            have HI := Lib.hid hi
            clear hi hv hP
            have hD : (dec L n W m free).vals = #[.int .i64 1, .int .i64 (L k).f, .int .i64 (L k).s, .int .i64 (L k).c, .int .i64 (L k).o, .int .i64 (L k).p, .int .i64 (i : Int)] := by
              have h1 : sOK L W m free k = true := by rw [HS.out, HI.out]; rfl
              unfold dec
              rw [least_yes HL.out h1 hlt]
              dsimp only
              rw [HI.out]
              rfl
            have HD := Lib.hid hD
            clear hD
            go_wp2_with (refine wpList_store_row rfl 28 _ _ rfl w.heap.size #[.int .i64 1, .int .i64 (L k).f, .int .i64 (L k).s, .int .i64 (L k).c, .int .i64 (L k).o, .int .i64 (L k).p, .int .i64 (i : Int)] rfl rfl 28 idle o5 (by kernel_rfl) rfl (all7 _ _ _ _ _ _ _) ?_)
            go_wp2_with fail
            refine bodyPost_ret (results_cell_row rfl _ _ w.heap.size 28 #[.int .i64 1, .int .i64 (L k).f, .int .i64 (L k).s, .int .i64 (L k).c, .int .i64 (L k).o, .int .i64 (L k).p, .int .i64 (i : Int)] (0, 0) _ rfl (o5.setRow _) Try.underlying28 rfl (by kernel_rfl)) rfl ⟨by rw [HD.out], (Just.setRow _ _ _).below bb5 (Nat.le_refl _) bb5.size⟩
          · have h1 : sOK L W m free k = false := by rw [HS.out, hi]; rfl
            rw [hv] at cq
            have hl2 := Lib.hid (least_no HL.out h1)
            clear hi hv hP h1
            go_wp2_with fail
            exact ⟨⟨k + 1, by simp [intOf], by omega, hl2.out, k5, o5, bb5, by omega⟩, by simp [intOf]; omega⟩
    · obtain rfl : n = k := by omega
      have HL := Lib.hid hl
      clear hl kg ss hk hlt
      have hz0 : Hid (least (lOK L) 0 = none) := Lib.hid rfl
      go_wp2_with fail
      go_loopw [43] (fun i w2 => ∃ k : Nat, i = .int .i64 k ∧ k ≤ n ∧ Hid (least (lOK L) k = none) ∧ Own w2 w.heap.size 28 idle ∧ Below w.heap.size w w2 ∧ w.heap.size < w2.heap.size) (fun i _ => n - (intOf i).toNat)
      case atStart => exact ⟨0, rfl, by omega, hz0, oo, bb, oo.lt⟩
      case round =>
        clear oo bb hz0
        obtain ⟨k, rfl, hk, hl2, oo, bb, ss⟩ := hrel
        by_cases hlt : k < n
        · obtain ⟨ba, off, rfl, hba, c0, c1, c2, c3, c4⟩ := crow hL bb hlt
          obtain ⟨M, hM⟩ : ∃ M, mayC (L k).f (L k).s (L k).c (L k).o (L k).p = M := ⟨_, rfl⟩
          obtain ⟨R, hR⟩ : ∃ R, (bits .and .i64 (L k).o 2 != 0) = R := ⟨_, rfl⟩
          have HM := Lib.hid hM
          have HS : Hid (lOK L k = (M && R)) := Lib.hid (by rw [← hM, ← hR]; rfl)
          clear hM
          go_wp2_with fail
          have ox := Own.new wr 26 #[.int .i64 (L k).f, .int .i64 (L k).s, .int .i64 (L k).c, .int .i64 (L k).o, .int .i64 (L k).p]
          have o1 := oo.alloc (.cells #[.int .i64 (L k).f, .int .i64 (L k).s, .int .i64 (L k).c, .int .i64 (L k).o, .int .i64 (L k).p] 26)
          have bx := bb.alloc (Nat.le_of_lt ss) (.cells #[.int .i64 (L k).f, .int .i64 (L k).s, .int .i64 (L k).c, .int .i64 (L k).o, .int .i64 (L k).p] 26)
          have sx : wr.heap.size < (wr.alloc (.cells #[.int .i64 (L k).f, .int .i64 (L k).s, .int .i64 (L k).c, .int .i64 (L k).o, .int .i64 (L k).p] 26)).heap.size := by simp
          generalize wr.alloc (.cells #[.int .i64 (L k).f, .int .i64 (L k).s, .int .i64 (L k).c, .int .i64 (L k).o, .int .i64 (L k).p] 26) = wx at *
          have x0 : wx.cell? ⟨wr.heap.size, 0, none⟩ = some (.int .i64 (L k).f) := ox.cell 0
          have x1 : wx.cell? ⟨wr.heap.size, 1, none⟩ = some (.int .i64 (L k).s) := ox.cell 1
          have x2 : wx.cell? ⟨wr.heap.size, 2, none⟩ = some (.int .i64 (L k).c) := ox.cell 2
          have x3 : wx.cell? ⟨wr.heap.size, 3, none⟩ = some (.int .i64 (L k).o) := ox.cell 3
          have x4 : wx.cell? ⟨wr.heap.size, 4, none⟩ = some (.int .i64 (L k).p) := ox.cell 4
          clear c0 c1 c2 c3 c4 oo bb
          obtain ⟨r, hr⟩ : ∃ r, r = wr.heap.size := ⟨_, rfl⟩
          rw [← hr] at ox sx ss x0 x1 x2 x3 x4 ⊢
          clear hr
          refine (may_any _ _ _ _ _ _).mono ?_
          rintro q w4 ⟨rfl, b4⟩
          rw [HM.out]
          have o4 := below_own b4 o1 (by omega)
          have ox4 := below_own b4 ox sx
          have bb4 := bx.trans (b4.mono (by omega))
          have s4 : r < w4.heap.size := Nat.lt_of_lt_of_le sx b4.size
          have y0 : w4.cell? ⟨r, 0, none⟩ = some (.int .i64 (L k).f) := ox4.cell 0
          have y1 : w4.cell? ⟨r, 1, none⟩ = some (.int .i64 (L k).s) := ox4.cell 1
          have y2 : w4.cell? ⟨r, 2, none⟩ = some (.int .i64 (L k).c) := ox4.cell 2
          have y3 : w4.cell? ⟨r, 3, none⟩ = some (.int .i64 (L k).o) := ox4.cell 3
          have y4 : w4.cell? ⟨r, 4, none⟩ = some (.int .i64 (L k).p) := ox4.cell 4
          clear x0 x1 x2 x3 x4 bx o1 ox b4 sx
          cases M
          · have hl3 := Lib.hid (least_no hl2.out HS.out)
            go_wp2_with fail
            exact ⟨⟨k + 1, by simp [intOf], by omega, hl3, o4, bb4, by omega⟩, by simp [intOf]; omega⟩
          · cases R
            · have hl3 := Lib.hid (least_no hl2.out HS.out)
              go_wp2_with fail
              exact ⟨⟨k + 1, by simp [intOf], by omega, hl3, o4, bb4, by omega⟩, by simp [intOf]; omega⟩
            · have HD : Hid ((dec L n W m free).vals = #[.int .i64 2, .int .i64 (L k).f, .int .i64 (L k).s, .int .i64 (L k).c, .int .i64 (L k).o, .int .i64 (L k).p, .int .i64 0]) := Lib.hid (by
                unfold dec
                rw [HL.out, least_yes hl2.out HS.out hlt]
                rfl)
              go_wp2_with (refine wpList_store_row rfl 28 _ _ rfl w.heap.size #[.int .i64 2, .int .i64 (L k).f, .int .i64 (L k).s, .int .i64 (L k).c, .int .i64 (L k).o, .int .i64 (L k).p, .int .i64 0] rfl rfl 28 idle o4 (by kernel_rfl) rfl (all7 _ _ _ _ _ _ _) ?_)
              go_wp2_with fail
              refine bodyPost_ret (results_cell_row rfl _ _ w.heap.size 28 #[.int .i64 2, .int .i64 (L k).f, .int .i64 (L k).s, .int .i64 (L k).c, .int .i64 (L k).o, .int .i64 (L k).p, .int .i64 0] (0, 0) _ rfl (o4.setRow _) Try.underlying28 rfl (by kernel_rfl)) rfl ⟨by rw [HD.out], (Just.setRow _ _ _).below bb4 (Nat.le_refl _) bb4.size⟩
        · obtain rfl : n = k := by omega
          have HD : Hid ((dec L n W m free).vals = #[.int .i64 0, .int .i64 0, .int .i64 0, .int .i64 0, .int .i64 0, .int .i64 0, .int .i64 0]) := Lib.hid (by
            unfold dec
            rw [HL.out, hl2.out]
            rfl)
          clear hlt hk
          go_wp2_with (refine wpList_store_row rfl 28 _ _ rfl w.heap.size #[.int .i64 0, .int .i64 0, .int .i64 0, .int .i64 0, .int .i64 0, .int .i64 0, .int .i64 0] rfl rfl 28 idle oo (by kernel_rfl) rfl (all7 _ _ _ _ _ _ _) ?_)
          go_wp2_with fail
          refine bodyPost_ret (results_cell_row rfl _ _ w.heap.size 28 #[.int .i64 0, .int .i64 0, .int .i64 0, .int .i64 0, .int .i64 0, .int .i64 0, .int .i64 0] (0, 0) _ rfl (oo.setRow _) Try.underlying28 rfl (by kernel_rfl)) rfl ⟨by rw [HD.out], (Just.setRow _ _ _).below bb (Nat.le_refl _) bb.size⟩
end Go.Proofs.Ytkmclgdefblbjaa.Sl
