/-
  The reference's Decide: what it answers.
-/
import Derived.Test.YtkmclgdefblbjaaSlotDecide
set_option maxRecDepth 100000
namespace Go.Proofs.Ytkmclgdefblbjaa.Sl
set_option linter.unusedVariables false
open Go.RowKit Lb Cl

theorem dec_send {L : Nat → C} {n m k j : Nat} {W : Nat → Int} {free : Bool} (h : least (sOK L W m free) n = some k) (hp : plc W m (L k).p = some j) : (dec L n W m free).vals = #[.int .i64 1, .int .i64 (L k).f, .int .i64 (L k).s, .int .i64 (L k).c, .int .i64 (L k).o, .int .i64 (L k).p, .int .i64 (j : Int)] := by
  unfold dec
  rw [h]
  dsimp only
  rw [hp]
  rfl
set_option maxHeartbeats 4000000 in
theorem ref_decide (a b : Option Addr) (n c m e : Nat) (L : Nat → C) (W : Nat → Int) (free : Bool) (w : World) (hn : n ≤ c) (hc : c ≤ maxLen) (hm : m ≤ e) (he : e ≤ maxLen) (hL : Row w a (n * 5) (cv L)) (hW : Row w b m (fun i => .int .i64 (W i))) :
    Calls Try.prog 8 #[.slice a n c, .slice b m e, .bool free] w fun r w' => r = .returned (.agg (dec L n W m free).vals) ∧ Below w.heap.size w w' := by
  have b0 := (Below.refl w.heap.size w).alloc (Nat.le_refl _) (.cells idle 28)
  have o0 := Own.new w 28 idle
  have z0 : w.heap.size < (w.alloc (.cells idle 28)).heap.size := by simp
  have hcap : (n : Int) ≤ 9223372036854775807 := by unfold maxLen at hc; omega
  have hcap2 : (m : Int) ≤ 9223372036854775807 := by unfold maxLen at he; omega
  have hz1 : Hid (least (sOK L W m free) 0 = none) := Lib.hid rfl
  go_enter Try.func8, Try.ntmps8
  go_wp2_with fail
  obtain ⟨w1, hw1⟩ : ∃ w1, w1 = w.alloc (.cells idle 28) := ⟨_, rfl⟩
  have hw2 : w.alloc (.cells #[.int .i64 0, .int .i64 0, .int .i64 0, .int .i64 0, .int .i64 0, .int .i64 0, .int .i64 0] 28) = w1 := hw1.symm
  rw [← hw1] at b0 o0 z0
  rw [hw2]
  clear hw1 hw2
  go_loopw [15] (fun i wr => ∃ k : Nat, i = .int .i64 k ∧ k ≤ n ∧ Hid (least (sOK L W m free) k = none) ∧ Own wr w.heap.size 28 idle ∧ Below w.heap.size w wr ∧ w.heap.size < wr.heap.size) (fun i _ => n - (intOf i).toNat)
  case atStart => exact ⟨0, rfl, by omega, hz1, o0, b0, z0⟩
  case round =>
    clear o0 b0 z0 hz1
    obtain ⟨k, rfl, hk, HL, oo, bb, ss⟩ := hrel
    by_cases hlt : k < n
    · obtain ⟨ba, off, rfl, hba, c0, c1, c2, c3, c4⟩ := crow hL bb hlt
      obtain ⟨M, hM⟩ : ∃ M, mayC (L k).f (L k).s (L k).c (L k).o (L k).p = M := ⟨_, rfl⟩
      obtain ⟨X, hX⟩ : ∃ X, txB (L k).o = X := ⟨_, rfl⟩
      obtain ⟨S, hS⟩ : ∃ S, shB (L k).o = S := ⟨_, rfl⟩
      have HM := Lib.hid hM
      have HS : Hid (sOK L W m free k = (M && (X && (free || !S)) && (plc W m (L k).p).isSome)) := Lib.hid (by rw [← hM, ← hX, ← hS]; rfl)
      have hx := (tx_is _ _ hX).2
      have hs : (bits .and .i64 (L k).o 4 != 0) = S := hS
      clear hM hX hS
      go_wp2_with fail
      have ox := Own.new wr 26 #[.int .i64 (L k).f, .int .i64 (L k).s, .int .i64 (L k).c, .int .i64 (L k).o, .int .i64 (L k).p]
      have o1 := oo.alloc (.cells #[.int .i64 (L k).f, .int .i64 (L k).s, .int .i64 (L k).c, .int .i64 (L k).o, .int .i64 (L k).p] 26)
      have bx := bb.alloc (Nat.le_of_lt ss) (.cells #[.int .i64 (L k).f, .int .i64 (L k).s, .int .i64 (L k).c, .int .i64 (L k).o, .int .i64 (L k).p] 26)
      have sx : wr.heap.size < (wr.alloc (.cells #[.int .i64 (L k).f, .int .i64 (L k).s, .int .i64 (L k).c, .int .i64 (L k).o, .int .i64 (L k).p] 26)).heap.size := by simp
      generalize wr.alloc (.cells #[.int .i64 (L k).f, .int .i64 (L k).s, .int .i64 (L k).c, .int .i64 (L k).o, .int .i64 (L k).p] 26) = wx at *
      have x0 : wx.cell? ⟨wr.heap.size, 0, none⟩ = some (.int .i64 (L k).f) := ox.cell 0
      have x1 : wx.cell? ⟨wr.heap.size, 1, none⟩ = some (.int .i64 (L k).s) := ox.cell 1
      have x2 : wx.cell? ⟨wr.heap.size, 2, none⟩ = some (.int .i64 (L k).c) := ox.cell 2
      have x3 : wx.cell? ⟨wr.heap.size, 3, none⟩ = some (.int .i64 (L k).o) := ox.cell 3
      have x4 : wx.cell? ⟨wr.heap.size, 4, none⟩ = some (.int .i64 (L k).p) := ox.cell 4
      clear c0 c1 c2 c3 c4 oo bb
      obtain ⟨r, hr⟩ : ∃ r, r = wr.heap.size := ⟨_, rfl⟩
      rw [← hr] at ox sx ss x0 x1 x2 x3 x4 ⊢
      clear hr
      refine (ref_may _ _ _ _ _ _).mono ?_
      rintro q w4 ⟨rfl, b4⟩
      rw [HM.out]
      have o4 := below_own b4 o1 (by omega)
      have ox4 := below_own b4 ox sx
      have bb4 := bx.trans (b4.mono (by omega))
      have s4 : r < w4.heap.size := Nat.lt_of_lt_of_le sx b4.size
      have y0 : w4.cell? ⟨r, 0, none⟩ = some (.int .i64 (L k).f) := ox4.cell 0
      have y1 : w4.cell? ⟨r, 1, none⟩ = some (.int .i64 (L k).s) := ox4.cell 1
      have y2 : w4.cell? ⟨r, 2, none⟩ = some (.int .i64 (L k).c) := ox4.cell 2
      have y3 : w4.cell? ⟨r, 3, none⟩ = some (.int .i64 (L k).o) := ox4.cell 3
      have y4 : w4.cell? ⟨r, 4, none⟩ = some (.int .i64 (L k).p) := ox4.cell 4
      clear x0 x1 x2 x3 x4 bx o1 ox b4 sx

      rcases (show M = false ∨ (M = true ∧ X = false) ∨ (M = true ∧ X = true ∧ S = true ∧ free = false) ∨ (M = true ∧ X = true ∧ S = false ∧ free = false) ∨ (M = true ∧ X = true ∧ S = false ∧ free = true) ∨ (M = true ∧ X = true ∧ S = true ∧ free = true) by
        cases M <;> cases X <;> cases S <;> cases free <;> simp) with rfl | ⟨rfl, rfl⟩ | ⟨rfl, rfl, rfl, rfl⟩ | ⟨rfl, rfl, rfl, rfl⟩ | ⟨rfl, rfl, rfl, rfl⟩ | ⟨rfl, rfl, rfl, rfl⟩
      iterate 3
        · have hl2 := Lib.hid (least_no HL.out HS.out)
          go_wp2_with fail
          exact ⟨⟨k + 1, by simp [intOf], by omega, hl2, o4, bb4, by omega⟩, by simp [intOf]; omega⟩
      all_goals
        have hzj : Hid (least (fun i => (L k).p == 64 || (L k).p == W i) 0 = none) := Lib.hid rfl
        go_wp2_with fail
        clear hx hs
        go_loopw [40] (fun i w5 => ∃ j : Nat, i = .int .i64 j ∧ j ≤ m ∧ Hid (least (fun i => (L k).p == 64 || (L k).p == W i) j = none) ∧ Own w5 w.heap.size 28 idle ∧ Own w5 r 26 #[.int .i64 (L k).f, .int .i64 (L k).s, .int .i64 (L k).c, .int .i64 (L k).o, .int .i64 (L k).p] ∧ Below w.heap.size w w5 ∧ r < w5.heap.size) (fun i _ => m - (intOf i).toNat)
        case atStart => exact ⟨0, rfl, by omega, hzj, o4, ox4, bb4, s4⟩
        case round =>
          clear hzj o4 ox4 bb4 s4 y0 y1 y2 y3 y4
          obtain ⟨j, rfl, hj, hlj, o5, ox5, bb5, s5⟩ := hrel
          by_cases hjt : j < m
          · obtain ⟨bw, offw, rfl, hbw, cw⟩ := hW.at_old bb5 hjt
            have y0 : wr.cell? ⟨r, 0, none⟩ = some (.int .i64 (L k).f) := ox5.cell 0
            have y1 : wr.cell? ⟨r, 1, none⟩ = some (.int .i64 (L k).s) := ox5.cell 1
            have y2 : wr.cell? ⟨r, 2, none⟩ = some (.int .i64 (L k).c) := ox5.cell 2
            have y3 : wr.cell? ⟨r, 3, none⟩ = some (.int .i64 (L k).o) := ox5.cell 3
            have y4 : wr.cell? ⟨r, 4, none⟩ = some (.int .i64 (L k).p) := ox5.cell 4
            by_cases hh : ((L k).p == 64 || (L k).p == W j) = true
            · have hp : plc W m (L k).p = some j := least_yes hlj.out hh hjt
              have HD := Lib.hid (dec_send (least_yes HL.out (HS.out.trans (by rw [hp]; rfl)) hlt) hp)
              clear hp
              rcases (show ((L k).p == 64) = true ∨ (((L k).p == 64) = false ∧ ((L k).p == W j) = true) by
                revert hh
                cases ((L k).p == 64) <;> cases ((L k).p == W j) <;> simp) with h64 | ⟨h64, hWj⟩
              all_goals
                clear hh
                go_wp2_with (refine wpList_store_row rfl 28 _ _ rfl w.heap.size #[.int .i64 1, .int .i64 (L k).f, .int .i64 (L k).s, .int .i64 (L k).c, .int .i64 (L k).o, .int .i64 (L k).p, .int .i64 (j : Int)] rfl rfl 28 idle o5 (by kernel_rfl) rfl (all7 _ _ _ _ _ _ _) ?_)
                go_wp2_with fail
                refine bodyPost_ret (results_cell_row rfl _ _ w.heap.size 28 #[.int .i64 1, .int .i64 (L k).f, .int .i64 (L k).s, .int .i64 (L k).c, .int .i64 (L k).o, .int .i64 (L k).p, .int .i64 (j : Int)] (0, 0) _ rfl (o5.setRow _) Try.underlying28 rfl (by kernel_rfl)) rfl ⟨by rw [HD.out], (Just.setRow _ _ _).below bb5 (Nat.le_refl _) bb5.size⟩
            · have h64 : ((L k).p == 64) = false := by
                revert hh
                cases ((L k).p == 64) <;> simp
              have hWj : ((L k).p == W j) = false := by
                revert hh
                cases ((L k).p == 64) <;> cases ((L k).p == W j) <;> simp
              have hl2 := Lib.hid (least_no hlj.out (Bool.eq_false_iff.2 hh))
              clear hh
              go_wp2_with fail
              exact ⟨⟨j + 1, by simp [intOf], by omega, hl2, o5, ox5, bb5, s5⟩, by simp [intOf]; omega⟩
          · obtain rfl : m = j := by omega
            have hp : plc W m (L k).p = none := hlj.out
            have hl2 := Lib.hid (least_no HL.out (HS.out.trans (by rw [hp]; rfl)))
            clear hp hjt hj
            go_wp2_with fail
            exact ⟨⟨k + 1, by simp [intOf], by omega, hl2, o5, bb5, by omega⟩, by simp [intOf]; omega⟩
    · obtain rfl : n = k := by omega
      have hz0 : Hid (least (lOK L) 0 = none) := Lib.hid rfl
      clear ss hk hlt
      go_wp2_with fail
      go_loopw [61] (fun i w2 => ∃ k : Nat, i = .int .i64 k ∧ k ≤ n ∧ Hid (least (lOK L) k = none) ∧ Own w2 w.heap.size 28 idle ∧ Below w.heap.size w w2 ∧ w.heap.size < w2.heap.size) (fun i _ => n - (intOf i).toNat)
      case atStart => exact ⟨0, rfl, by omega, hz0, oo, bb, oo.lt⟩
      case round =>
        clear oo bb hz0
        obtain ⟨k, rfl, hk, hl2, oo, bb, ss⟩ := hrel
        by_cases hlt : k < n
        · obtain ⟨ba, off, rfl, hba, c0, c1, c2, c3, c4⟩ := crow hL bb hlt
          obtain ⟨M, hM⟩ : ∃ M, mayC (L k).f (L k).s (L k).c (L k).o (L k).p = M := ⟨_, rfl⟩
          obtain ⟨R, hR⟩ : ∃ R, (bits .and .i64 (L k).o 2 != 0) = R := ⟨_, rfl⟩
          have HM := Lib.hid hM
          have HS : Hid (lOK L k = (M && R)) := Lib.hid (by rw [← hM, ← hR]; rfl)
          clear hM
          go_wp2_with fail
          have ox := Own.new wr 26 #[.int .i64 (L k).f, .int .i64 (L k).s, .int .i64 (L k).c, .int .i64 (L k).o, .int .i64 (L k).p]
          have o1 := oo.alloc (.cells #[.int .i64 (L k).f, .int .i64 (L k).s, .int .i64 (L k).c, .int .i64 (L k).o, .int .i64 (L k).p] 26)
          have bx := bb.alloc (Nat.le_of_lt ss) (.cells #[.int .i64 (L k).f, .int .i64 (L k).s, .int .i64 (L k).c, .int .i64 (L k).o, .int .i64 (L k).p] 26)
          have sx : wr.heap.size < (wr.alloc (.cells #[.int .i64 (L k).f, .int .i64 (L k).s, .int .i64 (L k).c, .int .i64 (L k).o, .int .i64 (L k).p] 26)).heap.size := by simp
          generalize wr.alloc (.cells #[.int .i64 (L k).f, .int .i64 (L k).s, .int .i64 (L k).c, .int .i64 (L k).o, .int .i64 (L k).p] 26) = wx at *
          have x0 : wx.cell? ⟨wr.heap.size, 0, none⟩ = some (.int .i64 (L k).f) := ox.cell 0
          have x1 : wx.cell? ⟨wr.heap.size, 1, none⟩ = some (.int .i64 (L k).s) := ox.cell 1
          have x2 : wx.cell? ⟨wr.heap.size, 2, none⟩ = some (.int .i64 (L k).c) := ox.cell 2
          have x3 : wx.cell? ⟨wr.heap.size, 3, none⟩ = some (.int .i64 (L k).o) := ox.cell 3
          have x4 : wx.cell? ⟨wr.heap.size, 4, none⟩ = some (.int .i64 (L k).p) := ox.cell 4
          clear c0 c1 c2 c3 c4 oo bb
          obtain ⟨r, hr⟩ : ∃ r, r = wr.heap.size := ⟨_, rfl⟩
          rw [← hr] at ox sx ss x0 x1 x2 x3 x4 ⊢
          clear hr
          refine (ref_may _ _ _ _ _ _).mono ?_
          rintro q w4 ⟨rfl, b4⟩
          rw [HM.out]
          have o4 := below_own b4 o1 (by omega)
          have ox4 := below_own b4 ox sx
          have bb4 := bx.trans (b4.mono (by omega))
          have s4 : r < w4.heap.size := Nat.lt_of_lt_of_le sx b4.size
          have y0 : w4.cell? ⟨r, 0, none⟩ = some (.int .i64 (L k).f) := ox4.cell 0
          have y1 : w4.cell? ⟨r, 1, none⟩ = some (.int .i64 (L k).s) := ox4.cell 1
          have y2 : w4.cell? ⟨r, 2, none⟩ = some (.int .i64 (L k).c) := ox4.cell 2
          have y3 : w4.cell? ⟨r, 3, none⟩ = some (.int .i64 (L k).o) := ox4.cell 3
          have y4 : w4.cell? ⟨r, 4, none⟩ = some (.int .i64 (L k).p) := ox4.cell 4
          clear x0 x1 x2 x3 x4 bx o1 ox b4 sx
          cases M
          · have hl3 := Lib.hid (least_no hl2.out HS.out)
            go_wp2_with fail
            exact ⟨⟨k + 1, by simp [intOf], by omega, hl3, o4, bb4, by omega⟩, by simp [intOf]; omega⟩
          · cases R
            · have hl3 := Lib.hid (least_no hl2.out HS.out)
              go_wp2_with fail
              exact ⟨⟨k + 1, by simp [intOf], by omega, hl3, o4, bb4, by omega⟩, by simp [intOf]; omega⟩
            · have HD : Hid ((dec L n W m free).vals = #[.int .i64 2, .int .i64 (L k).f, .int .i64 (L k).s, .int .i64 (L k).c, .int .i64 (L k).o, .int .i64 (L k).p, .int .i64 0]) := Lib.hid (by
                unfold dec
                rw [HL.out, least_yes hl2.out HS.out hlt]
                rfl)
              go_wp2_with (refine wpList_store_row rfl 28 _ _ rfl w.heap.size #[.int .i64 2, .int .i64 (L k).f, .int .i64 (L k).s, .int .i64 (L k).c, .int .i64 (L k).o, .int .i64 (L k).p, .int .i64 0] rfl rfl 28 idle o4 (by kernel_rfl) rfl (all7 _ _ _ _ _ _ _) ?_)
              go_wp2_with fail
              refine bodyPost_ret (results_cell_row rfl _ _ w.heap.size 28 #[.int .i64 2, .int .i64 (L k).f, .int .i64 (L k).s, .int .i64 (L k).c, .int .i64 (L k).o, .int .i64 (L k).p, .int .i64 0] (0, 0) _ rfl (o4.setRow _) Try.underlying28 rfl (by kernel_rfl)) rfl ⟨by rw [HD.out], (Just.setRow _ _ _).below bb4 (Nat.le_refl _) bb4.size⟩
        · obtain rfl : n = k := by omega
          have HD : Hid ((dec L n W m free).vals = #[.int .i64 0, .int .i64 0, .int .i64 0, .int .i64 0, .int .i64 0, .int .i64 0, .int .i64 0]) := Lib.hid (by
            unfold dec
            rw [HL.out, hl2.out]
            rfl)
          clear hlt hk
          go_wp2_with (refine wpList_store_row rfl 28 _ _ rfl w.heap.size #[.int .i64 0, .int .i64 0, .int .i64 0, .int .i64 0, .int .i64 0, .int .i64 0, .int .i64 0] rfl rfl 28 idle oo (by kernel_rfl) rfl (all7 _ _ _ _ _ _ _) ?_)
          go_wp2_with fail
          refine bodyPost_ret (results_cell_row rfl _ _ w.heap.size 28 #[.int .i64 0, .int .i64 0, .int .i64 0, .int .i64 0, .int .i64 0, .int .i64 0, .int .i64 0] (0, 0) _ rfl (oo.setRow _) Try.underlying28 rfl (by kernel_rfl)) rfl ⟨by rw [HD.out], (Just.setRow _ _ _).below bb (Nat.le_refl _) bb.size⟩
end Go.Proofs.Ytkmclgdefblbjaa.Sl
