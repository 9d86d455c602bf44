/-
  Graphs that are made of calls: package topo's and the reference's are the same.
-/
import Derived.Test.YtahcplddonipcaaGreatTopoLaws
import Derived.Deep.RegionHeld3
set_option maxRecDepth 100000
namespace Go.Proofs.YtahcplddonipcaaGreat.Tp
set_option linter.unusedVariables false
set_option linter.unusedSimpArgs false
open Go.RowKit Lb

set_option maxHeartbeats 4000000 in
theorem made_any (x : Int) (a : Option Addr) (n c : Nat) (V : Nat → Value) (C : Nat → Cl) (w : World) (hn : n ≤ c) (hc : c ≤ maxLen) (hV : Row w a (n * 3) V)
    (hC : ∀ i, i < n → V (i * 3) = .bool (C i).f ∧ V (i * 3 + 1) = .int .i64 (C i).me ∧ V (i * 3 + 2) = .slice (C i).a (C i).n (C i).c ∧ (C i).ok w) :
    Calls Tryz.prog 6 #[.int .i64 x, .slice a n c] w fun r w' => ∃ g1 g2 N Q, r = .returned (.tuple #[.pointer (some ⟨g1, 0, none⟩), .pointer (some ⟨g2, 0, none⟩), .int .i64 0]) ∧
      Gr w' g1 101 N Q ∧ Gr w' g2 87 N Q ∧ Fine N Q ∧ w.heap.size ≤ g1 ∧ g1 < g2 ∧ Below w.heap.size w w' := by
  have hcap : (n : Int) ≤ 9223372036854775807 := by unfold maxLen at hc; omega
  have HC := Lib.hid hC
  clear hC
  go_enter Tryz.func6, Tryz.ntmps6
  go_wp2_with fail
  refine (new_any x _).mono ?_
  rintro r w1 ⟨rfl, h1, b1, s1⟩
  go_wp2_with fail
  refine (rnew x _).mono ?_
  rintro r w2 ⟨rfl, h2, b2, s2⟩
  have h1 := below_blk b2 h1 s1
  have b2 := b1.trans (b2.mono (Nat.le_of_lt s1))
  have hF := Lib.hid (fine_new x)
  have z1 : w.heap.size ≤ w.heap.size := Nat.le_refl _
  have z2 : w.heap.size < w1.heap.size := s1
  generalize (min (max x 1) 16).toNat = N0 at *
  go_wp2_with fail
  clear b1 s1 s2
  go_loopw [17] (fun i wr => ∃ (k N : Nat) (Q : Nat → Nat → Int), i = .int .i64 k ∧ k ≤ n ∧ Hid (Fine N Q) ∧ Gr wr w.heap.size 101 N Q ∧ Gr wr w1.heap.size 87 N Q ∧ Below w.heap.size w wr) (fun i _ => n - (intOf i).toNat)
  case atStart => exact ⟨0, N0, _, rfl, by omega, hF, h1, h2, b2⟩
  case round =>
    clear hF h1 h2 b2
    obtain ⟨k, N, Q, rfl, hk, hF, h1, h2, bb⟩ := hrel
    have hN := hF.out.2.1
    by_cases hlt : k < n
    · obtain ⟨bo, off, rfl, hbo, hcs⟩ := hV.at_struct bb hlt (by decide)
      obtain ⟨e0, e1, e2, k1, k2, k3⟩ := HC.out k hlt
      have c0 := (hcs 0 (by decide)).trans (congrArg some e0)
      have c1 := (hcs 1 (by decide)).trans (congrArg some e1)
      have c2 := (hcs 2 (by decide)).trans (congrArg some e2)
      rw [Nat.add_zero] at c0
      clear hcs e0 e1 e2
      generalize C k = cl at *
      obtain ⟨f, me, la, ln', lc, L⟩ := cl
      dsimp only at *
      have hx1 : Gr (wr.alloc (.cells #[.bool f, .int .i64 me, .slice la ln' lc] 60)) w.heap.size 101 N Q := Blk.alloc h1 _
      have hx2 : Gr (wr.alloc (.cells #[.bool f, .int .i64 me, .slice la ln' lc] 60)) w1.heap.size 87 N Q := Blk.alloc h2 _
      have bx := bb.alloc bb.size (.cells #[.bool f, .int .i64 me, .slice la ln' lc] 60)
      have z3 : w1.heap.size < wr.heap.size := h2.lt
      by_cases h60 : 60 ≤ k
      · have e60 : decide ((60 : Int) ≤ (k : Int)) = true := by simp; omega
        clear h60
        go_wp2_with fail
        refine bodyPost_ret (results_tmp3 rfl _ _ _) rfl ?_
        exact ⟨w.heap.size, w1.heap.size, N, Q, rfl, hx1, hx2, hF.out, z1, z2, bx⟩
      · have e60 : decide ((60 : Int) ≤ (k : Int)) = false := by simp; omega
        clear h60
        by_cases hl60 : 60 < ln'
        · have e61 : decide ((60 : Int) < (ln' : Int)) = true := by simp; omega
          clear hl60
          go_wp2_with fail
          refine bodyPost_ret (results_tmp3 rfl _ _ _) rfl ?_
          exact ⟨w.heap.size, w1.heap.size, N, Q, rfl, hx1, hx2, hF.out, z1, z2, bx⟩
        · have e61 : decide ((60 : Int) < (ln' : Int)) = false := by simp; omega
          have hLx := k3.below bx
          have ox := Own.new wr 60 #[.bool f, .int .i64 me, .slice la ln' lc]
          have sx : wr.heap.size < (wr.alloc (.cells #[.bool f, .int .i64 me, .slice la ln' lc] 60)).heap.size := by simp
          clear hl60
          cases f
          · obtain ⟨er, her⟩ : ∃ er, repN N me L ln' = er := ⟨_, rfl⟩
            have HE := Lib.hid her
            have hF2 := Lib.hid (fine_rep hF.out me L ln')
            clear her
            go_wp2_with fail
            generalize hrr : wr.heap.size = r at *
            generalize wr.alloc (.cells #[.bool false, .int .i64 me, .slice la ln' lc] 60) = wx at *
            clear hrr c0 c1 c2 bb h1 h2
            have hG : Gr wx.drew w.heap.size 101 N Q := hx1
            have hR : Gr wx.drew w1.heap.size 87 N Q := hx2
            have hLd : Row wx.drew la (ln' * 3) (lv L) := k3.below (below_drewN bx 1)
            have oX : Own wx.drew r 60 #[.bool false, .int .i64 me, .slice la ln' lc] := ox
            have bX : Below w.heap.size w wx.drew := below_drewN bx 1
            have x1 : wx.cell? ⟨r, 1, none⟩ = some (.int .i64 me) := ox.cell 1
            have x2 : wx.cell? ⟨r, 2, none⟩ = some (.slice la ln' lc) := ox.cell 2
            clear ox hx1 hx2 hLx
            have xx : wx.drew.cell? ⟨r, 1, none⟩ = some (.int .i64 me) ∧ wx.drew.cell? ⟨r, 2, none⟩ = some (.slice la ln' lc) := ⟨x1, x2⟩
            go_region_held3 (fun w' => w'.cell? ⟨r, 1, none⟩ = some (.int .i64 me) ∧ w'.cell? ⟨r, 2, none⟩ = some (.slice la ln' lc)) (first | exact xx | exact yy | exact zz) (first
              | (go_at_call 21; refine (report_any w.heap.size 101 N Q me la ln' lc L _ ?_ hN k1 k2 ?_).mono ?_; (first | exact hG | exact hG2); (first | exact hLd | exact hLd2); rintro q w5 ⟨rfl, hG3, jG⟩; rw [HE.out]; (first | (have hR2 := jG.blk hR (by omega); have bX2 := jG.below bX (Nat.le_refl _) bX.size; have hLd2 := k3.below bX2; have oX2 := jG.own oX (by omega); have yy : w5.cell? ⟨r, 1, none⟩ = some (.int .i64 me) ∧ w5.cell? ⟨r, 2, none⟩ = some (.slice la ln' lc) := ⟨oX2.cell 1, oX2.cell 2⟩) | (have hR4 := jG.blk hR3 (by omega); have bX4 := jG.below bX2 (Nat.le_refl _) bX2.size; have oX4 := jG.own oX2 (by omega); have zz : w5.cell? ⟨r, 1, none⟩ = some (.int .i64 me) ∧ w5.cell? ⟨r, 2, none⟩ = some (.slice la ln' lc) := ⟨oX4.cell 1, oX4.cell 2⟩)))
              | (go_at_call 22; refine (rreport w1.heap.size 87 N Q me la ln' lc L _ ?_ hN k1 k2 ?_).mono ?_; (first | exact hR | exact hR2); (first | exact hLd | exact hLd2); rintro q w5 ⟨rfl, hR3, jR⟩; rw [HE.out]; (first | (have hG2 := jR.blk hG (by omega); have bX2 := jR.below bX (by omega) bX.size; have hLd2 := k3.below bX2; have oX2 := jR.own oX (by omega); have yy : w5.cell? ⟨r, 1, none⟩ = some (.int .i64 me) ∧ w5.cell? ⟨r, 2, none⟩ = some (.slice la ln' lc) := ⟨oX2.cell 1, oX2.cell 2⟩) | (have hG4 := jR.blk hG3 (by omega); have bX4 := jR.below bX2 (by omega) bX2.size; have oX4 := jR.own oX2 (by omega); have zz : w5.cell? ⟨r, 1, none⟩ = some (.int .i64 me) ∧ w5.cell? ⟨r, 2, none⟩ = some (.slice la ln' lc) := ⟨oX4.cell 1, oX4.cell 2⟩))))
            all_goals
              go_wp2_with fail
              first
                | exact ⟨⟨k + 1, N, _, by simp [intOf], by omega, hF2, hG4, hR3, bX4⟩, by simp [intOf]; omega⟩
                | exact ⟨⟨k + 1, N, _, by simp [intOf], by omega, hF2, hG3, hR4, bX4⟩, by simp [intOf]; omega⟩
          · go_wp2_with fail
            generalize hrr : wr.heap.size = r at *
            generalize wr.alloc (.cells #[.bool true, .int .i64 me, .slice la ln' lc] 60) = wx at *
            clear hrr c0 c1 c2 bb h1 h2
            refine (forget_any w.heap.size _ N Q me _ hx1 hN).mono ?_
            rintro q w4 ⟨rfl, h4, j4⟩
            have h5 := j4.blk hx2 (by omega)
            have o4 := j4.own ox (by omega)
            have b4 := j4.below bx z1 bx.size
            have y1 : w4.cell? ⟨r, 1, none⟩ = some (.int .i64 me) := o4.cell 1
            go_wp2_with fail
            refine (rforget w1.heap.size _ N Q me _ h5 hN).mono ?_
            rintro q w5 ⟨rfl, h6, j5⟩
            have h7 := j5.blk h4 (by omega)
            have b5 := j5.below b4 (by omega) b4.size
            have hF2 := Lib.hid (fine_gone hF.out me)
            go_wp2_with fail
            exact ⟨⟨k + 1, N, _, by simp [intOf], by omega, hF2, h7, h6, b5⟩, by simp [intOf]; omega⟩
    · obtain rfl : n = k := by omega
      go_wp2_with fail
      refine bodyPost_ret (results_tmp3 rfl _ _ _) rfl ?_
      exact ⟨w.heap.size, w1.heap.size, N, Q, rfl, h1, h2, hF.out, z1, z2, bb⟩
end Go.Proofs.YtahcplddonipcaaGreat.Tp
