/-
  Law TreePaths: a path is that of the first parent, and the node; by rank all are told, each once; the call returns true. No condition.
-/
import Derived.Test.YthdgnnjnkeljmaaTrPathM
import Derived.Test.YthdgnnjnkeljmaaTyGrow
import Derived.Test.YthdgnnjnkeljmaaRtDraw
import Derived.Test.YthdgnnjnkeljmaaVar
import Derived.Deep.CutRange
set_option maxRecDepth 100000
namespace Go.Proofs.Ythdgnnjnkeljmaa.TreePaths
set_option linter.unusedVariables false
open Go.RowKit Go.ChangeShapes Go.WideShapes Go.ChangeAt Go.Deep Lb Tp Tr
set_option linter.unusedVariables false
theorem own : ownKnob Try.prog.godebug = none := by kernel_rfl
theorem laidOut : laidOutB Try.prog = true := by kernel_rfl

theorem rowP_rl {v w' : World} {n c : Nat} {A : Option Addr} {l : List Nat} {z : Lb.Gw v} {b7 : RowKit.Below z.toW.heap.size z.toW w'} (h : Rl w' z.toW.heap.size A c l) (hn : l.length = n) : rowP v n (ln l) (.slice A l.length c) (z.to w' b7) := by
  subst hn
  refine ⟨A, c, rfl, h.le, h.cap, h.row, fun h0 p hp => ?_⟩
  have := h.lo h0 p.block
  obtain ⟨b, off, e, hb, _⟩ := h.row h0
  rw [hp] at e
  injection e with e
  subst e
  exact ⟨hb, fun q => by
    have h1 := h.lo h0 b (by rw [hp]; rfl)
    have h2 : b < z.toW.heap.size := q.1
    omega⟩
set_option maxHeartbeats 8000000 in
theorem body (x : Int) (a : Option Addr) (n c : Nat) (V : Nat → Value) (C : Nat → Cl) (least : Int) (w : World) (hn : n ≤ c) (hc : c ≤ maxLen) (hV : Row w a (n * 3) V)
    (hC : ∀ i, i < n → V (i * 3) = .bool (C i).f ∧ V (i * 3 + 1) = .int .i64 (C i).me ∧ V (i * 3 + 2) = .slice (C i).a (C i).n (C i).c ∧ (C i).ok w) :
    Calls Try.prog 7 #[.int .i64 x, .slice a n c, .int .i64 least] w fun r w' => r = .returned (.bool true) ∧ RowKit.Below w.heap.size w w' := by
  obtain ⟨i0, hi0, hi1, hi2, hi3⟩ := info_parts infoT
  go_enter Try.func7, Try.ntmps7
  go_wp2_with fail
  refine (made_any x a n c V C _ hn hc hV hC).mono ?_
  rintro r w1 ⟨g1, g2, N, Q, rfl, h1, _, hF0, z1, z2, b1⟩
  have hN := hF0.2.1
  have hN1 := hF0.1
  go_wp2_with fail
  refine (build_any g1 N Q least _ hF0 h1).mono ?_
  rintro r w2 ⟨t, R, rfl, ht, hT, hFI, hsm, b2⟩
  have b2' := b1.trans (b2.mono b1.size)
  have HGR : Hid (Grown N Q least R) := Lib.hid ⟨hF0, hFI, hsm⟩
  have HF := Lib.hid HGR.out.firsts
  have HSM := Lib.hid hsm
  have hroot := hFI.root
  have HRT := Lib.hid hroot
  have TT : ∀ W, RowKit.Below w2.heap.size w2 W → Tre W t R (parT N Q least R) := fun W hW => hT.below hW
  have b3 := (Below.refl w2.heap.size w2).alloc (Nat.le_refl _) (.cells (List.replicate 16 (Value.bool false)).toArray 44)
  have o3 : Blk (w2.alloc (.cells (List.replicate 16 (Value.bool false)).toArray 44)) w2.heap.size 44 16 (fun j => .bool (toldK R 0 j)) := (Blk.same (Own.new _ _ _) rfl).ext (fun i _ => by rw [toldK_zero])
  have hs3 : w2.heap.size < (w2.alloc (.cells (List.replicate 16 (Value.bool false)).toArray 44)).heap.size := by simp
  clear hF0 hFI hsm h1 b1 b2 hT z1 z2 hroot
  go_upto_region 5 with (fail)
  refine wp_zero_var (z := (List.replicate 16 (Value.bool false)).toArray) rfl rfl rfl rfl rfl rfl rfl (by kernel_rfl) (by kernel_rfl) (by kernel_rfl) (by kernel_rfl) (by kernel_rfl) ?_
  generalize w2.alloc (.cells (List.replicate 16 (Value.bool false)).toArray 44) = w3 at *
  obtain ⟨sb, hsb⟩ : ∃ sb, w2.heap.size = sb := ⟨_, rfl⟩
  have HSB := Lib.hid hsb
  rw [hsb] at b3 o3 hs3 TT ⊢
  have b4 : RowKit.Below w.heap.size w w3 := b2'.trans (b3.mono (by rw [← hsb]; exact b2'.size))
  have TT : ∀ W, RowKit.Below sb w3 W → Tre W t R (parT N Q least R) := fun W hW => TT W (b3.trans hW)
  have b2s := b2'.size
  clear hsb b3 b2'
  go_wp2_with fail
  refine (order_any t R _ _ (TT _ (Below.refl _ _)) HRT.out HSM.out).mono ?_
  rintro r w4 ⟨A4, c4, rfl, hl4, bq⟩
  have o4 := below_blk bq o3 hs3
  have b5 := b4.trans (bq.mono b4.size)
  have TT : ∀ W, RowKit.Below sb w4 W → Tre W t R (parT N Q least R) := fun W hW => TT W ((bq.mono (Nat.le_of_lt hs3)).trans hW)
  have hle4 := hl4.le
  have hcap4 := hl4.cap
  have hs4 : sb < w4.heap.size := Nat.lt_of_lt_of_le hs3 bq.size
  unfold maxLen at hcap4
  obtain ⟨M, hM⟩ : ∃ M, (ordT R).length = M := ⟨_, rfl⟩
  have HM := Lib.hid hM
  rw [hM] at hle4 ⊢
  have hM63 : (M : Int) ≤ 9223372036854775807 := by omega
  clear o3 b4 bq hM
  go_wp2_with fail
  go_loopw [12, 38] (fun la i wr => ∃ k : Nat, i = .int .i64 k ∧ la = .int .i64 (lastK R k) ∧ k ≤ M ∧ Just sb w4 wr ∧ Blk wr sb 44 16 (fun j => .bool (toldK R k j))) (fun _ i _ => M - (intOf i).toNat)
  case atStart => exact ⟨0, rfl, rfl, by omega, Just.refl _ _, o4⟩
  case round =>
    clear o4
    obtain ⟨k, rfl, rfl, hk, jj, oo⟩ := hrel
    have bb := jj.below (Below.refl sb w4) (Nat.le_refl _) (Nat.le_of_lt hs4)
    by_cases hlt : k < M
    · have hlt2 : k < (ordT R).length := by rw [HM.out]; exact hlt
      have hrow := (hl4.just jj hs3).row
      rw [HM.out] at hrow
      obtain ⟨bo, off, rfl, _, c0⟩ := hrow.at_ hlt
      unfold ln at c0
      obtain ⟨hx16, rx, hrx⟩ := ordT_at HSM.out hlt2
      have hnew := toldK_new R hlt2
      have hle := lastK_le (R := R) hlt2
      have hnx : lastK R (k + 1) = rkI R ((ordT R).getD k 0) := rfl
      have htn := fun x => toldK_next R hlt2 x
      obtain ⟨y, hy⟩ : ∃ y, (ordT R).getD k 0 = y := ⟨_, rfl⟩
      rw [hy] at c0 hx16 hrx hnew hle hnx
      simp only [hy] at htn
      have hrk : rkI R y = (rx : Int) := by unfold rkI; rw [hrx]; rfl
      rw [hrk] at hle hnx
      have HNX := Lib.hid hnx
      obtain ⟨la, hla⟩ : ∃ la, lastK R k = la := ⟨_, rfl⟩
      rw [hla] at hle ⊢
      have hr15 := HSM.out y rx hrx
      obtain ⟨e1, e2⟩ := hasT_some hx16 hrx
      have E1 := Lib.hid e1
      have E2 := Lib.hid e2
      have HRX := Lib.hid hrx
      have s0 : wr.cell? ⟨sb, y, none⟩ = some (.bool false) := by
        rw [Blk.cell oo hx16, hnew]
      have sf := Blk.free oo y
      have g1 : (y : Int) < 16 := by omega
      have g2 : decide (15 < (y : Int)) = false := by simp; omega
      have g2' : decide (15 < y) = false := by simp; omega
      have g3 : decide ((rx : Int) < la) = false := by simp; omega
      have o5 : Blk (wr.setCell ⟨sb, y, none⟩ (.bool true)) sb 44 16 (fun j => .bool (toldK R (k + 1) j)) := (oo.put y (.bool true)).ext (fun j _ => by
        rw [htn]
        by_cases h : j = y <;> simp [h])
      have j5 := jj.put y (.bool true)
      clear hla hnx hrk e1 e2 hnew htn hy hrow
      by_cases hy0 : y = 0
      · subst hy0
        have hrx0 : rx = 0 := by
          rw [HRT.out] at hrx
          injection hrx with h
          exact h.symm
        have HPA : Hid (pathsT R (parT N Q least R) ((0 : Nat) : Int) = [0]) := Lib.hid (by
          rw [hrx0] at hrx
          exact pathsT_nat (P := parT N Q least R) (by decide) hrx)
        clear hrx0
        go_wp2_with fail
        refine (rank_tre t R _ ((0 : Nat) : Int) _ (TT _ bb)).mono ?_
        rintro r3 w5 ⟨rfl, rfl⟩
        rw [E1.out, E2.out]
        go_wp2_with fail
        have bb5 := j5.below (Below.refl sb w4) (Nat.le_refl _) (Nat.le_of_lt hs4)
        have hsz : (wr.setCell ⟨sb, 0, none⟩ (.bool true)).heap.size = wr.heap.size := by simp
        clear oo bb s0 sf jj
        generalize wr.setCell ⟨sb, 0, none⟩ (.bool true) = w5 at *
        refine (path_any t R _ ((0 : Nat) : Int) _ (TT _ bb5) HF.out).mono ?_
        rintro r7 w7 ⟨A7, c7, rfl, hl7, b7⟩
        rw [HPA.out] at hl7 ⊢
        have r8 : Row (w7.alloc (.cells #[.int .i64 0] 3)) (some ⟨w7.heap.size, 0, none⟩) 1 (ln [0]) := row_new _ _ _ _ (fun i hi => by
          obtain rfl : i = 0 := by omega
          rfl)
        have b8 := (Below.refl w7.heap.size w7).alloc (Nat.le_refl _) (.cells #[.int .i64 0] 3)
        have hl8 := hl7.below b8
        have j8 := (j5.trans (Tp.just_of b7)).trans (Tp.just_of b8)
        have o8 := below_blk (b7.trans (b8.mono b7.size)) o5 o5.lt
        clear hl7 b7 b8 j5 o5 bb5
        go_wp2_with fail
        refine (same_ints A7 _ 1 c7 1 (ln [0]) (fun i => ((([0] : List Nat).getD i 0 : Nat) : Int)) _ rfl hl8.le (Nat.le_refl _) hl8.cap (by decide) hl8.row r8).mono ?_
        rintro r w' ⟨rfl, m, rfl⟩
        go_wp2_with fail
        exact ⟨⟨k + 1, by simp [intOf], by rw [HNX.out], by omega, j8.drewN m, o8.drewN m⟩, by simp [intOf]; omega⟩
      · obtain ⟨s, hs⟩ : ∃ s, rx = s + 1 := by
          rcases Nat.eq_zero_or_pos rx with e | e
          · subst e
            exact absurd (HGR.out.fin.only y hrx) hy0
          · exact ⟨rx - 1, by omega⟩
        subst hs
        obtain ⟨p, l, hp1, hp2, hp3⟩ := HF.out.first y s hrx
        have HPS : Hid (parsT R (parT N Q least R) (y : Int) = p :: l) := Lib.hid ((parsT_nat hx16 hrx).trans hp1)
        have HPN : Hid (pathsT R (parT N Q least R) (y : Int) = pathsT R (parT N Q least R) (p : Int) ++ [y]) := Lib.hid (path_snoc hx16 hp3 hrx hp2 hp1)
        have HPL : Hid ((pathsT R (parT N Q least R) (p : Int)).length = s + 1) := Lib.hid (path_len hp3 hp2)
        have y0 : ((y : Int) == 0) = false := by simp; omega
        have hcR : ((s + 1 : Nat) : Int) = (s : Int) + 1 := by omega
        have hl2 := par_len N Q least R y
        rw [hp1] at hl2
        obtain ⟨m, hm⟩ : ∃ m, (p :: l).length = m := ⟨_, rfl⟩
        have hm0 : 0 < m := by rw [← hm]; simp
        rw [hm] at hl2
        have HMM := Lib.hid hm
        clear hp1 hm
        go_wp2_with fail
        refine (rank_tre t R _ y _ (TT _ bb)).mono ?_
        rintro r3 w5 ⟨rfl, rfl⟩
        rw [E1.out, E2.out]
        go_wp2_with fail
        have bb5 := j5.below (Below.refl sb w4) (Nat.le_refl _) (Nat.le_of_lt hs4)
        clear oo bb s0 sf jj
        generalize wr.setCell ⟨sb, y, none⟩ (.bool true) = w5 at *
        refine (parents_any t R _ y _ (TT _ bb5) (fun z => Nat.le_trans (par_len N Q least R z) (by decide))).mono ?_
        rintro r6 w6 ⟨A6, c6, rfl, hl6, b6⟩
        rw [HPS.out] at hl6 ⊢
        have hrow6 := hl6.row
        have hle6 := hl6.le
        have hcap6 := hl6.cap
        unfold maxLen at hcap6
        rw [HMM.out] at hrow6 hle6 ⊢
        obtain ⟨b6o, off6, rfl, _, d0⟩ := hrow6.at_ hm0
        have d0 : w6.cell? ⟨b6o, off6, none⟩ = some (.int .i64 (p : Int)) := d0
        have j6 := j5.trans (Tp.just_of b6)
        have o6 := below_blk b6 o5 o5.lt
        have bb6 := j6.below (Below.refl sb w4) (Nat.le_refl _) (Nat.le_of_lt hs4)
        have TT6 : ∀ W, RowKit.Below w6.heap.size w6 W → Tre W t R (parT N Q least R) := fun W hW => TT W (bb6.trans (hW.mono (Nat.le_trans (Nat.le_of_lt hs4) bb6.size)))
        have d2 : ((m : Int) == 0) = false := by simp; omega
        clear hl6 b6 j5 o5 bb5 hrow6
        have d1 : ∀ z : Gw w6, z.toW.cell? ⟨b6o, off6, none⟩ = some (.int .i64 (p : Int)) := fun z => (z.ok.cell (lt_of_cell d0)).trans d0
        go_wp2_with fail
        obtain ⟨pP, hpP⟩ : ∃ l, pathsT R (parT N Q least R) (p : Int) = l := ⟨_, rfl⟩
        have HPP := Lib.hid hpP
        refine wp_region_grow w6 (Below.refl _ _) [.is (.slice (some ⟨b6o, off6, none⟩) m c6), .is (.int .i64 (m : Int)), .is (.bool false), .is (.bool false), .is (.pointer (some ⟨t, 0, none⟩)), .is (.int .i64 (y : Int)), .row w6 (s + 2) (ln (pP ++ [y])), .own w6 3 0 (ln []), .is (.pointer (some ⟨t, 0, none⟩)), .is (.slice (some ⟨b6o, off6, none⟩) m c6), .is (.pointer (some ⟨b6o, off6, none⟩)), .is (.int .i64 (p : Int)), .row w6 (s + 1) (ln pP), .own w6 3 (s + 1) (ln pP), .is (.int .i64 (y : Int)), .row w6 1 (fun _ => .int .i64 (y : Int)), .own w6 3 (s + 2) (ln (pP ++ [y])), .is (.bool true), .is (.bool false), .is (.bool false)] [13, 16] (by kernel_rfl) (by kernel_rfl) rfl (by kernel_rfl) ?_
        iterate 6
          refine kd_is (by rfl) (fun z hz K Q hK => ?_) ?_
          · go_big_op
            exact hK _ _ rfl rfl
          simp only [Act.put, List.setIfInBounds_toArray, List.set_cons_zero, List.set_cons_succ]
        refine kd_of (by rfl) (fun z hz K Q hK => ?_) (fun x7 => ?_)
        · go_big_op
          refine (path_any t R _ y z.toW (TT6 _ z.ok) HF.out).mono ?_
          rintro r w' ⟨A7, c7, rfl, h7, b7⟩
          refine hK _ _ ⟨_, z.to w' b7, rfl, rfl, z.to_still w' b7, ?_⟩
          rw [HPN.out, HPP.out] at h7 ⊢
          exact rowP_rl h7 (by rw [List.length_append, ← HPP.out, HPL.out]; rfl)
        simp only [Act.put, List.setIfInBounds_toArray, List.set_cons_zero, List.set_cons_succ]
        refine kd_grow (by rfl) (fun z hz K Q hK => ?_) (fun x8 => ?_)
        · go_big_op
          refine hK _ _ ⟨.slice (some ⟨z.toW.heap.size, 0, none⟩) 0 0, z.new _ ((Below.refl _ _).alloc (Nat.le_refl _) (.cells #[] 3)), rfl, rfl, z.new_still _ _, Mine.made (Own.new z.toW 3 #[]) z.ok.size (by decide) (Nat.le_refl _) (fun i hi => absurd hi (by omega)), fun b hb => .inl ?_⟩
          have e : some z.toW.heap.size = some b := hb
          injection e with e
          omega
        simp only [Act.put, List.setIfInBounds_toArray, List.set_cons_zero, List.set_cons_succ]
        iterate 4
          refine kd_is (by rfl) (fun z hz K Q hK => ?_) ?_
          · go_big_op
            exact hK _ _ rfl rfl
          simp only [Act.put, List.setIfInBounds_toArray, List.set_cons_zero, List.set_cons_succ]
        refine kd_of (by rfl) (fun z hz K Q hK => ?_) (fun x12 => ?_)
        · go_big_op
          refine (path_any t R _ p z.toW (TT6 _ z.ok) HF.out).mono ?_
          rintro r w' ⟨A7, c7, rfl, h7, b7⟩
          refine hK _ _ ⟨_, z.to w' b7, rfl, rfl, z.to_still w' b7, ?_⟩
          rw [HPP.out] at h7 ⊢
          exact rowP_rl h7 (by rw [← HPP.out, HPL.out])
        simp only [Act.put, List.setIfInBounds_toArray, List.set_cons_zero, List.set_cons_succ]
        refine kd_app (by kernel_rfl) (by rfl) (fun z hz K Q hK => ?_) (fun x13 => ?_)
        · obtain ⟨f1, f2⟩ := (fact_at hz 7 (growP w6 3 0 (ln [])) x8 (by kernel_rfl) (by kernel_rfl))
          obtain ⟨A, cc, rfl, g1, g2, g3, g4⟩ := (fact_at hz 12 (rowP w6 (s + 1) (ln pP)) x12 (by kernel_rfl) (by kernel_rfl))
          refine step_app rfl (.tmp 88) (.tmp 93) 33 rfl w6.heap.size 3 i0 _ 8 Try.underlying33 hi0 hi1 hi2 hi3 rfl x8 0 (ln []) rfl f1 A (s + 1) cc (ln pP) rfl g3 (fun _ _ => rfl) (by unfold maxLen; omega) (by omega) z.ok.size (fun v' w' hm hg ho => ?_)
          refine hK _ ⟨w', z.app_ok f1 hg, _⟩ (z.app_grows hg hg.size f2 _) ⟨?_, fun b hb => ?_⟩
          · rw [Nat.zero_add] at hm
            exact hm.ext (fun i hi => by simp)
          · rcases ho with e | e
            · exact .inr (f2 b (by rw [← e]; exact hb))
            · rw [hb] at e
              injection e with e
              exact .inl (by omega)
        simp only [Act.put, List.setIfInBounds_toArray, List.set_cons_zero, List.set_cons_succ]
        iterate 1
          refine kd_is (by rfl) (fun z hz K Q hK => ?_) ?_
          · go_big_op
            exact hK _ _ rfl rfl
          simp only [Act.put, List.setIfInBounds_toArray, List.set_cons_zero, List.set_cons_succ]
        refine kd_of (by rfl) (fun z hz K Q hK => ?_) (fun x15 => ?_)
        · go_big_op
          refine hK _ _ ⟨.slice (some ⟨z.toW.heap.size, 0, none⟩) 1 1, z.to _ ((Below.refl _ _).alloc (Nat.le_refl _) (.cells #[.int .i64 (y : Int)] 3)), rfl, rfl, z.to_still _ _, _, _, rfl, Nat.le_refl _, by decide, row_new _ _ _ _ (fun i hi => by obtain rfl : i = 0 := (by omega); rfl), fun _ q hq => ?_⟩
          injection hq with hq
          subst hq
          exact ⟨by show z.toW.heap.size < (z.toW.alloc _).heap.size; simp, fun h => absurd h.1 (by simp)⟩
        simp only [Act.put, List.setIfInBounds_toArray, List.set_cons_zero, List.set_cons_succ]
        refine kd_app (by kernel_rfl) (by rfl) (fun z hz K Q hK => ?_) (fun x16 => ?_)
        · obtain ⟨f1, f2⟩ := (fact_at hz 13 (growP w6 3 (s + 1) (ln pP)) x13 (by kernel_rfl) (by kernel_rfl))
          obtain ⟨A, cc, rfl, g1, g2, g3, g4⟩ := (fact_at hz 15 (rowP w6 1 (fun _ => .int .i64 (y : Int))) x15 (by kernel_rfl) (by kernel_rfl))
          refine step_app rfl (.tmp 94) (.tmp 96) 33 rfl w6.heap.size 3 i0 _ 8 Try.underlying33 hi0 hi1 hi2 hi3 rfl x13 (s + 1) (ln pP) rfl f1 A 1 cc (fun _ => .int .i64 (y : Int)) rfl g3 (fun _ _ => rfl) (by unfold maxLen; omega) (by omega) z.ok.size (fun v' w' hm hg ho => ?_)
          refine hK _ ⟨w', z.app_ok f1 hg, _⟩ (z.app_grows hg hg.size f2 _) ⟨?_, fun b hb => ?_⟩
          · have hpl : pP.length = s + 1 := by rw [← HPP.out, HPL.out]
            refine hm.ext (fun i hi => ?_)
            by_cases h : i < s + 1
            · rw [if_pos h]
              unfold ln
              simp [List.getD_eq_getElem?_getD, List.getElem?_append, hpl, h]
            · rw [if_neg h]
              obtain rfl : i = s + 1 := by omega
              unfold ln
              simp [List.getD_eq_getElem?_getD, List.getElem?_append, hpl]
          · rcases ho with e | e
            · exact .inr (f2 b (by rw [← e]; exact hb))
            · rw [hb] at e
              injection e with e
              exact .inl (by omega)
        simp only [Act.put, List.setIfInBounds_toArray, List.set_cons_zero, List.set_cons_succ]
        refine kd_isc (by rfl) (fun z hz K Q hK => ?_) ?_
        · go_big_op
          obtain ⟨A7, c7, rfl, g1, g2, g3, g4⟩ := (fact_at hz 6 (rowP w6 (s + 2) (ln (pP ++ [y]))) x7 (by kernel_rfl) (by kernel_rfl))
          obtain ⟨f1, f2⟩ := (fact_at hz 16 (growP w6 3 (s + 2) (ln (pP ++ [y]))) x16 (by kernel_rfl) (by kernel_rfl))
          obtain ⟨A8, c8, rfl, k1, k2, k3⟩ := f1.row
          refine (same_ints A7 A8 (s + 2) c7 c8 (ln (pP ++ [y])) (fun i => (((pP ++ [y]).getD i 0 : Nat) : Int)) z.toW rfl g1 k1 g2 k2 g3 k3).mono ?_
          rintro r w' ⟨rfl, q, rfl⟩
          exact hK _ _ rfl (below_drewN (Below.refl _ _) q)
        simp only [Act.put, List.setIfInBounds_toArray, List.set_cons_zero, List.set_cons_succ]
        iterate 2
          refine kd_is (by rfl) (fun z hz K Q hK => ?_) ?_
          · go_big_op
            exact hK _ _ rfl rfl
          simp only [Act.put, List.setIfInBounds_toArray, List.set_cons_zero, List.set_cons_succ]
        refine kd_nil (fun z hz => ?_)
        have j8 := j6.trans (Tp.just_of z.ok)
        have o8 := below_blk z.ok o6 o6.lt
        go_wp2_with fail
        exact ⟨⟨k + 1, by simp [intOf], by rw [HNX.out, hcR], by omega, j8, o8⟩, by simp [intOf]; omega⟩
    · obtain rfl : M = k := by omega
      have s0 : wr.cell? ⟨sb, 0, none⟩ = some (.bool true) := by
        rw [Blk.cell oo (by decide), ← HM.out, toldK_root HSM.out HRT.out]
      clear jj oo
      go_wp2_with fail
      have b9 := b5.trans (bb.mono (by have := b5.size; rw [← HSB.out]; exact b2s))
      refine (awake_tree _).mono ?_
      rintro r w9 ⟨rfl, b10⟩
      go_wp2_with fail
      go_ret
      exact ⟨rfl, b9.trans (b10.mono b9.size)⟩
theorem walk (H : Type) (enc : TypeId × Value → H) : Walk H enc Try.prog 7 Try.f7 := by
  intro W base args ds p hval hA
  rw [Try.params7] at hA hval
  obtain ⟨v0, v1, v2, d0, d1, d2, p0, p1, p2, rfl, rfl, rfl, h0, h1, h2⟩ := trodAll_three hA
  obtain ⟨x, rfl, rfl, rfl, _⟩ := open_int Try.underlying3 (hval 0 _ v0 rfl rfl) h0
  obtain ⟨a, n, c, V, C, rfl, hn, hm, hV, hC⟩ := open_calls (hval 1 _ v1 rfl rfl) h1
  obtain ⟨y, rfl, rfl, rfl, _⟩ := open_int Try.underlying3 (hval 2 _ v2 rfl rfl) h2
  exact body x a n c V C y W hn hm hV hC

set_option maxRecDepth 100000 in
theorem lifted (os : Os) (started : os.Started) (H : Type) (enc : TypeId × Value → H) :
    ReturnsInHanded {} Try.checked os 7 .any (Rows.treePathsSpec.pre6 enc Try.prog Try.f7 Rows.treePathsRow.domain false) (Rows.treePathsSpec.post enc Try.prog Try.f7 false true false false) :=
  returnsInHanded_of_change (C := Try.checked) own started (by kernel_rfl) Try.func7
    (ChangeSpec.witness6 (enc := enc) (C := Try.checked) false ⟨#[], #[.int .i64 0, .slice none 0 0, .int .i64 0], []⟩ 8 (by kernel_rfl) (by kernel_rfl) (by kernel_rfl) (by kernel_rfl))
    fun W base args ds gs before hval hW _ _ => step_of_walk laidOut (by rw [Try.params7]; exact of_decide_eq_true (by kernel_rfl)) (by kernel_rfl) Try.underlying4 rfl
      (fun ds h => by
        rw [Try.params7] at h
        match ds, h with
        | [_, _, _], _ => rfl) (walk H enc) W base args ds gs before hval hW

theorem holds : Rows.TreePathsSaid :=
  OpenClaim.holds_of_wide 7 Try.f7 rfl rfl rfl rfl rfl rfl rfl ⟨rfl, rfl, rfl, rfl, rfl⟩ rfl rfl rfl rfl rfl (by kernel_rfl) Try.func7 (by kernel_rfl)
    (of_decide_eq_true (by kernel_rfl)) (by unfold Func.isWrapper; first | (rw [if_pos (by decide +kernel)]; kernel_rfl) | (rw [if_neg (by decide +kernel)]; exact ⟨rfl, rfl⟩))
    (fun os started H enc _ => lifted os started H enc)
#print axioms holds
end Go.Proofs.Ythdgnnjnkeljmaa.TreePaths
