/-
  Law TreeFalls: ranks fall by one from each to its parents; each with a rank has a parent that it hears, but the root; its path has as many hops as its rank, each one heard; no shorter way is there; the call returns true. No condition.
-/
import Derived.Test.YthdgnnjnkeljmaaTrFallM
import Derived.Deep.CutRange
set_option maxRecDepth 100000
namespace Go.Proofs.Ythdgnnjnkeljmaa.TreeFalls
set_option linter.unusedVariables false
open Go.RowKit Go.ChangeShapes Go.WideShapes Go.ChangeAt Go.Deep Lb Tp Tr
set_option linter.unusedVariables false
theorem own : ownKnob Try.prog.godebug = none := by kernel_rfl
theorem laidOut : laidOutB Try.prog = true := by kernel_rfl

set_option maxHeartbeats 8000000 in
theorem body (x : Int) (a : Option Addr) (n c : Nat) (V : Nat → Value) (C : Nat → Cl) (least : Int) (w : World) (hn : n ≤ c) (hc : c ≤ maxLen) (hV : Row w a (n * 3) V)
    (hC : ∀ i, i < n → V (i * 3) = .bool (C i).f ∧ V (i * 3 + 1) = .int .i64 (C i).me ∧ V (i * 3 + 2) = .slice (C i).a (C i).n (C i).c ∧ (C i).ok w) :
    Calls Try.prog 5 #[.int .i64 x, .slice a n c, .int .i64 least] w fun r w' => r = .returned (.bool true) ∧ RowKit.Below w.heap.size w w' := by
  go_enter Try.func5, Try.ntmps5
  go_wp2_with fail
  refine (made_any x a n c V C _ hn hc hV hC).mono ?_
  rintro r w1 ⟨g1, g2, N, Q, rfl, h1, _, hF0, z1, z2, b1⟩
  have hN := hF0.2.1
  have hN1 := hF0.1
  go_wp2_with fail
  refine (build_any g1 N Q least _ hF0 h1).mono ?_
  rintro r w2 ⟨t, R, rfl, ht, hT, hFI, hsm, b2⟩
  have b2' := b1.trans (b2.mono b1.size)
  have h2 := below_blk b2 h1 h1.lt
  have HGR : Hid (Grown N Q least R) := Lib.hid ⟨hF0, hFI, hsm⟩
  have HF := Lib.hid HGR.out.firsts
  have TT : ∀ W, RowKit.Below w2.heap.size w2 W → Tre W t R (parT N Q least R) := fun W hW => hT.below hW
  have GG : ∀ W, RowKit.Below w2.heap.size w2 W → Gr W g1 73 N Q := fun W hW => below_blk hW h2 (Blk.lt h2)
  clear hF0 hFI hsm h1 b1 b2 hT
  go_wp2_with fail
  refine (nodes_any g1 _ N Q _ (GG _ (Below.refl _ _))).mono ?_
  rintro r w' ⟨rfl, rfl⟩
  go_wp2_with fail
  go_loopw [45] (fun i wr => ∃ k : Nat, i = .int .i64 k ∧ k ≤ N ∧ RowKit.Below w2.heap.size w2 wr) (fun i _ => N - (intOf i).toNat)
  case atStart => exact ⟨0, rfl, by omega, Below.refl _ _⟩
  case round =>
    obtain ⟨k, rfl, hk, bb⟩ := hrel
    by_cases hlt : k < N
    · rcases (show R k = none ∨ (k = 0 ∧ R k = some 0) ∨ ∃ r, R k = some (r + 1) by
        cases hx : R k with
        | none => exact .inl rfl
        | some s =>
          cases s with
          | zero => exact .inr (.inl ⟨HGR.out.fin.only k hx, rfl⟩)
          | succ r => exact .inr (.inr ⟨r, rfl⟩)) with hrk | ⟨rfl, hrk⟩ | ⟨r, hrk⟩
      · skip
        have HRK := Lib.hid hrk
        obtain ⟨e1, e2⟩ := hasT_none hrk
        have R1 := Lib.hid e1
        have R2 := Lib.hid e2
        have HPS : Hid (parsT R (parT N Q least R) (k : Int) = []) := Lib.hid (parsT_none hrk)
        have HPA : Hid (pathsT R (parT N Q least R) (k : Int) = []) := Lib.hid (pathsT_none hrk)
        have k0 : ((k : Int) == 0) = false := by
          have : k ≠ 0 := fun e => by
            subst e
            rw [HGR.out.fin.root] at hrk
            cases hrk
          simp
          omega
        clear hrk e1 e2
        go_wp2_with fail
        refine (rank_tre t R _ k _ (TT _ bb)).mono ?_
        rintro r3 w3 ⟨rfl, rfl⟩
        rw [R1.out, R2.out]
        go_wp2_with fail
        refine (parents_any t R _ k _ (TT _ bb) (fun y => Nat.le_trans (par_len N Q least R y) (by decide))).mono ?_
        rintro r4 w4 ⟨A4, c4, rfl, hl4, b4⟩
        rw [HPS.out] at hl4 ⊢
        have bb := bb.trans (b4.mono bb.size)
        clear hl4 b4
        go_wp2_with fail
        refine wp_loop_rounds 1 ?_
        rw [rounds_succ]
        go_wp2_with fail
        refine (near_any g1 _ N Q k least _ (GG _ bb) hN).mono ?_
        rintro r5 w5 ⟨v5, rfl, hv5, b5⟩
        obtain ⟨A5, c5, rfl, hl5⟩ := Rl.of hv5
        have bb5 := bb.trans (b5.mono bb.size)
        have hrow5 := hl5.row
        have hle5 := hl5.le
        have hcap5 := hl5.cap
        unfold maxLen at hcap5
        obtain ⟨L5, hL5⟩ : ∃ L, (near N Q k least).length = L := ⟨_, rfl⟩
        rw [hL5] at hrow5 hle5 ⊢
        have HL5 := Lib.hid hL5
        have hL63 : (L5 : Int) ≤ 9223372036854775807 := by omega
        clear hv5 hl5 hL5 bb b5
        go_wp2_with fail
        go_loopw [118] (fun i wz => ∃ j : Nat, i = .int .i64 j ∧ j ≤ L5 ∧ w5 = wz) (fun i _ => L5 - (intOf i).toNat)
        case atStart => exact ⟨0, rfl, by omega, rfl⟩
        case round =>
          obtain ⟨j, rfl, hj, rfl⟩ := hrel
          by_cases hlt : j < L5
          · obtain ⟨bo, off, rfl, _, c0⟩ := hrow5.at_ hlt
            unfold ln at c0
            have hna := HGR.out.near_at (n := k) (i := j) (by rw [HL5.out]; exact hlt)
            obtain ⟨x, hx⟩ : ∃ x : Nat, (near N Q k least).getD j 0 = x := ⟨_, rfl⟩
            rw [hx] at c0 hna
            obtain ⟨hx16, hxr⟩ := hna
            clear hx
            have hxn : R x = none := by
              rcases hxr with h | ⟨r, s, h, _⟩
              · exact h.2
              · rw [HRK.out] at h
                cases h
            obtain ⟨e1, e2⟩ := hasT_none hxn
            have E1 := Lib.hid e1
            have E2 := Lib.hid e2
            clear e1 e2 hxn hxr
            go_wp2_with fail
            refine (rank_tre t R _ x _ (TT _ bb5)).mono ?_
            rintro r6 w6 ⟨rfl, rfl⟩
            rw [E1.out, E2.out]
            go_wp2_with fail
            exact ⟨⟨j + 1, by simp [intOf], by omega, trivial⟩, by simp [intOf]; omega⟩
          · obtain rfl : j = L5 := by omega
            go_wp2_with fail
            refine (path_any t R _ k _ (TT _ bb5) HF.out).mono ?_
            rintro r7 w7 ⟨A7, c7, rfl, hl7, b7⟩
            rw [HPA.out] at hl7 ⊢
            have bb7 := bb5.trans (b7.mono bb5.size)
            clear hl7 b7
            go_wp2_with fail
            exact ⟨⟨k + 1, by simp [intOf], by omega, bb7⟩, by simp [intOf]; omega⟩

      · skip
        have HRK := Lib.hid hrk
        obtain ⟨e1, e2⟩ := hasT_some (by decide) hrk
        have R1 := Lib.hid e1
        have R2 := Lib.hid e2
        have HPS : Hid (parsT R (parT N Q least R) ((0 : Nat) : Int) = []) := Lib.hid ((parsT_nat (by decide) hrk).trans HGR.out.root_par)
        have HPA : Hid (pathsT R (parT N Q least R) ((0 : Nat) : Int) = [0]) := Lib.hid (pathsT_nat (P := parT N Q least R) (by decide) hrk)
        have hk16 : 0 < 16 := by decide
        clear hrk e1 e2
        go_wp2_with fail
        refine (rank_tre t R _ ((0 : Nat) : Int) _ (TT _ bb)).mono ?_
        rintro r3 w3 ⟨rfl, rfl⟩
        rw [R1.out, R2.out]
        go_wp2_with fail
        refine (parents_any t R _ ((0 : Nat) : Int) _ (TT _ bb) (fun y => Nat.le_trans (par_len N Q least R y) (by decide))).mono ?_
        rintro r4 w4 ⟨A4, c4, rfl, hl4, b4⟩
        rw [HPS.out] at hl4 ⊢
        have bb := bb.trans (b4.mono bb.size)
        clear hl4 b4
        go_wp2_with fail
        refine wp_loop_rounds 1 ?_
        rw [rounds_succ]
        go_wp2_with fail
        refine (near_any g1 _ N Q ((0 : Nat) : Int) least _ (GG _ bb) hN).mono ?_
        rintro r5 w5 ⟨v5, rfl, hv5, b5⟩
        obtain ⟨A5, c5, rfl, hl5⟩ := Rl.of hv5
        have bb5 := bb.trans (b5.mono bb.size)
        have hrow5 := hl5.row
        have hle5 := hl5.le
        have hcap5 := hl5.cap
        unfold maxLen at hcap5
        obtain ⟨L5, hL5⟩ : ∃ L, (near N Q ((0 : Nat) : Int) least).length = L := ⟨_, rfl⟩
        rw [hL5] at hrow5 hle5 ⊢
        have HL5 := Lib.hid hL5
        have hL63 : (L5 : Int) ≤ 9223372036854775807 := by omega
        clear hv5 hl5 hL5 bb b5
        go_wp2_with fail
        go_loopw [118] (fun i wz => ∃ j : Nat, i = .int .i64 j ∧ j ≤ L5 ∧ w5 = wz) (fun i _ => L5 - (intOf i).toNat)
        case atStart => exact ⟨0, rfl, by omega, rfl⟩
        case round =>
          obtain ⟨j, rfl, hj, rfl⟩ := hrel
          by_cases hlt : j < L5
          · obtain ⟨bo, off, rfl, _, c0⟩ := hrow5.at_ hlt
            unfold ln at c0
            have hna := HGR.out.near_at (n := 0) (i := j) (by rw [HL5.out]; exact hlt)
            obtain ⟨x, hx⟩ : ∃ x : Nat, (near N Q ((0 : Nat) : Int) least).getD j 0 = x := ⟨_, rfl⟩
            rw [hx] at c0 hna
            obtain ⟨hx16, hxr⟩ := hna
            clear hx
            obtain ⟨s, hxs, hs1, hs2⟩ : ∃ s, R x = some s ∧ s ≤ 0 + 1 ∧ 0 ≤ s + 1 := by
              rcases hxr with h | ⟨r, s, h, h2, h3, h4⟩
              · rw [HRK.out] at h
                cases h.1
              · rw [HRK.out] at h
                injection h with h
                exact ⟨s, h2, by omega, by omega⟩
            obtain ⟨e1, e2⟩ := hasT_some hx16 hxs
            have E1 := Lib.hid e1
            have E2 := Lib.hid e2
            have d1 : decide ((0 : Int) + 1 < (s : Int)) = false := by rw [decide_eq_false_iff_not]; omega
            have d2 : decide ((s : Int) < (0 : Int) - 1) = false := by rw [decide_eq_false_iff_not]; omega
            have d3 : decide ((1 : Int) < (s : Int)) = false := by rw [decide_eq_false_iff_not]; omega
            have d4 : decide ((s : Int) < -1) = false := by rw [decide_eq_false_iff_not]; omega
            have d5 : decide (1 < s) = false := by rw [decide_eq_false_iff_not]; omega
            clear e1 e2 hxs hxr hs1 hs2
            go_wp2_with fail
            refine (rank_tre t R _ x _ (TT _ bb5)).mono ?_
            rintro r6 w6 ⟨rfl, rfl⟩
            rw [E1.out, E2.out]
            go_wp2_with fail
            exact ⟨⟨j + 1, by simp [intOf], by omega, trivial⟩, by simp [intOf]; omega⟩
          · obtain rfl : j = L5 := by omega
            go_wp2_with fail
            refine (path_any t R _ ((0 : Nat) : Int) _ (TT _ bb5) HF.out).mono ?_
            rintro r7 w7 ⟨A7, c7, rfl, hl7, b7⟩
            rw [HPA.out] at hl7 ⊢
            have bb7 := bb5.trans (b7.mono bb5.size)
            have hle7 : 1 ≤ c7 := hl7.le
            have hcap7 := hl7.cap
            unfold maxLen at hcap7
            obtain ⟨bo, off, rfl, hbo, p0⟩ := hl7.row.at_ (k := 0) (by simp)
            have q0 : w7.cell? ⟨bo, off, none⟩ = some (.int .i64 0) := p0
            clear hl7 b7 p0
            go_wp2_with fail
            refine wp_loop_rounds 1 ?_
            rw [rounds_succ]
            go_wp2_with fail
            exact ⟨⟨0 + 1, by simp [intOf], by omega, bb7⟩, by simp [intOf]; omega⟩

      · skip
        have HRK := Lib.hid hrk
        have hk16 : k < 16 := by omega
        have hr15 := HGR.out.small k _ hrk
        obtain ⟨e1, e2⟩ := hasT_some hk16 hrk
        have R1 := Lib.hid e1
        have R2 := Lib.hid e2
        have HPS : Hid (parsT R (parT N Q least R) (k : Int) = parT N Q least R k) := Lib.hid (parsT_nat hk16 hrk)
        have HPA := Lib.hid (pathsT_nat (P := parT N Q least R) hk16 hrk)
        have kp : 0 < k := by
          rcases Nat.eq_zero_or_pos k with e | e
          · subst e
            rw [HGR.out.fin.root] at hrk
            cases hrk
          · exact e
        have k0 : ((k : Int) == 0) = false := by simp; omega
        obtain ⟨p0, l0, hpl, _, _⟩ := HF.out.first k r hrk
        have hlp : 0 < (parT N Q least R k).length := by rw [hpl]; simp
        have hlp2 := par_len N Q least R k
        have hcR : ((r + 1 : Nat) : Int) = (r : Int) + 1 := by omega
        clear hrk e1 e2 hpl
        go_wp2_with fail
        refine (rank_tre t R _ k _ (TT _ bb)).mono ?_
        rintro r3 w3 ⟨rfl, rfl⟩
        rw [R1.out, R2.out]
        go_wp2_with fail
        refine (parents_any t R _ k _ (TT _ bb) (fun y => Nat.le_trans (par_len N Q least R y) (by decide))).mono ?_
        rintro r4 w4 ⟨A4, c4, rfl, hl4, b4⟩
        rw [HPS.out] at hl4 ⊢
        have bb := bb.trans (b4.mono bb.size)
        have hrow4 := hl4.row
        have hle4 := hl4.le
        have hcap4 := hl4.cap
        unfold maxLen at hcap4
        obtain ⟨L4, hL4⟩ : ∃ L, (parT N Q least R k).length = L := ⟨_, rfl⟩
        rw [hL4] at hrow4 hle4 hlp hlp2 ⊢
        have HL4 := Lib.hid hL4
        have hL463 : (L4 : Int) ≤ 9223372036854775807 := by omega
        have dp : decide (2 < L4) = false := by simp; omega
        have dp2 : decide (2 < (L4 : Int)) = false := by simp; omega
        have w_1 : IntKind.i64.wrap ((r : Int) + 1 - 1) = (r : Int) := by rw [IntWalk.i64_in _ (by omega)]; omega
        clear hl4 b4 hL4
        go_wp2_with fail
        go_loopw [85] (fun i wz => ∃ j m : Nat, i = .int .i64 j ∧ j ≤ L4 ∧ w4.drewN m = wz) (fun i _ => L4 - (intOf i).toNat)
        case atStart => exact ⟨0, 0, rfl, by omega, rfl⟩
        case round =>
          obtain ⟨j, m, rfl, hj, rfl⟩ := hrel
          by_cases hlt : j < L4
          · obtain ⟨bo, off, rfl, _, c0⟩ := (hrow4.drewN m).at_ hlt
            unfold ln at c0
            have hpa := HGR.out.par_at (n := k) (i := j) HRK.out (by rw [HL4.out]; exact hlt)
            obtain ⟨x, hx⟩ : ∃ x : Nat, (parT N Q least R k).getD j 0 = x := ⟨_, rfl⟩
            rw [hx] at c0 hpa
            obtain ⟨hx16, hxr, hxq⟩ := hpa
            obtain ⟨e1, e2⟩ := hasT_some hx16 hxr
            have E1 := Lib.hid e1
            have E2 := Lib.hid e2
            obtain ⟨q, hq⟩ : ∃ q, qual N Q k x = q := ⟨_, rfl⟩
            rw [hq] at hxq
            have HQ := Lib.hid hq
            have dq : decide (q < max least 1) = false := by simp; omega
            clear e1 e2 hxr hx hq
            go_wp2_with fail
            refine (rank_tre t R _ x _ (TT _ (below_drewN bb m))).mono ?_
            rintro r6 w6 ⟨rfl, rfl⟩
            rw [E1.out, E2.out]
            go_wp2_with fail
            refine (quality_any g1 _ N Q k x _ (GG _ (below_drewN bb m)) hN).mono ?_
            rintro r6 w6 ⟨rfl, m2, rfl⟩
            rw [HQ.out]
            go_wp2_with fail
            exact ⟨⟨j + 1, m + m2, by simp [intOf], by omega, by simp⟩, by simp [intOf]; omega⟩
          · obtain rfl : j = L4 := by omega
            have bb := below_drewN bb m
            generalize w4.drewN m = w4 at *
            go_wp2_with fail
            refine (near_any g1 _ N Q k least _ (GG _ bb) hN).mono ?_
            rintro r5 w5 ⟨v5, rfl, hv5, b5⟩
            obtain ⟨A5, c5, rfl, hl5⟩ := Rl.of hv5
            have bb5 := bb.trans (b5.mono bb.size)
            have hrow5 := hl5.row
            have hle5 := hl5.le
            have hcap5 := hl5.cap
            unfold maxLen at hcap5
            obtain ⟨L5, hL5⟩ : ∃ L, (near N Q k least).length = L := ⟨_, rfl⟩
            rw [hL5] at hrow5 hle5 ⊢
            have HL5 := Lib.hid hL5
            have hL63 : (L5 : Int) ≤ 9223372036854775807 := by omega
            clear hv5 hl5 hL5 bb b5
            go_wp2_with fail
            go_loopw [118] (fun i wz => ∃ j : Nat, i = .int .i64 j ∧ j ≤ L5 ∧ w5 = wz) (fun i _ => L5 - (intOf i).toNat)
            case atStart => exact ⟨0, rfl, by omega, rfl⟩
            case round =>
              obtain ⟨j, rfl, hj, rfl⟩ := hrel
              by_cases hlt : j < L5
              · obtain ⟨bo, off, rfl, _, c0⟩ := hrow5.at_ hlt
                unfold ln at c0
                have hna := HGR.out.near_at (n := k) (i := j) (by rw [HL5.out]; exact hlt)
                obtain ⟨x, hx⟩ : ∃ x : Nat, (near N Q k least).getD j 0 = x := ⟨_, rfl⟩
                rw [hx] at c0 hna
                obtain ⟨hx16, hxr⟩ := hna
                clear hx
                obtain ⟨s, hxs, hs1, hs2⟩ : ∃ s, R x = some s ∧ s ≤ (r + 1) + 1 ∧ (r + 1) ≤ s + 1 := by
                  rcases hxr with h | ⟨r, s, h, h2, h3, h4⟩
                  · rw [HRK.out] at h
                    cases h.1
                  · rw [HRK.out] at h
                    injection h with h
                    exact ⟨s, h2, by omega, by omega⟩
                obtain ⟨e1, e2⟩ := hasT_some hx16 hxs
                have E1 := Lib.hid e1
                have E2 := Lib.hid e2
                have d1 : decide (((r : Int) + 1 : Int) + 1 < (s : Int)) = false := by simp; omega
                have d2 : decide ((s : Int) < ((r : Int) + 1 : Int) - 1) = false := by simp; omega
                have d3 : decide (s < r) = false := by simp; omega
                have d4 : decide ((s : Int) < (r : Int)) = false := by simp; omega
                clear e1 e2 hxs hxr hs1 hs2
                go_wp2_with fail
                refine (rank_tre t R _ x _ (TT _ bb5)).mono ?_
                rintro r6 w6 ⟨rfl, rfl⟩
                rw [E1.out, E2.out]
                go_wp2_with fail
                exact ⟨⟨j + 1, by simp [intOf], by omega, trivial⟩, by simp [intOf]; omega⟩
              · obtain rfl : j = L5 := by omega
                go_wp2_with fail
                refine (path_any t R _ k _ (TT _ bb5) HF.out).mono ?_
                rintro r7 w7 ⟨A7, c7, rfl, hl7, b7⟩
                rw [HPA.out] at hl7 ⊢
                have bb7 := bb5.trans (b7.mono bb5.size)
                have hrow7 := hl7.row
                have hle7 := hl7.le
                have hcap7 := hl7.cap
                unfold maxLen at hcap7
                have hlen7 : ((List.range ((r + 1) + 1)).map fun j => anc (parT N Q least R) k ((r + 1) - j)).length = (r + 1) + 1 := by simp
                rw [hlen7] at hrow7 hle7 ⊢
                have hge : ∀ i, i < (r + 1) + 1 → ln ((List.range ((r + 1) + 1)).map fun j => anc (parT N Q least R) k ((r + 1) - j)) i = .int .i64 ((anc (parT N Q least R) k ((r + 1) - i) : Nat) : Int) := fun i hi => by
                  unfold ln
                  rw [path_getD _ _ _ _ hi]
                have HPT := Lib.hid (HGR.out.path_at HRK.out hk16)
                have p0 := (hrow7.at_ (k := 0) (by omega))
                have p1 := (hrow7.at_ (k := (r + 1)) (by omega))
                obtain ⟨bo, off, rfl, hbo, p0⟩ := p0
                obtain ⟨bo', off', hA, _, p1⟩ := p1
                injection hA with hA
                injection hA with hA1 hA2
                subst hA1 hA2
                have q0 : w7.cell? ⟨bo, off, none⟩ = some (.int .i64 0) := by
                  rw [hge 0 (by omega), Nat.sub_zero, HPT.out.1] at p0
                  exact p0
                have q1 : w7.cell? ⟨bo, off + (r + 1), none⟩ = some (.int .i64 (k : Int)) := by
                  rw [hge (r + 1) (by omega), Nat.sub_self] at p1
                  exact p1
                clear p0 p1
                obtain ⟨m7, hm7⟩ : ∃ m, (r + 1) + 1 = m := ⟨_, rfl⟩
                rw [hm7] at hrow7 hle7 hge ⊢
                have HGE := Lib.hid hge
                have hm63 : (m7 : Int) ≤ 9223372036854775807 := by omega
                have hlt7 : ((r : Int) + 1 : Int) < (m7 : Int) := by omega
                have hlt8 : 0 < m7 := by omega
                have z1 : ((m7 : Int) == ((r : Int) + 1 : Int) + 1) = true := by simp; omega
                have z2 : ((m7 : Int) != ((r : Int) + 1 : Int) + 1) = false := by simp; omega
                have HM7 := Lib.hid hm7
                clear b7 hge hlen7 hm7
                go_wp2_with fail
                go_loopw [24] (fun i wz => ∃ j m : Nat, i = .int .i64 ((j : Int) + 1) ∧ j + 1 ≤ m7 ∧ w7.drewN m = wz) (fun i _ => m7 - (intOf i).toNat)
                case atStart => exact ⟨0, 0, rfl, by omega, rfl⟩
                case round =>
                  obtain ⟨j, m, rfl, hj, rfl⟩ := hrel
                  by_cases hlt : j + 1 < m7
                  · have hjr : j < (r + 1) := by have := HM7.out; omega
                    have y0 := ((hrow7.drewN m).at_ (k := j) (by omega))
                    have y1 := ((hrow7.drewN m).at_ (k := j + 1) (by omega))
                    rw [HGE.out j (by omega)] at y0
                    rw [HGE.out (j + 1) (by omega)] at y1
                    obtain ⟨_, _, hA, _, y0⟩ := y0
                    injection hA with hA
                    injection hA with hA1 hA2
                    subst hA1 hA2
                    obtain ⟨_, _, hA, _, y1⟩ := y1
                    injection hA with hA
                    injection hA with hA1 hA2
                    subst hA1 hA2
                    have hq := HPT.out.2 ((r + 1) - (j + 1)) (by omega)
                    rw [show (r + 1) - (j + 1) + 1 = (r + 1) - j by omega] at hq
                    obtain ⟨xa, hxa⟩ : ∃ x : Nat, anc (parT N Q least R) k ((r + 1) - j) = x := ⟨_, rfl⟩
                    obtain ⟨xb, hxb⟩ : ∃ x : Nat, anc (parT N Q least R) k ((r + 1) - (j + 1)) = x := ⟨_, rfl⟩
                    rw [hxa] at hq y0
                    rw [hxb] at hq y1
                    obtain ⟨q, hqq⟩ : ∃ q, qual N Q xa xb = q := ⟨_, rfl⟩
                    rw [hqq] at hq
                    have dq : decide (q < max least 1) = false := by simp; omega
                    have bb8 := below_drewN bb7 m
                    obtain ⟨w8, hw8⟩ : ∃ w8, w7.drewN m = w8 := ⟨_, rfl⟩
                    rw [hw8] at y0 y1 bb8 ⊢
                    have HW8 := Lib.hid hw8
                    have PQ : ∀ nn, Calls Try.prog 24 #[.pointer (some ⟨g1, 0, none⟩), .int .i64 (xa : Int), .int .i64 (xb : Int)] (w8.drewN nn) fun r w' => r = .returned (.int .i64 q) ∧ ∃ mm, (w8.drewN nn).drewN mm = w' := fun nn => by
                      rw [← hqq]
                      exact quality_any g1 _ N Q xa xb _ (GG _ (below_drewN bb8 nn)) hN
                    have HPQ := Lib.hid PQ
                    have w2_ : IntKind.i64.wrap ((j : Int) + 1 - 1) = (j : Int) := by rw [IntWalk.i64_in _ (by omega)]; omega
                    have l1 : (j : Int) < (m7 : Int) := by omega
                    have l2 : (j : Int) + 1 < (m7 : Int) := by omega
                    have l3 : (0 : Int) ≤ (j : Int) + 1 := by omega
                    have l4 : ((j : Int) + 1).toNat = j + 1 := by omega
                    clear hq hqq PQ hxa hxb q0 q1 hw8
                    go_upto_region 37 with (fail)
                    go_quiet ((go_at_call 24; exact quiet_some (HPQ.out _)))
                    go_wp2_with fail
                    exact ⟨⟨j + 1, _, by simp [intOf], by omega, by rw [← HW8.out]; exact (World.drewN_drewN _ _ _).symm⟩, by simp [intOf]; omega⟩
                  · have l2 : decide ((j : Int) + 1 < (m7 : Int)) = false := by simp; omega
                    have bb8 := below_drewN bb7 m
                    go_wp2_with fail
                    exact ⟨⟨k + 1, by simp [intOf], by omega, bb8⟩, by simp [intOf]; omega⟩

    · obtain rfl : N = k := by omega
      have b3 := b2'.trans (bb.mono b2'.size)
      go_wp2_with fail
      refine (awake_tree _).mono ?_
      rintro r w9 ⟨rfl, b9⟩
      have b10 := b3.trans (b9.mono b3.size)
      go_wp2_with fail
      go_ret
      exact ⟨rfl, b10⟩

theorem walk (H : Type) (enc : TypeId × Value → H) : Walk H enc Try.prog 5 Try.f5 := by
  intro W base args ds p hval hA
  rw [Try.params5] at hA hval
  obtain ⟨v0, v1, v2, d0, d1, d2, p0, p1, p2, rfl, rfl, rfl, h0, h1, h2⟩ := trodAll_three hA
  obtain ⟨x, rfl, rfl, rfl, _⟩ := open_int Try.underlying3 (hval 0 _ v0 rfl rfl) h0
  obtain ⟨a, n, c, V, C, rfl, hn, hm, hV, hC⟩ := open_calls (hval 1 _ v1 rfl rfl) h1
  obtain ⟨y, rfl, rfl, rfl, _⟩ := open_int Try.underlying3 (hval 2 _ v2 rfl rfl) h2
  exact body x a n c V C y W hn hm hV hC

set_option maxRecDepth 100000 in
theorem lifted (os : Os) (started : os.Started) (H : Type) (enc : TypeId × Value → H) :
    ReturnsInHanded {} Try.checked os 5 .any (Rows.treeFallsSpec.pre6 enc Try.prog Try.f5 Rows.treeFallsRow.domain false) (Rows.treeFallsSpec.post enc Try.prog Try.f5 false true false false) :=
  returnsInHanded_of_change (C := Try.checked) own started (by kernel_rfl) Try.func5
    (ChangeSpec.witness6 (enc := enc) (C := Try.checked) false ⟨#[], #[.int .i64 0, .slice none 0 0, .int .i64 0], []⟩ 8 (by kernel_rfl) (by kernel_rfl) (by kernel_rfl) (by kernel_rfl))
    fun W base args ds gs before hval hW _ _ => step_of_walk laidOut (by rw [Try.params5]; exact of_decide_eq_true (by kernel_rfl)) (by kernel_rfl) Try.underlying4 rfl
      (fun ds h => by
        rw [Try.params5] at h
        match ds, h with
        | [_, _, _], _ => rfl) (walk H enc) W base args ds gs before hval hW

theorem holds : Rows.TreeFallsSaid :=
  OpenClaim.holds_of_wide 5 Try.f5 rfl rfl rfl rfl rfl rfl rfl ⟨rfl, rfl, rfl, rfl, rfl⟩ rfl rfl rfl rfl rfl (by kernel_rfl) Try.func5 (by kernel_rfl)
    (of_decide_eq_true (by kernel_rfl)) (by unfold Func.isWrapper; first | (rw [if_pos (by decide +kernel)]; kernel_rfl) | (rw [if_neg (by decide +kernel)]; exact ⟨rfl, rfl⟩))
    (fun os started H enc _ => lifted os started H enc)
#print axioms holds
end Go.Proofs.Ythdgnnjnkeljmaa.TreeFalls
