/-
  Law NodeNumbers: the numbers of a node's packets rise, also behind beginning anew, slot by slot; the call returns true. No condition.
-/
import Derived.Test.YtiflmdekcjbmbaaGreatGNodeNumbers05
import Derived.Test.YtiflmdekcjbmbaaGreatGNodeWaits29
import Derived.Deep.CutBlock
set_option maxRecDepth 100000
namespace Go.Proofs.YtiflmdekcjbmbaaGreat.NodeNumbers
set_option linter.unusedVariables false
set_option linter.unusedSimpArgs false
open Go.RowKit Go.ChangeShapes Go.WideShapes Go.ChangeAt Lb Nd Ie Fm
theorem own : ownKnob Tryz.prog.godebug = none := by kernel_rfl
theorem laidOut : laidOutB Tryz.prog = true := by kernel_rfl
theorem um37 : umN 3 7 = 3 := by
  unfold umN
  rw [IntKind.wrap_u64]
  have e : ((3 : Int) % 18446744073709551616).tmod 7 = 3 := by decide
  rw [e]
  exact IntWalk.wrap64_in _ (by omega)
theorem um060 : umN 0 60 = 0 := by
  unfold umN
  rw [IntKind.wrap_u64]
  have e : ((0 : Int) % 18446744073709551616).tmod 60 = 0 := by decide
  rw [e]
  exact IntWalk.wrap64_in _ (by omega)
theorem u2_any (z : Int) (w : World) : Calls Tryz.prog 44 #[.int .i64 z] w fun r w' => ∃ t : Nat, r = .returned (.int .i64 (t : Int)) ∧ t < 2 ∧ w = w' := by
  obtain ⟨t, h1, h2⟩ := um_ex z 2 (by decide) (by decide)
  have h3 : t < 2 := by omega
  go_enter Tryz.func44, Tryz.ntmps44
  go_wp2_with fail
  rw [h1]
  go_ret
  exact ⟨t, rfl, h3, rfl⟩
theorem fit_sm {cf : Cfg} {i z l last i' z' last' : Int} {q q' : List (Int × List Int)} (f : Fit (inN cf i z l q last)) (hi : 0 ≤ i' ∧ i' ≤ 1099511627776) (hq : (q'.length : Int) ≤ cf.queue) (ht : -1 ≤ last' ∧ last' < 70368744177664) : Fit (inN cf i' z' l q' last') :=
  ⟨f.c, f.id, hi, (by show -(i' * 1000000) ≤ (0 : Int) ∧ (0 : Int) ≤ i' * 1000000; omega), f.p, f.lis, hq, f.lost, f.tries, f.u, f.dn, f.g, f.seq, ht, f.few, f.rk, (fun e => absurd (show (2 : Int) = 0 from e) (by decide)), f.ks⟩
set_option maxHeartbeats 8000000 in
theorem body (x0 : Int) (a : Option Addr) (n c : Nat) (Q : Nat → Ca) (w : World) (hn : n ≤ c) (hc : c ≤ maxLen) (hQ : Cas w a n Q) : Calls Tryz.prog 9 #[.int .i64 x0, .slice a n c] w fun r w' => r = .returned (.bool true) ∧ Below w.heap.size w w' := by
  unfold maxLen at hc
  have hcap : (n : Int) ≤ 9223372036854775807 := by omega
  have b0 := Below.refl w.heap.size w
  have HQ := Lib.hid hQ
  clear hQ
  go_enter Tryz.func9, Tryz.ntmps9
  by_cases h100 : 100 < n
  · have g0 : decide ((100 : Int) < (n : Int)) = true := decide_eq_true (by omega)
    have g1 : decide (100 < n) = true := decide_eq_true h100
    clear h100
    go_wp2_with fail
    refine (awake24_any w).mono ?_
    rintro r w1 ⟨rfl, b1⟩
    go_wp2_with fail
    go_ret
    exact ⟨rfl, b1⟩
  have g0 : decide ((100 : Int) < (n : Int)) = false := decide_eq_false (by omega)
  have g1 : decide (100 < n) = false := decide_eq_false h100
  have hn100 : n ≤ 100 := by omega
  clear h100
  go_wp2_with fail
  refine (config_more 3 2 5 0 x0 5 1 w).mono ?_
  rintro r w1 ⟨x, rfl, hx, hm, hh, b1, hcf⟩
  clear g0 g1
  have hnew : newB x 2 = true := by
    unfold newB inB
    rw [hm, hcf.nodes, um37]
    decide
  have hok := okc_may hm
  have hlo : x.loss = 10 := by rw [hcf.loss, hcf.nodes, um37, um060]; decide
  have b2 := (Below.refl w1.heap.size w1).alloc (Nat.le_refl _) (.cells #[.int .i64 x.nodes, .slice x.na x.nn x.nc, .slice x.ha x.hops.length x.hc, .int .i64 x.guard, .int .i64 x.err, .int .i64 x.keep, .int .i64 x.loss, .int .i64 x.queue, .int .i64 x.life] 25)
  have o2 := Own.new w1 25 #[.int .i64 x.nodes, .slice x.na x.nn x.nc, .slice x.ha x.hops.length x.hc, .int .i64 x.guard, .int .i64 x.err, .int .i64 x.keep, .int .i64 x.loss, .int .i64 x.queue, .int .i64 x.life]
  have hx2 := hx.below b2
  have bb2 := b1.trans (b2.mono b1.size)
  have HNEW := Lib.hid hnew
  have HOK := Lib.hid hok
  have HLO := Lib.hid hlo
  clear hx b2 hcf hh hnew hok hm hlo
  go_upto_region 4 with (fail)
  obtain ⟨xb, hxb⟩ : ∃ q, w1.heap.size = q := ⟨_, rfl⟩
  rw [hxb] at o2 ⊢
  have hxw : w.heap.size ≤ xb := by rw [← hxb]; exact b1.size
  clear hxb b1
  generalize w1.alloc (.cells #[.int .i64 x.nodes, .slice x.na x.nn x.nc, .slice x.ha x.hops.length x.hc, .int .i64 x.guard, .int .i64 x.err, .int .i64 x.keep, .int .i64 x.loss, .int .i64 x.queue, .int .i64 x.life] 25) = w2 at *
  clear w1
  have PJ := joined_any x w2 hx2 HNEW.out
  go_wp2_with (refine wpList_load_row rfl _ _ rfl xb rfl 25 #[.int .i64 x.nodes, .slice x.na x.nn x.nc, .slice x.ha x.hops.length x.hc, .int .i64 x.guard, .int .i64 x.err, .int .i64 x.keep, .int .i64 x.loss, .int .i64 x.queue, .int .i64 x.life] (0, 0) _ o2 Tryz.underlying25 rfl (by kernel_rfl) ?_)
  refine PJ.mono ?_
  rintro r w3 ⟨b, h, rfl, n3, hex, b3⟩
  have o3 := below_own b3 o2 o2.lt
  have c6 : w3.cell? ⟨xb, 6, none⟩ = some (.int .i64 10) := by rw [← HLO.out]; exact o3.cell 6
  clear PJ
  go_upto_region 7 with (fail)
  go_quiet (fail)
  have ns0 : NS b w2 (w3.drewN nq) (joinedN x.cfg) := NS.below ⟨h, n3, hex, b3⟩ (below_drewN (Below.refl _ _) nq)
  generalize w3.drewN nq = w4 at *
  obtain ⟨cf, hcf⟩ : ∃ q, x.cfg = q := ⟨_, rfl⟩
  have HL10 : Hid (cf.loss = 10) := Lib.hid (by rw [← hcf]; exact HLO.out)
  have HCQ : Hid (cf.queue ≤ 32 ∧ 1 ≤ cf.queue) := Lib.hid ⟨by rw [← hcf]; exact HOK.out.queue.2, by rw [← hcf]; exact HOK.out.queue.1⟩
  rw [joined_in, hcf, HL10.out] at ns0
  have HI : Hid (NI cf b w2 w4 0 10 (-1)) := Lib.hid ⟨_, _, _, _, [], ns0, in_fit (by rw [← hcf]; exact wait_fit HNEW.out (by omega) (by omega)) (by omega) (by have := HCQ.out.2; show (0 : Int) ≤ cf.queue; omega) (by omega), by omega, by simp, by simp, by simp, by omega⟩
  have HBB := Lib.hid bb2
  have H6 : Hid (∀ wz, Below w2.heap.size w2 wz → wz.cell? ⟨xb, 6, none⟩ = some (.int .i64 10)) := Lib.hid (fun wz bz => by rw [← HLO.out]; exact (below_own bz o2 o2.lt).cell 6)
  clear ns0 hcf n3 hex b3 o3 c6 HNEW HOK HLO bb2 hx2 o2 hxw b0 hc
  go_wp2_with fail
  go_loopw [7, 8, 27] (fun zl za i wr => ∃ (k A : Nat) (Z : Int), zl = .int .i64 Z ∧ za = .int .i64 (A : Int) ∧ i = .int .i64 k ∧ k ≤ n ∧ Hid (NI cf b w2 wr k A Z)) (fun _ _ i _ => n - (intOf i).toNat)
  case atStart => exact ⟨0, 10, -1, rfl, rfl, rfl, by omega, HI⟩
  case round =>
    clear HI
    obtain ⟨k, A, Z, rfl, rfl, rfl, hk, HI⟩ := hrel
    by_cases hlt : k < n
    · obtain ⟨i, z, l, last, q, ns, hfit, hi, hq, hla, hZ, hA⟩ := HI.out
      have b5 := HBB.out.trans (ns.bel.mono HBB.out.size)
      obtain ⟨bo, off, rfl, hbo, hcs⟩ := HQ.out.cells b5 hlt
      obtain ⟨⟨cd, cn, cm, ca, ⟨pk, ps, pd, pq, pL, pa, pc, pdata, pb, pe⟩, ⟨qf, qt, qn, ql, qp, qd⟩, qa, qc, qb, qe, ba_, bc, B⟩, hqq⟩ : ∃ q, Q k = q := ⟨_, rfl⟩
      rw [hqq] at hcs
      obtain ⟨ll, hll⟩ : ∃ q, pL.length = q := ⟨_, rfl⟩
      obtain ⟨dl, hdl⟩ : ∃ q, pdata.length = q := ⟨_, rfl⟩
      obtain ⟨pl, hpl⟩ : ∃ q, qp.length = q := ⟨_, rfl⟩
      obtain ⟨ql2, hql⟩ : ∃ q, qd.length = q := ⟨_, rfl⟩
      obtain ⟨bl, hbl⟩ : ∃ q, B.length = q := ⟨_, rfl⟩
      have e : (⟨cd, cn, cm, ca, ⟨pk, ps, pd, pq, pL, pa, pc, pdata, pb, pe⟩, ⟨qf, qt, qn, ql, qp, qd⟩, qa, qc, qb, qe, ba_, bc, B⟩ : Ca).vals = [.int .i64 cd, .int .i64 cn, .int .i64 cm, .int .i64 ca, .int .i64 pk, .int .i64 ps, .int .i64 pd, .int .i64 pq, .slice pa ll pc, .slice pb dl pe, .int .i64 qf, .int .i64 qt, .int .i64 qn, .int .i64 ql, .slice qa pl qc, .slice qb ql2 qe, .slice ba_ bl bc] := by
        subst hll hdl hpl hql hbl
        rfl
      rw [e] at hcs
      have d0 := hcs 0 (by decide)
      have d1 := hcs 1 (by decide)
      have d2 := hcs 2 (by decide)
      have d3 := hcs 3 (by decide)
      have d4 := hcs 4 (by decide)
      have d5 := hcs 5 (by decide)
      have d6 := hcs 6 (by decide)
      have d7 := hcs 7 (by decide)
      have d8 := hcs 8 (by decide)
      have d9 := hcs 9 (by decide)
      have d10 := hcs 10 (by decide)
      have d11 := hcs 11 (by decide)
      have d12 := hcs 12 (by decide)
      have d13 := hcs 13 (by decide)
      have d14 := hcs 14 (by decide)
      have d15 := hcs 15 (by decide)
      have d16 := hcs 16 (by decide)
      simp only [List.getElem?_cons_zero, List.getElem?_cons_succ, Option.getD_some] at d0 d1 d2 d3 d4 d5 d6 d7 d8 d9 d10 d11 d12 d13 d14 d15 d16
      rw [Nat.add_zero] at d0
      clear hcs e hqq hdl hpl hql hbl hll
      have ns1 := ns.below ((Below.refl wr.heap.size wr).alloc (Nat.le_refl _) (.cells #[.int .i64 cd, .int .i64 cn, .int .i64 cm, .int .i64 ca, .int .i64 pk, .int .i64 ps, .int .i64 pd, .int .i64 pq, .slice pa ll pc, .slice pb dl pe, .int .i64 qf, .int .i64 qt, .int .i64 qn, .int .i64 ql, .slice qa pl qc, .slice qb ql2 qe, .slice ba_ bl bc] 41))
      have ox := Own.new wr 41 #[.int .i64 cd, .int .i64 cn, .int .i64 cm, .int .i64 ca, .int .i64 pk, .int .i64 ps, .int .i64 pd, .int .i64 pq, .slice pa ll pc, .slice pb dl pe, .int .i64 qf, .int .i64 qt, .int .i64 qn, .int .i64 ql, .slice qa pl qc, .slice qb ql2 qe, .slice ba_ bl bc]
      have HNS := Lib.hid (And.intro ns1 hfit)
      have HNU := Lib.hid (And.intro hi (And.intro hq (And.intro hla (And.intro hZ hA))))
      clear ns ns1 hfit hi hq hla hZ b5 HI
      go_upto_region 11 with (fail)
      obtain ⟨yb, hyb⟩ : ∃ q, wr.heap.size = q := ⟨_, rfl⟩
      rw [hyb] at ox ⊢
      clear hyb
      generalize wr.alloc (.cells #[.int .i64 cd, .int .i64 cn, .int .i64 cm, .int .i64 ca, .int .i64 pk, .int .i64 ps, .int .i64 pd, .int .i64 pq, .slice pa ll pc, .slice pb dl pe, .int .i64 qf, .int .i64 qt, .int .i64 qn, .int .i64 ql, .slice qa pl qc, .slice qb ql2 qe, .slice ba_ bl bc] 41) = wx at *
      have y0 : wx.cell? ⟨yb, 0, none⟩ = some (.int .i64 cd) := ox.cell 0
      have y1 : wx.cell? ⟨yb, 1, none⟩ = some (.int .i64 cn) := ox.cell 1
      clear d0 d1 d2 d3 d4 d5 d6 d7 d8 d9 d10 d11 d12 d13 d14 d15 d16 ox
      clear wr
      obtain ⟨dd, hdd⟩ : ∃ q, (IntKind.u64.wrap cd).tmod 5 = q := ⟨_, rfl⟩
      go_upto_region 17 with (fail)
      clear hdd y0
      obtain ⟨hi, hq, hla, hZ, hA⟩ := HNU.out
      have hAn : (A : Int) ≤ 1111 := by omega
      by_cases h0 : dd = 0
      · have g0 : (dd == 0) = true := by simpa using h0
        clear h0
        have eA : IntKind.i64.wrap ((A : Int) + 1) = (A : Int) + 1 := IntWalk.i64_in _ (by omega)
        have PS := slotI (asn := (A : Int) + 1) HNS.out.1 HNS.out.2 (by omega) (by omega)
        have hf2 : Fit (inN cf (i + 1) z l q last) := fit_sm HNS.out.2 (by omega) HNS.out.2.q HNS.out.2.last
        clear hi hq hla hZ hA
        go_wp2_with fail
        refine PS.mono ?_
        rintro r w5 ⟨rfl, n5⟩
        have PB := beaI (asn := (A : Int) + 1) n5 (by omega)
        obtain ⟨nl, hnl⟩ : ∃ q, (beaL ((A : Int) + 1)).length = q := ⟨_, rfl⟩
        rw [hnl] at PB
        have HNL := Lib.hid hnl
        clear PS hnl n5
        go_wp2_with fail
        refine PB.mono ?_
        rintro r w6 ⟨a6, c6, rfl, hb6, n6⟩
        have PH := hearI n6 hf2 (by omega) hb6
        rw [HNL.out] at PH
        clear PB n6 hb6
        go_wp2_with fail
        refine PH.mono ?_
        rintro r w7 ⟨v7, rfl, n7⟩
        have HI : Hid (NI cf b w2 w7 (k + 1) (A + 1) Z) := Lib.hid (by
          obtain ⟨hi, hq, hla, hZ, hA⟩ := HNU.out
          exact ⟨_, _, _, _, q, n7, fit_sm hf2 (by omega) HNS.out.2.q HNS.out.2.last, by omega, hq, by omega, by omega, by omega⟩)
        clear PH n7 hf2
        go_wp2_with fail
        exact ⟨⟨k + 1, A + 1, Z, rfl, by simp, by simp, by omega, HI⟩, by simp [intOf]; omega⟩
      have g0 : (dd == 0) = false := by simpa using h0
      clear h0
      by_cases h1 : dd = 1
      · have g1 : (dd == 1) = true := by simpa using h1
        clear h1
        have PR := bootI HNS.out.1 HNS.out.2
        clear hi hq hla hZ hA
        go_wp2_with fail
        refine PR.mono ?_
        rintro r w5 ⟨rfl, n5⟩
        have c6 := H6.out w5 n5.bel
        have HN5 := Lib.hid n5
        clear PR n5
        go_wp2_with fail
        have HFW : Hid (∀ m : Nat, m ≤ 11 → Fit (waitN cf (m : Int) 0)) := Lib.hid (fun m hm => fit_wait HNS.out.2 (by omega))
        have n5 : Hid (NS b w2 w5 (waitN cf ((0 : Nat) : Int) 0)) := HN5
        clear HN5 c6
        go_loopw [8, 80] (fun za j wz => ∃ (m : Nat), za = .int .i64 ((A + m : Nat) : Int) ∧ j = .int .i64 (m : Int) ∧ m ≤ 11 ∧ Hid (NS b w2 wz (waitN cf (m : Int) 0))) (fun _ j _ => 11 - (intOf j).toNat)
        case atStart => exact ⟨0, rfl, rfl, by omega, n5⟩
        case round =>
          clear n5
          obtain ⟨m, rfl, rfl, hm, HM⟩ := hrel
          have HAM : Hid (0 ≤ ((A + m : Nat) : Int) ∧ ((A + m : Nat) : Int) ≤ 2000) := Lib.hid (by omega)
          obtain ⟨am, ham⟩ : ∃ q, ((A + m : Nat) : Int) = q := ⟨_, rfl⟩
          have HAE := Lib.hid ham
          rw [ham] at HAM
          by_cases hmm : m < 11
          · have hmI : (m : Int) < 11 := by omega
            have eA : IntKind.i64.wrap (am + 1) = am + 1 := IntWalk.i64_in _ (by have := HAM.out; omega)
            have PS := slotW (asn := am + 1) HM.out (HFW.out m hm) (by have := HAM.out; omega) (by omega)
            have HM1 : Hid (m < 11) := Lib.hid hmm
            clear hmm
            go_wp2_with fail
            refine PS.mono ?_
            rintro r w6 ⟨rfl, n6⟩
            have HN6 : Hid (NS b w2 w6 (waitN cf ((m + 1 : Nat) : Int) 0)) := Lib.hid n6
            clear PS n6
            go_wp2_with fail
            have := HM1.out
            exact ⟨⟨m + 1, by rw [show ((A + (m + 1) : Nat) : Int) = ((A + m : Nat) : Int) + 1 by omega, HAE.out], by simp, by omega, HN6⟩, by simp [intOf]; omega⟩
          have hmI : decide ((m : Int) < 11) = false := decide_eq_false (by omega)
          have hmI2 : decide (m < 11) = false := decide_eq_false hmm
          have HM1 : Hid (m = 11) := Lib.hid (by omega)
          clear hmm
          have PB := beaI (asn := am) HM.out (by have := HAM.out; omega)
          obtain ⟨nl, hnl⟩ : ∃ q, (beaL am).length = q := ⟨_, rfl⟩
          rw [hnl] at PB
          have HNL := Lib.hid hnl
          clear hnl
          go_wp2_with fail
          refine PB.mono ?_
          rintro r w6 ⟨a6, c6, rfl, hb6, n6⟩
          have PH := hearW n6 (HFW.out m hm) (by rw [HL10.out, HM1.out]; decide) (by have := HAM.out; omega) hb6
          rw [HNL.out] at PH
          clear PB n6 hb6
          go_wp2_with fail
          refine PH.mono ?_
          rintro r w7 ⟨v7, rfl, n7⟩
          have HI : Hid (NI cf b w2 w7 (k + 1) (A + m) Z) := Lib.hid (by
            obtain ⟨hi, hq, hla, hZ, hA⟩ := HNU.out
            have h11 := HM1.out
            exact ⟨_, _, _, _, [], n7, in_fit (HFW.out m hm) (by omega) (by have := HCQ.out.2; show (0 : Int) ≤ cf.queue; omega) (by omega), by omega, by simp, ⟨by omega, by simp; omega⟩, ⟨by omega, by simp; omega, by omega⟩, by omega⟩)
          clear PH n7
          go_wp2_with fail
          exact ⟨⟨k + 1, A + m, Z, rfl, by rw [HAE.out], by simp, by omega, HI⟩, by simp [intOf]; omega⟩
      have g1 : (dd == 1) = false := by simpa using h1
      clear h1
      have PU := u2_any cn wx
      clear hi hq hla hZ hA
      go_wp2_with fail
      refine PU.mono ?_
      rintro r w5 ⟨t, rfl, ht, rfl⟩
      clear PU
      have n6 := HNS.out.1.below ((Below.refl wx.heap.size wx).alloc (Nat.le_refl _) (.cells #[.int .u8 7] 5))
      have o6 := Own.new wx 5 #[.int .u8 7]
      have PD := sendI (asn := (A : Int)) (tt := (t : Int)) n6 HNS.out.2 (by omega) (by omega) [7] (by decide) (by simp) (some ⟨wx.heap.size, 0, none⟩) 1 (by unfold maxLen; simp) (Row.own o6 (fun i hi => by
        have hi0 : i = 0 := by have : i < 1 := hi; omega
        subst hi0
        rfl)) (fun e => by cases e)
      rw [show ([7] : List Int).length = 1 from rfl] at PD
      have HPD := Lib.hid PD
      have e64 : IntKind.i64.wrap ((A : Int) * 64) = (A : Int) * 64 := IntWalk.i64_in _ (by omega)
      clear PD n6 o6
      go_wp2_with fail
      refine HPD.out.mono ?_
      rintro r w7 (⟨rfl, h1, h2, x7, n7⟩ | ⟨rfl, h2, n7⟩)
      · obtain ⟨kk, hkk⟩ : ∃ q, max (last + 1) ((A : Int) * 64) = q := ⟨_, rfl⟩
        rw [hkk] at n7 h2 ⊢
        have hk2 : decide (kk ≤ Z) = false ∧ decide (kk < (A : Int) * 64) = false := by
          obtain ⟨hi, hq, hla, hZ, hA⟩ := HNU.out
          exact ⟨decide_eq_false (by omega), decide_eq_false (by omega)⟩
        obtain ⟨g3, g4⟩ := hk2
        have HI : Hid (NI cf b w2 w7 (k + 1) A kk) := Lib.hid (by
          obtain ⟨hi, hq, hla, hZ, hA⟩ := HNU.out
          have hcq := HCQ.out.1
          refine ⟨_, _, _, _, _, n7, fit_sm HNS.out.2 (by omega) (by rw [List.length_append]; simp; omega) (by omega), by omega, by rw [List.length_append]; simp; omega, ⟨by omega, by rw [List.length_append]; simp; omega⟩, ⟨by omega, by rw [List.length_append]; simp; omega, by omega⟩, by omega⟩)
        clear n7 h1 h2 hkk HPD
        go_wp2_with fail
        exact ⟨⟨k + 1, A, kk, rfl, rfl, by simp, by omega, HI⟩, by simp [intOf]; omega⟩
      · have HI : Hid (NI cf b w2 w7 (k + 1) A Z) := Lib.hid (by
          obtain ⟨hi, hq, hla, hZ, hA⟩ := HNU.out
          exact ⟨_, _, _, _, _, n7, HNS.out.2, by omega, hq, hla, hZ, by omega⟩)
        clear n7 h2 HPD
        go_wp2_with fail
        exact ⟨⟨k + 1, A, Z, rfl, rfl, by simp, by omega, HI⟩, by simp [intOf]; omega⟩
    have hge : decide ((k : Int) < (n : Int)) = false := decide_eq_false (by omega)
    have hge2 : decide (k < n) = false := decide_eq_false hlt
    clear hlt
    obtain ⟨_, _, _, _, _, ns, _⟩ := HI.out
    have HBE := Lib.hid (HBB.out.trans (ns.bel.mono HBB.out.size))
    clear ns HI
    go_wp2_with fail
    refine (awake24_any wr).mono ?_
    rintro r w9 ⟨rfl, b9⟩
    go_wp2_with fail
    go_ret
    exact ⟨rfl, HBE.out.trans (b9.mono HBE.out.size)⟩
theorem walk (H : Type) (enc : TypeId × Value → H) : Walk H enc Tryz.prog 9 Tryz.f9 := by
  intro W base args ds p hval hA
  rw [Tryz.params9] at hA hval
  obtain ⟨v0, v1, d0, d1, p0, p1, rfl, rfl, rfl, h0, h1⟩ := trodAll_two hA
  obtain ⟨z0, rfl, rfl, rfl, w0⟩ := open_int Tryz.underlying3 (hval 0 _ v0 rfl rfl) h0
  obtain ⟨a, n, c, Q, rfl, hn, hc, hQ⟩ := open_cas (hval 1 _ v1 rfl rfl) h1
  exact body z0 a n c Q W hn hc hQ

set_option maxRecDepth 100000 in
theorem lifted (os : Os) (started : os.Started) (H : Type) (enc : TypeId × Value → H) :
    ReturnsInHanded {} Tryz.checked os 9 .any (Rows.nodeNumbersSpec.pre6 enc Tryz.prog Tryz.f9 Rows.nodeNumbersRow.domain false) (Rows.nodeNumbersSpec.post enc Tryz.prog Tryz.f9 false true false false) :=
  returnsInHanded_of_change (C := Tryz.checked) own started (by kernel_rfl) Tryz.func9
    (ChangeSpec.witness6 (enc := enc) (C := Tryz.checked) false ⟨#[], #[.int .i64 0, .slice none 0 0], []⟩ 8 (by kernel_rfl) (by kernel_rfl) (by kernel_rfl) (by kernel_rfl))
    fun W base args ds gs before hval hW _ _ => step_of_walk laidOut (by rw [Tryz.params9]; exact of_decide_eq_true (by kernel_rfl)) (by kernel_rfl) Tryz.underlying4 rfl
      (fun ds h => by
        rw [Tryz.params9] at h
        match ds, h with
        | [_, _], _ => rfl) (walk H enc) W base args ds gs before hval hW

theorem holds : Rows.NodeNumbersSaid :=
  OpenClaim.holds_of_wide 9 Tryz.f9 rfl rfl rfl rfl rfl rfl rfl ⟨rfl, rfl, rfl, rfl, rfl⟩ rfl rfl rfl rfl rfl (by kernel_rfl) Tryz.func9 (by kernel_rfl)
    (of_decide_eq_true (by kernel_rfl)) (by unfold Func.isWrapper; first | (rw [if_pos (by decide +kernel)]; kernel_rfl) | (rw [if_neg (by decide +kernel)]; exact ⟨rfl, rfl⟩))
    (fun os started H enc _ => lifted os started H enc)
#print axioms holds
end Go.Proofs.YtiflmdekcjbmbaaGreat.NodeNumbers
