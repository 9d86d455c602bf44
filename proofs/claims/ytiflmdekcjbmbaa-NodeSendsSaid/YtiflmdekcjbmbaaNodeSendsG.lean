/-
  Law NodeSends: node 0 sends in its own slots alone, each frame with the next number; the call returns true. No condition.
-/
import Derived.Test.YtiflmdekcjbmbaaGNodeSends19
import Derived.Test.YtiflmdekcjbmbaaGNodeSends16
import Derived.Test.YtiflmdekcjbmbaaGNodeSends20
set_option maxRecDepth 100000
namespace Go.Proofs.Ytiflmdekcjbmbaa.NodeSends
set_option linter.unusedVariables false
set_option linter.unusedSimpArgs false
open Go.RowKit Go.ChangeShapes Go.WideShapes Go.ChangeAt Lb Nd Ie Fm
theorem own : ownKnob Try.prog.godebug = none := by kernel_rfl
theorem laidOut : laidOutB Try.prog = true := by kernel_rfl
theorem fit_sent {s : Ns} (f : Fit s) (o : Bool) (asn k d : Int) : Fit (sentN s o asn k d) :=
  ⟨f.c, f.id, f.z, f.d, f.p, f.lis, f.q, f.lost, f.tries, f.u, f.dn, f.g, ⟨Int.emod_nonneg _ (by decide), Int.emod_lt_of_pos _ (by decide)⟩, f.last, f.few, f.rk, f.root, f.ks⟩
theorem chan_three {s : Ns} (e : s.c.hops = [11, 15, 20]) {asn : Int} (h : 0 ≤ asn ∧ asn < 1099511627776) : chanN s asn = ([11, 15, 20] : List Int).getD (asn % 3).toNat 0 := by
  unfold chanN
  rw [e]
  have h1 : Hp.opn (fun i => ([11, 15, 20] : List Int).getD i 0) 0 3 = [11, 15, 20] := by decide
  have h2 : Hp.mayB (fun i => ([11, 15, 20] : List Int).getD i 0) 3 = true := by decide
  show Hp.chanB (fun i => ([11, 15, 20] : List Int).getD i 0) 0 3 asn 0 = _
  unfold Hp.chanB
  rw [if_pos ⟨h2, h.1, h.2, by decide, by decide⟩]
  unfold Hp.chan
  rw [h1, Int.add_zero]
  rfl
/-- What it does with a slot. -/
theorem plan_both {w : World} {b : Nat} {s : Ns} {h : Hm} (n : Nd w b s h) (f : Fit s) (h0 : s.id = 0) (hq : s.q = []) (asn : Int) (ha : 0 ≤ asn ∧ asn < 1099511627776) :
    Calls Try.prog 9 #[.pointer (some ⟨b, 0, none⟩), .int .i64 asn] w fun r w' => ∃ a c L s', r = .returned (.tuple #[.int .i64 (chanN s asn), .slice a L.length c]) ∧ L.length ≤ c ∧ c ≤ maxLen ∧ Row w' a L.length (bval L) ∧ Nd w' b s' h ∧ Mv (h.ex b) (h.ex b) w w' ∧
      ((asn % s.c.nodes = 0 ∧ L = encF (nextF0 s asn) ∧ s' = sentN s false asn 3 64) ∨ (asn % s.c.nodes ≠ 0 ∧ L = [] ∧ s' = s)) := by
  by_cases hm : asn % s.c.nodes = 0
  · refine (plan0_any n f h0 hq asn ha hm).mono ?_
    rintro r w' ⟨a, c, h1, h2, h3, h4, h5, h6⟩
    exact ⟨a, c, _, _, h1, h2, h3, h4, h5, h6, .inl ⟨hm, rfl, rfl⟩⟩
  · refine (plan0_off n f h0 asn ha hm).mono ?_
    rintro r w' ⟨h1, h2⟩
    exact ⟨none, 0, [], s, h1, Nat.le_refl _, Nat.zero_le _, Row.nil _ _ _, n.below h2, Mv.of_below h2, .inr ⟨hm, rfl, rfl⟩⟩
/-- Node 0 between two calls; it has sent j frames, but for whole rounds of the numbers. -/
def RI (cf : Cfg) (b : Nat) (w0 w : World) (j : Int) : Prop :=
  ∃ s h, Nd w b s h ∧ Fit s ∧ s.id = 0 ∧ s.c = cf ∧ s.q = [] ∧ (∀ k, k < 16 → s.paths k = []) ∧ s.seq = j ∧ (∀ q, h.ex b q → w0.heap.size ≤ q) ∧ Below w0.heap.size w0 w
theorem RI.below {cf : Cfg} {b : Nat} {w0 w w' : World} {j : Int} (h : RI cf b w0 w j) (k : Below w.heap.size w w') : RI cf b w0 w' j := by
  obtain ⟨s, hm, h1, h2, h3, h4, h5, h6, h7, h8, h9⟩ := h
  exact ⟨s, hm, h1.below k, h2, h3, h4, h5, h6, h7, h8, h9.trans (k.mono h9.size)⟩
theorem RI.bel {cf : Cfg} {b : Nat} {w0 w : World} {j : Int} (h : RI cf b w0 w j) : Below w0.heap.size w0 w := by
  obtain ⟨s, hm, h1, h2, h3, h4, h5, h6, h7, h8, h9⟩ := h
  exact h9
/-- What it sent, as it is read. -/
theorem sent_is {s : Ns} (f : Fit s) (h0 : s.id = 0) {asn : Int} (ha : 0 ≤ asn ∧ asn < 1099511627776) : okD' (encF (nextF0 s asn)) ∧ (encF (nextF0 s asn)).length ≤ 100000 ∧ 0 < (encF (nextF0 s asn)).length ∧ decF (encF (nextF0 s asn)) = .ok (nextF0 s asn) ∧ rankN s = 0 :=
  ⟨encF_ok (may_next f ha) okD_nil, len_next f ha, by rw [encF_len]; omega, decF_enc (may_next f ha) okD_nil, by unfold rankN; rw [(f.root h0).1, (f.root h0).2.2]; rfl⟩
set_option maxHeartbeats 8000000 in
theorem body (x0 x1 : Int) (a : Option Addr) (n c : Nat) (Q : Nat → Ca) (w : World) (hn : n ≤ c) (hc : c ≤ maxLen) (hQ : Cas w a n Q) : Calls Try.prog 3 #[.int .i64 x0, .int .i64 x1, .slice a n c] w fun r w' => r = .returned (.bool true) ∧ Below w.heap.size w w' := by
  have PFEW := few24_any a n c Q w hn hc hQ
  unfold maxLen at hc
  have hcap : (n : Int) ≤ 9223372036854775807 := by omega
  have HQ := Lib.hid hQ
  clear hQ
  go_enter Try.func3, Try.ntmps3
  go_wp2_with fail
  refine PFEW.mono ?_
  rintro r w1 ⟨q, rfl, hq, b1⟩
  clear PFEW
  cases q
  · clear hq
    go_wp2_with fail
    refine (awake24_any w1).mono ?_
    rintro r w2 ⟨rfl, b2⟩
    go_wp2_with fail
    go_ret
    exact ⟨rfl, b1.trans (b2.mono b1.size)⟩
  have hn120 : n ≤ 120 := hq rfl
  clear hq
  go_wp2_with fail
  refine (config_more x0 2 5 5 x1 5 1 w1).mono ?_
  rintro r w2 ⟨x, rfl, hx, hm, hh, b2, hcf⟩
  have hnew : newB x 0 = true := by
    unfold newB inB
    rw [hm]
    have := (mayQ_parts hm).1
    simp
    omega
  have hok := okc_may hm
  have b3 := (Below.refl w2.heap.size w2).alloc (Nat.le_refl _) (.cells #[.int .i64 x.nodes, .slice x.na x.nn x.nc, .slice x.ha x.hops.length x.hc, .int .i64 x.guard, .int .i64 x.err, .int .i64 x.keep, .int .i64 x.loss, .int .i64 x.queue, .int .i64 x.life] 28)
  have o3 := Own.new w2 28 #[.int .i64 x.nodes, .slice x.na x.nn x.nc, .slice x.ha x.hops.length x.hc, .int .i64 x.guard, .int .i64 x.err, .int .i64 x.keep, .int .i64 x.loss, .int .i64 x.queue, .int .i64 x.life]
  have hx3 := hx.below b3
  have bb3 := b1.trans ((b2.trans (b3.mono b2.size)).mono b1.size)
  have HM := Lib.hid (And.intro hnew (And.intro hok hh))
  clear hx b3 hcf hh hnew hok hm
  go_upto_region 4 with (fail)
  obtain ⟨xb, hxb⟩ : ∃ q, w2.heap.size = q := ⟨_, rfl⟩
  rw [hxb] at o3 ⊢
  clear hxb b2 b1
  generalize w2.alloc (.cells #[.int .i64 x.nodes, .slice x.na x.nn x.nc, .slice x.ha x.hops.length x.hc, .int .i64 x.guard, .int .i64 x.err, .int .i64 x.keep, .int .i64 x.loss, .int .i64 x.queue, .int .i64 x.life] 28) = w3 at *
  clear w2 w1
  have PN := newn_any x 0 w3 hx3
  go_wp2_with (refine wpList_load_row rfl _ _ rfl xb rfl 28 #[.int .i64 x.nodes, .slice x.na x.nn x.nc, .slice x.ha x.hops.length x.hc, .int .i64 x.guard, .int .i64 x.err, .int .i64 x.keep, .int .i64 x.loss, .int .i64 x.queue, .int .i64 x.life] (0, 0) _ o3 Try.underlying28 rfl (by kernel_rfl) ?_)
  refine PN.mono ?_
  intro r w4 hN
  unfold NewPost at hN
  rw [if_pos HM.out.1] at hN
  obtain ⟨b, h, rfl, n4, hex, b4⟩ := hN
  have HI : Hid (RI x.cfg b w3 w4 0) := Lib.hid ⟨_, h, n4, fit_fresh HM.out.1, rfl, rfl, rfl, fun _ _ => rfl, rfl, hex, b4⟩
  obtain ⟨nd, hnd⟩ : ∃ q, x.nodes = q := ⟨_, rfl⟩
  obtain ⟨qu, hqu⟩ : ∃ q, x.queue = q := ⟨_, rfl⟩
  have HO : Hid (∀ wz, Below w3.heap.size w3 wz → wz.cell? ⟨xb, 0, none⟩ = some (.int .i64 nd) ∧ wz.cell? ⟨xb, 7, none⟩ = some (.int .i64 qu)) := Lib.hid (fun wz bz => by
    have o := below_own bz o3 o3.lt
    rw [← hnd, ← hqu]
    exact ⟨o.cell 0, o.cell 7⟩)
  have HND : Hid ((2 ≤ nd ∧ nd ≤ 16) ∧ (1 ≤ qu ∧ qu ≤ 32)) := Lib.hid (by rw [← hnd, ← hqu]; exact ⟨HM.out.2.1.nodes, HM.out.2.1.queue⟩)
  obtain ⟨cf, hcf⟩ : ∃ q, x.cfg = q := ⟨_, rfl⟩
  have HC : Hid (cf.nodes = nd ∧ cf.hops = [11, 15, 20]) := Lib.hid (by rw [← hcf, ← hnd]; exact ⟨rfl, HM.out.2.2⟩)
  rw [hcf] at HI
  have HBB := Lib.hid bb3
  clear PN n4 hex b4 hnd hqu hcf HM hx3 o3 bb3
  go_wp2_with fail
  go_loopw [9, 30] (fun zs i wr => ∃ (k : Nat) (j : Int), zs = .int .i64 j ∧ i = .int .i64 k ∧ k ≤ n ∧ Hid (0 ≤ j ∧ j < 256) ∧ Hid (RI cf b w3 wr j)) (fun _ i _ => n - (intOf i).toNat)
  case atStart => exact ⟨0, 0, rfl, rfl, by omega, Lib.hid (by omega), HI⟩
  case round =>
    clear HI
    obtain ⟨k, j, rfl, rfl, hk, HJ, HI⟩ := hrel
    by_cases hlt : k < n
    · have b5 := HBB.out.trans (HI.out.bel.mono HBB.out.size)
      obtain ⟨bo, off, rfl, hbo, hcs⟩ := HQ.out.cells b5 hlt
      have hba := (HQ.out.at_ k hlt).b1
      have hbb := (HQ.out.at_ k hlt).b2
      obtain ⟨⟨cd, cn, cm, ca, ⟨pk, ps, pd, pq, pL, pa, pc, pdata, pb, pe⟩, ⟨qf, qt, qn, ql, qp, qd⟩, qa, qc, qb, qe, ba_, bc, B⟩, hqq⟩ : ∃ q, Q k = q := ⟨_, rfl⟩
      rw [hqq] at hcs hba hbb
      obtain ⟨ll, hll⟩ : ∃ q, pL.length = q := ⟨_, rfl⟩
      obtain ⟨dl, hdl⟩ : ∃ q, pdata.length = q := ⟨_, rfl⟩
      obtain ⟨pl, hpl⟩ : ∃ q, qp.length = q := ⟨_, rfl⟩
      obtain ⟨ql2, hql⟩ : ∃ q, qd.length = q := ⟨_, rfl⟩
      obtain ⟨bl, hbl⟩ : ∃ q, B.length = q := ⟨_, rfl⟩
      have hln : bl ≤ 9223372036854775807 := by
        have h1 : B.length ≤ bc := hba
        have h2 : bc ≤ maxLen := hbb
        unfold maxLen at h2
        omega
      have e : (⟨cd, cn, cm, ca, ⟨pk, ps, pd, pq, pL, pa, pc, pdata, pb, pe⟩, ⟨qf, qt, qn, ql, qp, qd⟩, qa, qc, qb, qe, ba_, bc, B⟩ : Ca).vals = [.int .i64 cd, .int .i64 cn, .int .i64 cm, .int .i64 ca, .int .i64 pk, .int .i64 ps, .int .i64 pd, .int .i64 pq, .slice pa ll pc, .slice pb dl pe, .int .i64 qf, .int .i64 qt, .int .i64 qn, .int .i64 ql, .slice qa pl qc, .slice qb ql2 qe, .slice ba_ bl bc] := by
        subst hll hdl hpl hql hbl
        rfl
      rw [e] at hcs
      have d0 := hcs 0 (by decide)
      have d1 := hcs 1 (by decide)
      have d2 := hcs 2 (by decide)
      have d3 := hcs 3 (by decide)
      have d4 := hcs 4 (by decide)
      have d5 := hcs 5 (by decide)
      have d6 := hcs 6 (by decide)
      have d7 := hcs 7 (by decide)
      have d8 := hcs 8 (by decide)
      have d9 := hcs 9 (by decide)
      have d10 := hcs 10 (by decide)
      have d11 := hcs 11 (by decide)
      have d12 := hcs 12 (by decide)
      have d13 := hcs 13 (by decide)
      have d14 := hcs 14 (by decide)
      have d15 := hcs 15 (by decide)
      have d16 := hcs 16 (by decide)
      simp only [List.getElem?_cons_zero, List.getElem?_cons_succ, Option.getD_some] at d0 d1 d2 d3 d4 d5 d6 d7 d8 d9 d10 d11 d12 d13 d14 d15 d16
      rw [Nat.add_zero] at d0
      clear hcs e hqq hdl hpl hql hbl hll hba hbb
      have ni1 := HI.out.below ((Below.refl wr.heap.size wr).alloc (Nat.le_refl _) (.cells #[.int .i64 cd, .int .i64 cn, .int .i64 cm, .int .i64 ca, .int .i64 pk, .int .i64 ps, .int .i64 pd, .int .i64 pq, .slice pa ll pc, .slice pb dl pe, .int .i64 qf, .int .i64 qt, .int .i64 qn, .int .i64 ql, .slice qa pl qc, .slice qb ql2 qe, .slice ba_ bl bc] 39))
      have ox := Own.new wr 39 #[.int .i64 cd, .int .i64 cn, .int .i64 cm, .int .i64 ca, .int .i64 pk, .int .i64 ps, .int .i64 pd, .int .i64 pq, .slice pa ll pc, .slice pb dl pe, .int .i64 qf, .int .i64 qt, .int .i64 qn, .int .i64 ql, .slice qa pl qc, .slice qb ql2 qe, .slice ba_ bl bc]
      have HNI := Lib.hid ni1
      clear ni1 b5 HI
      go_upto_region 11 with (fail)
      obtain ⟨yb, hyb⟩ : ∃ q, wr.heap.size = q := ⟨_, rfl⟩
      rw [hyb] at ox ⊢
      clear hyb
      generalize wr.alloc (.cells #[.int .i64 cd, .int .i64 cn, .int .i64 cm, .int .i64 ca, .int .i64 pk, .int .i64 ps, .int .i64 pd, .int .i64 pq, .slice pa ll pc, .slice pb dl pe, .int .i64 qf, .int .i64 qt, .int .i64 qn, .int .i64 ql, .slice qa pl qc, .slice qb ql2 qe, .slice ba_ bl bc] 39) = wx at *
      have y1 : wx.cell? ⟨yb, 1, none⟩ = some (.int .i64 cn) := ox.cell 1
      have y16 : wx.cell? ⟨yb, 16, none⟩ = some (.slice ba_ bl bc) := ox.cell 16
      clear d0 d1 d2 d3 d4 d5 d6 d7 d8 d9 d10 d11 d12 d13 d14 d15 d16 ox
      clear wr
      obtain ⟨s, hm, n5, f5, id5, c5, q5, p5, s5, x5, l5⟩ := HNI.out
      have PS := send0_any n5 f5 id5 p5 (k : Int) cn ba_ bl bc hln
      have HF := Lib.hid (And.intro f5 (And.intro id5 (And.intro c5 (And.intro q5 (And.intro p5 (And.intro s5 x5))))))
      have HNL := Lib.hid (And.intro n5 l5)
      clear HNI n5 f5 id5 c5 q5 p5 s5 x5 l5 hln
      go_wp2_with fail
      refine PS.mono ?_
      rintro r w6 ⟨⟨e6, rfl⟩, b6⟩
      have n6 := HNL.out.1.below b6
      have l6 := HNL.out.2.trans (b6.mono HNL.out.2.size)
      have PP := plan_both n6 HF.out.1 HF.out.2.1 HF.out.2.2.2.1 (k : Int) (by omega)
      have hch : chanN s (k : Int) = ([11, 15, 20] : List Int).getD (((k : Int) % 3)).toNat 0 := chan_three (by rw [HF.out.2.2.1]; exact HC.out.2) (by omega)
      obtain ⟨ch, hch2⟩ : ∃ q, chanN s (k : Int) = q := ⟨_, rfl⟩
      rw [hch2] at PP hch
      have HCH := Lib.hid hch
      have HL6 := Lib.hid l6
      clear PS HNL y1 y16 n6 l6 b6 hch hch2
      go_wp2_with fail
      refine PP.mono ?_
      rintro r w7 ⟨a7, c7, L, s7, rfl, k1, k2, k3, n7, m7, hor⟩
      have l7 := HL6.out.trans (m7.down HF.out.2.2.2.2.2.2 HL6.out.size)
      have c8 : ∀ z : Gw w7, z.toW.cell? ⟨xb, 0, none⟩ = some (.int .i64 nd) := fun z => (HO.out _ (l7.trans (z.ok.mono l7.size))).1
      have c9 : ∀ z : Gw w7, z.toW.cell? ⟨xb, 7, none⟩ = some (.int .i64 qu) := fun z => (HO.out _ (l7.trans (z.ok.mono l7.size))).2
      have hq7 : s7.q = [] := by rcases hor with ⟨_, _, rfl⟩ | ⟨_, _, rfl⟩ <;> exact HF.out.2.2.2.1
      have PW : Hid (∀ z : Gw w7, Calls Try.prog 10 #[.pointer (some ⟨b, 0, none⟩)] z.toW fun r w' => r = .returned (.int .i64 0) ∧ z.toW = w') := Lib.hid (fun z => by
        have := waiting_any (n7.below z.ok)
        rw [hq7] at this
        exact this)
      obtain ⟨r3, hr3⟩ : ∃ q, k % 3 = q := ⟨_, rfl⟩
      have hr3l : r3 < 3 := by omega
      have e1 : (k : Int).tmod 3 = (r3 : Int) := by rw [Int.tmod_eq_emod_of_nonneg (by omega)]; omega
      have e2 := Lib.hid (show wrap64 (r3 : Int) = (r3 : Int) from IntWalk.wrap64_in _ (by omega))
      have e3 := Lib.hid (show IntKind.i64.wrap (r3 : Int) = (r3 : Int) from IntWalk.i64_in _ (by omega))
      have hcell : (#[.int .i64 11, .int .i64 15, .int .i64 20] : Array Value)[r3]? = some (.int .i64 ch) := by
        rw [HCH.out, show ((k : Int) % 3).toNat = r3 by omega]
        rcases (show r3 = 0 ∨ r3 = 1 ∨ r3 = 2 by omega) with rfl | rfl | rfl <;> rfl
      have HCELL := Lib.hid hcell
      obtain ⟨nl, hnl⟩ : ∃ q, L.length = q := ⟨_, rfl⟩
      obtain ⟨rm, hrm⟩ : ∃ q, (k : Int).tmod nd = q := ⟨_, rfl⟩
      have hnd := HND.out.1
      have hrm1 : (k : Int) % nd = rm := by rw [← hrm, Int.tmod_eq_emod_of_nonneg (by omega)]
      have hrm2 := Int.emod_nonneg (k : Int) (b := nd) (by omega)
      have hrm3 := Int.emod_lt_of_pos (k : Int) (b := nd) (by omega)
      rw [hrm1] at hrm2 hrm3
      have e4 := Lib.hid (show wrap64 rm = rm from IntWalk.wrap64_in _ (by omega))
      have e5 := Lib.hid (show IntKind.i64.wrap rm = rm from IntWalk.i64_in _ (by omega))
      have hqb : ∃ qb : Bool, (rm == 0) = qb ∧ decide ((0 : Int) < (nl : Int)) = qb ∧ decide (0 < nl) = qb := by
        have e : s.c.nodes = nd := by rw [HF.out.2.2.1]; exact HC.out.1
        rw [e, hrm1] at hor
        rcases hor with ⟨h1, h2, _⟩ | ⟨h1, h2, _⟩
        · have := (sent_is HF.out.1 HF.out.2.1 (asn := (k : Int)) (by omega)).2.2.1
          rw [← h2, hnl] at this
          exact ⟨true, by simpa using h1, decide_eq_true (by omega), decide_eq_true this⟩
        · have : nl = 0 := by rw [← hnl, h2]; rfl
          exact ⟨false, by simpa using h1, decide_eq_false (by omega), decide_eq_false (by omega)⟩
      obtain ⟨qb, g1, g2, g3⟩ := hqb
      have g4 : (qb != qb) = false := by cases qb <;> rfl
      have g5 : decide (qu < 0) = false := decide_eq_false (by have := HND.out.2; omega)
      have hnd0 : (nd == 0) = false := by simp; omega
      have HOR := Lib.hid hor
      have HK := Lib.hid (And.intro k1 (And.intro k2 (And.intro k3 (And.intro n7 (And.intro l7 hnl)))))
      rw [hnl]
      clear hor hq7 hcell k1 k2 k3 n7 m7 l7 hnl hrm1 PP
      clear hr3
      go_upto_region 14 with (fail)
      refine reg14 k nl c7 b xb r3 ch nd qu rm qb a7 w7 _ _ _ _ _ _ _ _ _ _ _ _ _ _ _ _ _ _ _ _ _ _ _ _ _ _ _ _ _ _ _ _ _ _ _ _ _ _ _ _ _ _ _ _ _ _ _ _ _ _ _ _ _ _ _ _ _ _ _ _ _ _ _ _ _ _ _ _ _ _ _ _ _ _ _ _ _ _ _ _ _ _ _ _ _ _ _ _ _ _ _ _ _ _ _ _ _ _ _ _ _ _ _ _ _ _ _ _ _ _ _ _ _ _ _ _ _ _ _ _ hr3l e1 e2.out e3.out HCELL.out hrm e4.out e5.out g1 g2 g3 g4 g5 hnd0 (by have := HND.out.1; omega) c8 c9 PW.out (fun _ _ _ _ _ _ _ _ _ _ _ _ _ _ _ _ _ _ _ _ _ _ _ _ w8 b8 => ?_)
      clear c8 c9 PW
      obtain ⟨k1, k2, k3, n7, l7, hnl⟩ := HK.out
      have D8 := k3.below b8
      have n8 := n7.below b8
      have l8 := l7.trans (b8.mono l7.size)
      have hj := HJ.out
      have e6 : IntKind.i64.wrap (j + 1) = j + 1 := IntWalk.i64_in _ (by omega)
      obtain ⟨j2, hj2⟩ : ∃ q, (j + 1).tmod 256 = q := ⟨_, rfl⟩
      have hj3 : (j + 1) % 256 = j2 := by rw [← hj2, Int.tmod_eq_emod_of_nonneg (by omega)]
      have E7 := Lib.hid (show wrap64 j2 = j2 from IntWalk.wrap64_in _ (by omega))
      have E8 := Lib.hid (show IntKind.i64.wrap j2 = j2 from IntWalk.i64_in _ (by omega))
      have hkn : n - (k + 1) < n - k := by omega
      cases qb
      · have h0 : nl = 0 := by
          have := of_decide_eq_false g3
          omega
        have hs7 : s7 = s := by
          rcases HOR.out with ⟨_, h2, _⟩ | ⟨_, _, h3⟩
          · have := (sent_is HF.out.1 HF.out.2.1 (asn := (k : Int)) (by omega)).2.2.1
            rw [← h2] at this
            omega
          · exact h3
        have HI : Hid (RI cf b w3 w8 j) := Lib.hid ⟨s, hm, hs7 ▸ n8, HF.out.1, HF.out.2.1, HF.out.2.2.1, HF.out.2.2.2.1, HF.out.2.2.2.2.1, HF.out.2.2.2.2.2.1, HF.out.2.2.2.2.2.2, l8⟩
        subst h0
        clear HK k1 k2 k3 n7 l7 hnl D8 n8 l8 b8 HOR hs7 g1 g2 g3 hj2 hj3
        go_wp2_with fail
        exact ⟨⟨k + 1, j, rfl, by simp, by omega, HJ, HI⟩, by simp [intOf]; omega⟩
      have h0 : 0 < nl := of_decide_eq_true g3
      have g6 : (nl == 0) = false := by simp; omega
      have g7 : ((nl : Int) == 0) = false := by simp; omega
      obtain ⟨x1, x2⟩ : L = encF (nextF0 s (k : Int)) ∧ s7 = sentN s false (k : Int) 3 64 := by
        rcases HOR.out with ⟨_, h2, h3⟩ | ⟨_, h2, _⟩
        · exact ⟨h2, h3⟩
        · rw [h2] at hnl
          simp at hnl
          omega
      obtain ⟨y1, y2, y3, y4, y5⟩ := sent_is HF.out.1 HF.out.2.1 (asn := (k : Int)) (by omega)
      rw [← x1] at y1 y2 y3 y4
      have PD := rdecF_any a7 c7 L w8 k1 k2 y2 D8 y1
      rw [hnl] at PD
      have HD := Lib.hid (And.intro y4 y5)
      have HI : Hid (RI cf b w3 w8 j2) := Lib.hid ⟨_, hm, n8, by rw [x2]; exact fit_sent HF.out.1 _ _ _ _, by rw [x2]; exact HF.out.2.1, by rw [x2]; exact HF.out.2.2.1, by rw [x2]; exact HF.out.2.2.2.1, by rw [x2]; exact HF.out.2.2.2.2.1, by rw [x2, ← hj3, ← HF.out.2.2.2.2.2.1]; rfl, HF.out.2.2.2.2.2.2, l8⟩
      have HS5 : Hid (s.seq = j) := Lib.hid HF.out.2.2.2.2.2.1
      have HJ2 : Hid (0 ≤ j2 ∧ j2 < 256) := Lib.hid (by omega)
      clear HK k1 k2 k3 n7 l7 hnl D8 n8 l8 b8 HOR g1 g2 g3 x1 x2 y1 y2 y3 y4 y5 h0 hj3
      go_wp2_with fail
      refine PD.mono ?_
      rintro r w9 hR
      unfold DecFPost at hR
      rw [HD.out.1] at hR
      obtain ⟨p, hf, rfl, hat, b9⟩ := hR
      have z1 : p.s = 0 := congrArg Fr.s hf
      have z2 : p.q = j := (congrArg Fr.q hf).trans HS5.out
      have z3 : els p.L = [⟨1, (k : Int), rankN s, 0, []⟩, ⟨3, 0, 0, 0, s.c.hops⟩] := congrArg Fr.ies hf
      have z4 : p.L.length = 2 := by
        have := congrArg List.length z3
        rwa [els_len] at this
      have z5 : (p.L.getD 0 ep0).e.asn = (k : Int) ∧ (p.L.getD 0 ep0).e.rank = 0 := by
        obtain ⟨pL, hpL⟩ : ∃ q, p.L = q := ⟨_, rfl⟩
        rw [hpL] at z3 ⊢
        match pL, z3 with
        | u :: _, z3 =>
          have hu : u.e = ⟨1, (k : Int), rankN s, 0, []⟩ := by
            have := congrArg (fun l => l.headD ⟨0, 0, 0, 0, []⟩) z3
            exact this
          show u.e.asn = _ ∧ u.e.rank = _
          rw [hu]
          exact ⟨rfl, HD.out.2⟩
      have her := hat.els.row
      obtain ⟨pk, ps, pd, pq, pL, pa, pc, pdata, pb, pe⟩ := p
      dsimp only at z1 z2 z3 z4 z5 her
      subst z1 z2
      rw [z4] at her
      obtain ⟨nn, hnn⟩ : ∃ q, pdata.length = q := ⟨_, rfl⟩
      simp only [Fp.vals, z4, hnn]
      have bA := (Below.refl w9.heap.size w9).alloc (Nat.le_refl _) (.cells #[.int .i64 pk, .int .i64 0, .int .i64 pd, .int .i64 pq, .slice pa 2 pc, .slice pb nn pe] 35)
      have oA := Own.new w9 35 #[.int .i64 pk, .int .i64 0, .int .i64 pd, .int .i64 pq, .slice pa 2 pc, .slice pb nn pe]
      obtain ⟨rb, ro, rfl, m1, m2, r1, r2, m3, m4⟩ := erow her bA (show 0 < 2 by decide) rfl
      rw [z5.1] at r1
      rw [z5.2] at r2
      rw [Nat.zero_mul, Nat.add_zero] at r1 r2
      replace HI : Hid (RI cf b w3 (w9.alloc (.cells #[.int .i64 pk, .int .i64 0, .int .i64 pd, .int .i64 pq, .slice (some ⟨rb, ro, none⟩) 2 pc, .slice pb nn pe] 35)) j2) := Lib.hid ((HI.out.below b9).below bA)
      clear hf hat b9 bA z3 z4 z5 her hnn PD HD HS5 m1 m2 m3 m4
      go_upto_region 18 with (fail)
      obtain ⟨fb, hfb⟩ : ∃ q, w9.heap.size = q := ⟨_, rfl⟩
      rw [hfb] at oA ⊢
      clear hfb
      generalize w9.alloc (.cells #[.int .i64 pk, .int .i64 0, .int .i64 pd, .int .i64 pq, .slice (some ⟨rb, ro, none⟩) 2 pc, .slice pb nn pe] 35) = w10 at *
      have f1 : w10.cell? ⟨fb, 1, none⟩ = some (.int .i64 0) := oA.cell 1
      have f3 : w10.cell? ⟨fb, 3, none⟩ = some (.int .i64 pq) := oA.cell 3
      have f4 : w10.cell? ⟨fb, 4, none⟩ = some (.slice (some ⟨rb, ro, none⟩) 2 pc) := oA.cell 4
      have g8 : (pq != pq) = false := by simp
      have g9 : ((k : Int) != (k : Int)) = false := by simp
      clear oA w9 w8
      refine reg18 k fb rb ro pc pq w10 _ _ _ _ _ _ _ _ _ _ _ _ _ _ _ _ _ _ _ _ _ _ _ _ _ _ _ _ _ _ _ _ _ _ _ _ _ _ _ _ _ _ _ _ _ _ _ _ _ _ _ _ _ _ _ _ _ _ _ _ _ _ _ _ _ _ _ _ _ _ _ _ _ _ _ _ _ _ _ _ _ _ _ _ _ _ _ _ _ _ _ _ _ _ _ _ _ _ _ _ _ _ _ _ _ _ _ _ _ _ _ _ _ _ _ _ _ _ _ _ _ f1 f3 f4 r1 r2 g8 g9 (fun _ _ _ _ _ _ _ _ _ _ _ _ _ _ _ _ _ _ _ _ _ _ _ _ _ _ _ _ _ _ _ _ _ _ _ w11 b11 => ?_)
      replace HI : Hid (RI cf b w3 w11 j2) := Lib.hid (HI.out.below b11)
      clear f1 f3 f4 r1 r2 b11
      have e7 := E7.out
      have e8 := E8.out
      go_wp2_with fail
      clear e6 e7 e8 E7 E8
      exact ⟨⟨k + 1, j2, rfl, by simp, by omega, HJ2, HI⟩, by simp [intOf]; omega⟩
    · have hge : decide ((k : Int) < (n : Int)) = false := decide_eq_false (by omega)
      have hge2 : decide (k < n) = false := decide_eq_false hlt
      clear hlt
      have HBE := Lib.hid (HBB.out.trans (HI.out.bel.mono HBB.out.size))
      clear HI
      go_wp2_with fail
      refine (awake24_any wr).mono ?_
      rintro r w9 ⟨rfl, b9⟩
      go_wp2_with fail
      go_ret
      exact ⟨rfl, HBE.out.trans (b9.mono HBE.out.size)⟩
theorem walk (H : Type) (enc : TypeId × Value → H) : Walk H enc Try.prog 3 Try.f3 := by
  intro W base args ds p hval hA
  rw [Try.params3] at hA hval
  obtain ⟨v0, v1, v2, d0, d1, d2, p0, p1, p2, rfl, rfl, rfl, h0, h1, h2⟩ := trodAll_three hA
  obtain ⟨z0, rfl, rfl, rfl, w0⟩ := open_int Try.underlying3 (hval 0 _ v0 rfl rfl) h0
  obtain ⟨z1, rfl, rfl, rfl, w1⟩ := open_int Try.underlying3 (hval 1 _ v1 rfl rfl) h1
  obtain ⟨a, n, c, Q, rfl, hn, hc, hQ⟩ := open_cas (hval 2 _ v2 rfl rfl) h2
  exact body z0 z1 a n c Q W hn hc hQ

set_option maxRecDepth 100000 in
theorem lifted (os : Os) (started : os.Started) (H : Type) (enc : TypeId × Value → H) :
    ReturnsInHanded {} Try.checked os 3 .any (Rows.nodeSendsSpec.pre6 enc Try.prog Try.f3 Rows.nodeSendsRow.domain false) (Rows.nodeSendsSpec.post enc Try.prog Try.f3 false true false false) :=
  returnsInHanded_of_change (C := Try.checked) own started (by kernel_rfl) Try.func3
    (ChangeSpec.witness6 (enc := enc) (C := Try.checked) false ⟨#[], #[.int .i64 0, .int .i64 0, .slice none 0 0], []⟩ 8 (by kernel_rfl) (by kernel_rfl) (by kernel_rfl) (by kernel_rfl))
    fun W base args ds gs before hval hW _ _ => step_of_walk laidOut (by rw [Try.params3]; exact of_decide_eq_true (by kernel_rfl)) (by kernel_rfl) Try.underlying4 rfl
      (fun ds h => by
        rw [Try.params3] at h
        match ds, h with
        | [_, _, _], _ => rfl) (walk H enc) W base args ds gs before hval hW

theorem holds : Rows.NodeSendsSaid :=
  OpenClaim.holds_of_wide 3 Try.f3 rfl rfl rfl rfl rfl rfl rfl ⟨rfl, rfl, rfl, rfl, rfl⟩ rfl rfl rfl rfl rfl (by kernel_rfl) Try.func3 (by kernel_rfl)
    (of_decide_eq_true (by kernel_rfl)) (by unfold Func.isWrapper; first | (rw [if_pos (by decide +kernel)]; kernel_rfl) | (rw [if_neg (by decide +kernel)]; exact ⟨rfl, rfl⟩))
    (fun os started H enc _ => lifted os started H enc)
#print axioms holds
end Go.Proofs.Ytiflmdekcjbmbaa.NodeSends
