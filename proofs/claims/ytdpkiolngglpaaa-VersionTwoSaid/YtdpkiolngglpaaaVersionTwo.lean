/-
  Law VersionTwo: a node that prepares what was begun, and commits what counts, has at every moment the cells of a version that counts or counted, and what is begun clashes nowhere; the call returns true. No condition.
-/
import Derived.Test.YtdpkiolngglpaaaVeSwAll
set_option maxRecDepth 100000
namespace Go.Proofs.Ytdpkiolngglpaaa.VersionTwo
set_option linter.unusedVariables false
set_option linter.unusedSimpArgs false
open Go.RowKit Go.ChangeShapes Go.WideShapes Go.ChangeAt Go.Deep Lb Cl Ce Mi Al Ve
theorem own : ownKnob Try.prog.godebug = none := by kernel_rfl
theorem laidOut : laidOutB Try.prog = true := by kernel_rfl
set_option maxHeartbeats 100000000 in
theorem body (x0 : Int) (a : Option Addr) (n c : Nat) (V : Nat → Value) (Q : Nat → Kl) (w : World) (hn : n ≤ c) (hc : c ≤ maxLen) (hQ : Kls w a n V Q) :
    Calls Try.prog 5 #[.int .i64 x0, .slice a n c] w fun r w' => r = .returned (.bool true) ∧ Below w.heap.size w w' := by
  have hend : ∀ wz, Below w.heap.size w wz → Calls Try.prog 8 #[] wz fun r w' => r = .returned (.bool true) ∧ Below w.heap.size w w' := fun wz tz =>
    (awake_any wz).mono (by rintro r w' ⟨rfl, b1⟩; exact ⟨rfl, tz.trans (b1.mono tz.size)⟩)
  have PF := few23_any a n c V Q w hn hc hQ
  have hn63 : (n : Int) ≤ 9223372036854775807 := by unfold maxLen at hc; omega
  obtain ⟨i0, hi0, hz0, hz1, hz2⟩ := info_parts infoS
  obtain ⟨n0, hn0, hn6⟩ : ∃ n0 : Nat, wrap64 ((IntKind.u64.wrap x0).tmod 6) = (n0 : Int) ∧ n0 < 6 := by
    rw [IntKind.wrap_u64, Int.tmod_eq_emod_of_nonneg (Int.emod_nonneg _ (by decide))]
    refine ⟨((x0 % 18446744073709551616) % 6).toNat, ?_, by omega⟩
    rw [IntWalk.wrap64_in _ ⟨by omega, by omega⟩]
    omega
  obtain ⟨N, hN⟩ : ∃ N, n0 + 1 = N := ⟨_, rfl⟩
  have e1 : IntKind.i64.wrap (1 + (n0 : Int)) = (N : Int) := by rw [IntWalk.i64_in _ (by omega)]; omega
  have hN1 : 1 ≤ N ∧ N ≤ 6 := by omega
  have hmin : min (max (N : Int) 1) 16 = (N : Int) := by omega
  have hmk : ∀ w : World, (Instr.makeSlice 60 (.int .i64 (N : Int)) (.int .i64 (N : Int))).run Try.prog w = .ok (.slice (some ⟨w.heap.size, 0, none⟩) N N) (w.alloc (.cells (madeCells #[.pointer none] N) 54)) := by
    intro w
    have := run_make w 60 54 i0 (.pointer none) Try.underlying60 hi0 hz0 .i64 .i64 (N : Int) (N : Int) (by omega) (by omega) (by rw [hz2]; omega) (by omega)
    rw [this, hz1]
    simp [Value.cells]
  have HCS : Hid (madeCells #[Value.pointer none] N = (List.replicate N (Value.pointer none)).toArray) := Lib.hid (by
    apply Array.toList_inj.1
    simpa using toList_madeCells_one (Value.pointer none) N)
  have HMN := Lib.hid hmin
  have HQ := Lib.hid hQ
  clear hQ hN hmin
  go_enter Try.func5, Try.ntmps5
  go_wp2_with fail
  refine PF.mono ?_
  rintro r w1 ⟨q, rfl, hq, b1⟩
  cases q
  · go_wp2_with fail
    refine (hend _ b1).mono ?_
    rintro r w9 ⟨rfl, b9⟩
    go_wp2_with fail
    go_ret
    exact ⟨rfl, b9⟩
  have hn80 : n ≤ 80 := hq rfl
  clear PF hq
  go_upto_region 4 with (fail)
  rw [hn0]
  go_wp2_with fail
  clear e1 hn0 hn6
  refine (new_any (N : Int) w1).mono ?_
  rintro r w2 ⟨b, rfl, hb, h2, b2⟩
  rw [HMN.out] at h2
  have b12 := b1.trans (b2.mono b1.size)
  go_upto_region 6 with (fail)
  obtain ⟨sb, hsb⟩ : ∃ q, w2.heap.size = q := ⟨_, rfl⟩
  have ma := (Below.refl w2.heap.size w2).alloc (Nat.le_refl _) (.cells (madeCells #[.pointer none] N) 54)
  have hs3 := ma.size
  have T0 : Mk w (w2.alloc (.cells (madeCells #[.pointer none] N) 54)) b N sb 0 (fun _ => 0) := by
    refine ⟨h2.below ma, (Blk.same ?_ HCS.out).ext (fun i _ => rfl), (fun i hi => absurd hi (by omega)), (fun i j hij hj => absurd hj (by omega)), Nat.le_trans b1.size hb, by rw [← hsb]; exact h2.blk.lt, b12.trans (ma.mono b12.size)⟩
    rw [← hsb]
    exact Own.new w2 _ _
  rw [hsb]
  generalize w2.alloc (.cells (madeCells #[.pointer none] N) 54) = w3 at *
  clear hsb ma hs3 h2 b2 b12 hb hmk HCS b1
  clear w2
  go_wp2_with fail
  go_loopw [38] (fun i wr => ∃ (k : Nat) (pl : Nat → Nat), i = .int .i64 k ∧ k ≤ N ∧ Mk w wr b N sb k pl) (fun i _ => N - (intOf i).toNat)
  case atStart => exact ⟨0, _, rfl, Nat.zero_le _, T0⟩
  case round =>
    clear T0
    obtain ⟨k, pl, rfl, hk, T⟩ := hrel
    by_cases hlt : k < N
    · go_wp2_with fail
      refine (newplan_any wr).mono ?_
      rintro r w4 ⟨p, rfl, hp, hP, b4⟩
      have T4 := T.below b4
      have c0 : w4.cell? ⟨sb, k, none⟩ = some (slV pl k k) := T4.sl.cell hlt
      have f0 : w4.frozen? ⟨sb, k, none⟩ = false := T4.sl.free k
      have T5 := T.more hp hP b4
      go_wp2_with fail
      exact ⟨⟨k + 1, _, by simp, by omega, T5⟩, by simp [intOf]; omega⟩
    obtain rfl : N = k := by omega
    clear hlt hk
    obtain ⟨Z, hZ⟩ : ∃ Z : Array Value, (List.replicate 1296 (Value.slice none 0 0)).toArray = Z := ⟨_, rfl⟩
    have hiA : (Try.prog.info? 62).map (fun i => (i.zero, i.size)) = some (some (.agg Z), Z.size) := by rw [← hZ]; kernel_rfl
    have HZ := Lib.hid hZ
    clear hZ
    go_upto_region 11 with (fail)
    refine wp_alloc_var rfl rfl hiA ?_
    have ma := (Below.refl wr.heap.size wr).alloc (Nat.le_refl _) (.cells Z 62)
    have TA := T.below ma
    have oP : Blk (wr.alloc (.cells Z 62)) wr.heap.size 62 1296 (fun _ => .slice none 0 0) := Blk.same (Own.new wr 62 Z) HZ.out.symm
    have hpl : ∀ i, i < N → pl i < wr.heap.size := fun i hi => (T.pn i hi).1.own.lt
    obtain ⟨pb, hpb⟩ : ∃ q, wr.heap.size = q := ⟨_, rfl⟩
    rw [hpb] at oP hpl ⊢
    generalize wr.alloc (.cells Z 62) = wp at *
    clear ma T hpb hiA HZ
    clear wr
    go_upto_region 13 with (fail)
    have hiD : (Try.prog.info? 36).map (fun i => (i.zero, i.size)) = some (some (.agg (d16 fun _ => .slice none 0 0)), (d16 fun _ => .slice none 0 0).size) := by kernel_rfl
    refine wp_alloc_var rfl rfl hiD ?_
    have ma := (Below.refl wp.heap.size wp).alloc (Nat.le_refl _) (.cells (d16 fun _ => .slice none 0 0) 36)
    have TB := TA.below ma
    have oB : Blk (wp.alloc (.cells (d16 fun _ => .slice none 0 0) 36)) pb 62 1296 (fun _ => .slice none 0 0) := below_own ma oP oP.lt
    have oN : Blk (wp.alloc (.cells (d16 fun _ => .slice none 0 0) 36)) wp.heap.size 36 16 (fun _ => .slice none 0 0) := Own.new wp 36 _
    have hnb := oP.lt
    obtain ⟨nb, hpb⟩ : ∃ q, wp.heap.size = q := ⟨_, rfl⟩
    rw [hpb] at oN hnb ⊢
    generalize wp.alloc (.cells (d16 fun _ => .slice none 0 0) 36) = wn at *
    clear ma TA oP hpb hiD
    clear wp
    have U0 : S2 w wn b N sb pb nb pl 0 (.int .i64 0) := by
      refine ⟨0, 0, false, fun _ => false, none, none, [], [], _, _, fun _ _ => [], fun _ => [], fun _ => 0, fun _ => 0, fun _ => .slice none 0 0, fun _ => .slice none 0 0, fun _ => [], fun _ => [], ⟨TB.bk, TB.sl.ext (fun i hi => by unfold slV; rw [if_pos hi]), fun i hi => (TB.pn i hi).1, oB, oN, fun u i _ _ => rv_none _ _, fun i _ => rv_none _ _, TB.bel, TB.low, TB.o1, fun i hi => ⟨(TB.pn i hi).2, hpl i hi⟩, hnb, fun i j hi hj e => ?_, by omega⟩,
        ⟨Int.le_refl _, Int.le_refl _, (fun h => by cases h), by omega, sm_nil N, (fun h => by cases h), fun _ _ => by simp, fun _ => by simp, fun _ => srtC_nil, fun _ => by simp, fun _ _ => rfl, (fun i h => by simp at h), (fun i h => by simp at h), (fun i h => by cases h)⟩, by simp, rfl⟩
      rcases Nat.lt_trichotomy i j with h | h | h
      · have := TB.inj i j h hj
        omega
      · exact h
      · have := TB.inj j i h hi
        omega
    clear TB oB oN hpl hnb
    go_wp2_with fail
    go_loopw [48, 9] (fun i s wr => ∃ k : Nat, i = .int .i64 k ∧ k ≤ n ∧ S2 w wr b N sb pb nb pl k s) (fun i _ _ => n - (intOf i).toNat)
    case atStart => exact ⟨0, rfl, Nat.zero_le _, U0⟩
    case round =>
      clear U0
      obtain ⟨k, rfl, hk, T⟩ := hrel
      by_cases hlt : k < n
      rotate_left 1
      · obtain rfl : k = n := by omega
        have g4 : decide ((k : Int) < (k : Int)) = false := by simp
        obtain ⟨_, _, _, _, _, _, _, _, _, _, _, _, _, _, _, _, _, _, t, _, _, rfl⟩ := T
        have bE := t.bel
        clear t
        go_wp2_with fail
        refine (hend _ bE).mono ?_
        rintro r w9 ⟨rfl, b9⟩
        go_wp2_with fail
        go_ret
        exact ⟨rfl, b9⟩
      have bW : Below w.heap.size w wr := by
        obtain ⟨_, _, _, _, _, _, _, _, _, _, _, _, _, _, _, _, _, _, t, _⟩ := T
        exact t.bel
      have hnbr : nb < wr.heap.size := by
        obtain ⟨_, _, _, _, _, _, _, _, _, _, _, _, _, _, _, _, _, _, t, _⟩ := T
        exact t.lts.2
      obtain ⟨bo, off, rfl, hbo, hcs⟩ := HQ.out.row.at_struct bW hlt (by decide)
      obtain ⟨e0, e1, e2, e3⟩ := HQ.out.at_ k hlt
      obtain ⟨hm1, hm2, hm3⟩ := HQ.out.ok k hlt
      have d0 := (hcs 0 (by decide)).trans (congrArg some e0)
      have d1 := (hcs 1 (by decide)).trans (congrArg some e1)
      have d2 := (hcs 2 (by decide)).trans (congrArg some e2)
      have d3 := (hcs 3 (by decide)).trans (congrArg some e3)
      rw [Nat.add_zero] at d0
      obtain ⟨⟨qd, qn, qv, qm, qa, qc, qV, qF⟩, hq⟩ : ∃ q, Q k = q := ⟨_, rfl⟩
      rw [hq] at d0 d1 d2 d3 hm1 hm2 hm3
      dsimp only at *
      have HM3 := Lib.hid hm3
      clear hcs e0 e1 e2 e3 hq hm3
      have bx := (Below.refl wr.heap.size wr).alloc (Nat.le_refl _) (.cells #[.int .i64 qd, .int .i64 qn, .int .i64 qv, .slice qa qm qc] 31)
      obtain ⟨v, la, g, R, now, next, Ln, Lx, PV, XV, D, X, pv, pp, U, Y, l, m, t, q, hla, rfl⟩ := T
      have TX := t.below bx
      have ox := Own.new wr 31 #[.int .i64 qd, .int .i64 qn, .int .i64 qv, .slice qa qm qc]
      go_upto_region 17 with (fail)
      generalize wr.alloc (.cells #[.int .i64 qd, .int .i64 qn, .int .i64 qv, .slice qa qm qc] 31) = wx at *
      obtain ⟨r0, hr0⟩ : ∃ q, wr.heap.size = q := ⟨_, rfl⟩
      rw [hr0] at ox hnbr ⊢
      clear t bW d0 d1 d2 d3 hr0 bx
      clear wr
      have c0 : wx.cell? ⟨r0, 0, none⟩ = some (.int .i64 qd) := ox.cell 0
      have c1 : wx.cell? ⟨r0, 1, none⟩ = some (.int .i64 qn) := ox.cell 1
      obtain ⟨nn, hnn, hnN⟩ : ∃ nn : Nat, wrap64 ((IntKind.u64.wrap qn).tmod (N : Int)) = (nn : Int) ∧ nn < N := by
        have h0 := u64_pos qn
        have h1 := Int.emod_nonneg (IntKind.u64.wrap qn) (b := (N : Int)) (by omega)
        have h2 := Int.emod_lt_of_pos (IntKind.u64.wrap qn) (b := (N : Int)) (by omega)
        rw [Int.tmod_eq_emod_of_nonneg h0]
        refine ⟨(IntKind.u64.wrap qn % (N : Int)).toNat, ?_, by omega⟩
        rw [IntWalk.wrap64_in _ ⟨by omega, by omega⟩]
        omega
      go_upto_block 4 with (fail)
      rw [hnn]
      clear hnn c1
      have hlts := TX.lts
      go_cut [9] (fun s wz => S2 w wz b N sb pb nb pl (k + 1) s)
      case first =>
        rename_i J0 K0 hJ0 hK0
        by_cases e0 : qd = 0
        · have g0 : (qd == 0) = true := by simpa using e0
          refine swA _ _ _ _ _ _ _ _ _ _ _ _ _ _ _ _ _ _ _ _ _ _ _ _ _ _ _ _ _ _ _ _ _ _ _ _ _ _ _ _ _ _ _ _ _ _ _ _ _ _ _ _ _ _ _ _ _ _ _ _ _ _ _ _ _ _ _ _ _ _ _ _ _ _ _ _ _ _ _ _ _ _ _ _ _ _ _ _ _ _ _ _ _ _ _ _ _ _ _ _ _ _ _ _ _ _ _ _ _ _ _ _ _ _ _ _ _ _ _ _ _ _ _ _ _ _ _ _ _ _ _ _ _ _ _ _ _ _ _ _ _ _ _ _ _ _ _ _ _ _ _ _ _ _ _ _ _ _ _ _ _ _ _ _ _ _ _ _ _ _ _ _ _ _ _ _ _ _ _ _ _ _ _ _ _ _ _ _ _ _ _ _ _ _ _ _ _ _ _ _ _ _ _ _ _ _ _ _ _ _ _ _ _ _ _ _ _ _ _ hlt hn80 hN1 hm1 hm2 hnbr hnN HM3 ox c0 TX q hla hlts g0 e0 (fun _ _ _ _ _ _ _ _ _ _ _ _ _ _ _ _ _ _ _ _ _ _ _ _ _ _ _ _ _ _ _ _ _ _ _ _ _ _ _ _ _ _ _ _ _ _ _ _ _ _ _ _ _ _ _ _ _ _ _ _ _ _ _ _ _ _ _ _ _ _ _ _ _ _ _ _ _ _ _ _ _ _ _ _ _ _ _ _ _ _ _ _ _ _ _ _ _ _ _ _ _ _ _ _ _ _ _ _ _ _ _ _ _ _ _ _ _ _ _ _ _ _ _ _ _ _ _ _ _ _ _ _ _ _ _ _ _ _ _ _ _ _ _ _ _ _ _ _ _ _ _ _ _ _ _ _ _ _ _ _ _ _ _ _ _ _ _ _ _ wz hs => ?_)
          refine hK0 _ _ (Met.intro (hJ0 _ _ ?_))
          (repeat apply Exists.intro)
          exact ⟨hs, rfl⟩
        have g0 : (qd == 0) = false := by simpa using e0
        by_cases e1 : qd = 1
        · have g1 : (qd == 1) = true := by simpa using e1
          refine swB _ _ _ _ _ _ _ _ _ _ _ _ _ _ _ _ _ _ _ _ _ _ _ _ _ _ _ _ _ _ _ _ _ _ _ _ _ _ _ _ _ _ _ _ _ _ _ _ _ _ _ _ _ _ _ _ _ _ _ _ _ _ _ _ _ _ _ _ _ _ _ _ _ _ _ _ _ _ _ _ _ _ _ _ _ _ _ _ _ _ _ _ _ _ _ _ _ _ _ _ _ _ _ _ _ _ _ _ _ _ _ _ _ _ _ _ _ _ _ _ _ _ _ _ _ _ _ _ _ _ _ _ _ _ _ _ _ _ _ _ _ _ _ _ _ _ _ _ _ _ _ _ _ _ _ _ _ _ _ _ _ _ _ _ _ _ _ _ _ _ _ _ _ _ _ _ _ _ _ _ _ _ _ _ _ _ _ _ _ _ _ _ _ _ _ _ _ _ _ _ _ _ _ _ _ _ _ _ _ _ _ _ _ _ _ _ _ _ _ hlt hn80 hN1 hm1 hm2 hnbr hnN HM3 ox c0 TX q hla hlts e0 g0 e1 g1 (fun _ _ _ _ _ _ _ _ _ _ _ _ _ _ _ _ _ _ _ _ _ _ _ _ _ _ _ _ _ _ _ _ _ _ _ _ _ _ _ _ _ _ _ _ _ _ _ _ _ _ _ _ _ _ _ _ _ _ _ _ _ _ _ _ _ _ _ _ _ _ _ _ _ _ _ _ _ _ _ _ _ _ _ _ _ _ _ _ _ _ _ _ _ _ _ _ _ _ _ _ _ _ _ _ _ _ _ _ _ _ _ _ _ _ _ _ _ _ _ _ _ _ _ _ _ _ _ _ _ _ _ _ _ _ _ _ _ _ _ _ _ _ _ _ _ _ _ _ _ _ _ _ _ _ _ _ _ _ _ _ _ _ _ _ _ _ _ _ _ wz hs => ?_)
          refine hK0 _ _ (Met.intro (hJ0 _ _ ?_))
          (repeat apply Exists.intro)
          exact ⟨hs, rfl⟩
        have g1 : (qd == 1) = false := by simpa using e1
        by_cases e2 : qd = 2
        · have g2 : (qd == 2) = true := by simpa using e2
          refine swC _ _ _ _ _ _ _ _ _ _ _ _ _ _ _ _ _ _ _ _ _ _ _ _ _ _ _ _ _ _ _ _ _ _ _ _ _ _ _ _ _ _ _ _ _ _ _ _ _ _ _ _ _ _ _ _ _ _ _ _ _ _ _ _ _ _ _ _ _ _ _ _ _ _ _ _ _ _ _ _ _ _ _ _ _ _ _ _ _ _ _ _ _ _ _ _ _ _ _ _ _ _ _ _ _ _ _ _ _ _ _ _ _ _ _ _ _ _ _ _ _ _ _ _ _ _ _ _ _ _ _ _ _ _ _ _ _ _ _ _ _ _ _ _ _ _ _ _ _ _ _ _ _ _ _ _ _ _ _ _ _ _ _ _ _ _ _ _ _ _ _ _ _ _ _ _ _ _ _ _ _ _ _ _ _ _ _ _ _ _ _ _ _ _ _ _ _ _ _ _ _ _ _ _ _ _ _ _ _ _ _ _ _ _ _ _ _ _ _ hlt hn80 hN1 hm1 hm2 hnbr hnN HM3 ox c0 TX q hla hlts e0 g0 e1 g1 e2 g2 (fun _ _ _ _ _ _ _ _ _ _ _ _ _ _ _ _ _ _ _ _ _ _ _ _ _ _ _ _ _ _ _ _ _ _ _ _ _ _ _ _ _ _ _ _ _ _ _ _ _ _ _ _ _ _ _ _ _ _ _ _ _ _ _ _ _ _ _ _ _ _ _ _ _ _ _ _ _ _ _ _ _ _ _ _ _ _ _ _ _ _ _ _ _ _ _ _ _ _ _ _ _ _ _ _ _ _ _ _ _ _ _ _ _ _ _ _ _ _ _ _ _ _ _ _ _ _ _ _ _ _ _ _ _ _ _ _ _ _ _ _ _ _ _ _ _ _ _ _ _ _ _ _ _ _ _ _ _ _ _ _ _ _ _ _ _ _ _ _ _ wz hs => ?_)
          refine hK0 _ _ (Met.intro (hJ0 _ _ ?_))
          (repeat apply Exists.intro)
          exact ⟨hs, rfl⟩
        have g2 : (qd == 2) = false := by simpa using e2
        by_cases e3 : qd = 3
        · have g3 : (qd == 3) = true := by simpa using e3
          refine swD _ _ _ _ _ _ _ _ _ _ _ _ _ _ _ _ _ _ _ _ _ _ _ _ _ _ _ _ _ _ _ _ _ _ _ _ _ _ _ _ _ _ _ _ _ _ _ _ _ _ _ _ _ _ _ _ _ _ _ _ _ _ _ _ _ _ _ _ _ _ _ _ _ _ _ _ _ _ _ _ _ _ _ _ _ _ _ _ _ _ _ _ _ _ _ _ _ _ _ _ _ _ _ _ _ _ _ _ _ _ _ _ _ _ _ _ _ _ _ _ _ _ _ _ _ _ _ _ _ _ _ _ _ _ _ _ _ _ _ _ _ _ _ _ _ _ _ _ _ _ _ _ _ _ _ _ _ _ _ _ _ _ _ _ _ _ _ _ _ _ _ _ _ _ _ _ _ _ _ _ _ _ _ _ _ _ _ _ _ _ _ _ _ _ _ _ _ _ _ _ _ _ _ _ _ _ _ _ _ _ _ _ _ _ _ _ _ _ _ hlt hn80 hN1 hm1 hm2 hnbr hnN HM3 ox c0 TX q hla hlts e0 g0 e1 g1 e2 g2 e3 g3 (fun _ _ _ _ _ _ _ _ _ _ _ _ _ _ _ _ _ _ _ _ _ _ _ _ _ _ _ _ _ _ _ _ _ _ _ _ _ _ _ _ _ _ _ _ _ _ _ _ _ _ _ _ _ _ _ _ _ _ _ _ _ _ _ _ _ _ _ _ _ _ _ _ _ _ _ _ _ _ _ _ _ _ _ _ _ _ _ _ _ _ _ _ _ _ _ _ _ _ _ _ _ _ _ _ _ _ _ _ _ _ _ _ _ _ _ _ _ _ _ _ _ _ _ _ _ _ _ _ _ _ _ _ _ _ _ _ _ _ _ _ _ _ _ _ _ _ _ _ _ _ _ _ _ _ _ _ _ _ _ _ _ _ _ _ _ _ _ _ _ wz hs => ?_)
          refine hK0 _ _ (Met.intro (hJ0 _ _ ?_))
          (repeat apply Exists.intro)
          exact ⟨hs, rfl⟩
        · have g3 : (qd == 3) = false := by simpa using e3
          refine swE _ _ _ _ _ _ _ _ _ _ _ _ _ _ _ _ _ _ _ _ _ _ _ _ _ _ _ _ _ _ _ _ _ _ _ _ _ _ _ _ _ _ _ _ _ _ _ _ _ _ _ _ _ _ _ _ _ _ _ _ _ _ _ _ _ _ _ _ _ _ _ _ _ _ _ _ _ _ _ _ _ _ _ _ _ _ _ _ _ _ _ _ _ _ _ _ _ _ _ _ _ _ _ _ _ _ _ _ _ _ _ _ _ _ _ _ _ _ _ _ _ _ _ _ _ _ _ _ _ _ _ _ _ _ _ _ _ _ _ _ _ _ _ _ _ _ _ _ _ _ _ _ _ _ _ _ _ _ _ _ _ _ _ _ _ _ _ _ _ _ _ _ _ _ _ _ _ _ _ _ _ _ _ _ _ _ _ _ _ _ _ _ _ _ _ _ _ _ _ _ _ _ _ _ _ _ _ _ _ _ _ _ _ _ _ _ _ _ _ hlt hn80 hN1 hm1 hm2 hnbr hnN HM3 ox c0 TX q hla hlts e0 g0 e1 g1 e2 g2 e3 g3 (fun _ _ _ _ _ _ _ _ _ _ _ _ _ _ _ _ _ _ _ _ _ _ _ _ _ _ _ _ _ _ _ _ _ _ _ _ _ _ _ _ _ _ _ _ _ _ _ _ _ _ _ _ _ _ _ _ _ _ _ _ _ _ _ _ _ _ _ _ _ _ _ _ _ _ _ _ _ _ _ _ _ _ _ _ _ _ _ _ _ _ _ _ _ _ _ _ _ _ _ _ _ _ _ _ _ _ _ _ _ _ _ _ _ _ _ _ _ _ _ _ _ _ _ _ _ _ _ _ _ _ _ _ _ _ _ _ _ _ _ _ _ _ _ _ _ _ _ _ _ _ _ _ _ _ _ _ _ _ _ _ _ _ _ _ _ _ _ _ _ wz hs => ?_)
          refine hK0 _ _ (Met.intro (hJ0 _ _ ?_))
          (repeat apply Exists.intro)
          exact ⟨hs, rfl⟩
      case rest =>
        clear TX ox c0 HM3 hlts q
        obtain ⟨v, la, g, R, now, next, Ln, Lx, PV, XV, D, X, pv, pp, U, Y, l, m, T0, q, hla, rfl⟩ := hcut
        obtain ⟨vn, rfl⟩ := Int.eq_ofNat_of_zero_le q.v0
        have HQ2 := Lib.hid q
        go_wp2_with fail
        go_loopw [153] (fun i wz => ∃ j : Nat, i = .int .i64 j ∧ j ≤ N ∧ M2 w wz b N sb pb nb pl vn la g R now next Ln Lx PV XV D X pv pp U Y l m) (fun i _ => N - (intOf i).toNat)
        case atStart => exact ⟨0, rfl, Nat.zero_le _, T0⟩
        case round =>
          clear T0
          obtain ⟨j, rfl, hj, T⟩ := hrel
          by_cases hjN : j < N
          rotate_left 1
          · obtain rfl : N = j := by omega
            go_wp2_with fail
            exact ⟨⟨k + 1, by simp, by omega, vn, la, g, R, now, next, Ln, Lx, PV, XV, D, X, pv, pp, U, Y, l, m, T, q, hla, rfl⟩, by simp [intOf]; omega⟩
          have c6 : wr.cell? ⟨sb, j, none⟩ = some (.pointer (some ⟨pl j, 0, none⟩)) := T.sl.cell hjN
          have PA := pversion_any (pl j) (pv j) (pp j) (U j) (Y j) (l j) (m j) wr (T.pn j hjN)
          go_wp2_with fail
          refine PA.mono ?_
          rintro r w2 ⟨rfl, rfl⟩
          obtain ⟨pn, hpn⟩ := Int.eq_ofNat_of_zero_le (HQ2.out.p0 j).1
          have hpv := (HQ2.out.p0 j).2.1
          have hvl := HQ2.out.vl
          have hl1 : l j = if 0 < pn then D pn j else [] := by
            by_cases h : 0 < pn
            · rw [if_pos h, HQ2.out.pl j (by omega), hpn, Int.toNat_natCast]
            · rw [if_neg h, HQ2.out.pz j (by omega)]
          have hen := HQ2.out.en.eq j
          rw [Int.toNat_natCast] at hen
          rw [hpn] at hpv ⊢
          have hv81 : vn < 81 := by omega
          have hp81 : pn < 81 := by omega
          have hj16 : j < 16 := by have := HQ2.out.n16; omega
          obtain ⟨A8, c8, e8, y81, y82, y83⟩ := (T.pr vn j hv81 hj16).row
          obtain ⟨A9, c9, e9, y91, y92, y93⟩ := (T.pr pn j hp81 hj16).row
          have hen64 : ∀ e ∈ Ln, e.2.length ≤ 64 := fun e he => (HQ2.out.en.ok e he).2
          have PB := Lib.hid (fun z : Lb.Gw wr => version_any b N vn la g R now next Ln Lx z.toW (T.below z.ok).bk)
          have PC := fun z : Lb.Gw wr => cells_lk b N vn la g R now next Ln Lx j z.toW (T.below z.ok).bk hen64
          rw [hen] at PC
          have PC := Lib.hid PC
          have c1 : ∀ z : Lb.Gw wr, z.toW.cell? ⟨pb, pn * 16 + j, none⟩ = some (.slice A9 (D pn j).length c9) := fun z => by rw [← e9]; exact (T.below z.ok).past.cell (by omega)
          have c2 : ∀ z : Lb.Gw wr, z.toW.cell? ⟨pb, vn * 16 + j, none⟩ = some (.slice A8 (D vn j).length c8) := fun z => by rw [← e8]; exact (T.below z.ok).past.cell (by omega)
          have R1 : Hid (∀ z : Lb.Gw wr, (D pn j).length ≤ c9 ∧ c9 ≤ maxLen ∧ Row z.toW A9 ((D pn j).length * 5) (lv (D pn j))) := Lib.hid (fun z => ⟨y91, y92, y93.below z.ok⟩)
          have R2 : Hid (∀ z : Lb.Gw wr, (D vn j).length ≤ c8 ∧ c8 ≤ maxLen ∧ Row z.toW A8 ((D vn j).length * 5) (lv (D vn j))) := Lib.hid (fun z => ⟨y81, y82, y83.below z.ok⟩)
          have PA := fun z : Lb.Gw wr => pcells_any (pl j) (pv j) (pp j) (U j) (Y j) (l j) (m j) z.toW ((T.below z.ok).pn j hjN) (Nat.le_trans (HQ2.out.len j) (by decide))
          rw [hl1] at PA
          have HT := Lib.hid T
          have f1 : decide ((pn : Int) < 0) = false := by simp
          have f2 : decide ((vn : Int) < (pn : Int)) = false := by simp; omega
          have f2' : decide (vn < pn) = false := by simp; omega
          have f3 : decide ((80 : Int) < (pn : Int)) = false := by simp; omega
          have f3' : decide (80 < pn) = false := by simp; omega
          have hv81' : (vn : Int) < 81 := by omega
          have hp81' : (pn : Int) < 81 := by omega
          have hj16' : (j : Int) < 16 := by omega
          clear T e8 e9 y81 y82 y83 y91 y92 y93 hen hen64 hl1 hpn c6 hpv hvl
          by_cases hq : 0 < pn
          · have f4 : decide ((0 : Int) < (pn : Int)) = true := by simp; omega
            have f4' : decide (0 < pn) = true := by simpa using hq
            have f5 : ((pn : Int) == 0) = false := by simp; omega
            rw [if_pos hq] at PA
            have PA := Lib.hid PA
            clear hq
            go_upto_region 47 with (fail)
            refine rgP _ _ _ _ _ _ _ _ _ _ _ _ _ _ _ _ _ _ _ _ _ _ _ _ _ _ _ _ _ _ _ _ _ _ _ _ _ _ _ _ _ _ _ _ _ _ _ _ _ _ _ _ _ _ _ _ _ _ _ _ _ _ _ _ _ _ _ _ _ _ _ _ _ _ _ _ _ _ _ _ _ _ _ _ _ _ _ _ _ _ _ _ _ _ _ _ _ _ _ _ _ _ _ _ _ _ _ _ _ _ _ _ _ _ _ _ _ _ _ _ _ _ _ _ _ _ _ _ _ _ _ _ _ _ _ _ _ _ _ _ _ _ _ _ _ _ _ _ _ _ _ _ _ _ _ _ _ _ _ _ _ _ _ _ _ _ _ _ _ _ _ _ _ _ _ _ _ _ _ _ _ _ _ _ _ _ _ _ _ _ _ _ _ _ _ _ _ _ _ _ _ _ _ _ _ _ _ _ _ _ _ _ _ _ _ hv81 hp81 hj16 PB PC c1 c2 R1 R2 HT f1 f2 f2' f3 f3' hv81' hp81' hj16' f4 f4' f5 PA hj hjN (fun _ _ z => ?_)
            have t9 := HT.out.below z.ok
            clear PA PB PC R1 R2 HT
            generalize z.toW = wq at *
            go_wp2_with fail
            exact ⟨⟨j + 1, by simp, by omega, t9⟩, by simp [intOf]; omega⟩
          · have f4 : decide ((0 : Int) < (pn : Int)) = false := by simp; omega
            have f4' : decide (0 < pn) = false := by simpa using hq
            have f5 : ((pn : Int) == 0) = true := by simp; omega
            rw [if_neg hq] at PA
            have PA := Lib.hid PA
            clear hq c1 R1
            have R1 := Lib.hid True.intro
            go_upto_region 47 with (fail)
            refine rgN _ _ _ _ _ _ _ _ _ _ _ _ _ _ _ _ _ _ _ _ _ _ _ _ _ _ _ _ _ _ _ _ _ _ _ _ _ _ _ _ _ _ _ _ _ _ _ _ _ _ _ _ _ _ _ _ _ _ _ _ _ _ _ _ _ _ _ _ _ _ _ _ _ _ _ _ _ _ _ _ _ _ _ _ _ _ _ _ _ _ _ _ _ _ _ _ _ _ _ _ _ _ _ _ _ _ _ _ _ _ _ _ _ _ _ _ _ _ _ _ _ _ _ _ _ _ _ _ _ _ _ _ _ _ _ _ _ _ _ _ _ _ _ _ _ _ _ _ _ _ _ _ _ _ _ _ _ _ _ _ _ _ _ _ _ _ _ _ _ _ _ _ _ _ _ _ _ _ _ _ _ _ _ _ _ _ _ _ _ _ _ _ _ _ _ _ _ _ _ _ _ _ _ _ _ _ _ _ _ _ _ _ _ hv81 hp81 hj16 PB PC c2 R2 HT f1 f2 f2' f3 f3' hv81' hp81' hj16' f4 f4' f5 PA hj hjN (fun _ _ z => ?_)
            have t9 := HT.out.below z.ok
            clear PA PB PC R1 R2 HT
            generalize z.toW = wq at *
            go_wp2_with fail
            exact ⟨⟨j + 1, by simp, by omega, t9⟩, by simp [intOf]; omega⟩
theorem walk (H : Type) (enc : TypeId × Value → H) : Walk H enc Try.prog 5 Try.f5 := by
  intro W base args ds p hval hA
  rw [Try.params5] at hA hval
  obtain ⟨v0, v1, d0, d1, p0, p1, rfl, rfl, rfl, h0, h1⟩ := trodAll_two hA
  obtain ⟨x, rfl, rfl, rfl, _⟩ := open_int Try.underlying3 (hval 0 _ v0 rfl rfl) h0
  obtain ⟨a, n, c, V, Q, rfl, hn, hm, hQ⟩ := open_kls (hval 1 _ v1 rfl rfl) h1
  exact body x a n c V Q W hn hm hQ

set_option maxRecDepth 100000 in
theorem lifted (os : Os) (started : os.Started) (H : Type) (enc : TypeId × Value → H) :
    ReturnsInHanded {} Try.checked os 5 .any (Rows.versionTwoSpec.pre6 enc Try.prog Try.f5 Rows.versionTwoRow.domain false) (Rows.versionTwoSpec.post enc Try.prog Try.f5 false true false false) :=
  returnsInHanded_of_change (C := Try.checked) own started (by kernel_rfl) Try.func5
    (ChangeSpec.witness6 (enc := enc) (C := Try.checked) false ⟨#[], #[.int .i64 0, .slice none 0 0], []⟩ 8 (by kernel_rfl) (by kernel_rfl) (by kernel_rfl) (by kernel_rfl))
    fun W base args ds gs before hval hW _ _ => step_of_walk laidOut (by rw [Try.params5]; exact of_decide_eq_true (by kernel_rfl)) (by kernel_rfl) Try.underlying4 rfl
      (fun ds h => by
        rw [Try.params5] at h
        match ds, h with
        | [_, _], _ => rfl) (walk H enc) W base args ds gs before hval hW

theorem holds : Rows.VersionTwoSaid :=
  OpenClaim.holds_of_wide 5 Try.f5 rfl rfl rfl rfl rfl rfl rfl ⟨rfl, rfl, rfl, rfl, rfl⟩ rfl rfl rfl rfl rfl (by kernel_rfl) Try.func5 (by kernel_rfl)
    (of_decide_eq_true (by kernel_rfl)) (by unfold Func.isWrapper; first | (rw [if_pos (by decide +kernel)]; kernel_rfl) | (rw [if_neg (by decide +kernel)]; exact ⟨rfl, rfl⟩))
    (fun os started H enc _ => lifted os started H enc)
#print axioms holds
end Go.Proofs.Ytdpkiolngglpaaa.VersionTwo
