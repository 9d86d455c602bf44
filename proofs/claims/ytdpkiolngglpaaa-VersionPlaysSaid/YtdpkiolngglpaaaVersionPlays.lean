/-
  Law VersionPlays: any calls on a book: each answer, what counts, who is waited for, as the reference has it; the call returns true. No condition.
-/
import Derived.Test.YtdpkiolngglpaaaVeTwo
import Derived.Test.YtdpkiolngglpaaaVeCalls
import Derived.Test.YtdpkiolngglpaaaTyGrow
import Derived.Deep.Cut
import Derived.Deep.CutRange
import Derived.Deep.CutBlock
import Derived.Deep.RegionHeld3
set_option maxRecDepth 100000
namespace Go.Proofs.Ytdpkiolngglpaaa.VersionPlays
set_option linter.unusedVariables false
open Go.RowKit Go.ChangeShapes Go.WideShapes Go.ChangeAt Go.Deep Lb Cl Ce Mi Al Ve
theorem own : ownKnob Try.prog.godebug = none := by kernel_rfl
theorem laidOut : laidOutB Try.prog = true := by kernel_rfl

theorem tw_rcells {W w : World} {b rb n : Nat} {v la : Int} {g : Bool} {R R' : Nat → Bool} {now next : Option Nat} {Ln Lx : List (Int × List C)} {P Q : Nat → Value} {D X : Nat → List C} (k : Int) (t : Tw W w b rb n v la g R R' now next Ln Lx P Q D X) :
    Calls Try.prog 26 #[.pointer (some ⟨rb, 0, none⟩), .int .i64 k] w fun r w' => ∃ a c, r = .returned (.slice a (lk Ln k).length c) ∧ (lk Ln k).length ≤ c ∧ c ≤ maxLen ∧ Row w' a ((lk Ln k).length * 5) (lv (lk Ln k)) ∧ w = w' := by
  by_cases hk : 0 ≤ k ∧ k < n
  · obtain ⟨q, rfl⟩ := Int.eq_ofNat_of_zero_le hk.1
    have hq : q < 16 := by have := t.n16; omega
    obtain ⟨a, c, e, h1, h2, h3⟩ := (t.rk.now q hq).row
    rw [t.en.eq q]
    refine (rcells_in rb n v (bgI g la) la P Q R' D X q w t.rk (by have := t.n16; omega) hk.2).mono ?_
    rintro r w' ⟨rfl, rfl⟩
    exact ⟨a, c, by rw [e], h1, h2, h3, rfl⟩
  · have : lk Ln k = [] := lk_none (fun e he q => by
      have := (t.en.ok e he).1
      unfold hasB at this
      rw [decide_eq_true_eq] at this
      exact hk (by omega))
    rw [this]
    refine (rcells_out rb n v (bgI g la) la P Q R' D X k w t.rk hk).mono ?_
    rintro r w' ⟨rfl, rfl⟩
    exact ⟨none, 0, rfl, Nat.le_refl _, Nat.zero_le _, Row.nil _ _ _, rfl⟩
theorem box_keep {w w' : World} {r0 q : Nat} {t : TypeId} {cs : Array Value} (o : Own w r0 t cs) (j : Just q w w') (h : r0 ≠ q) : Own w' r0 t cs := (j.block r0 o.lt h).trans o
set_option maxHeartbeats 8000000 in
theorem body (x0 : Int) (a : Option Addr) (n c : Nat) (V : Nat → Value) (Q : Nat → Kl) (w : World) (hn : n ≤ c) (hc : c ≤ maxLen) (hQ : Kls w a n V Q) :
    Calls Try.prog 3 #[.int .i64 x0, .slice a n c] w fun r w' => r = .returned (.bool true) ∧ Below w.heap.size w w' := by
  have hend : ∀ wz, Below w.heap.size w wz → Calls Try.prog 8 #[] wz fun r w' => r = .returned (.bool true) ∧ Below w.heap.size w w' := fun wz tz =>
    (awake_any wz).mono (by rintro r w' ⟨rfl, b1⟩; exact ⟨rfl, tz.trans (b1.mono tz.size)⟩)
  have PF := few23_any a n c V Q w hn hc hQ
  have hn63 : (n : Int) ≤ 9223372036854775807 := by unfold maxLen at hc; omega
  obtain ⟨N, hN, hN16⟩ : ∃ N : Nat, min (max x0 1) 16 = (N : Int) ∧ N ≤ 16 := ⟨(min (max x0 1) 16).toNat, by omega, by omega⟩
  have HN := Lib.hid hN
  have HQ := Lib.hid hQ
  clear hQ hN
  go_enter Try.func3, Try.ntmps3
  go_wp2_with fail
  refine PF.mono ?_
  rintro r w1 ⟨q, rfl, hq, b1⟩
  cases q
  · go_wp2_with fail
    refine (hend _ b1).mono ?_
    rintro r w9 ⟨rfl, b9⟩
    go_wp2_with fail
    go_ret
    exact ⟨rfl, b9⟩
  clear PF hq
  go_wp2_with fail
  refine (new_any x0 w1).mono ?_
  rintro r w2 ⟨b, rfl, hb, h2, b2⟩
  rw [HN.out] at h2
  go_wp2_with fail
  refine (rnewbook_any x0 w2).mono ?_
  rintro r w3 ⟨rb, rfl, hrb, ⟨P, X, h3⟩, b3⟩
  rw [HN.out] at h3
  have bb := (b1.trans (b2.mono b1.size)).trans (b3.mono (Nat.le_trans b1.size b2.size))
  have T0 : Tws w w3 b rb N := ⟨0, 0, false, fun _ => false, none, none, [], [], P, X, fun _ => [], fun _ => [], h2.below b3, h3, Nat.lt_of_lt_of_le h2.blk.lt hrb, Nat.le_trans b1.size hb, bb, Int.le_refl _, (fun h => by cases h), hN16, ⟨List.nodup_nil, (fun e he => by cases he), fun k => lk_nil _⟩, (fun h => by cases h)⟩
  clear h2 h3 b1 b2 b3 bb hb hrb
  go_wp2_with fail
  clear w1 w2
  go_loopw [30] (fun i wr => ∃ k : Nat, i = .int .i64 k ∧ k ≤ n ∧ Tws w wr b rb N) (fun i _ => n - (intOf i).toNat)
  case atStart => exact ⟨0, rfl, Nat.zero_le _, T0⟩
  case round =>
    clear T0
    obtain ⟨k, rfl, hk, T⟩ := hrel
    by_cases hlt : k < n
    rotate_left 1
    · obtain rfl : k = n := by omega
      have g4 : decide ((k : Int) < (k : Int)) = false := by simp
      obtain ⟨_, _, _, _, _, _, _, _, _, _, _, _, t⟩ := T
      have bE := t.bel
      clear t
      go_wp2_with fail
      refine (hend _ bE).mono ?_
      rintro r w9 ⟨rfl, b9⟩
      go_wp2_with fail
      go_ret
      exact ⟨rfl, b9⟩
    have bW : Below w.heap.size w wr := by
      obtain ⟨_, _, _, _, _, _, _, _, _, _, _, _, t⟩ := T
      exact t.bel
    have hbl : b < wr.heap.size ∧ rb < wr.heap.size ∧ b < rb := by
      obtain ⟨_, _, _, _, _, _, _, _, _, _, _, _, t⟩ := T
      exact ⟨t.bk.blk.lt, t.rk.blk.lt, t.ne⟩
    obtain ⟨bo, off, rfl, hbo, hcs⟩ := HQ.out.row.at_struct bW hlt (by decide)
    obtain ⟨e0, e1, e2, e3⟩ := HQ.out.at_ k hlt
    obtain ⟨hm1, hm2, hm3⟩ := HQ.out.ok k hlt
    have d0 := (hcs 0 (by decide)).trans (congrArg some e0)
    have d1 := (hcs 1 (by decide)).trans (congrArg some e1)
    have d2 := (hcs 2 (by decide)).trans (congrArg some e2)
    have d3 := (hcs 3 (by decide)).trans (congrArg some e3)
    rw [Nat.add_zero] at d0
    obtain ⟨⟨qd, qn, qv, qm, qa, qc, qV, qF⟩, hq⟩ : ∃ q, Q k = q := ⟨_, rfl⟩
    rw [hq] at d0 d1 d2 d3 hm1 hm2 hm3
    dsimp only at *
    have HM3 := Lib.hid hm3
    clear hcs e0 e1 e2 e3 hq hm3
    have bx := (Below.refl wr.heap.size wr).alloc (Nat.le_refl _) (.cells #[.int .i64 qd, .int .i64 qn, .int .i64 qv, .slice qa qm qc] 31)
    have TX : Tws w (wr.alloc (.cells #[.int .i64 qd, .int .i64 qn, .int .i64 qv, .slice qa qm qc] 31)) b rb N := by
      obtain ⟨v, la, g, R, now, next, Ln, Lx, P, Q', D, X, t⟩ := T
      exact ⟨v, la, g, R, now, next, Ln, Lx, P, Q', D, X, t.below bx⟩
    have ox := Own.new wr 31 #[.int .i64 qd, .int .i64 qn, .int .i64 qv, .slice qa qm qc]
    have bWx : Below w.heap.size w (wr.alloc (.cells #[.int .i64 qd, .int .i64 qn, .int .i64 qv, .slice qa qm qc] 31)) := bW.alloc bW.size _
    go_upto_region 9 with (fail)
    generalize wr.alloc (.cells #[.int .i64 qd, .int .i64 qn, .int .i64 qv, .slice qa qm qc] 31) = wx at *
    obtain ⟨r0, hr0⟩ : ∃ q, wr.heap.size = q := ⟨_, rfl⟩
    rw [hr0] at ox hbl ⊢
    clear T bW d0 d1 d2 d3 hr0 bx
    clear wr
    have c0 : wx.cell? ⟨r0, 0, none⟩ = some (.int .i64 qd) := ox.cell 0
    go_upto_block 2 with (fail)
    go_cut [9] (fun s wz => s = .bool true ∧ Tws w wz b rb N)
    case first =>
      by_cases e0 : qd = 0
      · have g0 : (qd == 0) = true := by simpa using e0
        have c3 : wx.cell? ⟨r0, 3, none⟩ = some (.slice qa qm qc) := ox.cell 3
        have hF1 : RwM wx qa qm qV qF := HM3.out.below bWx
        have PM := map_big qa qm qc qV qF wx hm1 hm2 hF1
        clear e0 hF1 c0 ox HM3
        go_wp2_with fail
        refine PM.mono ?_
        rintro r w5 ⟨bm, M, A, K, o, rfl, _, _, hml, _, b5⟩
        have bd := (Below.refl w5.heap.size w5).alloc (Nat.le_refl _) (.cells (d16 fun i => .slice (A i) (dealt M i).length (K i)) 36)
        have T5 : Tws w (w5.alloc (.cells (d16 fun i => .slice (A i) (dealt M i).length (K i)) 36)) b rb N := by
          obtain ⟨v, la, g, R, now, next, Ln, Lx, P, Q', D, X, t⟩ := TX
          exact ⟨v, la, g, R, now, next, Ln, Lx, P, Q', D, X, (t.below b5).below bd⟩
        have hml5 := hml.below bd
        obtain ⟨u, e, C1⟩ := tw_begin T5 hml5 (mk_nd qF qm)
        have HC1 := Lib.hid C1
        have hst := run_row (P := Try.prog) (cs := d16 fun i => .slice (A i) (dealt M i).length (K i)) (Own.new w5 36 #[.slice none 0 0, .slice none 0 0, .slice none 0 0, .slice none 0 0, .slice none 0 0, .slice none 0 0, .slice none 0 0, .slice none 0 0, .slice none 0 0, .slice none 0 0, .slice none 0 0, .slice none 0 0, .slice none 0 0, .slice none 0 0, .slice none 0 0, .slice none 0 0]) rfl (by simp [d16, Value.oneCell'])
        rw [World.setRow_alloc_new] at hst
        clear PM TX T5 hml hml5 bWx C1 b5 bd
        go_upto_region 14 with (fail)
        clear hst
        change (Code.region _ _ _).wp _ _ _ (w5.alloc (.cells (d16 fun i => .slice (A i) (dealt M i).length (K i)) 36))
        generalize w5.alloc (.cells (d16 fun i => .slice (A i) (dealt M i).length (K i)) 36) = w6 at *
        go_wp2_with fail
        refine HC1.out.mono ?_
        rintro r w7 ⟨rfl, C2⟩
        clear HC1
        go_wp2_with fail
        refine C2.mono ?_
        rintro r w8 ⟨rfl, T8⟩
        have h1 : (u == u) = true := by simp
        have h2 : (e == e) = true := by simp
        go_wp2_with fail
        go_meet
        exact ⟨rfl, T8⟩
      have g0 : (qd == 0) = false := by simpa using e0
      by_cases e1 : qd = 1
      · have g1 : (qd == 1) = true := by simpa using e1
        obtain ⟨v, la, g, R, now, next, Ln, Lx, P, Q', D, X, t⟩ := TX
        have tA : Tw w wx.drew b rb N v la g R R now next Ln Lx P Q' D X := t.below (below_drewN (Below.refl _ _) 1)
        have oA : Own wx.drew r0 31 #[.int .i64 qd, .int .i64 qn, .int .i64 qv, .slice qa qm qc] := ox
        obtain ⟨er, her⟩ : ∃ e, readyE N la g R qn qv = e := ⟨_, rfl⟩
        have HER := Lib.hid her
        have xx : wx.drew.cell? ⟨r0, 1, none⟩ = some (.int .i64 qn) ∧ wx.drew.cell? ⟨r0, 2, none⟩ = some (.int .i64 qv) := ⟨oA.cell 1, oA.cell 2⟩
        have hrr : r0 ≠ b ∧ r0 ≠ rb := by omega
        clear e0 e1 her t c0 HM3 ox bWx
        go_upto_region 18 with (fail)
        go_region_held3 (fun w' => w'.cell? ⟨r0, 1, none⟩ = some (.int .i64 qn) ∧ w'.cell? ⟨r0, 2, none⟩ = some (.int .i64 qv)) (with_reducible first | exact xx | exact yy | exact zz) (first
          | (go_at_call 14; (with_reducible first | refine (tw_ready qn qv tA).mono ?_ | refine (tw_ready qn qv tB).mono ?_); rintro e w5 ⟨rfl, t5, j5⟩; rw [HER.out]; (first | (have tC : Tw w w5 b rb N v la g (readyR N la g R qn qv) R now next Ln Lx P Q' D X := t5; have oC := box_keep oA j5 hrr.1; have yy : w5.cell? ⟨r0, 1, none⟩ = some (.int .i64 qn) ∧ w5.cell? ⟨r0, 2, none⟩ = some (.int .i64 qv) := ⟨oC.cell 1, oC.cell 2⟩) | (have tD : Tw w w5 b rb N v la g (readyR N la g R qn qv) (readyR N la g R qn qv) now next Ln Lx P Q' D X := t5; have oD := box_keep oB j5 hrr.1; have zz : w5.cell? ⟨r0, 1, none⟩ = some (.int .i64 qn) ∧ w5.cell? ⟨r0, 2, none⟩ = some (.int .i64 qv) := ⟨oD.cell 1, oD.cell 2⟩) | fail))
          | (go_at_call 15; (with_reducible first | refine (tw_rready qn qv tA).mono ?_ | refine (tw_rready qn qv tC).mono ?_); rintro e w6 ⟨rfl, t6, j6⟩; rw [HER.out]; (first | (have tB : Tw w w6 b rb N v la g R (readyR N la g R qn qv) now next Ln Lx P Q' D X := t6; have oB := box_keep oA j6 hrr.2; have yy : w6.cell? ⟨r0, 1, none⟩ = some (.int .i64 qn) ∧ w6.cell? ⟨r0, 2, none⟩ = some (.int .i64 qv) := ⟨oB.cell 1, oB.cell 2⟩) | (have tD : Tw w w6 b rb N v la g (readyR N la g R qn qv) (readyR N la g R qn qv) now next Ln Lx P Q' D X := t6; have oD := box_keep oC j6 hrr.2; have zz : w6.cell? ⟨r0, 1, none⟩ = some (.int .i64 qn) ∧ w6.cell? ⟨r0, 2, none⟩ = some (.int .i64 qv) := ⟨oD.cell 1, oD.cell 2⟩) | fail))
          | fail)
        all_goals
          clear xx yy zz
          have h1 : (er == er) = true := by simp
          go_wp2_with fail
          go_meet
          exact ⟨by first | rfl | simp, v, la, g, _, now, next, Ln, Lx, P, Q', D, X, tD⟩
      have g1 : (qd == 1) = false := by simpa using e1
      by_cases e2 : qd = 2
      · have g2 : (qd == 2) = true := by simpa using e2
        obtain ⟨e, C1⟩ := tw_commit TX
        have h2 : (e == e) = true := by simp
        clear e0 e1 e2 TX HM3 ox bWx
        go_wp2_with fail
        refine C1.mono ?_
        rintro r w7 ⟨rfl, C2⟩
        clear C1
        go_wp2_with fail
        refine C2.mono ?_
        rintro r w8 ⟨rfl, T8⟩
        go_wp2_with fail
        go_meet
        exact ⟨rfl, T8⟩
      · have g2 : (qd == 2) = false := by simpa using e2
        obtain ⟨e, C1⟩ := tw_abort TX
        have h2 : (e == e) = true := by simp
        clear e0 e1 e2 TX HM3 ox bWx
        go_wp2_with fail
        refine C1.mono ?_
        rintro r w7 ⟨rfl, C2⟩
        clear C1
        go_wp2_with fail
        refine C2.mono ?_
        rintro r w8 ⟨rfl, T8⟩
        go_wp2_with fail
        go_meet
        exact ⟨rfl, T8⟩
    case rest =>
      clear TX ox c0 HM3 bWx
      obtain ⟨rfl, v, la, g, R, now, next, Ln, Lx, P, Q', D, X, t⟩ := hcut
      have hvv : (v != v) = false := by simp
      have tk : ∀ z : Lb.Gw wc, Tw w z.toW b rb N v la g R R now next Ln Lx P Q' D X := fun z => t.below z.ok
      obtain ⟨L, hL⟩ : ∃ L, rwaitL N (bgI g la) R = L := ⟨_, rfl⟩
      obtain ⟨m, hm⟩ : ∃ m, L.length = m := ⟨_, rfl⟩
      have PW := fun z : Lb.Gw wc => tw_waits (tk z)
      have PV := fun z : Lb.Gw wc => rwaits_any rb N v (bgI g la) la P Q' R D X z.toW (tk z).rk (tk z).n16 (by unfold bgI; split; exact (tk z).la0; exact Int.le_refl _)
      have PN := fun z : Lb.Gw wc => version_any b N v la g R now next Ln Lx z.toW (tk z).bk
      have c1 : ∀ z : Lb.Gw wc, z.toW.cell? ⟨rb, 1, none⟩ = some (.int .i64 v) := fun z => (tk z).rk.cells.2.1
      rw [hL] at PW PV
      rw [hm] at PW PV
      have PW := Lib.hid PW
      have PV := Lib.hid PV
      have PN := Lib.hid PN
      have HT := Lib.hid t
      clear t hL hm tk hbl
      go_wp2_with fail
      refine wp_region_grow wc (Below.refl _ _) [.is (.bool true), .is (.bool false), .is (.bool false), .is (.pointer (some ⟨b, 0, none⟩)), .is (.int .i64 v), .is (.pointer (some ⟨rb, 0, none⟩)), .is (.pointer (some ⟨rb, 0, none⟩)), .is (.pointer (some ⟨rb, 1, none⟩)), .is (.int .i64 v), .is (.bool false), .is (.bool false), .is (.bool false), .is (.pointer (some ⟨b, 0, none⟩)), .rows wc m (wv L), .is (.pointer (some ⟨rb, 0, none⟩)), .rows wc m (wv L), .is (.bool true), .is (.bool false), .is (.bool false)] [] (by kernel_rfl) (by kernel_rfl) rfl (by kernel_rfl) ?_
      iterate 4
        refine kd_is (by rfl) (fun z hz K Q hK => ?_) ?_
        · go_big_op
          exact hK _ _ rfl rfl
        simp only [Act.put, List.setIfInBounds_toArray, List.set_cons_zero, List.set_cons_succ]
      refine kd_isc (by rfl) (fun z hz K Q hK => ?_) ?_
      · go_big_op
        refine (PN.out z).mono ?_
        rintro r w' ⟨rfl, rfl⟩
        exact hK _ _ rfl (Below.refl _ _)
      simp only [Act.put, List.setIfInBounds_toArray, List.set_cons_zero, List.set_cons_succ]
      iterate 8
        refine kd_is (by rfl) (fun z hz K Q hK => ?_) ?_
        · go_big_op
          exact hK _ _ rfl rfl
        simp only [Act.put, List.setIfInBounds_toArray, List.set_cons_zero, List.set_cons_succ]
      refine kd_grow (by rfl) (fun z hz K Q hK => ?_) (fun x13 => ?_)
      · go_big_op
        refine (PW.out z).mono ?_
        rintro r w' ⟨A, cA, rfl, h1, h2, h3, b7⟩
        exact hK _ _ ⟨_, z.to w' b7, rfl, rfl, z.to_still w' b7, A, cA, rfl, h1, h2, h3⟩
      simp only [Act.put, List.setIfInBounds_toArray, List.set_cons_zero, List.set_cons_succ]
      refine kd_is (by rfl) (fun z hz K Q hK => ?_) ?_
      · go_big_op
        exact hK _ _ rfl rfl
      simp only [Act.put, List.setIfInBounds_toArray, List.set_cons_zero, List.set_cons_succ]
      refine kd_grow (by rfl) (fun z hz K Q hK => ?_) (fun x15 => ?_)
      · go_big_op
        refine (PV.out z).mono ?_
        rintro r w' ⟨A, cA, rfl, h1, h2, h3, b7⟩
        exact hK _ _ ⟨_, z.to w' b7, rfl, rfl, z.to_still w' b7, A, cA, rfl, h1, h2, h3⟩
      simp only [Act.put, List.setIfInBounds_toArray, List.set_cons_zero, List.set_cons_succ]
      refine kd_isc (by rfl) (fun z hz K Q hK => ?_) ?_
      · go_big_op
        obtain ⟨A7, c7, rfl, f1, f2, f3⟩ := (fact_at hz 13 (rowS wc m (wv L)) x13 (by kernel_rfl) (by kernel_rfl) (by kernel_rfl))
        obtain ⟨A8, c8, rfl, k1, k2, k3⟩ := (fact_at hz 15 (rowS wc m (wv L)) x15 (by kernel_rfl) (by kernel_rfl) (by kernel_rfl))
        refine (same_nums A7 A8 m c7 c8 (wv L) (fun i => ((L.getD i 0 : Nat) : Int)) z.toW rfl f1 k1 f2 k2 f3 k3).mono ?_
        rintro r w' ⟨rfl, q, rfl⟩
        exact hK _ _ rfl (below_drewN (Below.refl _ _) q)
      simp only [Act.put, List.setIfInBounds_toArray, List.set_cons_zero, List.set_cons_succ]
      iterate 2
        refine kd_is (by rfl) (fun z hz K Q hK => ?_) ?_
        · go_big_op
          exact hK _ _ rfl rfl
        simp only [Act.put, List.setIfInBounds_toArray, List.set_cons_zero, List.set_cons_succ]
      refine kd_nil (fun z hz => ?_)
      have t9 := HT.out.below z.ok
      clear hz PW PV PN c1 HT hvv
      go_wp2_with fail
      generalize z.toW = wq at *
      go_loopw [17] (fun i wz => ∃ q : Int, i = .int .i64 q ∧ -1 ≤ q ∧ q ≤ 17 ∧ Tw w wz b rb N v la g R R now next Ln Lx P Q' D X) (fun i _ => (17 - intOf i).toNat)
      case atStart => exact ⟨-1, rfl, by omega, by omega, t9⟩
      case round =>
        clear t9
        obtain ⟨q, rfl, hq0, hq1, t⟩ := hrel
        by_cases hq : q ≤ 16
        · have g1 : decide (q ≤ 16) = true := by simpa using hq
          have eq1 : IntKind.i64.wrap (q + 1) = q + 1 := IntWalk.i64_in _ (by omega)
          have P1 := cells_lk b N v la g R now next Ln Lx q wr t.bk (fun e he => (t.en.ok e he).2)
          have P2 := fun w5 (b5 : Below wr.heap.size wr w5) => tw_rcells q (t.below b5)
          obtain ⟨l, hl⟩ : ∃ l, lk Ln q = l := ⟨_, rfl⟩
          rw [hl] at P1 P2
          obtain ⟨ml, hml⟩ : ∃ ml, l.length = ml := ⟨_, rfl⟩
          rw [hml] at P1 P2
          have HT := Lib.hid t
          clear hl t hml
          go_wp2_with fail
          refine P1.mono ?_
          rintro r w5 ⟨a5, c5, rfl, h1, h2, h3, b5⟩
          have P2 := P2 w5 b5
          clear P1
          go_wp2_with fail
          refine P2.mono ?_
          rintro r w6 ⟨a6, c6, rfl, k1, k2, k3, rfl⟩
          clear P2
          go_wp2_with fail
          refine (same_cells a5 a6 ml c5 c6 l w5 h1 k1 h2 k2 h3 k3).mono ?_
          rintro r w7 ⟨rfl, m7, rfl⟩
          have t7 := (HT.out.below b5).below (below_drewN (Below.refl _ _) m7)
          clear HT b5 h3 k3
          go_wp2_with fail
          exact ⟨⟨q + 1, by simp [intOf], by omega, by omega, t7⟩, by simp [intOf]; omega⟩
        · have g1 : decide (q ≤ 16) = false := by simp; omega
          clear hq
          go_wp2_with fail
          exact ⟨⟨k + 1, by simp, by omega, v, la, g, R, now, next, Ln, Lx, P, Q', D, X, t⟩, by simp [intOf]; omega⟩
theorem walk (H : Type) (enc : TypeId × Value → H) : Walk H enc Try.prog 3 Try.f3 := by
  intro W base args ds p hval hA
  rw [Try.params3] at hA hval
  obtain ⟨v0, v1, d0, d1, p0, p1, rfl, rfl, rfl, h0, h1⟩ := trodAll_two hA
  obtain ⟨x, rfl, rfl, rfl, _⟩ := open_int Try.underlying3 (hval 0 _ v0 rfl rfl) h0
  obtain ⟨a, n, c, V, Q, rfl, hn, hm, hQ⟩ := open_kls (hval 1 _ v1 rfl rfl) h1
  exact body x a n c V Q W hn hm hQ

set_option maxRecDepth 100000 in
theorem lifted (os : Os) (started : os.Started) (H : Type) (enc : TypeId × Value → H) :
    ReturnsInHanded {} Try.checked os 3 .any (Rows.versionPlaysSpec.pre6 enc Try.prog Try.f3 Rows.versionPlaysRow.domain false) (Rows.versionPlaysSpec.post enc Try.prog Try.f3 false true false false) :=
  returnsInHanded_of_change (C := Try.checked) own started (by kernel_rfl) Try.func3
    (ChangeSpec.witness6 (enc := enc) (C := Try.checked) false ⟨#[], #[.int .i64 0, .slice none 0 0], []⟩ 8 (by kernel_rfl) (by kernel_rfl) (by kernel_rfl) (by kernel_rfl))
    fun W base args ds gs before hval hW _ _ => step_of_walk laidOut (by rw [Try.params3]; exact of_decide_eq_true (by kernel_rfl)) (by kernel_rfl) Try.underlying4 rfl
      (fun ds h => by
        rw [Try.params3] at h
        match ds, h with
        | [_, _], _ => rfl) (walk H enc) W base args ds gs before hval hW

theorem holds : Rows.VersionPlaysSaid :=
  OpenClaim.holds_of_wide 3 Try.f3 rfl rfl rfl rfl rfl rfl rfl ⟨rfl, rfl, rfl, rfl, rfl⟩ rfl rfl rfl rfl rfl (by kernel_rfl) Try.func3 (by kernel_rfl)
    (of_decide_eq_true (by kernel_rfl)) (by unfold Func.isWrapper; first | (rw [if_pos (by decide +kernel)]; kernel_rfl) | (rw [if_neg (by decide +kernel)]; exact ⟨rfl, rfl⟩))
    (fun os started H enc _ => lifted os started H enc)
#print axioms holds
end Go.Proofs.Ytdpkiolngglpaaa.VersionPlays
