/-
  Law ParentsPlays: any calls on a set, each answer, whom it may follow, as the document's own answers; the call returns true. No condition.
-/
import Derived.Test.YtjboilkbcajkcaaPaBoth
import Derived.Deep.RegionHeld3
import Derived.BigRegion
set_option maxRecDepth 100000
namespace Go.Proofs.Ytjboilkbcajkcaa.ParentsPlays
set_option linter.unusedVariables false
open Go.RowKit Go.ChangeShapes Go.WideShapes Go.ChangeAt Go.Deep Lb Pa
set_option linter.unusedVariables false
theorem own : ownKnob Try.prog.godebug = none := by kernel_rfl
theorem laidOut : laidOutB Try.prog = true := by kernel_rfl
/-- Both sets, and a box, at a world. -/
structure Two (w wx : World) (B b rb : Nat) (me rk : Int) (l : List P) (v rv : Value) : Prop where
  s : St wx B b me rk l v
  r : Rs wx B rb me rk l rv
  bb : Below B w wx
  bs : B ≤ w.heap.size
theorem Two.below {w wx wy : World} {B b rb : Nat} {me rk : Int} {l : List P} {v rv : Value} (t : Two w wx B b rb me rk l v rv) (j : Below wx.heap.size wx wy) : Two w wy B b rb me rk l v rv :=
  ⟨t.s.below j, t.r.below j, t.bb.trans (j.mono (Nat.le_trans t.bs t.bb.size)), t.bs⟩
theorem just_below {B rb : Nat} {w w' : World} (j : Just rb w w') (h : B ≤ rb) (hs : B ≤ w.heap.size) : Below B w w' := ⟨j.os, j.tape, j.output, j.size, fun q hq => j.block q (by omega) (by omega)⟩
/-- Both sets in one memory, beside a call's box; what is above S0 is nobody's. -/
structure Pr (w wx : World) (b rb r0 S0 : Nat) (me R R' : Int) (l l' : List P) (v rv : Value) (q : Cl) : Prop where
  s : St wx b b me R l v
  r : Rs wx b rb me R' l' rv
  bb : Below b w wx
  bs : b ≤ w.heap.size
  box : Own wx r0 29 q.cells
  hS : S0 ≤ wx.heap.size
  h0 : rb < S0
theorem Pr.keep {w wx : World} {b rb r0 S0 : Nat} {me R R' : Int} {l l' : List P} {v rv : Value} {q : Cl} (t : Pr w wx b rb r0 S0 me R R' l l' v rv q) {wy : World} (j : Below wx.heap.size wx wy) : Pr w wy b rb r0 S0 me R R' l l' v rv q :=
  ⟨t.s.below j, t.r.below j, t.bb.trans (j.mono (Nat.le_trans t.bs t.bb.size)), t.bs, below_own j t.box t.box.lt, Nat.le_trans t.hS j.size, t.h0⟩
theorem ct_ne {w : World} {r0 q : Nat} {t : TypeId} {cs ds : Array Value} (h : Own w r0 29 cs) (g : Own w q t ds) (ht : 29 ≠ t) : r0 ≠ q := fun e => by
  subst e
  exact ht (own_ty h g)
/-- The set turns. -/
theorem Pr.turn {w wx : World} {b rb r0 S0 : Nat} {me R R' R2 : Int} {l l' l2 : List P} {v rv v2 : Value} {q : Cl} (t : Pr w wx b rb r0 S0 me R R' l l' v rv q) {wy : World} (u : St wy b b me R2 l2 v2) (j : Turn wx wy b v v2) : Pr w wy b rb r0 S0 me R2 R' l2 l' v2 rv q :=
  ⟨u, j.rs t.s t.r, t.bb.trans (j.old t.s), t.bs, j.box t.box (ct_ne t.box t.s.own (by decide)) (fun e => by
    obtain ⟨cs, hc⟩ := mineK_own t.s.row e
    exact ct_ne t.box hc (by decide) rfl), Nat.le_trans t.hS j.size, t.h0⟩
/-- The reference's turns. -/
theorem Pr.just {w wx : World} {b rb r0 S0 : Nat} {me R R' R2 : Int} {l l' l2 : List P} {v rv rv2 : Value} {q : Cl} (t : Pr w wx b rb r0 S0 me R R' l l' v rv q) {wy : World} (u : Rs wy b rb me R2 l2 rv2) (j : Just rb wx wy) : Pr w wy b rb r0 S0 me R R2 l l2 v rv2 q :=
  ⟨t.r.st j t.s, u, t.bb.trans (just_below j t.r.low (Nat.le_trans t.bs t.bb.size)), t.bs, j.own t.box (ct_ne t.box t.r.own (by decide)), Nat.le_trans t.hS j.size, t.h0⟩
theorem Pr.row {w wx : World} {b rb r0 S0 n : Nat} {me R R' R2 : Int} {l l' l2 : List P} {v rv v2 gv : Value} {V : Nat → Value} {q : Cl} (t : Pr w wx b rb r0 S0 me R R' l l' v rv q) {wy : World} (j : Turn wx wy b v v2) (h : Mine wx S0 3 gv n V) (hv : ∀ p, v.ownBlock = some p → p < S0) : Mine wy S0 3 gv n V :=
  h.kept (fun p hp => by
    by_cases e : gv.ownBlock = some p
    · exact .inl (j.keep p (h.lt p e).2 (by have := t.r.low; have := t.h0; omega) (fun e' => by have := hv p e'; omega))
    · exact .inr e)
theorem Pr.row2 {w wx : World} {b rb r0 S0 n : Nat} {me R R' : Int} {l l' : List P} {v rv gv : Value} {V : Nat → Value} {q : Cl} (t : Pr w wx b rb r0 S0 me R R' l l' v rv q) {wy : World} (j : Just rb wx wy) (h : Mine wx S0 3 gv n V) : Mine wy S0 3 gv n V :=
  h.kept (fun p hp => by
    by_cases e : gv.ownBlock = some p
    · exact .inl (j.block p (h.lt p e).2 (by have := t.h0; omega))
    · exact .inr e)
theorem Pr.x1 {w wx : World} {b rb r0 S0 : Nat} {me R R' : Int} {l l' : List P} {v rv : Value} {q : Cl} (t : Pr w wx b rb r0 S0 me R R' l l' v rv q) : wx.cell? ⟨r0, 1, none⟩ = some (.int .i64 q.n) ∧ wx.cell? ⟨r0, 2, none⟩ = some (.int .i64 q.r) ∧ wx.cell? ⟨r0, 3, none⟩ = some (.int .i64 q.now) ∧ wx.cell? ⟨r0, 4, none⟩ = some (.int .i64 q.loss) :=
  ⟨t.box.cell 1, t.box.cell 2, t.box.cell 3, t.box.cell 4⟩
set_option maxHeartbeats 8000000 in
theorem body (me rank ask : Int) (a : Option Addr) (n c : Nat) (V : Nat → Value) (C : Nat → Cl) (w : World) (hn : n ≤ c) (hc : c ≤ maxLen) (hV : Row w a (n * 5) V)
    (hC : ∀ i, i < n → V (i * 5) = .bool (C i).old ∧ V (i * 5 + 1) = .int .i64 (C i).n ∧ V (i * 5 + 2) = .int .i64 (C i).r ∧ V (i * 5 + 3) = .int .i64 (C i).now ∧ V (i * 5 + 4) = .int .i64 (C i).loss ∧ (C i).ok) :
    Calls Try.prog 3 #[.int .i64 me, .int .i64 rank, .slice a n c, .int .i64 ask] w fun r w' => r = .returned (.bool true) ∧ Below w.heap.size w w' := by
  unfold maxLen at hc
  have HC := Lib.hid hC
  have HV := Lib.hid hV
  clear hC hV
  by_cases hnew : ndB me = true ∧ rkB rank = true
  case neg =>
    have hno : ndB me = false ∨ (ndB me = true ∧ rkB rank = false) := by
      cases h1 : ndB me
      · exact .inl rfl
      · cases h2 : rkB rank
        · exact .inr ⟨rfl, rfl⟩
        · exact absurd ⟨h1, h2⟩ hnew
    have HN := Lib.hid hno
    clear hnew hno
    go_enter Try.func3, Try.ntmps3
    go_wp2_with fail
    refine (new_no me rank _ HN.out).mono ?_
    rintro r w' ⟨rfl, rfl⟩
    go_wp2_with fail
    refine (rnew_no me rank _ HN.out).mono ?_
    rintro r w' ⟨rfl, rfl⟩
    go_wp2_with fail
    refine (awake_any _).mono ?_
    rintro r w' ⟨rfl, b1⟩
    go_wp2_with fail
    go_ret
    exact ⟨rfl, b1⟩
  obtain ⟨h1, h2⟩ := hnew
  have hrk : 0 ≤ rank ∧ rank ≤ 255 := by simpa [rkB] using h2
  have hinv : Hid (Inv me rank []) := Lib.hid ⟨hrk, by simp, by simp, by simp, by simp, by simp⟩
  have h16 : Hid (In16 []) := Lib.hid (fun x hx => by simp at hx)
  go_enter Try.func3, Try.ntmps3
  go_wp2_with fail
  refine (new_yes me rank _ h1 h2).mono ?_
  rintro r w1 ⟨rfl, t1, b1⟩
  go_wp2_with fail
  refine (rnew_yes me rank _ h1 h2).mono ?_
  rintro r w2 ⟨rfl, r2, b2⟩
  have hb1 := t1.own.lt
  have t2 : Two w w2 w.heap.size w.heap.size w1.heap.size me rank [] (.slice none 0 0) (.slice none 0 0) :=
    ⟨t1.below b2, ⟨r2.own, mk_low r2.row (Nat.le_of_lt hb1), r2.few, Nat.le_of_lt hb1⟩, b1.trans (b2.mono b1.size), Nat.le_refl _⟩
  obtain ⟨rb, hrb⟩ : ∃ rb, w1.heap.size = rb := ⟨_, rfl⟩
  rw [hrb] at t2 hb1 ⊢
  obtain ⟨b, hb⟩ : ∃ b, w.heap.size = b := ⟨_, rfl⟩
  have HB := Lib.hid hb
  rw [hb] at t2 hb1 ⊢
  clear t1 r2 b1 b2 h1 h2 hrk hrb hb
  clear w1
  go_wp2_with fail
  go_loopw [37] (fun i wr => ∃ (k : Nat) (R : Int) (l : List P) (v rv : Value), i = .int .i64 k ∧ k ≤ n ∧ k ≤ 300 ∧ Two w wr b b rb me R l v rv ∧ Hid (Inv me R l) ∧ Hid (In16 l)) (fun i _ => n - (intOf i).toNat)
  case atStart => exact ⟨0, _, _, _, _, rfl, by omega, by omega, t2, hinv, h16⟩
  case round =>
    clear t2 hinv h16
    obtain ⟨k, R, l, v, rv, rfl, hk, hk3, t, hinv, h16⟩ := hrel
    have hend : ∀ wz, Two w wz b b rb me R l v rv → Calls Try.prog 11 #[] wz fun r w' => r = .returned (.bool true) ∧ Below w.heap.size w w' := fun wz tz =>
      (awake_any wz).mono (by rintro r w' ⟨rfl, b1⟩; exact ⟨rfl, by rw [HB.out]; exact tz.bb.trans (b1.mono (Nat.le_trans tz.bs tz.bb.size))⟩)
    by_cases hlt : k < n
    · have bV : Below w.heap.size w wr := by rw [HB.out]; exact t.bb
      obtain ⟨bo, off, rfl, hbo, d0, d1, d2, d3, d4⟩ := calls_at HV.out HC.out bV hlt
      have hok := (HC.out k hlt).2.2.2.2.2
      obtain ⟨q, hq⟩ : ∃ q, C k = q := ⟨_, rfl⟩
      rw [hq] at d0 d1 d2 d3 d4 hok
      have HOK := Lib.hid hok
      clear hok bV hq
      have tx := t.below ((Below.refl wr.heap.size wr).alloc (Nat.le_refl _) (.cells q.cells 29))
      have ox := Own.new wr 29 q.cells
      unfold Cl.cells at tx ox
      by_cases h3 : k < 300
      · have g3 : decide ((300 : Int) ≤ (k : Int)) = false := by simp; omega
        have p0 : Pr w (wr.alloc (.cells #[.bool q.old, .int .i64 q.n, .int .i64 q.r, .int .i64 q.now, .int .i64 q.loss] 29)) b rb wr.heap.size wr.heap.size me R R l l v rv q := ⟨tx.s, tx.r, tx.bb, tx.bs, ox, by simp, t.r.own.lt⟩
        have hvS : ∀ p, v.ownBlock = some p → p < wr.heap.size := fun p e => (t.s.blk p e).2
        have c0 : (wr.alloc (.cells #[.bool q.old, .int .i64 q.n, .int .i64 q.r, .int .i64 q.now, .int .i64 q.loss] 29)).cell? ⟨wr.heap.size, 0, none⟩ = some (.bool q.old) := ox.cell 0
        obtain ⟨qo, hqo⟩ : ∃ o, q.old = o := ⟨_, rfl⟩
        rw [hqo] at d0 c0 p0
        have HQO := Lib.hid hqo
        clear tx ox t hqo
        go_upto_region 10 with (fail)
        clear d0 d1 d2 d3 d4
        generalize wr.alloc (.cells #[.bool qo, .int .i64 q.n, .int .i64 q.r, .int .i64 q.now, .int .i64 q.loss] 29) = wx at *
        obtain ⟨r0, hr0⟩ : ∃ r0, wr.heap.size = r0 := ⟨_, rfl⟩
        rw [hr0] at p0 hvS c0 ⊢
        clear hr0
        clear wr
        have hrk := hinv.out.lo
        have hl3 := hinv.out.three
        have pA : Pr w wx.drew b rb r0 r0 me R R l l v rv q := p0.keep (below_drewN (Below.refl _ _) 1)
        have xx := pA.x1
        obtain ⟨y1, y2, y3, y4⟩ := p0.x1
        go_upto_if 45 with (fail)
        go_cut [59] from 46 to 76 (fun _ wz => ∃ (R' : Int) (l' : List P) (v' rv' : Value), Pr w wz b rb r0 r0 me R' R' l' l' v' rv' q ∧ Hid (Pa.Inv me R' l') ∧ Hid (In16 l'))
        case first =>
          cases qo
          · have hinv2 := Lib.hid (hinv.out.hear q.p)
            have h162 := Lib.hid (h16.out.hear (me := me) (rk := R) (x := q.p) HOK.out.1)
            obtain ⟨hB, hhB⟩ : ∃ x, hearB me R l q.p = x := ⟨_, rfl⟩
            have HHB := Lib.hid hhB
            clear hhB
            go_wp2_with fail
            go_region_held3 (fun w' => w'.cell? ⟨r0, 1, none⟩ = some (.int .i64 q.n) ∧ w'.cell? ⟨r0, 2, none⟩ = some (.int .i64 q.r) ∧ w'.cell? ⟨r0, 3, none⟩ = some (.int .i64 q.now) ∧ w'.cell? ⟨r0, 4, none⟩ = some (.int .i64 q.loss)) (with_reducible first | exact xx | exact yy | exact zz) (first
              | (go_at_call 15; refine (hear_any b b me R l v q.p _ ?_ (by omega) hrk).mono ?_; (with_reducible first | exact pA.s | exact pB.s); rintro e w5 ⟨rfl, v5, t5, j5⟩; rw [HHB.out]; (first | (have pC := pA.turn t5 j5; have yy := pC.x1) | (have pD := pB.turn t5 j5; have zz := pD.x1) | fail))
              | (go_at_call 16; refine (rhear_any b rb me R l rv q.p _ ?_ hinv.out).mono ?_; (with_reducible first | exact pA.r | exact pC.r); rintro e w6 ⟨rfl, rv6, r6, j6⟩; rw [HHB.out]; (first | (have pB := pA.just r6 j6; have yy := pB.x1) | (have pD := pC.just r6 j6; have zz := pD.x1) | fail)))
            all_goals
              clear xx yy zz y1 y2 y3 y4
              go_wp2_with fail
              go_meet
              exact ⟨_, _, _, _, pD, hinv2, h162⟩
          · have hinv2 := Lib.hid (hinv.out.old q)
            have h162 := Lib.hid (h16.out.old q)
            go_wp2_with fail
            go_region_held3 (fun w' => w'.cell? ⟨r0, 1, none⟩ = some (.int .i64 q.n) ∧ w'.cell? ⟨r0, 2, none⟩ = some (.int .i64 q.r) ∧ w'.cell? ⟨r0, 3, none⟩ = some (.int .i64 q.now) ∧ w'.cell? ⟨r0, 4, none⟩ = some (.int .i64 q.loss)) (with_reducible first | exact xx | exact yy | exact zz | exact vv) (first
              | (go_at_call 13; refine (go_any b b me R q l v _ ?_ HOK.out).mono ?_; (with_reducible first | exact pA.s | exact pB.s); rintro e w5 ⟨gv5, v5, rfl, m5, t5, j5⟩; (first | (have pC := pA.turn t5 j5; have yy := pC.x1; have n5 := mn_low m5 (show r0 ≤ _ from Nat.le_trans pA.hS (Nat.le_succ _))) | (have pD := pB.turn t5 j5; have zz := pD.x1; have n5 := mn_low m5 (show r0 ≤ _ from Nat.le_trans pB.hS (Nat.le_succ _)); have n6' := pB.row j5 n6 hvS) | fail); obtain ⟨a5, c5, rfl, hc5, hd5, hR5⟩ := n5.row)
              | (go_at_call 14; refine (rold_any b rb me R q l rv _ ?_ hinv.out h16.out HOK.out).mono ?_; (with_reducible first | exact pA.r | exact pC.r); rintro e w6 ⟨gv6, rv6, rfl, m6, r6, j6⟩; (first | (have pB := pA.just r6 j6; have yy := pB.x1; have n6 := mn_low m6 pA.hS) | (have pD := pC.just r6 j6; have zz := pD.x1; have n6 := mn_low m6 pC.hS; have n5' := pC.row2 j6 n5) | fail); obtain ⟨a6, c6, rfl, hc6, hd6, hR6⟩ := n6.row)
              | (go_at_call 12; refine (same_ints a5 a6 (oldN q l).length c5 c6 (zval (oldN q l)) (fun j => (oldN q l).getD j 0) _ rfl hc5 hc6 hd5 hd6 ?_ ?_).mono ?_; (with_reducible first | exact n5'.rowAt | exact n5.rowAt); (with_reducible first | exact n6'.rowAt | exact n6.rowAt); rintro e w8 ⟨rfl, m8, hw8⟩; have pE := pD.keep (wy := w8) (by rw [← hw8]; exact below_drewN (Below.refl _ _) m8); have vv := pE.x1; clear hw8))
            all_goals
              clear xx yy zz vv y1 y2 y3 y4
              go_wp2_with fail
              go_meet
              exact ⟨_, _, _, _, pE, hinv2, h162⟩
        case rest =>
          clear pA xx y1 y2 y3 y4 p0 hinv h16 c0 hl3 hrk hvS
          obtain ⟨R', l', v', rv', p0, hinv, h16⟩ := hcut
          go_wp2_with fail
          refine (fst_any b b me R' l' v' _ p0.s).mono ?_
          rintro e wd ⟨rfl, rfl⟩
          obtain ⟨F, hF⟩ : ∃ F, fstN l' = F := ⟨_, rfl⟩
          obtain ⟨G, hG⟩ : ∃ G, decide (0 < l'.length) = G := ⟨_, rfl⟩
          have HF := Lib.hid hF
          have HG := Lib.hid hG
          rw [hF, hG]
          clear hF hG
          go_wp2_with fail
          refine (rfst_any b rb me R' l' rv' _ p0.r).mono ?_
          rintro e wd ⟨rfl, rfl⟩
          rw [HF.out, HG.out]
          go_wp2_with fail
          obtain ⟨A1, hA1⟩ : ∃ F, (rkoP l' ask).1 = F := ⟨_, rfl⟩
          obtain ⟨A2, hA2⟩ : ∃ F, (rkoP l' ask).2 = F := ⟨_, rfl⟩
          have HA1 := Lib.hid hA1
          have HA2 := Lib.hid hA2
          clear hA1 hA2
          refine (rko_any b b me R' l' v' ask _ p0.s).mono ?_
          rintro e w3 ⟨rfl, b3⟩
          have p3 := p0.keep b3
          rw [HA1.out, HA2.out]
          go_wp2_with fail
          refine (rrko_any b rb me R' l' rv' ask _ p3.r).mono ?_
          rintro e w4 ⟨rfl, b4⟩
          have p4 := p3.keep b4
          rw [HA1.out, HA2.out]
          clear b3 b4 p0 p3
          have r1 : w4.cell? ⟨rb, 1, none⟩ = some (.int .i64 R') := p4.r.own.cell 1
          have pA : Pr w w4.drew b rb r0 r0 me R' R' l' l' v' rv' q := p4.keep (below_drewN (Below.refl _ _) 1)
          have xx : w4.drew.cell? ⟨rb, 1, none⟩ = some (.int .i64 R') := r1
          go_wp2_with fail
          go_region_held3 (fun w' => w'.cell? ⟨rb, 1, none⟩ = some (.int .i64 R')) (with_reducible first | exact xx | exact yy | exact zz | exact vv) (first
            | (go_at_call 21; refine (all_any b b me R' l' v' _ ?_).mono ?_; (with_reducible first | exact pA.s | exact pB.s); rintro e w5 ⟨a5, c5, rfl, hc5, hd5, hR5, b5⟩; (first | (have pC := pA.keep b5; have yy : w5.cell? ⟨rb, 1, none⟩ = some (.int .i64 R') := pC.r.own.cell 1) | (have pD := pB.keep b5; have zz : w5.cell? ⟨rb, 1, none⟩ = some (.int .i64 R') := pD.r.own.cell 1; have hR6' := hR6.below b5) | fail))
            | (go_at_call 22; refine (rall_any b rb me R' l' rv' _ ?_).mono ?_; (with_reducible first | exact pA.r | exact pC.r); rintro e w6 ⟨a6, c6, rfl, hc6, hd6, hR6, b6⟩; (first | (have pB := pA.keep b6; have yy : w6.cell? ⟨rb, 1, none⟩ = some (.int .i64 R') := pB.r.own.cell 1) | (have pD := pC.keep b6; have zz : w6.cell? ⟨rb, 1, none⟩ = some (.int .i64 R') := pD.r.own.cell 1; have hR5' := hR5.below b6) | fail))
            | (go_at_call 12; refine (same_ints a5 a6 l'.length c5 c6 (nov l') (fun j => (at_ l' j).n) _ rfl hc5 hc6 hd5 hd6 ?_ ?_).mono ?_; (with_reducible first | exact hR5' | exact hR5); (with_reducible first | exact hR6' | exact hR6); rintro e w8 ⟨rfl, m8, hw8⟩; have pE := pD.keep (wy := w8) (by rw [← hw8]; exact below_drewN (Below.refl _ _) m8); have vv : w8.cell? ⟨rb, 1, none⟩ = some (.int .i64 R') := pE.r.own.cell 1; clear hw8)
            | (go_at_call 23; refine (rnk_any b b me R' l' v' _ pE.s).mono ?_; rintro e w9 ⟨rfl, rfl⟩))
          all_goals
            clear xx yy zz vv r1
            go_wp2_with fail
            exact ⟨⟨k + 1, _, _, _, _, by simp [intOf], by omega, by omega, ⟨pE.s, pE.r, pE.bb, pE.bs⟩, hinv, h16⟩, by simp [intOf]; omega⟩
      · have g3 : decide ((300 : Int) ≤ (k : Int)) = true := by simp; omega
        go_wp2_with fail
        refine (hend _ tx).mono ?_
        rintro r w' ⟨rfl, b1⟩
        go_wp2_with fail
        go_ret
        exact ⟨rfl, b1⟩
    · obtain rfl : n = k := by omega
      go_wp2_with fail
      refine (hend _ t).mono ?_
      rintro r w' ⟨rfl, b1⟩
      go_wp2_with fail
      go_ret
      exact ⟨rfl, b1⟩

theorem walk (H : Type) (enc : TypeId × Value → H) : Walk H enc Try.prog 3 Try.f3 := by
  intro W base args ds p hval hA
  rw [Try.params3] at hA hval
  obtain ⟨v0, v1, v2, v3, d0, d1, d2, d3, p0, p1, p2, p3, rfl, rfl, rfl, h0, h1, h2, h3⟩ := trodAll_four hA
  obtain ⟨me, rfl, rfl, rfl, _⟩ := open_int Try.underlying3 (hval 0 _ v0 rfl rfl) h0
  obtain ⟨rk, rfl, rfl, rfl, _⟩ := open_int Try.underlying3 (hval 1 _ v1 rfl rfl) h1
  obtain ⟨a, n, c, V, C, rfl, hn, hc, hV, hC⟩ := open_calls (hval 2 _ v2 rfl rfl) h2
  obtain ⟨ask, rfl, rfl, rfl, _⟩ := open_int Try.underlying3 (hval 3 _ v3 rfl rfl) h3
  exact body me rk ask a n c V C W hn hc hV hC

set_option maxRecDepth 100000 in
theorem lifted (os : Os) (started : os.Started) (H : Type) (enc : TypeId × Value → H) :
    ReturnsInHanded {} Try.checked os 3 .any (Rows.parentsPlaysSpec.pre6 enc Try.prog Try.f3 Rows.parentsPlaysRow.domain false) (Rows.parentsPlaysSpec.post enc Try.prog Try.f3 false true false false) :=
  returnsInHanded_of_change (C := Try.checked) own started (by kernel_rfl) Try.func3
    (ChangeSpec.witness6 (enc := enc) (C := Try.checked) false ⟨#[], #[.int .i64 0, .int .i64 0, .slice none 0 0, .int .i64 0], []⟩ 8 (by kernel_rfl) (by kernel_rfl) (by kernel_rfl) (by kernel_rfl))
    fun W base args ds gs before hval hW _ _ => step_of_walk laidOut (by rw [Try.params3]; exact of_decide_eq_true (by kernel_rfl)) (by kernel_rfl) Try.underlying4 rfl
      (fun ds h => by
        rw [Try.params3] at h
        match ds, h with
        | [_, _, _, _], _ => rfl) (walk H enc) W base args ds gs before hval hW

theorem holds : Rows.ParentsPlaysSaid :=
  OpenClaim.holds_of_wide 3 Try.f3 rfl rfl rfl rfl rfl rfl rfl ⟨rfl, rfl, rfl, rfl, rfl⟩ rfl rfl rfl rfl rfl (by kernel_rfl) Try.func3 (by kernel_rfl)
    (of_decide_eq_true (by kernel_rfl)) (by unfold Func.isWrapper; first | (rw [if_pos (by decide +kernel)]; kernel_rfl) | (rw [if_neg (by decide +kernel)]; exact ⟨rfl, rfl⟩))
    (fun os started H enc _ => lifted os started H enc)
#print axioms holds
end Go.Proofs.Ytjboilkbcajkcaa.ParentsPlays
