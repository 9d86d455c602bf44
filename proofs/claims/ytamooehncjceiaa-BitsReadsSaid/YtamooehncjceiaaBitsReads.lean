/-
  Law BitsReads: any bytes, any fields: each answer of the package's reader is the reference's, what is left, each error; the call returns true. No condition.
-/
import Derived.Test.YtamooehncjceiaaBfTwo
import Derived.Test.YtamooehncjceiaaBfField
import Derived.Deep.RegionHeld3
import Derived.Deep.CutBlock
import Derived.Deep.DeepCutAuto
import Derived.BigRegion
import Derived.IntWalk
set_option maxRecDepth 100000
namespace Go.Proofs.Ytamooehncjceiaa.BitsReads
set_option linter.unusedVariables false
open Go.RowKit Go.ChangeShapes Go.WideShapes Go.ChangeAt Go.Deep Lb Bf
set_option linter.unusedVariables false
theorem own : ownKnob Try.prog.godebug = none := by kernel_rfl
theorem laidOut : laidOutB Try.prog = true := by kernel_rfl
structure Two (W w : World) (B br bm N : Nat) (Z : Nat → Nat) (s t : St) : Prop where
  r : R1 w B br N Z s
  m : R2 w bm N Z t
  rl : W.heap.size ≤ B
  ml : W.heap.size ≤ bm
  bel : Below W.heap.size W w
theorem Two.read {W w w' : World} {B br bm N : Nat} {Z : Nat → Nat} {s s' t : St} (x : Two W w B br bm N Z s t) (h : R1 w' B br N Z s') (j : Just br w w') : Two W w' B br bm N Z s' t := by
  obtain ⟨cs, o⟩ := x.r.own
  exact ⟨h, x.m.just j o (by decide) (by decide), x.rl, x.ml, j.below x.bel (Nat.le_trans x.rl x.r.low) x.bel.size⟩
theorem Two.row {W w w' : World} {B br bm N : Nat} {Z : Nat → Nat} {s t t' : St} (x : Two W w B br bm N Z s t) (h : R2 w' bm N Z t') (j : Just bm w w') : Two W w' B br bm N Z s t' := by
  obtain ⟨cs, o⟩ := x.m.own
  exact ⟨x.r.just j o (by decide) (by decide), h, x.rl, x.ml, j.below x.bel x.ml x.bel.size⟩
theorem Two.drewN {W w : World} {B br bm N : Nat} {Z : Nat → Nat} {s t : St} (x : Two W w B br bm N Z s t) (m : Nat) : Two W (w.drewN m) B br bm N Z s t := ⟨x.r.drewN m, x.m.drewN m, x.rl, x.ml, below_drewN x.bel m⟩
theorem Two.boxr {W w w' : World} {B br bm N r0 : Nat} {Z : Nat → Nat} {s t : St} {cs : Array Value} (x : Two W w B br bm N Z s t) (o : Own w r0 32 cs) (j : Just br w w') : Own w' r0 32 cs := by
  obtain ⟨ds, h⟩ := x.r.own
  exact j.own o (fun e => by subst e; exact absurd (own_type o h) (by decide))
theorem Two.boxm {W w w' : World} {B br bm N r0 : Nat} {Z : Nat → Nat} {s t : St} {cs : Array Value} (x : Two W w B br bm N Z s t) (o : Own w r0 32 cs) (j : Just bm w w') : Own w' r0 32 cs := by
  obtain ⟨ds, h⟩ := x.m.own
  exact j.own o (fun e => by subst e; exact absurd (own_type o h) (by decide))
theorem Two.rtr {W w w' : World} {B br bm N n : Nat} {Z : Nat → Nat} {s t : St} {a : Option Addr} {V : Nat → Value} (x : Two W w B br bm N Z s t) (o : Rt w a n V) (j : Just br w w') : Rt w' a n V := by
  obtain ⟨ds, h⟩ := x.r.own
  exact o.just j h (by decide)
theorem Two.rtm {W w w' : World} {B br bm N n : Nat} {Z : Nat → Nat} {s t : St} {a : Option Addr} {V : Nat → Value} (x : Two W w B br bm N Z s t) (o : Rt w a n V) (j : Just bm w w') : Rt w' a n V := by
  obtain ⟨ds, h⟩ := x.m.own
  exact o.just j h (by decide)
/-- What is new does no harm. -/
theorem Two.alloc {W w : World} {B br bm N : Nat} {Z : Nat → Nat} {s t : St} (x : Two W w B br bm N Z s t) (o : Obj) : Two W (w.alloc o) B br bm N Z s t := by
  refine ⟨?_, ?_, x.rl, x.ml, x.bel.alloc x.bel.size o⟩
  · have h := x.r
    cases s with
    | ok p => obtain ⟨h0, v, h⟩ := h; exact ⟨h0, v, h.alloc o⟩
    | bad e => exact ⟨h.1, h.2.alloc o⟩
  · have h := x.m
    have bb := (Below.refl w.heap.size w).alloc (Nat.le_refl _) o
    have hr : ∀ {b n c p : Nat} {a : Option Addr} {D : Nat → Bool} {E : Int}, Ro w b a n c D p E → Ro (w.alloc o) b a n c D p E := fun h =>
      ⟨h.own.alloc o, h.le, h.cap, h.row.below bb, fun h0 q e => by
        obtain ⟨cs, hc⟩ := h.ty h0 q e
        exact ⟨cs, hc.alloc o⟩⟩
    cases t with
    | ok p => obtain ⟨h0, a, c, h⟩ := h; exact ⟨h0, a, c, hr h⟩
    | bad e => exact ⟨h.1, hr h.2⟩
theorem ro_made {w : World} {base b n : Nat} {D : Nat → Bool} {v : Value} (h : Wo w base b n D v) : ∃ a c, Ro w b a n c D 0 0 := by
  obtain ⟨a, c, rfl, h1, h2, h3⟩ := h.row.row
  refine ⟨a, c, h.own, h1, h2, fun hn => ?_, fun h0 q e => ?_⟩
  · obtain ⟨g, off, e1, e2, e3⟩ := h3 hn
    exact ⟨g, off, e1, e2, fun i hi => by
      rw [e3 i hi]
      show some (one _) = some (one _)
      rw [Nat.zero_add]⟩
  · exact mine_ty h.row q e
theorem textV_is (Z : Nat → Nat) (s : St) : ∃ Y : Nat → Int, textV Z s = fun i => .int .u8 (Y i) := by
  cases s with
  | ok p => exact ⟨_, rfl⟩
  | bad e => exact ⟨_, rfl⟩
theorem R2.len {w : World} {bm N : Nat} {Z : Nat → Nat} {s : St} (h : R2 w bm N Z s) : ∃ a c, w.cell? ⟨bm, 0, none⟩ = some (.slice a (leftN N s) c) := by
  cases s with
  | ok p => obtain ⟨_, a, c, h⟩ := h; exact ⟨a, c, h.own.cell 0⟩
  | bad e => exact ⟨none, 0, h.2.own.cell 0⟩
set_option maxHeartbeats 8000000 in
theorem body (a0 : Option Addr) (N c0 : Nat) (Z : Nat → Nat) (a : Option Addr) (n c : Nat) (V : Nat → Value) (F : Nat → Fl) (w : World) (hN : N ≤ c0) (hc0 : c0 ≤ maxLen) (hV : Row w a0 N (fun i => .int .u8 (Z i : Nat))) (hz : ∀ k, k < N → Z k < 256) (hn : n ≤ c) (hc : c ≤ maxLen) (hF : Fls w a n V F) :
    Calls Try.prog 3 #[.slice a0 N c0, .slice a n c] w fun r w' => r = .returned (.bool true) ∧ Below w.heap.size w w' := by
  have hend : ∀ wz, Below w.heap.size w wz → Calls Try.prog 9 #[] wz fun r w' => r = .returned (.bool true) ∧ Below w.heap.size w w' := fun wz tz =>
    (awake_any wz).mono (by rintro r w' ⟨rfl, b1⟩; exact ⟨rfl, tz.trans (b1.mono tz.size)⟩)
  have hcap : (n : Int) ≤ 9223372036854775807 := by unfold maxLen at hc; omega
  have hcap0 : (N : Int) ≤ 9223372036854775807 := by unfold maxLen at hc0; omega
  go_enter Try.func3, Try.ntmps3
  go_wp2_with fail
  refine (few_any a n c V F _ hn hc hF).mono ?_
  rintro r w1 ⟨q, rfl, hq, b1⟩
  cases q
  · go_wp2_with fail
    refine (hend _ b1).mono ?_
    rintro r w' ⟨rfl, b2⟩
    go_wp2_with fail
    go_ret
    exact ⟨rfl, b2⟩
  obtain ⟨hn100, _⟩ := hq rfl
  clear hq
  by_cases h500 : 500 < N
  · have g1 : (500 : Int) < (N : Int) := by omega
    go_wp2_with fail
    refine (hend _ b1).mono ?_
    rintro r w' ⟨rfl, b2⟩
    go_wp2_with fail
    go_ret
    exact ⟨rfl, b2⟩
  have g1 : decide ((500 : Int) < (N : Int)) = false := by simp; omega
  have hN5 : N ≤ 100000 := by omega
  have hs1 := b1.size
  go_wp2_with fail
  refine (new_any a0 N c0 Z _ hN5 (hV.below b1) hz (fun e => by
    subst e
    rcases Nat.eq_zero_or_pos N with h | h
    · exact h
    · obtain ⟨_, _, h1, _⟩ := hV h
      cases h1)).mono ?_
  rintro r w2 ⟨br, vr, rfl, hr, b2⟩
  have b2 := b1.trans (b2.mono hs1)
  go_wp2_with fail
  refine (rowof_any N Z a0 c0 _ hN5 (hV.below b2) hz).mono ?_
  rintro r w3 ⟨bm, vm, rfl, hm, b3⟩
  have x0 : Two w w3 w1.heap.size br bm N Z (.ok 0) (.ok 0) := by
    obtain ⟨am, cm, ho⟩ := ro_made hm
    exact ⟨⟨by omega, vr, hr.under b3⟩, ⟨by omega, am, cm, ho⟩, hs1, Nat.le_trans b2.size hm.low, b2.trans (b3.mono b2.size)⟩
  obtain ⟨B, hB⟩ : ∃ B, w1.heap.size = B := ⟨_, rfl⟩
  rw [hB] at x0
  clear hB hr hm b3 b2 b1 hs1 g1 h500 hV hz hN hc0
  have HF := Lib.hid hF
  clear hF
  go_wp2_with fail
  go_loopw [26] (fun i wr => ∃ k : Nat, i = .int .i64 k ∧ k ≤ n ∧ ∃ s, Two w wr B br bm N Z s s) (fun i _ => n - (intOf i).toNat)
  case atStart => exact ⟨0, rfl, by omega, _, x0⟩
  case round =>
    clear x0
    obtain ⟨k, rfl, hk, s, x⟩ := hrel
    by_cases hlt : k < n
    · obtain ⟨bo, off, rfl, hbo, hcs⟩ := HF.out.row.at_struct x.bel hlt (by decide)
      obtain ⟨⟨e0, e1, e2, e3, e4⟩, hok⟩ := HF.out.at_ k hlt
      have d0 := (hcs 0 (by decide)).trans (congrArg some e0)
      have d1 := (hcs 1 (by decide)).trans (congrArg some e1)
      have d2 := (hcs 2 (by decide)).trans (congrArg some e2)
      have d3 := (hcs 3 (by decide)).trans (congrArg some e3)
      have d4 := (hcs 4 (by decide)).trans (congrArg some e4)
      rw [Nat.add_zero] at d0
      obtain ⟨q, hq⟩ : ∃ q, F k = q := ⟨_, rfl⟩
      rw [hq] at d0 d1 d2 d3 d4
      clear hok
      obtain ⟨qn, qw, qt, qe, qa, qm, qc, qy⟩ := q
      clear hcs e0 e1 e2 e3 e4 hq
      dsimp only at *
      have ox := Own.new wr 32 #[.int .u64 (qn : Nat), .int .i64 qw, .bool qt, .bool qe, .slice qa qm qc]
      have hx := x.alloc (.cells #[.int .u64 (qn : Nat), .int .i64 qw, .bool qt, .bool qe, .slice qa qm qc] 32)
      go_upto_region 7 with (fail)
      generalize wr.alloc (.cells #[.int .u64 (qn : Nat), .int .i64 qw, .bool qt, .bool qe, .slice qa qm qc] 32) = wx at *
      obtain ⟨r0, hr0⟩ : ∃ r, wr.heap.size = r := ⟨_, rfl⟩
      rw [hr0] at ox ⊢
      clear hr0 d0 d1 d2 d3 d4 x
      clear wr
      have c1 : wx.cell? ⟨r0, 1, none⟩ = some (.int .i64 qw) := ox.cell 1
      have c2 : wx.cell? ⟨r0, 2, none⟩ = some (.bool qt) := ox.cell 2
      have c3 : wx.cell? ⟨r0, 3, none⟩ = some (.bool qe) := ox.cell 3
      go_upto_block 2 with (fail)
      go_cut [9] (fun s wz => s = .bool true ∧ ∃ s', Two w wz B br bm N Z s' s')
      case first =>
        have tA : Two w wx.drew B br bm N Z s s := hx.drewN 1
        have oA : Own wx.drew r0 32 #[.int .u64 (qn : Nat), .int .i64 qw, .bool qt, .bool qe, .slice qa qm qc] := ox
        cases qt
        · cases qe
          ·
            -- <N
            have P1 : ∀ wz, R1 wz B br N Z s → _ := fun wz h => takeS_any B br N Z s qw wz h hN5
            have P2 : ∀ wz, R2 wz bm N Z s → _ := fun wz h => rtakeS_any bm N Z s qw wz h
            obtain ⟨X, hX⟩ : ∃ X, takeV N Z qw s = X := ⟨_, rfl⟩
            obtain ⟨s2, hs2⟩ : ∃ s2, takeS N qw s = s2 := ⟨_, rfl⟩
            rw [hX, hs2] at P1 P2
            have e1 : ((X : Int) == (X : Int)) = true := by simp
            have xx : wx.drew.cell? ⟨r0, 1, none⟩ = some (.int .i64 qw) := c1
            clear hX hs2 hx ox
            go_upto_region 8 with (fail)
            clear c1 c2 c3
            go_region_held3 (fun w' => w'.cell? ⟨r0, 1, none⟩ = some (.int .i64 qw)) (with_reducible first | exact xx | exact yy | exact zz) (first
              | (go_at_call 16; refine (P1 _ ?_).mono ?_; (with_reducible first | exact tA.r | exact tC.r); rintro e w5 ⟨rfl, q5, j5⟩; (first | (have tB := tA.read q5 j5; have oB := tA.boxr oA j5; have yy : w5.cell? ⟨r0, 1, none⟩ = some (.int .i64 qw) := oB.cell 1) | (have tD := tC.read q5 j5; have oD := tC.boxr oC j5; have zz : w5.cell? ⟨r0, 1, none⟩ = some (.int .i64 qw) := oD.cell 1)))
              | (go_at_call 17; refine (P2 _ ?_).mono ?_; (with_reducible first | exact tA.m | exact tB.m); rintro e w6 ⟨rfl, q6, j6⟩; (first | (have tC := tA.row q6 j6; have oC := tA.boxm oA j6; have yy : w6.cell? ⟨r0, 1, none⟩ = some (.int .i64 qw) := oC.cell 1) | (have tD := tB.row q6 j6; have oD := tB.boxm oB j6; have zz : w6.cell? ⟨r0, 1, none⟩ = some (.int .i64 qw) := oD.cell 1)))
              | fail)
            all_goals
              clear xx yy zz
              go_wp2_with fail
              go_meet
              exact ⟨by first | rfl | simp, _, tD⟩
            -- N>
          ·
            -- <E
            go_wp2_with fail
            refine (evenS_any B br N Z s _ hx.r hN5).mono ?_
            rintro r w5 ⟨rfl, q5, j5⟩
            have tB := hx.read q5 j5
            go_wp2_with fail
            refine (roverS_any bm N Z s _ tB.m hN5).mono ?_
            rintro r w6 ⟨rfl, q6, j6⟩
            have tD := tB.row q6 j6
            go_wp2_with fail
            go_meet
            exact ⟨rfl, _, tD⟩
            -- E>
        ·
          -- <T
          have P1 : ∀ wz, R1 wz B br N Z s → _ := fun wz h => textS_any B br N Z s qw wz h hN5
          have P2 : ∀ wz, R2 wz bm N Z s → _ := fun wz h => rtextS_any bm N Z s qw wz h hN5
          obtain ⟨X, hX⟩ : ∃ X, textM N qw s = X := ⟨_, rfl⟩
          obtain ⟨s2, hs2⟩ : ∃ s2, textS N qw s = s2 := ⟨_, rfl⟩
          obtain ⟨Y, hY⟩ := textV_is Z s
          rw [hX, hs2, hY] at P1 P2
          obtain ⟨st, hst⟩ : ∃ st, str Y X = st := ⟨_, rfl⟩
          have HCV : ∀ (wz : World) (a : Option Addr) (c : Nat), Rt wz a X (fun i => .int .u8 (Y i)) → (convert 22 9 (.slice a X c)).run Try.prog wz = .ok (.string st) wz := fun wz a c hr => by
            rw [← hst]
            exact conv_string (P := Try.prog) Try.underlying22 Try.underlying5 Try.underlying9 hr.1
          clear hX hs2 hY hst hx ox
          go_upto_region 11 with (fail)
          clear c1 c2 c3 oA
          go_region_with (first
            | (go_at_call 12; refine (P1 _ ?_).mono ?_; (with_reducible first | exact tA.r | exact tC.r); rintro e w5 ⟨a5, k5, rfl, r5, q5, j5⟩; have z5 := HCV w5 a5 k5 r5; (first | (have tB := tA.read q5 j5) | (have tD := tC.read q5 j5; have z65 := HCV w5 a6 k6 (tC.rtr r6 j5))))
            | (go_at_call 13; refine (P2 _ ?_).mono ?_; (with_reducible first | exact tA.m | exact tB.m); rintro e w6 ⟨a6, k6, rfl, r6, q6, j6⟩; have z6 := HCV w6 a6 k6 r6; (first | (have tC := tA.row q6 j6) | (have tD := tB.row q6 j6; have z56 := HCV w6 a5 k5 (tB.rtm r5 j6)))))
          all_goals
            go_wp2_with fail
            go_meet
            exact ⟨by first | rfl | simp, _, tD⟩
          -- T>
      case rest =>
        clear hx ox c1 c2 c3
        obtain ⟨rfl, s2, x2⟩ := hcut
        obtain ⟨al, cl, hl⟩ := R2.len x2.m
        have L1 : ∀ wz, R1 wz B br N Z s2 → _ := fun wz h => leftS_any B br N Z s2 wz h hN5
        have L2 : ∀ wz, R1 wz B br N Z s2 → _ := fun wz h => endS_any B br N Z s2 wz h hN5
        have L3 : ∀ wz, R2 wz bm N Z s2 → _ := fun wz h => rendsS_any bm N Z s2 wz h
        obtain ⟨L, hL⟩ : ∃ L, leftN N s2 = L := ⟨_, rfl⟩
        obtain ⟨ee, hee⟩ : ∃ ee, endE N s2 = ee := ⟨_, rfl⟩
        rw [hL] at L1 hl
        rw [hee] at L2 L3
        have e1 : ((L : Int) != (L : Int)) = false := by simp
        have e2 : (ee != ee) = false := by simp
        have e3 : ((L : Int) == (L : Int)) = true := by simp
        have e4 : (ee == ee) = true := by simp
        clear hL hee
        -- <Z
        go_upto_region 15 with (fail)
        go_quiet (first
          | (go_at_call 18; exact quiet_some (L1 _ (x2.r.drewN _)))
          | (go_at_call 19; exact quiet_some (L2 _ (x2.r.drewN _)))
          | (go_at_call 20; exact quiet_left (L3 _ (x2.m.drewN _))))
        generalize hw5 : World.drewN _ _ = w5 at *
        have x5 : Two w w5 B br bm N Z s2 s2 := by rw [← hw5]; exact x2.drewN _
        clear hw5 x2
        go_wp2_with fail
        exact ⟨⟨k + 1, by simp, by omega, s2, x5⟩, by simp [intOf]; omega⟩
        -- Z>
    · obtain rfl : k = n := by omega
      have g4 : decide ((k : Int) < (k : Int)) = false := by simp
      go_wp2_with fail
      refine (hend _ x.bel).mono ?_
      rintro r w8 ⟨rfl, b8⟩
      go_wp2_with fail
      go_ret
      exact ⟨rfl, b8⟩
theorem walk (H : Type) (enc : TypeId × Value → H) : WalkS H enc Try.prog 3 Try.f3 := by
  intro W base args ds p hval hA hw
  rw [Try.params3] at hA hval hw
  obtain ⟨v0, v1, d0, d1, p0, p1, rfl, rfl, rfl, h0, h1⟩ := trodAll_two hA
  obtain ⟨a0, N, c0, Z, rfl, hN, hc0, hV, hz⟩ := open_row_int Try.underlying22 Try.underlying5 (by kernel_rfl) (hval 0 _ v0 rfl rfl) h0
  obtain ⟨a, n, c, V, F, rfl, hn, hc, hF⟩ := open_fields (hval 1 _ v1 rfl rfl) h1 (fun x hx => by
    exact of_decide_eq_true (List.all_eq_true.1 hw x (DataW.weights_mem_each (j := 1) rfl rfl x hx)))
  exact body a0 N c0 (fun k => (Z k).toNat) a n c V F W hN hc0 (fun h => by
    obtain ⟨b, off, e1, e2, e3⟩ := hV h
    exact ⟨b, off, e1, e2, fun i hi => by
      rw [e3 i hi]
      have := u8_bd (hz i)
      show some (Value.int .u8 (Z i)) = some (.int .u8 ((Z i).toNat : Int))
      rw [Int.toNat_of_nonneg this.1]⟩) (fun k _ => by have := u8_bd (hz k); omega) hn hc hF

set_option maxRecDepth 100000 in
theorem lifted (os : Os) (started : os.Started) (H : Type) (enc : TypeId × Value → H) :
    ReturnsInHanded {} Try.checked os 3 .any (Rows.bitsReadsSpec.pre6 enc Try.prog Try.f3 Rows.bitsReadsRow.domain false) (Rows.bitsReadsSpec.post enc Try.prog Try.f3 false true false false) :=
  returnsInHanded_of_change_sized (C := Try.checked) own started (by kernel_rfl) Try.func3
    (ChangeSpec.witness6 (enc := enc) (C := Try.checked) false ⟨#[], #[.slice none 0 0, .slice none 0 0], []⟩ 8 (by kernel_rfl) (by kernel_rfl) (by kernel_rfl) (by kernel_rfl))
    fun W base args ds gs before hval hW _ hwt _ => step_of_walk_sized laidOut (by rw [Try.params3]; exact of_decide_eq_true (by kernel_rfl)) (by kernel_rfl) Try.underlying4 rfl rfl
      (fun ds h => by
        rw [Try.params3] at h
        match ds, h with
        | [_, _], _ => rfl) (walk H enc) W base args ds gs before hval hW hwt

theorem holds : Rows.BitsReadsSaid :=
  OpenClaim.holds_of_wide 3 Try.f3 rfl rfl rfl rfl rfl rfl rfl ⟨rfl, rfl, rfl, rfl, rfl⟩ rfl rfl rfl rfl rfl (by kernel_rfl) Try.func3 (by kernel_rfl)
    (of_decide_eq_true (by kernel_rfl)) (by unfold Func.isWrapper; first | (rw [if_pos (by decide +kernel)]; kernel_rfl) | (rw [if_neg (by decide +kernel)]; exact ⟨rfl, rfl⟩))
    (fun os started H enc _ => lifted os started H enc)
#print axioms holds
end Go.Proofs.Ytamooehncjceiaa.BitsReads
