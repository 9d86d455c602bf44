/-
  Law QueuePlays: any calls on a queue, each answer, all that waits, as the document's own answers; the call returns true. No condition.
-/
import Derived.Test.YtmabdegabeopbaaQBoth
import Derived.Test.YtmabdegabeopbaaQueueOrder
import Derived.Deep.RegionHeld3
import Derived.Deep.CutBlock
import Derived.Deep.DeepCutAuto
import Derived.BigRegion
set_option maxRecDepth 100000
namespace Go.Proofs.Ytmabdegabeopbaa.QueuePlays
set_option linter.unusedVariables false
open Go.RowKit Go.ChangeShapes Go.WideShapes Go.ChangeAt Go.Deep Lb Qu
set_option linter.unusedVariables false
theorem own : ownKnob Try.prog.godebug = none := by kernel_rfl
theorem laidOut : laidOutB Try.prog = true := by kernel_rfl
/-- A call: which, two numbers, the bytes. -/
structure Cq where
  d : Int
  i : Int
  n : Int
  a : Option Addr
  m : Nat
  c : Nat
  Z : Nat → Int
def Cq.cells (q : Cq) : Array Value := #[.int .i64 q.d, .int .i64 q.i, .int .i64 q.n, .slice q.a q.m q.c]
def Cq.ok (w : World) (q : Cq) : Prop := q.m ≤ q.c ∧ q.c ≤ maxLen ∧ Row w q.a q.m (fun i => .int .u8 (q.Z i)) ∧ (q.a = none → q.m = 0)
section
variable {H : Type} {enc : TypeId × Value → H} {w : World} {base : Nat}
theorem open_callsQ {v : Value} {d : DataW H} {p : List MemPlace} (hv : Value.okWide Try.prog w .any base 22 v)
    (h : DataW.Trod enc Try.prog w 0 (fun _ => true) true 22 v d p) :
    ∃ a n c V, ∃ C : Nat → Cq, v = .slice a n c ∧ n ≤ c ∧ c ≤ maxLen ∧ Row w a (n * 4) V ∧ ∀ i, i < n → (V (i * 4) = .int .i64 (C i).d ∧ V (i * 4 + 1) = .int .i64 (C i).i ∧ V (i * 4 + 2) = .int .i64 (C i).n ∧ V (i * 4 + 3) = .slice (C i).a (C i).m (C i).c) ∧ (C i).ok w := by
  obtain ⟨a, n, c, V, rfl, hn, hm, hV, hf⟩ := open_row_struct Try.underlying22 Try.underlying29 (by kernel_rfl) (by kernel_rfl) (by decide) hv h
  obtain ⟨X0, e0⟩ := field_int (n := n) (m := 4) (j := 0) Try.underlying3 (fun i hi => hf i hi 0 _ rfl)
  obtain ⟨X1, e1⟩ := field_int (n := n) (m := 4) (j := 1) Try.underlying3 (fun i hi => hf i hi 1 _ rfl)
  obtain ⟨X2, e2⟩ := field_int (n := n) (m := 4) (j := 2) Try.underlying3 (fun i hi => hf i hi 2 _ rfl)
  obtain ⟨X, hX⟩ := choose_fn (n := n) (q := fun i (x : QueueOrder.Tx) => V (i * 4 + 3) = .slice x.a x.n x.c ∧ x.ok w) (⟨none, 0, 0, fun _ => 0⟩ : QueueOrder.Tx) (fun i hi => by
    obtain ⟨f, y, hy⟩ := hf i hi 3 _ rfl
    obtain ⟨a, n, c, Z, hv, h1, h2, h3, h4⟩ := QueueOrder.open_cell_bytes Try.underlying27 Try.underlying5 (by kernel_rfl) hy
    exact ⟨⟨a, n, c, Z⟩, hv, h1, h2, h3, h4⟩)
  exact ⟨a, n, c, V, fun i => ⟨X0 i, X1 i, X2 i, (X i).a, (X i).n, (X i).c, (X i).Z⟩, rfl, hn, hm, hV, fun i hi => ⟨⟨(e0 i hi).1, (e1 i hi).1, (e2 i hi).1, (hX i hi).1⟩, (hX i hi).2⟩⟩
end
/-- Both queues in one memory. -/
structure Two (w wx : World) (b rb : Nat) (most lost lost' : Int) (l l' : List It) (v rv : Value) : Prop where
  s : Que wx b b most lost l v
  r : Rqu wx b rb most lost' l' rv
  bb : Below b w wx
  bs : b ≤ w.heap.size
theorem Two.below {w wx wy : World} {b rb : Nat} {most lost lost' : Int} {l l' : List It} {v rv : Value} (t : Two w wx b rb most lost lost' l l' v rv) (j : Below wx.heap.size wx wy) : Two w wy b rb most lost lost' l l' v rv :=
  ⟨t.s.below j, t.r.below j, t.bb.trans (j.mono (Nat.le_trans t.bs t.bb.size)), t.bs⟩
theorem Two.turn {w wx wy : World} {b rb : Nat} {most lost lost' lost2 : Int} {l l' l2 : List It} {v rv v2 : Value} (t : Two w wx b rb most lost lost' l l' v rv) (u : Que wy b b most lost2 l2 v2) (j : Turn wx wy b v v2) : Two w wy b rb most lost2 lost' l2 l' v2 rv :=
  ⟨u, t.r.oth t.s j, t.bb.trans (j.below (Nat.le_refl _) (fun q e => (t.s.row.lt q e).1) (Nat.le_trans t.bs t.bb.size)), t.bs⟩
theorem Two.just {w wx wy : World} {b rb : Nat} {most lost lost' lost2 : Int} {l l' l2 : List It} {v rv v2 : Value} (t : Two w wx b rb most lost lost' l l' v rv) (u : Rqu wy b rb most lost2 l2 v2) (j : Turn wx wy rb rv v2) : Two w wy b rb most lost lost2 l l2 v v2 :=
  ⟨t.s.oth t.r j, u, t.bb.trans (j.below t.r.low (fun q e => (t.r.row.lt q e).1) (Nat.le_trans t.bs t.bb.size)), t.bs⟩
/-- What holds of what waits. -/
structure Good (most lost : Int) (l l' : List It) : Prop where
  sim : Sim l l'
  few : (l.length : Int) ≤ most
  m32 : most ≤ 32
  l0 : 0 ≤ lost
  l1 : lost ≤ 1000000
  n200 : ∀ x ∈ l, x.n ≤ 200
theorem Good.len {most lost : Int} {l l' : List It} (g : Good most lost l l') : l.length ≤ 32 ∧ l'.length ≤ 32 := by
  have := g.sim.len
  have := g.few
  have := g.m32
  omega
theorem lostTo_in {most lost : Int} {n : Nat} (h0 : 0 ≤ lost) (h1 : lost ≤ 1000000) : 0 ≤ lostTo most lost n ∧ lostTo most lost n ≤ 1000000 := by
  unfold lostTo
  split <;> omega
theorem Good.put {most lost : Int} {l l' l2 l2' : List It} {tt : Int} {n : Nat} {Z : Nat → Int} (g : Good most lost l l') (hn : n ≤ 200) (h1 : Put2 most lost l.length l tt n Z l2) (h2 : Put2 most lost l'.length l' tt n Z l2') : Good most (lostTo most lost l.length) l2 l2' :=
  ⟨put2_sim g.sim h1 h2, put2_len h1 g.few, g.m32, (lostTo_in g.l0 g.l1).1, (lostTo_in g.l0 g.l1).2, fun x hx => by
    unfold Put2 at h1
    split at h1
    · obtain ⟨u, rfl⟩ := h1
      rcases List.mem_append.1 hx with h | h
      · exact g.n200 x h
      · rw [List.mem_singleton] at h
        subst h
        exact hn
    · rw [h1] at hx
      exact g.n200 x hx⟩
theorem Good.take {most lost : Int} {l l' : List It} (g : Good most lost l l') (i : Int) : Good most lost (tkL l i) (tkL l' i) :=
  ⟨(g.sim.tk i).2.2.2, by have := tkL_len l i; have := g.few; omega, g.m32, g.l0, g.l1, fun x hx => by
    unfold tkL at hx
    split at hx
    · exact g.n200 x (List.mem_of_mem_eraseIdx hx)
    · exact g.n200 x hx⟩
theorem Good.move {most lost : Int} {l l' : List It} (g : Good most lost l l') (x y : Int) : Good most lost (l.map (mv x y)) (l'.map (mv x y)) :=
  ⟨g.sim.mv x y, by rw [List.length_map]; exact g.few, g.m32, g.l0, g.l1, fun z hz => by
    obtain ⟨z', h1, rfl⟩ := List.mem_map.1 hz
    rw [(mv_v x y z').2.1]
    exact g.n200 z' h1⟩
set_option maxHeartbeats 8000000 in
theorem body (most0 : Int) (a : Option Addr) (n c : Nat) (V : Nat → Value) (C : Nat → Cq) (w : World) (hn : n ≤ c) (hc : c ≤ maxLen) (hV : Row w a (n * 4) V)
    (hC : ∀ i, i < n → (V (i * 4) = .int .i64 (C i).d ∧ V (i * 4 + 1) = .int .i64 (C i).i ∧ V (i * 4 + 2) = .int .i64 (C i).n ∧ V (i * 4 + 3) = .slice (C i).a (C i).m (C i).c) ∧ (C i).ok w) :
    Calls Try.prog 3 #[.int .i64 most0, .slice a n c] w fun r w' => r = .returned (.bool true) ∧ Below w.heap.size w w' := by
  unfold maxLen at hc
  have HC := Lib.hid hC
  have HV := Lib.hid hV
  clear hC hV
  obtain ⟨I0, hI0, hZ0, hZ1, hZ2⟩ := info_parts infoN
  go_enter Try.func3, Try.ntmps3
  go_wp2_with fail
  refine (new_any most0 _).mono ?_
  rintro r w1 ⟨rfl, t1, b1, s1⟩
  go_wp2_with fail
  refine (rnew_any most0 _).mono ?_
  rintro r w2 ⟨rfl, r2, b2⟩
  have hb1 := t1.own.lt
  have t2 : Two w w2 w.heap.size w1.heap.size (min (max most0 1) 32) 0 0 [] [] (.slice none 0 0) (.slice none 0 0) :=
    ⟨t1.below b2, ⟨r2.own, mk_low r2.row (Nat.le_of_lt hb1), r2.bytes, Nat.le_of_lt hb1⟩, b1.trans (b2.mono b1.size), Nat.le_refl _⟩
  have g2 : Hid (Good (min (max most0 1) 32) 0 [] []) := Lib.hid ⟨rfl, by simp; omega, by omega, by omega, by omega, fun x hx => by simp at hx⟩
  obtain ⟨rb, hrb⟩ : ∃ rb, w1.heap.size = rb := ⟨_, rfl⟩
  rw [hrb] at t2 hb1 ⊢
  obtain ⟨b, hb⟩ : ∃ b, w.heap.size = b := ⟨_, rfl⟩
  have HB := Lib.hid hb
  rw [hb] at t2 hb1 ⊢
  generalize min (max most0 1) 32 = most at *
  clear t1 r2 b1 b2 s1 hrb hb
  clear w1
  go_wp2_with fail
  go_loopw [28] (fun i wr => ∃ (k : Nat) (lost : Int) (l l' : List It) (v rv : Value), i = .int .i64 k ∧ k ≤ n ∧ k ≤ 150 ∧ Two w wr b rb most lost lost l l' v rv ∧ Hid (Good most lost l l')) (fun i _ => n - (intOf i).toNat)
  case atStart => exact ⟨0, _, _, _, _, _, rfl, by omega, by omega, t2, g2⟩
  case round =>
    clear t2 g2
    obtain ⟨k, lost, l, l', v, rv, rfl, hk, hk3, t, hg⟩ := hrel
    have hend : ∀ wz, Below b w wz → Calls Try.prog 21 #[] wz fun r w' => r = .returned (.bool true) ∧ Below w.heap.size w w' := fun wz tz =>
      (awake_any wz).mono (by rintro r w' ⟨rfl, b1⟩; exact ⟨rfl, by rw [HB.out]; exact tz.trans (b1.mono (by have := tz.size; have := t.bs; omega))⟩)
    have hbs := t.bs
    by_cases hlt : k < n
    · have bV : Below w.heap.size w wr := by rw [HB.out]; exact t.bb
      obtain ⟨bo, off, rfl, hbo, hcs⟩ := HV.out.at_struct bV hlt (by decide)
      obtain ⟨⟨e0, e1, e2, e3⟩, hok⟩ := HC.out k hlt
      have d0 := (hcs 0 (by decide)).trans (congrArg some e0)
      have d1 := (hcs 1 (by decide)).trans (congrArg some e1)
      have d2 := (hcs 2 (by decide)).trans (congrArg some e2)
      have d3 := (hcs 3 (by decide)).trans (congrArg some e3)
      rw [Nat.add_zero] at d0
      obtain ⟨q, hq⟩ : ∃ q, C k = q := ⟨_, rfl⟩
      rw [hq] at d0 d1 d2 d3 hok
      obtain ⟨hq1, hq2, hq3, hq4⟩ := hok
      have HR := Lib.hid (hq3.below bV)
      have HR0 := Lib.hid hq3
      have HA := Lib.hid hq4
      unfold maxLen at hq2
      clear hcs e0 e1 e2 e3 hq hq3 hq4
      have ba := (Below.refl wr.heap.size wr).alloc (Nat.le_refl _) (.cells q.cells 29)
      have tx := t.below ba
      have rx := HR.out.below ba
      have ox := Own.new wr 29 q.cells
      have c0 : (wr.alloc (.cells q.cells 29)).cell? ⟨wr.heap.size, 0, none⟩ = some (.int .i64 q.d) := ox.cell 0
      have c1 : (wr.alloc (.cells q.cells 29)).cell? ⟨wr.heap.size, 1, none⟩ = some (.int .i64 q.i) := ox.cell 1
      have c2 : (wr.alloc (.cells q.cells 29)).cell? ⟨wr.heap.size, 2, none⟩ = some (.int .i64 q.n) := ox.cell 2
      have c3 : (wr.alloc (.cells q.cells 29)).cell? ⟨wr.heap.size, 3, none⟩ = some (.slice q.a q.m q.c) := ox.cell 3
      have hr0 : rb < wr.heap.size := t.r.own.lt
      unfold Cq.cells at *
      go_upto_region 7 with (fail)
      generalize wr.alloc (.cells #[.int .i64 q.d, .int .i64 q.i, .int .i64 q.n, .slice q.a q.m q.c] 29) = wx at *
      obtain ⟨r0, hr00⟩ : ∃ r, wr.heap.size = r := ⟨_, rfl⟩
      rw [hr00] at ox c0 c1 c2 c3 hr0 ⊢
      clear hr00 ba d0 d1 d2 d3 HR bV t
      clear wr
      by_cases h3 : 150 ≤ k
      · have g3 : decide ((150 : Int) ≤ (k : Int)) = true := by simp; omega
        go_wp2_with fail
        refine (hend _ tx.bb).mono ?_
        rintro r w' ⟨rfl, b1⟩
        go_wp2_with fail
        go_ret
        exact ⟨rfl, b1⟩
      have g3 : decide ((150 : Int) ≤ (k : Int)) = false := by simp; omega
      by_cases h4 : 200 < q.m
      · have g4 : decide ((200 : Int) < (q.m : Int)) = true := by simp; omega
        have g4' : decide (200 < q.m) = true := by simp; omega
        go_wp2_with fail
        refine (hend _ tx.bb).mono ?_
        rintro r w' ⟨rfl, b1⟩
        go_wp2_with fail
        go_ret
        exact ⟨rfl, b1⟩
      have g4 : decide ((200 : Int) < (q.m : Int)) = false := by simp; omega
      have g4' : decide (200 < q.m) = false := by simp; omega
      go_upto_block 2 with (fail)
      clear g4 g4' g3
      go_cut [9] (fun s wz => s = .bool true ∧ ∃ (lost2 : Int) (l2 l2' : List It) (v2 rv2 : Value), Two w wz b rb most lost2 lost2 l2 l2' v2 rv2 ∧ Hid (Good most lost2 l2 l2'))
      case first =>
        have rowat : ∀ wz, Below b w wz → Row wz q.a q.m (fun i => .int .u8 (q.Z i)) := fun wz hb => HR0.out.below (by rw [HB.out]; exact hb)
        have hlen : l'.length = l.length := hg.out.sim.len.symm
        obtain ⟨hl1, hl2⟩ := hg.out.len
        have hx0 := hg.out.l0
        have hx1 := hg.out.l1
        by_cases e0 : q.d = 0
        · have g0 : (q.d == 0) = true := by simpa using e0
          have P1 : ∀ wz, Que wz b b most lost l v → Below b w wz → _ := fun wz hq hb => put_all b b most lost l v q.i q.a q.m q.c q.Z wz hq (by omega) hq1 (by omega) (rowat wz hb) HA.out hx0 hx1
          have P2 : ∀ wz, Rqu wz b rb most lost l' rv → Below b w wz → _ := fun wz hq hb => rput_all b rb most lost l' rv q.i q.a q.m q.c q.Z wz hq (by omega) hq1 (by omega) (rowat wz hb) hx0 hx1
          obtain ⟨rm, hrm⟩ : ∃ x, decide ((l.length : Int) < most) = x := ⟨_, rfl⟩
          simp only [hlen, hrm] at P1 P2
          clear hrm e0 rowat rx
          have oA : Own wx.drew r0 29 #[.int .i64 q.d, .int .i64 q.i, .int .i64 q.n, .slice q.a q.m q.c] := ox
          have tA : Two w wx.drew b rb most lost lost l l' v rv := tx.below (below_drewN (Below.refl _ _) 1)
          have xx : wx.drew.cell? ⟨r0, 1, none⟩ = some (.int .i64 q.i) ∧ wx.drew.cell? ⟨r0, 3, none⟩ = some (.slice q.a q.m q.c) := ⟨c1, c3⟩
          go_upto_region 12 with (fail)
          go_region_held3 (fun w' => w'.cell? ⟨r0, 1, none⟩ = some (.int .i64 q.i) ∧ w'.cell? ⟨r0, 3, none⟩ = some (.slice q.a q.m q.c)) (with_reducible first | exact xx | exact yy | exact zz) (first
            | (go_at_call 10; refine (P1 _ ?_ ?_).mono ?_; (with_reducible first | exact tA.s | exact tB.s); (with_reducible first | exact tA.bb | exact tB.bb); rintro e w5 ⟨rfl, l5, v5, q5, j5, p5⟩; (first | (have tC := tA.turn q5 j5; have oC := j5.ty tA.s.own tA.s.row oA (by decide) (by decide); have yy : w5.cell? ⟨r0, 1, none⟩ = some (.int .i64 q.i) ∧ w5.cell? ⟨r0, 3, none⟩ = some (.slice q.a q.m q.c) := ⟨oC.cell 1, oC.cell 3⟩) | (have tD := tB.turn q5 j5; have oD := j5.ty tB.s.own tB.s.row oB (by decide) (by decide); have zz : w5.cell? ⟨r0, 1, none⟩ = some (.int .i64 q.i) ∧ w5.cell? ⟨r0, 3, none⟩ = some (.slice q.a q.m q.c) := ⟨oD.cell 1, oD.cell 3⟩) | fail))
            | (go_at_call 11; refine (P2 _ ?_ ?_).mono ?_; (with_reducible first | exact tA.r | exact tC.r); (with_reducible first | exact tA.bb | exact tC.bb); rintro e w6 ⟨rfl, l6, v6, q6, j6, p6⟩; (first | (have tB := tA.just q6 j6; have oB := j6.ty tA.r.own tA.r.row oA (by decide) (by decide); have yy : w6.cell? ⟨r0, 1, none⟩ = some (.int .i64 q.i) ∧ w6.cell? ⟨r0, 3, none⟩ = some (.slice q.a q.m q.c) := ⟨oB.cell 1, oB.cell 3⟩) | (have tD := tC.just q6 j6; have oD := j6.ty tC.r.own tC.r.row oC (by decide) (by decide); have zz : w6.cell? ⟨r0, 1, none⟩ = some (.int .i64 q.i) ∧ w6.cell? ⟨r0, 3, none⟩ = some (.slice q.a q.m q.c) := ⟨oD.cell 1, oD.cell 3⟩) | fail)))
          all_goals
            clear xx yy zz c0 c1 c2 c3
            go_wp2_with fail
            go_meet
            exact ⟨by simp, _, _, _, _, _, tD, Lib.hid (hg.out.put (by omega) p5 (by rw [hlen]; exact p6))⟩
        have g0 : (q.d == 0) = false := by simpa using e0
        by_cases e1 : q.d = 1
        · have g1 : (q.d == 1) = true := by simpa using e1
          clear e0 e1
          obtain ⟨k1, k2, k3, k4⟩ := hg.out.sim.tk q.i
          obtain ⟨hb, hhb⟩ : ∃ x, hasB l.length q.i = x := ⟨_, rfl⟩
          go_wp2_with fail
          refine (at_all b b most lost l v q.i _ tx.s (fun x hx => by have := hg.out.n200 x hx; omega)).mono ?_
          rintro e w5 ⟨u5, rfl, B5, j5⟩
          have tD := tx.below j5
          have oC := below_own j5 ox ox.lt
          have c1 : w5.cell? ⟨r0, 1, none⟩ = some (.int .i64 q.i) := oC.cell 1
          rw [hhb]
          obtain ⟨tn, htn⟩ : ∃ x, tkN l q.i = x := ⟨_, rfl⟩
          obtain ⟨tz, htz⟩ : ∃ x, tkZ l q.i = x := ⟨_, rfl⟩
          rw [htn, htz] at B5
          obtain ⟨A', c', hrv, hc1', hc2', hR'⟩ := tD.r.row.row
          have o1 : w5.cell? ⟨rb, 1, none⟩ = some (.slice A' l'.length c') := by rw [← hrv]; exact tD.r.own.cell 1
          rw [hlen] at o1 hR' hc1'
          obtain ⟨m, hm⟩ : ∃ m, l.length = m := ⟨_, rfl⟩
          rw [hm] at o1 hR' hc1' hl1 hhb
          obtain ⟨a5, d5, rfl, _, _, R5, _⟩ := B5.row
          unfold maxLen at hc2'
          cases hb
          · have hn0 : tn = 0 := by rw [← htn]; unfold tkN; rw [hm, hhb]; rfl
            subst hn0
            have hni : ¬ (0 ≤ q.i ∧ q.i < (m : Int)) := by unfold hasB at hhb; simpa using hhb
            clear hhb htn htz k1 k2 k3 k4 hm hR' hrv c0 c2 c3 g0
            by_cases hneg : q.i < 0
            · have f1 : decide (0 ≤ q.i) = false := by simp; omega
              clear hneg hni
              go_wp2_with fail
              go_quiet (fail)
              go_wp2_with fail
              go_quiet (fail)
              go_wp2_with fail
              go_meet
              exact ⟨by first | rfl | simp, _, _, _, _, _, tD.below (below_drewN (below_drewN (Below.refl _ _) _) _), hg⟩
            · have f1 : decide (0 ≤ q.i) = true := by simp; omega
              have f2 : decide (q.i < (m : Int)) = false := by simp; omega
              clear hneg hni
              go_wp2_with fail
              go_quiet (fail)
              go_wp2_with fail
              go_quiet (fail)
              go_wp2_with fail
              go_meet
              exact ⟨by first | rfl | simp, _, _, _, _, _, tD.below (below_drewN (below_drewN (Below.refl _ _) _) _), hg⟩
          · obtain ⟨kk, hkk, hkm⟩ := hasB_nat hhb
            have hkl : kk < l'.length := by rw [hlen, hm]; exact hkm
            have B6 := tD.r.bytes _ (getD_mem hkl)
            have hk2' : (l'.getD kk default).n = tn := by
              rw [← htn, k2]
              unfold tkN
              rw [← k1, hm, hhb, if_pos rfl, hkk]
              rfl
            have hk3' : (l'.getD kk default).Z = tz := by
              rw [← htz, k3]
              unfold tkZ
              rw [hkk]
              rfl
            rw [hk2', hk3'] at B6
            obtain ⟨bo2, off2, hA', _, hcs2⟩ := hR'.at_struct (Below.refl _ _) hkm (by decide)
            have d1 : w5.cell? ⟨bo2, off2 + kk * 2 + 1, none⟩ = some (l'.getD kk default).v := (hcs2 1 (by decide)).trans (congrArg some (iv_at l' kk).2)
            generalize (l'.getD kk default).v = xv at *
            obtain ⟨a6, d6, rfl, _, _, R6, _⟩ := B6.row
            subst hA'
            rw [hkk] at c1
            have f1 : decide (0 ≤ (kk : Int)) = true := by simp
            have f2 : decide ((kk : Int) < (m : Int)) = true := by simp; omega
            have f3 : decide (kk < m) = true := by simp; omega
            obtain ⟨ss, hss⟩ : ∃ s, str tz tn = s := ⟨_, rfl⟩
            have s5 : ∀ z : Nat, (convert 27 9 (.slice a5 tn d5)).run Try.prog (w5.drewN z) = .ok (.string ss) (w5.drewN z) := fun z => by
              rw [← hss]
              exact conv_string (P := Try.prog) Try.underlying27 Try.underlying5 Try.underlying9 (R5.drewN z)
            have s6 : ∀ z : Nat, (convert 27 9 (.slice a6 tn d6)).run Try.prog (w5.drewN z) = .ok (.string ss) (w5.drewN z) := fun z => by
              rw [← hss]
              exact conv_string (P := Try.prog) Try.underlying27 Try.underlying5 Try.underlying9 (R6.drewN z)
            clear hhb htn htz k1 k2 k3 k4 hm hR' hrv c0 c2 c3 g0 hss hk2' hk3' hkl hcs2
            go_wp2_with fail
            go_quiet (fail)
            go_wp2_with fail
            go_quiet (fail)
            go_wp2_with fail
            go_meet
            exact ⟨by first | rfl | simp, _, _, _, _, _, tD.below (below_drewN (below_drewN (Below.refl _ _) _) _), hg⟩
        have g1 : (q.d == 1) = false := by simpa using e1
        by_cases e2 : q.d = 2
        · have g2 : (q.d == 2) = true := by simpa using e2
          clear e0 e1 e2
          obtain ⟨k1, k2, k3, k4⟩ := hg.out.sim.tk q.i
          have HG := Lib.hid (hg.out.take q.i)
          obtain ⟨hb, hhb⟩ : ∃ x, hasB l.length q.i = x := ⟨_, rfl⟩
          go_wp2_with fail
          refine (take_all b b most lost l v q.i _ tx.s (by omega)).mono ?_
          rintro e w5 ⟨u5, v5, rfl, q5, B5, j5⟩
          have tC := tx.turn q5 j5
          have oC := j5.ty tx.s.own tx.s.row ox (by decide) (by decide)
          have c1 : w5.cell? ⟨r0, 1, none⟩ = some (.int .i64 q.i) := oC.cell 1
          rw [hhb]
          have K1 := Lib.hid (k1.symm.trans hhb)
          obtain ⟨tn, htn⟩ : ∃ x, tkN l q.i = x := ⟨_, rfl⟩
          obtain ⟨tz, htz⟩ : ∃ x, tkZ l q.i = x := ⟨_, rfl⟩
          rw [htn, htz] at B5
          have K2 := Lib.hid (k2.symm.trans htn)
          have K3 := Lib.hid (k3.symm.trans htz)
          clear k1 k2 k3 k4 hhb htn htz c0 c2 c3
          go_wp2_with fail
          refine (rtake_all b rb most lost l' rv q.i _ tC.r (by omega)).mono ?_
          rintro e w6 ⟨u6, v6, rfl, q6, B6, j6⟩
          rw [K1.out]
          rw [K2.out, K3.out] at B6
          have tD := tC.just q6 j6
          have B5 := B5.turn j6 tC.r.own tC.r.row (by decide) (by decide)
          obtain ⟨a5, d5, rfl, _, _, R5, _⟩ := B5.row
          obtain ⟨a6, d6, rfl, _, _, R6, _⟩ := B6.row
          obtain ⟨ss, hss⟩ : ∃ s, str tz tn = s := ⟨_, rfl⟩
          have s5 : (convert 27 9 (.slice a5 tn d5)).run Try.prog w6 = .ok (.string ss) w6 := by
            rw [← hss]
            exact conv_string (P := Try.prog) Try.underlying27 Try.underlying5 Try.underlying9 R5
          have s6 : (convert 27 9 (.slice a6 tn d6)).run Try.prog w6 = .ok (.string ss) w6 := by
            rw [← hss]
            exact conv_string (P := Try.prog) Try.underlying27 Try.underlying5 Try.underlying9 R6
          have ss2 : (hb == hb) = true := by simp
          clear hss R5 R6 B5 B6
          go_wp2_with fail
          go_meet
          exact ⟨by first | rfl | simp, _, _, _, _, _, tD, HG⟩
        have g2 : (q.d == 2) = false := by simpa using e2
        clear e0 e1 e2
        have P1 : ∀ wz, Que wz b b most lost l v → _ := fun wz hq => moveT b b most lost l v q.i q.n wz hq (by omega)
        have P2 : ∀ wz, Rqu wz b rb most lost l' rv → _ := fun wz hq => rmoveT b rb most lost l' rv q.i q.n wz hq (by omega)
        have hct : cnt q.i l' l'.length = cnt q.i l l.length := by rw [hlen, ← hg.out.sim.cnt]
        obtain ⟨rm, hrm⟩ : ∃ x, cnt q.i l l.length = x := ⟨_, rfl⟩
        rw [hrm] at hct
        simp only [hct, hrm] at P1 P2
        clear hrm hct rowat rx
        have oA : Own wx.drew r0 29 #[.int .i64 q.d, .int .i64 q.i, .int .i64 q.n, .slice q.a q.m q.c] := ox
        have tA : Two w wx.drew b rb most lost lost l l' v rv := tx.below (below_drewN (Below.refl _ _) 1)
        have xx : wx.drew.cell? ⟨r0, 1, none⟩ = some (.int .i64 q.i) ∧ wx.drew.cell? ⟨r0, 2, none⟩ = some (.int .i64 q.n) := ⟨c1, c2⟩
        go_upto_region 10 with (fail)
        go_region_held3 (fun w' => w'.cell? ⟨r0, 1, none⟩ = some (.int .i64 q.i) ∧ w'.cell? ⟨r0, 2, none⟩ = some (.int .i64 q.n)) (with_reducible first | exact xx | exact yy | exact zz) (first
            | (go_at_call 15; refine (P1 _ ?_).mono ?_; (with_reducible first | exact tA.s | exact tB.s); rintro e w5 ⟨rfl, q5, j5⟩; (first | (have tC := tA.turn q5 j5; have oC := j5.ty tA.s.own tA.s.row oA (by decide) (by decide); have yy : w5.cell? ⟨r0, 1, none⟩ = some (.int .i64 q.i) ∧ w5.cell? ⟨r0, 2, none⟩ = some (.int .i64 q.n) := ⟨oC.cell 1, oC.cell 2⟩) | (have tD := tB.turn q5 j5; have oD := j5.ty tB.s.own tB.s.row oB (by decide) (by decide); have zz : w5.cell? ⟨r0, 1, none⟩ = some (.int .i64 q.i) ∧ w5.cell? ⟨r0, 2, none⟩ = some (.int .i64 q.n) := ⟨oD.cell 1, oD.cell 2⟩) | fail))
            | (go_at_call 16; refine (P2 _ ?_).mono ?_; (with_reducible first | exact tA.r | exact tC.r); rintro e w6 ⟨rfl, q6, j6⟩; (first | (have tB := tA.just q6 j6; have oB := j6.ty tA.r.own tA.r.row oA (by decide) (by decide); have yy : w6.cell? ⟨r0, 1, none⟩ = some (.int .i64 q.i) ∧ w6.cell? ⟨r0, 2, none⟩ = some (.int .i64 q.n) := ⟨oB.cell 1, oB.cell 2⟩) | (have tD := tC.just q6 j6; have oD := j6.ty tC.r.own tC.r.row oC (by decide) (by decide); have zz : w6.cell? ⟨r0, 1, none⟩ = some (.int .i64 q.i) ∧ w6.cell? ⟨r0, 2, none⟩ = some (.int .i64 q.n) := ⟨oD.cell 1, oD.cell 2⟩) | fail)))
        all_goals
          clear xx yy zz c0 c1 c2 c3
          go_wp2_with fail
          go_meet
          exact ⟨by simp, _, _, _, _, _, tD, Lib.hid (hg.out.move q.i q.n)⟩
      case rest =>
        clear tx rx ox c0 c1 c2 c3 hg
        obtain ⟨rfl, lost2, l2, l2', v2, rv2, tx, hg⟩ := hcut
        obtain ⟨hl1, hl2⟩ := hg.out.len
        have hlen : l2'.length = l2.length := hg.out.sim.len.symm
        have htov := hg.out.sim.tov
        obtain ⟨A', c', hrv, hc1', hc2', hR'⟩ := tx.r.row.row
        have o1 : wc.cell? ⟨rb, 1, none⟩ = some (.slice A' l2'.length c') := by rw [← hrv]; exact tx.r.own.cell 1
        have hbytes := Lib.hid tx.r.bytes
        obtain ⟨m, hm⟩ : ∃ m, l2'.length = m := ⟨_, rfl⟩
        have HM := Lib.hid hm
        rw [hm] at o1 hR' hc1' hl2 hlen
        have HLEN := Lib.hid hlen
        have HRW := Lib.hid hR'
        have HTOV := Lib.hid htov
        unfold maxLen at hc2'
        clear hm hlen hR' htov
        go_wp2_with fail
        go_loopw [154, 17] (fun i u wz => ∃ j : Nat, i = .int .i64 j ∧ j ≤ m ∧ Mine wz wc.heap.size 3 u j (tov l2') ∧ Below wc.heap.size wc wz) (fun i _ _ => m - (intOf i).toNat)
        case atStart => exact ⟨0, rfl, by omega, Mine.nil _ _ _ _, Below.refl _ _⟩
        case round =>
          clear o1
          obtain ⟨j, rfl, hj, hW, bb⟩ := hrel
          have hbz := bb.size
          by_cases hjt : j < m
          · obtain ⟨bo2, off2, rfl, _, hcs2⟩ := HRW.out.at_struct bb hjt (by decide)
            have d0 := (hcs2 0 (by decide)).trans (congrArg some (iv_at l2' j).1)
            have d1 := (hcs2 1 (by decide)).trans (congrArg some (iv_at l2' j).2)
            rw [Nat.add_zero] at d0
            obtain ⟨xa, xc, hxv, _, _, _, _⟩ := (hbytes.out _ (getD_mem (by rw [HM.out]; exact hjt))).row
            rw [hxv] at d1
            obtain ⟨tt, htt⟩ : ∃ tt, (l2'.getD j default).to = tt := ⟨_, rfl⟩
            have HTT := Lib.hid htt
            rw [htt] at d0
            generalize (l2'.getD j default).n = xn at *
            clear hcs2 hxv htt
            obtain ⟨a4, c4, rfl, hc4', hd4, _⟩ := hW.row
            have ob := Own.new wr 37 #[.int .i64 tt, .slice xa xn xc]
            have b2 := bb.alloc hbz (.cells #[.int .i64 tt, .slice xa xn xc] 37)
            have hW2 := hW.alloc (.cells #[.int .i64 tt, .slice xa xn xc] 37)
            go_upto_region 25 with (fail)
            generalize wr.alloc (.cells #[.int .i64 tt, .slice xa xn xc] 37) = w4 at *
            obtain ⟨g, hg4⟩ : ∃ g, wr.heap.size = g := ⟨_, rfl⟩
            rw [hg4] at ob hbz ⊢
            clear hg4 d0 d1 hW
            have d0 : w4.cell? ⟨g, 0, none⟩ = some (.int .i64 tt) := ob.cell 0
            have HR1 := Lib.hid (row_new (n := 1) (V := fun _ => .int .i64 tt) w4 #[.int .i64 tt] 3 (0, 0) (fun i hi => by obtain rfl : i = 0 := (by omega); rfl))
            have b3 := b2.alloc b2.size (.cells #[.int .i64 tt] 3)
            have hbs3 := b3.size
            go_wp2_with (at_builtin; go_must (refine wp_app rfl (.tmp 158) (.tmp 161) _ rfl wc.heap.size 3 I0 _ 8 Try.underlying39 hI0 hZ0 hZ1 hZ2 rfl (.slice a4 j c4) j (tov l2') rfl (hW2.alloc _) _ 1 _ (fun _ => .int .i64 tt) rfl HR1.out (fun _ _ => rfl) ?c1 ?c2 hbs3 ?_))
            case c1 => unfold maxLen; omega
            case c2 => omega
            intro v9 w9 m9 q9
            have b9 : Below wc.heap.size wc w9 := b3.grown q9 hbs3 (fun q e => (hW2.lt q e).1)
            have HW9 : Hid (Mine w9 wc.heap.size 3 v9 (j + 1) (tov l2')) := Lib.hid (m9.ext (fun i hi => by
              by_cases h : i < j
              · rw [if_pos h]
              · obtain rfl : i = j := by omega
                rw [if_neg h]
                unfold tov
                rw [HTT.out]))
            clear m9 q9 hW2 b3
            go_wp2_with fail
            exact ⟨⟨j + 1, by simp, by omega, HW9.out, b9⟩, by simp [intOf]; omega⟩
          · obtain rfl : m = j := by omega
            obtain ⟨a4, c4, rfl, hc4', hd4, hR4⟩ := hW.row
            have HR4 := Lib.hid hR4
            have tA := (tx.below bb).below (below_drewN (Below.refl _ _) 1)
            have tx := tx.below bb
            have hR4 : Row wr.drew a4 m (tov l2') := HR4.out
            have o1 : wr.cell? ⟨rb, 1, none⟩ = some (.slice A' m c') := by
              have := tx.r.own.cell 1
              rw [hrv, HM.out] at this
              exact this
            have o2 : wr.cell? ⟨rb, 2, none⟩ = some (.int .i64 lost2) := tx.r.own.cell 2
            have xx : wr.drew.cell? ⟨rb, 1, none⟩ = some (.slice A' m c') ∧ wr.drew.cell? ⟨rb, 2, none⟩ = some (.int .i64 lost2) := ⟨o1, o2⟩
            have T1 : ∀ wz, Que wz b b most lost2 l2 v2 → _ := fun wz hq => to_any b b most lost2 l2 v2 wz hq (by omega)
            have T2 : ∀ wz, Que wz b b most lost2 l2 v2 → _ := fun wz hq => len_any b b most lost2 l2 v2 wz hq
            have T3 : ∀ wz, Que wz b b most lost2 l2 v2 → _ := fun wz hq => lost_any b b most lost2 l2 v2 wz hq
            have hle := HLEN.out.symm
            have hto := HTOV.out
            simp only [hle, hto] at T1 T2
            have T1 := Lib.hid T1
            have T2 := Lib.hid T2
            have T3 := Lib.hid T3
            clear hle hto hW
            go_wp2_with fail
            go_region_held3 (fun w' => w'.cell? ⟨rb, 1, none⟩ = some (.slice A' m c') ∧ w'.cell? ⟨rb, 2, none⟩ = some (.int .i64 lost2)) (with_reducible first | exact xx | exact yy | exact zz) (first
              | (go_at_call 18; refine (T1.out _ tA.s).mono ?_; rintro e w5 ⟨a5, c5, rfl, hc5, hd5, hR5, b5⟩; have tB := tA.below b5; have hR6 := hR4.below b5; have yy : w5.cell? ⟨rb, 1, none⟩ = some (.slice A' m c') ∧ w5.cell? ⟨rb, 2, none⟩ = some (.int .i64 lost2) := ⟨by have := tB.r.own.cell 1; rw [hrv, HM.out] at this; exact this, tB.r.own.cell 2⟩)
              | (go_at_call 17; refine (same_intsQ a5 a4 m c5 c4 (tov l2') (fun j => (l2'.getD j default).to) _ rfl hc5 hc4' hd5 hd4 hR5 hR6).mono ?_; rintro e w8 ⟨rfl, m8, hw8⟩; have tC := tB.below (wy := w8) (by rw [← hw8]; exact below_drewN (Below.refl _ _) m8); have zz : w8.cell? ⟨rb, 1, none⟩ = some (.slice A' m c') ∧ w8.cell? ⟨rb, 2, none⟩ = some (.int .i64 lost2) := ⟨by have := tC.r.own.cell 1; rw [hrv, HM.out] at this; exact this, tC.r.own.cell 2⟩; clear hw8)
              | (go_at_call 19; refine (T2.out _ tC.s).mono ?_; rintro e w9 ⟨rfl, rfl⟩)
              | (go_at_call 20; refine (T3.out _ tC.s).mono ?_; rintro e w9 ⟨rfl, rfl⟩)
              | fail)
            all_goals
              clear xx yy zz o1 o2
              go_wp2_with fail
              exact ⟨⟨k + 1, _, _, _, _, _, by simp [intOf], by omega, by omega, tC, hg⟩, by simp [intOf]; omega⟩
    · obtain rfl : n = k := by omega
      go_wp2_with fail
      refine (hend _ t.bb).mono ?_
      rintro r w' ⟨rfl, b1⟩
      go_wp2_with fail
      go_ret
      exact ⟨rfl, b1⟩

theorem walk (H : Type) (enc : TypeId × Value → H) : Walk H enc Try.prog 3 Try.f3 := by
  intro W base args ds p hval hA
  rw [Try.params3] at hA hval
  obtain ⟨v0, v1, d0, d1, p0, p1, rfl, rfl, rfl, h0, h1⟩ := trodAll_two hA
  obtain ⟨x, rfl, rfl, rfl, _⟩ := open_int Try.underlying3 (hval 0 _ v0 rfl rfl) h0
  obtain ⟨a, n, c, V, C, rfl, hn, hc, hV, hC⟩ := open_callsQ (hval 1 _ v1 rfl rfl) h1
  exact body x a n c V C W hn hc hV hC

set_option maxRecDepth 100000 in
theorem lifted (os : Os) (started : os.Started) (H : Type) (enc : TypeId × Value → H) :
    ReturnsInHanded {} Try.checked os 3 .any (Rows.queuePlaysSpec.pre6 enc Try.prog Try.f3 Rows.queuePlaysRow.domain false) (Rows.queuePlaysSpec.post enc Try.prog Try.f3 false true false false) :=
  returnsInHanded_of_change (C := Try.checked) own started (by kernel_rfl) Try.func3
    (ChangeSpec.witness6 (enc := enc) (C := Try.checked) false ⟨#[], #[.int .i64 0, .slice none 0 0], []⟩ 8 (by kernel_rfl) (by kernel_rfl) (by kernel_rfl) (by kernel_rfl))
    fun W base args ds gs before hval hW _ _ => step_of_walk laidOut (by rw [Try.params3]; exact of_decide_eq_true (by kernel_rfl)) (by kernel_rfl) Try.underlying4 rfl
      (fun ds h => by
        rw [Try.params3] at h
        match ds, h with
        | [_, _], _ => rfl) (walk H enc) W base args ds gs before hval hW

theorem holds : Rows.QueuePlaysSaid :=
  OpenClaim.holds_of_wide 3 Try.f3 rfl rfl rfl rfl rfl rfl rfl ⟨rfl, rfl, rfl, rfl, rfl⟩ rfl rfl rfl rfl rfl (by kernel_rfl) Try.func3 (by kernel_rfl)
    (of_decide_eq_true (by kernel_rfl)) (by unfold Func.isWrapper; first | (rw [if_pos (by decide +kernel)]; kernel_rfl) | (rw [if_neg (by decide +kernel)]; exact ⟨rfl, rfl⟩))
    (fun os started H enc _ => lifted os started H enc)
#print axioms holds
end Go.Proofs.Ytmabdegabeopbaa.QueuePlays
