/-
  Law CellPlays: any calls on a table, each answer, all that is there, what is active, as the document's own answers; the call returns true. No condition.
-/
import Derived.Test.YtdknacbdkekfnaaCeRAct
import Derived.Test.YtdknacbdkekfnaaRowDeep
import Derived.Deep.RegionHeld3
import Derived.Deep.CutBlock
import Derived.Deep.DeepCutAuto
import Derived.BigRegion
set_option maxRecDepth 100000
namespace Go.Proofs.Ytdknacbdkekfnaa.CellPlays
set_option linter.unusedVariables false
open Go.RowKit Go.ChangeShapes Go.WideShapes Go.ChangeAt Go.Deep Lb Cl Ce
set_option linter.unusedVariables false
theorem own : ownKnob Try.prog.godebug = none := by kernel_rfl
theorem laidOut : laidOutB Try.prog = true := by kernel_rfl
/-- A call: which, two numbers, a cell. -/
structure Ck where
  d : Int
  h : Int
  n : Int
  c : C
def Ck.cells (q : Ck) : Array Value := #[.int .i64 q.d, .int .i64 q.h, .int .i64 q.n, .int .i64 q.c.f, .int .i64 q.c.s, .int .i64 q.c.c, .int .i64 q.c.o, .int .i64 q.c.p]
section
variable {H : Type} {enc : TypeId × Value → H} {w : World} {base : Nat}
theorem open_one {f : Nat} {y : DataW H × List MemPlace} {cs : List Value} (h8 : cs.length = 8) (hf : DataW.trod enc Try.prog w 0 (fun _ => true) true f 33 cs = some y) : ∃ q : Ck, cs = q.cells.toList := by
  have hI : Try.prog.cellsOf 3 = 1 := by kernel_rfl
  have hX : Try.prog.cellsOf 31 = 5 := by kernel_rfl
  match cs, h8 with
  | [x0, x1, x2, x3, x4, x5, x6, x7], _ =>
  obtain ⟨y1, y2⟩ := y
  obtain ⟨xs, k, _, _, _, hlen, hfs⟩ := DataW.trod_struct Try.underlying33 hf
  match xs, hlen with
  | [z0, z1, z2, z3], _ =>
  obtain ⟨q0, f0, _⟩ := DataW.trod_int Try.underlying3 (hfs 0 _ rfl)
  obtain ⟨q1, f1, _⟩ := DataW.trod_int Try.underlying3 (hfs 1 _ rfl)
  obtain ⟨q2, f2, _⟩ := DataW.trod_int Try.underlying3 (hfs 2 _ rfl)
  have h3 : DataW.trod enc Try.prog w 0 (fun _ => true) true k 31 (List.take (Try.prog.cellsOf 31) [x3, x4, x5, x6, x7]) = some z3 := hfs 3 _ rfl
  rw [hX] at h3
  obtain ⟨z31, z32⟩ := z3
  obtain ⟨xs', k', _, _, _, hlen', hfs'⟩ := DataW.trod_struct Try.underlying31 h3
  match xs', hlen' with
  | [u0, u1, u2, u3, u4], _ =>
  obtain ⟨q3, f3, _⟩ := DataW.trod_int Try.underlying3 (hfs' 0 _ rfl)
  obtain ⟨q4, f4, _⟩ := DataW.trod_int Try.underlying3 (hfs' 1 _ rfl)
  obtain ⟨q5, f5, _⟩ := DataW.trod_int Try.underlying3 (hfs' 2 _ rfl)
  obtain ⟨q6, f6, _⟩ := DataW.trod_int Try.underlying3 (hfs' 3 _ rfl)
  obtain ⟨q7, f7, _⟩ := DataW.trod_int Try.underlying3 (hfs' 4 _ rfl)
  simp [Value.cells, hI] at f0 f1 f2 f3 f4 f5 f6 f7
  subst f0 f1 f2 f3 f4 f5 f6 f7
  exact ⟨⟨q0, q1, q2, ⟨q3, q4, q5, q6, q7⟩⟩, rfl⟩
theorem open_callsC {v : Value} {d : DataW H} {p : List MemPlace} (hv : Value.okWide Try.prog w .any base 22 v)
    (h : DataW.Trod enc Try.prog w 0 (fun _ => true) true 22 v d p) :
    ∃ a n c V, ∃ Q : Nat → Ck, v = .slice a n c ∧ n ≤ c ∧ c ≤ maxLen ∧ Row w a (n * 8) V ∧ ∀ i, i < n → ∀ j, j < 8 → (Q i).cells[j]? = some (V (i * 8 + j)) := by
  obtain ⟨a, n, c, V, rfl, hn, hm, hV, hf⟩ := open_row_deep (k := 8) Try.underlying22 (by kernel_rfl) (by decide) hv h
  obtain ⟨Q, hQ⟩ := choose_fn (n := n) (q := fun i (x : Ck) => ((List.range 8).map fun j => V (i * 8 + j)) = x.cells.toList) (⟨0, 0, 0, ⟨0, 0, 0, 0, 0⟩⟩ : Ck) (fun i hi => by
    obtain ⟨f, y, hy⟩ := hf i hi
    exact open_one (by simp) hy)
  refine ⟨a, n, c, V, Q, rfl, hn, hm, hV, fun i hi j hj => ?_⟩
  have e := congrArg (fun l : List Value => l[j]?) (hQ i hi)
  simp only [List.getElem?_map, List.getElem?_range hj, Option.map_some] at e
  rw [← Array.getElem?_toList, ← e]
end
/-- Both tables in one memory. -/
structure Two (w wx : World) (b rb : Nat) (N N' : Nat → Int) (l l' : List C) (v rv : Value) : Prop where
  s : Tab wx b b N l v
  r : Rtb wx b rb N' l' rv
  ap : ∀ q, v.ownBlock = some q → rv.ownBlock ≠ some q
  bb : Below b w wx
  bs : b ≤ w.heap.size
theorem Two.below {w wx wy : World} {b rb : Nat} {N N' : Nat → Int} {l l' : List C} {v rv : Value} (t : Two w wx b rb N N' l l' v rv) (j : Below wx.heap.size wx wy) : Two w wy b rb N N' l l' v rv :=
  ⟨t.s.below j, t.r.below j, t.ap, t.bb.trans (j.mono (Nat.le_trans t.bs t.bb.size)), t.bs⟩
theorem Two.ne {w wx : World} {b rb : Nat} {N N' : Nat → Int} {l l' : List C} {v rv : Value} (t : Two w wx b rb N N' l l' v rv) : b ≠ rb ∧ v.ownBlock ≠ some rb ∧ rv.ownBlock ≠ some b :=
  ⟨fun e => by have h := t.r.blk; rw [← e] at h; exact absurd (Lb.own_ty t.s.blk h) (by decide), fun e => by
    obtain ⟨cs, hc⟩ := mineK_own t.s.row e
    exact absurd (Lb.own_ty hc t.r.blk) (by decide), fun e => by
    obtain ⟨cs, hc⟩ := mineK_own t.r.row e
    exact absurd (Lb.own_ty hc t.s.blk) (by decide)⟩
theorem Two.turn {w wx wy : World} {b rb : Nat} {N N' N2 : Nat → Int} {l l' l2 : List C} {v rv v2 : Value} (t : Two w wx b rb N N' l l' v rv) (u : Tab wy b b N2 l2 v2) (j : Ce.Turn wx wy b v v2) : Two w wy b rb N2 N' l2 l' v2 rv := by
  obtain ⟨n1, n2, n3⟩ := t.ne
  refine ⟨u, ⟨(j.keep rb t.r.blk.lt n1.symm n2).trans t.r.blk, t.r.row.kept (fun q _ => ?_), t.r.good, t.r.low⟩, fun q e e' => ?_, t.bb.trans (j.below (Nat.le_refl _) (fun q e => (t.s.row.lt q e).1) (Nat.le_trans t.bs t.bb.size)), t.bs⟩
  · by_cases e : rv.ownBlock = some q
    · exact .inl (j.keep q (t.r.row.lt q e).2 (fun e' => n3 (e' ▸ e)) (fun e' => t.ap q e' e))
    · exact .inr e
  · rcases j.own q e with h | h
    · exact t.ap q h e'
    · have := (t.r.row.lt q e').2; omega
theorem Two.just {w wx wy : World} {b rb : Nat} {N N' N2 : Nat → Int} {l l' l2 : List C} {v rv v2 : Value} (t : Two w wx b rb N N' l l' v rv) (u : Rtb wy b rb N2 l2 v2) (j : Ce.Turn wx wy rb rv v2) : Two w wy b rb N N2 l l2 v v2 := by
  obtain ⟨n1, n2, n3⟩ := t.ne
  refine ⟨⟨(j.keep b t.s.blk.lt n1 n3).trans t.s.blk, t.s.row.kept (fun q _ => ?_), t.s.good, t.s.low⟩, u, fun q e e' => ?_, t.bb.trans (j.below t.r.low (fun q e => (t.r.row.lt q e).1) (Nat.le_trans t.bs t.bb.size)), t.bs⟩
  · by_cases e : v.ownBlock = some q
    · exact .inl (j.keep q (t.s.row.lt q e).2 (fun e' => n2 (e' ▸ e)) (fun e' => t.ap q e e'))
    · exact .inr e
  · rcases j.own q e' with h | h
    · exact t.ap q e h
    · have := (t.s.row.lt q e).2; omega
/-- The box of a call is apart from both. -/
theorem box_turn {w w' : World} {b base r0 : Nat} {N : Nat → Int} {l : List C} {v v2 : Value} {cs : Array Value} (h : Own w r0 33 cs) (t : Tab w base b N l v) (j : Ce.Turn w w' b v v2) : Own w' r0 33 cs :=
  (j.keep r0 h.lt (fun e => by subst e; exact absurd (Lb.own_ty h t.blk) (by decide)) (fun e => by
    obtain ⟨ds, hd⟩ := mineK_own t.row e
    exact absurd (Lb.own_ty h hd) (by decide))).trans h
theorem box_just {w w' : World} {b base r0 : Nat} {N : Nat → Int} {l : List C} {v v2 : Value} {cs : Array Value} (h : Own w r0 33 cs) (t : Rtb w base b N l v) (j : Ce.Turn w w' b v v2) : Own w' r0 33 cs :=
  (j.keep r0 h.lt (fun e => by subst e; exact absurd (Lb.own_ty h t.blk) (by decide)) (fun e => by
    obtain ⟨ds, hd⟩ := mineK_own t.row e
    exact absurd (Lb.own_ty h hd) (by decide))).trans h
set_option maxHeartbeats 16000000 in
theorem body (a : Option Addr) (n c : Nat) (V : Nat → Value) (Q : Nat → Ck) (asn : Int) (w : World) (hn : n ≤ c) (hc : c ≤ maxLen) (hV : Row w a (n * 8) V)
    (hQ : ∀ i, i < n → ∀ j, j < 8 → (Q i).cells[j]? = some (V (i * 8 + j))) (hA : -9223372036854775808 ≤ asn ∧ asn ≤ 9223372036854775807) :
    Calls Try.prog 3 #[.slice a n c, .int .i64 asn] w fun r w' => r = .returned (.bool true) ∧ Below w.heap.size w w' := by
  unfold maxLen at hc
  have HQ := Lib.hid hQ
  have HV := Lib.hid hV
  clear hQ hV
  go_enter Try.func3, Try.ntmps3
  go_wp2_with fail
  refine (new_any _).mono ?_
  rintro r w1 ⟨rfl, t1, b1⟩
  have ho := Own.new w1 29 #[.int .i64 0, .int .i64 0, .int .i64 0, .int .i64 0, .slice none 0 0]
  have b2 := (Below.refl w1.heap.size w1).alloc (Nat.le_refl _) (.cells #[.int .i64 0, .int .i64 0, .int .i64 0, .int .i64 0, .slice none 0 0] 29)
  have hb1 := t1.blk.lt
  have t2 : Two w (w1.alloc (.cells #[.int .i64 0, .int .i64 0, .int .i64 0, .int .i64 0, .slice none 0 0] 29)) w.heap.size w1.heap.size (fun _ => 0) (fun _ => 0) [] [] (.slice none 0 0) (.slice none 0 0) :=
    ⟨t1.below b2, ⟨Blk.of ho rfl (fun i hi => by rcases (show i = 0 ∨ i = 1 ∨ i = 2 ∨ i = 3 ∨ i = 4 by omega) with rfl | rfl | rfl | rfl | rfl <;> rfl), MineK.nil _ _ _ _ _, good_nil (fun i => by simp), Nat.le_of_lt hb1⟩, (fun q e => by cases e), b1.trans (b2.mono b1.size), Nat.le_refl _⟩
  go_upto_region 2 with (fail)
  generalize w1.alloc (.cells #[.int .i64 0, .int .i64 0, .int .i64 0, .int .i64 0, .slice none 0 0] 29) = w2 at *
  obtain ⟨rb, hrb⟩ : ∃ rb, w1.heap.size = rb := ⟨_, rfl⟩
  rw [hrb] at t2 hb1 ⊢
  obtain ⟨b, hb⟩ : ∃ b, w.heap.size = b := ⟨_, rfl⟩
  have HB := Lib.hid hb
  rw [hb] at t2 hb1 ⊢
  clear t1 b1 b2 ho hrb hb
  clear w1
  go_upto_block 0 with (fail)
  go_cut [4] (fun s wz => ∃ (N : Nat → Int) (l : List C) (v rv : Value), Two w wz b rb N N l l v rv)
  case first =>
    go_wp2_with fail
    go_loopw [19] (fun i wr => ∃ (k : Nat) (N : Nat → Int) (l : List C) (v rv : Value), i = .int .i64 k ∧ k ≤ n ∧ k ≤ 150 ∧ Two w wr b rb N N l l v rv) (fun i _ => n - (intOf i).toNat)
    case atStart => exact ⟨0, _, _, _, _, rfl, by omega, by omega, t2⟩
    case round =>
      clear t2
      obtain ⟨k, N, l, v, rv, rfl, hk, hk3, t⟩ := hrel
      have hbs := t.bs
      by_cases hlt : k < n ∧ k < 150
      · obtain ⟨hlt, h3⟩ := hlt
        have g3 : decide ((150 : Int) ≤ (k : Int)) = false := by simp; omega
        have bV : Below w.heap.size w wr := by rw [HB.out]; exact t.bb
        obtain ⟨bo, off, rfl, hbo, hcs⟩ := HV.out.at_struct bV hlt (by decide)
        obtain ⟨q, hq⟩ : ∃ q, Q k = q := ⟨_, rfl⟩
        have hqc : ∀ j, j < 8 → wr.cell? ⟨bo, off + k * 8 + j, none⟩ = q.cells[j]? := fun j hj => by rw [hcs j hj, ← hq, HQ.out k hlt j hj]
        have d0 : wr.cell? ⟨bo, off + k * 8, none⟩ = some (.int .i64 q.d) := hqc 0 (by decide)
        have d1 : wr.cell? ⟨bo, off + k * 8 + 1, none⟩ = some (.int .i64 q.h) := hqc 1 (by decide)
        have d2 : wr.cell? ⟨bo, off + k * 8 + 2, none⟩ = some (.int .i64 q.n) := hqc 2 (by decide)
        have d3 : wr.cell? ⟨bo, off + k * 8 + 3, none⟩ = some (.int .i64 q.c.f) := hqc 3 (by decide)
        have d4 : wr.cell? ⟨bo, off + k * 8 + 4, none⟩ = some (.int .i64 q.c.s) := hqc 4 (by decide)
        have d5 : wr.cell? ⟨bo, off + k * 8 + 5, none⟩ = some (.int .i64 q.c.c) := hqc 5 (by decide)
        have d6 : wr.cell? ⟨bo, off + k * 8 + 6, none⟩ = some (.int .i64 q.c.o) := hqc 6 (by decide)
        have d7 : wr.cell? ⟨bo, off + k * 8 + 7, none⟩ = some (.int .i64 q.c.p) := hqc 7 (by decide)
        clear hcs hqc hq
        have tx := t.below ((Below.refl wr.heap.size wr).alloc (Nat.le_refl _) (.cells #[.int .i64 q.d, .int .i64 q.h, .int .i64 q.n, .int .i64 q.c.f, .int .i64 q.c.s, .int .i64 q.c.c, .int .i64 q.c.o, .int .i64 q.c.p] 33))
        have ox := Own.new wr 33 #[.int .i64 q.d, .int .i64 q.h, .int .i64 q.n, .int .i64 q.c.f, .int .i64 q.c.s, .int .i64 q.c.c, .int .i64 q.c.o, .int .i64 q.c.p]
        go_upto_region 8 with (fail)
        generalize wr.alloc (.cells #[.int .i64 q.d, .int .i64 q.h, .int .i64 q.n, .int .i64 q.c.f, .int .i64 q.c.s, .int .i64 q.c.c, .int .i64 q.c.o, .int .i64 q.c.p] 33) = wx at *
        obtain ⟨r0, hr00⟩ : ∃ r, wr.heap.size = r := ⟨_, rfl⟩
        rw [hr00] at ox ⊢
        clear hr00 bV t d0 d1 d2 d3 d4 d5 d6 d7
        clear wr
        have c0 : wx.cell? ⟨r0, 0, none⟩ = some (.int .i64 q.d) := ox.cell 0
        go_upto_block 2 with (fail)
        go_cut [9] (fun s wz => s = .bool true ∧ ∃ (N2 : Nat → Int) (l2 : List C) (v2 rv2 : Value), Two w wz b rb N2 N2 l2 l2 v2 rv2 ∧ Own wz r0 33 #[.int .i64 q.d, .int .i64 q.h, .int .i64 q.n, .int .i64 q.c.f, .int .i64 q.c.s, .int .i64 q.c.c, .int .i64 q.c.o, .int .i64 q.c.p])
        case first =>
          have oA : Own wx.drew r0 33 #[.int .i64 q.d, .int .i64 q.h, .int .i64 q.n, .int .i64 q.c.f, .int .i64 q.c.s, .int .i64 q.c.c, .int .i64 q.c.o, .int .i64 q.c.p] := ox
          have tA : Two w wx.drew b rb N N l l v rv := tx.below (below_drewN (Below.refl _ _) 1)
          have c1 : wx.cell? ⟨r0, 1, none⟩ = some (.int .i64 q.h) := ox.cell 1
          have c2 : wx.cell? ⟨r0, 2, none⟩ = some (.int .i64 q.n) := ox.cell 2
          have c3 : wx.cell? ⟨r0, 3, none⟩ = some (.int .i64 q.c.f) := ox.cell 3
          have c4 : wx.cell? ⟨r0, 4, none⟩ = some (.int .i64 q.c.s) := ox.cell 4
          have c5 : wx.cell? ⟨r0, 5, none⟩ = some (.int .i64 q.c.c) := ox.cell 5
          have c6 : wx.cell? ⟨r0, 6, none⟩ = some (.int .i64 q.c.o) := ox.cell 6
          have c7 : wx.cell? ⟨r0, 7, none⟩ = some (.int .i64 q.c.p) := ox.cell 7
          by_cases e0 : q.d = 0
          · have g0 : (q.d == 0) = true := by simpa using e0
            obtain ⟨er, her⟩ : ∃ e, frE l q.h q.n = e := ⟨_, rfl⟩
            have HER := Lib.hid her
            have xx : wx.drew.cell? ⟨r0, 1, none⟩ = some (.int .i64 q.h) ∧ wx.drew.cell? ⟨r0, 2, none⟩ = some (.int .i64 q.n) := ⟨c1, c2⟩
            clear e0 her c3 c4 c5 c6 c7
            go_upto_region 12 with (fail)
            go_region_held3 (fun w' => w'.cell? ⟨r0, 1, none⟩ = some (.int .i64 q.h) ∧ w'.cell? ⟨r0, 2, none⟩ = some (.int .i64 q.n)) (with_reducible first | exact xx | exact yy | exact zz) (first
              | (go_at_call 10; refine (frm_any b b N l v q.h q.n _ ?_).mono ?_; (with_reducible first | exact tA.s | exact tB.s); rintro e w5 ⟨rfl, q5, j5⟩; rw [HER.out]; (first | (have tC := tA.turn q5 j5; have oC := box_turn oA tA.s j5; have yy : w5.cell? ⟨r0, 1, none⟩ = some (.int .i64 q.h) ∧ w5.cell? ⟨r0, 2, none⟩ = some (.int .i64 q.n) := ⟨oC.cell 1, oC.cell 2⟩) | (have tD := tB.turn q5 j5; have oD := box_turn oB tB.s j5; have zz : w5.cell? ⟨r0, 1, none⟩ = some (.int .i64 q.h) ∧ w5.cell? ⟨r0, 2, none⟩ = some (.int .i64 q.n) := ⟨oD.cell 1, oD.cell 2⟩) | fail))
              | (go_at_call 11; refine (rfrm_any b rb N l rv q.h q.n _ ?_).mono ?_; (with_reducible first | exact tA.r | exact tC.r); rintro e w6 ⟨rfl, q6, j6⟩; rw [HER.out]; (first | (have tB := tA.just q6 j6; have oB := box_just oA tA.r j6; have yy : w6.cell? ⟨r0, 1, none⟩ = some (.int .i64 q.h) ∧ w6.cell? ⟨r0, 2, none⟩ = some (.int .i64 q.n) := ⟨oB.cell 1, oB.cell 2⟩) | (have tD := tC.just q6 j6; have oD := box_just oC tC.r j6; have zz : w6.cell? ⟨r0, 1, none⟩ = some (.int .i64 q.h) ∧ w6.cell? ⟨r0, 2, none⟩ = some (.int .i64 q.n) := ⟨oD.cell 1, oD.cell 2⟩) | fail)))
            all_goals
              clear xx yy zz c0 c1 c2
              go_wp2_with fail
              go_meet
              exact ⟨by first | rfl | simp, _, _, _, _, tD, oD⟩
          have g0 : (q.d == 0) = false := by simpa using e0
          clear e0
          have xx : wx.drew.cell? ⟨r0, 3, none⟩ = some (.int .i64 q.c.f) ∧ wx.drew.cell? ⟨r0, 4, none⟩ = some (.int .i64 q.c.s) ∧ wx.drew.cell? ⟨r0, 5, none⟩ = some (.int .i64 q.c.c) ∧ wx.drew.cell? ⟨r0, 6, none⟩ = some (.int .i64 q.c.o) ∧ wx.drew.cell? ⟨r0, 7, none⟩ = some (.int .i64 q.c.p) := ⟨c3, c4, c5, c6, c7⟩
          by_cases e1 : q.d = 1
          · have g1 : (q.d == 1) = true := by simpa using e1
            obtain ⟨er, her⟩ : ∃ e, addE N l q.c = e := ⟨_, rfl⟩
            have HER := Lib.hid her
            clear e1 her c1 c2
            go_upto_region 14 with (fail)
            go_region_held3 (fun w' => w'.cell? ⟨r0, 3, none⟩ = some (.int .i64 q.c.f) ∧ w'.cell? ⟨r0, 4, none⟩ = some (.int .i64 q.c.s) ∧ w'.cell? ⟨r0, 5, none⟩ = some (.int .i64 q.c.c) ∧ w'.cell? ⟨r0, 6, none⟩ = some (.int .i64 q.c.o) ∧ w'.cell? ⟨r0, 7, none⟩ = some (.int .i64 q.c.p)) (with_reducible first | exact xx | exact yy | exact zz) (first
              | (go_at_call 12; refine (add_any b b N l v q.c _ ?_).mono ?_; (with_reducible first | exact tA.s | exact tB.s); rintro e w5 ⟨rfl, v5, q5, j5⟩; rw [HER.out]; (first | (have tC := tA.turn q5 j5; have oC := box_turn oA tA.s j5; have yy : w5.cell? ⟨r0, 3, none⟩ = some (.int .i64 q.c.f) ∧ w5.cell? ⟨r0, 4, none⟩ = some (.int .i64 q.c.s) ∧ w5.cell? ⟨r0, 5, none⟩ = some (.int .i64 q.c.c) ∧ w5.cell? ⟨r0, 6, none⟩ = some (.int .i64 q.c.o) ∧ w5.cell? ⟨r0, 7, none⟩ = some (.int .i64 q.c.p) := ⟨oC.cell 3, oC.cell 4, oC.cell 5, oC.cell 6, oC.cell 7⟩) | (have tD := tB.turn q5 j5; have oD := box_turn oB tB.s j5; have zz : w5.cell? ⟨r0, 3, none⟩ = some (.int .i64 q.c.f) ∧ w5.cell? ⟨r0, 4, none⟩ = some (.int .i64 q.c.s) ∧ w5.cell? ⟨r0, 5, none⟩ = some (.int .i64 q.c.c) ∧ w5.cell? ⟨r0, 6, none⟩ = some (.int .i64 q.c.o) ∧ w5.cell? ⟨r0, 7, none⟩ = some (.int .i64 q.c.p) := ⟨oD.cell 3, oD.cell 4, oD.cell 5, oD.cell 6, oD.cell 7⟩) | fail))
              | (go_at_call 13; refine (radd_any b rb N l rv q.c _ ?_).mono ?_; (with_reducible first | exact tA.r | exact tC.r); rintro e w6 ⟨rfl, v6, q6, j6⟩; rw [HER.out]; (first | (have tB := tA.just q6 j6; have oB := box_just oA tA.r j6; have yy : w6.cell? ⟨r0, 3, none⟩ = some (.int .i64 q.c.f) ∧ w6.cell? ⟨r0, 4, none⟩ = some (.int .i64 q.c.s) ∧ w6.cell? ⟨r0, 5, none⟩ = some (.int .i64 q.c.c) ∧ w6.cell? ⟨r0, 6, none⟩ = some (.int .i64 q.c.o) ∧ w6.cell? ⟨r0, 7, none⟩ = some (.int .i64 q.c.p) := ⟨oB.cell 3, oB.cell 4, oB.cell 5, oB.cell 6, oB.cell 7⟩) | (have tD := tC.just q6 j6; have oD := box_just oC tC.r j6; have zz : w6.cell? ⟨r0, 3, none⟩ = some (.int .i64 q.c.f) ∧ w6.cell? ⟨r0, 4, none⟩ = some (.int .i64 q.c.s) ∧ w6.cell? ⟨r0, 5, none⟩ = some (.int .i64 q.c.c) ∧ w6.cell? ⟨r0, 6, none⟩ = some (.int .i64 q.c.o) ∧ w6.cell? ⟨r0, 7, none⟩ = some (.int .i64 q.c.p) := ⟨oD.cell 3, oD.cell 4, oD.cell 5, oD.cell 6, oD.cell 7⟩) | fail)))
            all_goals
              clear xx yy zz c0 c3 c4 c5 c6 c7
              go_wp2_with fail
              go_meet
              exact ⟨by first | rfl | simp, _, _, _, _, tD, oD⟩
          have g1 : (q.d == 1) = false := by simpa using e1
          obtain ⟨er, her⟩ : ∃ e, remE l q.c = e := ⟨_, rfl⟩
          have HER := Lib.hid her
          clear e1 her c1 c2
          go_upto_region 10 with (fail)
          go_region_held3 (fun w' => w'.cell? ⟨r0, 3, none⟩ = some (.int .i64 q.c.f) ∧ w'.cell? ⟨r0, 4, none⟩ = some (.int .i64 q.c.s) ∧ w'.cell? ⟨r0, 5, none⟩ = some (.int .i64 q.c.c) ∧ w'.cell? ⟨r0, 6, none⟩ = some (.int .i64 q.c.o) ∧ w'.cell? ⟨r0, 7, none⟩ = some (.int .i64 q.c.p)) (with_reducible first | exact xx | exact yy | exact zz) (first
              | (go_at_call 14; refine (rem_any b b N l v q.c _ ?_).mono ?_; (with_reducible first | exact tA.s | exact tB.s); rintro e w5 ⟨rfl, v5, q5, j5⟩; rw [HER.out]; (first | (have tC := tA.turn q5 j5; have oC := box_turn oA tA.s j5; have yy : w5.cell? ⟨r0, 3, none⟩ = some (.int .i64 q.c.f) ∧ w5.cell? ⟨r0, 4, none⟩ = some (.int .i64 q.c.s) ∧ w5.cell? ⟨r0, 5, none⟩ = some (.int .i64 q.c.c) ∧ w5.cell? ⟨r0, 6, none⟩ = some (.int .i64 q.c.o) ∧ w5.cell? ⟨r0, 7, none⟩ = some (.int .i64 q.c.p) := ⟨oC.cell 3, oC.cell 4, oC.cell 5, oC.cell 6, oC.cell 7⟩) | (have tD := tB.turn q5 j5; have oD := box_turn oB tB.s j5; have zz : w5.cell? ⟨r0, 3, none⟩ = some (.int .i64 q.c.f) ∧ w5.cell? ⟨r0, 4, none⟩ = some (.int .i64 q.c.s) ∧ w5.cell? ⟨r0, 5, none⟩ = some (.int .i64 q.c.c) ∧ w5.cell? ⟨r0, 6, none⟩ = some (.int .i64 q.c.o) ∧ w5.cell? ⟨r0, 7, none⟩ = some (.int .i64 q.c.p) := ⟨oD.cell 3, oD.cell 4, oD.cell 5, oD.cell 6, oD.cell 7⟩) | fail))
              | (go_at_call 15; refine (rrem_any b rb N l rv q.c _ ?_).mono ?_; (with_reducible first | exact tA.r | exact tC.r); rintro e w6 ⟨rfl, v6, q6, j6⟩; rw [HER.out]; (first | (have tB := tA.just q6 j6; have oB := box_just oA tA.r j6; have yy : w6.cell? ⟨r0, 3, none⟩ = some (.int .i64 q.c.f) ∧ w6.cell? ⟨r0, 4, none⟩ = some (.int .i64 q.c.s) ∧ w6.cell? ⟨r0, 5, none⟩ = some (.int .i64 q.c.c) ∧ w6.cell? ⟨r0, 6, none⟩ = some (.int .i64 q.c.o) ∧ w6.cell? ⟨r0, 7, none⟩ = some (.int .i64 q.c.p) := ⟨oB.cell 3, oB.cell 4, oB.cell 5, oB.cell 6, oB.cell 7⟩) | (have tD := tC.just q6 j6; have oD := box_just oC tC.r j6; have zz : w6.cell? ⟨r0, 3, none⟩ = some (.int .i64 q.c.f) ∧ w6.cell? ⟨r0, 4, none⟩ = some (.int .i64 q.c.s) ∧ w6.cell? ⟨r0, 5, none⟩ = some (.int .i64 q.c.c) ∧ w6.cell? ⟨r0, 6, none⟩ = some (.int .i64 q.c.o) ∧ w6.cell? ⟨r0, 7, none⟩ = some (.int .i64 q.c.p) := ⟨oD.cell 3, oD.cell 4, oD.cell 5, oD.cell 6, oD.cell 7⟩) | fail)))
          all_goals
            clear xx yy zz c0 c3 c4 c5 c6 c7
            go_wp2_with fail
            go_meet
            exact ⟨by first | rfl | simp, _, _, _, _, tD, oD⟩
        case rest =>
          clear tx ox c0
          obtain ⟨rfl, N2, l2, v2, rv2, tx, ox⟩ := hcut
          obtain ⟨kz, hkz⟩ : ∃ kz, (if 1125899906842624 < asn then asn else asn + (k : Int)) = kz := ⟨_, rfl⟩
          have HKZ := Lib.hid hkz
          have hmod : ((k : Int)).tmod 1000 = (k : Int) := by rw [Int.tmod_eq_emod_of_nonneg (by omega)]; omega
          clear hkz
          go_upto_region 15 with (fail)
          go_cut [10] (fun s wz => s = .int .i64 (wrap64 (asn + (k : Int))) ∧ wc = wz)
          case first =>
            go_wp2_with fail
            go_meet
            exact ⟨by first | rfl | simp [hmod], rfl⟩
          case rest =>
            obtain ⟨rfl, rfl⟩ := hcut
            obtain ⟨t0, ht0⟩ : ∃ t, wrap64 (asn + (k : Int)) = t := ⟨_, rfl⟩
            have HT0 := Lib.hid ht0
            rw [ht0]
            clear ht0
            go_upto_if 68 with (fail)
            go_cut [10] (fun s wz => s = .int .i64 kz ∧ wc = wz)
            case first =>
              by_cases hbig : 1125899906842624 < asn
              · have g8 : decide (1125899906842624 < asn) = true := by simpa using hbig
                have hz := HKZ.out
                rw [if_pos hbig] at hz
                subst hz
                go_wp2_with fail
                go_meet
                exact ⟨rfl, rfl⟩
              · have g8 : decide (1125899906842624 < asn) = false := by simpa using hbig
                have hz := HKZ.out
                rw [if_neg hbig] at hz
                have hw : Hid (t0 = kz) := Lib.hid (by rw [← HT0.out, ← hz]; exact IntWalk.wrap64_in _ (by omega))
                clear hz
                go_wp2_with fail
                go_meet
                exact ⟨by rw [hw.out], rfl⟩
            case rest =>
              obtain ⟨rfl, rfl⟩ := hcut
              clear HKZ HT0 hmod
              obtain ⟨A', c', hrv, hc1', hc2', hR'⟩ := tx.r.row.row
              have hRL := Lib.hid hR'
              have hRV := Lib.hid hrv
              have o4 : wc.cell? ⟨rb, 4, none⟩ = some (.slice A' l2.length c') := by rw [← hrv]; exact tx.r.v4
              have hfew := tx.s.good.few
              unfold maxLen at hc2'
              have c3 : wc.cell? ⟨r0, 3, none⟩ = some (.int .i64 q.c.f) := ox.cell 3
              have c4 : wc.cell? ⟨r0, 4, none⟩ = some (.int .i64 q.c.s) := ox.cell 4
              have c5 : wc.cell? ⟨r0, 5, none⟩ = some (.int .i64 q.c.c) := ox.cell 5
              have c6 : wc.cell? ⟨r0, 6, none⟩ = some (.int .i64 q.c.o) := ox.cell 6
              have c7 : wc.cell? ⟨r0, 7, none⟩ = some (.int .i64 q.c.p) := ox.cell 7
              have tA : Two w wc.drew b rb N2 N2 l2 l2 v2 rv2 := tx.below (below_drewN (Below.refl _ _) 1)
              have bA : Below wc.heap.size wc wc.drew := below_drewN (Below.refl _ _) 1
              obtain ⟨m, hm⟩ : ∃ m, l2.length = m := ⟨_, rfl⟩
              obtain ⟨am, ham⟩ : ∃ m, act N2 l2 kz = m := ⟨_, rfl⟩
              obtain ⟨mb, hmb⟩ : ∃ q', mayC q.c.f q.c.s q.c.c q.c.o q.c.p = q' := ⟨_, rfl⟩
              have HMB := Lib.hid hmb
              have hal : am.length ≤ 64 := by
                rw [← ham]
                have := upto_len N2 l2 kz l2.length
                unfold upto at this
                rw [List.take_length] at this
                unfold act
                split
                · omega
                · simp
              have P1 : ∀ wz, Tab wz b b N2 l2 v2 → _ := fun wz hq => all_any b b N2 l2 v2 wz hq
              have P2 : ∀ wz, Tab wz b b N2 l2 v2 → _ := fun wz hq => act_any b b N2 l2 v2 kz wz hq
              have P3 : ∀ wz, Rtb wz b rb N2 l2 rv2 → _ := fun wz hq => ract_any b rb N2 l2 rv2 kz wz hq
              simp only [hm, ham] at P1 P2 P3
              rw [hm] at o4 hc1' hRL hfew
              have HM := Lib.hid hm
              have HAM := Lib.hid ham
              have P1 := Lib.hid P1
              have P2 := Lib.hid P2
              have P3 := Lib.hid P3
              clear hm ham hmb hR' hrv
              have bx := Lib.hid (fun (wz : World) (hz : Below wc.heap.size wc wz) => (show (wz.cell? ⟨rb, 4, none⟩ = some (.slice A' m c') ∧ wz.cell? ⟨r0, 3, none⟩ = some (.int .i64 q.c.f) ∧ wz.cell? ⟨r0, 4, none⟩ = some (.int .i64 q.c.s) ∧ wz.cell? ⟨r0, 5, none⟩ = some (.int .i64 q.c.c) ∧ wz.cell? ⟨r0, 6, none⟩ = some (.int .i64 q.c.o) ∧ wz.cell? ⟨r0, 7, none⟩ = some (.int .i64 q.c.p)) from ⟨keep_cell hz o4, keep_cell hz c3, keep_cell hz c4, keep_cell hz c5, keep_cell hz c6, keep_cell hz c7⟩))
              have xx := bx.out wc.drew bA
              go_wp2_with fail
              have hA' : c' ≤ maxLen := by unfold maxLen; omega
              clear o4 c3 c4 c5 c6 c7
              go_region_held3 (fun w' => w'.cell? ⟨rb, 4, none⟩ = some (.slice A' m c') ∧ w'.cell? ⟨r0, 3, none⟩ = some (.int .i64 q.c.f) ∧ w'.cell? ⟨r0, 4, none⟩ = some (.int .i64 q.c.s) ∧ w'.cell? ⟨r0, 5, none⟩ = some (.int .i64 q.c.c) ∧ w'.cell? ⟨r0, 6, none⟩ = some (.int .i64 q.c.o) ∧ w'.cell? ⟨r0, 7, none⟩ = some (.int .i64 q.c.p)) (with_reducible first | exact xx | exact y3 | exact y4 | exact y5 | exact y6 | exact y7 | exact y8 | exact y9 | exact y10 | exact y11) (first
                | (go_at_call 17; refine (P1.out _ tA.s).mono ?_; rintro e w3 ⟨v3, rfl, m3, b3⟩; obtain ⟨a3, d3, rfl, hc3, hd3, hR3⟩ := m3.row; have B3 := bA.trans (b3.mono bA.size); have t3 := tA.below b3; have y3 := bx.out w3 B3; have hL3 := hRL.out.below B3)
                | (go_at_call 16; (with_reducible refine (same_cells a3 A' m d3 c' l2 w3 hc3 hc1' hd3 hA' hR3 hL3).mono ?_); rintro e w4 ⟨rfl, m4, hw4⟩; have b4 : Below w3.heap.size w3 w4 := (by rw [← hw4]; exact below_drewN (Below.refl _ _) m4); clear hw4; have B4 := B3.trans (b4.mono B3.size); have t4 := t3.below b4; have y4 := bx.out w4 B4)
                | (go_at_call 18; refine (P2.out _ ?_).mono ?_; (with_reducible first | exact t4.s | exact t6.s); rintro e w5 ⟨v5, rfl, m5, b5⟩; obtain ⟨a5, d5, rfl, hc5, hd5, hR5⟩ := m5.row; (first | (have t5 := t4.below b5; have B5 := B4.trans (b5.mono B4.size); have y5 := bx.out w5 B5) | (have t7 := t6.below b5; have B7 := B6.trans (b5.mono B6.size); have y7 := bx.out w5 B7; have hR6' := hR6.below b5) | fail))
                | (go_at_call 19; refine (P3.out _ ?_).mono ?_; (with_reducible first | exact t4.r | exact t5.r); rintro e w6 ⟨v6, rfl, m6, b6⟩; obtain ⟨a6, d6, rfl, hc6, hd6, hR6⟩ := m6.row; (first | (have t6 := t4.below b6; have B6 := B4.trans (b6.mono B4.size); have y6 := bx.out w6 B6) | (have t7 := t5.below b6; have B7 := B5.trans (b6.mono B5.size); have y7 := bx.out w6 B7; have hR5' := hR5.below b6) | fail))
                | (go_at_call 16; refine (same_cells a5 a6 am.length d5 d6 am _ hc5 hc6 hd5 hd6 ?_ ?_).mono ?_; (with_reducible first | exact hR5' | exact hR5); (with_reducible first | exact hR6' | exact hR6); rintro e w8 ⟨rfl, m8, hw8⟩; have t8 := t7.below (wy := w8) (by rw [← hw8]; exact below_drewN (Below.refl _ _) m8); have B8 : Below wc.heap.size wc w8 := (by rw [← hw8]; exact below_drewN B7 m8); clear hw8; have y8 := bx.out w8 B8)
                | (go_at_call 20; refine (may_any _ _ _ _ _ _).mono ?_; rintro e w9 ⟨rfl, b9⟩; rw [HMB.out]; (first | (have t9 := t8.below b9; have B9 := B8.trans (b9.mono B8.size); have y9 := bx.out w9 B9) | (have t11 := t10.below b9; have B11 := B10.trans (b9.mono B10.size); have y11 := bx.out w9 B11) | fail))
                | (go_at_call 21; refine (ref_may _ _ _ _ _ _).mono ?_; rintro e w10 ⟨rfl, b10⟩; rw [HMB.out]; (first | (have t10 := t8.below b10; have B10 := B8.trans (b10.mono B8.size); have y10 := bx.out w10 B10) | (have t11 := t9.below b10; have B11 := B9.trans (b10.mono B9.size); have y11 := bx.out w10 B11) | fail))
                | fail)
              all_goals
                go_wp2_with fail
                exact ⟨⟨k + 1, _, _, _, _, by simp [intOf], by omega, by omega, t11⟩, by simp [intOf]; omega⟩
      · by_cases h150 : k < n
        · have g3 : decide ((150 : Int) ≤ (k : Int)) = true := by simp; omega
          have bV : Below w.heap.size w wr := by rw [HB.out]; exact t.bb
          obtain ⟨bo, off, rfl, hbo, hcs⟩ := HV.out.at_struct bV h150 (by decide)
          obtain ⟨q, hq⟩ : ∃ q, Q k = q := ⟨_, rfl⟩
          have hqc : ∀ j, j < 8 → wr.cell? ⟨bo, off + k * 8 + j, none⟩ = q.cells[j]? := fun j hj => by rw [hcs j hj, ← hq, HQ.out k h150 j hj]
          have d0 : wr.cell? ⟨bo, off + k * 8, none⟩ = some (.int .i64 q.d) := hqc 0 (by decide)
          have d1 : wr.cell? ⟨bo, off + k * 8 + 1, none⟩ = some (.int .i64 q.h) := hqc 1 (by decide)
          have d2 : wr.cell? ⟨bo, off + k * 8 + 2, none⟩ = some (.int .i64 q.n) := hqc 2 (by decide)
          have d3 : wr.cell? ⟨bo, off + k * 8 + 3, none⟩ = some (.int .i64 q.c.f) := hqc 3 (by decide)
          have d4 : wr.cell? ⟨bo, off + k * 8 + 4, none⟩ = some (.int .i64 q.c.s) := hqc 4 (by decide)
          have d5 : wr.cell? ⟨bo, off + k * 8 + 5, none⟩ = some (.int .i64 q.c.c) := hqc 5 (by decide)
          have d6 : wr.cell? ⟨bo, off + k * 8 + 6, none⟩ = some (.int .i64 q.c.o) := hqc 6 (by decide)
          have d7 : wr.cell? ⟨bo, off + k * 8 + 7, none⟩ = some (.int .i64 q.c.p) := hqc 7 (by decide)
          clear hcs hqc hq
          have tx := t.below ((Below.refl wr.heap.size wr).alloc (Nat.le_refl _) (.cells #[.int .i64 q.d, .int .i64 q.h, .int .i64 q.n, .int .i64 q.c.f, .int .i64 q.c.s, .int .i64 q.c.c, .int .i64 q.c.o, .int .i64 q.c.p] 33))
          go_wp2_with fail
          go_meet
          exact ⟨_, _, _, _, tx⟩
        · have g9 : decide ((k : Int) < (n : Int)) = false := by simp; omega
          go_wp2_with fail
          go_meet
          exact ⟨_, _, _, _, t⟩
  case rest =>
    obtain ⟨N, l, v, rv, t⟩ := hcut
    have hend : ∀ wz, Below b w wz → Calls Try.prog 23 #[] wz fun r w' => r = .returned (.bool true) ∧ Below w.heap.size w w' := fun wz tz =>
      (awake_any wz).mono (by rintro r w' ⟨rfl, b1⟩; exact ⟨rfl, by rw [HB.out]; exact tz.trans (b1.mono (by have := tz.size; have := t.bs; omega))⟩)
    go_wp2_with fail
    go_loopw [102] (fun i wr => ∃ (k : Nat), i = .int .i64 k ∧ k ≤ 4 ∧ Two w wr b rb N N l l v rv) (fun i _ => 4 - (intOf i).toNat)
    case atStart => exact ⟨0, rfl, by omega, t⟩
    case round =>
      clear t
      obtain ⟨k, rfl, hk, t⟩ := hrel
      by_cases hlt : k < 4
      · have g4 : (k : Int) < 4 := by omega
        have cN := t.r.n hlt
        have hlen : lenOf N (k : Int) = N k := by unfold lenOf frB; rw [if_pos (by simp; omega), Int.toNat_natCast]
        obtain ⟨nn, hnn⟩ : ∃ q, N k = q := ⟨_, rfl⟩
        rw [hnn] at cN hlen
        have L1 : ∀ wz, Tab wz b b N l v → _ := fun wz hq => len_any b b N l v (k : Int) wz hq
        simp only [hlen] at L1
        have HT := Lib.hid t
        have LL : Hid (∀ z : Ext wr, Calls Try.prog 22 #[.pointer (some ⟨b, 0, none⟩), .int .i64 (k : Int)] z.toW fun r w' => r = .returned (.int .i64 nn) ∧ z.toW = w') := Lib.hid (fun z => L1 _ (HT.out.s.below z.ok))
        have CN : ∀ z : Ext wr, z.toW.cell? ⟨rb, k, none⟩ = some (.int .i64 nn) := fun z => keep_cell z.ok cN
        clear L1 hlen hnn t cN
        go_upto_region 24 with (fail)
        refine wp_region_ext wr (by kernel_rfl) (by kernel_rfl) (Below.refl _ _) ?_
        repeat (go_big_quiet_step (first
          | (go_at_call 22; with_reducible exact ext_same _ (u := .int .i64 nn) (LL.out _))))
        refine wpQuiet_nil ?_
        rintro w9 ⟨z9, rfl⟩
        clear CN LL
        go_wp2_with fail
        exact ⟨⟨k + 1, by simp, by omega, HT.out.below z9.ok⟩, by simp [intOf]; omega⟩
      · obtain rfl : k = 4 := by omega
        have l1 : lenOf N (-1) = 0 := rfl
        have l4 : lenOf N 4 = 0 := rfl
        have L1 := len_any b b N l v (-1) wr t.s
        have L4 := len_any b b N l v 4 wr t.s
        rw [l1] at L1
        rw [l4] at L4
        have he := hend wr t.bb
        go_wp2_with fail
        refine L1.mono ?_
        rintro e w9 ⟨rfl, rfl⟩
        go_wp2_with fail
        refine L4.mono ?_
        rintro e w9 ⟨rfl, rfl⟩
        go_wp2_with fail
        refine he.mono ?_
        rintro e w9 ⟨rfl, b9⟩
        go_wp2_with fail
        go_ret
        exact ⟨rfl, b9⟩

theorem walk (H : Type) (enc : TypeId × Value → H) : Walk H enc Try.prog 3 Try.f3 := by
  intro W base args ds p hval hA
  rw [Try.params3] at hA hval
  obtain ⟨v0, v1, d0, d1, p0, p1, rfl, rfl, rfl, h0, h1⟩ := trodAll_two hA
  obtain ⟨a, n, c, V, Q, rfl, hn, hc, hV, hQ⟩ := open_callsC (hval 0 _ v0 rfl rfl) h0
  obtain ⟨x, rfl, rfl, rfl, hx⟩ := open_int Try.underlying2 (hval 1 _ v1 rfl rfl) h1
  exact body a n c V Q x W hn hc hV hQ (i64_bd hx)

set_option maxRecDepth 100000 in
theorem lifted (os : Os) (started : os.Started) (H : Type) (enc : TypeId × Value → H) :
    ReturnsInHanded {} Try.checked os 3 .any (Rows.cellPlaysSpec.pre6 enc Try.prog Try.f3 Rows.cellPlaysRow.domain false) (Rows.cellPlaysSpec.post enc Try.prog Try.f3 false true false false) :=
  returnsInHanded_of_change (C := Try.checked) own started (by kernel_rfl) Try.func3
    (ChangeSpec.witness6 (enc := enc) (C := Try.checked) false ⟨#[], #[.slice none 0 0, .int .i64 0], []⟩ 8 (by kernel_rfl) (by kernel_rfl) (by kernel_rfl) (by kernel_rfl))
    fun W base args ds gs before hval hW _ _ => step_of_walk laidOut (by rw [Try.params3]; exact of_decide_eq_true (by kernel_rfl)) (by kernel_rfl) Try.underlying4 rfl
      (fun ds h => by
        rw [Try.params3] at h
        match ds, h with
        | [_, _], _ => rfl) (walk H enc) W base args ds gs before hval hW

theorem holds : Rows.CellPlaysSaid :=
  OpenClaim.holds_of_wide 3 Try.f3 rfl rfl rfl rfl rfl rfl rfl ⟨rfl, rfl, rfl, rfl, rfl⟩ rfl rfl rfl rfl rfl (by kernel_rfl) Try.func3 (by kernel_rfl)
    (of_decide_eq_true (by kernel_rfl)) (by unfold Func.isWrapper; first | (rw [if_pos (by decide +kernel)]; kernel_rfl) | (rw [if_neg (by decide +kernel)]; exact ⟨rfl, rfl⟩))
    (fun os started H enc _ => lifted os started H enc)
#print axioms holds
end Go.Proofs.Ytdknacbdkekfnaa.CellPlays
