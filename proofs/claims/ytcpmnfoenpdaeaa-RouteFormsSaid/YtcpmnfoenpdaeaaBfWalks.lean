/-
  Package bits (chapter 3): a writer as a value; Put.
-/
import Derived.Test.YtcpmnfoenpdaeaaBfMath
import Derived.Test.YtcpmnfoenpdaeaaBlk
import Derived.Test.YtcpmnfoenpdaeaaOwn
import Derived.Lib.Hide
import Derived.BigQuiet
import Derived.BigRegion
import Derived.StillTailTactics
import Derived.StillTactics
set_option maxRecDepth 100000
namespace Go.Proofs.Ytcpmnfoenpdaeaa.Bf
set_option linter.unusedVariables false
open Go.RowKit Lb

/-- A writer, of which the last byte may be empty still. -/
structure Wq (w : World) (base b bits n : Nat) (Z : Nat → Nat) (B : Nat → Bool) (v : Value) : Prop where
  own : Own w b 48 #[v, .int .i64 (bits : Int)]
  row : Mine w base 5 v n (fun i => .int .u8 (Z i : Nat))
  str : Str n bits Z B
  low : base ≤ b
structure Wr (w : World) (base b bits n : Nat) (Z : Nat → Nat) (B : Nat → Bool) (v : Value) : Prop extends Wq w base b bits n Z B v where
  le : bits ≤ 8 * n
  lt : 8 * n < bits + 8
theorem Wq.drewN {w : World} {base b bits n : Nat} {Z : Nat → Nat} {B : Nat → Bool} {v : Value} (h : Wq w base b bits n Z B v) (m : Nat) : Wq (w.drewN m) base b bits n Z B v := ⟨h.own.drewN m, h.row.drewN m, h.str, h.low⟩
theorem Wr.drewN {w : World} {base b bits n : Nat} {Z : Nat → Nat} {B : Nat → Bool} {v : Value} (h : Wr w base b bits n Z B v) (m : Nat) : Wr (w.drewN m) base b bits n Z B v := ⟨h.toWq.drewN m, h.le, h.lt⟩
theorem mine_at {w : World} {base b c n : Nat} {V : Nat → Value} (h : Mine w base 5 (.slice (some ⟨b, 0, none⟩) n c) n V) : base ≤ b ∧ ∃ cs, Own w b 5 cs := by
  obtain ⟨_, h2⟩ := h
  rcases h2 with ⟨hv, _⟩ | ⟨g, cap, cur, hv, hg, hh, _⟩
  · injection hv with e
    cases e
  · injection hv with e
    injection e with e
    injection e with e
    subst e
    exact ⟨hg, cur, hh⟩
theorem mine_form {w : World} {base n : Nat} {v : Value} {V : Nat → Value} (h : Mine w base 5 v n V) (hn : 0 < n) : ∃ g c, v = .slice (some ⟨g, 0, none⟩) n c := by
  obtain ⟨_, h2⟩ := h
  rcases h2 with ⟨_, h0⟩ | ⟨g, cap, cur, hv, _⟩
  · omega
  · exact ⟨g, cap, hv⟩
theorem own_type {w : World} {b : Nat} {s t : TypeId} {cs ds : Array Value} (h : Own w b s cs) (g : Own w b t ds) : s = t := by
  unfold Own at h g
  rw [g] at h
  injection h with h
  injection h with _ h _
  exact h.symm
/-- From w to w' nothing has turned but block b, the block of v, and what is new. -/
structure Lone (w w' : World) (b : Nat) (v v' : Value) : Prop where
  keep : ∀ q, q < w.heap.size → q ≠ b → v.ownBlock ≠ some q → w'.heap[q]? = w.heap[q]?
  own : ∀ q, v'.ownBlock = some q → v.ownBlock = some q ∨ w.heap.size ≤ q
theorem Lone.refl (w : World) (b : Nat) (v : Value) : Lone w w b v v := ⟨fun _ _ _ _ => rfl, fun _ e => .inl e⟩
theorem Lone.drewN {w w1 : World} {b : Nat} {v v1 : Value} (h : Lone w w1 b v v1) (m : Nat) : Lone w (w1.drewN m) b v v1 := ⟨h.keep, h.own⟩
theorem Lone.put {w w1 : World} {b g : Nat} {v v1 : Value} (h : Lone w w1 b v v1) (hs : w.heap.size ≤ w1.heap.size) (hg : g = b ∨ v1.ownBlock = some g) (i : Nat) (u : Value) : Lone w (w1.setCell ⟨g, i, none⟩ u) b v v1 where
  keep q hq hb hv := by
    have hne : q ≠ g := fun e => by
      subst e
      rcases hg with e | e
      · exact hb e
      · rcases h.own q e with e | e
        · exact hv e
        · omega
    exact ((Just.set g w1 i u).block q (by omega) hne).trans (h.keep q hq hb hv)
  own := h.own
theorem Lone.alloc {w w1 : World} {b : Nat} {v v1 : Value} (h : Lone w w1 b v v1) (hs : w.heap.size ≤ w1.heap.size) (o : Obj) : Lone w (w1.alloc o) b v v1 where
  keep q hq hb hv := (((Below.refl w1.heap.size w1).alloc (Nat.le_refl _) o).block q (by omega)).trans (h.keep q hq hb hv)
  own := h.own
theorem Lone.grown {w w1 w2 : World} {b : Nat} {v v1 v2 : Value} (h : Lone w w1 b v v1) (hs : w.heap.size ≤ w1.heap.size) (hg : w1.grownBy w2 v1.ownBlock) (hn : v2.ownBlock = v1.ownBlock ∨ v2.ownBlock = some w1.heap.size) : Lone w w2 b v v2 where
  keep q hq hb hv := by
    refine (hg.block q (by omega) (fun e => ?_)).trans (h.keep q hq hb hv)
    rcases h.own q e.symm with e | e
    · exact hv e
    · omega
  own q e := by
    rcases hn with h1 | h1
    · exact h.own q (h1 ▸ e)
    · rw [h1] at e
      injection e with e
      exact .inr (by omega)
theorem infoB : (Try.prog.info? 5).map (fun i => (i.zero, i.size, i.bytes)) = some (some (.int .u8 0), 1, 1) := by kernel_rfl
theorem part_and (N D T : Nat) (hT : T ≤ 8) : Go.bits .and .u8 ((N : Int) / 2 ^ D % 256) ((2 ^ T - 1 : Nat) : Int) = ((part N D T : Nat) : Int) := by
  have := u8_and_nat (N / 2 ^ D % 256) (2 ^ T - 1) (Nat.mod_lt _ (by decide)) (by
    have : 2 ^ T ≤ 2 ^ 8 := Nat.pow_le_pow_right (by decide) hT
    have h9 : 2 ^ 8 = 256 := rfl
    rw [h9] at this
    have := Nat.two_pow_pos T
    omega)
  unfold part
  rw [Nat.shiftRight_eq_div_pow, ← this]
  simp
theorem ones_any (t : Nat) (ht : t ≤ 8) (w : World) :
    Calls Try.prog 52 #[.int .i64 t] w fun r w' => r = .returned (.int .u8 ((2 ^ t - 1 : Nat) : Int)) ∧ w = w' := by
  have HY : Hid ((((2 : Int) ^ t % 256 - 1) % 256) = ((2 ^ t - 1 : Nat) : Int)) := Lib.hid (by
    rcases (show t = 0 ∨ t = 1 ∨ t = 2 ∨ t = 3 ∨ t = 4 ∨ t = 5 ∨ t = 6 ∨ t = 7 ∨ t = 8 by omega) with rfl | rfl | rfl | rfl | rfl | rfl | rfl | rfl | rfl <;> decide)
  go_enter Try.func52, Try.ntmps52
  go_wp2_with fail
  go_ret
  exact ⟨by show Ending.returned (.int .u8 (((2 : Int) ^ t % 256 - 1) % 256)) = _; rw [HY.out], rfl⟩
set_option maxHeartbeats 4000000 in
theorem put_any (base b nb n : Nat) (Z : Nat → Nat) (B : Nat → Bool) (v : Value) (N width : Nat) (w : World) (h : Wr w base b nb n Z B v) (hN : N < 18446744073709551616) (hw : width ≤ 64) (hb : nb ≤ 1000000) :
    Calls Try.prog 28 #[.pointer (some ⟨b, 0, none⟩), .int .u64 (N : Nat), .int .i64 (width : Nat)] w fun r w' => r = .returned (.tuple #[]) ∧ ∃ n' Z' v', Wr w' base b (nb + width) n' Z' (app B nb N width) v' ∧ Below base w w' ∧ Lone w w' b v v' := by
  obtain ⟨i0, hi0, hz0, hz1, hz2⟩ := info_parts infoB
  have hW : width ≤ 64 := hw
  have g1 : decide ((width : Int) < 0) = false := by simp
  have g2 : decide ((64 : Int) < (width : Int)) = false := by simp; omega
  have g3 : decide (64 < width) = false := by simp; omega
  have hbase : base ≤ w.heap.size := by have := h.own.lt; have := h.low; omega
  have h0 : Wr w base b (nb + (width - width)) n Z (app B nb N width) v := ⟨⟨by rw [Nat.sub_self]; exact h.own, h.row, (by rw [Nat.sub_self]; exact h.str.ext (fun _ _ => rfl) (fun p hp => by unfold app; rw [if_pos hp])), h.low⟩, by rw [Nat.sub_self]; exact h.le, by rw [Nat.sub_self]; exact h.lt⟩
  clear h
  go_enter Try.func28, Try.ntmps28
  go_wp2_with fail
  go_loopw [2] (fun i wr => ∃ (d n' : Nat) (Z' : Nat → Nat) (v' : Value), i = .int .i64 d ∧ d ≤ width ∧ Wr wr base b (nb + (width - d)) n' Z' (app B nb N width) v' ∧ Below base w wr ∧ Lone w wr b v v') (fun i _ => (intOf i).toNat)
  case atStart => exact ⟨width, n, Z, v, rfl, Nat.le_refl _, h0, Below.refl _ _, Lone.refl _ _ _⟩
  case round =>
    clear h0
    obtain ⟨d, n1, Z1, v1, rfl, hd, h1, b1, l1⟩ := hrel
    have hsz : w.heap.size ≤ wr.heap.size := b1.size
    by_cases hd0 : 0 < d
    · have hle := h1.le
      have hlt := h1.lt
      obtain ⟨a1, c1, rfl, hc1, hm1, hR1⟩ := h1.row.row
      have k0 : wr.cell? ⟨b, 0, none⟩ = some (.slice a1 n1 c1) := h1.own.cell 0
      have k1 : wr.cell? ⟨b, 1, none⟩ = some (.int .i64 ((nb + (width - d) : Nat) : Int)) := h1.own.cell 1
      obtain ⟨q, hq⟩ : ∃ q, nb + (width - d) = q := ⟨_, rfl⟩
      rw [hq] at k1 h1 hle hlt
      have HQ := Lib.hid hq
      have hq2 : q ≤ 1000064 := by omega
      clear hq
      by_cases hr : 8 * n1 = q
      · obtain ⟨T, hT⟩ : ∃ T, min 8 d = T := ⟨_, rfl⟩
        have hT1 : 1 ≤ T ∧ T ≤ 8 ∧ T ≤ d := by omega
        obtain ⟨D, hD⟩ : ∃ D, d - T = D := ⟨_, rfl⟩
        have e4 : min (8 : Int) (d : Int) = (T : Int) := by omega
        have e5 : IntKind.i64.wrap ((d : Int) - (T : Int)) = (D : Int) := by rw [IntWalk.i64_in _ (by omega)]; omega
        have e5' : (d : Int) - (T : Int) = (D : Int) := by omega
        have e8 : bits .and .u8 ((N : Int) / 2 ^ D % 256) ((2 ^ T - 1 : Nat) : Int) = ((part N D T : Nat) : Int) := part_and N D T (by omega)
        have hO := fun w => ones_any T (by omega) w
        have e1 : IntKind.i64.wrap ((n1 : Int) * 8) = (n1 : Int) * 8 := IntWalk.i64_in _ (by omega)
        have e2 : IntKind.i64.wrap ((n1 : Int) * 8 - (q : Int)) = 0 := by rw [IntWalk.i64_in _ (by omega)]; omega
        have e2' : (n1 : Int) * 8 - (q : Int) = 0 := by omega
        go_wp2_with fail
        go_quiet (fail)
        generalize hw2 : wr.drewN nq = w2 at *
        have h2 : Wq w2 base b q n1 Z1 (app B nb N width) (.slice a1 n1 c1) := by rw [← hw2]; exact h1.toWq.drewN nq
        have b2 : Below base w w2 := by rw [← hw2]; exact below_drewN b1 nq
        have l2 : Lone w w2 b v (.slice a1 n1 c1) := by rw [← hw2]; exact l1.drewN nq
        clear l1 hsz hw2 h1 b1 k0 k1 hR1 e1 e2 e2'
        have k0 : w2.cell? ⟨b, 0, none⟩ = some (.slice a1 n1 c1) := h2.own.cell 0
        have k9 : w2.frozen? ⟨b, 0, none⟩ = false := h2.own.free 0
        have hm2 := h2.row.alloc (.cells #[.int .u8 0] 5)
        have hr2 := row_new (n := 1) (V := fun _ => .int .u8 (0 : Int)) w2 #[.int .u8 0] 5 (0, 0) (fun i hi => by obtain rfl : i = 0 := (by omega); rfl)
        have hnm : n1 + 1 ≤ maxLen := by unfold maxLen; omega
        have HNM := Lib.hid hnm
        have hob : (Value.slice a1 n1 c1).ownBlock ≠ some b := fun e => by
          obtain ⟨_, h9⟩ := h2.row
          rcases h9 with ⟨hv, _⟩ | ⟨g, cap, cur, hv, _, hh, _⟩
          · rw [hv] at e
            cases e
          · rw [hv] at e
            have e : some g = some b := e
            injection e with e
            subst e
            exact absurd (own_type h2.own hh) (by decide)
        have HOB := Lib.hid hob
        have hge : ∀ q, (Value.slice a1 n1 c1).ownBlock = some q → base ≤ q := fun q e => (h2.row.lt q e).1
        have HGE := Lib.hid hge
        clear hnm hob hge
        go_wp2_with (at_builtin; go_must (refine wp_app_at rfl (.tmp 38) (.tmp 39) _ rfl base 5 i0 _ 1 Try.underlying23 hi0 hz0 hz1 hz2 rfl _ n1 _ rfl hm2 _ 1 _ (fun _ => .int .u8 0) rfl hr2 (fun _ _ => rfl) HNM.out ?c2 ?c3 ?_))
        case c2 => omega
        case c3 => have := b2.size; simp; omega
        intro v5 w5 m5 g5 q5
        have l5 : Lone w w5 b v v5 := (l2.alloc b2.size _).grown (by have := b2.size; simp; omega) g5 (by rw [show (w2.alloc (.cells #[.int .u8 0] 5)).heap.size = w2.heap.size + 1 from by simp]; exact q5)
        clear l2 q5
        have o5 := grown_own g5 (Own.alloc h2.own _) HOB.out
        have b5 : Below base w w5 := (b2.alloc (by have := b2.size; omega) (.cells #[.int .u8 0] 5)).grown g5 (by have := b2.size; simp; omega) (fun q e => HGE.out q e)
        obtain ⟨n2, hn2⟩ : ∃ n2, n1 + 1 = n2 := ⟨_, rfl⟩
        rw [hn2] at m5
        obtain ⟨g, c2, rfl⟩ := mine_form m5 (by omega)
        have m5 := m5.ext (U := fun i => .int .u8 ((if i < n1 then Z1 i else 0 : Nat) : Int)) (fun i hi => by by_cases e : i < n1 <;> simp [e])
        have s5 : Hid (Str n2 q (fun k => if k < n1 then Z1 k else 0) (app B nb N width)) := Lib.hid (by rw [← hn2]; exact h2.str.room (by omega))
        have hlow := h2.low
        obtain ⟨Z2, hZ2⟩ : ∃ Z2 : Nat → Nat, (fun k => if k < n1 then Z1 k else 0) = Z2 := ⟨_, rfl⟩
        rw [hZ2] at s5
        have m5 : Mine w5 base 5 (.slice (some ⟨g, 0, none⟩) n2 c2) n2 (fun i => .int .u8 (Z2 i : Nat)) := by rw [← hZ2]; exact m5
        clear hZ2 h2 b2 hm2 hr2 HNM HGE HOB g5 k0 k9
        have k0 : w5.cell? ⟨b, 0, none⟩ = some (.slice a1 n1 c1) := o5.cell 0
        have k9 : w5.frozen? ⟨b, 0, none⟩ = false := o5.free 0
        go_wp2_with fail
        have hbne : (Value.slice (some ⟨g, 0, none⟩) n2 c2).ownBlock ≠ some b := fun e => by
          have e : some g = some b := e
          injection e with e
          subst e
          exact absurd (own_type o5 (mine_at m5).2.choose_spec) (by decide)
        have h6 : Wq (w5.setCell ⟨b, 0, none⟩ (.slice (some ⟨g, 0, none⟩) n2 c2)) base b q n2 Z2 (app B nb N width) (.slice (some ⟨g, 0, none⟩) n2 c2) := ⟨o5.put 0 _, m5.other (p := ⟨b, 0, none⟩) hbne _, s5.out, hlow⟩
        have b6 : Below base w (w5.setCell ⟨b, 0, none⟩ (.slice (some ⟨g, 0, none⟩) n2 c2)) := (Just.set b w5 0 _).below b5 hlow (by have := o5.lt; omega)
        have l6 : Lone w (w5.setCell ⟨b, 0, none⟩ (.slice (some ⟨g, 0, none⟩) n2 c2)) b v (.slice (some ⟨g, 0, none⟩) n2 c2) := l5.put b5.size (.inl rfl) _ _
        clear l5
        generalize w5.setCell ⟨b, 0, none⟩ (.slice (some ⟨g, 0, none⟩) n2 c2) = w6 at *
        clear k0 k9 o5 m5 b5 hbne
        go_quiet (first | (go_at_call 52; exact quiet_left (hO _)))
        generalize hw3 : w6.drewN nq = w3 at *
        have h3 : Wq w3 base b q n2 Z2 (app B nb N width) (.slice (some ⟨g, 0, none⟩) n2 c2) := by rw [← hw3]; exact h6.drewN _
        have b3 : Below base w w3 := by rw [← hw3]; exact below_drewN b6 _
        have l3 : Lone w w3 b v (.slice (some ⟨g, 0, none⟩) n2 c2) := by rw [← hw3]; exact l6.drewN _
        clear l6 hw3 h6 b6
        clear e4 e8 hO e5 e5'
        obtain ⟨hgb, gcs, hgo⟩ := mine_at h3.row
        obtain ⟨K, hK⟩ : ∃ K, n2 - 1 = K := ⟨_, rfl⟩
        obtain ⟨S, hS⟩ : ∃ S, 8 - T = S := ⟨_, rfl⟩
        have hK2 : K < n2 := by omega
        have f1 : IntKind.i64.wrap ((n2 : Int) - 1) = (K : Int) := by rw [IntWalk.i64_in _ (by omega)]; omega
        have f1' : (n2 : Int) - 1 = (K : Int) := by omega
        have f2 : IntKind.i64.wrap ((8 : Int) - (T : Int)) = (S : Int) := by rw [IntWalk.i64_in _ (by omega)]; omega
        have f2' : (8 : Int) - (T : Int) = (S : Int) := by omega
        have hpl : part N D T < 256 := part_lt _ _ _
        have HS := Lib.hid (h3.str.step (t := T) (N := N) (w := D) (by omega) (by omega) (by omega) (by omega) (fun p hp1 hp2 => by
          have hq := HQ.out
          unfold app
          rw [if_neg (by omega)]
          congr 1
          omega))
        have k0 : w3.cell? ⟨b, 0, none⟩ = some (.slice (some ⟨g, 0, none⟩) n2 c2) := h3.own.cell 0
        have k1 : w3.cell? ⟨b, 1, none⟩ = some (.int .i64 (q : Int)) := h3.own.cell 1
        have k2 : w3.cell? ⟨g, K, none⟩ = some (.int .u8 (Z2 K : Nat)) := (h3.row.at_ hK2).2.2.1
        have k3 : w3.frozen? ⟨g, K, none⟩ = false := hgo.free K
        have k4 : w3.frozen? ⟨b, 1, none⟩ = false := h3.own.free 1
        have hzl := h3.str.lt K hK2
        generalize part N D T = y at *
        obtain ⟨M, hM⟩ : ∃ M, Z2 K ||| y <<< S % 256 = M := ⟨_, rfl⟩
        have f5 : bits .or .u8 (Z2 K : Int) ((y : Int) * 2 ^ S % 256) = (M : Int) := by
          have := u8_or_nat (Z2 K) (y <<< S % 256) hzl (Nat.mod_lt _ (by decide))
          rw [← hM, ← this, Nat.shiftLeft_eq]
          simp
        have HS2 : Hid (Str n2 (q + T) (fun k => if k = K then M else Z2 k) (app B nb N width)) := Lib.hid (HS.out.ext (fun k hk => by
          by_cases e : k = K
          · rw [if_pos (by omega), if_pos e, e, ← hM, show 8 * n2 - q - T = S from by omega]
          · rw [if_neg (by omega), if_neg e]) (fun _ _ => rfl))
        clear hM HS hpl hzl
        go_wp2_with fail
        go_region
        all_goals
          have j4 := (Just.set g w3 K (.int .u8 (M : Int))).drewN 1
          have o4 := j4.own h3.own (fun e => by subst e; exact absurd (own_type h3.own hgo) (by decide))
          have m4 := (h3.row.store hK2 (.int .u8 (M : Int))).drewN 1
          have m4 := m4.ext (U := fun i => .int .u8 ((if i = K then M else Z2 i : Nat) : Int)) (fun i hi => by by_cases e : i = K <;> simp [e])
          have b4 := j4.below b3 hgb (by have := b3.size; omega)
          have l4 := (l3.put b3.size (.inr (show (Value.slice (some ⟨g, 0, none⟩) _ c2).ownBlock = some g from rfl)) K (.int .u8 (M : Int))).drewN 1
          clear l3
          generalize hw4 : (w3.setCell ⟨g, K, none⟩ (.int .u8 (M : Int))).drewN 1 = w4 at *
          rw [show (w3.setCell ⟨g, K, none⟩ (.int .u8 (M : Int))).drew = w4 from hw4]
          have p1 : w4.cell? ⟨b, 1, none⟩ = some (.int .i64 (q : Int)) := o4.cell 1
          have p2 : w4.frozen? ⟨b, 1, none⟩ = false := o4.free 1
          clear k0 k1 k2 k3 k4 j4
          go_wp2_with fail
          have hbne : (Value.slice (some ⟨g, 0, none⟩) n2 c2).ownBlock ≠ some b := fun e => by
            have e : some g = some b := e
            injection e with e
            subst e
            exact absurd (own_type o4 (mine_at m4).2.choose_spec) (by decide)
          refine ⟨⟨D, n2, fun k => if k = K then M else Z2 k, .slice (some ⟨g, 0, none⟩) n2 c2, rfl, by omega, ?_, (Just.set b w4 1 _).below b4 h3.low (by have := o4.lt; have := h3.low; omega), l4.put b4.size (.inl rfl) 1 _⟩, by simp [intOf]; omega⟩
          rw [show nb + (width - D) = q + T from by have := HQ.out; omega]
          exact ⟨⟨o4.put 1 _, m4.other (p := ⟨b, 1, none⟩) hbne _, HS2.out, h3.low⟩, by omega, by omega⟩
      · obtain ⟨R, hR⟩ : ∃ R : Nat, 8 * n1 - q = R := ⟨_, rfl⟩
        have e1 : IntKind.i64.wrap ((n1 : Int) * 8) = (n1 : Int) * 8 := IntWalk.i64_in _ (by omega)
        have e2 : IntKind.i64.wrap ((n1 : Int) * 8 - (q : Int)) = (R : Int) := by rw [IntWalk.i64_in _ (by omega)]; omega
        have e3 : ((R : Int) == 0) = false := by simp; omega
        obtain ⟨T, hT⟩ : ∃ T, min R d = T := ⟨_, rfl⟩
        have hT1 : 1 ≤ T ∧ T ≤ R ∧ T ≤ d := by omega
        obtain ⟨D, hD⟩ : ∃ D, d - T = D := ⟨_, rfl⟩
        have e4 : min (R : Int) (d : Int) = (T : Int) := by omega
        have e5 : IntKind.i64.wrap ((d : Int) - (T : Int)) = (D : Int) := by rw [IntWalk.i64_in _ (by omega)]; omega
        have e5' : (d : Int) - (T : Int) = (D : Int) := by omega
        have e8 : bits .and .u8 ((N : Int) / 2 ^ D % 256) ((2 ^ T - 1 : Nat) : Int) = ((part N D T : Nat) : Int) := part_and N D T (by omega)
        have hO := fun w => ones_any T (by omega) w
        obtain ⟨g, c2, hg⟩ := mine_form h1.row (by omega)
        injection hg with hg1 _ hg2
        subst hg1 hg2
        obtain ⟨c2, hc2⟩ : ∃ c2, c2 = c1 := ⟨_, rfl⟩
        subst hc2
        go_wp2_with fail
        go_quiet (fail)
        generalize hw2 : wr.drewN nq = w2 at *
        have h2 : Wq w2 base b q n1 Z1 (app B nb N width) (.slice (some ⟨g, 0, none⟩) n1 c2) := by rw [← hw2]; exact h1.toWq.drewN nq
        have b2 : Below base w w2 := by rw [← hw2]; exact below_drewN b1 nq
        have l2 : Lone w w2 b v (.slice (some ⟨g, 0, none⟩) n1 c2) := by rw [← hw2]; exact l1.drewN nq
        clear l1 hsz hw2 h1 b1 k0 k1 hR1 e1 e2 e3
        go_wp2_with fail
        go_quiet (first | (go_at_call 52; exact quiet_left (hO _)))
        generalize hw3 : w2.drewN nq = w3 at *
        have h3 : Wq w3 base b q n1 Z1 (app B nb N width) (.slice (some ⟨g, 0, none⟩) n1 c2) := by rw [← hw3]; exact h2.drewN _
        have b3 : Below base w w3 := by rw [← hw3]; exact below_drewN b2 _
        have l3 : Lone w w3 b v (.slice (some ⟨g, 0, none⟩) n1 c2) := by rw [← hw3]; exact l2.drewN _
        clear l2 hw3 h2 b2
        clear e4 e8 hO e5 e5'
        obtain ⟨hgb, gcs, hgo⟩ := mine_at h3.row
        obtain ⟨K, hK⟩ : ∃ K, n1 - 1 = K := ⟨_, rfl⟩
        obtain ⟨S, hS⟩ : ∃ S, R - T = S := ⟨_, rfl⟩
        have hK2 : K < n1 := by omega
        have f1 : IntKind.i64.wrap ((n1 : Int) - 1) = (K : Int) := by rw [IntWalk.i64_in _ (by omega)]; omega
        have f1' : (n1 : Int) - 1 = (K : Int) := by omega
        have f2 : IntKind.i64.wrap ((R : Int) - (T : Int)) = (S : Int) := by rw [IntWalk.i64_in _ (by omega)]; omega
        have f2' : (R : Int) - (T : Int) = (S : Int) := by omega
        have hpl : part N D T < 256 := part_lt _ _ _
        have HS := Lib.hid (h3.str.step (t := T) (N := N) (w := D) (by omega) (by omega) (by omega) (by omega) (fun p hp1 hp2 => by
          have hq := HQ.out
          unfold app
          rw [if_neg (by omega)]
          congr 1
          omega))
        have k0 : w3.cell? ⟨b, 0, none⟩ = some (.slice (some ⟨g, 0, none⟩) n1 c2) := h3.own.cell 0
        have k1 : w3.cell? ⟨b, 1, none⟩ = some (.int .i64 (q : Int)) := h3.own.cell 1
        have k2 : w3.cell? ⟨g, K, none⟩ = some (.int .u8 (Z1 K : Nat)) := (h3.row.at_ hK2).2.2.1
        have k3 : w3.frozen? ⟨g, K, none⟩ = false := hgo.free K
        have k4 : w3.frozen? ⟨b, 1, none⟩ = false := h3.own.free 1
        have hzl := h3.str.lt K hK2
        generalize part N D T = y at *
        obtain ⟨M, hM⟩ : ∃ M, Z1 K ||| y <<< S % 256 = M := ⟨_, rfl⟩
        have f5 : bits .or .u8 (Z1 K : Int) ((y : Int) * 2 ^ S % 256) = (M : Int) := by
          have := u8_or_nat (Z1 K) (y <<< S % 256) hzl (Nat.mod_lt _ (by decide))
          rw [← hM, ← this, Nat.shiftLeft_eq]
          simp
        have HS2 : Hid (Str n1 (q + T) (fun k => if k = K then M else Z1 k) (app B nb N width)) := Lib.hid (HS.out.ext (fun k hk => by
          by_cases e : k = K
          · rw [if_pos (by omega), if_pos e, e, ← hM, show 8 * n1 - q - T = S from by omega]
          · rw [if_neg (by omega), if_neg e]) (fun _ _ => rfl))
        clear hM HS hpl hzl
        go_wp2_with fail
        go_region
        all_goals
          have j4 := (Just.set g w3 K (.int .u8 (M : Int))).drewN 1
          have o4 := j4.own h3.own (fun e => by subst e; exact absurd (own_type h3.own hgo) (by decide))
          have m4 := (h3.row.store hK2 (.int .u8 (M : Int))).drewN 1
          have m4 := m4.ext (U := fun i => .int .u8 ((if i = K then M else Z1 i : Nat) : Int)) (fun i hi => by by_cases e : i = K <;> simp [e])
          have b4 := j4.below b3 hgb (by have := b3.size; omega)
          have l4 := (l3.put b3.size (.inr (show (Value.slice (some ⟨g, 0, none⟩) _ c2).ownBlock = some g from rfl)) K (.int .u8 (M : Int))).drewN 1
          clear l3
          generalize hw4 : (w3.setCell ⟨g, K, none⟩ (.int .u8 (M : Int))).drewN 1 = w4 at *
          rw [show (w3.setCell ⟨g, K, none⟩ (.int .u8 (M : Int))).drew = w4 from hw4]
          have p1 : w4.cell? ⟨b, 1, none⟩ = some (.int .i64 (q : Int)) := o4.cell 1
          have p2 : w4.frozen? ⟨b, 1, none⟩ = false := o4.free 1
          clear k0 k1 k2 k3 k4 j4
          go_wp2_with fail
          have hbne : (Value.slice (some ⟨g, 0, none⟩) n1 c2).ownBlock ≠ some b := fun e => by
            have e : some g = some b := e
            injection e with e
            subst e
            exact absurd (own_type o4 (mine_at m4).2.choose_spec) (by decide)
          refine ⟨⟨D, n1, fun k => if k = K then M else Z1 k, .slice (some ⟨g, 0, none⟩) n1 c2, rfl, by omega, ?_, (Just.set b w4 1 _).below b4 h3.low (by have := o4.lt; have := h3.low; omega), l4.put b4.size (.inl rfl) 1 _⟩, by simp [intOf]; omega⟩
          rw [show nb + (width - D) = q + T from by have := HQ.out; omega]
          exact ⟨⟨o4.put 1 _, m4.other (p := ⟨b, 1, none⟩) hbne _, HS2.out, h3.low⟩, by omega, by omega⟩
    · have e0 : d = 0 := by omega
      subst e0
      go_wp2_with fail
      go_end0
      exact ⟨rfl, n1, Z1, v1, h1, b1, l1⟩
end Go.Proofs.Ytcpmnfoenpdaeaa.Bf
