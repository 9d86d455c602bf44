/-
  Package bits (chapter 3): bits in bytes, and what a part of a number makes of the last byte. Package bits (chapter 3): a writer as a value; Put. Package bits: Bits, Bytes; a writer, a reader that there is not; bits that every program must know. Package bits: a writer that stands at whole bytes: its bytes as a list; numbers of whole bytes, texts put there. Package bits (chapter 3): a reader as a value; NewReader, Left, Take. Package bits (chapter 3): a reader that has too few bits; Even, End. Package bits (chapter 3): a reader's methods turn their own block alone. Package bits (chapter 3): a reader's Text at whole bytes: a row of its own. Package bits: a reader that stands at whole bytes: what is left as a list; bytes, numbers of six bytes, texts taken; its end. Package bits: a reader at whole bytes whose blocks lie below a bound: what is made or turned from there on leaves it alone; numbers of whole bytes taken.
-/
import Derived.Test.YtiflmdekcjbmbaaGNodeSends01
import Derived.Lib.Hide
import Derived.BigQuiet
import Derived.BigRegion
import Derived.StillTailTactics
import Derived.StillTactics
import Derived.Shelf.Bytes.SlClone
import Derived.Ground.SlbCloneProg
import Derived.Deep.Cut
import Derived.Deep.CutRange
import Derived.Test.YtiflmdekcjbmbaaGNodeSends04
import Derived.Laws.MakeOwn
import Derived.Deep.RegionLaw
set_option maxRecDepth 100000
namespace Go.Proofs.Ytiflmdekcjbmbaa.Bf
set_option linter.unusedVariables false
set_option linter.unusedSimpArgs false
open Go.RowKit Lb

/-- The first 'bits' bits of B stand in n bytes; what fills the last byte is 0. -/
structure Str (n bits : Nat) (Z : Nat → Nat) (B : Nat → Bool) : Prop where
  lt : ∀ k, k < n → Z k < 256
  bit : ∀ k, k < n → ∀ i, i < 8 → (Z k).testBit (7 - i) = (decide (8 * k + i < bits) && B (8 * k + i))
theorem Str.room {n bits : Nat} {Z : Nat → Nat} {B : Nat → Bool} (h : Str n bits Z B) (hb : bits ≤ 8 * n) : Str (n + 1) bits (fun k => if k < n then Z k else 0) B where
  lt k hk := by
    by_cases h1 : k < n
    · simpa [h1] using h.lt k h1
    · simp [h1]
  bit k hk i hi := by
    by_cases h1 : k < n
    · simpa [h1] using h.bit k h1 i hi
    · have : ¬ 8 * k + i < bits := by omega
      simp [h1, this]
theorem Str.ext {n bits : Nat} {Z Z' : Nat → Nat} {B B' : Nat → Bool} (h : Str n bits Z B) (hZ : ∀ k, k < n → Z k = Z' k) (hB : ∀ p, p < bits → B p = B' p) : Str n bits Z' B' where
  lt k hk := by rw [← hZ k hk]; exact h.lt k hk
  bit k hk i hi := by
    rw [← hZ k hk, h.bit k hk i hi]
    by_cases h1 : 8 * k + i < bits
    · rw [hB _ h1]
    · simp [h1]
def part (N w t : Nat) : Nat := (N >>> w) % 256 &&& (2 ^ t - 1)
theorem part_bit (N w t m : Nat) (ht : t ≤ 8) : (part N w t).testBit m = (decide (m < t) && N.testBit (w + m)) := by
  unfold part
  rw [Nat.testBit_and, Nat.testBit_two_pow_sub_one, show (256 : Nat) = 2 ^ 8 from rfl, Nat.testBit_mod_two_pow, Nat.testBit_shiftRight]
  by_cases h : m < t
  · have : m < 8 := by omega
    simp [h, this]
  · simp [h]
theorem part_lt (N w t : Nat) : part N w t < 256 := Nat.lt_of_le_of_lt Nat.and_le_left (Nat.mod_lt _ (by decide))
/-- The next t bits come in. -/
theorem Str.step {n bits t N w : Nat} {Z : Nat → Nat} {B : Nat → Bool} (h : Str n bits Z B) (h0 : bits < 8 * n) (h1 : 8 * n ≤ bits + 8) (ht : 1 ≤ t) (ht2 : t ≤ 8 * n - bits) (hB : ∀ p, bits ≤ p → p < bits + t → B p = N.testBit (w + (bits + t - 1 - p))) :
    Str n (bits + t) (fun k => if k = n - 1 then Z k ||| part N w t <<< (8 * n - bits - t) % 256 else Z k) B where
  lt k hk := by
    by_cases e : k = n - 1
    · rw [if_pos e]
      exact Nat.or_lt_two_pow (n := 8) (h.lt k hk) (Nat.mod_lt _ (by decide))
    · rw [if_neg e]
      exact h.lt k hk
  bit k hk i hi := by
    by_cases e : k = n - 1
    · rw [if_pos e, Nat.testBit_or, h.bit k hk i hi, show (256 : Nat) = 2 ^ 8 from rfl, Nat.testBit_mod_two_pow, Nat.testBit_shiftLeft, part_bit _ _ _ _ (by omega)]
      generalize hp : 8 * k + i = p
      have g0 : 7 - i < 8 := by omega
      by_cases p1 : p < bits
      · have : ¬ 7 - i - (8 * n - bits - t) < t := by omega
        have p2 : p < bits + t := by omega
        simp [p1, p2, this]
      · by_cases p2 : p < bits + t
        · have q1 : 7 - i ≥ 8 * n - bits - t := by omega
          have q2 : 7 - i - (8 * n - bits - t) < t := by omega
          rw [hB p (by omega) p2, show bits + t - 1 - p = 7 - i - (8 * n - bits - t) from by omega]
          simp [p1, p2, q1, q2, g0]
        · have q1 : ¬ 7 - i ≥ 8 * n - bits - t := by omega
          simp [p1, p2, q1]
    · rw [if_neg e, h.bit k hk i hi]
      have p1 : 8 * k + i < bits := by omega
      have p2 : 8 * k + i < bits + t := by omega
      simp [p1, p2]
theorem eq_byte {z y : Nat} (hz : z < 256) (hy : y < 256) (h : ∀ i, i < 8 → z.testBit (7 - i) = y.testBit (7 - i)) : z = y := by
  apply Nat.eq_of_testBit_eq
  intro j
  by_cases hj : j < 8
  · have := h (7 - j) (by omega)
    rw [show 7 - (7 - j) = j from by omega] at this
    exact this
  · rw [Nat.testBit_lt_two_pow (Nat.lt_of_lt_of_le (show z < 2 ^ 8 from hz) (Nat.pow_le_pow_right (by decide) (by omega))), Nat.testBit_lt_two_pow (Nat.lt_of_lt_of_le (show y < 2 ^ 8 from hy) (Nat.pow_le_pow_right (by decide) (by omega)))]
/-- What stands behind a number's width bits. -/
def app (B : Nat → Bool) (bits N w : Nat) (p : Nat) : Bool := if p < bits then B p else N.testBit (w - 1 - (p - bits))
end Go.Proofs.Ytiflmdekcjbmbaa.Bf
set_option maxRecDepth 100000
namespace Go.Proofs.Ytiflmdekcjbmbaa.Bf
set_option linter.unusedVariables false
set_option linter.unusedSimpArgs false
open Go.RowKit Lb

/-- A writer, of which the last byte may be empty still. -/
structure Wq (w : World) (base b bits n : Nat) (Z : Nat → Nat) (B : Nat → Bool) (v : Value) : Prop where
  own : Own w b 112 #[v, .int .i64 (bits : Int)]
  row : Mine w base 5 v n (fun i => .int .u8 (Z i : Nat))
  str : Str n bits Z B
  low : base ≤ b
structure Wr (w : World) (base b bits n : Nat) (Z : Nat → Nat) (B : Nat → Bool) (v : Value) : Prop extends Wq w base b bits n Z B v where
  le : bits ≤ 8 * n
  lt : 8 * n < bits + 8
theorem Wq.drewN {w : World} {base b bits n : Nat} {Z : Nat → Nat} {B : Nat → Bool} {v : Value} (h : Wq w base b bits n Z B v) (m : Nat) : Wq (w.drewN m) base b bits n Z B v := ⟨h.own.drewN m, h.row.drewN m, h.str, h.low⟩
theorem Wr.drewN {w : World} {base b bits n : Nat} {Z : Nat → Nat} {B : Nat → Bool} {v : Value} (h : Wr w base b bits n Z B v) (m : Nat) : Wr (w.drewN m) base b bits n Z B v := ⟨h.toWq.drewN m, h.le, h.lt⟩
theorem mine_at {w : World} {base b c n : Nat} {V : Nat → Value} (h : Mine w base 5 (.slice (some ⟨b, 0, none⟩) n c) n V) : base ≤ b ∧ ∃ cs, Own w b 5 cs := by
  obtain ⟨_, h2⟩ := h
  rcases h2 with ⟨hv, _⟩ | ⟨g, cap, cur, hv, hg, hh, _⟩
  · injection hv with e
    cases e
  · injection hv with e
    injection e with e
    injection e with e
    subst e
    exact ⟨hg, cur, hh⟩
theorem mine_form {w : World} {base n : Nat} {v : Value} {V : Nat → Value} (h : Mine w base 5 v n V) (hn : 0 < n) : ∃ g c, v = .slice (some ⟨g, 0, none⟩) n c := by
  obtain ⟨_, h2⟩ := h
  rcases h2 with ⟨_, h0⟩ | ⟨g, cap, cur, hv, _⟩
  · omega
  · exact ⟨g, cap, hv⟩
theorem own_type {w : World} {b : Nat} {s t : TypeId} {cs ds : Array Value} (h : Own w b s cs) (g : Own w b t ds) : s = t := by
  unfold Own at h g
  rw [g] at h
  injection h with h
  injection h with _ h _
  exact h.symm
/-- From w to w' nothing has turned but block b, the block of v, and what is new. -/
structure Lone (w w' : World) (b : Nat) (v v' : Value) : Prop where
  keep : ∀ q, q < w.heap.size → q ≠ b → v.ownBlock ≠ some q → w'.heap[q]? = w.heap[q]?
  own : ∀ q, v'.ownBlock = some q → v.ownBlock = some q ∨ w.heap.size ≤ q
theorem Lone.refl (w : World) (b : Nat) (v : Value) : Lone w w b v v := ⟨fun _ _ _ _ => rfl, fun _ e => .inl e⟩
theorem Lone.drewN {w w1 : World} {b : Nat} {v v1 : Value} (h : Lone w w1 b v v1) (m : Nat) : Lone w (w1.drewN m) b v v1 := ⟨h.keep, h.own⟩
theorem Lone.put {w w1 : World} {b g : Nat} {v v1 : Value} (h : Lone w w1 b v v1) (hs : w.heap.size ≤ w1.heap.size) (hg : g = b ∨ v1.ownBlock = some g) (i : Nat) (u : Value) : Lone w (w1.setCell ⟨g, i, none⟩ u) b v v1 where
  keep q hq hb hv := by
    have hne : q ≠ g := fun e => by
      subst e
      rcases hg with e | e
      · exact hb e
      · rcases h.own q e with e | e
        · exact hv e
        · omega
    exact ((Just.set g w1 i u).block q (by omega) hne).trans (h.keep q hq hb hv)
  own := h.own
theorem Lone.alloc {w w1 : World} {b : Nat} {v v1 : Value} (h : Lone w w1 b v v1) (hs : w.heap.size ≤ w1.heap.size) (o : Obj) : Lone w (w1.alloc o) b v v1 where
  keep q hq hb hv := (((Below.refl w1.heap.size w1).alloc (Nat.le_refl _) o).block q (by omega)).trans (h.keep q hq hb hv)
  own := h.own
theorem Lone.grown {w w1 w2 : World} {b : Nat} {v v1 v2 : Value} (h : Lone w w1 b v v1) (hs : w.heap.size ≤ w1.heap.size) (hg : w1.grownBy w2 v1.ownBlock) (hn : v2.ownBlock = v1.ownBlock ∨ v2.ownBlock = some w1.heap.size) : Lone w w2 b v v2 where
  keep q hq hb hv := by
    refine (hg.block q (by omega) (fun e => ?_)).trans (h.keep q hq hb hv)
    rcases h.own q e.symm with e | e
    · exact hv e
    · omega
  own q e := by
    rcases hn with h1 | h1
    · exact h.own q (h1 ▸ e)
    · rw [h1] at e
      injection e with e
      exact .inr (by omega)
theorem infoB : (Try.prog.info? 5).map (fun i => (i.zero, i.size, i.bytes)) = some (some (.int .u8 0), 1, 1) := by kernel_rfl
theorem part_and (N D T : Nat) (hT : T ≤ 8) : Go.bits .and .u8 ((N : Int) / 2 ^ D % 256) ((2 ^ T - 1 : Nat) : Int) = ((part N D T : Nat) : Int) := by
  have := u8_and_nat (N / 2 ^ D % 256) (2 ^ T - 1) (Nat.mod_lt _ (by decide)) (by
    have : 2 ^ T ≤ 2 ^ 8 := Nat.pow_le_pow_right (by decide) hT
    have h9 : 2 ^ 8 = 256 := rfl
    rw [h9] at this
    have := Nat.two_pow_pos T
    omega)
  unfold part
  rw [Nat.shiftRight_eq_div_pow, ← this]
  simp
theorem ones_any (t : Nat) (ht : t ≤ 8) (w : World) :
    Calls Try.prog 68 #[.int .i64 t] w fun r w' => r = .returned (.int .u8 ((2 ^ t - 1 : Nat) : Int)) ∧ w = w' := by
  have HY : Hid ((((2 : Int) ^ t % 256 - 1) % 256) = ((2 ^ t - 1 : Nat) : Int)) := Lib.hid (by
    rcases (show t = 0 ∨ t = 1 ∨ t = 2 ∨ t = 3 ∨ t = 4 ∨ t = 5 ∨ t = 6 ∨ t = 7 ∨ t = 8 by omega) with rfl | rfl | rfl | rfl | rfl | rfl | rfl | rfl | rfl <;> decide)
  go_enter Try.func68, Try.ntmps68
  go_wp2_with fail
  go_ret
  exact ⟨by show Ending.returned (.int .u8 (((2 : Int) ^ t % 256 - 1) % 256)) = _; rw [HY.out], rfl⟩
set_option maxHeartbeats 4000000 in
theorem put_any (base b nb n : Nat) (Z : Nat → Nat) (B : Nat → Bool) (v : Value) (N width : Nat) (w : World) (h : Wr w base b nb n Z B v) (hN : N < 18446744073709551616) (hw : width ≤ 64) (hb : nb ≤ 1000000) :
    Calls Try.prog 48 #[.pointer (some ⟨b, 0, none⟩), .int .u64 (N : Nat), .int .i64 (width : Nat)] w fun r w' => r = .returned (.tuple #[]) ∧ ∃ n' Z' v', Wr w' base b (nb + width) n' Z' (app B nb N width) v' ∧ Below base w w' ∧ Lone w w' b v v' := by
  obtain ⟨i0, hi0, hz0, hz1, hz2⟩ := info_parts infoB
  have hW : width ≤ 64 := hw
  have g1 : decide ((width : Int) < 0) = false := by simp
  have g2 : decide ((64 : Int) < (width : Int)) = false := by simp; omega
  have g3 : decide (64 < width) = false := by simp; omega
  have hbase : base ≤ w.heap.size := by have := h.own.lt; have := h.low; omega
  have h0 : Wr w base b (nb + (width - width)) n Z (app B nb N width) v := ⟨⟨by rw [Nat.sub_self]; exact h.own, h.row, (by rw [Nat.sub_self]; exact h.str.ext (fun _ _ => rfl) (fun p hp => by unfold app; rw [if_pos hp])), h.low⟩, by rw [Nat.sub_self]; exact h.le, by rw [Nat.sub_self]; exact h.lt⟩
  clear h
  go_enter Try.func48, Try.ntmps48
  go_wp2_with fail
  go_loopw [2] (fun i wr => ∃ (d n' : Nat) (Z' : Nat → Nat) (v' : Value), i = .int .i64 d ∧ d ≤ width ∧ Wr wr base b (nb + (width - d)) n' Z' (app B nb N width) v' ∧ Below base w wr ∧ Lone w wr b v v') (fun i _ => (intOf i).toNat)
  case atStart => exact ⟨width, n, Z, v, rfl, Nat.le_refl _, h0, Below.refl _ _, Lone.refl _ _ _⟩
  case round =>
    clear h0
    obtain ⟨d, n1, Z1, v1, rfl, hd, h1, b1, l1⟩ := hrel
    have hsz : w.heap.size ≤ wr.heap.size := b1.size
    by_cases hd0 : 0 < d
    · have hle := h1.le
      have hlt := h1.lt
      obtain ⟨a1, c1, rfl, hc1, hm1, hR1⟩ := h1.row.row
      have k0 : wr.cell? ⟨b, 0, none⟩ = some (.slice a1 n1 c1) := h1.own.cell 0
      have k1 : wr.cell? ⟨b, 1, none⟩ = some (.int .i64 ((nb + (width - d) : Nat) : Int)) := h1.own.cell 1
      obtain ⟨q, hq⟩ : ∃ q, nb + (width - d) = q := ⟨_, rfl⟩
      rw [hq] at k1 h1 hle hlt
      have HQ := Lib.hid hq
      have hq2 : q ≤ 1000064 := by omega
      clear hq
      by_cases hr : 8 * n1 = q
      · obtain ⟨T, hT⟩ : ∃ T, min 8 d = T := ⟨_, rfl⟩
        have hT1 : 1 ≤ T ∧ T ≤ 8 ∧ T ≤ d := by omega
        obtain ⟨D, hD⟩ : ∃ D, d - T = D := ⟨_, rfl⟩
        have e4 : min (8 : Int) (d : Int) = (T : Int) := by omega
        have e5 : IntKind.i64.wrap ((d : Int) - (T : Int)) = (D : Int) := by rw [IntWalk.i64_in _ (by omega)]; omega
        have e5' : (d : Int) - (T : Int) = (D : Int) := by omega
        have e8 : bits .and .u8 ((N : Int) / 2 ^ D % 256) ((2 ^ T - 1 : Nat) : Int) = ((part N D T : Nat) : Int) := part_and N D T (by omega)
        have hO := fun w => ones_any T (by omega) w
        have e1 : IntKind.i64.wrap ((n1 : Int) * 8) = (n1 : Int) * 8 := IntWalk.i64_in _ (by omega)
        have e2 : IntKind.i64.wrap ((n1 : Int) * 8 - (q : Int)) = 0 := by rw [IntWalk.i64_in _ (by omega)]; omega
        have e2' : (n1 : Int) * 8 - (q : Int) = 0 := by omega
        go_wp2_with fail
        go_quiet (fail)
        generalize hw2 : wr.drewN nq = w2 at *
        have h2 : Wq w2 base b q n1 Z1 (app B nb N width) (.slice a1 n1 c1) := by rw [← hw2]; exact h1.toWq.drewN nq
        have b2 : Below base w w2 := by rw [← hw2]; exact below_drewN b1 nq
        have l2 : Lone w w2 b v (.slice a1 n1 c1) := by rw [← hw2]; exact l1.drewN nq
        clear l1 hsz hw2 h1 b1 k0 k1 hR1 e1 e2 e2'
        have k0 : w2.cell? ⟨b, 0, none⟩ = some (.slice a1 n1 c1) := h2.own.cell 0
        have k9 : w2.frozen? ⟨b, 0, none⟩ = false := h2.own.free 0
        have hm2 := h2.row.alloc (.cells #[.int .u8 0] 5)
        have hr2 := row_new (n := 1) (V := fun _ => .int .u8 (0 : Int)) w2 #[.int .u8 0] 5 (0, 0) (fun i hi => by obtain rfl : i = 0 := (by omega); rfl)
        have hnm : n1 + 1 ≤ maxLen := by unfold maxLen; omega
        have HNM := Lib.hid hnm
        have hob : (Value.slice a1 n1 c1).ownBlock ≠ some b := fun e => by
          obtain ⟨_, h9⟩ := h2.row
          rcases h9 with ⟨hv, _⟩ | ⟨g, cap, cur, hv, _, hh, _⟩
          · rw [hv] at e
            cases e
          · rw [hv] at e
            have e : some g = some b := e
            injection e with e
            subst e
            exact absurd (own_type h2.own hh) (by decide)
        have HOB := Lib.hid hob
        have hge : ∀ q, (Value.slice a1 n1 c1).ownBlock = some q → base ≤ q := fun q e => (h2.row.lt q e).1
        have HGE := Lib.hid hge
        clear hnm hob hge
        go_wp2_with (at_builtin; go_must (refine wp_app_at rfl (.tmp 38) (.tmp 39) _ rfl base 5 i0 _ 1 Try.underlying33 hi0 hz0 hz1 hz2 rfl _ n1 _ rfl hm2 _ 1 _ (fun _ => .int .u8 0) rfl hr2 (fun _ _ => rfl) HNM.out ?c2 ?c3 ?_))
        case c2 => omega
        case c3 => have := b2.size; simp; omega
        intro v5 w5 m5 g5 q5
        have l5 : Lone w w5 b v v5 := (l2.alloc b2.size _).grown (by have := b2.size; simp; omega) g5 (by rw [show (w2.alloc (.cells #[.int .u8 0] 5)).heap.size = w2.heap.size + 1 from by simp]; exact q5)
        clear l2 q5
        have o5 := grown_own g5 (Own.alloc h2.own _) HOB.out
        have b5 : Below base w w5 := (b2.alloc (by have := b2.size; omega) (.cells #[.int .u8 0] 5)).grown g5 (by have := b2.size; simp; omega) (fun q e => HGE.out q e)
        obtain ⟨n2, hn2⟩ : ∃ n2, n1 + 1 = n2 := ⟨_, rfl⟩
        rw [hn2] at m5
        obtain ⟨g, c2, rfl⟩ := mine_form m5 (by omega)
        have m5 := m5.ext (U := fun i => .int .u8 ((if i < n1 then Z1 i else 0 : Nat) : Int)) (fun i hi => by by_cases e : i < n1 <;> simp [e])
        have s5 : Hid (Str n2 q (fun k => if k < n1 then Z1 k else 0) (app B nb N width)) := Lib.hid (by rw [← hn2]; exact h2.str.room (by omega))
        have hlow := h2.low
        obtain ⟨Z2, hZ2⟩ : ∃ Z2 : Nat → Nat, (fun k => if k < n1 then Z1 k else 0) = Z2 := ⟨_, rfl⟩
        rw [hZ2] at s5
        have m5 : Mine w5 base 5 (.slice (some ⟨g, 0, none⟩) n2 c2) n2 (fun i => .int .u8 (Z2 i : Nat)) := by rw [← hZ2]; exact m5
        clear hZ2 h2 b2 hm2 hr2 HNM HGE HOB g5 k0 k9
        have k0 : w5.cell? ⟨b, 0, none⟩ = some (.slice a1 n1 c1) := o5.cell 0
        have k9 : w5.frozen? ⟨b, 0, none⟩ = false := o5.free 0
        go_wp2_with fail
        have hbne : (Value.slice (some ⟨g, 0, none⟩) n2 c2).ownBlock ≠ some b := fun e => by
          have e : some g = some b := e
          injection e with e
          subst e
          exact absurd (own_type o5 (mine_at m5).2.choose_spec) (by decide)
        have h6 : Wq (w5.setCell ⟨b, 0, none⟩ (.slice (some ⟨g, 0, none⟩) n2 c2)) base b q n2 Z2 (app B nb N width) (.slice (some ⟨g, 0, none⟩) n2 c2) := ⟨o5.put 0 _, m5.other (p := ⟨b, 0, none⟩) hbne _, s5.out, hlow⟩
        have b6 : Below base w (w5.setCell ⟨b, 0, none⟩ (.slice (some ⟨g, 0, none⟩) n2 c2)) := (Just.set b w5 0 _).below b5 hlow (by have := o5.lt; omega)
        have l6 : Lone w (w5.setCell ⟨b, 0, none⟩ (.slice (some ⟨g, 0, none⟩) n2 c2)) b v (.slice (some ⟨g, 0, none⟩) n2 c2) := l5.put b5.size (.inl rfl) _ _
        clear l5
        generalize w5.setCell ⟨b, 0, none⟩ (.slice (some ⟨g, 0, none⟩) n2 c2) = w6 at *
        clear k0 k9 o5 m5 b5 hbne
        go_quiet (first | (go_at_call 68; exact quiet_left (hO _)))
        generalize hw3 : w6.drewN nq = w3 at *
        have h3 : Wq w3 base b q n2 Z2 (app B nb N width) (.slice (some ⟨g, 0, none⟩) n2 c2) := by rw [← hw3]; exact h6.drewN _
        have b3 : Below base w w3 := by rw [← hw3]; exact below_drewN b6 _
        have l3 : Lone w w3 b v (.slice (some ⟨g, 0, none⟩) n2 c2) := by rw [← hw3]; exact l6.drewN _
        clear l6 hw3 h6 b6
        clear e4 e8 hO e5 e5'
        obtain ⟨hgb, gcs, hgo⟩ := mine_at h3.row
        obtain ⟨K, hK⟩ : ∃ K, n2 - 1 = K := ⟨_, rfl⟩
        obtain ⟨S, hS⟩ : ∃ S, 8 - T = S := ⟨_, rfl⟩
        have hK2 : K < n2 := by omega
        have f1 : IntKind.i64.wrap ((n2 : Int) - 1) = (K : Int) := by rw [IntWalk.i64_in _ (by omega)]; omega
        have f1' : (n2 : Int) - 1 = (K : Int) := by omega
        have f2 : IntKind.i64.wrap ((8 : Int) - (T : Int)) = (S : Int) := by rw [IntWalk.i64_in _ (by omega)]; omega
        have f2' : (8 : Int) - (T : Int) = (S : Int) := by omega
        have hpl : part N D T < 256 := part_lt _ _ _
        have HS := Lib.hid (h3.str.step (t := T) (N := N) (w := D) (by omega) (by omega) (by omega) (by omega) (fun p hp1 hp2 => by
          have hq := HQ.out
          unfold app
          rw [if_neg (by omega)]
          congr 1
          omega))
        have k0 : w3.cell? ⟨b, 0, none⟩ = some (.slice (some ⟨g, 0, none⟩) n2 c2) := h3.own.cell 0
        have k1 : w3.cell? ⟨b, 1, none⟩ = some (.int .i64 (q : Int)) := h3.own.cell 1
        have k2 : w3.cell? ⟨g, K, none⟩ = some (.int .u8 (Z2 K : Nat)) := (h3.row.at_ hK2).2.2.1
        have k3 : w3.frozen? ⟨g, K, none⟩ = false := hgo.free K
        have k4 : w3.frozen? ⟨b, 1, none⟩ = false := h3.own.free 1
        have hzl := h3.str.lt K hK2
        generalize part N D T = y at *
        obtain ⟨M, hM⟩ : ∃ M, Z2 K ||| y <<< S % 256 = M := ⟨_, rfl⟩
        have f5 : bits .or .u8 (Z2 K : Int) ((y : Int) * 2 ^ S % 256) = (M : Int) := by
          have := u8_or_nat (Z2 K) (y <<< S % 256) hzl (Nat.mod_lt _ (by decide))
          rw [← hM, ← this, Nat.shiftLeft_eq]
          simp
        have HS2 : Hid (Str n2 (q + T) (fun k => if k = K then M else Z2 k) (app B nb N width)) := Lib.hid (HS.out.ext (fun k hk => by
          by_cases e : k = K
          · rw [if_pos (by omega), if_pos e, e, ← hM, show 8 * n2 - q - T = S from by omega]
          · rw [if_neg (by omega), if_neg e]) (fun _ _ => rfl))
        clear hM HS hpl hzl
        go_wp2_with fail
        go_region
        all_goals
          have j4 := (Just.set g w3 K (.int .u8 (M : Int))).drewN 1
          have o4 := j4.own h3.own (fun e => by subst e; exact absurd (own_type h3.own hgo) (by decide))
          have m4 := (h3.row.store hK2 (.int .u8 (M : Int))).drewN 1
          have m4 := m4.ext (U := fun i => .int .u8 ((if i = K then M else Z2 i : Nat) : Int)) (fun i hi => by by_cases e : i = K <;> simp [e])
          have b4 := j4.below b3 hgb (by have := b3.size; omega)
          have l4 := (l3.put b3.size (.inr (show (Value.slice (some ⟨g, 0, none⟩) _ c2).ownBlock = some g from rfl)) K (.int .u8 (M : Int))).drewN 1
          clear l3
          generalize hw4 : (w3.setCell ⟨g, K, none⟩ (.int .u8 (M : Int))).drewN 1 = w4 at *
          rw [show (w3.setCell ⟨g, K, none⟩ (.int .u8 (M : Int))).drew = w4 from hw4]
          have p1 : w4.cell? ⟨b, 1, none⟩ = some (.int .i64 (q : Int)) := o4.cell 1
          have p2 : w4.frozen? ⟨b, 1, none⟩ = false := o4.free 1
          clear k0 k1 k2 k3 k4 j4
          go_wp2_with fail
          have hbne : (Value.slice (some ⟨g, 0, none⟩) n2 c2).ownBlock ≠ some b := fun e => by
            have e : some g = some b := e
            injection e with e
            subst e
            exact absurd (own_type o4 (mine_at m4).2.choose_spec) (by decide)
          refine ⟨⟨D, n2, fun k => if k = K then M else Z2 k, .slice (some ⟨g, 0, none⟩) n2 c2, rfl, by omega, ?_, (Just.set b w4 1 _).below b4 h3.low (by have := o4.lt; have := h3.low; omega), l4.put b4.size (.inl rfl) 1 _⟩, by simp [intOf]; omega⟩
          rw [show nb + (width - D) = q + T from by have := HQ.out; omega]
          exact ⟨⟨o4.put 1 _, m4.other (p := ⟨b, 1, none⟩) hbne _, HS2.out, h3.low⟩, by omega, by omega⟩
      · obtain ⟨R, hR⟩ : ∃ R : Nat, 8 * n1 - q = R := ⟨_, rfl⟩
        have e1 : IntKind.i64.wrap ((n1 : Int) * 8) = (n1 : Int) * 8 := IntWalk.i64_in _ (by omega)
        have e2 : IntKind.i64.wrap ((n1 : Int) * 8 - (q : Int)) = (R : Int) := by rw [IntWalk.i64_in _ (by omega)]; omega
        have e3 : ((R : Int) == 0) = false := by simp; omega
        obtain ⟨T, hT⟩ : ∃ T, min R d = T := ⟨_, rfl⟩
        have hT1 : 1 ≤ T ∧ T ≤ R ∧ T ≤ d := by omega
        obtain ⟨D, hD⟩ : ∃ D, d - T = D := ⟨_, rfl⟩
        have e4 : min (R : Int) (d : Int) = (T : Int) := by omega
        have e5 : IntKind.i64.wrap ((d : Int) - (T : Int)) = (D : Int) := by rw [IntWalk.i64_in _ (by omega)]; omega
        have e5' : (d : Int) - (T : Int) = (D : Int) := by omega
        have e8 : bits .and .u8 ((N : Int) / 2 ^ D % 256) ((2 ^ T - 1 : Nat) : Int) = ((part N D T : Nat) : Int) := part_and N D T (by omega)
        have hO := fun w => ones_any T (by omega) w
        obtain ⟨g, c2, hg⟩ := mine_form h1.row (by omega)
        injection hg with hg1 _ hg2
        subst hg1 hg2
        obtain ⟨c2, hc2⟩ : ∃ c2, c2 = c1 := ⟨_, rfl⟩
        subst hc2
        go_wp2_with fail
        go_quiet (fail)
        generalize hw2 : wr.drewN nq = w2 at *
        have h2 : Wq w2 base b q n1 Z1 (app B nb N width) (.slice (some ⟨g, 0, none⟩) n1 c2) := by rw [← hw2]; exact h1.toWq.drewN nq
        have b2 : Below base w w2 := by rw [← hw2]; exact below_drewN b1 nq
        have l2 : Lone w w2 b v (.slice (some ⟨g, 0, none⟩) n1 c2) := by rw [← hw2]; exact l1.drewN nq
        clear l1 hsz hw2 h1 b1 k0 k1 hR1 e1 e2 e3
        go_wp2_with fail
        go_quiet (first | (go_at_call 68; exact quiet_left (hO _)))
        generalize hw3 : w2.drewN nq = w3 at *
        have h3 : Wq w3 base b q n1 Z1 (app B nb N width) (.slice (some ⟨g, 0, none⟩) n1 c2) := by rw [← hw3]; exact h2.drewN _
        have b3 : Below base w w3 := by rw [← hw3]; exact below_drewN b2 _
        have l3 : Lone w w3 b v (.slice (some ⟨g, 0, none⟩) n1 c2) := by rw [← hw3]; exact l2.drewN _
        clear l2 hw3 h2 b2
        clear e4 e8 hO e5 e5'
        obtain ⟨hgb, gcs, hgo⟩ := mine_at h3.row
        obtain ⟨K, hK⟩ : ∃ K, n1 - 1 = K := ⟨_, rfl⟩
        obtain ⟨S, hS⟩ : ∃ S, R - T = S := ⟨_, rfl⟩
        have hK2 : K < n1 := by omega
        have f1 : IntKind.i64.wrap ((n1 : Int) - 1) = (K : Int) := by rw [IntWalk.i64_in _ (by omega)]; omega
        have f1' : (n1 : Int) - 1 = (K : Int) := by omega
        have f2 : IntKind.i64.wrap ((R : Int) - (T : Int)) = (S : Int) := by rw [IntWalk.i64_in _ (by omega)]; omega
        have f2' : (R : Int) - (T : Int) = (S : Int) := by omega
        have hpl : part N D T < 256 := part_lt _ _ _
        have HS := Lib.hid (h3.str.step (t := T) (N := N) (w := D) (by omega) (by omega) (by omega) (by omega) (fun p hp1 hp2 => by
          have hq := HQ.out
          unfold app
          rw [if_neg (by omega)]
          congr 1
          omega))
        have k0 : w3.cell? ⟨b, 0, none⟩ = some (.slice (some ⟨g, 0, none⟩) n1 c2) := h3.own.cell 0
        have k1 : w3.cell? ⟨b, 1, none⟩ = some (.int .i64 (q : Int)) := h3.own.cell 1
        have k2 : w3.cell? ⟨g, K, none⟩ = some (.int .u8 (Z1 K : Nat)) := (h3.row.at_ hK2).2.2.1
        have k3 : w3.frozen? ⟨g, K, none⟩ = false := hgo.free K
        have k4 : w3.frozen? ⟨b, 1, none⟩ = false := h3.own.free 1
        have hzl := h3.str.lt K hK2
        generalize part N D T = y at *
        obtain ⟨M, hM⟩ : ∃ M, Z1 K ||| y <<< S % 256 = M := ⟨_, rfl⟩
        have f5 : bits .or .u8 (Z1 K : Int) ((y : Int) * 2 ^ S % 256) = (M : Int) := by
          have := u8_or_nat (Z1 K) (y <<< S % 256) hzl (Nat.mod_lt _ (by decide))
          rw [← hM, ← this, Nat.shiftLeft_eq]
          simp
        have HS2 : Hid (Str n1 (q + T) (fun k => if k = K then M else Z1 k) (app B nb N width)) := Lib.hid (HS.out.ext (fun k hk => by
          by_cases e : k = K
          · rw [if_pos (by omega), if_pos e, e, ← hM, show 8 * n1 - q - T = S from by omega]
          · rw [if_neg (by omega), if_neg e]) (fun _ _ => rfl))
        clear hM HS hpl hzl
        go_wp2_with fail
        go_region
        all_goals
          have j4 := (Just.set g w3 K (.int .u8 (M : Int))).drewN 1
          have o4 := j4.own h3.own (fun e => by subst e; exact absurd (own_type h3.own hgo) (by decide))
          have m4 := (h3.row.store hK2 (.int .u8 (M : Int))).drewN 1
          have m4 := m4.ext (U := fun i => .int .u8 ((if i = K then M else Z1 i : Nat) : Int)) (fun i hi => by by_cases e : i = K <;> simp [e])
          have b4 := j4.below b3 hgb (by have := b3.size; omega)
          have l4 := (l3.put b3.size (.inr (show (Value.slice (some ⟨g, 0, none⟩) _ c2).ownBlock = some g from rfl)) K (.int .u8 (M : Int))).drewN 1
          clear l3
          generalize hw4 : (w3.setCell ⟨g, K, none⟩ (.int .u8 (M : Int))).drewN 1 = w4 at *
          rw [show (w3.setCell ⟨g, K, none⟩ (.int .u8 (M : Int))).drew = w4 from hw4]
          have p1 : w4.cell? ⟨b, 1, none⟩ = some (.int .i64 (q : Int)) := o4.cell 1
          have p2 : w4.frozen? ⟨b, 1, none⟩ = false := o4.free 1
          clear k0 k1 k2 k3 k4 j4
          go_wp2_with fail
          have hbne : (Value.slice (some ⟨g, 0, none⟩) n1 c2).ownBlock ≠ some b := fun e => by
            have e : some g = some b := e
            injection e with e
            subst e
            exact absurd (own_type o4 (mine_at m4).2.choose_spec) (by decide)
          refine ⟨⟨D, n1, fun k => if k = K then M else Z1 k, .slice (some ⟨g, 0, none⟩) n1 c2, rfl, by omega, ?_, (Just.set b w4 1 _).below b4 h3.low (by have := o4.lt; have := h3.low; omega), l4.put b4.size (.inl rfl) 1 _⟩, by simp [intOf]; omega⟩
          rw [show nb + (width - D) = q + T from by have := HQ.out; omega]
          exact ⟨⟨o4.put 1 _, m4.other (p := ⟨b, 1, none⟩) hbne _, HS2.out, h3.low⟩, by omega, by omega⟩
    · have e0 : d = 0 := by omega
      subst e0
      go_wp2_with fail
      go_end0
      exact ⟨rfl, n1, Z1, v1, h1, b1, l1⟩
end Go.Proofs.Ytiflmdekcjbmbaa.Bf
set_option maxRecDepth 100000
namespace Go.Proofs.Ytiflmdekcjbmbaa.Bf
set_option linter.unusedVariables false
set_option linter.unusedSimpArgs false
open Go.RowKit Lb Go.Shelf

theorem Wr.below {w w' : World} {base b bits n : Nat} {Z : Nat → Nat} {B : Nat → Bool} {v : Value} (h : Wr w base b bits n Z B v) (j : Below w.heap.size w w') : Wr w' base b bits n Z B v :=
  ⟨⟨below_own j h.own h.own.lt, h.row.kept (fun q hq => by
    by_cases hl : q < w.heap.size
    · exact .inl (j.block q hl)
    · exact .inr fun e => hl (h.row.lt q e).2), h.str, h.low⟩, h.le, h.lt⟩
def cloneL_ren : Go.Shelf.Ren := ⟨fun | 4 => 60 | n => n, fun | 22 => 33 | 4 => 4 | 5 => 5 | n => n, fun | n => n⟩
theorem cloneL : Go.Proofs.SlLaysK.n4 Try.prog cloneL_ren := {
  mixed := by kernel_rfl
  f4 := Try.func60.trans (congrArg some (by kernel_rfl))
  t4 := Try.underlying4
  a4 := Try.isAgg4
  z4 := Try.sizeOf4
  v4 := Try.zeroValue4
  t22 := Try.underlying33
  a22 := Try.isAgg33
  z22 := Try.sizeOf33
  v22 := Try.zeroValue33
  t5 := Try.underlying5
  i5 := by kernel_rfl }
/-- A copy: the same bytes, in a new block or none. -/
theorem clone_mine (a : Option Addr) (n c : Nat) (Z : Nat → Int) (w : World) (hc : n ≤ 140737488355328) (hR : Row w a n (fun i => .int .u8 (Z i))) (ha : a = none → n = 0) :
    Calls Try.prog 60 #[.slice a n c] w fun r w' => ∃ v, r = .returned v ∧ Mine w' w.heap.size 5 v n (fun i => .int .u8 (Z i)) ∧ Below w.heap.size w w' := by
  have hmap : ((List.range n).map Z).map (Value.int .u8) = (List.range n).map (fun i => .int .u8 (Z i)) := by rw [List.map_map]; rfl
  cases a with
  | none =>
    have hcon := Any.bytes_Clone_nil cloneL n c w
    refine Calls.mono hcon ?_
    rintro r w' ⟨rfl, rfl⟩
    obtain rfl := ha rfl
    exact ⟨.slice none 0 0, rfl, Mine.nil _ _ _ _, Below.refl _ _⟩
  | some p =>
    have hcon := Any.bytes_Clone_at cloneL p n c ((List.range n).map Z) w (by simp) hc (fun i hi => by
      obtain ⟨b, off, hp, _, h3⟩ := hR.at_ hi
      injection hp with hp
      subst hp
      rw [Addr.add_lit, h3]
      simp [hi])
    refine Calls.mono hcon ?_
    rintro r w' ⟨v, rfl, hown, hne, hb⟩
    rw [hmap] at hown
    exact ⟨v, rfl, hown, hb⟩
theorem clone_any (a : Option Addr) (n c : Nat) (Z : Nat → Int) (w : World) (hc : n ≤ 140737488355328) (hR : Row w a n (fun i => .int .u8 (Z i))) (ha : a = none → n = 0) :
    Calls Try.prog 60 #[.slice a n c] w fun r w' => ∃ a' c', r = .returned (.slice a' n c') ∧ n ≤ c' ∧ c' ≤ maxLen ∧ Row w' a' n (fun i => .int .u8 (Z i)) ∧ Below w.heap.size w w' := by
  refine (clone_mine a n c Z w hc hR ha).mono ?_
  rintro r w' ⟨v, rfl, hm, hb⟩
  obtain ⟨a', c', rfl, h1, h2, h3⟩ := Mine.row hm
  exact ⟨a', c', rfl, h1, h2, h3, hb⟩
theorem bytes_any (base b bits n : Nat) (Z : Nat → Nat) (B : Nat → Bool) (v : Value) (w : World) (h : Wr w base b bits n Z B v) (hb : bits ≤ 1000000) :
    Calls Try.prog 51 #[.pointer (some ⟨b, 0, none⟩)] w fun r w' => ∃ a c, r = .returned (.slice a n c) ∧ n ≤ c ∧ c ≤ maxLen ∧ Row w' a n (fun i => .int .u8 (Z i : Nat)) ∧ Below w.heap.size w w' := by
  have hlt := h.lt
  have hrow := h.row
  obtain ⟨a, c, rfl, h1, h2, hR⟩ := h.row.row
  have hn : a = none → n = 0 := fun e => by
    obtain ⟨_, h9⟩ := hrow
    rcases h9 with ⟨_, h0⟩ | ⟨g, cap, cur, hv, _⟩
    · exact h0
    · subst e
      cases hv
  have k0 : w.cell? ⟨b, 0, none⟩ = some (.slice a n c) := h.own.cell 0
  clear hrow h
  go_enter Try.func51, Try.ntmps51
  go_wp2_with fail
  refine (clone_any a n c (fun i => (Z i : Int)) _ (by omega) hR hn).mono ?_
  rintro r w4 ⟨a', c', rfl, h3, h4, hR4, b4⟩
  go_wp2_with fail
  go_ret
  exact ⟨a', c', rfl, h3, h4, hR4, b4⟩
theorem bytes_nil (w : World) : Calls Try.prog 51 #[.pointer none] w fun r w' => r = .returned (.slice none 0 0) ∧ w = w' := by
  go_enter Try.func51, Try.ntmps51
  go_wp2_with fail
  go_ret
  exact ⟨rfl, rfl⟩
theorem put_nil (x y : Int) (w : World) : Calls Try.prog 48 #[.pointer none, .int .u64 x, .int .i64 y] w fun r w' => r = .returned (.tuple #[]) ∧ w = w' := by
  go_enter Try.func48, Try.ntmps48
  go_wp2_with fail
  refine bodyPost_ret (results_none rfl _ _ _) rfl ?_
  exact ⟨rfl, rfl⟩
theorem text_nil (v : Value) (w : World) : Calls Try.prog 49 #[.pointer none, v] w fun r w' => r = .returned (.tuple #[]) ∧ w = w' := by
  go_enter Try.func49, Try.ntmps49
  go_wp2_with fail
  refine bodyPost_ret (results_none rfl _ _ _) rfl ?_
  exact ⟨rfl, rfl⟩
end Go.Proofs.Ytiflmdekcjbmbaa.Bf
set_option maxRecDepth 100000
namespace Go.Proofs.Ytiflmdekcjbmbaa.Bf
set_option linter.unusedVariables false
set_option linter.unusedSimpArgs false
open Go.RowKit Lb Go.Shelf

/-- N's lowest k bytes, the highest first. -/
def bytesK (N k : Nat) : List Int := (List.range k).map fun t => (((N >>> (8 * (k - 1 - t))) % 256 : Nat) : Int)
theorem bytesK_len (N k : Nat) : (bytesK N k).length = k := by simp [bytesK]
theorem bytesK_at (N k t : Nat) (h : t < k) : (bytesK N k).getD t 0 = (((N >>> (8 * (k - 1 - t))) % 256 : Nat) : Int) := by
  simp [bytesK, List.getD, h]
theorem bytesK_one (N : Nat) (h : N < 256) : bytesK N 1 = [(N : Int)] := by
  simp [bytesK, Nat.mod_eq_of_lt h]
/-- A writer at whole bytes: its bytes. -/
def Wb (w : World) (base b : Nat) (l : List Int) (v : Value) : Prop := ∃ Z B, Wr w base b (8 * l.length) l.length Z B v ∧ ∀ k, k < l.length → (Z k : Int) = l.getD k 0
theorem Wb.below {w w' : World} {base b : Nat} {l : List Int} {v : Value} (h : Wb w base b l v) (j : Below w.heap.size w w') : Wb w' base b l v := by
  obtain ⟨Z, B, h1, h2⟩ := h
  exact ⟨Z, B, h1.below j, h2⟩
theorem getD_app {l m : List Int} {k : Nat} : (l ++ m).getD k 0 = if k < l.length then l.getD k 0 else m.getD (k - l.length) 0 := by
  rw [List.getD_eq_getElem?_getD, List.getElem?_append]
  split <;> rw [List.getD_eq_getElem?_getD]
theorem str_put {n n' N k : Nat} {Z Z' : Nat → Nat} {B : Nat → Bool} (h : Str n (8 * n) Z B) (h' : Str n' (8 * n + 8 * k) Z' (app B (8 * n) N (8 * k))) (hn : n' = n + k) :
    (∀ q, q < n → Z' q = Z q) ∧ ∀ t, t < k → Z' (n + t) = (N >>> (8 * (k - 1 - t))) % 256 := by
  subst hn
  constructor
  · intro q hq
    refine eq_byte (h'.lt q (by omega)) (h.lt q hq) (fun i hi => ?_)
    rw [h'.bit q (by omega) i hi, h.bit q hq i hi]
    unfold app
    rw [if_pos (by omega)]
    simp [show 8 * q + i < 8 * n + 8 * k by omega, show 8 * q + i < 8 * n by omega]
  · intro t ht
    refine eq_byte (h'.lt _ (by omega)) (Nat.mod_lt _ (by decide)) (fun i hi => ?_)
    rw [h'.bit _ (by omega) i hi]
    unfold app
    rw [if_neg (by omega), show (256 : Nat) = 2 ^ 8 from rfl, Nat.testBit_mod_two_pow, Nat.testBit_shiftRight]
    simp only [show 8 * (n + t) + i < 8 * n + 8 * k by omega, show 7 - i < 8 by omega, decide_true, Bool.true_and]
    congr 1
    omega
theorem putk_any (base b : Nat) (l : List Int) (v : Value) (N k : Nat) (w : World) (h : Wb w base b l v) (hN : N < 18446744073709551616) (hk : k ≤ 8) (hl : l.length ≤ 100000) :
    Calls Try.prog 48 #[.pointer (some ⟨b, 0, none⟩), .int .u64 (N : Nat), .int .i64 ((8 * k : Nat) : Int)] w fun r w' => r = .returned (.tuple #[]) ∧ ∃ v', Wb w' base b (l ++ bytesK N k) v' ∧ Below base w w' ∧ Lone w w' b v v' := by
  obtain ⟨Z, B, h1, h2⟩ := h
  refine (put_any base b (8 * l.length) l.length Z B v N (8 * k) w h1 hN (by omega) (by omega)).mono ?_
  rintro r w' ⟨rfl, n', Z', v', h3, b3, l3⟩
  have hn : n' = l.length + k := by have := h3.le; have := h3.lt; omega
  obtain ⟨p1, p2⟩ := str_put h1.str h3.str hn
  have hlen : (l ++ bytesK N k).length = l.length + k := by rw [List.length_append, bytesK_len]
  refine ⟨rfl, v', ⟨Z', app B (8 * l.length) N (8 * k), ?_, fun q hq => ?_⟩, b3, l3⟩
  · rw [hlen, ← hn, show 8 * n' = 8 * l.length + 8 * k by omega]
    exact h3
  · rw [hlen] at hq
    rw [getD_app]
    by_cases e : q < l.length
    · rw [if_pos e, p1 q e, h2 q e]
    · rw [if_neg e, bytesK_at _ _ _ (by omega), ← p2 (q - l.length) (by omega), show l.length + (q - l.length) = q by omega]
theorem str_text {n m : Nat} {Z : Nat → Nat} {B : Nat → Bool} {Y : Nat → Nat} (h : Str n (8 * n) Z B) (hY : ∀ k, k < m → Y k < 256) :
    Str (n + m) (8 * n + 8 * m) (fun k => if k < n then Z k else Y (k - n)) (fun p => if p < 8 * n then B p else (Y (p / 8 - n)).testBit (7 - p % 8)) where
  lt k hk := by
    by_cases e : k < n
    · rw [if_pos e]; exact h.lt k e
    · rw [if_neg e]; exact hY _ (by omega)
  bit k hk i hi := by
    by_cases e : k < n
    · rw [if_pos e, h.bit k e i hi, if_pos (by omega)]
      simp [show 8 * k + i < 8 * n by omega, show 8 * k + i < 8 * n + 8 * m by omega]
    · rw [if_neg e, if_neg (by omega), show (8 * k + i) / 8 = k by omega, show (8 * k + i) % 8 = i by omega]
      simp [show 8 * k + i < 8 * n + 8 * m by omega]
theorem row_ext {w : World} {a : Option Addr} {n : Nat} {V U : Nat → Value} (h : Row w a n V) (hv : ∀ i, i < n → V i = U i) : Row w a n U := by
  intro hn
  obtain ⟨b, off, h1, h2, h3⟩ := h hn
  exact ⟨b, off, h1, h2, fun i hi => by rw [h3 i hi, hv i hi]⟩
set_option maxHeartbeats 2000000 in
theorem textb_any (base b : Nat) (l dl : List Int) (v : Value) (a : Option Addr) (c : Nat) (w : World) (h : Wb w base b l v) (hl : l.length ≤ 100000) (hd : dl.length ≤ 100000) (hR : Row w a dl.length (fun i => .int .u8 (dl.getD i 0))) (hB : ∀ x, x ∈ dl → 0 ≤ x ∧ x < 256) :
    Calls Try.prog 49 #[.pointer (some ⟨b, 0, none⟩), .slice a dl.length c] w fun r w' => r = .returned (.tuple #[]) ∧ ∃ v', Wb w' base b (l ++ dl) v' ∧ Below base w w' ∧ Lone w w' b v v' := by
  obtain ⟨i0, hi0, hz0, hz1, hz2⟩ := info_parts infoB
  obtain ⟨Z, B, h1, h2⟩ := h
  have hbase : base ≤ w.heap.size := by have := h1.own.lt; have := h1.low; omega
  obtain ⟨va, vc, rfl, hc1, hm1, hR1⟩ := h1.row.row
  have k0 : w.cell? ⟨b, 0, none⟩ = some (.slice va l.length vc) := h1.own.cell 0
  have k1 : w.cell? ⟨b, 1, none⟩ = some (.int .i64 ((8 * l.length : Nat) : Int)) := h1.own.cell 1
  have hob : (Value.slice va l.length vc).ownBlock ≠ some b := fun e => by
    obtain ⟨_, h9⟩ := h1.row
    rcases h9 with ⟨hv, _⟩ | ⟨g, cap, cur, hv, _, hh, _⟩
    · rw [hv] at e
      cases e
    · rw [hv] at e
      have e : some g = some b := e
      injection e with e
      subst e
      exact absurd (own_type h1.own hh) (by decide)
  have HH := Lib.hid h1
  have HBY : ∀ k, k < dl.length → 0 ≤ dl.getD k 0 ∧ dl.getD k 0 < 256 := fun k hk => by
    rw [List.getD_eq_getElem?_getD, List.getElem?_eq_getElem hk]
    exact hB _ (List.getElem_mem hk)
  have HBY := Lib.hid HBY
  obtain ⟨n, hn⟩ : ∃ n, l.length = n := ⟨_, rfl⟩
  rw [hn] at hob
  have HOB := Lib.hid hob
  obtain ⟨m, hm⟩ : ∃ m, dl.length = m := ⟨_, rfl⟩
  have HN := Lib.hid hn
  have HM := Lib.hid hm
  have hrow := h1.row
  rw [hn] at k0 k1 hrow hl hc1
  rw [hm] at hR hd ⊢
  have hYe : ∃ Y : Nat → Nat, ∀ k, k < m → (Y k : Int) = dl.getD k 0 ∧ Y k < 256 := ⟨fun k => (dl.getD k 0).toNat, fun k hk => by
    have := HBY.out k (by rw [HM.out]; exact hk)
    show (((dl.getD k 0).toNat : Nat) : Int) = dl.getD k 0 ∧ (dl.getD k 0).toNat < 256
    constructor <;> omega⟩
  obtain ⟨Y, hY⟩ := hYe
  have hR := row_ext (U := fun i => .int .u8 ((Y i : Nat) : Int)) hR (fun i hi => by rw [(hY i hi).1])
  have HY := Lib.hid hY
  clear hY
  have e1 : (((8 * n : Nat) : Int).tmod 8 == 0) = true := by
    rw [Int.tmod_eq_emod_of_nonneg (by omega)]
    simp
  have e2 : (((8 * n : Nat) : Int) % 8 == 0) = true := by simp
  clear hn hm hob h1
  go_enter Try.func49, Try.ntmps49
  go_wp2_with (at_builtin; go_must (refine wp_app_at rfl (.tmp 18) (.tmp 19) _ rfl base 5 i0 _ 1 Try.underlying33 hi0 hz0 hz1 hz2 rfl _ n _ rfl hrow _ m _ _ rfl hR (fun _ _ => rfl) ?c1 ?c2 ?c3 ?_))
  case c1 => unfold maxLen; omega
  case c2 => omega
  case c3 => exact hbase
  intro v5 w5 m5 g5 q5
  have o5 := grown_own g5 HH.out.own HOB.out
  have b5 : Below base w w5 := (Below.refl base w).grown g5 hbase (fun q e => (hrow.lt q e).1)
  have l5 : Lone w w5 b (.slice va n vc) v5 := (Lone.refl w b (.slice va n vc)).grown (Nat.le_refl _) g5 q5
  have m6 := m5.ext (U := fun i => .int .u8 ((if i < n then Z i else Y (i - n) : Nat) : Int)) (fun i hi => by
    by_cases e : i < n
    · rw [if_pos e, if_pos e]
    · rw [if_neg e, if_neg e])
  obtain ⟨a5, c5, rfl, hc5, hd5, hR5⟩ := m6.row
  have x0 : w5.cell? ⟨b, 0, none⟩ = some (.slice va n vc) := (o5.cell 0).trans (by rw [← HN.out]; rfl)
  have x9 : w5.frozen? ⟨b, 0, none⟩ = false := o5.free 0
  have hne : (Value.slice a5 (n + m) c5).ownBlock ≠ some b := fun e => by
    obtain ⟨_, h9⟩ := m6
    rcases h9 with ⟨hv, _⟩ | ⟨g, cap, cur, hv, _, hh, _⟩
    · rw [hv] at e
      cases e
    · rw [hv] at e
      have e : some g = some b := e
      injection e with e
      subst e
      exact absurd (own_type o5 hh) (by decide)
  have o6 := o5.put 0 (.slice a5 (n + m) c5)
  have m7 := m6.other (p := ⟨b, 0, none⟩) hne (.slice a5 (n + m) c5)
  have hbl : base ≤ b := HH.out.low
  have b6 := (Just.set b w5 0 (.slice a5 (n + m) c5)).below b5 hbl (Nat.le_trans hbase b5.size)
  have l6 := l5.put b5.size (.inl rfl) 0 (.slice a5 (n + m) c5) (g := b)
  clear m5 m6 g5 q5 hR5 hrow b5 l5
  go_upto_region 3 with (fail)
  generalize w5.setCell ⟨b, 0, none⟩ (.slice a5 (n + m) c5) = w6 at *
  clear x0 x9 o5 k0 k1
  have k1 : w6.cell? ⟨b, 1, none⟩ = some (.int .i64 ((8 * n : Nat) : Int)) := (o6.cell 1).trans (by rw [← HN.out]; rfl)
  have k9 : w6.frozen? ⟨b, 1, none⟩ = false := o6.free 1
  have o7 := o6.put 1 (.int .i64 (8 * (n : Int) + (m : Int) * 8))
  have m8 := m7.other (p := ⟨b, 1, none⟩) hne (.int .i64 (8 * (n : Int) + (m : Int) * 8))
  have b7 := (Just.set b w6 1 (.int .i64 (8 * (n : Int) + (m : Int) * 8))).below b6 hbl (Nat.le_trans hbase b6.size)
  have l7 := l6.put b6.size (.inl rfl) 1 (.int .i64 (8 * (n : Int) + (m : Int) * 8)) (g := b)
  go_wp2_with fail
  refine bodyPost_ret (results_none rfl _ _ _) rfl ?_
  have hlen : (l ++ dl).length = n + m := by rw [List.length_append, HN.out, HM.out]
  have hstr := str_text (n := n) (m := m) (Z := Z) (B := B) (Y := Y) (by have := HH.out.str; rw [HN.out] at this; exact this) (fun k hk => (HY.out k hk).2)
  have e8 : 8 * (n : Int) + (m : Int) * 8 = ((8 * (n + m) : Nat) : Int) := by omega
  refine ⟨rfl, .slice a5 (n + m) c5, ⟨fun k => if k < n then Z k else Y (k - n), fun p => if p < 8 * n then B p else (Y (p / 8 - n)).testBit (7 - p % 8), ⟨⟨?_, ?_, ?_, hbl⟩, ?_, ?_⟩, fun k hk => ?_⟩, b7, ?_⟩
  · rw [hlen, ← e8]
    exact o7
  · rw [hlen]
    exact m8
  · rw [hlen, show 8 * (n + m) = 8 * n + 8 * m by omega]
    exact hstr
  · rw [hlen]
    omega
  · rw [hlen]
    omega
  · rw [hlen] at hk
    rw [getD_app, HN.out]
    by_cases e : k < n
    · simp only [if_pos e]
      exact h2 k (by rw [HN.out]; exact e)
    · simp only [if_neg e]
      exact (HY.out (k - n) (by omega)).1
  · rw [HN.out]
    exact l7
end Go.Proofs.Ytiflmdekcjbmbaa.Bf
set_option maxRecDepth 100000
namespace Go.Proofs.Ytiflmdekcjbmbaa.Bf
set_option linter.unusedVariables false
set_option linter.unusedSimpArgs false
open Go.RowKit Lb Go.Shelf

/-- Bit p of bytes. -/
def bt (Z : Nat → Nat) (p : Nat) : Bool := (Z (p / 8)).testBit (7 - p % 8)
/-- x is the number that k bits of B are, from bit p on. -/
structure Num (x k : Nat) (B : Nat → Bool) (p : Nat) : Prop where
  lt : x < 2 ^ k
  bit : ∀ j, j < k → x.testBit j = B (p + (k - 1 - j))
theorem Num.zero (B : Nat → Bool) (p : Nat) : Num 0 0 B p := ⟨by decide, fun j hj => by omega⟩
theorem Num.uniq {x y k p : Nat} {B : Nat → Bool} (h : Num x k B p) (g : Num y k B p) : x = y := by
  apply Nat.eq_of_testBit_eq
  intro j
  by_cases hj : j < k
  · rw [h.bit j hj, g.bit j hj]
  · rw [Nat.testBit_lt_two_pow (Nat.lt_of_lt_of_le h.lt (Nat.pow_le_pow_right (by decide) (by omega))), Nat.testBit_lt_two_pow (Nat.lt_of_lt_of_le g.lt (Nat.pow_le_pow_right (by decide) (by omega)))]
theorem Num.step {x k t p : Nat} {Z : Nat → Nat} (h : Num x k (bt Z) p) (ht : t ≤ 8 - (p + k) % 8) :
    Num (x <<< t ||| part (Z ((p + k) / 8)) (8 - (p + k) % 8 - t) t) (k + t) (bt Z) p where
  lt := by
    refine Nat.or_lt_two_pow ?_ ?_
    · rw [Nat.shiftLeft_eq, Nat.pow_add]
      exact (Nat.mul_lt_mul_right (Nat.two_pow_pos t)).2 h.lt
    · refine Nat.lt_of_le_of_lt Nat.and_le_right ?_
      have h1 : 2 ^ t ≤ 2 ^ (k + t) := Nat.pow_le_pow_right (by decide) (by omega)
      have := Nat.two_pow_pos t
      omega
  bit j hj := by
    rw [Nat.testBit_or, Nat.testBit_shiftLeft, part_bit _ _ _ _ (by omega)]
    by_cases h1 : j < t
    · have h2 : ¬ j ≥ t := by omega
      have h3 : p + (k + t - 1 - j) = p + k + (t - 1 - j) := by omega
      rw [h3]
      unfold bt
      have h4 : (p + k + (t - 1 - j)) / 8 = (p + k) / 8 := by omega
      have h5 : 7 - (p + k + (t - 1 - j)) % 8 = 8 - (p + k) % 8 - t + j := by omega
      rw [h4, h5]
      simp [h1, h2]
    · have h2 : j ≥ t := by omega
      rw [h.bit (j - t) (by omega)]
      simp [h1, h2]
      congr 1
      omega
theorem Str.bt {n bits : Nat} {Z : Nat → Nat} {B : Nat → Bool} (h : Str n bits Z B) {p : Nat} (hp : p < bits) (hb : bits ≤ 8 * n) : bt Z p = B p := by
  unfold Bf.bt
  rw [h.bit (p / 8) (by omega) (p % 8) (by omega), show 8 * (p / 8) + p % 8 = p from by omega]
  simp [hp]
theorem part_and' (z D T : Nat) (hz : z < 256) (hT : T ≤ 8) : Go.bits .and .u8 ((z : Int) / 2 ^ D) ((2 ^ T - 1 : Nat) : Int) = ((part z D T : Nat) : Int) := by
  have hq : z / 2 ^ D < 256 := Nat.lt_of_le_of_lt (Nat.div_le_self _ _) hz
  have := part_and z D T hT
  have e : ((z : Int) / 2 ^ D) = ((z / 2 ^ D : Nat) : Int) := by simp
  have e2 : ((z : Int) / 2 ^ D) % 256 = (z : Int) / 2 ^ D := by
    rw [e]
    clear this e
    generalize z / 2 ^ D = u at hq ⊢
    omega
  rw [← this, e2]
end Go.Proofs.Ytiflmdekcjbmbaa.Bf
set_option maxRecDepth 100000
namespace Go.Proofs.Ytiflmdekcjbmbaa.Bf
set_option linter.unusedVariables false
set_option linter.unusedSimpArgs false
open Go.RowKit Lb Go.Shelf

/-- The first error stays. -/
def fst_ (err e : Int) : Int := if err = 0 then e else err
end Go.Proofs.Ytiflmdekcjbmbaa.Bf
set_option maxRecDepth 100000
namespace Go.Proofs.Ytiflmdekcjbmbaa.Bf
set_option linter.unusedVariables false
set_option linter.unusedSimpArgs false
open Go.RowKit Lb Go.Shelf

end Go.Proofs.Ytiflmdekcjbmbaa.Bf
set_option maxRecDepth 100000
namespace Go.Proofs.Ytiflmdekcjbmbaa.Bf
set_option linter.unusedVariables false
set_option linter.unusedSimpArgs false
open Go.RowKit Lb Go.Shelf

end Go.Proofs.Ytiflmdekcjbmbaa.Bf
set_option maxRecDepth 100000
namespace Go.Proofs.Ytiflmdekcjbmbaa.Bf
set_option linter.unusedVariables false
set_option linter.unusedSimpArgs false
open Go.RowKit Lb Go.Shelf

theorem num_byte {Z : Nat → Nat} {j : Nat} (h : Z j < 256) : Num (Z j) 8 (bt Z) (8 * j) where
  lt := h
  bit t ht := by
    unfold bt
    rw [show (8 * j + (8 - 1 - t)) / 8 = j by omega, show 7 - (8 * j + (8 - 1 - t)) % 8 = t by omega]
theorem num_bytes {Z : Nat → Nat} {x j : Nat} (h : Num x 48 (bt Z) (8 * j)) (hz : ∀ t, t < 6 → Z (j + t) < 256) : ∀ t, t < 6 → (x >>> (8 * (6 - 1 - t))) % 256 = Z (j + t) := fun t ht => by
  refine Nat.eq_of_testBit_eq fun i => ?_
  rw [show (256 : Nat) = 2 ^ 8 from rfl, Nat.testBit_mod_two_pow, Nat.testBit_shiftRight]
  by_cases hi : i < 8
  · rw [h.bit _ (by omega)]
    unfold bt
    rw [show (8 * j + (48 - 1 - (8 * (6 - 1 - t) + i))) / 8 = j + t by omega, show 7 - (8 * j + (48 - 1 - (8 * (6 - 1 - t) + i))) % 8 = i by omega]
    simp [hi]
  · have : (Z (j + t)).testBit i = false := Nat.testBit_lt_two_pow (Nat.lt_of_lt_of_le (hz t ht) (show 2 ^ 8 ≤ 2 ^ i from Nat.pow_le_pow_right (by decide) (by omega)))
    simp [hi, this]
/-- The error behind a taking of k bytes. -/
def er (l : List Int) (k : Nat) (err : Int) : Int := if l.length < k then fst_ err 2 else err
def lft (l : List Int) (k : Nat) : List Int := if l.length < k then [] else l.drop k
theorem lft_get {l : List Int} {k q : Nat} : (l.drop k).getD q 0 = l.getD (k + q) 0 := by
  rw [List.getD_eq_getElem?_getD, List.getD_eq_getElem?_getD, List.getElem?_drop]
/-- What End tells. -/
def endE (l : List Int) (err : Int) : Int := if err = 0 then (if l = [] then 0 else 3) else err
end Go.Proofs.Ytiflmdekcjbmbaa.Bf
set_option maxRecDepth 100000
namespace Go.Proofs.Ytiflmdekcjbmbaa.Bf
set_option linter.unusedVariables false
set_option linter.unusedSimpArgs false
open Go.RowKit Lb Go.Shelf

theorem numK_bytes {Z : Nat → Nat} {x j K : Nat} (h : Num x (8 * K) (bt Z) (8 * j)) (hz : ∀ t, t < K → Z (j + t) < 256) : ∀ t, t < K → (x >>> (8 * (K - 1 - t))) % 256 = Z (j + t) := fun t ht => by
  refine Nat.eq_of_testBit_eq fun i => ?_
  rw [show (256 : Nat) = 2 ^ 8 from rfl, Nat.testBit_mod_two_pow, Nat.testBit_shiftRight]
  by_cases hi : i < 8
  · rw [h.bit _ (by omega)]
    unfold bt
    rw [show (8 * j + (8 * K - 1 - (8 * (K - 1 - t) + i))) / 8 = j + t by omega, show 7 - (8 * j + (8 * K - 1 - (8 * (K - 1 - t) + i))) % 8 = i by omega]
    simp [hi]
  · have : (Z (j + t)).testBit i = false := Nat.testBit_lt_two_pow (Nat.lt_of_lt_of_le (hz t ht) (show 2 ^ 8 ≤ 2 ^ i from Nat.pow_le_pow_right (by decide) (by omega)))
    simp [hi, this]
end Go.Proofs.Ytiflmdekcjbmbaa.Bf
