/-
  Package bits (chapter 3): what a writer's Text and Even do at any bit; a reader's Text at any bit.
-/
import Derived.Test.YtamooehncjceiaaBfByte
import Derived.Test.YtamooehncjceiaaBfText
import Derived.IntWalk
set_option maxRecDepth 100000
namespace Go.Proofs.Ytamooehncjceiaa.Bf
set_option linter.unusedVariables false
open Go.RowKit Go.ChangeShapes Go.WideShapes Go.ChangeAt Go.Deep Lb

theorem Lone.trans {w w1 w2 : World} {b : Nat} {v v1 v2 : Value} (h : Lone w w1 b v v1) (g : Lone w1 w2 b v1 v2) (hs : w.heap.size ≤ w1.heap.size) : Lone w w2 b v v2 where
  keep q hq hb hv := (g.keep q (by omega) hb (fun e => by
    rcases h.own q e with e | e
    · exact hv e
    · omega)).trans (h.keep q hq hb hv)
  own q e := by
    rcases g.own q e with e | e
    · exact h.own q e
    · exact .inr (by omega)
/-- Bytes behind nb bits. -/
def txt (B : Nat → Bool) (nb : Nat) (Y : Nat → Nat) (p : Nat) : Bool := if p < nb then B p else (Y ((p - nb) / 8)).testBit (7 - (p - nb) % 8)
theorem txt_put (B : Nat → Bool) (nb : Nat) (Y : Nat → Nat) (k p : Nat) (hp : p < nb + 8 * k + 8) : app (txt B nb Y) (nb + 8 * k) (Y k) 8 p = txt B nb Y p := by
  unfold app
  by_cases h : p < nb + 8 * k
  · rw [if_pos h]
  · rw [if_neg h]
    unfold txt
    rw [if_neg (by omega), show (p - nb) / 8 = k by omega, show (p - nb) % 8 = p - (nb + 8 * k) by omega]
/-- What fills the last byte is taken in. -/
def evn (B : Nat → Bool) (nb : Nat) (p : Nat) : Bool := decide (p < nb) && B p
theorem Str.even {n bits : Nat} {Z : Nat → Nat} {B : Nat → Bool} (h : Str n bits Z B) (hb : bits ≤ 8 * n) : Str n (8 * n) Z (evn B bits) where
  lt := h.lt
  bit k hk i hi := by
    rw [h.bit k hk i hi]
    unfold evn
    simp [show 8 * k + i < 8 * n by omega]
theorem weven_any (base b nb n : Nat) (Z : Nat → Nat) (B : Nat → Bool) (v : Value) (w : World) (h : Wr w base b nb n Z B v) (hb : nb ≤ 1000000) :
    Calls Try.prog 23 #[.pointer (some ⟨b, 0, none⟩)] w fun r w' => r = .returned (.tuple #[]) ∧ Wr w' base b (8 * n) n Z (evn B nb) v ∧ Below base w w' ∧ Lone w w' b v v := by
  have h2 := h.le
  have h3 := h.lt
  obtain ⟨a, c, rfl, hc1, hm1, hR1⟩ := h.row.row
  have k0 : w.cell? ⟨b, 0, none⟩ = some (.slice a n c) := h.own.cell 0
  have k1 : w.cell? ⟨b, 1, none⟩ = some (.int .i64 (nb : Int)) := h.own.cell 1
  have k9 : w.frozen? ⟨b, 1, none⟩ = false := h.own.free 1
  have e1 : IntKind.i64.wrap ((n : Int) * 8) = (n : Int) * 8 := IntWalk.i64_in _ (by omega)
  have hbase : base ≤ w.heap.size := by have := h.own.lt; have := h.low; omega
  have hne : (Value.slice a n c).ownBlock ≠ some b := fun e => by
    obtain ⟨_, h9⟩ := h.row
    rcases h9 with ⟨hv, _⟩ | ⟨g, cap, cur, hv, _, hh, _⟩
    · rw [hv] at e
      cases e
    · rw [hv] at e
      have e : some g = some b := e
      injection e with e
      subst e
      exact absurd (own_type h.own hh) (by decide)
  have HH := Lib.hid h
  have HNE := Lib.hid hne
  clear h hne hR1
  go_enter Try.func23, Try.ntmps23
  go_wp2_with fail
  go_end0
  have h := HH.out
  have e8 : (n : Int) * 8 = ((8 * n : Nat) : Int) := by omega
  rw [e8]
  exact ⟨rfl, ⟨⟨h.own.put 1 _, h.row.other (p := ⟨b, 1, none⟩) HNE.out _, h.str.even h2, h.low⟩, by omega, by omega⟩, (Just.set b w 1 _).below (Below.refl _ _) h.low hbase, (Lone.refl w b _).put (Nat.le_refl _) (.inl rfl) 1 _⟩
set_option maxHeartbeats 2000000 in
theorem wtext_even (base b n m : Nat) (Z : Nat → Nat) (B : Nat → Bool) (Y : Nat → Nat) (v : Value) (a : Option Addr) (c : Nat) (w : World) (h : Wr w base b (8 * n) n Z B v) (hl : n ≤ 100000) (hd : m ≤ 100000) (hR : Row w a m (fun i => .int .u8 (Y i : Nat))) (hY : ∀ k, k < m → Y k < 256) :
    Calls Try.prog 22 #[.pointer (some ⟨b, 0, none⟩), .slice a m c] w fun r w' => r = .returned (.tuple #[]) ∧ ∃ n' Z' v', Wr w' base b (8 * n + 8 * m) n' Z' (txt B (8 * n) Y) v' ∧ Below base w w' ∧ Lone w w' b v v' := by
  obtain ⟨i0, hi0, hz0, hz1, hz2⟩ := info_parts infoB
  have h1 := h
  have hbase : base ≤ w.heap.size := by have := h1.own.lt; have := h1.low; omega
  obtain ⟨va, vc, rfl, hc1, hm1, hR1⟩ := h1.row.row
  have k0 : w.cell? ⟨b, 0, none⟩ = some (.slice va n vc) := h1.own.cell 0
  have k1 : w.cell? ⟨b, 1, none⟩ = some (.int .i64 ((8 * n : Nat) : Int)) := h1.own.cell 1
  have hob : (Value.slice va n vc).ownBlock ≠ some b := fun e => by
    obtain ⟨_, h9⟩ := h1.row
    rcases h9 with ⟨hv, _⟩ | ⟨g, cap, cur, hv, _, hh, _⟩
    · rw [hv] at e
      cases e
    · rw [hv] at e
      have e : some g = some b := e
      injection e with e
      subst e
      exact absurd (own_type h1.own hh) (by decide)
  have HH := Lib.hid h1
  have HOB := Lib.hid hob
  have hrow := h1.row
  have HY := Lib.hid hY
  clear hY
  have e1 : (((8 * n : Nat) : Int).tmod 8 == 0) = true := by
    rw [Int.tmod_eq_emod_of_nonneg (by omega)]
    simp
  have e2 : (((8 * n : Nat) : Int) % 8 == 0) = true := by simp
  clear hob h1 h
  go_enter Try.func22, Try.ntmps22
  go_wp2_with (at_builtin; go_must (refine wp_app_at rfl (.tmp 18) (.tmp 19) _ rfl base 5 i0 _ 1 Try.underlying22 hi0 hz0 hz1 hz2 rfl _ n _ rfl hrow _ m _ _ rfl hR (fun _ _ => rfl) ?c1 ?c2 ?c3 ?_))
  case c1 => unfold maxLen; omega
  case c2 => omega
  case c3 => exact hbase
  intro v5 w5 m5 g5 q5
  have o5 := grown_own g5 HH.out.own HOB.out
  have b5 : Below base w w5 := (Below.refl base w).grown g5 hbase (fun q e => (hrow.lt q e).1)
  have l5 : Lone w w5 b (.slice va n vc) v5 := (Lone.refl w b (.slice va n vc)).grown (Nat.le_refl _) g5 q5
  have m6 := m5.ext (U := fun i => .int .u8 ((if i < n then Z i else Y (i - n) : Nat) : Int)) (fun i hi => by
    by_cases e : i < n
    · rw [if_pos e, if_pos e]
    · rw [if_neg e, if_neg e])
  obtain ⟨a5, c5, rfl, hc5, hd5, hR5⟩ := m6.row
  have x0 : w5.cell? ⟨b, 0, none⟩ = some (.slice va n vc) := o5.cell 0
  have x9 : w5.frozen? ⟨b, 0, none⟩ = false := o5.free 0
  have hne : (Value.slice a5 (n + m) c5).ownBlock ≠ some b := fun e => by
    obtain ⟨_, h9⟩ := m6
    rcases h9 with ⟨hv, _⟩ | ⟨g, cap, cur, hv, _, hh, _⟩
    · rw [hv] at e
      cases e
    · rw [hv] at e
      have e : some g = some b := e
      injection e with e
      subst e
      exact absurd (own_type o5 hh) (by decide)
  have o6 := o5.put 0 (.slice a5 (n + m) c5)
  have m7 := m6.other (p := ⟨b, 0, none⟩) hne (.slice a5 (n + m) c5)
  have hbl : base ≤ b := HH.out.low
  have b6 := (Just.set b w5 0 (.slice a5 (n + m) c5)).below b5 hbl (Nat.le_trans hbase b5.size)
  have l6 := l5.put b5.size (.inl rfl) 0 (.slice a5 (n + m) c5) (g := b)
  clear m5 m6 g5 q5 hR5 hrow b5 l5
  go_upto_region 3 with (fail)
  generalize w5.setCell ⟨b, 0, none⟩ (.slice a5 (n + m) c5) = w6 at *
  clear x0 x9 o5 k0 k1
  have k1 : w6.cell? ⟨b, 1, none⟩ = some (.int .i64 ((8 * n : Nat) : Int)) := o6.cell 1
  have k9 : w6.frozen? ⟨b, 1, none⟩ = false := o6.free 1
  have o7 := o6.put 1 (.int .i64 (8 * (n : Int) + (m : Int) * 8))
  have m8 := m7.other (p := ⟨b, 1, none⟩) hne (.int .i64 (8 * (n : Int) + (m : Int) * 8))
  have b7 := (Just.set b w6 1 (.int .i64 (8 * (n : Int) + (m : Int) * 8))).below b6 hbl (Nat.le_trans hbase b6.size)
  have l7 := l6.put b6.size (.inl rfl) 1 (.int .i64 (8 * (n : Int) + (m : Int) * 8)) (g := b)
  go_wp2_with fail
  refine bodyPost_ret (results_none rfl _ _ _) rfl ?_
  have hstr := str_text (n := n) (m := m) (Z := Z) (B := B) (Y := Y) HH.out.str (fun k hk => HY.out k hk)
  have e8 : 8 * (n : Int) + (m : Int) * 8 = ((8 * n + 8 * m : Nat) : Int) := by omega
  rw [e8] at o7 m8 b7 l7 ⊢
  refine ⟨rfl, n + m, fun k => if k < n then Z k else Y (k - n), .slice a5 (n + m) c5, ⟨⟨o7, m8, ?_, hbl⟩, by omega, by omega⟩, b7, l7⟩
  refine hstr.ext (fun _ _ => rfl) (fun p hp => ?_)
  unfold txt
  by_cases e : p < 8 * n
  · rw [if_pos e, if_pos e]
  · rw [if_neg e, if_neg e, show (p - 8 * n) / 8 = p / 8 - n by omega, show (p - 8 * n) % 8 = p % 8 by omega]
set_option maxHeartbeats 2000000 in
theorem wtext_any (b nb n m : Nat) (Z : Nat → Nat) (B : Nat → Bool) (Y : Nat → Nat) (v : Value) (a : Option Addr) (c : Nat) (W w : World) (h : Wr w W.heap.size b nb n Z B v) (hl : nb ≤ 100000) (hd : m ≤ 100000) (hR : Row W a m (fun i => .int .u8 (Y i : Nat))) (hW : Below W.heap.size W w) (hY : ∀ k, k < m → Y k < 256) :
    Calls Try.prog 22 #[.pointer (some ⟨b, 0, none⟩), .slice a m c] w fun r w' => r = .returned (.tuple #[]) ∧ ∃ n' Z' v', Wr w' W.heap.size b (nb + 8 * m) n' Z' (txt B nb Y) v' ∧ Below W.heap.size w w' ∧ Lone w w' b v v' := by
  have h2 := h.le
  have h3 := h.lt
  by_cases h8 : nb % 8 = 0
  · obtain rfl : nb = 8 * n := by omega
    exact wtext_even _ b n m Z B Y v a c w h (by omega) hd (hR.below hW) hY
  · have k1 : w.cell? ⟨b, 1, none⟩ = some (.int .i64 (nb : Int)) := h.own.cell 1
    obtain ⟨r8, hr⟩ : ∃ r8, nb % 8 = r8 := ⟨_, rfl⟩
    have e1 : (nb : Int) % 8 = (r8 : Int) := by omega
    have e2 : ((r8 : Int) == 0) = false := by simp; omega
    have e3 : (r8 == 0) = false := by simp; omega
    have HY := Lib.hid hY
    have h0 : Wr w W.heap.size b (nb + 8 * 0) n Z (txt B nb Y) v := ⟨⟨h.own, h.row, h.str.ext (fun _ _ => rfl) (fun p hp => by unfold txt; rw [if_pos hp]), h.low⟩, h.le, h.lt⟩
    have l0 := Lone.refl w b v
    have b0 := Below.refl W.heap.size w
    have hc63 : (m : Int) ≤ 9223372036854775807 := by omega
    clear h8 hr h hY
    go_enter Try.func22, Try.ntmps22
    go_wp2_with fail
    go_loopw [35] (fun i wr => ∃ k : Nat, i = .int .i64 k ∧ k ≤ m ∧ ∃ n1 Z1 v1, Wr wr W.heap.size b (nb + 8 * k) n1 Z1 (txt B nb Y) v1 ∧ Below W.heap.size w wr ∧ Lone w wr b v v1) (fun i _ => m - (intOf i).toNat)
    case atStart => exact ⟨0, rfl, by omega, n, Z, v, h0, b0, l0⟩
    case round =>
      clear h0 b0 l0 k1 e1 e2 e3
      obtain ⟨k, rfl, hk, n1, Z1, v1, h1, b1, l1⟩ := hrel
      by_cases hlt : k < m
      · obtain ⟨bo, off, rfl, hbo, c0⟩ := hR.at_old (hW.trans b1) hlt
        have hy := HY.out k hlt
        have e4 : IntKind.u64.wrap ((Y k : Nat) : Int) = ((Y k : Nat) : Int) := by rw [IntKind.wrap_u64]; omega
        have e4' : ((Y k : Nat) : Int) % 18446744073709551616 = ((Y k : Nat) : Int) := by omega
        go_wp2_with fail
        refine (put_any W.heap.size b (nb + 8 * k) n1 Z1 (txt B nb Y) v1 (Y k) 8 _ h1 (by omega) (by omega) (by omega)).mono ?_
        rintro r w2 ⟨rfl, n2, Z2, v2, h2', b2, l2⟩
        go_wp2_with fail
        refine ⟨⟨k + 1, by simp, by omega, n2, Z2, v2, ⟨⟨?_, h2'.row, ?_, h2'.low⟩, by have := h2'.le; omega, by have := h2'.lt; omega⟩, b1.trans b2, l1.trans l2 b1.size⟩, by simp [intOf]; omega⟩
        · rw [show nb + 8 * (k + 1) = nb + 8 * k + 8 by omega]
          exact h2'.own
        · rw [show nb + 8 * (k + 1) = nb + 8 * k + 8 by omega]
          exact h2'.str.ext (fun _ _ => rfl) (fun p hp => txt_put B nb Y k p hp)
      · have hkm : k = m := by omega
        subst hkm
        have g4 : decide ((k : Int) < (k : Int)) = false := by simp
        go_wp2_with fail
        go_end0
        exact ⟨rfl, n1, Z1, v1, h1, b1, l1⟩
end Go.Proofs.Ytamooehncjceiaa.Bf
