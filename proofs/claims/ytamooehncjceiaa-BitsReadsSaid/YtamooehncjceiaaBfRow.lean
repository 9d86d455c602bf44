/-
  The reference's row of bits: Put, Text, RowOf.
-/
import Derived.Test.YtamooehncjceiaaBfMore
import Derived.Test.YtamooehncjceiaaRtDraw
import Derived.Deep.RegionLaw
set_option maxRecDepth 100000
namespace Go.Proofs.Ytamooehncjceiaa.Bf
set_option linter.unusedVariables false
open Go.RowKit Lb

/-- A bit as a byte. -/
def one (b : Bool) : Value := .int .u8 (if b then 1 else 0)
structure Wo (w : World) (base b nb : Nat) (B : Nat → Bool) (v : Value) : Prop where
  own : Own w b 38 #[v, .int .i64 0]
  row : Mine w base 5 v nb (fun i => one (B i))
  low : base ≤ b
theorem Wo.drewN {w : World} {base b nb : Nat} {B : Nat → Bool} {v : Value} (h : Wo w base b nb B v) (m : Nat) : Wo (w.drewN m) base b nb B v := ⟨h.own.drewN m, h.row.drewN m, h.low⟩
theorem mine_not {w : World} {base b n : Nat} {e t : TypeId} {v : Value} {V : Nat → Value} {cs : Array Value} (h : Mine w base e v n V) (o : Own w b t cs) (ne : t ≠ e) : v.ownBlock ≠ some b := fun q => by
  obtain ⟨_, h9⟩ := h
  rcases h9 with ⟨hv, _⟩ | ⟨g, cap, cur, hv, _, hh, _⟩
  · rw [hv] at q
    cases q
  · rw [hv] at q
    have q : some g = some b := q
    injection q with q
    subst q
    exact ne (own_type o hh)
theorem mine_ty {w : World} {base n c : Nat} {e : TypeId} {a : Option Addr} {V : Nat → Value} (h : Mine w base e (.slice a n c) n V) (q : Nat) (hq : a.map Addr.block = some q) : ∃ cs, Own w q e cs := by
  obtain ⟨_, h9⟩ := h
  rcases h9 with ⟨hv, _⟩ | ⟨g, cap, cur, hv, _, hh, _⟩
  · injection hv with e1 _ _
    subst e1
    cases hq
  · injection hv with e1 _ _
    subst e1
    injection hq with hq
    subst hq
    exact ⟨_, hh⟩
theorem low_bit (N D : Nat) (hN : N < 18446744073709551616) : Go.bits .and .u64 ((N : Int) / 2 ^ D) 1 = (((if N.testBit D then 1 else 0 : Nat)) : Int) := by
  have e : ((N : Int) / 2 ^ D) = ((N / 2 ^ D : Nat) : Int) := by simp
  have hl : N / 2 ^ D < 18446744073709551616 := Nat.lt_of_le_of_lt (Nat.div_le_self _ _) hN
  have := u64_and_nat (N / 2 ^ D) 1 hl (by decide)
  rw [e, show (1 : Int) = ((1 : Nat) : Int) from rfl, this, Nat.and_one_is_mod, Nat.testBit_eq_decide_div_mod_eq]
  congr 1
  have : N / 2 ^ D % 2 < 2 := Nat.mod_lt _ (by decide)
  by_cases h : N / 2 ^ D % 2 = 1
  · simp [h]
  · simp [h]
    omega
set_option maxHeartbeats 4000000 in
theorem rput_any (base b nb : Nat) (B : Nat → Bool) (v : Value) (N width : Nat) (w : World) (h : Wo w base b nb B v) (hN : N < 18446744073709551616) (hw : width ≤ 64) (hb : nb ≤ 1000000) :
    Calls Try.prog 31 #[.pointer (some ⟨b, 0, none⟩), .int .u64 (N : Nat), .int .i64 (width : Nat)] w fun r w' => r = .returned (.tuple #[]) ∧ ∃ v', Wo w' base b (nb + width) (app B nb N width) v' ∧ Below base w w' := by
  obtain ⟨i0, hi0, hz0, hz1, hz2⟩ := info_parts infoB
  have g1 : decide ((width : Int) ≤ 64) = true := by simp; omega
  have hbase : base ≤ w.heap.size := by have := h.own.lt; have := h.low; omega
  have h0 : Wo w base b (nb + (width - width)) (app B nb N width) v := by
    rw [Nat.sub_self]
    exact ⟨h.own, h.row.ext (fun i hi => by unfold app; rw [if_pos hi]), h.low⟩
  have e0 : IntKind.i64.wrap ((width : Int) - 1) = (width : Int) - 1 := IntWalk.i64_in _ (by omega)
  clear h
  go_enter Try.func31, Try.ntmps31
  go_wp2_with fail
  go_loopw [6] (fun i wr => ∃ (d : Nat) (v' : Value), i = .int .i64 ((d : Int) - 1) ∧ d ≤ width ∧ Wo wr base b (nb + (width - d)) (app B nb N width) v' ∧ Below base w wr) (fun i _ => (intOf i + 1).toNat)
  case atStart => exact ⟨width, v, rfl, Nat.le_refl _, h0, Below.refl _ _⟩
  case round =>
    clear h0
    obtain ⟨d, v1, rfl, hd, h1, b1⟩ := hrel
    obtain ⟨a1, c1, rfl, hc1, hm1, hR1⟩ := h1.row.row
    unfold maxLen at hm1
    by_cases hd0 : 0 < d
    · obtain ⟨D, rfl⟩ : ∃ D, d = D + 1 := ⟨d - 1, by omega⟩
      have eD : (((D + 1 : Nat) : Int) - 1) = (D : Int) := by omega
      rw [eD]
      obtain ⟨q, hq⟩ : ∃ q, nb + (width - (D + 1)) = q := ⟨_, rfl⟩
      rw [hq] at h1 hc1
      have HQ := Lib.hid hq
      have hq2 : q ≤ 1000064 := by omega
      have k0 : wr.cell? ⟨b, 0, none⟩ = some (.slice a1 q c1) := h1.own.cell 0
      have f0 : wr.frozen? ⟨b, 0, none⟩ = false := h1.own.free 0
      have hD64 : D < 64 := by omega
      have e1 : IntKind.u64.wrap (D : Int) = (D : Int) := by rw [IntKind.wrap_u64]; omega
      have e2 := low_bit N D hN
      obtain ⟨Y, hY⟩ : ∃ Y : Nat, (if N.testBit D then 1 else 0 : Nat) = Y := ⟨_, rfl⟩
      rw [hY] at e2
      have hY1 : Y ≤ 1 := by rw [← hY]; split <;> decide
      have e3 : IntKind.u8.wrap (Y : Int) = (Y : Int) := by rw [IntKind.wrap_u8']; omega
      have e4 : IntKind.i64.wrap ((D : Int) - 1) = (D : Int) - 1 := IntWalk.i64_in _ (by omega)
      have HOB := Lib.hid (mine_not h1.row h1.own (by decide))
      have HY := Lib.hid hY
      clear hq hY hR1
      have oo := h1.own
      have mm := h1.row.alloc (.cells #[.int .u8 (Y : Nat)] 5)
      have hr2 := row_new (n := 1) (V := fun _ => .int .u8 (Y : Nat)) wr #[.int .u8 (Y : Nat)] 5 (0, 0) (fun i hi => by obtain rfl : i = 0 := (by omega); rfl)
      have low := h1.low
      have hge : ∀ q', (Value.slice a1 q c1).ownBlock = some q' → base ≤ q' := fun q' e => (h1.row.lt q' e).1
      have HGE := Lib.hid hge
      have HNM := Lib.hid (show q + 1 ≤ maxLen by unfold maxLen; omega)
      have bsz := b1.size
      clear hge h1
      go_wp2_with (at_builtin; go_must (refine wp_app_at rfl (.tmp 21) (.tmp 28) _ rfl base 5 i0 _ 1 Try.underlying22 hi0 hz0 hz1 hz2 rfl _ q _ rfl mm _ 1 _ (fun _ => .int .u8 (Y : Nat)) rfl hr2 (fun _ _ => rfl) HNM.out ?c2 ?c3 ?_))
      case c2 => omega
      case c3 => simp; omega
      intro v6 w6 m6 g6 q6
      obtain ⟨a6, c6, rfl, hc6, hd6, hR6⟩ := m6.row
      have o6 := grown_own g6 (oo.alloc _) HOB.out
      have b6 : Below base w w6 := (b1.alloc (by omega) (.cells #[.int .u8 (Y : Nat)] 5)).grown g6 (by simp; omega) (fun q' e => HGE.out q' e)
      have k6 : w6.cell? ⟨b, 0, none⟩ = some (.slice a1 q c1) := o6.cell 0
      have f6 : w6.frozen? ⟨b, 0, none⟩ = false := o6.free 0
      have HN6 := Lib.hid (mine_not m6 o6 (by decide))
      clear k0 f0 hr2 g6 q6 oo mm b1 hR6
      go_wp2_with fail
      have hq3 : nb + (width - D) = q + 1 := by have := HQ.out; omega
      refine ⟨⟨D, .slice a6 (q + 1) c6, rfl, by omega, ?_, (Just.set b w6 0 _).below b6 low (Nat.le_trans hbase b6.size)⟩, by simp [intOf]⟩
      rw [hq3]
      refine ⟨o6.put 0 _, (m6.ext (fun i hi => ?_)).other (p := ⟨b, 0, none⟩) HN6.out _, low⟩
      by_cases e : i < q
      · rw [if_pos e]
      · obtain rfl : i = q := by omega
        rw [if_neg e]
        have hq4 := HQ.out
        have ht : app B nb N width i = N.testBit D := by
          unfold app
          rw [if_neg (by omega), show width - 1 - (i - nb) = D by omega]
        show Value.int .u8 (Y : Int) = one (app B nb N width i)
        rw [ht, ← HY.out]
        unfold one
        cases N.testBit D <;> rfl
    · obtain rfl : d = 0 := by omega
      go_wp2_with fail
      go_end0
      exact ⟨rfl, _, by rw [Nat.sub_zero] at h1; exact h1, b1⟩
set_option maxHeartbeats 2000000 in
theorem rowtext_any (b nb m : Nat) (B : Nat → Bool) (Y : Nat → Nat) (v : Value) (a : Option Addr) (c : Nat) (W w : World) (h : Wo w W.heap.size b nb B v) (hl : nb ≤ 100000) (hd : m ≤ 100000) (hR : Row W a m (fun i => .int .u8 (Y i : Nat))) (hW : Below W.heap.size W w) (hY : ∀ k, k < m → Y k < 256) :
    Calls Try.prog 27 #[.pointer (some ⟨b, 0, none⟩), .slice a m c] w fun r w' => r = .returned (.tuple #[]) ∧ ∃ v', Wo w' W.heap.size b (nb + 8 * m) (txt B nb Y) v' ∧ Below W.heap.size W w' := by
  have HR := Lib.hid hR
  have hm63 : (m : Int) ≤ 9223372036854775807 := by omega
  have h0 : Wo w W.heap.size b (nb + 8 * 0) (txt B nb Y) v := ⟨h.own, h.row.ext (fun i hi => by unfold txt; rw [if_pos (by omega)]), h.low⟩
  clear hR h
  go_enter Try.func27, Try.ntmps27
  go_wp2_with fail
  go_loopw [8] (fun i wr => ∃ k : Nat, i = .int .i64 k ∧ k ≤ m ∧ ∃ v1, Wo wr W.heap.size b (nb + 8 * k) (txt B nb Y) v1 ∧ Below W.heap.size W wr) (fun i _ => m - (intOf i).toNat)
  case atStart => exact ⟨0, rfl, by omega, v, h0, hW⟩
  case round =>
    clear h0 hW
    obtain ⟨k, rfl, hk, v1, h1, b1⟩ := hrel
    by_cases hlt : k < m
    · obtain ⟨bo, off, rfl, hbo, c0⟩ := HR.out.at_old b1 hlt
      have hy := hY k hlt
      have e4 : IntKind.u64.wrap ((Y k : Nat) : Int) = ((Y k : Nat) : Int) := by rw [IntKind.wrap_u64]; omega
      have e4' : ((Y k : Nat) : Int) % 18446744073709551616 = ((Y k : Nat) : Int) := by omega
      go_wp2_with fail
      refine (rput_any W.heap.size b (nb + 8 * k) (txt B nb Y) v1 (Y k) 8 _ h1 (by omega) (by omega) (by omega)).mono ?_
      rintro r w2 ⟨rfl, v2, h2, b2⟩
      go_wp2_with fail
      refine ⟨⟨k + 1, by simp, by omega, v2, ⟨h2.own, ?_, h2.low⟩, b1.trans b2⟩, by simp [intOf]; omega⟩
      rw [show nb + 8 * (k + 1) = nb + 8 * k + 8 by omega]
      exact h2.row.ext (fun i hi => by rw [txt_put B nb Y k i hi])
    · have hkm : k = m := by omega
      subst hkm
      have g4 : decide ((k : Int) < (k : Int)) = false := by simp
      go_wp2_with fail
      go_end0
      exact ⟨rfl, v1, h1, b1⟩
theorem rowof_any (m : Nat) (Y : Nat → Nat) (a : Option Addr) (c : Nat) (w : World) (hd : m ≤ 100000) (hR : Row w a m (fun i => .int .u8 (Y i : Nat))) (hY : ∀ k, k < m → Y k < 256) :
    Calls Try.prog 11 #[.slice a m c] w fun r w' => ∃ b v, r = .returned (.pointer (some ⟨b, 0, none⟩)) ∧ Wo w' w.heap.size b (8 * m) (bt Y) v ∧ Below w.heap.size w w' := by
  have h0 : Wo (w.alloc (.cells #[.slice none 0 0, .int .i64 0] 38)) w.heap.size w.heap.size 0 (fun _ => false) (.slice none 0 0) := ⟨Own.new w 38 _, Mine.nil _ _ _ _, Nat.le_refl _⟩
  have b0 := (Below.refl w.heap.size w).alloc (Nat.le_refl _) (.cells #[.slice none 0 0, .int .i64 0] 38)
  go_enter Try.func11, Try.ntmps11
  go_wp2_with fail
  refine (rowtext_any w.heap.size 0 m (fun _ => false) Y _ a c w _ h0 (by omega) hd hR b0 hY).mono ?_
  rintro r w2 ⟨rfl, v2, h2, b2⟩
  rw [show 0 + 8 * m = 8 * m by omega] at h2
  go_wp2_with fail
  go_ret
  refine ⟨_, v2, rfl, ⟨h2.own, h2.row.ext (fun i hi => ?_), h2.low⟩, b2⟩
  unfold txt bt
  rw [if_neg (by omega), Nat.sub_zero]
end Go.Proofs.Ytamooehncjceiaa.Bf
