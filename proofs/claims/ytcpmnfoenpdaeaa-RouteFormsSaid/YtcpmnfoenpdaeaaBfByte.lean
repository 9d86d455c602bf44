/-
  Package bits: a writer that stands at whole bytes: its bytes as a list; numbers of whole bytes, texts put there.
-/
import Derived.Test.YtcpmnfoenpdaeaaBfLaws
import Derived.Deep.Cut
import Derived.Deep.CutRange
set_option maxRecDepth 100000
namespace Go.Proofs.Ytcpmnfoenpdaeaa.Bf
set_option linter.unusedVariables false
open Go.RowKit Lb Go.Shelf

/-- N's lowest k bytes, the highest first. -/
def bytesK (N k : Nat) : List Int := (List.range k).map fun t => (((N >>> (8 * (k - 1 - t))) % 256 : Nat) : Int)
theorem bytesK_len (N k : Nat) : (bytesK N k).length = k := by simp [bytesK]
theorem bytesK_at (N k t : Nat) (h : t < k) : (bytesK N k).getD t 0 = (((N >>> (8 * (k - 1 - t))) % 256 : Nat) : Int) := by
  simp [bytesK, List.getD, h]
theorem bytesK_one (N : Nat) (h : N < 256) : bytesK N 1 = [(N : Int)] := by
  simp [bytesK, Nat.mod_eq_of_lt h]
/-- A writer at whole bytes: its bytes. -/
def Wb (w : World) (base b : Nat) (l : List Int) (v : Value) : Prop := ∃ Z B, Wr w base b (8 * l.length) l.length Z B v ∧ ∀ k, k < l.length → (Z k : Int) = l.getD k 0
theorem Wb.below {w w' : World} {base b : Nat} {l : List Int} {v : Value} (h : Wb w base b l v) (j : Below w.heap.size w w') : Wb w' base b l v := by
  obtain ⟨Z, B, h1, h2⟩ := h
  exact ⟨Z, B, h1.below j, h2⟩
theorem getD_app {l m : List Int} {k : Nat} : (l ++ m).getD k 0 = if k < l.length then l.getD k 0 else m.getD (k - l.length) 0 := by
  rw [List.getD_eq_getElem?_getD, List.getElem?_append]
  split <;> rw [List.getD_eq_getElem?_getD]
theorem str_put {n n' N k : Nat} {Z Z' : Nat → Nat} {B : Nat → Bool} (h : Str n (8 * n) Z B) (h' : Str n' (8 * n + 8 * k) Z' (app B (8 * n) N (8 * k))) (hn : n' = n + k) :
    (∀ q, q < n → Z' q = Z q) ∧ ∀ t, t < k → Z' (n + t) = (N >>> (8 * (k - 1 - t))) % 256 := by
  subst hn
  constructor
  · intro q hq
    refine eq_byte (h'.lt q (by omega)) (h.lt q hq) (fun i hi => ?_)
    rw [h'.bit q (by omega) i hi, h.bit q hq i hi]
    unfold app
    rw [if_pos (by omega)]
    simp [show 8 * q + i < 8 * n + 8 * k by omega, show 8 * q + i < 8 * n by omega]
  · intro t ht
    refine eq_byte (h'.lt _ (by omega)) (Nat.mod_lt _ (by decide)) (fun i hi => ?_)
    rw [h'.bit _ (by omega) i hi]
    unfold app
    rw [if_neg (by omega), show (256 : Nat) = 2 ^ 8 from rfl, Nat.testBit_mod_two_pow, Nat.testBit_shiftRight]
    simp only [show 8 * (n + t) + i < 8 * n + 8 * k by omega, show 7 - i < 8 by omega, decide_true, Bool.true_and]
    congr 1
    omega
theorem putk_any (base b : Nat) (l : List Int) (v : Value) (N k : Nat) (w : World) (h : Wb w base b l v) (hN : N < 18446744073709551616) (hk : k ≤ 8) (hl : l.length ≤ 100000) :
    Calls Try.prog 28 #[.pointer (some ⟨b, 0, none⟩), .int .u64 (N : Nat), .int .i64 ((8 * k : Nat) : Int)] w fun r w' => r = .returned (.tuple #[]) ∧ ∃ v', Wb w' base b (l ++ bytesK N k) v' ∧ Below base w w' ∧ Lone w w' b v v' := by
  obtain ⟨Z, B, h1, h2⟩ := h
  refine (put_any base b (8 * l.length) l.length Z B v N (8 * k) w h1 hN (by omega) (by omega)).mono ?_
  rintro r w' ⟨rfl, n', Z', v', h3, b3, l3⟩
  have hn : n' = l.length + k := by have := h3.le; have := h3.lt; omega
  obtain ⟨p1, p2⟩ := str_put h1.str h3.str hn
  have hlen : (l ++ bytesK N k).length = l.length + k := by rw [List.length_append, bytesK_len]
  refine ⟨rfl, v', ⟨Z', app B (8 * l.length) N (8 * k), ?_, fun q hq => ?_⟩, b3, l3⟩
  · rw [hlen, ← hn, show 8 * n' = 8 * l.length + 8 * k by omega]
    exact h3
  · rw [hlen] at hq
    rw [getD_app]
    by_cases e : q < l.length
    · rw [if_pos e, p1 q e, h2 q e]
    · rw [if_neg e, bytesK_at _ _ _ (by omega), ← p2 (q - l.length) (by omega), show l.length + (q - l.length) = q by omega]
theorem str_text {n m : Nat} {Z : Nat → Nat} {B : Nat → Bool} {Y : Nat → Nat} (h : Str n (8 * n) Z B) (hY : ∀ k, k < m → Y k < 256) :
    Str (n + m) (8 * n + 8 * m) (fun k => if k < n then Z k else Y (k - n)) (fun p => if p < 8 * n then B p else (Y (p / 8 - n)).testBit (7 - p % 8)) where
  lt k hk := by
    by_cases e : k < n
    · rw [if_pos e]; exact h.lt k e
    · rw [if_neg e]; exact hY _ (by omega)
  bit k hk i hi := by
    by_cases e : k < n
    · rw [if_pos e, h.bit k e i hi, if_pos (by omega)]
      simp [show 8 * k + i < 8 * n by omega, show 8 * k + i < 8 * n + 8 * m by omega]
    · rw [if_neg e, if_neg (by omega), show (8 * k + i) / 8 = k by omega, show (8 * k + i) % 8 = i by omega]
      simp [show 8 * k + i < 8 * n + 8 * m by omega]
theorem row_ext {w : World} {a : Option Addr} {n : Nat} {V U : Nat → Value} (h : Row w a n V) (hv : ∀ i, i < n → V i = U i) : Row w a n U := by
  intro hn
  obtain ⟨b, off, h1, h2, h3⟩ := h hn
  exact ⟨b, off, h1, h2, fun i hi => by rw [h3 i hi, hv i hi]⟩
set_option maxHeartbeats 2000000 in
theorem textb_any (base b : Nat) (l dl : List Int) (v : Value) (a : Option Addr) (c : Nat) (w : World) (h : Wb w base b l v) (hl : l.length ≤ 100000) (hd : dl.length ≤ 100000) (hR : Row w a dl.length (fun i => .int .u8 (dl.getD i 0))) (hB : ∀ x, x ∈ dl → 0 ≤ x ∧ x < 256) :
    Calls Try.prog 29 #[.pointer (some ⟨b, 0, none⟩), .slice a dl.length c] w fun r w' => r = .returned (.tuple #[]) ∧ ∃ v', Wb w' base b (l ++ dl) v' ∧ Below base w w' ∧ Lone w w' b v v' := by
  obtain ⟨i0, hi0, hz0, hz1, hz2⟩ := info_parts infoB
  obtain ⟨Z, B, h1, h2⟩ := h
  have hbase : base ≤ w.heap.size := by have := h1.own.lt; have := h1.low; omega
  obtain ⟨va, vc, rfl, hc1, hm1, hR1⟩ := h1.row.row
  have k0 : w.cell? ⟨b, 0, none⟩ = some (.slice va l.length vc) := h1.own.cell 0
  have k1 : w.cell? ⟨b, 1, none⟩ = some (.int .i64 ((8 * l.length : Nat) : Int)) := h1.own.cell 1
  have hob : (Value.slice va l.length vc).ownBlock ≠ some b := fun e => by
    obtain ⟨_, h9⟩ := h1.row
    rcases h9 with ⟨hv, _⟩ | ⟨g, cap, cur, hv, _, hh, _⟩
    · rw [hv] at e
      cases e
    · rw [hv] at e
      have e : some g = some b := e
      injection e with e
      subst e
      exact absurd (own_type h1.own hh) (by decide)
  have HH := Lib.hid h1
  have HBY : ∀ k, k < dl.length → 0 ≤ dl.getD k 0 ∧ dl.getD k 0 < 256 := fun k hk => by
    rw [List.getD_eq_getElem?_getD, List.getElem?_eq_getElem hk]
    exact hB _ (List.getElem_mem hk)
  have HBY := Lib.hid HBY
  obtain ⟨n, hn⟩ : ∃ n, l.length = n := ⟨_, rfl⟩
  rw [hn] at hob
  have HOB := Lib.hid hob
  obtain ⟨m, hm⟩ : ∃ m, dl.length = m := ⟨_, rfl⟩
  have HN := Lib.hid hn
  have HM := Lib.hid hm
  have hrow := h1.row
  rw [hn] at k0 k1 hrow hl hc1
  rw [hm] at hR hd ⊢
  have hYe : ∃ Y : Nat → Nat, ∀ k, k < m → (Y k : Int) = dl.getD k 0 ∧ Y k < 256 := ⟨fun k => (dl.getD k 0).toNat, fun k hk => by
    have := HBY.out k (by rw [HM.out]; exact hk)
    show (((dl.getD k 0).toNat : Nat) : Int) = dl.getD k 0 ∧ (dl.getD k 0).toNat < 256
    constructor <;> omega⟩
  obtain ⟨Y, hY⟩ := hYe
  have hR := row_ext (U := fun i => .int .u8 ((Y i : Nat) : Int)) hR (fun i hi => by rw [(hY i hi).1])
  have HY := Lib.hid hY
  clear hY
  have e1 : (((8 * n : Nat) : Int).tmod 8 == 0) = true := by
    rw [Int.tmod_eq_emod_of_nonneg (by omega)]
    simp
  have e2 : (((8 * n : Nat) : Int) % 8 == 0) = true := by simp
  clear hn hm hob h1
  go_enter Try.func29, Try.ntmps29
  go_wp2_with (at_builtin; go_must (refine wp_app_at rfl (.tmp 18) (.tmp 19) _ rfl base 5 i0 _ 1 Try.underlying23 hi0 hz0 hz1 hz2 rfl _ n _ rfl hrow _ m _ _ rfl hR (fun _ _ => rfl) ?c1 ?c2 ?c3 ?_))
  case c1 => unfold maxLen; omega
  case c2 => omega
  case c3 => exact hbase
  intro v5 w5 m5 g5 q5
  have o5 := grown_own g5 HH.out.own HOB.out
  have b5 : Below base w w5 := (Below.refl base w).grown g5 hbase (fun q e => (hrow.lt q e).1)
  have l5 : Lone w w5 b (.slice va n vc) v5 := (Lone.refl w b (.slice va n vc)).grown (Nat.le_refl _) g5 q5
  have m6 := m5.ext (U := fun i => .int .u8 ((if i < n then Z i else Y (i - n) : Nat) : Int)) (fun i hi => by
    by_cases e : i < n
    · rw [if_pos e, if_pos e]
    · rw [if_neg e, if_neg e])
  obtain ⟨a5, c5, rfl, hc5, hd5, hR5⟩ := m6.row
  have x0 : w5.cell? ⟨b, 0, none⟩ = some (.slice va n vc) := (o5.cell 0).trans (by rw [← HN.out]; rfl)
  have x9 : w5.frozen? ⟨b, 0, none⟩ = false := o5.free 0
  have hne : (Value.slice a5 (n + m) c5).ownBlock ≠ some b := fun e => by
    obtain ⟨_, h9⟩ := m6
    rcases h9 with ⟨hv, _⟩ | ⟨g, cap, cur, hv, _, hh, _⟩
    · rw [hv] at e
      cases e
    · rw [hv] at e
      have e : some g = some b := e
      injection e with e
      subst e
      exact absurd (own_type o5 hh) (by decide)
  have o6 := o5.put 0 (.slice a5 (n + m) c5)
  have m7 := m6.other (p := ⟨b, 0, none⟩) hne (.slice a5 (n + m) c5)
  have hbl : base ≤ b := HH.out.low
  have b6 := (Just.set b w5 0 (.slice a5 (n + m) c5)).below b5 hbl (Nat.le_trans hbase b5.size)
  have l6 := l5.put b5.size (.inl rfl) 0 (.slice a5 (n + m) c5) (g := b)
  clear m5 m6 g5 q5 hR5 hrow b5 l5
  go_upto_region 3 with (fail)
  generalize w5.setCell ⟨b, 0, none⟩ (.slice a5 (n + m) c5) = w6 at *
  clear x0 x9 o5 k0 k1
  have k1 : w6.cell? ⟨b, 1, none⟩ = some (.int .i64 ((8 * n : Nat) : Int)) := (o6.cell 1).trans (by rw [← HN.out]; rfl)
  have k9 : w6.frozen? ⟨b, 1, none⟩ = false := o6.free 1
  have o7 := o6.put 1 (.int .i64 (8 * (n : Int) + (m : Int) * 8))
  have m8 := m7.other (p := ⟨b, 1, none⟩) hne (.int .i64 (8 * (n : Int) + (m : Int) * 8))
  have b7 := (Just.set b w6 1 (.int .i64 (8 * (n : Int) + (m : Int) * 8))).below b6 hbl (Nat.le_trans hbase b6.size)
  have l7 := l6.put b6.size (.inl rfl) 1 (.int .i64 (8 * (n : Int) + (m : Int) * 8)) (g := b)
  go_wp2_with fail
  refine bodyPost_ret (results_none rfl _ _ _) rfl ?_
  have hlen : (l ++ dl).length = n + m := by rw [List.length_append, HN.out, HM.out]
  have hstr := str_text (n := n) (m := m) (Z := Z) (B := B) (Y := Y) (by have := HH.out.str; rw [HN.out] at this; exact this) (fun k hk => (HY.out k hk).2)
  have e8 : 8 * (n : Int) + (m : Int) * 8 = ((8 * (n + m) : Nat) : Int) := by omega
  refine ⟨rfl, .slice a5 (n + m) c5, ⟨fun k => if k < n then Z k else Y (k - n), fun p => if p < 8 * n then B p else (Y (p / 8 - n)).testBit (7 - p % 8), ⟨⟨?_, ?_, ?_, hbl⟩, ?_, ?_⟩, fun k hk => ?_⟩, b7, ?_⟩
  · rw [hlen, ← e8]
    exact o7
  · rw [hlen]
    exact m8
  · rw [hlen, show 8 * (n + m) = 8 * n + 8 * m by omega]
    exact hstr
  · rw [hlen]
    omega
  · rw [hlen]
    omega
  · rw [hlen] at hk
    rw [getD_app, HN.out]
    by_cases e : k < n
    · simp only [if_pos e]
      exact h2 k (by rw [HN.out]; exact e)
    · simp only [if_neg e]
      exact (HY.out (k - n) (by omega)).1
  · rw [HN.out]
    exact l7
end Go.Proofs.Ytcpmnfoenpdaeaa.Bf
