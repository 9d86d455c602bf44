/-
  Package bits: a reader at whole bytes whose blocks lie below a bound: what is made or turned from there on leaves it alone; numbers of whole bytes taken.
-/
import Derived.Test.YtoconkgemakboaaBfDec
set_option maxRecDepth 100000
namespace Go.Proofs.Ytoconkgemakboaa.Bf
set_option linter.unusedVariables false
open Go.RowKit Lb Go.Shelf

def Rh (w : World) (base H b : Nat) (l : List Int) (err : Int) : Prop := b < H ∧ ∃ j n Z v, Rd w base b (8 * j) n Z err v ∧ (∀ q, v.ownBlock = some q → q < H) ∧ j + l.length = n ∧ n ≤ 100000 ∧ ∀ k, k < l.length → (Z (j + k) : Int) = l.getD k 0
theorem Rh.rb {w : World} {base H b : Nat} {l : List Int} {err : Int} (h : Rh w base H b l err) : Rb w base b l err := by
  obtain ⟨_, j, n, Z, v, h1, _, h2⟩ := h
  exact ⟨j, n, Z, v, h1, h2⟩
theorem Rb.hold {w : World} {base b : Nat} {l : List Int} {err : Int} (h : Rb w base b l err) : Rh w base w.heap.size b l err := by
  obtain ⟨j, n, Z, v, h1, h2⟩ := h
  exact ⟨h1.own.lt, j, n, Z, v, h1, fun q e => (h1.row.lt q e).2, h2⟩
theorem Rh.kept {w w' : World} {base H b : Nat} {l : List Int} {err : Int} (h : Rh w base H b l err) (k : Below H w w') : Rh w' base H b l err := by
  obtain ⟨hb, j, n, Z, v, h1, h2, h3⟩ := h
  refine ⟨hb, j, n, Z, v, ⟨below_own k h1.own hb, h1.row.kept (fun q _ => ?_), h1.lt, h1.low⟩, h2, h3⟩
  by_cases hq : q < H
  · exact .inl (k.block q hq)
  · exact .inr (fun e => hq (h2 q e))
theorem Rh.drewN {w : World} {base H b : Nat} {l : List Int} {err : Int} (h : Rh w base H b l err) (m : Nat) : Rh (w.drewN m) base H b l err := h.kept (below_drewN (Below.refl _ _) m)
theorem Rh.lt {w : World} {base H b : Nat} {l : List Int} {err : Int} (h : Rh w base H b l err) : b < H := h.1
theorem rh_nil {w : World} {base H b : Nat} {Z : Nat → Nat} {err : Int} (h : Rd w base b 0 0 Z err (.slice none 0 0)) (hb : b < H) : Rh w base H b [] err := ⟨hb, 0, 0, Z, _, h, (fun q e => by cases e), rfl, by omega, (fun k hk => by simp at hk)⟩
theorem Rh.skip {w : World} {base H b j n k : Nat} {Z : Nat → Nat} {v : Value} {l : List Int} {err : Int} (hb : b < H) (h : Rd w base b (8 * j + 8 * k) n Z err v) (hv : ∀ q, v.ownBlock = some q → q < H) (h1 : j + l.length = n) (h2 : n ≤ 100000) (h3 : ∀ q, q < l.length → (Z (j + q) : Int) = l.getD q 0) (hk : k ≤ l.length) : Rh w base H b (l.drop k) err :=
  ⟨hb, j + k, n, Z, v, by rw [show 8 * (j + k) = 8 * j + 8 * k by omega]; exact h, hv, by rw [List.length_drop]; omega, h2, fun q hq => by
    rw [List.length_drop] at hq
    rw [lft_get, ← h3 (k + q) (by omega), Nat.add_assoc]⟩
theorem numK_bytes {Z : Nat → Nat} {x j K : Nat} (h : Num x (8 * K) (bt Z) (8 * j)) (hz : ∀ t, t < K → Z (j + t) < 256) : ∀ t, t < K → (x >>> (8 * (K - 1 - t))) % 256 = Z (j + t) := fun t ht => by
  refine Nat.eq_of_testBit_eq fun i => ?_
  rw [show (256 : Nat) = 2 ^ 8 from rfl, Nat.testBit_mod_two_pow, Nat.testBit_shiftRight]
  by_cases hi : i < 8
  · rw [h.bit _ (by omega)]
    unfold bt
    rw [show (8 * j + (8 * K - 1 - (8 * (K - 1 - t) + i))) / 8 = j + t by omega, show 7 - (8 * j + (8 * K - 1 - (8 * (K - 1 - t) + i))) % 8 = i by omega]
    simp [hi]
  · have : (Z (j + t)).testBit i = false := Nat.testBit_lt_two_pow (Nat.lt_of_lt_of_le (hz t ht) (show 2 ^ 8 ≤ 2 ^ i from Nat.pow_le_pow_right (by decide) (by omega)))
    simp [hi, this]
theorem lefth_any (base H b : Nat) (l : List Int) (err : Int) (w : World) (h : Rh w base H b l err) :
    Calls Try.prog 61 #[.pointer (some ⟨b, 0, none⟩)] w fun r w' => r = .returned (.int .i64 ((8 * l.length : Nat) : Int)) ∧ ∃ m, w.drewN m = w' := by
  obtain ⟨hb, j, n, Z, v, h1, h2, h3, h4, h5⟩ := h
  refine (left_any base b (8 * j) n Z err v w h1 (by omega) (by omega)).mono ?_
  rintro r w' ⟨rfl, h⟩
  refine ⟨?_, h⟩
  rw [show 8 * n - 8 * j = 8 * l.length by omega]
theorem take8h_any (base H b : Nat) (l : List Int) (err : Int) (w : World) (h : Rh w base H b l err) :
    Calls Try.prog 40 #[.pointer (some ⟨b, 0, none⟩), .int .i64 8] w fun r w' => r = .returned (.int .u64 (l.getD 0 0)) ∧ Rh w' base H b (lft l 1) (er l 1 err) ∧ Just b w w' := by
  obtain ⟨hb, j, n, Z, v, h1, hv, h2, h3, h4⟩ := h
  unfold lft er
  by_cases hl : l.length < 1
  · rw [if_pos hl, if_pos hl]
    refine (shortJ base b (8 * j) n Z err v 8 w h1 (by omega) (by omega) (by omega) h3).mono ?_
    rintro r w' ⟨rfl, h5, b5⟩
    have e0 : l.getD 0 0 = 0 := by rw [List.getD_eq_getElem?_getD, List.getElem?_eq_none (by omega)]; rfl
    rw [e0]
    exact ⟨rfl, rh_nil h5 hb, b5⟩
  · rw [if_neg hl, if_neg hl]
    refine (takeJ base b (8 * j) n Z err v 8 w h1 (by omega) (by omega) h3).mono ?_
    rintro r w' ⟨x, rfl, hx, h5, b5⟩
    have ex := hx.uniq (num_byte (h1.lt j (by omega)))
    have e4 := h4 0 (by omega)
    rw [Nat.add_zero] at e4
    refine ⟨by rw [ex, e4], ?_, b5⟩
    exact Rh.skip (k := 1) hb (by rw [show 8 * j + 8 * 1 = 8 * j + 8 by omega]; exact h5) hv h2 h3 h4 (by omega)
theorem takeh_any (base H b : Nat) (l : List Int) (err : Int) (K : Nat) (w : World) (h : Rh w base H b l err) (hK : K ≤ 8) (hl : K ≤ l.length) :
    Calls Try.prog 40 #[.pointer (some ⟨b, 0, none⟩), .int .i64 ((8 * K : Nat) : Int)] w fun r w' => ∃ x : Nat, r = .returned (.int .u64 (x : Nat)) ∧ x < 256 ^ K ∧ bytesK x K = l.take K ∧ Rh w' base H b (l.drop K) err ∧ Just b w w' := by
  obtain ⟨hb, j, n, Z, v, h1, hv, h2, h3, h4⟩ := h
  refine (takeJ base b (8 * j) n Z err v (8 * K) w h1 (by omega) (by omega) h3).mono ?_
  rintro r w' ⟨x, rfl, hx, h5, b5⟩
  have hbk := numK_bytes hx (fun t ht => h1.lt (j + t) (by omega))
  refine ⟨x, rfl, ?_, ?_, ?_, b5⟩
  · have := hx.lt
    rwa [Nat.pow_mul] at this
  · apply List.ext_getElem
    · rw [bytesK_len, List.length_take]; omega
    · intro t ht1 ht2
      rw [bytesK_len] at ht1
      have e1 := bytesK_at x K t ht1
      rw [hbk t ht1, h4 t (by omega), List.getD_eq_getElem?_getD, List.getElem?_eq_getElem (by rw [bytesK_len]; exact ht1)] at e1
      rw [List.getD_eq_getElem?_getD, List.getElem?_eq_getElem (by omega)] at e1
      simp only [Option.getD_some] at e1
      rw [e1, List.getElem_take]
  · exact Rh.skip (k := K) hb h5 hv h2 h3 h4 (by omega)
end Go.Proofs.Ytoconkgemakboaa.Bf
