/-
  Package bits: a reader that stands at whole bytes: what is left as a list; bytes, numbers of six bytes, texts taken; its end.
-/
import Derived.Test.YtcpmnfoenpdaeaaBfByte
import Derived.Test.YtcpmnfoenpdaeaaBfText
set_option maxRecDepth 100000
namespace Go.Proofs.Ytcpmnfoenpdaeaa.Bf
set_option linter.unusedVariables false
open Go.RowKit Lb Go.Shelf

/-- A reader at whole bytes: what is left, the error that was met. -/
def Rb (w : World) (base b : Nat) (l : List Int) (err : Int) : Prop := ∃ j n Z v, Rd w base b (8 * j) n Z err v ∧ j + l.length = n ∧ n ≤ 100000 ∧ ∀ k, k < l.length → (Z (j + k) : Int) = l.getD k 0
theorem Rd.below {w w' : World} {base b at_ n : Nat} {Z : Nat → Nat} {err : Int} {v : Value} (h : Rd w base b at_ n Z err v) (j : Below w.heap.size w w') : Rd w' base b at_ n Z err v :=
  ⟨below_own j h.own h.own.lt, h.row.kept (fun q _ => if hl : q < w.heap.size then .inl (j.block q hl) else .inr (fun e => hl (h.row.lt q e).2)), h.lt, h.low⟩
theorem Rb.below {w w' : World} {base b : Nat} {l : List Int} {err : Int} (h : Rb w base b l err) (j : Below w.heap.size w w') : Rb w' base b l err := by
  obtain ⟨q, n, Z, v, h1, h2⟩ := h
  exact ⟨q, n, Z, v, h1.below j, h2⟩
theorem Rb.drewN {w : World} {base b : Nat} {l : List Int} {err : Int} (h : Rb w base b l err) (m : Nat) : Rb (w.drewN m) base b l err := by
  obtain ⟨q, n, Z, v, h1, h2⟩ := h
  exact ⟨q, n, Z, v, h1.drewN m, h2⟩
theorem rb_nil {w : World} {base b : Nat} {Z : Nat → Nat} {err : Int} (h : Rd w base b 0 0 Z err (.slice none 0 0)) : Rb w base b [] err := ⟨0, 0, Z, _, h, rfl, by omega, fun k hk => by simp at hk⟩
theorem num_byte {Z : Nat → Nat} {j : Nat} (h : Z j < 256) : Num (Z j) 8 (bt Z) (8 * j) where
  lt := h
  bit t ht := by
    unfold bt
    rw [show (8 * j + (8 - 1 - t)) / 8 = j by omega, show 7 - (8 * j + (8 - 1 - t)) % 8 = t by omega]
theorem num_bytes {Z : Nat → Nat} {x j : Nat} (h : Num x 48 (bt Z) (8 * j)) (hz : ∀ t, t < 6 → Z (j + t) < 256) : ∀ t, t < 6 → (x >>> (8 * (6 - 1 - t))) % 256 = Z (j + t) := fun t ht => by
  refine Nat.eq_of_testBit_eq fun i => ?_
  rw [show (256 : Nat) = 2 ^ 8 from rfl, Nat.testBit_mod_two_pow, Nat.testBit_shiftRight]
  by_cases hi : i < 8
  · rw [h.bit _ (by omega)]
    unfold bt
    rw [show (8 * j + (48 - 1 - (8 * (6 - 1 - t) + i))) / 8 = j + t by omega, show 7 - (8 * j + (48 - 1 - (8 * (6 - 1 - t) + i))) % 8 = i by omega]
    simp [hi]
  · have : (Z (j + t)).testBit i = false := Nat.testBit_lt_two_pow (Nat.lt_of_lt_of_le (hz t ht) (show 2 ^ 8 ≤ 2 ^ i from Nat.pow_le_pow_right (by decide) (by omega)))
    simp [hi, this]
/-- The error behind a taking of k bytes. -/
def er (l : List Int) (k : Nat) (err : Int) : Int := if l.length < k then fst_ err 2 else err
def lft (l : List Int) (k : Nat) : List Int := if l.length < k then [] else l.drop k
theorem lft_get {l : List Int} {k q : Nat} : (l.drop k).getD q 0 = l.getD (k + q) 0 := by
  rw [List.getD_eq_getElem?_getD, List.getD_eq_getElem?_getD, List.getElem?_drop]
theorem Rb.skip {w : World} {base b j n k : Nat} {Z : Nat → Nat} {v : Value} {l : List Int} {err : Int} (h : Rd w base b (8 * j + 8 * k) n Z err v) (h1 : j + l.length = n) (h2 : n ≤ 100000) (h3 : ∀ q, q < l.length → (Z (j + q) : Int) = l.getD q 0) (hk : k ≤ l.length) : Rb w base b (l.drop k) err :=
  ⟨j + k, n, Z, v, by rw [show 8 * (j + k) = 8 * j + 8 * k by omega]; exact h, by rw [List.length_drop]; omega, h2, fun q hq => by
    rw [List.length_drop] at hq
    rw [lft_get, ← h3 (k + q) (by omega), Nat.add_assoc]⟩
theorem take8_any (base b : Nat) (l : List Int) (err : Int) (w : World) (h : Rb w base b l err) :
    Calls Try.prog 45 #[.pointer (some ⟨b, 0, none⟩), .int .i64 8] w fun r w' => r = .returned (.int .u64 (l.getD 0 0)) ∧ Rb w' base b (lft l 1) (er l 1 err) ∧ Just b w w' := by
  obtain ⟨j, n, Z, v, h1, h2, h3, h4⟩ := h
  unfold lft er
  by_cases hl : l.length < 1
  · rw [if_pos hl, if_pos hl]
    refine (shortJ base b (8 * j) n Z err v 8 w h1 (by omega) (by omega) (by omega) h3).mono ?_
    rintro r w' ⟨rfl, h5, b5⟩
    have e0 : l.getD 0 0 = 0 := by rw [List.getD_eq_getElem?_getD, List.getElem?_eq_none (by omega)]; rfl
    rw [e0]
    exact ⟨rfl, rb_nil h5, b5⟩
  · rw [if_neg hl, if_neg hl]
    refine (takeJ base b (8 * j) n Z err v 8 w h1 (by omega) (by omega) h3).mono ?_
    rintro r w' ⟨x, rfl, hx, h5, b5⟩
    have ex : x = Z j := hx.uniq (num_byte (h1.lt j (by omega)))
    have e4 := h4 0 (by omega)
    rw [Nat.add_zero] at e4
    refine ⟨by rw [ex, e4], ?_, b5⟩
    exact Rb.skip (k := 1) (by rw [show 8 * j + 8 * 1 = 8 * j + 8 by omega]; exact h5) h2 h3 h4 (by omega)
theorem take48_any (base b : Nat) (l : List Int) (err : Int) (w : World) (h : Rb w base b l err) :
    Calls Try.prog 45 #[.pointer (some ⟨b, 0, none⟩), .int .i64 48] w fun r w' => ∃ x : Nat, r = .returned (.int .u64 (x : Nat)) ∧ x < 281474976710656 ∧ (6 ≤ l.length → bytesK x 6 = l.take 6) ∧ Rb w' base b (lft l 6) (er l 6 err) ∧ Just b w w' := by
  obtain ⟨j, n, Z, v, h1, h2, h3, h4⟩ := h
  unfold lft er
  by_cases hl : l.length < 6
  · rw [if_pos hl, if_pos hl]
    refine (shortJ base b (8 * j) n Z err v 48 w h1 (by omega) (by omega) (by omega) h3).mono ?_
    rintro r w' ⟨rfl, h5, b5⟩
    exact ⟨0, rfl, by omega, fun h => by omega, rb_nil h5, b5⟩
  · rw [if_neg hl, if_neg hl]
    refine (takeJ base b (8 * j) n Z err v 48 w h1 (by omega) (by omega) h3).mono ?_
    rintro r w' ⟨x, rfl, hx, h5, b5⟩
    have hb := num_bytes hx (fun t ht => h1.lt (j + t) (by omega))
    refine ⟨x, rfl, hx.lt, fun _ => ?_, ?_, b5⟩
    · apply List.ext_getElem
      · rw [bytesK_len, List.length_take]; omega
      · intro t ht1 ht2
        rw [bytesK_len] at ht1
        have e1 := bytesK_at x 6 t ht1
        rw [hb t ht1, h4 t (by omega), List.getD_eq_getElem?_getD, List.getElem?_eq_getElem (by rw [bytesK_len]; exact ht1)] at e1
        rw [List.getD_eq_getElem?_getD, List.getElem?_eq_getElem (by omega)] at e1
        simp only [Option.getD_some] at e1
        rw [e1, List.getElem_take]
    · exact Rb.skip (k := 6) (by rw [show 8 * j + 8 * 6 = 8 * j + 48 by omega]; exact h5) h2 h3 h4 (by omega)
/-- A text of whole bytes: there, in a row of its own; or too short. -/
theorem textb_J (base b : Nat) (l : List Int) (err : Int) (x : Nat) (w : World) (h : Rb w base b l err) (hx : 0 < x) :
    Calls Try.prog 47 #[.pointer (some ⟨b, 0, none⟩), .int .i64 (x : Nat)] w fun r w' =>
      Rb w' base b (lft l x) (er l x err) ∧ Just b w w' ∧ ((x ≤ l.length ∧ r = .returned (.slice (some ⟨w.heap.size, 0, none⟩) x x) ∧ Blk w' w.heap.size 5 x (fun i => .int .u8 (l.getD i 0))) ∨ (l.length < x ∧ r = .returned (.slice none 0 0))) := by
  obtain ⟨j, n, Z, v, h1, h2, h3, h4⟩ := h
  unfold lft er
  by_cases hl : l.length < x
  · rw [if_pos hl, if_pos hl]
    refine (textShortJ base b (8 * j) n Z err (x : Int) v w h1 (by omega) (by omega) (by rw [Int.toNat_natCast]; omega) h3).mono ?_
    rintro r w' ⟨rfl, h5, b5⟩
    exact ⟨rb_nil h5, b5, .inr ⟨hl, rfl⟩⟩
  · rw [if_neg hl, if_neg hl]
    refine (textJ base b j n x Z err v w h1 hx (by omega) h3).mono ?_
    rintro r w' ⟨rfl, hB, h5, b5⟩
    refine ⟨Rb.skip (k := x) h5 h2 h3 h4 (by omega), b5, .inl ⟨by omega, rfl, hB.ext (fun i hi => by rw [h4 i (by omega)])⟩⟩
/-- What End tells. -/
def endE (l : List Int) (err : Int) : Int := if err = 0 then (if l = [] then 0 else 3) else err
theorem endb_any (base b : Nat) (l : List Int) (err : Int) (w : World) (h : Rb w base b l err) :
    Calls Try.prog 46 #[.pointer (some ⟨b, 0, none⟩)] w fun r w' => r = .returned (.int .i64 (endE l err)) ∧ ∃ m, w.drewN m = w' := by
  obtain ⟨j, n, Z, v, h1, h2, h3, h4⟩ := h
  unfold endE
  by_cases he : err = 0
  · rw [if_pos he]
    subst he
    by_cases hl : l = []
    · rw [if_pos hl]
      refine end_ok base b (8 * j) n Z v w h1 ?_ h3
      subst hl
      simp at h2
      omega
    · rw [if_neg hl]
      have : l.length ≠ 0 := fun e => hl (List.length_eq_zero_iff.1 e)
      exact end_more base b (8 * j) n Z v w h1 (by omega) h3
  · rw [if_neg he]
    refine (end_err base b (8 * j) n Z err v w h1 he).mono ?_
    rintro r w' ⟨rfl, rfl⟩
    exact ⟨rfl, 0, rfl⟩
theorem newb_any (a : Option Addr) (c : Nat) (l : List Int) (w : World) (hc : l.length ≤ 100000) (hR : Row w a l.length (fun i => .int .u8 (l.getD i 0))) (hB : ∀ x, x ∈ l → 0 ≤ x ∧ x < 256) (ha : a = none → l.length = 0) :
    Calls Try.prog 43 #[.slice a l.length c] w fun r w' => ∃ b, r = .returned (.pointer (some ⟨b, 0, none⟩)) ∧ Rb w' w.heap.size b l 0 ∧ Below w.heap.size w w' ∧ w.heap.size ≤ b ∧ b < w'.heap.size := by
  have hz : ∀ k, k < l.length → 0 ≤ l.getD k 0 ∧ l.getD k 0 < 256 := fun k hk => by
    rw [List.getD_eq_getElem?_getD, List.getElem?_eq_getElem hk]
    exact hB _ (List.getElem_mem hk)
  have hR2 := row_ext (U := fun i => .int .u8 (((l.getD i 0).toNat : Nat) : Int)) hR (fun i hi => by
    have := hz i hi
    rw [show (((l.getD i 0).toNat : Nat) : Int) = l.getD i 0 by omega])
  refine (new_any a l.length c (fun i => (l.getD i 0).toNat) w hc hR2 (fun k hk => by have := hz k hk; show (l.getD k 0).toNat < 256; omega) ha).mono ?_
  rintro r w' ⟨b, v, rfl, h, b1⟩
  refine ⟨b, rfl, ⟨0, l.length, _, v, h, by omega, hc, fun k hk => ?_⟩, b1, h.low, h.own.lt⟩
  have := hz k hk
  show (((l.getD (0 + k) 0).toNat : Nat) : Int) = _
  rw [Nat.zero_add]
  omega
end Go.Proofs.Ytcpmnfoenpdaeaa.Bf
