/-
  Package route (chapter 19): a packet's bytes, taken apart: by lists alone; a reader behind so many bytes.
-/
import Derived.Test.YtcpmnfoenpdaeaaRtEnc
import Derived.Test.YtcpmnfoenpdaeaaRtOne
import Derived.Test.YtcpmnfoenpdaeaaBfDec
set_option maxRecDepth 100000
namespace Go.Proofs.Ytcpmnfoenpdaeaa.Rt
set_option linter.unusedVariables false
open Go.RowKit Lb Bf

/-- What is left behind k bytes, and the error. -/
def Sl (L : List Int) (k : Nat) : List Int := if L.length < k then [] else L.drop k
def Se (L : List Int) (k : Nat) : Int := if L.length < k then 2 else 0
theorem sl_zero (L : List Int) : Sl L 0 = L := by unfold Sl; rw [if_neg (Nat.not_lt_zero _), List.drop_zero]
theorem se_zero (L : List Int) : Se L 0 = 0 := by unfold Se; rw [if_neg (Nat.not_lt_zero _)]
theorem sl_step (L : List Int) (k m : Nat) (hm : 0 < m) : lft (Sl L k) m = Sl L (k + m) := by
  unfold lft Sl
  by_cases h : L.length < k
  · rw [if_pos h, if_pos (show ([] : List Int).length < m from hm), if_pos (by omega)]
  · rw [if_neg h, List.length_drop]
    by_cases h2 : L.length < k + m
    · rw [if_pos h2, if_pos (by omega)]
    · rw [if_neg h2, if_neg (by omega), List.drop_drop]
theorem se_step (L : List Int) (k m : Nat) (hm : 0 < m) : er (Sl L k) m (Se L k) = Se L (k + m) := by
  unfold er Sl Se fst_
  by_cases h : L.length < k
  · rw [if_pos h, if_pos (show ([] : List Int).length < m from hm), if_pos h, if_neg (by decide), if_pos (by omega)]
  · rw [if_neg h, List.length_drop, if_neg h]
    by_cases h2 : L.length < k + m
    · rw [if_pos h2, if_pos (by omega), if_pos rfl]
    · rw [if_neg h2, if_neg (by omega)]
theorem sl_at (L : List Int) (k i : Nat) : (Sl L k).getD i 0 = L.getD (k + i) 0 := by
  unfold Sl
  by_cases h : L.length < k
  · rw [if_pos h, List.getD_eq_getElem?_getD, List.getD_eq_getElem?_getD, List.getElem?_eq_none (by omega : L.length ≤ k + i)]
    rfl
  · rw [if_neg h]
    exact lft_get
theorem sl_len (L : List Int) (k : Nat) : (Sl L k).length = L.length - k := by
  unfold Sl
  split
  · simp; omega
  · rw [List.length_drop]
theorem end_two (L : List Int) (k : Nat) : endE (Sl L k) (Se L k) = if L.length < k then 2 else if L.length = k then 0 else 3 := by
  unfold endE Se
  by_cases h : L.length < k
  · rw [if_pos h, if_pos h, if_neg (by decide)]
  · rw [if_neg h, if_neg h, if_pos rfl]
    by_cases h2 : L.length = k
    · have h3 : Sl L k = [] := List.eq_nil_of_length_eq_zero (by rw [sl_len]; omega)
      rw [if_pos h3, if_pos h2]
    · have h3 : Sl L k ≠ [] := fun e => by
        have := sl_len L k
        rw [e] at this
        simp at this
        omega
      rw [if_neg h3, if_neg h2]
/-- The packet that the bytes tell, if they tell one. -/
def decP (L : List Int) (x : Nat) : Pk :=
  { f := L.getD 0 0, t := L.getD 1 0, n := x, life := L.getD 8 0, path := (L.drop 10).take (L.getD 9 0).toNat, data := (L.drop (11 + (L.getD 9 0).toNat)).take (L.getD (10 + (L.getD 9 0).toNat) 0).toNat }
theorem six_of : ∀ l : List Int, l.length = 6 → ∃ b0 b1 b2 b3 b4 b5, l = [b0, b1, b2, b3, b4, b5]
  | [b0, b1, b2, b3, b4, b5], _ => ⟨b0, b1, b2, b3, b4, b5, rfl⟩
theorem enc_shape (p : Pk) : ∃ b0 b1 b2 b3 b4 b5, bytesK p.n.toNat 6 = [b0, b1, b2, b3, b4, b5] ∧ encB p = p.f :: p.t :: b0 :: b1 :: b2 :: b3 :: b4 :: b5 :: p.life :: (p.path.length : Int) :: (p.path ++ ((p.data.length : Int) :: p.data)) := by
  obtain ⟨b0, b1, b2, b3, b4, b5, h⟩ := six_of (bytesK p.n.toNat 6) (bytesK_len _ _)
  refine ⟨b0, b1, b2, b3, b4, b5, h, ?_⟩
  unfold encB encH
  rw [h]
  simp
theorem dec_enc {p : Pk} (hp : mayK p = true) {L : List Int} (hL : encB p = L) :
    L.getD 0 0 = p.f ∧ L.getD 1 0 = p.t ∧ (L.drop 2).take 6 = bytesK p.n.toNat 6 ∧ L.getD 8 0 = p.life ∧ L.getD 9 0 = (p.path.length : Int) ∧ (L.drop 10).take p.path.length = p.path ∧
    L.getD (10 + p.path.length) 0 = (p.data.length : Int) ∧ (L.drop (11 + p.path.length)).take p.data.length = p.data ∧ L.length = 11 + p.path.length + p.data.length := by
  obtain ⟨b0, b1, b2, b3, b4, b5, hb, he⟩ := enc_shape p
  have hlen := encB_len p
  rw [hL] at he hlen
  have hd : L.drop 10 = p.path ++ ((p.data.length : Int) :: p.data) := by rw [he]; rfl
  refine ⟨by rw [he]; rfl, by rw [he]; rfl, by rw [he, hb]; rfl, by rw [he]; rfl, by rw [he]; rfl, ?_, ?_, ?_, hlen⟩
  · rw [hd, List.take_left]
  · have : L.getD (10 + p.path.length) 0 = (L.drop 10).getD p.path.length 0 := lft_get.symm
    rw [this, hd, List.getD_eq_getElem?_getD, List.getElem?_append_right (Nat.le_refl _), Nat.sub_self]
    rfl
  · have : L.drop (11 + p.path.length) = p.data := by
      have h1 : L.drop (11 + p.path.length) = ((L.drop 10).drop p.path.length).drop 1 := by
        rw [List.drop_drop, List.drop_drop]
        congr 1
        omega
      rw [h1, hd, List.drop_left]
      rfl
    rw [this, List.take_length]
theorem tk_add (L : List Int) (k m : Nat) : L.take (k + m) = L.take k ++ (L.drop k).take m := List.take_add
/-- What is taken apart is laid as it was. -/
theorem enc_dec {L : List Int} {x h s : Nat} (hx : bytesK x 6 = (L.drop 2).take 6) (hh : L.getD 9 0 = (h : Int)) (hs : L.getD (10 + h) 0 = (s : Int)) (hl : L.length = 11 + h + s) : encB (decP L x) = L := by
  have hp : ((L.drop 10).take h).length = h := by rw [List.length_take, List.length_drop]; omega
  have hd : ((L.drop (11 + h)).take s).length = s := by rw [List.length_take, List.length_drop]; omega
  have e : L = L.take (11 + h + s) := by rw [← hl, List.take_length]
  unfold encB encH decP
  simp only [hh, Int.toNat_natCast, hs, hp, hd, hx]
  have t1 := tk_snoc (l := L) (k := 0) (by omega)
  have t2 := tk_snoc (l := L) (k := 1) (by omega)
  have t3 := tk_add L 2 6
  have t4 := tk_snoc (l := L) (k := 8) (by omega)
  have t5 := tk_snoc (l := L) (k := 9) (by omega)
  have t6 := tk_add L 10 h
  have t7 := tk_snoc (l := L) (k := 10 + h) (by omega)
  have t8 := tk_add L (11 + h) s
  conv => rhs; rw [e, t8, show 11 + h = 10 + h + 1 by omega, t7, t6, t5, t4, show (8 : Nat) = 2 + 6 from rfl, t3, t2, t1, hh, hs]
  simp
  rw [show 10 + h + 1 = 11 + h by omega]
end Go.Proofs.Ytcpmnfoenpdaeaa.Rt
