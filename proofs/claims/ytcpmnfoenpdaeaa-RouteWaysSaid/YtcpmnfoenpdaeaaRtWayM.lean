/-
  Package route: up a way and down the way back: what each hop makes of a packet.
-/
import Derived.Test.YtcpmnfoenpdaeaaRtUp
import Derived.Test.YtcpmnfoenpdaeaaRtAwake
import Derived.Test.YtcpmnfoenpdaeaaRtSame
set_option maxRecDepth 100000
namespace Go.Proofs.Ytcpmnfoenpdaeaa.Rt
set_option linter.unusedVariables false
open Go.RowKit Lb

theorem take_getD {l : List Int} {k i : Nat} (hi : i < k) : (l.take k).getD i 0 = l.getD i 0 := by
  rw [List.getD_eq_getElem?_getD, List.getD_eq_getElem?_getD, List.getElem?_take, if_pos hi]
theorem take_len {l : List Int} {k : Nat} (hk : k ≤ l.length) : (l.take k).length = k := by simp; omega
theorem okP_take {l : List Int} (h : okP l = true) (k : Nat) (hk : k ≤ l.length) : okP (l.take k) = true := by
  obtain ⟨h1, h2⟩ := okP_out h
  have hl := take_len hk
  refine okP_yes (by omega) (fun j hj => ?_)
  rw [hl] at hj
  rw [take_getD hj]
  exact ⟨(h2 j (by omega)).1, fun i hi => by rw [take_getD (by omega)]; exact (h2 j (by omega)).2 i hi⟩
theorem take_snoc {l : List Int} {k : Nat} (hk : k < l.length) : l.take (k + 1) = l.take k ++ [l.getD k 0] := by
  rw [List.take_succ_eq_append_getElem hk, List.getD_eq_getElem?_getD, List.getElem?_eq_getElem hk]
  rfl
theorem getD_mem {l : List Int} {k : Nat} (hk : k < l.length) : l.getD k 0 ∈ l := by
  rw [List.getD_eq_getElem?_getD, List.getElem?_eq_getElem hk]
  exact List.getElem_mem hk
theorem atI_ne {l : List Int} {x : Int} (h : atI l x < 0) {k : Nat} (hk : k < l.length) : l.getD k 0 ≠ x := fun e => by
  unfold atI at h
  rw [if_pos] at h
  · omega
  · exact List.idxOf_lt_length_iff.2 (e ▸ getD_mem hk)
/-- The packet behind j hops up. -/
def upP (l dl : List Int) (n life : Int) (j : Nat) : Pk := ⟨l.getD 0 0, 0, n, life - j, l.take (j + 1), dl⟩
structure Way (l dl : List Int) (n life : Int) : Prop where
  ok : okP l = true
  two : 2 ≤ l.length
  few : l.length ≤ 15
  no0 : atI l 0 < 0
  d1 : 1 ≤ dl.length
  d2 : dl.length ≤ 24
  n0 : 0 ≤ n
  n1 : n < 1000000
  l0 : 0 ≤ life
  l1 : life ≤ 15
theorem Way.node {l dl : List Int} {n life : Int} (h : Way l dl n life) {k : Nat} (hk : k < l.length) : ndB (l.getD k 0) = true := ((okP_out h.ok).2 k hk).1
theorem upP_may {l dl : List Int} {n life : Int} (h : Way l dl n life) {j : Nat} (hj : j < l.length) (hl : (j : Int) ≤ life) : mayK (upP l dl n life j) = true := by
  have h1 := h.node (show 0 < l.length by have := h.two; omega)
  have h2 := atI_ne h.no0 (show 0 < l.length by have := h.two; omega)
  have h3 := okP_take h.ok (j + 1) (by omega)
  have := h.n0
  have := h.n1
  have := h.l0
  have := h.l1
  have := h.d1
  have := h.d2
  have e1 : (l.getD 0 0 != 0) = true := by simpa using h2
  unfold mayK upP
  simp only [h1, h3, e1, Bool.true_and, Bool.and_eq_true, decide_eq_true_eq]
  refine ⟨by decide, by omega, by omega, by omega, by omega, by omega, by omega⟩
theorem up_hop {l dl : List Int} {n life : Int} (h : Way l dl n life) {j : Nat} (hj : j + 1 < l.length) (hl : (j : Int) < life) : upR (upP l dl n life j) (l.getD (j + 1) 0) = (upP l dl n life (j + 1), 0) := by
  have hm := upP_may h (show j < l.length by omega) (by omega)
  have hn := h.node hj
  have hlen : (l.take (j + 1)).length = j + 1 := take_len (by omega)
  have hat : ¬ 0 ≤ atI (l.take (j + 1)) (l.getD (j + 1) 0) := by
    rw [atI_no (fun i hi => ?_)]
    · decide
    · rw [hlen] at hi
      rw [take_getD hi]
      exact ((okP_out h.ok).2 (j + 1) hj).2 i hi
  unfold upR
  rw [if_neg (by rw [hm, hn]; simp), if_neg (by show ¬ life - (j : Int) = 0; omega), if_neg (show ¬ 0 ≤ atI (upP l dl n life j).path (l.getD (j + 1) 0) from hat), if_neg (by show ¬ 16 ≤ (l.take (j + 1)).length; rw [hlen]; have := h.few; omega)]
  unfold moreP lessP upP
  rw [take_snoc (k := j + 1) hj]
  show (Pk.mk (l.getD 0 0) 0 n (life - (j : Int) - 1) (l.take (j + 1) ++ [l.getD (j + 1) 0]) dl, (0 : Int)) = _
  rw [show life - (j : Int) - 1 = life - ((j + 1 : Nat) : Int) by omega]
theorem up_end {l dl : List Int} {n life : Int} (h : Way l dl n life) {j : Nat} (hj : j + 1 < l.length) (hl : (j : Int) = life) : upR (upP l dl n life j) (l.getD (j + 1) 0) = (noP, 11) := by
  have hm := upP_may h (show j < l.length by omega) (by omega)
  have hn := h.node hj
  unfold upR
  rw [if_neg (by rw [hm, hn]; simp), if_pos (by show life - (j : Int) = 0; omega)]
/-- The way back, with the root ahead. -/
def dnL (l : List Int) : List Int := 0 :: l.reverse
theorem dn_len (l : List Int) : (dnL l).length = l.length + 1 := by simp [dnL]
theorem dn_zero (l : List Int) : (dnL l).getD 0 0 = 0 := rfl
theorem dn_at {l : List Int} {k : Nat} (hk : k < l.length) : (dnL l).getD (k + 1) 0 = l.getD (l.length - 1 - k) 0 := by
  unfold dnL
  rw [List.getD_cons_succ, List.getD_eq_getElem?_getD, List.getD_eq_getElem?_getD, List.getElem?_reverse hk]
theorem dn_ok {l dl : List Int} {n life : Int} (h : Way l dl n life) : okP (dnL l) = true := by
  have h2 := (okP_out h.ok).2
  have hf := h.few
  refine okP_yes (by rw [dn_len]; omega) (fun j hj => ?_)
  rw [dn_len] at hj
  cases j with
  | zero => exact ⟨by rw [dn_zero]; decide, fun i hi => by omega⟩
  | succ j =>
    rw [dn_at (by omega)]
    refine ⟨(h2 _ (by omega)).1, fun i hi => ?_⟩
    cases i with
    | zero =>
      rw [dn_zero]
      exact fun e => atI_ne h.no0 (show l.length - 1 - j < l.length by omega) e.symm
    | succ i =>
      rw [dn_at (by omega)]
      exact fun e => (h2 (l.length - 1 - i) (by omega)).2 (l.length - 1 - j) (by omega) e.symm
def dnP (l dl : List Int) (n : Int) (k : Int) : Pk := ⟨0, l.getD 0 0, n, k, dnL l, dl⟩
theorem dnP_may {l dl : List Int} {n life : Int} (h : Way l dl n life) {k : Int} (hk : 0 ≤ k) (hk2 : k ≤ 15) : mayK (dnP l dl n k) = true := by
  have h1 := h.node (show 0 < l.length by have := h.two; omega)
  have h2 := atI_ne h.no0 (show 0 < l.length by have := h.two; omega)
  have h3 := dn_ok h
  have := h.n0
  have := h.n1
  have := h.d1
  have := h.d2
  have e1 : ((0 : Int) != l.getD 0 0) = true := by simp; exact fun e => h2 e.symm
  unfold mayK dnP
  simp only [h1, h3, e1, Bool.true_and, Bool.and_eq_true, decide_eq_true_eq]
  refine ⟨by decide, by omega, by omega, by omega, by omega, by omega, by omega⟩
/-- Where the packet is behind i hops down. -/
theorem dn_idx {l dl : List Int} {n life : Int} (h : Way l dl n life) {i : Nat} (hi : i ≤ l.length) : atI (dnL l) ((dnL l).getD i 0) = (i : Int) :=
  atI_is (by rw [dn_len]; omega) rfl (fun j hj => ((okP_out (dn_ok h)).2 i (by rw [dn_len]; omega)).2 j hj)
theorem dn_node {l dl : List Int} {n life : Int} (h : Way l dl n life) {i : Nat} (hi : i ≤ l.length) : ndB ((dnL l).getD i 0) = true := ((okP_out (dn_ok h)).2 i (by rw [dn_len]; omega)).1
theorem down_hop {l dl : List Int} {n life : Int} (h : Way l dl n life) {i : Nat} (hi : i < l.length) : downR (dnP l dl n ((l.length : Int) - i)) ((dnL l).getD i 0) = (dnP l dl n ((l.length : Int) - (i + 1 : Nat)), (dnL l).getD (i + 1) 0, 0) := by
  have hf := h.few
  have hm := dnP_may h (k := (l.length : Int) - i) (by omega) (by omega)
  have hn := dn_node h (show i ≤ l.length by omega)
  have hx := dn_idx h (show i ≤ l.length by omega)
  have hx2 : atI (dnP l dl n ((l.length : Int) - i)).path ((dnL l).getD i 0) = (i : Int) := hx
  have hpl : (dnP l dl n ((l.length : Int) - i)).path.length = l.length + 1 := dn_len l
  unfold downR
  rw [if_neg (by rw [hm, hn]; simp), if_neg (by show ¬ (l.length : Int) - (i : Int) = 0; omega), hx2, hpl, if_neg (by omega)]
  unfold lessP dnP
  simp only [Int.toNat_natCast]
  congr 1
  show Pk.mk 0 (l.getD 0 0) n ((l.length : Int) - (i : Int) - 1) (dnL l) dl = _
  congr 1
  omega
theorem down_dead {l dl : List Int} {n life : Int} (h : Way l dl n life) : downR (dnP l dl n 0) ((dnL l).getD l.length 0) = (noP, 0, 11) := by
  have hm := dnP_may h (k := 0) (by omega) (by omega)
  have hn := dn_node h (Nat.le_refl l.length)
  unfold downR
  rw [if_neg (by rw [hm, hn]; simp), if_pos (show (dnP l dl n 0).life = 0 from rfl)]
theorem down_last {l dl : List Int} {n life : Int} (h : Way l dl n life) : downR (dnP l dl n 1) ((dnL l).getD l.length 0) = (noP, 0, 6) := by
  have hm := dnP_may h (k := 1) (by omega) (by omega)
  have hn := dn_node h (Nat.le_refl l.length)
  have hx2 : atI (dnP l dl n 1).path ((dnL l).getD l.length 0) = (l.length : Int) := dn_idx h (Nat.le_refl _)
  have hpl : (dnP l dl n 1).path.length = l.length + 1 := dn_len l
  unfold downR
  rw [if_neg (by rw [hm, hn]; simp), if_neg (by show ¬ (1 : Int) = 0; decide), hx2, hpl, if_pos (by omega)]
end Go.Proofs.Ytcpmnfoenpdaeaa.Rt
