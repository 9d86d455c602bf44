/-
  Joining (chapter 18): what is sealed is read as it was; one byte changed is told.
-/
import Derived.Test.YtphiohdhgkpgnaaJoDone
set_option maxRecDepth 100000
namespace Go.Proofs.Ytphiohdhgkpgnaa.Jo
set_option linter.unusedVariables false
open Go.RowKit Lb Go.Shelf Bf Se Cl

theorem ask_back {key : Int} {r : Rq} (hm : mayR r = true) (hw : r.wide) :
    askE (sealL key (askB r)) = 0 ∧ askR (sealL key (askB r)) = ⟨r.nd, r.pa, r.no, r.co, tagL key (askB r)⟩ := by
  obtain ⟨h1, h2⟩ : nodeB r.nd = true ∧ otherB r.pa r.nd = true := by
    unfold mayR at hm
    rwa [Bool.and_eq_true] at hm
  have hlen : (sealL key (askB r)).length = 15 := by rw [sealL_len, askB_len]
  have e0 : (sealL key (askB r)).getD 0 0 = 74 := rfl
  have e1 : (sealL key (askB r)).getD 1 0 = r.nd := rfl
  have e2 : (sealL key (askB r)).getD 2 0 = r.pa := rfl
  have n3 : n4 (sealL key (askB r)) 3 = r.no := by
    unfold sealL askB
    rw [n4_left (by simp [b4_len]), n4_left (by simp [b4_len]), n4_right (by simp)]
    exact n4_b4 _ hw.1
  have n7 : n4 (sealL key (askB r)) 7 = r.co := by
    unfold sealL askB
    rw [n4_left (by simp [b4_len]), n4_right (by simp [b4_len])]
    have : 7 - ([74] ++ [r.nd] ++ [r.pa] ++ b4 r.no).length = 0 := by simp [b4_len]
    rw [this]
    exact n4_b4 _ hw.2
  have n11 : n4 (sealL key (askB r)) 11 = tagL key (askB r) := by
    unfold sealL
    rw [n4_right (by rw [askB_len]; exact Nat.le_refl _), askB_len]
    exact n4_b4 _ (tagL_in _ _)
  have hE : askE (sealL key (askB r)) = 0 := by
    unfold askE ask2
    rw [if_neg (by omega), if_neg (by rw [e0]; decide), if_neg (by omega), if_neg (by rw [e1, h1]; decide), List.length_drop, if_neg (by omega), getD_drop, e2, e1, if_neg (by rw [h2]; decide), if_neg (by omega), if_neg (by omega)]
  exact ⟨hE, by rw [(askE_ok hE).2.2.2.2, e1, e2, n3, n7, n11]⟩
theorem sealed_of (key key' : Int) (l : List Int) : sealedB key' (sealL key l) = (tagL key' l == tagL key l) := by
  unfold sealedB
  rw [sealL_len, show l.length + 4 - 4 = l.length by omega]
  unfold sealL
  rw [List.take_left, n4_right (Nat.le_refl _), Nat.sub_self, n4_b4 _ (tagL_in _ _)]
theorem sealed_own (key : Int) (l : List Int) : sealedB key (sealL key l) = true := by rw [sealed_of]; exact beq_self_eq_true _
theorem cellsB_at (L : Nat → C) : ∀ {n k j : Nat}, k < n → j < 5 → (cellsB L n).getD (5 * k + j) 0 = (cellB (L k)).getD j 0
  | n + 1, k, j, hk, hj => by
    rw [cellsB]
    by_cases h : k < n
    · rw [getD_append_left (by rw [cellsB_len]; omega)]
      exact cellsB_at L h hj
    · obtain rfl : k = n := by omega
      rw [getD_append_right (by rw [cellsB_len]; omega), cellsB_len, show 5 * k + j - 5 * k = j by omega]
/-- A grant's bytes behind the mark and the node. -/
def give2B (key : Int) (g : Gt) : List Int := ([g.cd] ++ b4 g.no ++ [(g.n : Int)]) ++ (cellsB g.L g.n ++ b4 (tagL key (giveB g)))
theorem give2B_len (key : Int) (g : Gt) : (give2B key g).length = 10 + 5 * g.n := by
  unfold give2B
  simp only [List.length_append, List.length_cons, List.length_nil, b4_len, cellsB_len]
  omega
theorem seal_give (key : Int) (g : Gt) : sealL key (giveB g) = 71 :: g.nd :: give2B key g := by
  unfold sealL give2B
  generalize tagL key (giveB g) = t
  unfold giveB
  simp
theorem cellAt_give (key : Int) (g : Gt) {k : Nat} (hk : k < g.n) : cellAt (give2B key g) (6 + 5 * k) = g.L k := by
  have hd : ([g.cd] ++ b4 g.no ++ [(g.n : Int)]).length = 6 := by simp [b4_len]
  have h : ∀ j, j < 5 → (give2B key g).getD (6 + 5 * k + j) 0 = (cellB (g.L k)).getD j 0 := fun j hj => by
    unfold give2B
    rw [getD_append_right (by rw [hd]; omega), hd, getD_append_left (by rw [cellsB_len]; omega), show 6 + 5 * k + j - 6 = 5 * k + j by omega]
    exact cellsB_at g.L hk hj
  unfold cellAt
  have h0 := h 0 (by decide)
  rw [Nat.add_zero] at h0
  rw [h0, h 1 (by decide), h 2 (by decide), h 3 (by decide), h 4 (by decide)]
  rfl
theorem gE_zero {l : List Int} : ∀ {m k : Nat}, l.length = 6 + 5 * (k + m) + 4 → (∀ j, k ≤ j → j < k + m → (cellAt l (6 + 5 * j)).may = true) → gE l k m = 0
  | 0, k, h, _ => by
    unfold gE
    rw [if_neg (by omega), if_neg (by omega)]
  | m + 1, k, h, hm => by
    unfold gE
    rw [if_neg (by omega), if_neg (by rw [hm k (Nat.le_refl _) (by omega)]; decide)]
    exact gE_zero (by omega) (fun j h1 h2 => hm j (by omega) (by omega))
theorem give_back {key : Int} {g : Gt} (hm : mayG g = true) (hno : In32 g.no) :
    giveE (sealL key (giveB g)) = 0 ∧ (giveR (sealL key (giveB g))).nd = g.nd ∧ (giveR (sealL key (giveB g))).cd = g.cd ∧ (giveR (sealL key (giveB g))).no = g.no ∧ (giveR (sealL key (giveB g))).n = g.n ∧ (∀ k, k < g.n → (giveR (sealL key (giveB g))).L k = g.L k) ∧ (giveR (sealL key (giveB g))).tg = tagL key (giveB g) := by
  obtain ⟨h1, h2, h3, h4⟩ := mayG_iff.1 hm
  have hl := give2B_len key g
  have e5 : (give2B key g).getD 5 0 = (g.n : Int) := rfl
  have e0 : (give2B key g).getD 0 0 = g.cd := rfl
  have n1 : n4 (give2B key g) 1 = g.no := by
    unfold give2B
    rw [n4_left (by simp [b4_len]), n4_left (by simp [b4_len]), n4_right (by simp)]
    exact n4_b4 _ hno
  have nt : n4 (give2B key g) (6 + 5 * g.n) = tagL key (giveB g) := by
    have hd : ([g.cd] ++ b4 g.no ++ [(g.n : Int)]).length = 6 := by simp [b4_len]
    unfold give2B
    rw [n4_right (by rw [hd]; omega), hd, n4_right (by rw [cellsB_len]; omega), cellsB_len, show 6 + 5 * g.n - 6 - 5 * g.n = 0 by omega]
    exact n4_b4 _ (tagL_in _ _)
  have h2E : give2 (give2B key g) = 0 := by
    unfold give2
    rw [if_neg (by omega), e5, if_neg (by omega), Int.toNat_natCast]
    exact gE_zero (by omega) (fun j _ hj => by rw [cellAt_give key g (by omega)]; exact h4 j (by omega))
  have hE : giveE (sealL key (giveB g)) = 0 := by
    rw [seal_give]
    unfold giveE
    rw [if_neg (by simp), if_neg (fun h => h rfl), if_neg (by simp), if_neg (by show ¬ nodeB g.nd = false; rw [h1]; decide)]
    exact h2E
  have hR : giveR (sealL key (giveB g)) = giveR2 g.nd (give2B key g) := by
    unfold giveR
    rw [if_pos hE, seal_give]
    rfl
  rw [hR]
  unfold giveR2
  refine ⟨hE, rfl, e0, n1, by rw [e5]; exact Int.toNat_natCast _, fun k hk => cellAt_give key g hk, ?_⟩
  rw [e5, Int.toNat_natCast]
  exact nt
theorem n4_inj {l l' : List Int} {k : Nat} (hl : okB l) (hl' : okB l') (h : n4 l k = n4 l' k) : ∀ j, j < 4 → l.getD (k + j) 0 = l'.getD (k + j) 0 := by
  have a0 := okB_at hl k
  have a1 := okB_at hl (k + 1)
  have a2 := okB_at hl (k + 2)
  have a3 := okB_at hl (k + 3)
  have b0 := okB_at hl' k
  have b1 := okB_at hl' (k + 1)
  have b2 := okB_at hl' (k + 2)
  have b3 := okB_at hl' (k + 3)
  unfold n4 at h
  intro j hj
  rcases (show j = 0 ∨ j = 1 ∨ j = 2 ∨ j = 3 by omega) with rfl | rfl | rfl | rfl
  · show l.getD k 0 = l'.getD k 0
    omega
  · omega
  · omega
  · omega
theorem okB_seal {key : Int} {l : List Int} (h : okB l) : okB (sealL key l) := okB_app h (okB_b4 _)
theorem okB_set {l : List Int} (h : okB l) (i : Nat) {v : Int} (hv : 0 ≤ v ∧ v < 256) : okB (l.set i v) := fun x hx => by
  rcases List.mem_or_eq_of_mem_set hx with h1 | h1
  · exact h x h1
  · rw [h1]; exact hv
theorem getD_setL {l : List Int} {i j : Nat} {v : Int} : (l.set i v).getD j 0 = if i = j ∧ j < l.length then v else l.getD j 0 := by
  rw [List.getD_eq_getElem?_getD, List.getElem?_set, List.getD_eq_getElem?_getD]
  by_cases h : i = j
  · by_cases h2 : j < l.length
    · simp [h, h2]
    · simp [h, h2]
  · simp [h]
/-- With one byte changed the seal is broken. -/
theorem sealed_bent {key : Int} {l : List Int} (hk : okB l) {i : Nat} (hi : i < (sealL key l).length) {v : Int} (hv : 0 ≤ v ∧ v < 256) (hne : v ≠ (sealL key l).getD i 0) : sealedB key ((sealL key l).set i v) = false := by
  cases hs : sealedB key ((sealL key l).set i v) with
  | false => rfl
  | true =>
    have hlen := sealL_len key l
    have h1 : tagL key (((sealL key l).set i v).take l.length) = n4 ((sealL key l).set i v) l.length := by
      have := hs
      unfold sealedB at this
      rw [List.length_set, hlen, show l.length + 4 - 4 = l.length by omega] at this
      simpa using this
    have hS := okB_seal (key := key) hk
    by_cases hlt : i < l.length
    · have h2 : n4 ((sealL key l).set i v) l.length = tagL key l := by
        have h3 : n4 ((sealL key l).set i v) l.length = n4 (sealL key l) l.length := by
          unfold n4
          rw [getD_setL, getD_setL, getD_setL, getD_setL, if_neg (by omega), if_neg (by omega), if_neg (by omega), if_neg (by omega)]
        rw [h3]
        unfold sealL
        rw [n4_right (Nat.le_refl _), Nat.sub_self]
        exact n4_b4 _ (tagL_in _ _)
      rw [h2] at h1
      have ht : (((sealL key l).set i v).take l.length).length = l.length := by rw [List.length_take, List.length_set, hlen]; omega
      unfold tagL at h1
      rw [ht] at h1
      have h4 := tag_tells key i l.length (fun j => okB_at (okB_take (okB_set hS i hv) l.length) j) (fun j => okB_at hk j) (fun j hj => ?_) hlt h1
      · apply hne.elim
        rw [List.getD_eq_getElem?_getD, List.getElem?_take, if_pos hlt, ← List.getD_eq_getElem?_getD, getD_setL, if_pos ⟨rfl, hi⟩] at h4
        rw [h4]
        unfold sealL
        rw [getD_append_left hlt]
      · by_cases hj2 : j < l.length
        · rw [List.getD_eq_getElem?_getD, List.getElem?_take, if_pos hj2, ← List.getD_eq_getElem?_getD, getD_setL, if_neg (fun q => hj q.1.symm)]
          unfold sealL
          rw [getD_append_left hj2]
        · rw [List.getD_eq_getElem?_getD, List.getElem?_take, if_neg hj2, List.getD_eq_getElem?_getD, List.getElem?_eq_none (by omega)]
    · have h2 : ((sealL key l).set i v).take l.length = l := by
        rw [List.take_set_of_le (by omega)]
        unfold sealL
        exact List.take_left
      rw [h2] at h1
      have h3 : n4 (sealL key l) l.length = n4 ((sealL key l).set i v) l.length := by
        rw [← h1]
        unfold sealL
        rw [n4_right (Nat.le_refl _), Nat.sub_self]
        exact n4_b4 _ (tagL_in _ _)
      have h4 := n4_inj hS (okB_set hS i hv) h3 (i - l.length) (by omega)
      rw [show l.length + (i - l.length) = i by omega, getD_setL, if_pos ⟨rfl, hi⟩] at h4
      exact absurd h4.symm hne
end Go.Proofs.Ytphiohdhgkpgnaa.Jo
