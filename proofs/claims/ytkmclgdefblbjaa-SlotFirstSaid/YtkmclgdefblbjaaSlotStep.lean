/-
  What to do in a slot: what one more that waits changes; what stands behind changes nothing.
-/
import Derived.Test.YtkmclgdefblbjaaSlotMath
set_option maxRecDepth 100000
namespace Go.Proofs.Ytkmclgdefblbjaa.Sl
set_option linter.unusedVariables false
open Go.RowKit Lb Cl

theorem plc_more {W V : Nat → Int} {m : Nat} {p : Int} (hW : ∀ i, i < m → V i = W i) :
    plc V (m + 1) p = plc W m p ∨ (plc W m p = none ∧ plc V (m + 1) p = some m) := by
  have e0 : plc V m p = plc W m p := least_congr fun i hi => by rw [hW i hi]
  cases e : plc V m p with
  | some i =>
    rw [e] at e0
    exact .inl (by rw [← e0]; exact least_up e (by omega))
  | none =>
    rw [e] at e0
    rw [← e0]
    by_cases h : (p == 64 || p == V m) = true
    · exact .inr ⟨rfl, least_yes e h (by omega)⟩
    · exact .inl (least_no e (Bool.eq_false_iff.2 h))
theorem sOK_mg {L : Nat → C} {W : Nat → Int} {m k : Nat} {free : Bool} (h : sOK L W m free k = true) : (L k).may = true ∧ goB (L k).o free = true ∧ ∃ i, plc W m (L k).p = some i := by
  unfold sOK at h
  simp only [Bool.and_eq_true] at h
  exact ⟨h.1.1, h.1.2, Option.isSome_iff_exists.1 h.2⟩
theorem sOK_no {L : Nat → C} {W : Nat → Int} {m k : Nat} {free : Bool} (h : sOK L W m free k = false) (h1 : (L k).may = true) (h2 : goB (L k).o free = true) : plc W m (L k).p = none := by
  unfold sOK at h
  rw [h1, h2] at h
  simpa using h
theorem dec_some {L : Nat → C} {n m k i : Nat} {W : Nat → Int} {free : Bool} (h : least (sOK L W m free) n = some k) (hp : plc W m (L k).p = some i) : dec L n W m free = ⟨1, L k, (i : Nat)⟩ := by
  unfold dec
  rw [h]
  dsimp only
  rw [hp]
  rfl
theorem dec_none {L : Nat → C} {n m : Nat} {W : Nat → Int} {free : Bool} (h : least (sOK L W m free) n = none) : (∃ k, least (lOK L) n = some k ∧ dec L n W m free = ⟨2, L k, 0⟩) ∨ (least (lOK L) n = none ∧ dec L n W m free = ⟨0, zeroC, 0⟩) := by
  unfold dec
  rw [h]
  cases e : least (lOK L) n with
  | some k => exact .inl ⟨k, rfl, rfl⟩
  | none => exact .inr ⟨rfl, rfl⟩
theorem dec_two {L : Nat → C} {n m j : Nat} {W V : Nat → Int} {free : Bool} (h : least (sOK L W m free) n = none) (h2 : least (sOK L V j free) n = none) : dec L n W m free = dec L n V j free := by
  unfold dec
  rw [h, h2]
theorem nothing {L : Nat → C} {n : Nat} {W : Nat → Int} {free : Bool} : least (sOK L W 0 free) n = none := least_none.2 fun j _ => by
  unfold sOK plc least
  simp
theorem dec_nothing (L : Nat → C) (n : Nat) (Z : Nat → Int) (free : Bool) : ∃ k x, (k = 0 ∨ k = 2) ∧ dec L n Z 0 free = ⟨k, x, 0⟩ := by
  rcases dec_none (nothing (L := L) (n := n) (W := Z) (free := free)) with ⟨k, _, h⟩ | ⟨_, h⟩
  · exact ⟨2, _, .inr rfl, h⟩
  · exact ⟨0, _, .inl rfl, h⟩
theorem waits_cases {L : Nat → C} {n m : Nat} {W V Z : Nat → Int} (hW : ∀ i, i < m → V i = W i) :
    (∃ x t, dec L n W m true = ⟨1, x, t⟩ ∧ dec L n V (m + 1) true = ⟨1, x, t⟩) ∨
    (∃ x y, ∃ t : Nat, t < m ∧ dec L n W m true = ⟨1, x, t⟩ ∧ dec L n V (m + 1) true = ⟨1, y, m⟩) ∨
    (dec L n W m true = dec L n Z 0 true ∧ dec L n V (m + 1) true = dec L n Z 0 true) ∨
    (dec L n W m true = dec L n Z 0 true ∧ ∃ y, dec L n V (m + 1) true = ⟨1, y, m⟩ ∧ y.may = true) := by
  cases e1 : least (sOK L W m true) n with
  | some k =>
    obtain ⟨hk, h1, h0⟩ := least_some e1
    obtain ⟨g1, g2, i, hi⟩ := sOK_mg h1
    have him : i < m := (least_some hi).1
    have h1' : sOK L V (m + 1) true k = true := by
      unfold sOK
      rw [g1, g2]
      rcases plc_more (p := (L k).p) hW with h | ⟨h, h'⟩
      · rw [h, hi]; rfl
      · rw [h'] ; rfl
    cases e2 : least (sOK L V (m + 1) true) n with
    | none =>
      have := least_none.1 e2 k hk
      rw [h1'] at this
      cases this
    | some j =>
      obtain ⟨hj, q1, q0⟩ := least_some e2
      obtain ⟨r1, r2, i', hi'⟩ := sOK_mg q1
      have hjk : j ≤ k := by
        by_cases h : j ≤ k
        · exact h
        · have := q0 k (by omega)
          rw [h1'] at this
          cases this
      by_cases hjk2 : j = k
      · subst hjk2
        rcases plc_more (p := (L j).p) hW with h | ⟨h, _⟩
        · exact .inl ⟨_, _, dec_some e1 hi, dec_some e2 (h.trans hi)⟩
        · rw [hi] at h; cases h
      · have hn := sOK_no (h0 j (by omega)) r1 r2
        rcases plc_more (p := (L j).p) hW with h | ⟨_, h⟩
        · rw [hn, hi'] at h; cases h
        · exact .inr (.inl ⟨_, _, i, him, dec_some e1 hi, dec_some e2 h⟩)
  | none =>
    cases e2 : least (sOK L V (m + 1) true) n with
    | none => exact .inr (.inr (.inl ⟨dec_two e1 nothing, dec_two e2 nothing⟩))
    | some j =>
      obtain ⟨hj, q1, q0⟩ := least_some e2
      obtain ⟨r1, r2, i', hi'⟩ := sOK_mg q1
      have hn := sOK_no (least_none.1 e1 j hj) r1 r2
      rcases plc_more (p := (L j).p) hW with h | ⟨_, h⟩
      · rw [hn, hi'] at h; cases h
      · exact .inr (.inr (.inr ⟨dec_two e1 nothing, _, dec_some e2 h, r1⟩))
/-- What is decided, and what can be said of it. -/
theorem first_cases {L : Nat → C} {n m : Nat} {W : Nat → Int} {free : Bool} :
    (∃ k i : Nat, k < n ∧ i < m ∧ dec L n W m free = ⟨1, L k, i⟩ ∧ txB (L k).o = true ∧ (shB (L k).o = false ∨ free = true) ∧ ((L k).p == 64 || (L k).p == W i) = true ∧
      ∀ (G : Nat → C) (j : Nat), n ≤ j → (∀ q, q < n → G q = L q) → dec G j W m free = ⟨1, L k, i⟩) ∨
    (∃ k, dec L n W m free = ⟨2, L k, 0⟩ ∧ rxB (L k).o = true ∧ ∀ j, j < n → ∀ i, i < m → (L j).may = true → goB (L j).o free = true → ((L j).p == 64 || (L j).p == W i) = false) ∨
    dec L n W m free = ⟨0, zeroC, 0⟩ := by
  cases e1 : least (sOK L W m free) n with
  | some k =>
    obtain ⟨hk, h1, h0⟩ := least_some e1
    obtain ⟨g1, g2, i, hi⟩ := sOK_mg h1
    obtain ⟨him, hit, _⟩ := least_some hi
    refine .inl ⟨k, i, hk, him, dec_some e1 hi, ?_, ?_, hit, fun G j hj hG => ?_⟩
    · unfold goB at g2
      simp only [Bool.and_eq_true] at g2
      exact g2.1
    · unfold goB at g2
      cases hf : free
      · rw [hf] at g2
        cases hs : shB (L k).o
        · exact .inl rfl
        · rw [hs] at g2; simp at g2
      · exact .inr rfl
    · have hs : ∀ q, q < n → sOK G W m free q = sOK L W m free q := fun q hq => by unfold sOK; rw [hG q hq]
      have e2 : least (sOK G W m free) j = some k := least_is (by omega) (by rw [hs k hk]; exact h1) (fun q hq => by rw [hs q (by omega)]; exact h0 q hq)
      have := dec_some (L := G) e2 (by rw [hG k hk]; exact hi)
      rw [hG k hk] at this
      exact this
  | none =>
    rcases dec_none e1 with ⟨k, hk, h⟩ | ⟨_, h⟩
    · obtain ⟨_, h1, _⟩ := least_some hk
      refine .inr (.inl ⟨k, h, ?_, fun j hj i hi g1 g2 => ?_⟩)
      · unfold lOK at h1
        simp only [Bool.and_eq_true] at h1
        exact h1.2
      · have hn := sOK_no (least_none.1 e1 j hj) g1 g2
        exact least_none.1 hn i hi
    · exact .inr (.inr h)
end Go.Proofs.Ytkmclgdefblbjaa.Sl
