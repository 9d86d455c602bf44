/-
  A window of 64 numbers as a row of bits: what is new, and what it has behind that.
-/
import Derived.Test.YtbogpnfjlmhhhaaRows
namespace Go.Proofs.Ytbogpnfjlmhhhaa.Dp
set_option linter.unusedVariables false

/-- Is n new, where l was the greatest and s the row? -/
def isN (l : Int) (s : Nat) (n : Int) : Bool := decide (s = 0 ∨ l < n ∨ (l - n < 64 ∧ s.testBit (l - n).toNat = false))
def nL (l : Int) (s : Nat) (n : Int) : Int := if s = 0 ∨ l < n then n else l
def nS (l : Int) (s : Nat) (n : Int) : Nat :=
  if s = 0 then 1 else if l < n then s <<< (n - l).toNat % 2 ^ 64 ||| 1 else if l - n < 64 ∧ s.testBit (l - n).toNat = false then s ||| 1 <<< (l - n).toNat else s
/-- Is x among what the row holds? -/
def has (l : Int) (s : Nat) (x : Int) : Prop := s ≠ 0 ∧ x ≤ l ∧ l - x < 64 ∧ s.testBit (l - x).toNat = true
def DGood (l : Int) (s : Nat) : Prop := s < 18446744073709551616 ∧ (s ≠ 0 → 0 ≤ l ∧ l < 9223372036854775808)

theorem good_zero (l : Int) : DGood l 0 := ⟨by decide, fun h => absurd rfl h⟩
theorem or_ne_left {a b : Nat} (h : a ≠ 0) : a ||| b ≠ 0 := by
  intro e
  have : (a ||| b) = 0 := e
  rw [Nat.or_eq_zero_iff] at this
  exact h this.1
theorem or_ne_right {a b : Nat} (h : b ≠ 0) : a ||| b ≠ 0 := by
  intro e
  have : (a ||| b) = 0 := e
  rw [Nat.or_eq_zero_iff] at this
  exact h this.2
theorem nS_ne (l : Int) (s : Nat) (n : Int) : nS l s n ≠ 0 := by
  unfold nS
  split
  · decide
  · split
    · exact or_ne_right (by decide)
    · split
      · rename_i h _ _; exact or_ne_left h
      · rename_i h _ _; exact h
theorem good_step {l : Int} {s : Nat} {n : Int} (h : DGood l s) (h0 : 0 ≤ n) (h1 : n < 9223372036854775808) : DGood (nL l s n) (nS l s n) := by
  obtain ⟨ha, hb⟩ := h
  refine ⟨?_, fun _ => ?_⟩
  · unfold nS
    split
    · decide
    · split
      · exact Nat.or_lt_two_pow (n := 64) (Nat.mod_lt _ (by decide)) (by decide)
      · split
        · rename_i _ _ hc
          refine Nat.or_lt_two_pow (n := 64) ha ?_
          rw [Nat.one_shiftLeft]
          exact Nat.pow_lt_pow_right (by decide) (by omega)
        · exact ha
  · unfold nL
    split
    · exact ⟨h0, h1⟩
    · rename_i hc
      exact hb (fun e => hc (.inl e))
theorem isN_iff {l : Int} {s : Nat} {n : Int} : isN l s n = true ↔ (s = 0 ∨ l < n ∨ (l - n < 64 ∧ ¬ has l s n)) := by
  unfold isN has
  simp only [decide_eq_true_eq]
  constructor
  · rintro (h | h | ⟨h1, h2⟩)
    · exact .inl h
    · exact .inr (.inl h)
    · refine .inr (.inr ⟨h1, fun h => ?_⟩)
      rw [h.2.2.2] at h2
      cases h2
  · rintro (h | h | ⟨h1, h2⟩)
    · exact .inl h
    · exact .inr (.inl h)
    · by_cases hs : s = 0
      · exact .inl hs
      · by_cases hl : l < n
        · exact .inr (.inl hl)
        · refine .inr (.inr ⟨h1, ?_⟩)
          cases hb : s.testBit (l - n).toNat
          · rfl
          · exact absurd ⟨hs, by omega, h1, hb⟩ h2
theorem isN_false {l : Int} {s : Nat} {n : Int} (h : isN l s n = false) : nL l s n = l ∧ nS l s n = s := by
  unfold isN at h
  simp only [decide_eq_false_iff_not] at h
  unfold nL nS
  refine ⟨if_neg (fun hc => h (by omega)), ?_⟩
  rw [if_neg (fun hc => h (.inl hc)), if_neg (fun hc => h (.inr (.inl hc))), if_neg (fun hc => h (.inr (.inr hc)))]
theorem has_new {l : Int} {s : Nat} {n x : Int} (h : isN l s n = true) : has (nL l s n) (nS l s n) x ↔ (x = n ∨ (has l s x ∧ nL l s n - x < 64)) := by
  unfold isN at h
  simp only [decide_eq_true_eq] at h
  by_cases hs : s = 0
  · subst hs
    have e1 : nL l 0 n = n := by unfold nL; simp
    have e2 : nS l 0 n = 1 := by unfold nS; simp
    rw [e1, e2]
    unfold has
    constructor
    · rintro ⟨_, h1, h2, h3⟩
      left
      have h3' : (n - x).toNat = 0 := by
        by_cases h4 : (n - x).toNat = 0
        · exact h4
        · rw [show (1 : Nat) = 2 ^ 0 from rfl, Nat.testBit_two_pow] at h3
          simp at h3
          omega
      omega
    · rintro (rfl | ⟨⟨h1, _⟩, _⟩)
      · exact ⟨by decide, by omega, by omega, by simp⟩
      · exact absurd rfl h1
  · by_cases hl : l < n
    · have e1 : nL l s n = n := by unfold nL; simp [hl]
      have e2 : nS l s n = s <<< (n - l).toNat % 2 ^ 64 ||| 1 := by unfold nS; rw [if_neg hs, if_pos hl]
      rw [e1]
      unfold has
      constructor
      · rintro ⟨_, h1, h2, h3⟩
        by_cases hx : x = n
        · exact .inl hx
        · right
          rw [e2, Nat.testBit_or, Nat.testBit_mod_two_pow, Nat.testBit_shiftLeft] at h3
          have h4 : Nat.testBit 1 (n - x).toNat = false := by
            rw [show (1 : Nat) = 2 ^ 0 from rfl, Nat.testBit_two_pow]
            simp
            omega
          rw [h4] at h3
          simp at h3
          obtain ⟨h5, h6, h7⟩ := h3
          refine ⟨⟨hs, by omega, by omega, ?_⟩, by omega⟩
          rw [show (l - x).toNat = (n - x).toNat - (n - l).toNat by omega]
          exact h7
      · rintro (rfl | ⟨⟨_, h1, h2, h3⟩, h4⟩)
        · refine ⟨nS_ne _ _ _, by omega, by omega, ?_⟩
          rw [e2, Nat.testBit_or]
          simp
        · refine ⟨nS_ne _ _ _, by omega, by omega, ?_⟩
          rw [e2, Nat.testBit_or, Nat.testBit_mod_two_pow, Nat.testBit_shiftLeft, show (n - x).toNat - (n - l).toNat = (l - x).toNat by omega, h3]
          simp
          left
          omega
    · have h' : l - n < 64 ∧ s.testBit (l - n).toNat = false := by
        rcases h with h | h | h
        · exact absurd h hs
        · exact absurd h hl
        · exact h
      have e1 : nL l s n = l := by unfold nL; rw [if_neg (by omega)]
      have e2 : nS l s n = s ||| 1 <<< (l - n).toNat := by unfold nS; rw [if_neg hs, if_neg hl, if_pos h']
      rw [e1]
      unfold has
      constructor
      · rintro ⟨_, h1, h2, h3⟩
        by_cases hx : x = n
        · exact .inl hx
        · right
          rw [e2, Nat.testBit_or, Nat.one_shiftLeft, Nat.testBit_two_pow] at h3
          have h4 : decide ((l - n).toNat = (l - x).toNat) = false := by simp; omega
          rw [h4] at h3
          simp at h3
          exact ⟨⟨hs, h1, h2, h3⟩, h2⟩
      · rintro (rfl | ⟨⟨_, h1, h2, h3⟩, h4⟩)
        · refine ⟨nS_ne _ _ _, by omega, by omega, ?_⟩
          rw [e2, Nat.testBit_or, Nat.one_shiftLeft, Nat.testBit_two_pow]
          simp
        · refine ⟨nS_ne _ _ _, h1, h2, ?_⟩
          rw [e2, Nat.testBit_or, h3]
          rfl
theorem has_le {l : Int} {s : Nat} {x : Int} (h : has l s x) : x ≤ l ∧ l - x < 64 := ⟨h.2.1, h.2.2.1⟩
theorem kn_iff {l : Int} {s : Nat} {x : Int} : isN l s x = false ↔ (s ≠ 0 ∧ x ≤ l ∧ (l - x < 64 → has l s x)) := by
  constructor
  · intro h
    have h' : ¬ isN l s x = true := by rw [h]; decide
    rw [isN_iff] at h'
    refine ⟨fun e => h' (.inl e), ?_, fun h1 => ?_⟩
    · by_cases hl : l < x
      · exact absurd (.inr (.inl hl)) h'
      · omega
    · by_cases h2 : has l s x
      · exact h2
      · exact absurd (.inr (.inr ⟨h1, h2⟩)) h'
  · rintro ⟨h1, h2, h3⟩
    cases h : isN l s x
    · rfl
    · rcases isN_iff.1 h with h4 | h4 | ⟨h4, h5⟩
      · exact absurd h4 h1
      · omega
      · exact absurd (h3 h4) h5
theorem nL_ge {l : Int} {s : Nat} {n : Int} (h : s ≠ 0) : l ≤ nL l s n := by
  unfold nL
  split
  · omega
  · omega
theorem nL_ge2 {l : Int} {s : Nat} {n : Int} : n ≤ nL l s n := by
  unfold nL
  split <;> omega
/-- What was known stays known. -/
theorem kn_step {l : Int} {s : Nat} {x : Int} (n : Int) (h : isN l s x = false) : isN (nL l s n) (nS l s n) x = false := by
  cases hn : isN l s n
  · obtain ⟨e1, e2⟩ := isN_false hn
    rw [e1, e2]
    exact h
  · obtain ⟨h1, h2, h3⟩ := kn_iff.1 h
    have := nL_ge (l := l) (n := n) h1
    refine kn_iff.2 ⟨nS_ne _ _ _, by omega, fun h4 => ?_⟩
    exact (has_new hn).2 (.inr ⟨h3 (by omega), h4⟩)
/-- What was asked for is known. -/
theorem kn_new (l : Int) (s : Nat) (n : Int) : isN (nL l s n) (nS l s n) n = false := by
  cases hn : isN l s n
  · obtain ⟨e1, e2⟩ := isN_false hn
    rw [e1, e2]
    exact hn
  · exact kn_iff.2 ⟨nS_ne _ _ _, nL_ge2, fun _ => (has_new hn).2 (.inl rfl)⟩
end Go.Proofs.Ytbogpnfjlmhhhaa.Dp
