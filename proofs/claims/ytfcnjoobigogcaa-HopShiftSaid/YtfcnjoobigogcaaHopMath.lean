/-
  Channels as numbers: which rows may be, which of them are open.
-/
import Derived.Test.YtfcnjoobigogcaaRows
namespace Go.Proofs.Ytfcnjoobigogcaa.Hp
set_option linter.unusedVariables false

/-- Is x none of the first k? -/
def fresh (Z : Nat → Int) (x : Int) : Nat → Bool
  | 0 => true
  | k + 1 => fresh Z x k && decide (Z k ≠ x)
/-- May the first k be? -/
def okTo (Z : Nat → Int) : Nat → Bool
  | 0 => true
  | k + 1 => okTo Z k && (decide (0 ≤ Z k) && decide (Z k < 32) && fresh Z (Z k) k)
def mayB (Z : Nat → Int) (n : Nat) : Bool := decide (1 ≤ n) && decide (n ≤ 16) && okTo Z n

theorem fresh_iff {Z : Nat → Int} {x : Int} : ∀ {k : Nat}, fresh Z x k = true ↔ ∀ j, j < k → Z j ≠ x
  | 0 => by simp [fresh]
  | k + 1 => by
    simp only [fresh, Bool.and_eq_true, decide_eq_true_eq, fresh_iff (k := k)]
    constructor
    · rintro ⟨h1, h2⟩ j hj
      by_cases h : j = k
      · subst h; exact h2
      · exact h1 j (by omega)
    · intro h
      exact ⟨fun j hj => h j (by omega), h k (by omega)⟩
theorem okTo_iff {Z : Nat → Int} : ∀ {k : Nat}, okTo Z k = true ↔ ∀ i, i < k → 0 ≤ Z i ∧ Z i < 32 ∧ ∀ j, j < i → Z j ≠ Z i
  | 0 => by simp [okTo]
  | k + 1 => by
    simp only [okTo, Bool.and_eq_true, decide_eq_true_eq, okTo_iff (k := k), fresh_iff]
    constructor
    · rintro ⟨h1, ⟨h2, h3⟩, h4⟩ i hi
      by_cases h : i = k
      · subst h; exact ⟨h2, h3, h4⟩
      · exact h1 i (by omega)
    · intro h
      obtain ⟨h1, h2, h3⟩ := h k (by omega)
      exact ⟨fun i hi => h i (by omega), ⟨h1, h2⟩, h3⟩
theorem okTo_mono {Z : Nat → Int} {k n : Nat} (h : okTo Z n = true) (hk : k ≤ n) : okTo Z k = true := by
  rw [okTo_iff] at h ⊢
  exact fun i hi => h i (by omega)
theorem mayB_iff {Z : Nat → Int} {n : Nat} : mayB Z n = true ↔ 1 ≤ n ∧ n ≤ 16 ∧ okTo Z n = true := by
  unfold mayB
  simp only [Bool.and_eq_true, decide_eq_true_eq]
  exact ⟨fun ⟨⟨a, b⟩, c⟩ => ⟨a, b, c⟩, fun ⟨a, b, c⟩ => ⟨⟨a, b⟩, c⟩⟩
/-- A row of bits has just the first k's. -/
def Seen (s : Nat) (Z : Nat → Int) (k : Nat) : Prop := s < 4294967296 ∧ ∀ d, d < 32 → (s.testBit d = true ↔ ∃ j, j < k ∧ Z j = (d : Int))
theorem seen_zero (Z : Nat → Int) : Seen 0 Z 0 := ⟨by decide, fun d _ => by simp⟩
theorem seen_fresh {s : Nat} {Z : Nat → Int} {k : Nat} (h : Seen s Z k) {x : Int} (h0 : 0 ≤ x) (h1 : x < 32) : fresh Z x k = !s.testBit x.toNat := by
  have := h.2 x.toNat (by omega)
  rw [Bool.eq_iff_iff, fresh_iff]
  simp only [Bool.not_eq_true', ← Bool.not_eq_true, this]
  constructor
  · rintro h2 ⟨j, hj, e⟩
    exact h2 j hj (by omega)
  · intro h2 j hj e
    exact h2 ⟨j, hj, by omega⟩
theorem seen_next {s : Nat} {Z : Nat → Int} {k : Nat} (h : Seen s Z k) (h0 : 0 ≤ Z k) (h1 : Z k < 32) : Seen (s ||| 1 <<< (Z k).toNat) Z (k + 1) := by
  refine ⟨Nat.or_lt_two_pow (n := 32) h.1 (by rw [Nat.one_shiftLeft]; exact Nat.pow_lt_pow_right (by decide) (by omega)), fun d hd => ?_⟩
  rw [Nat.testBit_or, Nat.one_shiftLeft, Nat.testBit_two_pow, Bool.or_eq_true, h.2 d hd, decide_eq_true_eq]
  constructor
  · rintro (⟨j, hj, e⟩ | e)
    · exact ⟨j, by omega, e⟩
    · exact ⟨k, by omega, by omega⟩
  · rintro ⟨j, hj, e⟩
    by_cases h2 : j = k
    · subst h2; right; omega
    · exact .inl ⟨j, by omega, e⟩

/-- Is channel c black? -/
def blk (b : Nat) (c : Int) : Bool := b.testBit c.toNat
/-- Those of the first k that are not black. -/
def flt (Z : Nat → Int) (b : Nat) : Nat → List Int
  | 0 => []
  | k + 1 => flt Z b k ++ if blk b (Z k) = true then [] else [Z k]
def opn (Z : Nat → Int) (b n : Nat) : List Int := if flt Z b n = [] then (List.range n).map Z else flt Z b n
theorem flt_len (Z : Nat → Int) (b : Nat) : ∀ k, (flt Z b k).length ≤ k
  | 0 => by simp [flt]
  | k + 1 => by
    have := flt_len Z b k
    simp only [flt, List.length_append]
    split <;> simp <;> omega
theorem flt_black {Z : Nat → Int} {b k : Nat} (h : blk b (Z k) = true) : flt Z b (k + 1) = flt Z b k := by simp [flt, h]
theorem flt_open {Z : Nat → Int} {b k : Nat} (h : blk b (Z k) = false) : flt Z b (k + 1) = flt Z b k ++ [Z k] := by simp [flt, h]
theorem mem_flt {Z : Nat → Int} {b : Nat} {x : Int} : ∀ {k : Nat}, x ∈ flt Z b k ↔ ∃ j, j < k ∧ Z j = x ∧ blk b x = false
  | 0 => by simp [flt]
  | k + 1 => by
    simp only [flt, List.mem_append, mem_flt (k := k)]
    constructor
    · rintro (⟨j, h1, h2, h3⟩ | h)
      · exact ⟨j, by omega, h2, h3⟩
      · split at h
        · simp at h
        · rename_i hb
          simp at h
          subst h
          exact ⟨k, by omega, rfl, by simpa using hb⟩
    · rintro ⟨j, h1, h2, h3⟩
      by_cases h : j = k
      · subst h
        right
        rw [h2, h3]
        simp
      · exact .inl ⟨j, by omega, h2, h3⟩
theorem opn_len {Z : Nat → Int} {b n : Nat} (h : 1 ≤ n) : 1 ≤ (opn Z b n).length ∧ (opn Z b n).length ≤ n := by
  unfold opn
  split
  · simp; omega
  · rename_i h2
    have := flt_len Z b n
    have : 0 < (flt Z b n).length := List.length_pos_iff.2 h2
    omega
theorem mem_opn {Z : Nat → Int} {b n : Nat} {x : Int} (h : x ∈ opn Z b n) : ∃ j, j < n ∧ Z j = x := by
  unfold opn at h
  split at h
  · simp at h
    obtain ⟨j, h1, h2⟩ := h
    exact ⟨j, h1, h2⟩
  · obtain ⟨j, h1, h2, _⟩ := mem_flt.1 h
    exact ⟨j, h1, h2⟩
/-- The channel, of a row that may be. -/
def chan (Z : Nat → Int) (b n : Nat) (asn off : Int) : Int := (opn Z b n).getD ((asn + off) % ((opn Z b n).length : Int)).toNat 0
/-- The channel, if there is one. -/
def chanB (Z : Nat → Int) (b n : Nat) (asn off : Int) : Int := if mayB Z n = true ∧ 0 ≤ asn ∧ asn < 1099511627776 ∧ 0 ≤ off ∧ off < 256 then chan Z b n asn off else -1
end Go.Proofs.Ytfcnjoobigogcaa.Hp
