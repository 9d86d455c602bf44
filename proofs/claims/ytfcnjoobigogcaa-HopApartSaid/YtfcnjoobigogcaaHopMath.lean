/-
  Channels as numbers: which rows may be, which of them are open.
-/
import Derived.Test.YtfcnjoobigogcaaRows
namespace Go.Proofs.Ytfcnjoobigogcaa.Hp
set_option linter.unusedVariables false

/-- Is x none of the first k? -/
def fresh (Z : Nat → Int) (x : Int) : Nat → Bool
  | 0 => true
  | k + 1 => fresh Z x k && decide (Z k ≠ x)
/-- May the first k be? -/
def okTo (Z : Nat → Int) : Nat → Bool
  | 0 => true
  | k + 1 => okTo Z k && (decide (0 ≤ Z k) && decide (Z k < 32) && fresh Z (Z k) k)
def mayB (Z : Nat → Int) (n : Nat) : Bool := decide (1 ≤ n) && decide (n ≤ 16) && okTo Z n

theorem fresh_iff {Z : Nat → Int} {x : Int} : ∀ {k : Nat}, fresh Z x k = true ↔ ∀ j, j < k → Z j ≠ x
  | 0 => by simp [fresh]
  | k + 1 => by
    simp only [fresh, Bool.and_eq_true, decide_eq_true_eq, fresh_iff (k := k)]
    constructor
    · rintro ⟨h1, h2⟩ j hj
      by_cases h : j = k
      · subst h; exact h2
      · exact h1 j (by omega)
    · intro h
      exact ⟨fun j hj => h j (by omega), h k (by omega)⟩
theorem okTo_iff {Z : Nat → Int} : ∀ {k : Nat}, okTo Z k = true ↔ ∀ i, i < k → 0 ≤ Z i ∧ Z i < 32 ∧ ∀ j, j < i → Z j ≠ Z i
  | 0 => by simp [okTo]
  | k + 1 => by
    simp only [okTo, Bool.and_eq_true, decide_eq_true_eq, okTo_iff (k := k), fresh_iff]
    constructor
    · rintro ⟨h1, ⟨h2, h3⟩, h4⟩ i hi
      by_cases h : i = k
      · subst h; exact ⟨h2, h3, h4⟩
      · exact h1 i (by omega)
    · intro h
      obtain ⟨h1, h2, h3⟩ := h k (by omega)
      exact ⟨fun i hi => h i (by omega), ⟨h1, h2⟩, h3⟩
theorem okTo_mono {Z : Nat → Int} {k n : Nat} (h : okTo Z n = true) (hk : k ≤ n) : okTo Z k = true := by
  rw [okTo_iff] at h ⊢
  exact fun i hi => h i (by omega)
theorem mayB_iff {Z : Nat → Int} {n : Nat} : mayB Z n = true ↔ 1 ≤ n ∧ n ≤ 16 ∧ okTo Z n = true := by
  unfold mayB
  simp only [Bool.and_eq_true, decide_eq_true_eq]
  exact ⟨fun ⟨⟨a, b⟩, c⟩ => ⟨a, b, c⟩, fun ⟨a, b, c⟩ => ⟨⟨a, b⟩, c⟩⟩
/-- A row of bits has just the first k's. -/
def Seen (s : Nat) (Z : Nat → Int) (k : Nat) : Prop := s < 4294967296 ∧ ∀ d, d < 32 → (s.testBit d = true ↔ ∃ j, j < k ∧ Z j = (d : Int))
theorem seen_zero (Z : Nat → Int) : Seen 0 Z 0 := ⟨by decide, fun d _ => by simp⟩
theorem seen_fresh {s : Nat} {Z : Nat → Int} {k : Nat} (h : Seen s Z k) {x : Int} (h0 : 0 ≤ x) (h1 : x < 32) : fresh Z x k = !s.testBit x.toNat := by
  have := h.2 x.toNat (by omega)
  rw [Bool.eq_iff_iff, fresh_iff]
  simp only [Bool.not_eq_true', ← Bool.not_eq_true, this]
  constructor
  · rintro h2 ⟨j, hj, e⟩
    exact h2 j hj (by omega)
  · intro h2 j hj e
    exact h2 ⟨j, hj, by omega⟩
theorem seen_next {s : Nat} {Z : Nat → Int} {k : Nat} (h : Seen s Z k) (h0 : 0 ≤ Z k) (h1 : Z k < 32) : Seen (s ||| 1 <<< (Z k).toNat) Z (k + 1) := by
  refine ⟨Nat.or_lt_two_pow (n := 32) h.1 (by rw [Nat.one_shiftLeft]; exact Nat.pow_lt_pow_right (by decide) (by omega)), fun d hd => ?_⟩
  rw [Nat.testBit_or, Nat.one_shiftLeft, Nat.testBit_two_pow, Bool.or_eq_true, h.2 d hd, decide_eq_true_eq]
  constructor
  · rintro (⟨j, hj, e⟩ | e)
    · exact ⟨j, by omega, e⟩
    · exact ⟨k, by omega, by omega⟩
  · rintro ⟨j, hj, e⟩
    by_cases h2 : j = k
    · subst h2; right; omega
    · exact .inl ⟨j, by omega, e⟩

/-- Is channel c black? -/
def blk (b : Nat) (c : Int) : Bool := b.testBit c.toNat
/-- Those of the first k that are not black. -/
def flt (Z : Nat → Int) (b : Nat) : Nat → List Int
  | 0 => []
  | k + 1 => flt Z b k ++ if blk b (Z k) = true then [] else [Z k]
def opn (Z : Nat → Int) (b n : Nat) : List Int := if flt Z b n = [] then (List.range n).map Z else flt Z b n
theorem flt_len (Z : Nat → Int) (b : Nat) : ∀ k, (flt Z b k).length ≤ k
  | 0 => by simp [flt]
  | k + 1 => by
    have := flt_len Z b k
    simp only [flt, List.length_append]
    split <;> simp <;> omega
theorem flt_black {Z : Nat → Int} {b k : Nat} (h : blk b (Z k) = true) : flt Z b (k + 1) = flt Z b k := by simp [flt, h]
theorem flt_open {Z : Nat → Int} {b k : Nat} (h : blk b (Z k) = false) : flt Z b (k + 1) = flt Z b k ++ [Z k] := by simp [flt, h]
theorem mem_flt {Z : Nat → Int} {b : Nat} {x : Int} : ∀ {k : Nat}, x ∈ flt Z b k ↔ ∃ j, j < k ∧ Z j = x ∧ blk b x = false
  | 0 => by simp [flt]
  | k + 1 => by
    simp only [flt, List.mem_append, mem_flt (k := k)]
    constructor
    · rintro (⟨j, h1, h2, h3⟩ | h)
      · exact ⟨j, by omega, h2, h3⟩
      · split at h
        · simp at h
        · rename_i hb
          simp at h
          subst h
          exact ⟨k, by omega, rfl, by simpa using hb⟩
    · rintro ⟨j, h1, h2, h3⟩
      by_cases h : j = k
      · subst h
        right
        rw [h2, h3]
        simp
      · exact .inl ⟨j, by omega, h2, h3⟩
theorem opn_len {Z : Nat → Int} {b n : Nat} (h : 1 ≤ n) : 1 ≤ (opn Z b n).length ∧ (opn Z b n).length ≤ n := by
  unfold opn
  split
  · simp; omega
  · rename_i h2
    have := flt_len Z b n
    have : 0 < (flt Z b n).length := List.length_pos_iff.2 h2
    omega
theorem mem_opn {Z : Nat → Int} {b n : Nat} {x : Int} (h : x ∈ opn Z b n) : ∃ j, j < n ∧ Z j = x := by
  unfold opn at h
  split at h
  · simp at h
    obtain ⟨j, h1, h2⟩ := h
    exact ⟨j, h1, h2⟩
  · obtain ⟨j, h1, h2, _⟩ := mem_flt.1 h
    exact ⟨j, h1, h2⟩
/-- The channel, of a row that may be. -/
def chan (Z : Nat → Int) (b n : Nat) (asn off : Int) : Int := (opn Z b n).getD ((asn + off) % ((opn Z b n).length : Int)).toNat 0
/-- The channel, if there is one. -/
def chanB (Z : Nat → Int) (b n : Nat) (asn off : Int) : Int := if mayB Z n = true ∧ 0 ≤ asn ∧ asn < 1099511627776 ∧ 0 ≤ off ∧ off < 256 then chan Z b n asn off else -1

/-! ### Where each open one stands -/
theorem flt_split (Z : Nat → Int) (b k : Nat) : ∀ m, flt Z b (k + m) = flt Z b k ++ flt (fun i => Z (k + i)) b m
  | 0 => by simp [flt]
  | m + 1 => by
    rw [← Nat.add_assoc]
    simp only [flt, flt_split Z b k m, List.append_assoc]
def el (Z : Nat → Int) (b n k : Nat) : Bool := decide (flt Z b n = []) || !blk b (Z k)
def pre (Z : Nat → Int) (b n k : Nat) : Nat := if flt Z b n = [] then k else (flt Z b k).length
theorem pre_zero (Z : Nat → Int) (b n : Nat) : pre Z b n 0 = 0 := by unfold pre; split <;> simp [flt]
theorem pre_all (Z : Nat → Int) (b n : Nat) : pre Z b n n = (opn Z b n).length := by
  unfold pre opn
  split
  · simp
  · rfl
theorem pre_le (Z : Nat → Int) (b n k : Nat) : pre Z b n k ≤ k := by
  unfold pre
  split
  · exact Nat.le_refl _
  · exact flt_len Z b k
theorem pre_in {Z : Nat → Int} {b n k : Nat} (h : el Z b n k = true) : pre Z b n (k + 1) = pre Z b n k + 1 := by
  unfold pre
  split
  · rfl
  · rename_i h2
    unfold el at h
    simp [h2] at h
    rw [flt_open h]
    simp
theorem pre_out {Z : Nat → Int} {b n k : Nat} (h : el Z b n k = false) : pre Z b n (k + 1) = pre Z b n k := by
  unfold el at h
  simp at h
  unfold pre
  rw [if_neg h.1, if_neg h.1, flt_black h.2]
theorem opn_in {Z : Nat → Int} {b n k : Nat} (hk : k < n) (h : el Z b n k = true) : (opn Z b n)[pre Z b n k]? = some (Z k) := by
  unfold opn pre
  split
  · simp [hk]
  · rename_i h2
    unfold el at h
    simp [h2] at h
    obtain ⟨m, rfl⟩ : ∃ m, n = k + (1 + m) := ⟨n - k - 1, by omega⟩
    rw [flt_split, List.getElem?_append_right (Nat.le_refl _), Nat.sub_self, flt_split]
    simp [flt, h]
theorem opn_out {Z : Nat → Int} {b n k : Nat} (h : el Z b n k = false) : (opn Z b n)[pre Z b n k]? ≠ some (Z k) := by
  unfold el at h
  simp at h
  unfold opn
  rw [if_neg h.1]
  intro e
  obtain ⟨j, _, _, hb⟩ := mem_flt.1 (List.mem_of_getElem? e)
  rw [h.2] at hb
  cases hb
theorem opn_none {Z : Nat → Int} {n : Nat} : opn Z 0 n = (List.range n).map Z := by
  unfold opn
  split
  · rfl
  · have : ∀ k, flt Z 0 k = (List.range k).map Z := by
      intro k
      induction k with
      | zero => rfl
      | succ k ih => simp [flt, ih, blk, List.range_succ]
    exact this n
theorem opn_black {Z : Nat → Int} {n : Nat} (h : okTo Z n = true) : opn Z 4294967295 n = (List.range n).map Z := by
  have : ∀ k, k ≤ n → flt Z 4294967295 k = [] := by
    intro k
    induction k with
    | zero => intro _; rfl
    | succ k ih =>
      intro hk
      obtain ⟨h0, h1, _⟩ := okTo_iff.1 h k hk
      have hb : blk 4294967295 (Z k) = true := by
        unfold blk
        rw [show 4294967295 = 2 ^ 32 - 1 from rfl, Nat.testBit_two_pow_sub_one]
        simp
        omega
      rw [flt_black hb]
      exact ih (by omega)
  unfold opn
  rw [if_pos (this n (Nat.le_refl _))]

/-! ### Each stands once -/
theorem flt_nodup {Z : Nat → Int} {b : Nat} : ∀ {k : Nat}, okTo Z k = true → (flt Z b k).Nodup
  | 0, _ => by simp [flt]
  | k + 1, h => by
    have ih := flt_nodup (b := b) (okTo_mono h (Nat.le_succ k))
    simp only [flt]
    split
    · simpa using ih
    · rw [List.nodup_append]
      refine ⟨ih, by simp, ?_⟩
      intro x hx y hy
      simp at hy
      subst hy
      obtain ⟨j, hj, e, _⟩ := mem_flt.1 hx
      have := (okTo_iff.1 h k (by omega)).2.2 j hj
      omega
theorem map_nodup {Z : Nat → Int} : ∀ {k : Nat}, okTo Z k = true → ((List.range k).map Z).Nodup
  | 0, _ => by simp
  | k + 1, h => by
    have ih := map_nodup (okTo_mono h (Nat.le_succ k))
    rw [List.range_succ, List.map_append, List.nodup_append]
    refine ⟨ih, by simp, ?_⟩
    intro x hx y hy
    simp at hx hy
    subst hy
    obtain ⟨j, hj, e⟩ := hx
    have := (okTo_iff.1 h k (by omega)).2.2 j hj
    omega
theorem opn_nodup {Z : Nat → Int} {b n : Nat} (h : okTo Z n = true) : (opn Z b n).Nodup := by
  unfold opn
  split
  · exact map_nodup h
  · exact flt_nodup h
theorem opn_bd {Z : Nat → Int} {b n q : Nat} (h : okTo Z n = true) (hq : q < (opn Z b n).length) : 0 ≤ (opn Z b n).getD q 0 ∧ (opn Z b n).getD q 0 < 32 := by
  have e : (opn Z b n).getD q 0 = (opn Z b n)[q] := by rw [List.getD_eq_getElem?_getD, List.getElem?_eq_getElem hq]; rfl
  obtain ⟨j, hj, e2⟩ := mem_opn (List.getElem_mem hq)
  rw [e, ← e2]
  obtain ⟨h0, h1, _⟩ := okTo_iff.1 h j hj
  exact ⟨h0, h1⟩
theorem opn_inj {Z : Nat → Int} {b n p q : Nat} (h : okTo Z n = true) (hp : p < (opn Z b n).length) (hq : q < (opn Z b n).length) (e : (opn Z b n).getD p 0 = (opn Z b n).getD q 0) : p = q := by
  have e1 : ∀ r (hr : r < (opn Z b n).length), (opn Z b n).getD r 0 = (opn Z b n)[r] := fun r hr => by rw [List.getD_eq_getElem?_getD, List.getElem?_eq_getElem hr]; rfl
  rw [e1 p hp, e1 q hq] at e
  have hd := List.pairwise_iff_getElem.1 (opn_nodup (b := b) h)
  rcases Nat.lt_trichotomy p q with h1 | h1 | h1
  · exact absurd e (hd p q hp hq h1)
  · exact h1
  · exact absurd e.symm (hd q p hq hp h1)
theorem opn_white {Z : Nat → Int} {b n q : Nat} (hl : (opn Z b n).length < n) (hq : q < (opn Z b n).length) : blk b ((opn Z b n).getD q 0) = false := by
  have e : (opn Z b n).getD q 0 = (opn Z b n)[q] := by rw [List.getD_eq_getElem?_getD, List.getElem?_eq_getElem hq]; rfl
  rw [e]
  have hm := List.getElem_mem hq
  revert hm
  generalize (opn Z b n)[q] = x
  intro hm
  unfold opn at hm hl
  split at hm
  · rename_i h
    rw [if_pos h] at hl
    simp at hl
  · obtain ⟨_, _, _, hb⟩ := mem_flt.1 hm
    exact hb
end Go.Proofs.Ytfcnjoobigogcaa.Hp
