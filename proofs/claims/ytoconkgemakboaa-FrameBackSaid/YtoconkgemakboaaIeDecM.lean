/-
  Package ie (chapter 6): elements out of bytes, plain.
-/
import Derived.Test.YtoconkgemakboaaIeREnc
set_option maxRecDepth 100000
namespace Go.Proofs.Ytoconkgemakboaa.Ie
set_option linter.unusedVariables false
open Go.RowKit Lb Bf

/-- The number that bytes are, the highest first. -/
def numB (l : List Int) : Int := l.foldl (fun x c => x * 256 + c) 0
theorem numB_snoc (l : List Int) (c : Int) : numB (l ++ [c]) = numB l * 256 + c := by
  unfold numB
  rw [List.foldl_append]
  rfl
theorem bytesK_snoc (x k : Nat) : bytesK x (k + 1) = bytesK (x / 256) k ++ [((x % 256 : Nat) : Int)] := by
  apply List.ext_getElem
  · simp [bytesK_len]
  · intro i h1 h2
    rw [bytesK_len] at h1
    have e1 := bytesK_at x (k + 1) i h1
    rw [List.getD_eq_getElem?_getD, List.getElem?_eq_getElem (by rw [bytesK_len]; exact h1)] at e1
    simp only [Option.getD_some] at e1
    rw [e1]
    by_cases h : i < k
    · have e2 := bytesK_at (x / 256) k i h
      rw [List.getD_eq_getElem?_getD, List.getElem?_eq_getElem (by rw [bytesK_len]; exact h)] at e2
      simp only [Option.getD_some] at e2
      rw [List.getElem_append_left (by rw [bytesK_len]; exact h), e2, Nat.shiftRight_eq_div_pow, Nat.shiftRight_eq_div_pow, Nat.div_div_eq_div_mul]
      congr 3
      rw [show 8 * (k + 1 - 1 - i) = 8 + 8 * (k - 1 - i) by omega, Nat.pow_add]
    · obtain rfl : i = k := by omega
      rw [List.getElem_append_right (by rw [bytesK_len]; omega)]
      simp [bytesK_len]
theorem numB_bytes : ∀ (k x : Nat), x < 256 ^ k → numB (bytesK x k) = (x : Int) := by
  intro k
  induction k with
  | zero => intro x hx; have : x = 0 := (by simpa using hx); subst this; rfl
  | succ k ih =>
    intro x hx
    rw [bytesK_snoc, numB_snoc, ih (x / 256) (by rw [Nat.div_lt_iff_lt_mul (by decide)]; rwa [Nat.pow_succ] at hx)]
    omega
theorem numB_of {x k : Nat} {l : List Int} (hx : x < 256 ^ k) (h : bytesK x k = l) : numB l = (x : Int) := by rw [← h]; exact numB_bytes k x hx
def okD' (l : List Int) : Prop := ∀ x, x ∈ l → 0 ≤ x ∧ x < 256
theorem numB_bd : ∀ (k : Nat) (l : List Int), l.length = k → okD' l → 0 ≤ numB l ∧ numB l < 256 ^ k := by
  intro k
  induction k with
  | zero => intro l hl _; have : l = [] := List.length_eq_zero_iff.1 hl; subst this; exact ⟨(by decide), (by decide)⟩
  | succ k ih =>
    intro l hl hd
    rcases List.eq_nil_or_concat l with rfl | ⟨m, c, rfl⟩
    · simp at hl
    · rw [List.concat_eq_append] at *
      have h1 := ih m (by simp at hl; omega) (fun x hx => hd x (List.mem_append_left _ hx))
      have h2 := hd c (List.mem_append_right _ (by simp))
      rw [numB_snoc, Int.pow_succ]
      omega
/-- An element out of what stands behind its kind and its size. -/
def elOf (k : Int) (xs : List Int) : El :=
  if k = 1 then ⟨1, numB (xs.take 5), xs.getD 5 0, 0, []⟩
  else if k = 2 then ⟨2, 0, 0, IntKind.i16.wrap (numB xs), []⟩
  else ⟨k, 0, 0, 0, xs⟩
def sizeB (k s : Int) : Bool := if k = 1 then s == 6 else if k = 2 then s == 2 else decide (s ≤ 16)
def dec1 (L : List Int) : Except Int (El × List Int) :=
  match L with
  | [] => .error 2
  | k :: L1 =>
    if k < 1 ∨ 4 < k then .error 3
    else match L1 with
      | [] => .error 2
      | s :: L2 => if sizeB k s = false then .error 3 else if L2.length < s.toNat then .error 2 else .ok (elOf k (L2.take s.toNat), L2.drop s.toNat)
def decN : Nat → List Int → Except Int (List El × List Int)
  | 0, L => .ok ([], L)
  | n + 1, L => match dec1 L with
    | .error e => .error e
    | .ok (x, R) => match decN n R with
      | .error e => .error e
      | .ok (l, Q) => .ok (x :: l, Q)
def decI (L : List Int) : Except Int (List El) :=
  match L with
  | [] => .error 2
  | n :: L1 => if 4 < n then .error 3 else match decN n.toNat L1 with
    | .error e => .error e
    | .ok (l, R) => if R = [] then .ok l else .error 3
/-- What has been decoded goes on. -/
theorem decN_snoc : ∀ (n : Nat) (L : List Int), decN (n + 1) L = match decN n L with
    | .error e => .error e
    | .ok (l, R) => match dec1 R with
      | .error e => .error e
      | .ok (x, Q) => .ok (l ++ [x], Q) := by
  intro n
  induction n with
  | zero =>
    intro L
    simp only [decN]
    cases h : dec1 L with
    | error e => rfl
    | ok p => obtain ⟨x, R⟩ := p; rfl
  | succ n ih =>
    intro L
    rw [decN]
    cases h : dec1 L with
    | error e =>
      simp only
      rw [decN, h]
    | ok p =>
      obtain ⟨x, R⟩ := p
      simp only
      rw [ih R]
      conv => rhs; rw [decN, h]
      simp only
      cases h2 : decN n R with
      | error e => rfl
      | ok p =>
        obtain ⟨l, Q⟩ := p
        simp only
        cases h3 : dec1 Q with
        | error e => rfl
        | ok p => obtain ⟨y, S⟩ := p; rfl
theorem decN_err {n m : Nat} {L : List Int} {e : Int} (h : decN n L = .error e) (hm : n ≤ m) : decN m L = .error e := by
  induction m with
  | zero => obtain rfl : n = 0 := by omega
            exact h
  | succ m ih =>
    by_cases hn : n = m + 1
    · subst hn; exact h
    · rw [decN_snoc, ih (by omega)]
end Go.Proofs.Ytoconkgemakboaa.Ie
