/-
  How a quality rises and falls, one step behind the other; a report of nothing.
-/
import Derived.Test.YtpapkcelgbnkaaaNeighLaws
set_option maxRecDepth 100000
namespace Go.Proofs.Ytpapkcelgbnkaaa.Ng
set_option linter.unusedVariables false
open Go.RowKit Lb

def U : Nat → Int
  | 0 => 0
  | n + 1 => up (U n)
def D (q : Int) : Nat → Int
  | 0 => q
  | n + 1 => down (D q n)
theorem U_bd : ∀ n, 0 ≤ U n ∧ U n ≤ 255
  | 0 => ⟨Int.le_refl _, by show (0 : Int) ≤ 255; decide⟩
  | n + 1 => by
    have := U_bd n
    show 0 ≤ up (U n) ∧ up (U n) ≤ 255
    unfold up
    omega
theorem U_step (n : Nat) : U (n + 1) = 255 ∧ U n = 255 ∨ U n < U (n + 1) := by
  have := U_bd n
  show up (U n) = 255 ∧ U n = 255 ∨ U n < up (U n)
  unfold up
  omega
theorem U_pos {n : Nat} (h : 0 < n) : 0 < U n := by
  obtain ⟨m, rfl⟩ : ∃ m, n = m + 1 := ⟨n - 1, by omega⟩
  have := U_bd m
  show 0 < up (U m)
  unfold up
  omega
theorem U_fifty : U 50 = 255 := by decide +kernel
theorem U_top : ∀ n, U (50 + n) = 255
  | 0 => U_fifty
  | n + 1 => by
    show up (U (50 + n)) = 255
    rw [U_top n]
    decide
theorem D_bd {q : Int} (h : 0 ≤ q ∧ q ≤ 255) : ∀ n, 0 ≤ D q n ∧ D q n ≤ 255
  | 0 => h
  | n + 1 => by
    have := D_bd h n
    show 0 ≤ down (D q n) ∧ down (D q n) ≤ 255
    unfold down
    omega
theorem D_step {q : Int} (h : 0 ≤ q ∧ q ≤ 255) (n : Nat) : D q (n + 1) = 0 ∧ D q n = 0 ∨ D q (n + 1) < D q n := by
  have := D_bd h n
  show down (D q n) = 0 ∧ D q n = 0 ∨ down (D q n) < D q n
  unfold down
  omega
theorem D_le {p q : Int} (h : p ≤ q) : ∀ n, D p n ≤ D q n
  | 0 => h
  | n + 1 => by
    have := D_le h n
    show down (D p n) ≤ down (D q n)
    unfold down
    omega
theorem D_fifty : D 255 50 = 0 := by decide +kernel
theorem D_low {q : Int} (h : 0 ≤ q ∧ q ≤ 255) : ∀ n, D q (50 + n) = 0
  | 0 => by
    have h1 := D_le (p := q) (q := 255) h.2 50
    have h2 := D_bd h 50
    rw [D_fifty] at h1
    show D q 50 = 0
    omega
  | n + 1 => by
    show down (D q (50 + n)) = 0
    rw [D_low h n]
    decide
/-- A table that knows of node a alone. -/
def only (me : Int) (a : Nat) (q : Int) (i : Nat) : Int := if knB me a = true ∧ i = a then q else 0
theorem only_zero (me : Int) (a : Nat) : only me a 0 = fun _ => 0 := by
  funext i
  unfold only
  split <;> rfl
theorem only_up (me : Int) (a : Nat) (q : Int) : upTo me (only me a q) a = only me a (up q) := by
  unfold upTo
  by_cases h : knB me a = true
  · rw [if_pos h]
    funext i
    unfold only
    simp only [Int.toNat_natCast, h, true_and]
    by_cases hi : i = a
    · rw [if_pos hi, if_pos hi, if_pos hi]
    · rw [if_neg hi, if_neg hi, if_neg hi]
  · rw [if_neg h]
    funext i
    unfold only
    rw [if_neg (fun e => h e.1), if_neg (fun e => h e.1)]
theorem only_down (me : Int) (a : Nat) (q : Int) : downTo me (only me a q) a = only me a (down q) := by
  unfold downTo
  by_cases h : knB me a = true
  · rw [if_pos h]
    funext i
    unfold only
    simp only [Int.toNat_natCast, h, true_and]
    by_cases hi : i = a
    · rw [if_pos hi, if_pos hi, if_pos hi]
    · rw [if_neg hi, if_neg hi, if_neg hi]
  · rw [if_neg h]
    funext i
    unfold only
    rw [if_neg (fun e => h e.1), if_neg (fun e => h e.1)]
theorem only_good {me : Int} {a : Nat} {q : Int} (h : 0 ≤ q ∧ q ≤ 255) : Good (only me a q) := by
  intro i
  unfold only
  split <;> omega
theorem only_of (me : Int) (a : Nat) (q : Int) (i : Nat) : qOf me (only me a q) i = if knB me a = true ∧ i = a then q else 0 := by
  unfold qOf
  rw [Int.toNat_natCast]
  by_cases h : knB me i = true
  · rw [if_pos h]; rfl
  · rw [if_neg h, if_neg]
    rintro ⟨h1, rfl⟩
    exact h h1
theorem pairs_none {Q : Nat → Int} {least : Int} (h : ∀ k, Q k < least) : ∀ n, pairs Q least n = []
  | 0 => rfl
  | n + 1 => by
    have := h n
    rw [pairs_not (by omega), pairs_none h n]
theorem report_low (b : Nat) (x y : Int) (w : World) (hy : y ≤ 0) : Calls Try.prog 18 #[.pointer (some ⟨b, 0, none⟩), .int .i64 x, .int .i64 y] w fun r w' => r = .returned (.slice none 0 0) ∧ w = w' := by
  have hy2 : decide (y ≤ 0) = true := by simpa using hy
  go_enter Try.func18, Try.ntmps18
  go_wp2_with fail
  go_ret
  exact ⟨rfl, rfl⟩
end Go.Proofs.Ytpapkcelgbnkaaa.Ng
