/-
  One contract a method, for any arguments: package offset's proof, and the reference's.
-/
import Derived.Test.YtjknppldpepcnaaOffRef
set_option maxRecDepth 100000
namespace Go.Proofs.Ytjknppldpepcnaa.Of
set_option linter.unusedVariables false
open Go.RowKit Lb

def okH (N : Nat) (i y : Int) : Bool := decide (0 < i ∧ i < N ∧ 0 ≤ y ∧ y < N ∧ i ≠ y)
def okL (N : Nat) (i : Int) : Bool := decide (0 < i ∧ i < N)
def hK (N : Nat) (K : Nat → Bool) (i y : Int) : Nat → Bool := if okH N i y = true then upd K i.toNat (K y.toNat) else K
def hB (N : Nat) (K : Nat → Bool) (B : Nat → Int) (i y e : Int) : Nat → Int := if okH N i y = true then upd B i.toNat (if K y.toNat = true then B y.toNat + lim e 0 1000 else 0) else B
def hC (N : Nat) (C : Nat → Int) (i y e : Int) : Nat → Int := if okH N i y = true then upd C i.toNat (put (C y.toNat) e) else C
def lK (N : Nat) (K : Nat → Bool) (i : Int) : Nat → Bool := if okL N i = true then upd K i.toNat false else K
def lB (N : Nat) (B : Nat → Int) (i : Int) : Nat → Int := if okL N i = true then upd B i.toNat 0 else B
def lC (N : Nat) (C : Nat → Int) (i : Int) : Nat → Int := if okL N i = true then upd C i.toNat (-1) else C

theorem heard_any (b N : Nat) (i y e : Int) (K : Nat → Bool) (B : Nat → Int) (w : World) (h : Prf w b N K B) (h0 : 0 < N) (hN : N ≤ 16) (hb : ∀ j, 0 ≤ B j ∧ B j ≤ 4000000000000) :
    Calls Try.prog 20 #[.pointer (some ⟨b, 0, none⟩), .int .i64 i, .int .i64 y, .int .i64 e] w fun r w' => r = .returned (.tuple #[]) ∧ Prf w' b N (hK N K i y) (hB N K B i y e) ∧ Just b w w' := by
  by_cases hok : 0 < i ∧ i < N ∧ 0 ≤ y ∧ y < N ∧ i ≠ y
  · have e1 : okH N i y = true := by unfold okH; simpa using hok
    obtain ⟨i, rfl⟩ := Int.eq_ofNat_of_zero_le (show 0 ≤ i by omega)
    obtain ⟨y, rfl⟩ := Int.eq_ofNat_of_zero_le hok.2.2.1
    unfold hK hB
    rw [if_pos e1, if_pos e1, Int.toNat_natCast, Int.toNat_natCast]
    cases hy : K y
    · rw [if_neg (by decide)]
      exact heard_none b N i y e K B w h hN (by omega) (by omega) (by omega) (by omega) hy
    · rw [if_pos rfl]
      exact heard_some b N i y e K B w h hN (by omega) (by omega) (by omega) (by omega) hy (hb y).1 (hb y).2
  · have e1 : ¬ okH N i y = true := by unfold okH; simpa using hok
    unfold hK hB
    rw [if_neg e1, if_neg e1]
    refine (heard_off b N i y e K B w h h0 hok).mono ?_
    rintro r w' ⟨rfl, rfl⟩
    exact ⟨rfl, h, Just.refl _ _⟩
theorem lose_any (b N : Nat) (i : Int) (K : Nat → Bool) (B : Nat → Int) (w : World) (h : Prf w b N K B) (h0 : 0 < N) (hN : N ≤ 16) :
    Calls Try.prog 18 #[.pointer (some ⟨b, 0, none⟩), .int .i64 i] w fun r w' => r = .returned (.tuple #[]) ∧ Prf w' b N (lK N K i) (lB N B i) ∧ Just b w w' := by
  by_cases hok : 0 < i ∧ i < N
  · have e1 : okL N i = true := by unfold okL; simpa using hok
    obtain ⟨i, rfl⟩ := Int.eq_ofNat_of_zero_le (show 0 ≤ i by omega)
    unfold lK lB
    rw [if_pos e1, if_pos e1, Int.toNat_natCast]
    exact lose_in b N i K B w h (by omega) (by omega) hN
  · have e1 : ¬ okL N i = true := by unfold okL; simpa using hok
    unfold lK lB
    rw [if_neg e1, if_neg e1]
    refine (lose_out b N i K B w h hok h0).mono ?_
    rintro r w' ⟨rfl, rfl⟩
    exact ⟨rfl, h, Just.refl _ _⟩
theorem ref_heard_any (b base N : Nat) (i y e : Int) (C : Nat → Int) (w : World) (h : RPrf w b base N C) (hC' : ∀ j, C j ≤ 4000000000000) (hB : base ≤ w.heap.size) :
    Calls Try.prog 21 #[.pointer (some ⟨b, 0, none⟩), .int .i64 i, .int .i64 y, .int .i64 e] w fun r w' => r = .returned (.tuple #[]) ∧ RPrf w' b base N (hC N C i y e) ∧ Below base w w' := by
  by_cases hok : 0 < i ∧ i < N ∧ 0 ≤ y ∧ y < N ∧ i ≠ y
  · have e1 : okH N i y = true := by unfold okH; simpa using hok
    obtain ⟨i, rfl⟩ := Int.eq_ofNat_of_zero_le (show 0 ≤ i by omega)
    obtain ⟨y, rfl⟩ := Int.eq_ofNat_of_zero_le hok.2.2.1
    unfold hC
    rw [if_pos e1, Int.toNat_natCast, Int.toNat_natCast]
    exact ref_heard_in b base N i y e C w h (by omega) (by omega) (by omega) (by omega) (hC' y) hB
  · have e1 : ¬ okH N i y = true := by unfold okH; simpa using hok
    unfold hC
    rw [if_neg e1]
    refine (ref_heard_off b base N i y e C w h hok).mono ?_
    rintro r w' ⟨rfl, rfl⟩
    exact ⟨rfl, h, Below.refl _ _⟩
theorem ref_lose_any (b base N : Nat) (i : Int) (C : Nat → Int) (w : World) (h : RPrf w b base N C) (hB : base ≤ w.heap.size) :
    Calls Try.prog 19 #[.pointer (some ⟨b, 0, none⟩), .int .i64 i] w fun r w' => r = .returned (.tuple #[]) ∧ RPrf w' b base N (lC N C i) ∧ Below base w w' := by
  by_cases hok : 0 < i ∧ i < N
  · have e1 : okL N i = true := by unfold okL; simpa using hok
    obtain ⟨i, rfl⟩ := Int.eq_ofNat_of_zero_le (show 0 ≤ i by omega)
    unfold lC
    rw [if_pos e1, Int.toNat_natCast]
    exact ref_lose_in b base N i C w h (by omega) (by omega) hB
  · have e1 : ¬ okL N i = true := by unfold okL; simpa using hok
    unfold lC
    rw [if_neg e1]
    refine (ref_lose_out b base N i C w h hok).mono ?_
    rintro r w' ⟨rfl, rfl⟩
    exact ⟨rfl, h, Below.refl _ _⟩

/-- What the reference holds of what package offset knows. -/
def cOf (K : Nat → Bool) (B : Nat → Int) (i : Nat) : Int := if K i = true then B i else -1
/-- What is unknown has bound 0, and no bound is greater than m. -/
def Fit (K : Nat → Bool) (B : Nat → Int) (m : Int) : Prop := ∀ i, (K i = false → B i = 0) ∧ 0 ≤ B i ∧ B i ≤ m
theorem bound_any (b N : Nat) (i : Int) (K : Nat → Bool) (B : Nat → Int) (w : World) (h : Prf w b N K B) (hN : N ≤ 16) :
    Calls Try.prog 22 #[.pointer (some ⟨b, 0, none⟩), .int .i64 i] w fun r w' => r = .returned (.tuple #[.int .i64 (if 0 ≤ i ∧ i < N then B i.toNat else 0), .bool (decide (0 ≤ i ∧ i < N) && K i.toNat)]) ∧ ∃ m, w.drewN m = w' := by
  by_cases hok : 0 ≤ i ∧ i < N
  · obtain ⟨i, rfl⟩ := Int.eq_ofNat_of_zero_le hok.1
    rw [if_pos hok, decide_eq_true hok, Int.toNat_natCast, Bool.true_and]
    exact bound_in b N i K B w h (by omega) hN
  · rw [if_neg hok, decide_eq_false hok, Bool.false_and]
    refine (bound_out b N i K B w h hok).mono ?_
    rintro r w' ⟨rfl, rfl⟩
    exact ⟨rfl, 0, rfl⟩
theorem ref_bound_any (b base N : Nat) (i : Int) (K : Nat → Bool) (B : Nat → Int) (m : Int) (w : World) (h : RPrf w b base N (cOf K B)) (hf : Fit K B m) :
    Calls Try.prog 23 #[.pointer (some ⟨b, 0, none⟩), .int .i64 i] w fun r w' => r = .returned (.tuple #[.int .i64 (if 0 ≤ i ∧ i < N then B i.toNat else 0), .bool (decide (0 ≤ i ∧ i < N) && K i.toNat)]) ∧ w = w' := by
  by_cases hok : 0 ≤ i ∧ i < N
  · obtain ⟨i, rfl⟩ := Int.eq_ofNat_of_zero_le hok.1
    rw [if_pos hok, decide_eq_true hok, Int.toNat_natCast, Bool.true_and]
    obtain ⟨f1, f2, f3⟩ := hf i
    cases hK : K i
    · rw [f1 hK]
      exact ref_bound_no b base N i _ w h (by omega) (by unfold cOf; rw [hK]; simp)
    · have := ref_bound_yes b base N i _ w h (by omega) (by unfold cOf; rw [hK]; exact f2)
      unfold cOf at this
      rw [hK, if_pos rfl] at this
      exact this
  · rw [if_neg hok, decide_eq_false hok, Bool.false_and]
    exact ref_bound_out b base N i _ w h hok

theorem fit_tick {N : Nat} {K : Nat → Bool} {B : Nat → Int} {m : Int} (h : Fit K B m) (k : Nat) : Fit K (tick N K B k) (m + 1) := by
  intro i
  obtain ⟨f1, f2, f3⟩ := h i
  unfold tick
  split
  · rename_i hc
    exact ⟨fun e => by rw [e] at hc; exact absurd hc.2.2.1 (by decide), by omega, by omega⟩
  · exact ⟨f1, f2, by omega⟩
theorem fit_lose {N : Nat} {K : Nat → Bool} {B : Nat → Int} {m : Int} (h : Fit K B m) (hm : 0 ≤ m) (i : Int) : Fit (lK N K i) (lB N B i) m := by
  unfold lK lB
  split
  · intro j
    unfold upd
    split
    · exact ⟨fun _ => rfl, by omega, hm⟩
    · exact h j
  · exact h
theorem fit_heard {N : Nat} {K : Nat → Bool} {B : Nat → Int} {m : Int} (h : Fit K B m) (hm : 0 ≤ m) (i y e : Int) : Fit (hK N K i y) (hB N K B i y e) (m + 1000) := by
  have l0 := lim_low e 0 1000 (by decide)
  have l1 := lim_high e 0 1000
  unfold hK hB
  split
  · intro j
    obtain ⟨g1, g2, g3⟩ := h y.toNat
    obtain ⟨f1, f2, f3⟩ := h j
    unfold upd
    split
    · split
      · rename_i hk
        exact ⟨fun e => by rw [hk] at e; exact absurd e (by decide), by omega, by omega⟩
      · exact ⟨fun _ => rfl, by omega, by omega⟩
    · exact ⟨f1, f2, by omega⟩
  · intro j
    obtain ⟨f1, f2, f3⟩ := h j
    exact ⟨f1, f2, by omega⟩
theorem cOf_tick {N : Nat} {K : Nat → Bool} {B : Nat → Int} {m : Int} (h : Fit K B m) (hm : m < 1000000000000) : rtick (cOf K B) N = cOf K (tick N K B N) := by
  funext j
  obtain ⟨f1, f2, f3⟩ := h j
  unfold rtick cOf tick
  cases hk : K j
  · simp
  · simp only [if_true, true_and]
    by_cases hj : 1 ≤ j ∧ j < N
    · rw [if_pos ⟨hj.1, hj.2, f2⟩, if_pos ⟨hj.1, hj.2, by omega⟩]
      omega
    · rw [if_neg (by omega), if_neg (by omega)]
theorem cOf_lose (N : Nat) (K : Nat → Bool) (B : Nat → Int) (i : Int) : lC N (cOf K B) i = cOf (lK N K i) (lB N B i) := by
  unfold lC lK lB
  split
  · funext j
    unfold cOf upd
    split
    · rfl
    · rfl
  · rfl
theorem cOf_heard {N : Nat} {K : Nat → Bool} {B : Nat → Int} {m : Int} (h : Fit K B m) (hm : m < 900000000000) (i y e : Int) : hC N (cOf K B) i y e = cOf (hK N K i y) (hB N K B i y e) := by
  have l0 := lim_low e 0 1000 (by decide)
  have l1 := lim_high e 0 1000
  unfold hC hK hB
  split
  · funext j
    obtain ⟨g1, g2, g3⟩ := h y.toNat
    unfold cOf upd
    split
    · unfold put
      cases hk : K y.toNat
      · simp
      · simp only [if_true]
        rw [if_neg (by omega)]
        omega
    · rfl
  · rfl
end Go.Proofs.Ytjknppldpepcnaa.Of
