/-
  Both windows at whatever node and number: what they answer, and what they know then.
-/
import Derived.Test.YtbogpnfjlmhhhaaDupRef
set_option maxRecDepth 100000
namespace Go.Proofs.Ytbogpnfjlmhhhaa.Dp
set_option linter.unusedVariables false
open Go.RowKit Lb Go.Maps

def inB (x n : Int) : Bool := decide (0 ≤ x ∧ x < 16 ∧ 0 ≤ n)
def ansN (L : Nat → Int) (S : Nat → Nat) (x n : Int) : Bool := inB x n && isN (L x.toNat) (S x.toNat) n
def stepL (L : Nat → Int) (S : Nat → Nat) (x n : Int) : Nat → Int := if inB x n = true then upd L x.toNat (nL (L x.toNat) (S x.toNat) n) else L
def stepS (L : Nat → Int) (S : Nat → Nat) (x n : Int) : Nat → Nat := if inB x n = true then upd S x.toNat (nS (L x.toNat) (S x.toNat) n) else S
def forgL (L : Nat → Int) (x : Int) : Nat → Int := if nodeB x = true then upd L x.toNat 0 else L
def forgS (S : Nat → Nat) (x : Int) : Nat → Nat := if nodeB x = true then upd S x.toNat 0 else S
def lastA (L : Nat → Int) (S : Nat → Nat) (x : Int) : Int := if nodeB x = true then (if S x.toNat = 0 then 0 else L x.toNat) else 0
def lastB (S : Nat → Nat) (x : Int) : Bool := nodeB x && !decide (S x.toNat = 0)
def AllG (L : Nat → Int) (S : Nat → Nat) : Prop := ∀ i, DGood (L i) (S i)
theorem allG_step {L : Nat → Int} {S : Nat → Nat} (h : AllG L S) {x n : Int} (hn : n < 9223372036854775808) : AllG (stepL L S x n) (stepS L S x n) := by
  unfold stepL stepS
  by_cases hb : inB x n = true
  · rw [if_pos hb, if_pos hb]
    unfold inB at hb
    rw [decide_eq_true_eq] at hb
    exact fun i => good_upd h x.toNat n hb.2.2 hn i
  · rw [if_neg hb, if_neg hb]
    exact h
theorem allG_forg {L : Nat → Int} {S : Nat → Nat} (h : AllG L S) (x : Int) : AllG (forgL L x) (forgS S x) := by
  unfold forgL forgS
  by_cases hb : nodeB x = true
  · rw [if_pos hb, if_pos hb]
    intro i
    by_cases hi : i = x.toNat
    · subst hi
      rw [upd_same, upd_same]
      exact good_zero 0
    · rw [upd_other _ _ hi, upd_other _ _ hi]
      exact h i
  · rw [if_neg hb, if_neg hb]
    exact h
theorem wnew_any (b : Nat) (L : Nat → Int) (S : Nat → Nat) (x n : Int) (w : World) (h : Win w b L S) (hm : n < 9223372036854775808) (hg : AllG L S) :
    Calls Try.prog 11 #[.pointer (some ⟨b, 0, none⟩), .int .i64 x, .int .i64 n] w fun r w' => r = .returned (.bool (ansN L S x n)) ∧ Win w' b (stepL L S x n) (stepS L S x n) ∧ Just b w w' := by
  by_cases hi : 0 ≤ x ∧ x < 16 ∧ 0 ≤ n
  · have hb : inB x n = true := by unfold inB; exact decide_eq_true hi
    unfold ansN stepL stepS
    rw [hb, if_pos rfl, if_pos rfl, Bool.true_and]
    obtain ⟨i, rfl⟩ := Int.eq_ofNat_of_zero_le hi.1
    rw [Int.toNat_natCast]
    exact new_in b i L S n w h (by omega) hi.2.2 hm (hg i)
  · have hb : inB x n = false := by unfold inB; exact decide_eq_false hi
    unfold ansN stepL stepS
    rw [hb, if_neg (by decide), if_neg (by decide)]
    refine (new_out b L S x n w h hi).mono ?_
    rintro r w' ⟨rfl, rfl⟩
    exact ⟨rfl, h, Just.refl _ _⟩
theorem rnew_any (base b k : Nat) (L : Nat → Int) (S : Nat → Nat) (M : Nat → Option Nat) (D : Nat → Dt) (x n : Int) (w : World) (h : Rf w base b L S k M D) (hm : n < 9223372036854775808) (hg : AllG L S) (hk : k < 1000) :
    Calls Try.prog 12 #[.pointer (some ⟨b, 0, none⟩), .int .i64 x, .int .i64 n] w fun r w' => r = .returned (.bool (ansN L S x n)) ∧ (∃ M' D', Rf w' base b (stepL L S x n) (stepS L S x n) (k + 1) M' D') ∧ Near b M w w' := by
  by_cases hi : 0 ≤ x ∧ x < 16 ∧ 0 ≤ n
  · have hb : inB x n = true := by unfold inB; exact decide_eq_true hi
    unfold ansN stepL stepS
    rw [hb, if_pos rfl, if_pos rfl, Bool.true_and]
    obtain ⟨i, rfl⟩ := Int.eq_ofNat_of_zero_le hi.1
    rw [Int.toNat_natCast]
    exact rnew_in base b i k L S M D n w h (by omega) hi.2.2 hm (hg i) hk
  · have hb : inB x n = false := by unfold inB; exact decide_eq_false hi
    unfold ansN stepL stepS
    rw [hb, if_neg (by decide), if_neg (by decide)]
    refine (rnew_out b x n w hi).mono ?_
    rintro r w' ⟨rfl, rfl⟩
    exact ⟨rfl, ⟨M, D, h.mono (by omega)⟩, Near.refl _ _ _⟩
theorem wforg_any (b : Nat) (L : Nat → Int) (S : Nat → Nat) (x : Int) (w : World) (h : Win w b L S) :
    Calls Try.prog 9 #[.pointer (some ⟨b, 0, none⟩), .int .i64 x] w fun r w' => r = .returned (.tuple #[]) ∧ Win w' b (forgL L x) (forgS S x) ∧ Just b w w' := by
  by_cases hi : 0 ≤ x ∧ x < 16
  · have hb : nodeB x = true := by unfold nodeB; exact decide_eq_true hi
    unfold forgL forgS
    rw [if_pos hb, if_pos hb]
    obtain ⟨i, rfl⟩ := Int.eq_ofNat_of_zero_le hi.1
    rw [Int.toNat_natCast]
    exact forget_in b i L S w h (by omega)
  · have hb : ¬ nodeB x = true := by unfold nodeB; rw [decide_eq_true_eq]; exact hi
    unfold forgL forgS
    rw [if_neg hb, if_neg hb]
    refine (forget_out b L S x w h hi).mono ?_
    rintro r w' ⟨rfl, rfl⟩
    exact ⟨rfl, h, Just.refl _ _⟩
theorem rforg_any (base b k : Nat) (L : Nat → Int) (S : Nat → Nat) (M : Nat → Option Nat) (D : Nat → Dt) (x : Int) (w : World) (h : Rf w base b L S k M D) :
    Calls Try.prog 10 #[.pointer (some ⟨b, 0, none⟩), .int .i64 x] w fun r w' => r = .returned (.tuple #[]) ∧ (∃ M' D', Rf w' base b (forgL L x) (forgS S x) k M' D') ∧ Near b M w w' := by
  by_cases hi : 0 ≤ x ∧ x < 16
  · have hb : nodeB x = true := by unfold nodeB; exact decide_eq_true hi
    unfold forgL forgS
    rw [if_pos hb, if_pos hb]
    obtain ⟨i, rfl⟩ := Int.eq_ofNat_of_zero_le hi.1
    rw [Int.toNat_natCast]
    exact rforget_in base b i k L S M D w h (by omega)
  · have hb : ¬ nodeB x = true := by unfold nodeB; rw [decide_eq_true_eq]; exact hi
    unfold forgL forgS
    rw [if_neg hb, if_neg hb]
    refine (rforget_out b x w hi).mono ?_
    rintro r w' ⟨rfl, rfl⟩
    exact ⟨rfl, ⟨M, D, h⟩, Near.refl _ _ _⟩
theorem wlast_any (b : Nat) (L : Nat → Int) (S : Nat → Nat) (x : Int) (w : World) (h : Win w b L S) :
    Calls Try.prog 13 #[.pointer (some ⟨b, 0, none⟩), .int .i64 x] w fun r w' => r = .returned (.tuple #[.int .i64 (lastA L S x), .bool (lastB S x)]) ∧ w = w' := by
  by_cases hi : 0 ≤ x ∧ x < 16
  · have hb : nodeB x = true := by unfold nodeB; exact decide_eq_true hi
    unfold lastA lastB
    rw [if_pos hb, hb, Bool.true_and]
    obtain ⟨i, rfl⟩ := Int.eq_ofNat_of_zero_le hi.1
    rw [Int.toNat_natCast]
    by_cases hs : S i = 0
    · rw [if_pos hs, decide_eq_true hs]
      exact last_none b i L S w h (by omega) hs
    · rw [if_neg hs, decide_eq_false hs]
      exact last_some b i L S w h (by omega) hs
  · have hb : nodeB x = false := by unfold nodeB; exact decide_eq_false hi
    unfold lastA lastB
    rw [hb, if_neg (by decide), Bool.false_and]
    exact last_out b L S x w h hi
theorem rlast_any (base b k : Nat) (L : Nat → Int) (S : Nat → Nat) (M : Nat → Option Nat) (D : Nat → Dt) (x : Int) (w : World) (h : Rf w base b L S k M D) :
    Calls Try.prog 14 #[.pointer (some ⟨b, 0, none⟩), .int .i64 x] w fun r w' => r = .returned (.tuple #[.int .i64 (lastA L S x), .bool (lastB S x)]) ∧ w = w' := by
  by_cases hi : 0 ≤ x ∧ x < 16
  · have hb : nodeB x = true := by unfold nodeB; exact decide_eq_true hi
    unfold lastA lastB
    rw [if_pos hb, hb, Bool.true_and]
    obtain ⟨i, rfl⟩ := Int.eq_ofNat_of_zero_le hi.1
    rw [Int.toNat_natCast]
    exact rlast_in base b i k L S M D w h (by omega)
  · have hb : nodeB x = false := by unfold nodeB; exact decide_eq_false hi
    unfold lastA lastB
    rw [hb, if_neg (by decide), Bool.false_and]
    exact rlast_out b x w hi
theorem rf_zero (w : World) (b base : Nat) (cs : Array Value) (ho : Own w b 31 cs) (hc : cs = (List.replicate 16 [Value.int .i64 0, Value.map none]).flatten.toArray) (hb : b < base) (ht : base ≤ w.heap.size) : Rf w base b (fun _ => 0) (fun _ => 0) 0 (fun _ => none) (fun _ => .map []) where
  blk := Blk.of ho (by rw [hc]; rfl) (fun i hi => by
    rw [hc]
    rcases (show i = 0 ∨ i = 1 ∨ i = 2 ∨ i = 3 ∨ i = 4 ∨ i = 5 ∨ i = 6 ∨ i = 7 ∨ i = 8 ∨ i = 9 ∨ i = 10 ∨ i = 11 ∨ i = 12 ∨ i = 13 ∨ i = 14 ∨ i = 15 ∨ i = 16 ∨ i = 17 ∨ i = 18 ∨ i = 19 ∨ i = 20 ∨ i = 21 ∨ i = 22 ∨ i = 23 ∨ i = 24 ∨ i = 25 ∨ i = 26 ∨ i = 27 ∨ i = 28 ∨ i = 29 ∨ i = 30 ∨ i = 31 by omega) with rfl | rfl | rfl | rfl | rfl | rfl | rfl | rfl | rfl | rfl | rfl | rfl | rfl | rfl | rfl | rfl | rfl | rfl | rfl | rfl | rfl | rfl | rfl | rfl | rfl | rfl | rfl | rfl | rfl | rfl | rfl | rfl <;> rfl)
  low := hb
  top := ht
  none_ _ := by simp
  own _ _ e := by cases e
  is _ := isMap_empty
  tell _ _ e := absurd rfl e
  apart _ _ _ e := by cases e
end Go.Proofs.Ytbogpnfjlmhhhaa.Dp
