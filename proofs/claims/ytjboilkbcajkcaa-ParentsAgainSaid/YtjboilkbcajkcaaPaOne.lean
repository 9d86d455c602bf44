/-
  Package parents: one neighbour alone: what Hear makes of it.
-/
import Derived.Test.YtjboilkbcajkcaaPaAwake
set_option maxRecDepth 100000
namespace Go.Proofs.Ytjboilkbcajkcaa.Pa
set_option linter.unusedVariables false
open Go.RowKit Lb Go.Shelf

/-- Nobody, or just x's node. -/
def Alone (n : Int) (l : List P) : Prop := l = [] ∨ ∃ z, l = [z] ∧ z.n = n
theorem one_l1 {l : List P} {n : Int} (h : Alone n l) : l1 l n = [] := by
  rcases h with rfl | ⟨z, rfl, e⟩
  · rfl
  · have : (z.n == n) = true := by simp [e]
    simp [l1, kept, this]
theorem one_l2 {l : List P} {x : P} (h : Alone x.n l) : l2 l x = [x] := by
  unfold l2
  rw [one_l1 h]
  rfl
theorem one_l3 {l : List P} {x : P} (rk : Int) (h : Alone x.n l) : l3 rk l x = [x] := by
  unfold l3
  rw [one_l2 h]
  split
  · simp [kept]
    omega
  · rfl
theorem one_l4 {l : List P} {x : P} (rk : Int) (h : Alone x.n l) : l4 rk l x = [x] := by
  unfold l4
  rw [one_l3 rk h]
  rfl
theorem one_hi {me rk : Int} {l : List P} {x : P} (h : Alone x.n l) (hm : mayH me x = true) (hr : rk ≤ x.r) : hearB me rk l x = false ∧ hearR me rk l x = rk ∧ hearL me rk l x = [] := by
  unfold hearB hearR hearL
  rw [if_pos hm, if_pos hr, if_pos hm, if_pos hr, if_pos hm, if_pos hr, one_l1 h]
  exact ⟨rfl, rfl, rfl⟩
theorem one_lo {me rk : Int} {l : List P} {x : P} (h : Alone x.n l) (hm : mayH me x = true) (hr : x.r < rk) : hearB me rk l x = true ∧ hearR me rk l x = x.r + 1 ∧ hearL me rk l x = [x] := by
  unfold hearB hearR hearL
  rw [if_pos hm, if_neg (by omega), if_pos hm, if_neg (by omega), if_pos hm, if_neg (by omega), one_l4 rk h]
  refine ⟨?_, ?_, rfl⟩
  · simp [rkoP]
  · unfold rk3
    split <;> omega
end Go.Proofs.Ytjboilkbcajkcaa.Pa
