/-
  Joining (chapter 18): what is left behind takings, and which error was met.
-/
import Derived.Test.YtphiohdhgkpgnaaJoTake
set_option maxRecDepth 100000
namespace Go.Proofs.Ytphiohdhgkpgnaa.Jo
set_option linter.unusedVariables false
open Go.RowKit Lb Go.Shelf Bf Se Cl

theorem lft_no {l : List Int} {k : Nat} (h : l.length < k) : lft l k = [] := if_pos h
theorem lft_yes {l : List Int} {k : Nat} (h : k ≤ l.length) : lft l k = l.drop k := if_neg (by omega)
theorem er_no {l : List Int} {k : Nat} (h : l.length < k) : er l k 0 = 2 := by unfold er; rw [if_pos h]; rfl
theorem er_yes {l : List Int} {k : Nat} {e : Int} (h : k ≤ l.length) : er l k e = e := if_neg (by omega)
theorem lft_add {l : List Int} {a c : Nat} (hc : 0 < c) : lft (lft l a) c = lft l (a + c) := by
  by_cases h : l.length < a
  · rw [lft_no h, lft_no (l := []) (k := c) (by simpa using hc), lft_no (l := l) (k := a + c) (by omega)]
  · rw [lft_yes (l := l) (k := a) (by omega)]
    have hd : (l.drop a).length = l.length - a := List.length_drop
    by_cases h2 : l.length < a + c
    · rw [lft_no (l := l.drop a) (k := c) (by omega), lft_no h2]
    · rw [lft_yes (l := l.drop a) (k := c) (by omega), lft_yes (l := l) (k := a + c) (by omega), List.drop_drop]
theorem er_add {l : List Int} {a c : Nat} (hc : 0 < c) : er (lft l a) c (er l a 0) = er l (a + c) 0 := by
  by_cases h : l.length < a
  · rw [lft_no h, er_no h, er_no (l := l) (k := a + c) (by omega)]
    unfold er
    rw [if_pos (by simpa using hc)]
    rfl
  · rw [lft_yes (l := l) (k := a) (by omega), er_yes (l := l) (k := a) (by omega)]
    have hd : (l.drop a).length = l.length - a := List.length_drop
    by_cases h2 : l.length < a + c
    · rw [er_no (l := l.drop a) (k := c) (by omega), er_no h2]
    · rw [er_yes (l := l.drop a) (k := c) (by omega), er_yes (l := l) (k := a + c) (by omega)]
theorem getD_drop {l : List Int} {k q : Nat} : (l.drop k).getD q 0 = l.getD (k + q) 0 := lft_get
theorem n4_drop (l : List Int) (a k : Nat) : n4 (l.drop a) k = n4 l (a + k) := by
  unfold n4
  rw [getD_drop, getD_drop, getD_drop, getD_drop]
  rfl
theorem m4_lft {l : List Int} {a : Nat} (h : a + 4 ≤ l.length) : m4 (lft l a) = n4 l a := by
  rw [lft_yes (by omega)]
  unfold m4
  rw [if_neg (by rw [List.length_drop]; omega), n4_drop]
  rfl
theorem okB_lft {l : List Int} (h : okB l) (k : Nat) : okB (lft l k) := by
  unfold lft
  split
  · exact okB_nil
  · exact okB_drop h k
theorem short_er (l : List Int) (k : Nat) : shortB (lft l k) (er l k 0) = decide (l.length < k) := by
  unfold shortB
  by_cases h : l.length < k
  · rw [er_no h, lft_no h, decide_eq_true h]
    rfl
  · rw [er_yes (by omega), decide_eq_false h]
    unfold endE
    rw [if_pos rfl]
    split <;> rfl
theorem end_er (l : List Int) (k : Nat) : endE (lft l k) (er l k 0) = if l.length < k then 2 else if l.length ≠ k then 3 else 0 := by
  unfold endE
  by_cases h : l.length < k
  · rw [er_no h, if_pos h, if_neg (by decide)]
  · rw [er_yes (by omega), if_pos rfl, lft_yes (by omega), if_neg h]
    by_cases h2 : l.length = k
    · rw [if_pos (show l.drop k = [] from List.drop_eq_nil_of_le (by omega)), if_neg (fun e => e h2)]
    · rw [if_neg (show ¬ l.drop k = [] from fun e => by have := List.drop_eq_nil_iff.1 e; omega), if_pos h2]
/-- What is asked by the bytes behind the mark and the node. -/
def ask2 (nd : Int) (l : List Int) : Int := if l.length < 1 then 2 else if otherB (l.getD 0 0) nd = false then 3 else if l.length < 13 then 2 else if l.length ≠ 13 then 3 else 0
def askR2 (nd : Int) (l : List Int) : Rq := ⟨nd, l.getD 0 0, n4 l 1, n4 l 5, n4 l 9⟩
/-- What is asked by bytes: the error, the request. -/
def askE (l : List Int) : Int :=
  if l.length < 1 then 2 else if l.getD 0 0 ≠ 74 then 3 else
  if l.length < 2 then 2 else if nodeB (l.getD 1 0) = false then 3 else ask2 (l.getD 1 0) (l.drop 2)
def askR (l : List Int) : Rq := if askE l = 0 then askR2 (l.getD 1 0) (l.drop 2) else Rq.none
theorem ask2_ok {nd : Int} {l : List Int} (h : ask2 nd l = 0) : l.length = 13 ∧ otherB (l.getD 0 0) nd = true := by
  unfold ask2 at h
  split at h
  · cases h
  · split at h
    · cases h
    · rename_i h2
      split at h
      · cases h
      · split at h
        · cases h
        · rename_i h4
          exact ⟨by omega, by simpa using h2⟩
theorem askE_ok {l : List Int} (h : askE l = 0) : l.length = 15 ∧ l.getD 0 0 = 74 ∧ nodeB (l.getD 1 0) = true ∧ otherB (l.getD 2 0) (l.getD 1 0) = true ∧ askR l = ⟨l.getD 1 0, l.getD 2 0, n4 l 3, n4 l 7, n4 l 11⟩ := by
  have hR : askR l = askR2 (l.getD 1 0) (l.drop 2) := if_pos h
  unfold askE at h
  split at h
  · cases h
  · split at h
    · cases h
    · rename_i h1 h2
      split at h
      · cases h
      · split at h
        · cases h
        · rename_i h3 h4
          obtain ⟨h5, h6⟩ := ask2_ok h
          rw [List.length_drop] at h5
          rw [getD_drop] at h6
          refine ⟨by omega, by simpa using h2, by simpa using h4, h6, ?_⟩
          rw [hR]
          unfold askR2
          rw [getD_drop, n4_drop, n4_drop, n4_drop]
end Go.Proofs.Ytphiohdhgkpgnaa.Jo
