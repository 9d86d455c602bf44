/-
  Deal (chapter 22), in plain words: what each node has got, and the first place at which a link fits.
-/
import Derived.Test.YtahcplddonipcaaGreatAlClash
import Derived.Test.YtahcplddonipcaaGreatCeMath
set_option maxRecDepth 100000
namespace Go.Proofs.YtahcplddonipcaaGreat.Al
set_option linter.unusedVariables false
set_option linter.unusedSimpArgs false
open Go.RowKit Lb Cl Ce

/-- What each node has got. -/
abbrev Hs := Nat → List C
/-- Cell c of node x clashes with none that were dealt. -/
def fitsF (F : Hs) (c : C) (x : Int) : Bool := (List.range 16).all fun y => (F y).all fun o => !clashB c o x (y : Int)
theorem fitsF_yes {F : Hs} {c : C} {x : Int} : fitsF F c x = true ↔ ∀ y, y < 16 → ∀ o ∈ F y, clashB c o x (y : Int) = false := by
  unfold fitsF
  rw [List.all_eq_true]
  constructor
  · intro h y hy o ho
    have := List.all_eq_true.1 (h y (List.mem_range.2 hy)) o ho
    simpa using this
  · intro h y hy
    rw [List.all_eq_true]
    intro o ho
    rw [h y (List.mem_range.1 hy) o ho]
    rfl
theorem fitsF_no {F : Hs} {c : C} {x : Int} {y : Nat} {o : C} (hy : y < 16) (ho : o ∈ F y) (h : clashB c o x (y : Int) = true) : fitsF F c x = false := by
  rw [Bool.eq_false_iff]
  intro h1
  rw [fitsF_yes.1 h1 y hy o ho] at h
  cases h
/-- Who sends; who listens. -/
def sC (f : Int) (s ch to : Nat) : C := ⟨f, s, ch, 1, to⟩
def hC (f : Int) (s ch : Nat) (o : Int) (fr : Nat) : C := ⟨f, s, ch, o, fr⟩
/-- Place i: slot i / chans, channel i % chans. -/
def fitAt (F : Hs) (f : Int) (chans x y : Nat) (o : Int) (i : Nat) : Bool := fitsF F (sC f (i / chans) (i % chans) y) x && fitsF F (hC f (i / chans) (i % chans) o x) y
def placeF (F : Hs) (f : Int) (len chans x y : Nat) (o : Int) : Option Nat := if 64 ≤ (F x).length ∨ 64 ≤ (F y).length then none else (List.range (len * chans)).find? (fitAt F f chans x y o)
def addF (F : Hs) (x : Nat) (c : C) : Hs := fun k => if k = x then F k ++ [c] else F k
def linkTo (F : Hs) (f : Int) (chans x y : Nat) (o : Int) (i : Nat) : Hs := addF (addF F x (sC f (i / chans) (i % chans) y)) y (hC f (i / chans) (i % chans) o x)
def linkF (F : Hs) (f : Int) (len chans x y : Nat) (o : Int) : Option Hs := (placeF F f len chans x y o).map (linkTo F f chans x y o)
/-- A link up and a link down, or neither. -/
def serveF (F : Hs) (f : Int) (len chans n p : Nat) : Option Hs := (linkF F f len chans n p 2).bind fun G => linkF G f len chans p n 10
def stepF (f : Int) (len chans : Nat) (par : Nat → Nat) (s : Hs × List Nat) (n : Nat) : Hs × List Nat := if n = 0 then s else match serveF s.1 f len chans n (par n) with
  | some G => (G, s.2)
  | none => (s.1, s.2 ++ [n])
def dealF (f : Int) (len chans : Nat) (par : Nat → Nat) (l : List Nat) : Hs × List Nat := l.foldl (stepF f len chans par) (fun _ => [], [])
theorem place_full {F : Hs} {f : Int} {len chans x y : Nat} {o : Int} (h : 64 ≤ (F x).length ∨ 64 ≤ (F y).length) : placeF F f len chans x y o = none := if_pos h
theorem place_at {F : Hs} {f : Int} {len chans x y : Nat} {o : Int} (h : ¬ (64 ≤ (F x).length ∨ 64 ≤ (F y).length)) {i : Nat} (hi : i < len * chans) (h1 : fitAt F f chans x y o i = true) (h2 : ∀ j, j < i → fitAt F f chans x y o j = false) : placeF F f len chans x y o = some i := by
  unfold placeF
  rw [if_neg h, List.find?_range_eq_some]
  exact ⟨h1, by simpa using hi, fun j hj => by rw [h2 j hj]; rfl⟩
theorem place_none {F : Hs} {f : Int} {len chans x y : Nat} {o : Int} (h2 : ∀ j, j < len * chans → fitAt F f chans x y o j = false) : placeF F f len chans x y o = none := by
  unfold placeF
  split
  · rfl
  · rw [List.find?_range_eq_none]
    exact fun j hj => by rw [h2 j hj]; rfl
theorem place_is {F : Hs} {f : Int} {len chans x y i : Nat} {o : Int} (h : placeF F f len chans x y o = some i) : (F x).length < 64 ∧ (F y).length < 64 ∧ i < len * chans ∧ fitAt F f chans x y o i = true ∧ ∀ j, j < i → fitAt F f chans x y o j = false := by
  unfold placeF at h
  split at h
  · cases h
  · rename_i hn
    rw [List.find?_range_eq_some] at h
    obtain ⟨h1, h2, h3⟩ := h
    refine ⟨by omega, by omega, by simpa using h2, h1, fun j hj => ?_⟩
    have := h3 j hj
    simpa using this
theorem add_at (F : Hs) (x : Nat) (c : C) : addF F x c x = F x ++ [c] := if_pos rfl
theorem add_off (F : Hs) {x k : Nat} (c : C) (h : k ≠ x) : addF F x c k = F k := if_neg h
/-- Place i in slots and channels. -/
theorem place_div {chans s c : Nat} (hc : c < chans) : (s * chans + c) / chans = s ∧ (s * chans + c) % chans = c := by
  constructor
  · rw [Nat.mul_comm, Nat.mul_add_div (by omega), Nat.div_eq_of_lt hc]
    rfl
  · rw [Nat.mul_comm, Nat.mul_add_mod, Nat.mod_eq_of_lt hc]
end Go.Proofs.YtahcplddonipcaaGreat.Al
