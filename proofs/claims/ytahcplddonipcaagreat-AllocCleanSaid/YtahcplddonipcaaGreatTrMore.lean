/-
  Package tree (chapter 21): Parents, Path.
-/
import Derived.Test.YtahcplddonipcaaGreatTrBuild
import Derived.Ground.NamesProg
import Derived.Ground.Names2Prog
import Derived.Shelf.Slices.Clone
set_option maxRecDepth 100000
namespace Go.Proofs
set_option linter.unusedVariables false
set_option linter.unusedSimpArgs false
open Go.Shelf
def Tryz.laysClone_ren : Go.Shelf.Ren := ⟨fun | 15 => 44 | n => n, fun | 22 => 29 | 3 => 3 | 4 => 4 | n => n, fun | n => n⟩
theorem Tryz.laysClone : Go.Proofs.Lays2.n15 Tryz.prog Tryz.laysClone_ren := {
  mixed := by kernel_rfl
  f15 := Tryz.func44.trans (congrArg some (by kernel_rfl))
  t3 := Tryz.underlying3
  a3 := Tryz.isAgg3
  z3 := Tryz.sizeOf3
  v3 := Tryz.zeroValue3
  t4 := Tryz.underlying4
  a4 := Tryz.isAgg4
  z4 := Tryz.sizeOf4
  v4 := Tryz.zeroValue4
  t22 := Tryz.underlying29
  a22 := Tryz.isAgg29
  z22 := Tryz.sizeOf29
  v22 := Tryz.zeroValue29
  i3 := by kernel_rfl }
end Go.Proofs
namespace Go.Proofs.YtahcplddonipcaaGreat.Tr
set_option linter.unusedVariables false
set_option linter.unusedSimpArgs false
open Go.RowKit Lb Tp Go.Sort Go.Shelf

theorem ln_ints (l : List Nat) : (List.range l.length).map (ln l) = (l.map Int.ofNat).map (Value.int .i64) := by
  apply List.ext_getElem
  · simp
  · intro i h1 h2
    simp at h1
    simp [ln, List.getD, h1]
/-- A copy: the same nodes, in a new block or none; nil of nil. -/
theorem clone_any (a : Option Addr) (c : Nat) (l : List Nat) (w : World) (hc : l.length ≤ 1000000) (hR : Row w a l.length (ln l)) :
    Calls Tryz.prog 44 #[.slice a l.length c] w fun r w' => ∃ v, r = .returned v ∧ Mine w' w.heap.size 3 v l.length (ln l) ∧ RowKit.Below w.heap.size w w' := by
  cases a with
  | none =>
    refine (Any.slices_Clone_int_nil Tryz.laysClone l.length c w).mono ?_
    rintro r w' ⟨rfl, rfl⟩
    have h0 : l.length = 0 := by
      rcases Nat.eq_zero_or_pos l.length with h | h
      · exact h
      · obtain ⟨_, _, e, _⟩ := hR h
        cases e
    refine ⟨.slice none 0 0, rfl, ?_, Below.refl _ _⟩
    rw [h0]
    exact Mine.nil _ _ _ _
  | some p =>
    by_cases h0 : l.length = 0
    · rw [h0]
      refine (Any.slices_Clone_int_zero Tryz.laysClone p c w).mono ?_
      rintro r w' ⟨v, rfl, hown, hne, hb⟩
      exact ⟨v, rfl, hown, hb⟩
    · obtain ⟨b, off, hp, hbl, hcs⟩ := hR (by omega)
      injection hp with hp
      subst hp
      have hlen : l.length = (l.map Int.ofNat).length := by simp
      refine (Any.slices_Clone_int Tryz.laysClone b off l.length c (l.map Int.ofNat) w (by simp) (by omega) (fun j hj => ?_)).mono ?_
      · have := hcs j (by simpa using hj)
        rw [this]
        have hj2 : j < l.length := by simpa using hj
        unfold ln
        simp [List.getD, hj2]
      · rintro r w' ⟨v, rfl, hown, hne, hb⟩
        rw [hlen, List.take_length, ← hlen] at hown
        refine ⟨v, rfl, ?_, hb⟩
        unfold Mine
        rw [ln_ints]
        exact hown
def parsT (R : Rk) (P : Nat → List Nat) (x : Int) : List Nat := if hasT R x = true then P x.toNat else []
theorem parents_any (t : Nat) (R : Rk) (P : Nat → List Nat) (x : Int) (w : World) (h : Tre w t R P) (hP : ∀ n, (P n).length ≤ 1000) :
    Calls Tryz.prog 16 #[.pointer (some ⟨t, 0, none⟩), .int .i64 x] w fun r w' => ∃ A c, r = .returned (.slice A (parsT R P x).length c) ∧ Rl w' w.heap.size A c (parsT R P x) ∧ RowKit.Below w.heap.size w w' := by
  obtain ⟨A, K, hT, hR⟩ := h
  cases hx : hasT R x
  · have HX := Lib.hid hx
    have HD : Hid (parsT R P x = []) := Lib.hid (by unfold parsT; rw [hx]; rfl)
    clear hx
    go_enter Tryz.func16, Tryz.ntmps16
    go_wp2_with fail
    refine (has_any t R _ x _ hT).mono ?_
    rintro r w' ⟨rfl, rfl⟩
    rw [HX.out]
    go_wp2_with fail
    go_ret
    exact ⟨none, 0, by rw [HD.out]; rfl, by rw [HD.out]; exact Rl.nil _ _, Below.refl _ _⟩
  · have HX := Lib.hid hx
    obtain ⟨k, r0, rfl, hk, hr⟩ := hasT_yes hx
    have HD : Hid (parsT R P (k : Int) = P k) := Lib.hid (by unfold parsT; rw [hx]; rfl)
    have c := hT.par hk
    have PC := clone_any (A k) (K k) (P k) w (by have := hP k; omega) (hR k hk).row
    obtain ⟨l, hl⟩ : ∃ q, P k = q := ⟨_, rfl⟩
    rw [hl] at c PC HD
    have g1 : (k : Int) < 16 := by omega
    clear hx hr hl
    go_enter Tryz.func16, Tryz.ntmps16
    go_wp2_with fail
    refine (has_any t R _ (k : Int) _ hT).mono ?_
    rintro r w' ⟨rfl, rfl⟩
    rw [HX.out]
    go_wp2_with fail
    refine PC.mono ?_
    rintro r w5 ⟨v, rfl, hv, b5⟩
    obtain ⟨A5, c5, rfl, h5⟩ := Rl.of hv
    go_wp2_with fail
    go_ret
    exact ⟨A5, c5, by rw [HD.out]; rfl, by rw [HD.out]; exact h5, b5⟩
theorem parents_nil (x : Int) (w : World) :
    Calls Tryz.prog 16 #[.pointer none, .int .i64 x] w fun r w' => r = .returned (.slice none 0 0) ∧ w = w' := by
  go_enter Tryz.func16, Tryz.ntmps16
  go_wp2_with fail
  refine (has_nil x _).mono ?_
  rintro r w' ⟨rfl, rfl⟩
  go_wp2_with fail
  go_ret
  exact ⟨rfl, rfl⟩
/-- The forefathers by first parents. -/
def anc (P : Nat → List Nat) (n : Nat) : Nat → Nat
  | 0 => n
  | k + 1 => (P (anc P n k)).headD 0
def pathT (R : Rk) (P : Nat → List Nat) (n : Nat) : List Nat := match R n with
  | some r => (List.range (r + 1)).map fun j => anc P n (r - j)
  | none => []
/-- Each but the root has a first parent, of the rank ahead of its own. -/
structure Firsts (R : Rk) (P : Nat → List Nat) : Prop where
  only : ∀ x, R x = some 0 → x = 0
  first : ∀ n r, R n = some (r + 1) → ∃ p l, P n = p :: l ∧ R p = some r ∧ p < 16
  small : ∀ n r, R n = some r → r ≤ 15
theorem anc_rank {R : Rk} {P : Nat → List Nat} (h : Firsts R P) {n r : Nat} (hn : n < 16) (hr : R n = some r) : ∀ k, k ≤ r → R (anc P n k) = some (r - k) ∧ anc P n k < 16
  | 0, _ => ⟨hr, hn⟩
  | k + 1, hk => by
    obtain ⟨h1, _⟩ := anc_rank h hn hr k (by omega)
    rw [show r - k = (r - (k + 1)) + 1 by omega] at h1
    obtain ⟨p, l, e1, e2, e3⟩ := h.first _ _ h1
    unfold anc
    rw [e1]
    exact ⟨e2, e3⟩
def pathsT (R : Rk) (P : Nat → List Nat) (x : Int) : List Nat := if hasT R x = true then pathT R P x.toNat else []
end Go.Proofs.YtahcplddonipcaaGreat.Tr
