/-
  Package parents: Hear.
-/
import Derived.Test.YtjboilkbcajkcaaPaSet
import Derived.Deep.RegionLaw
import Derived.BigRegion
set_option maxRecDepth 100000
namespace Go.Proofs.Ytjboilkbcajkcaa.Pa
set_option linter.unusedVariables false
open Go.RowKit Lb

def ndB (x : Int) : Bool := decide (0 ≤ x ∧ x < 16)
def rkB (x : Int) : Bool := decide (0 ≤ x ∧ x ≤ 255)
theorem isNode_any (x : Int) (w : World) : Calls Try.prog 25 #[.int .i64 x] w fun r w' => r = .returned (.bool (ndB x)) ∧ w = w' := by
  by_cases h0 : 0 ≤ x
  · by_cases h1 : x < 16
    · have HD : Hid (ndB x = true) := Lib.hid (by simp [ndB, h0, h1])
      go_enter Try.func25, Try.ntmps25
      go_wp2_with fail
      go_ret
      exact ⟨by rw [HD.out]; rfl, rfl⟩
    · have HD : Hid (ndB x = false) := Lib.hid (by simp [ndB]; omega)
      have h2 : decide (x < 16) = false := by simp; omega
      clear h1
      go_enter Try.func25, Try.ntmps25
      go_wp2_with fail
      go_ret
      exact ⟨by rw [HD.out]; rfl, rfl⟩
  · have HD : Hid (ndB x = false) := Lib.hid (by simp [ndB]; omega)
    have h2 : x < 0 := by omega
    clear h0
    go_enter Try.func25, Try.ntmps25
    go_wp2_with fail
    go_ret
    exact ⟨by rw [HD.out]; rfl, rfl⟩
theorem isRank_any (x : Int) (w : World) : Calls Try.prog 26 #[.int .i64 x] w fun r w' => r = .returned (.bool (rkB x)) ∧ w = w' := by
  by_cases h0 : 0 ≤ x
  · by_cases h1 : x ≤ 255
    · have HD : Hid (rkB x = true) := Lib.hid (by simp [rkB, h0, h1])
      go_enter Try.func26, Try.ntmps26
      go_wp2_with fail
      go_ret
      exact ⟨by rw [HD.out]; rfl, rfl⟩
    · have HD : Hid (rkB x = false) := Lib.hid (by simp [rkB]; omega)
      have h2 : decide (x ≤ 255) = false := by simp; omega
      clear h1
      go_enter Try.func26, Try.ntmps26
      go_wp2_with fail
      go_ret
      exact ⟨by rw [HD.out]; rfl, rfl⟩
  · have HD : Hid (rkB x = false) := Lib.hid (by simp [rkB]; omega)
    have h2 : x < 0 := by omega
    clear h0
    go_enter Try.func26, Try.ntmps26
    go_wp2_with fail
    go_ret
    exact ⟨by rw [HD.out]; rfl, rfl⟩
theorem new_yes (me rk : Int) (w : World) (h1 : ndB me = true) (h2 : rkB rk = true) :
    Calls Try.prog 9 #[.int .i64 me, .int .i64 rk] w fun r w' => r = .returned (.pointer (some ⟨w.heap.size, 0, none⟩)) ∧ St w' w.heap.size w.heap.size me rk [] (.slice none 0 0) ∧ Below w.heap.size w w' := by
  have ho := Own.new w 53 #[.int .i64 me, .int .i64 rk, .slice none 0 0]
  have hb := (Below.refl w.heap.size w).alloc (Nat.le_refl _) (.cells #[.int .i64 me, .int .i64 rk, .slice none 0 0] 53)
  have H1 := Lib.hid h1
  have H2 := Lib.hid h2
  clear h1 h2
  go_enter Try.func9, Try.ntmps9
  go_wp2_with (first | ((with_reducible refine (isNode_any _ _).mono ?_); rintro r w' ⟨rfl, rfl⟩; rw [H1.out]) | ((with_reducible refine (isRank_any _ _).mono ?_); rintro r w' ⟨rfl, rfl⟩; rw [H2.out]))
  go_ret
  exact ⟨rfl, ⟨ho, MineK.nil _ _ _ _ _, fun i j _ hj => by simp at hj, by simp, Nat.le_refl _⟩, hb⟩
theorem new_no (me rk : Int) (w : World) (h : ndB me = false ∨ (ndB me = true ∧ rkB rk = false)) :
    Calls Try.prog 9 #[.int .i64 me, .int .i64 rk] w fun r w' => r = .returned (.pointer none) ∧ w = w' := by
  rcases h with h1 | ⟨h1, h2⟩
  · have H1 := Lib.hid h1
    clear h1
    go_enter Try.func9, Try.ntmps9
    go_wp2_with ((with_reducible refine (isNode_any _ _).mono ?_); rintro r w' ⟨rfl, rfl⟩; rw [H1.out])
    go_ret
    exact ⟨rfl, rfl⟩
  · have H1 := Lib.hid h1
    have H2 := Lib.hid h2
    clear h1 h2
    go_enter Try.func9, Try.ntmps9
    go_wp2_with (first | ((with_reducible refine (isNode_any _ _).mono ?_); rintro r w' ⟨rfl, rfl⟩; rw [H1.out]) | ((with_reducible refine (isRank_any _ _).mono ?_); rintro r w' ⟨rfl, rfl⟩; rw [H2.out]))
    go_ret
    exact ⟨rfl, rfl⟩
theorem says1 (nb : Nat) (node : Int) : Says 31 (.pointer (some ⟨nb, 0, none⟩)) (fun x => x.n == node) (fun W => W.cell? ⟨nb, 0, none⟩ = some (.int .i64 node)) := by
  intro x w h
  have b0 := (Below.refl w.heap.size w).alloc (Nat.le_refl _) (.cells #[.int .i64 x.n, .int .i64 x.r, .int .i64 x.h] 55)
  have c0 := keep_cell b0 h
  obtain ⟨e, he⟩ : ∃ e, (x.n == node) = e := ⟨_, rfl⟩
  have HD : Hid ((fun x : P => x.n == node) x = e) := Lib.hid he
  clear h
  cases e
  all_goals
    go_enter Try.func31, Try.ntmps31
    go_wp2_with fail
    go_ret
    exact ⟨rfl, b0⟩
theorem says2 (sb b : Nat) (rk : Int) : Says 35 (.pointer (some ⟨sb, 0, none⟩)) (fun x => decide (rk ≤ x.r)) (fun W => W.cell? ⟨sb, 0, none⟩ = some (.pointer (some ⟨b, 0, none⟩)) ∧ W.cell? ⟨b, 1, none⟩ = some (.int .i64 rk)) := by
  intro x w h
  have b0 := (Below.refl w.heap.size w).alloc (Nat.le_refl _) (.cells #[.int .i64 x.n, .int .i64 x.r, .int .i64 x.h] 55)
  have c0 := keep_cell b0 h.1
  have c1 := keep_cell b0 h.2
  have o0 := Own.new w 55 #[.int .i64 x.n, .int .i64 x.r, .int .i64 x.h]
  have d1 : (w.alloc (.cells #[.int .i64 x.n, .int .i64 x.r, .int .i64 x.h] 55)).cell? ⟨w.heap.size, 1, none⟩ = some (.int .i64 x.r) := o0.cell 1
  clear h o0
  go_enter Try.func35, Try.ntmps35
  go_wp2_with fail
  generalize w.alloc (.cells #[.int .i64 x.n, .int .i64 x.r, .int .i64 x.h] 55) = w1 at *
  go_quiet (fail)
  go_wp2_with fail
  go_ret
  exact ⟨rfl, below_drewN b0 _⟩
theorem Turn.box {w w' : World} {b q : Nat} {v v' : Value} {t : TypeId} {cs : Array Value} (j : Turn w w' b v v') (h : Own w q t cs) (hq : q ≠ b) (hv : v.ownBlock ≠ some q) : Own w' q t cs := (j.keep q h.lt hq hv).trans h
theorem Turn.apart {w w' : World} {b q : Nat} {v v' : Value} (j : Turn w w' b v v') (h : q < w.heap.size) (hv : v.ownBlock ≠ some q) : v'.ownBlock ≠ some q := fun e => (j.own q e).elim hv (fun h' => by omega)
/-- What Hear makes of it: the rank, whom it may follow. -/
def l1 (l : List P) (node : Int) : List P := kept (fun x => x.n == node) l l.length
def l2 (l : List P) (x : P) : List P := ins (l1 l x.n) (pos (l1 l x.n) x) x
def rk3 (rk : Int) (x : P) : Int := if x.r + 1 < rk then x.r + 1 else rk
def l3 (rk : Int) (l : List P) (x : P) : List P := if x.r + 1 < rk then kept (fun y => decide (x.r + 1 ≤ y.r)) (l2 l x) (l2 l x).length else l2 l x
def l4 (rk : Int) (l : List P) (x : P) : List P := (l3 rk l x).take 3
def mayH (me : Int) (x : P) : Bool := ndB x.n && (x.n != me && (rkB x.r && decide (0 ≤ x.h)))
def hearR (me rk : Int) (l : List P) (x : P) : Int := if mayH me x = true then (if rk ≤ x.r then rk else rk3 rk x) else rk
def hearL (me rk : Int) (l : List P) (x : P) : List P := if mayH me x = true then (if rk ≤ x.r then l1 l x.n else l4 rk l x) else l
def hearB (me rk : Int) (l : List P) (x : P) : Bool := if mayH me x = true then (if rk ≤ x.r then false else (rkoP (l4 rk l x) x.n).2) else false
end Go.Proofs.Ytjboilkbcajkcaa.Pa
