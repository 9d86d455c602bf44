/-
  Package version (chapter 23): a book as a value; New, Version, Ready, Waits, Commit, Abort.
-/
import Derived.Test.YtdpkiolngglpaaaVeSort
import Derived.Test.YtdpkiolngglpaaaBlk
import Derived.Test.YtdpkiolngglpaaaOwn
import Derived.BigRegion
set_option maxRecDepth 100000
namespace Go.Proofs.Ytdpkiolngglpaaa.Ve
set_option linter.unusedVariables false
set_option linter.unusedSimpArgs false
open Go.RowKit Lb Cl Ce Mi

/-- A book's cells. -/
def bkV (N v la : Int) (g : Bool) (R : Nat → Bool) (now next : Option Nat) (i : Nat) : Value :=
  if i = 0 then .int .i64 N else if i = 1 then .int .i64 v else if i = 2 then .int .i64 la else if i = 3 then .bool g else if i = 20 then .map now else if i = 21 then .map next else .bool (R (i - 4))
def Mo (w : World) (lo : Nat) (m : Option Nat) (L : List (Int × List C)) : Prop := (m = none ∧ L = []) ∨ ∃ bm, m = some bm ∧ MapL w lo bm L
theorem Mo.below {w w' : World} {lo : Nat} {m : Option Nat} {L : List (Int × List C)} (h : Mo w lo m L) (j : Below w.heap.size w w') : Mo w' lo m L := by
  rcases h with h | ⟨bm, e, h⟩
  · exact .inl h
  · exact .inr ⟨bm, e, h.below j⟩
theorem Mo.just {w w' : World} {lo g : Nat} {m : Option Nat} {L : List (Int × List C)} (h : Mo w lo m L) (j : Just g w w') (hg : g < lo) : Mo w' lo m L := by
  rcases h with h | ⟨bm, e, h⟩
  · exact .inl h
  · exact .inr ⟨bm, e, h.just j hg⟩
structure Bk (w : World) (b : Nat) (N v la : Int) (g : Bool) (R : Nat → Bool) (now next : Option Nat) (Ln Lx : List (Int × List C)) : Prop where
  blk : Blk w b 71 22 (bkV N v la g R now next)
  now : Mo w (b + 1) now Ln
  next : Mo w (b + 1) next Lx
theorem Bk.below {w w' : World} {b : Nat} {N v la : Int} {g : Bool} {R : Nat → Bool} {now next : Option Nat} {Ln Lx : List (Int × List C)} (h : Bk w b N v la g R now next Ln Lx) (j : Below w.heap.size w w') : Bk w' b N v la g R now next Ln Lx :=
  ⟨(j.block b h.blk.lt).trans h.blk, h.now.below j, h.next.below j⟩
theorem Bk.cells {w : World} {b : Nat} {N v la : Int} {g : Bool} {R : Nat → Bool} {now next : Option Nat} {Ln Lx : List (Int × List C)} (h : Bk w b N v la g R now next Ln Lx) :
    w.cell? ⟨b, 0, none⟩ = some (.int .i64 N) ∧ w.cell? ⟨b, 1, none⟩ = some (.int .i64 v) ∧ w.cell? ⟨b, 2, none⟩ = some (.int .i64 la) ∧ w.cell? ⟨b, 3, none⟩ = some (.bool g) ∧ w.cell? ⟨b, 20, none⟩ = some (.map now) ∧ w.cell? ⟨b, 21, none⟩ = some (.map next) ∧ ∀ k, k < 16 → w.cell? ⟨b, 4 + k, none⟩ = some (.bool (R k)) := by
  refine ⟨h.blk.cell (i := 0) (by decide), h.blk.cell (i := 1) (by decide), h.blk.cell (i := 2) (by decide), h.blk.cell (i := 3) (by decide), h.blk.cell (i := 20) (by decide), h.blk.cell (i := 21) (by decide), fun k hk => ?_⟩
  have := h.blk.cell (i := 4 + k) (by omega)
  unfold bkV at this
  rw [if_neg (by omega), if_neg (by omega), if_neg (by omega), if_neg (by omega), if_neg (by omega), if_neg (by omega), Nat.add_sub_cancel_left] at this
  exact this
theorem idx22 (i : Nat) (hi : i < 22) : i = 0 ∨ i = 1 ∨ i = 2 ∨ i = 3 ∨ i = 4 ∨ i = 5 ∨ i = 6 ∨ i = 7 ∨ i = 8 ∨ i = 9 ∨ i = 10 ∨ i = 11 ∨ i = 12 ∨ i = 13 ∨ i = 14 ∨ i = 15 ∨ i = 16 ∨ i = 17 ∨ i = 18 ∨ i = 19 ∨ i = 20 ∨ i = 21 := by omega
theorem new_any (n : Int) (w : World) : Calls Try.prog 9 #[.int .i64 n] w fun r w' => ∃ b, r = .returned (.pointer (some ⟨b, 0, none⟩)) ∧ w.heap.size ≤ b ∧ Bk w' b (min (max n 1) 16) 0 0 false (fun _ => false) none none [] [] ∧ Below w.heap.size w w' := by
  obtain ⟨m, hm⟩ : ∃ m, min (max n 1) 16 = m := ⟨_, rfl⟩
  rw [hm]
  have e1 : min (16 : Int) (max 1 n) = m := by rw [← hm]; omega
  have e2 : min (max 1 n) (16 : Int) = m := by rw [← hm]; omega
  have e3 : min (16 : Int) (max n 1) = m := by rw [← hm]; omega
  go_enter Try.func9, Try.ntmps9
  go_wp2_with fail
  go_ret
  refine ⟨_, rfl, Nat.le_refl _, ⟨Blk.of (Own.new w 71 _) rfl (fun i hi => ?_), .inl ⟨rfl, rfl⟩, .inl ⟨rfl, rfl⟩⟩, (Below.refl _ _).alloc (Nat.le_refl _) _⟩
  rcases (show i = 0 ∨ i = 1 ∨ i = 2 ∨ i = 3 ∨ i = 4 ∨ i = 5 ∨ i = 6 ∨ i = 7 ∨ i = 8 ∨ i = 9 ∨ i = 10 ∨ i = 11 ∨ i = 12 ∨ i = 13 ∨ i = 14 ∨ i = 15 ∨ i = 16 ∨ i = 17 ∨ i = 18 ∨ i = 19 ∨ i = 20 ∨ i = 21 by omega) with rfl | rfl | rfl | rfl | rfl | rfl | rfl | rfl | rfl | rfl | rfl | rfl | rfl | rfl | rfl | rfl | rfl | rfl | rfl | rfl | rfl | rfl <;> rfl
theorem version_any (b : Nat) (N v la : Int) (g : Bool) (R : Nat → Bool) (now next : Option Nat) (Ln Lx : List (Int × List C)) (w : World) (h : Bk w b N v la g R now next Ln Lx) :
    Calls Try.prog 20 #[.pointer (some ⟨b, 0, none⟩)] w fun r w' => r = .returned (.int .i64 v) ∧ w = w' := by
  have c1 := h.cells.2.1
  go_enter Try.func20, Try.ntmps20
  go_wp2_with fail
  go_ret
  exact ⟨rfl, rfl⟩
def hasB (N n : Int) : Bool := decide (0 ≤ n ∧ n < N)
theorem has_any (b : Nat) (N v la : Int) (g : Bool) (R : Nat → Bool) (now next : Option Nat) (Ln Lx : List (Int × List C)) (n : Int) (w : World) (h : Bk w b N v la g R now next Ln Lx) :
    Calls Try.prog 38 #[.pointer (some ⟨b, 0, none⟩), .int .i64 n] w fun r w' => r = .returned (.bool (hasB N n)) ∧ w = w' := by
  have c0 := h.cells.1
  clear h
  by_cases h0 : 0 ≤ n
  · have g0 : decide (0 ≤ n) = true := by simpa using h0
    obtain ⟨q, hq⟩ : ∃ q, decide (n < N) = q := ⟨_, rfl⟩
    have HD : Hid (hasB N n = q) := Lib.hid (by unfold hasB; rw [← hq]; simp [h0])
    clear h0
    go_enter Try.func38, Try.ntmps38
    go_wp2_with fail
    go_ret
    exact ⟨by rw [HD.out]; rfl, rfl⟩
  · have g0 : decide (0 ≤ n) = false := by simpa using h0
    have HD : Hid (hasB N n = false) := Lib.hid (by unfold hasB; simp; omega)
    clear h0
    go_enter Try.func38, Try.ntmps38
    go_wp2_with fail
    go_ret
    exact ⟨by rw [HD.out]; rfl, rfl⟩
theorem abort_no (b : Nat) (N v la : Int) (R : Nat → Bool) (now next : Option Nat) (Ln Lx : List (Int × List C)) (w : World) (h : Bk w b N v la false R now next Ln Lx) :
    Calls Try.prog 18 #[.pointer (some ⟨b, 0, none⟩)] w fun r w' => r = .returned (.int .i64 7) ∧ w = w' := by
  have c3 := h.cells.2.2.2.1
  go_enter Try.func18, Try.ntmps18
  go_wp2_with fail
  go_ret
  exact ⟨rfl, rfl⟩
theorem abort_yes (b : Nat) (N v la : Int) (R : Nat → Bool) (now next : Option Nat) (Ln Lx : List (Int × List C)) (w : World) (h : Bk w b N v la true R now next Ln Lx) :
    Calls Try.prog 18 #[.pointer (some ⟨b, 0, none⟩)] w fun r w' => r = .returned (.int .i64 0) ∧ Bk w' b N v la false R now none Ln [] ∧ Just b w w' := by
  have c3 := h.cells.2.2.2.1
  have c21 := h.cells.2.2.2.2.2.1
  have f3 : w.frozen? ⟨b, 3, none⟩ = false := h.blk.free 3
  have f21 : w.frozen? ⟨b, 21, none⟩ = false := h.blk.free 21
  go_enter Try.func18, Try.ntmps18
  go_wp2_with fail
  go_ret
  refine ⟨rfl, ⟨((h.blk.put 21 (.map none)).put 3 (.bool false)).ext (fun i hi => ?_), (h.now.just (Just.set b w 21 _) (by omega)).just (Just.set b _ 3 _) (by omega), .inl ⟨rfl, rfl⟩⟩, (Just.set b w 21 _).put 3 _⟩
  rcases idx22 i hi with rfl | rfl | rfl | rfl | rfl | rfl | rfl | rfl | rfl | rfl | rfl | rfl | rfl | rfl | rfl | rfl | rfl | rfl | rfl | rfl | rfl | rfl <;> rfl
def setR (R : Nat → Bool) (k : Nat) (j : Nat) : Bool := if j = k then true else R j
/-- Ready: the error. -/
def readyE (N la : Int) (g : Bool) (R : Nat → Bool) (n v : Int) : Int := if g = false ∨ v ≠ la then 7 else if hasB N n = false then 1 else if R n.toNat = true then 8 else 0
theorem ready_no (b : Nat) (N v la : Int) (g : Bool) (R : Nat → Bool) (now next : Option Nat) (Ln Lx : List (Int × List C)) (n u : Int) (w : World) (h : Bk w b N v la g R now next Ln Lx) (hN : N ≤ 16) (he : readyE N la g R n u ≠ 0) :
    Calls Try.prog 14 #[.pointer (some ⟨b, 0, none⟩), .int .i64 n, .int .i64 u] w fun r w' => r = .returned (.int .i64 (readyE N la g R n u)) ∧ w = w' := by
  have hd : readyE N la g R n u = (if g = false ∨ u ≠ la then 7 else if hasB N n = false then 1 else if R n.toNat = true then 8 else 0) := rfl
  obtain ⟨c0, _, c2, c3, _, _, cR⟩ := h.cells
  have PH : ∀ w', Bk w' b N v la g R now next Ln Lx → _ := fun w' h' => has_any b N v la g R now next Ln Lx n w' h'
  cases g
  · have HD := Lib.hid (hd.trans (if_pos (.inl rfl)))
    clear hd he
    go_enter Try.func14, Try.ntmps14
    go_wp2_with fail
    go_ret
    exact ⟨by rw [HD.out]; rfl, rfl⟩
  by_cases hu : u = la
  · subst hu
    rw [if_neg (by simp)] at hd
    by_cases hh : hasB N n = false
    · rw [if_pos hh] at hd
      rw [hh] at PH
      have HD := Lib.hid hd
      clear hd he hh
      have e1 : (u != u) = false := by simp
      go_enter Try.func14, Try.ntmps14
      go_wp2_with fail
      refine (PH _ h).mono ?_
      rintro r w' ⟨rfl, rfl⟩
      go_wp2_with fail
      go_ret
      exact ⟨by rw [HD.out]; rfl, rfl⟩
    · have hh : hasB N n = true := by simpa using hh
      rw [if_neg (by rw [hh]; decide)] at hd
      rw [hh] at PH
      unfold hasB at hh
      rw [decide_eq_true_eq] at hh
      obtain ⟨k, rfl⟩ : ∃ k : Nat, n = k := ⟨n.toNat, by omega⟩
      rw [Int.toNat_natCast] at hd
      have hk : k < 16 := by omega
      by_cases hR : R k = true
      · rw [if_pos hR] at hd
        have c4 := cR k hk
        rw [hR] at c4
        have HD := Lib.hid hd
        clear hd he
        have e1 : (u != u) = false := by simp
        go_enter Try.func14, Try.ntmps14
        go_wp2_with fail
        refine (PH _ h).mono ?_
        rintro r w' ⟨rfl, rfl⟩
        go_wp2_with fail
        go_ret
        exact ⟨by rw [HD.out]; rfl, rfl⟩
      · rw [if_neg hR] at hd
        exact absurd hd he
  · have HD := Lib.hid (hd.trans (if_pos (.inr hu)))
    have e1 : (u != la) = true := by simpa using hu
    clear hd he hu
    go_enter Try.func14, Try.ntmps14
    go_wp2_with fail
    go_ret
    exact ⟨by rw [HD.out]; rfl, rfl⟩
theorem ready_yes (b : Nat) (N v la : Int) (R : Nat → Bool) (now next : Option Nat) (Ln Lx : List (Int × List C)) (k : Nat) (w : World) (h : Bk w b N v la true R now next Ln Lx) (hN : N ≤ 16) (hk : (k : Int) < N) (hR : R k = false) :
    Calls Try.prog 14 #[.pointer (some ⟨b, 0, none⟩), .int .i64 (k : Nat), .int .i64 la] w fun r w' => r = .returned (.int .i64 0) ∧ Bk w' b N v la true (setR R k) now next Ln Lx ∧ Just b w w' := by
  obtain ⟨c0, _, c2, c3, _, _, cR⟩ := h.cells
  have hk16 : k < 16 := by omega
  have PH : ∀ w', Bk w' b N v la true R now next Ln Lx → _ := fun w' h' => has_any b N v la true R now next Ln Lx k w' h'
  rw [show hasB N (k : Int) = true by unfold hasB; simp; exact hk] at PH
  have c4 := cR k hk16
  rw [hR] at c4
  have f4 : w.frozen? ⟨b, 4 + k, none⟩ = false := h.blk.free _
  have e1 : (la != la) = false := by simp
  go_enter Try.func14, Try.ntmps14
  go_wp2_with fail
  refine (PH _ h).mono ?_
  rintro r w' ⟨rfl, rfl⟩
  go_wp2_with fail
  go_ret
  refine ⟨rfl, ⟨(h.blk.put (4 + k) (.bool true)).ext (fun i hi => ?_), h.now.just (Just.set b w (4 + k) _) (by omega), h.next.just (Just.set b w (4 + k) _) (by omega)⟩, Just.set b w (4 + k) _⟩
  by_cases e : i = 4 + k
  · subst e
    rw [if_pos rfl]
    unfold bkV setR
    rw [if_neg (by omega), if_neg (by omega), if_neg (by omega), if_neg (by omega), if_neg (by omega), if_neg (by omega), Nat.add_sub_cancel_left, if_pos rfl]
  · rw [if_neg e]
    unfold bkV setR
    by_cases h4 : 4 ≤ i
    · have : ¬ i - 4 = k := by omega
      rw [if_neg this]
    · rcases (show i = 0 ∨ i = 1 ∨ i = 2 ∨ i = 3 by omega) with rfl | rfl | rfl | rfl <;> rfl
end Go.Proofs.Ytdpkiolngglpaaa.Ve
