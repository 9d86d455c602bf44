/-
  The reference's Less (chapter 8).
-/
import Derived.Test.YtdpkiolngglpaaaCeWalks
set_option maxRecDepth 100000
namespace Go.Proofs.Ytdpkiolngglpaaa.Ce
set_option linter.unusedVariables false
set_option linter.unusedSimpArgs false
open Go.RowKit Lb Cl

def fld (x : C) (j : Nat) : Int := if j = 0 then x.f else if j = 1 then x.s else if j = 2 then x.c else if j = 3 then x.o else x.p
theorem lex_at {a b : C} {k : Nat} (hk : k < 5) (h : ∀ j, j < k → fld a j = fld b j) (hne : fld a k ≠ fld b k) : decide (cf a b < 0) = decide (fld a k < fld b k) := by
  rw [decide_eq_decide, cf_lt]
  have h0 : 0 < k → a.f = b.f := fun hk => h 0 hk
  have h1 : 1 < k → a.s = b.s := fun hk => h 1 hk
  have h2 : 2 < k → a.c = b.c := fun hk => h 2 hk
  have h3 : 3 < k → a.o = b.o := fun hk => h 3 hk
  rcases (show k = 0 ∨ k = 1 ∨ k = 2 ∨ k = 3 ∨ k = 4 by omega) with rfl | rfl | rfl | rfl | rfl
  all_goals
    simp only [fld] at hne ⊢
    simp at hne h0 h1 h2 h3 ⊢
    omega
theorem lex_no {a b : C} (h : ∀ j, j < 5 → fld a j = fld b j) : decide (cf a b < 0) = false := by
  have h0 : a.f = b.f := h 0 (by omega)
  have h1 : a.s = b.s := h 1 (by omega)
  have h2 : a.c = b.c := h 2 (by omega)
  have h3 : a.o = b.o := h 3 (by omega)
  have h4 : a.p = b.p := h 4 (by omega)
  rw [decide_eq_false_iff_not, cf_lt]
  omega
theorem fld_cell {w : World} {b : Nat} {t : TypeId} {x : C} (h : Own w b t #[.int .i64 x.f, .int .i64 x.s, .int .i64 x.c, .int .i64 x.o, .int .i64 x.p]) {k : Nat} (hk : k < 5) : w.cell? ⟨b, k, none⟩ = some (.int .i64 (fld x k)) := by
  rw [h.cell]
  rcases (show k = 0 ∨ k = 1 ∨ k = 2 ∨ k = 3 ∨ k = 4 by omega) with rfl | rfl | rfl | rfl | rfl <;> rfl
set_option maxHeartbeats 1000000 in
theorem rless_any (a b : C) (w : World) :
    Calls Try.prog 43 #[.agg #[.int .i64 a.f, .int .i64 a.s, .int .i64 a.c, .int .i64 a.o, .int .i64 a.p], .agg #[.int .i64 b.f, .int .i64 b.s, .int .i64 b.c, .int .i64 b.o, .int .i64 b.p]] w fun r w' => r = .returned (.bool (decide (cf a b < 0))) ∧ Below w.heap.size w w' := by
  obtain ⟨B1, hB1⟩ : ∃ o : Obj, o = .cells #[.int .i64 a.f, .int .i64 a.s, .int .i64 a.c, .int .i64 a.o, .int .i64 a.p] 69 := ⟨_, rfl⟩
  obtain ⟨B2, hB2⟩ : ∃ o : Obj, o = .cells #[.int .i64 b.f, .int .i64 b.s, .int .i64 b.c, .int .i64 b.o, .int .i64 b.p] 69 := ⟨_, rfl⟩
  obtain ⟨B3, hB3⟩ : ∃ o : Obj, o = .cells #[.int .i64 a.f, .int .i64 a.s, .int .i64 a.c, .int .i64 a.o, .int .i64 a.p] 90 := ⟨_, rfl⟩
  obtain ⟨B4, hB4⟩ : ∃ o : Obj, o = .cells #[.int .i64 b.f, .int .i64 b.s, .int .i64 b.c, .int .i64 b.o, .int .i64 b.p] 90 := ⟨_, rfl⟩
  have b4 := ((((Below.refl w.heap.size w).alloc (Nat.le_refl _) B1).alloc (by simp) B2).alloc (by simp; omega) B3).alloc (by simp; omega) B4
  have o3 : Own ((((w.alloc B1).alloc B2).alloc B3).alloc B4) (w.heap.size + 1 + 1) 90 #[.int .i64 a.f, .int .i64 a.s, .int .i64 a.c, .int .i64 a.o, .int .i64 a.p] := by
    have := Own.new ((w.alloc B1).alloc B2) 90 #[.int .i64 a.f, .int .i64 a.s, .int .i64 a.c, .int .i64 a.o, .int .i64 a.p]
    rw [show ((w.alloc B1).alloc B2).heap.size = w.heap.size + 1 + 1 by simp, ← hB3] at this
    exact this.alloc B4
  have o4 : Own ((((w.alloc B1).alloc B2).alloc B3).alloc B4) (w.heap.size + 1 + 1 + 1) 90 #[.int .i64 b.f, .int .i64 b.s, .int .i64 b.c, .int .i64 b.o, .int .i64 b.p] := by
    have := Own.new (((w.alloc B1).alloc B2).alloc B3) 90 #[.int .i64 b.f, .int .i64 b.s, .int .i64 b.c, .int .i64 b.o, .int .i64 b.p]
    rw [show (((w.alloc B1).alloc B2).alloc B3).heap.size = w.heap.size + 1 + 1 + 1 by simp, ← hB4] at this
    exact this
  subst hB1 hB2 hB3 hB4
  go_enter Try.func43, Try.ntmps43
  go_wp2_with fail
  go_loopw [30] (fun i wr => ∃ k : Nat, i = .int .i64 k ∧ k ≤ 5 ∧ Hid (∀ j, j < k → fld a j = fld b j) ∧ Own wr (w.heap.size + 1 + 1) 90 #[.int .i64 a.f, .int .i64 a.s, .int .i64 a.c, .int .i64 a.o, .int .i64 a.p] ∧ Own wr (w.heap.size + 1 + 1 + 1) 90 #[.int .i64 b.f, .int .i64 b.s, .int .i64 b.c, .int .i64 b.o, .int .i64 b.p] ∧ Below w.heap.size w wr) (fun i _ => 5 - (intOf i).toNat)
  case atStart => exact ⟨0, rfl, by omega, Lib.hid (fun j hj => by omega), o3, o4, b4⟩
  case round =>
    clear o3 o4 b4
    obtain ⟨k, rfl, hk, HN, o3, o4, b4⟩ := hrel
    by_cases hlt : k < 5
    · have g0 : (0 : Int) ≤ (k : Int) := by omega
      have g1 : (k : Int) < 5 := by omega
      have c1 := fld_cell o3 hlt
      have c2 := fld_cell o4 hlt
      obtain ⟨x, hx⟩ : ∃ x, fld a k = x := ⟨_, rfl⟩
      obtain ⟨y, hy⟩ : ∃ y, fld b k = y := ⟨_, rfl⟩
      by_cases hxy : x = y
      · have HN2 : Hid (∀ j, j < k + 1 → fld a j = fld b j) := Lib.hid (fun j hj => by
          by_cases e : j = k
          · subst e; rw [hx, hy, hxy]
          · exact HN.out j (by omega))
        have e1 : (x != y) = false := by simpa using hxy
        rw [hx] at c1
        rw [hy] at c2
        clear hx hy hxy
        go_wp2_with fail
        go_quiet (fail)
        go_wp2_with fail
        exact ⟨⟨k + 1, by simp, by omega, HN2, o3.drewN _, o4.drewN _, below_drewN b4 _⟩, by simp [intOf]; omega⟩
      · have HD : Hid (decide (cf a b < 0) = decide (x < y)) := Lib.hid (by rw [← hx, ← hy]; exact lex_at hlt HN.out (by rw [hx, hy]; exact hxy))
        have e1 : (x != y) = true := by simpa using hxy
        rw [hx] at c1
        rw [hy] at c2
        clear hx hy hxy
        go_wp2_with fail
        go_quiet (fail)
        generalize hw5 : wr.drewN _ = w5 at *
        have c1 : w5.cell? ⟨w.heap.size + 1 + 1, k, none⟩ = some (.int .i64 x) := by rw [← hw5]; exact c1
        have c2 : w5.cell? ⟨w.heap.size + 1 + 1 + 1, k, none⟩ = some (.int .i64 y) := by rw [← hw5]; exact c2
        have b5 : Below w.heap.size w w5 := by rw [← hw5]; exact below_drewN b4 _
        clear hw5
        go_wp2_with fail
        go_quiet (fail)
        go_wp2_with fail
        go_ret
        exact ⟨by rw [HD.out]; rfl, below_drewN b5 _⟩
    · obtain rfl : 5 = k := by omega
      have HD : Hid (decide (cf a b < 0) = false) := Lib.hid (lex_no HN.out)
      go_wp2_with fail
      go_ret
      exact ⟨by rw [HD.out]; rfl, b4⟩
end Go.Proofs.Ytdpkiolngglpaaa.Ce
