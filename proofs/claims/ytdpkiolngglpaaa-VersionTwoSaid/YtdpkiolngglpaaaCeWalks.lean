/-
  Package cell: which of two cells is ahead; where one stands; whether its place is taken.
-/
import Derived.Test.YtdpkiolngglpaaaCeMath
import Derived.Lib.Hide
import Derived.IntWalk
import Derived.BigQuiet
import Derived.Deep.RegionHeld3
import Derived.Deep.LoopGhost
set_option maxRecDepth 100000
namespace Go.Proofs.Ytdpkiolngglpaaa.Ce
set_option linter.unusedVariables false
set_option linter.unusedSimpArgs false
open Go.RowKit Lb Cl

theorem isNaN_any (x : Int) (w : World) : Calls Try.prog 62 #[.int .i64 x] w fun r w' => r = .returned (.bool false) ∧ w = w' := by
  go_enter Try.func62, Try.ntmps62
  go_wp2_with fail
  all_goals
    go_ret
    exact ⟨by first | rfl | simp, rfl⟩
theorem cmp_any (x y : Int) (w : World) : Calls Try.prog 49 #[.int .i64 x, .int .i64 y] w fun r w' => r = .returned (.int .i64 (cmpI x y)) ∧ w = w' := by
  rcases (show x < y ∨ (decide (x < y) = false ∧ y < x) ∨ (decide (x < y) = false ∧ decide (y < x) = false) by
    by_cases h : x < y
    · exact .inl h
    · by_cases h2 : y < x
      · exact .inr (.inl ⟨by simp; omega, h2⟩)
      · exact .inr (.inr ⟨by simp; omega, by simp; omega⟩)) with h | ⟨h, h2⟩ | ⟨h, h2⟩
  · have HD : Hid (cmpI x y = -1) := Lib.hid (by unfold cmpI; rw [if_pos h])
    go_enter Try.func49, Try.ntmps49
    go_wp2_with ((with_reducible refine (isNaN_any _ _).mono ?_); rintro r w' ⟨rfl, rfl⟩)
    go_ret
    exact ⟨by rw [HD.out]; rfl, rfl⟩
  · have HD : Hid (cmpI x y = 1) := Lib.hid (by unfold cmpI; rw [if_neg (by simpa using h), if_pos h2])
    go_enter Try.func49, Try.ntmps49
    go_wp2_with ((with_reducible refine (isNaN_any _ _).mono ?_); rintro r w' ⟨rfl, rfl⟩)
    go_ret
    exact ⟨by rw [HD.out]; rfl, rfl⟩
  · have HD : Hid (cmpI x y = 0) := Lib.hid (by unfold cmpI; rw [if_neg (by simpa using h), if_neg (by simpa using h2)])
    go_enter Try.func49, Try.ntmps49
    go_wp2_with ((with_reducible refine (isNaN_any _ _).mono ?_); rintro r w' ⟨rfl, rfl⟩)
    go_ret
    exact ⟨by rw [HD.out]; rfl, rfl⟩
def orC (X : Nat → Int) : Int := orI (X 0) (orI (X 1) (orI (X 2) (orI (X 3) (X 4))))
theorem orC_at {X : Nat → Int} {k : Nat} (hk : k < 5) (h : ∀ j, j < k → X j = 0) (hz : X k ≠ 0) : orC X = X k := by
  unfold orC orI
  rcases (show k = 0 ∨ k = 1 ∨ k = 2 ∨ k = 3 ∨ k = 4 by omega) with rfl | rfl | rfl | rfl | rfl
  · rw [if_neg hz]
  · rw [if_pos (h 0 (by omega)), if_neg hz]
  · rw [if_pos (h 0 (by omega)), if_pos (h 1 (by omega)), if_neg hz]
  · rw [if_pos (h 0 (by omega)), if_pos (h 1 (by omega)), if_pos (h 2 (by omega)), if_neg hz]
  · rw [if_pos (h 0 (by omega)), if_pos (h 1 (by omega)), if_pos (h 2 (by omega)), if_pos (h 3 (by omega))]
theorem orC_no {X : Nat → Int} (h : ∀ j, j < 5 → X j = 0) : orC X = 0 := by
  unfold orC orI
  rw [if_pos (h 0 (by omega)), if_pos (h 1 (by omega)), if_pos (h 2 (by omega)), if_pos (h 3 (by omega)), h 4 (by omega)]
theorem or_any (b : Nat) (X : Nat → Int) (w : World) (h : ∀ k, k < 5 → w.cell? ⟨b, 0 + k, none⟩ = some (.int .i64 (X k))) :
    Calls Try.prog 48 #[.slice (some ⟨b, 0, none⟩) 5 5] w fun r w' => r = .returned (.int .i64 (orC X)) ∧ w = w' := by
  have HC := Lib.hid h
  clear h
  go_enter Try.func48, Try.ntmps48
  go_wp2_with fail
  go_loopw [8] (fun i wr => ∃ k : Nat, i = .int .i64 k ∧ k ≤ 5 ∧ Hid (∀ j, j < k → X j = 0) ∧ w = wr) (fun i _ => 5 - (intOf i).toNat)
  case atStart => exact ⟨0, rfl, by omega, Lib.hid (fun j hj => by omega), rfl⟩
  case round =>
    obtain ⟨k, rfl, hk, HN, rfl⟩ := hrel
    by_cases hlt : k < 5
    · have g1 : (k : Int) < 5 := by omega
      have c0 := HC.out k hlt
      rw [Nat.zero_add] at c0
      obtain ⟨z, hz⟩ : ∃ z, X k = z := ⟨_, rfl⟩
      have HZ := Lib.hid hz
      rw [hz] at c0
      clear hz
      by_cases hz0 : z = 0
      · have HN2 : Hid (∀ j, j < k + 1 → X j = 0) := Lib.hid (fun j hj => by
          by_cases e : j = k
          · subst e; rw [HZ.out]; exact hz0
          · exact HN.out j (by omega))
        have e1 : (z != 0) = false := by simpa using hz0
        clear hz0
        go_wp2_with fail
        first
          | exact ⟨⟨k + 1, by simp, by omega, HN2, trivial⟩, by simp [intOf]; omega⟩
          | exact ⟨⟨k + 1, by simp [intOf], by omega, HN2, rfl⟩, by simp [intOf]; omega⟩
          | exact ⟨⟨_, _, ⟨k + 1, by simp, by omega, HN2⟩, rfl, rfl⟩, by simp [intOf]; omega⟩
      · have e1 : (z != 0) = true := by simpa using hz0
        have HD : Hid (orC X = z) := Lib.hid (by rw [orC_at hlt HN.out (by rw [HZ.out]; exact hz0), HZ.out])
        clear hz0
        go_wp2_with fail
        go_ret
        exact ⟨by rw [HD.out]; rfl, rfl⟩
    · obtain rfl : 5 = k := by omega
      have HD : Hid (orC X = 0) := Lib.hid (orC_no HN.out)
      go_wp2_with fail
      go_ret
      exact ⟨by rw [HD.out]; rfl, rfl⟩
set_option maxHeartbeats 4000000 in
theorem com_any (x y : C) (w : World) :
    Calls Try.prog 65 #[.agg #[.int .i64 x.f, .int .i64 x.s, .int .i64 x.c, .int .i64 x.o, .int .i64 x.p], .agg #[.int .i64 y.f, .int .i64 y.s, .int .i64 y.c, .int .i64 y.o, .int .i64 y.p]] w fun r w' => r = .returned (.int .i64 (cf x y)) ∧ Below w.heap.size w w' := by
  obtain ⟨x1, x2, x3, x4, x5⟩ := x
  obtain ⟨y1, y2, y3, y4, y5⟩ := y
  obtain ⟨c1, hc1⟩ : ∃ c, cmpI x1 y1 = c := ⟨_, rfl⟩
  obtain ⟨c2, hc2⟩ : ∃ c, cmpI x2 y2 = c := ⟨_, rfl⟩
  obtain ⟨c3, hc3⟩ : ∃ c, cmpI x3 y3 = c := ⟨_, rfl⟩
  obtain ⟨c4, hc4⟩ : ∃ c, cmpI x4 y4 = c := ⟨_, rfl⟩
  obtain ⟨c5, hc5⟩ : ∃ c, cmpI x5 y5 = c := ⟨_, rfl⟩
  have H1 := Lib.hid hc1
  have H2 := Lib.hid hc2
  have H3 := Lib.hid hc3
  have H4 := Lib.hid hc4
  have H5 := Lib.hid hc5
  obtain ⟨X, hX⟩ : ∃ X : Nat → Int, X = fun k => if k = 0 then c1 else if k = 1 then c2 else if k = 2 then c3 else if k = 3 then c4 else c5 := ⟨_, rfl⟩
  have HD : Hid (cf ⟨x1, x2, x3, x4, x5⟩ ⟨y1, y2, y3, y4, y5⟩ = orC X) := Lib.hid (by rw [hX]; unfold cf orC; simp only [hc1, hc2, hc3, hc4, hc5]; rfl)
  have HX := Lib.hid hX
  clear hc1 hc2 hc3 hc4 hc5 hX
  have k1 : Own ((w.alloc (.cells #[.int .i64 x1, .int .i64 x2, .int .i64 x3, .int .i64 x4, .int .i64 x5] 69)).alloc (.cells #[.int .i64 y1, .int .i64 y2, .int .i64 y3, .int .i64 y4, .int .i64 y5] 69)) w.heap.size 69 #[.int .i64 x1, .int .i64 x2, .int .i64 x3, .int .i64 x4, .int .i64 x5] := (Own.new w _ _).alloc _
  have k2 : Own ((w.alloc (.cells #[.int .i64 x1, .int .i64 x2, .int .i64 x3, .int .i64 x4, .int .i64 x5] 69)).alloc (.cells #[.int .i64 y1, .int .i64 y2, .int .i64 y3, .int .i64 y4, .int .i64 y5] 69)) (w.heap.size + 1) 69 #[.int .i64 y1, .int .i64 y2, .int .i64 y3, .int .i64 y4, .int .i64 y5] := by
    have := Own.new (w.alloc (.cells #[.int .i64 x1, .int .i64 x2, .int .i64 x3, .int .i64 x4, .int .i64 x5] 69)) 69 #[.int .i64 y1, .int .i64 y2, .int .i64 y3, .int .i64 y4, .int .i64 y5]
    rwa [show (w.alloc (.cells #[.int .i64 x1, .int .i64 x2, .int .i64 x3, .int .i64 x4, .int .i64 x5] 69)).heap.size = w.heap.size + 1 by simp] at this
  have b0 := ((Below.refl w.heap.size w).alloc (Nat.le_refl _) (.cells #[.int .i64 x1, .int .i64 x2, .int .i64 x3, .int .i64 x4, .int .i64 x5] 69)).alloc (by simp) (.cells #[.int .i64 y1, .int .i64 y2, .int .i64 y3, .int .i64 y4, .int .i64 y5] 69)
  go_enter Try.func65, Try.ntmps65
  go_wp2_with fail
  obtain ⟨w1, hw1⟩ : ∃ w1, (w.alloc (.cells #[.int .i64 x1, .int .i64 x2, .int .i64 x3, .int .i64 x4, .int .i64 x5] 69)).alloc (.cells #[.int .i64 y1, .int .i64 y2, .int .i64 y3, .int .i64 y4, .int .i64 y5] 69) = w1 := ⟨_, rfl⟩
  rw [hw1] at k1 k2 b0 ⊢
  clear hw1
  have s0 : (fun w' : World => w'.cell? ⟨w.heap.size, 0, none⟩ = some (.int .i64 x1) ∧ w'.cell? ⟨w.heap.size, 1, none⟩ = some (.int .i64 x2) ∧ w'.cell? ⟨w.heap.size, 2, none⟩ = some (.int .i64 x3) ∧ w'.cell? ⟨w.heap.size, 3, none⟩ = some (.int .i64 x4) ∧ w'.cell? ⟨w.heap.size, 4, none⟩ = some (.int .i64 x5) ∧ w'.cell? ⟨w.heap.size + 1, 0, none⟩ = some (.int .i64 y1) ∧ w'.cell? ⟨w.heap.size + 1, 1, none⟩ = some (.int .i64 y2) ∧ w'.cell? ⟨w.heap.size + 1, 2, none⟩ = some (.int .i64 y3) ∧ w'.cell? ⟨w.heap.size + 1, 3, none⟩ = some (.int .i64 y4) ∧ w'.cell? ⟨w.heap.size + 1, 4, none⟩ = some (.int .i64 y5)) w1.drew := ⟨k1.cell 0, k1.cell 1, k1.cell 2, k1.cell 3, k1.cell 4, k2.cell 0, k2.cell 1, k2.cell 2, k2.cell 3, k2.cell 4⟩
  have o1 := (k1.drewN 1).alloc (.cells #[.int .i64 c1, .int .i64 c2, .int .i64 c3, .int .i64 c4, .int .i64 c5] 3)
  have o2 := (k2.drewN 1).alloc (.cells #[.int .i64 c1, .int .i64 c2, .int .i64 c3, .int .i64 c4, .int .i64 c5] 3)
  have s1 : (fun w' : World => w'.cell? ⟨w.heap.size, 0, none⟩ = some (.int .i64 x1) ∧ w'.cell? ⟨w.heap.size, 1, none⟩ = some (.int .i64 x2) ∧ w'.cell? ⟨w.heap.size, 2, none⟩ = some (.int .i64 x3) ∧ w'.cell? ⟨w.heap.size, 3, none⟩ = some (.int .i64 x4) ∧ w'.cell? ⟨w.heap.size, 4, none⟩ = some (.int .i64 x5) ∧ w'.cell? ⟨w.heap.size + 1, 0, none⟩ = some (.int .i64 y1) ∧ w'.cell? ⟨w.heap.size + 1, 1, none⟩ = some (.int .i64 y2) ∧ w'.cell? ⟨w.heap.size + 1, 2, none⟩ = some (.int .i64 y3) ∧ w'.cell? ⟨w.heap.size + 1, 3, none⟩ = some (.int .i64 y4) ∧ w'.cell? ⟨w.heap.size + 1, 4, none⟩ = some (.int .i64 y5)) (w1.drew.alloc (.cells #[.int .i64 c1, .int .i64 c2, .int .i64 c3, .int .i64 c4, .int .i64 c5] 3)) := ⟨o1.cell 0, o1.cell 1, o1.cell 2, o1.cell 3, o1.cell 4, o2.cell 0, o2.cell 1, o2.cell 2, o2.cell 3, o2.cell 4⟩
  have o3 := Own.new w1.drew 3 #[.int .i64 c1, .int .i64 c2, .int .i64 c3, .int .i64 c4, .int .i64 c5]
  have hsz : w1.drew.heap.size = w1.heap.size := rfl
  rw [hsz] at o3
  have HO : Hid (∀ k, k < 5 → (w1.drew.alloc (.cells #[.int .i64 c1, .int .i64 c2, .int .i64 c3, .int .i64 c4, .int .i64 c5] 3)).cell? ⟨w1.heap.size, 0 + k, none⟩ = some (.int .i64 (X k))) := Lib.hid (fun k hk => by
    rw [o3.cell, HX.out]
    rcases (show k = 0 ∨ k = 1 ∨ k = 2 ∨ k = 3 ∨ k = 4 by omega) with rfl | rfl | rfl | rfl | rfl <;> rfl)
  have hb9 := (below_drewN b0 1).alloc b0.size (.cells #[.int .i64 c1, .int .i64 c2, .int .i64 c3, .int .i64 c4, .int .i64 c5] 3)
  clear o1 o2 o3 k1 k2
  go_region_held3 (fun w' => w'.cell? ⟨w.heap.size, 0, none⟩ = some (.int .i64 x1) ∧ w'.cell? ⟨w.heap.size, 1, none⟩ = some (.int .i64 x2) ∧ w'.cell? ⟨w.heap.size, 2, none⟩ = some (.int .i64 x3) ∧ w'.cell? ⟨w.heap.size, 3, none⟩ = some (.int .i64 x4) ∧ w'.cell? ⟨w.heap.size, 4, none⟩ = some (.int .i64 x5) ∧ w'.cell? ⟨w.heap.size + 1, 0, none⟩ = some (.int .i64 y1) ∧ w'.cell? ⟨w.heap.size + 1, 1, none⟩ = some (.int .i64 y2) ∧ w'.cell? ⟨w.heap.size + 1, 2, none⟩ = some (.int .i64 y3) ∧ w'.cell? ⟨w.heap.size + 1, 3, none⟩ = some (.int .i64 y4) ∧ w'.cell? ⟨w.heap.size + 1, 4, none⟩ = some (.int .i64 y5)) (first | exact s0 | exact s1) (first
    | (go_at_call 49; first | ((with_reducible refine (cmp_any x1 y1 _).mono ?_); rintro q5 w5 ⟨rfl, rfl⟩; rw [H1.out]) | ((with_reducible refine (cmp_any x2 y2 _).mono ?_); rintro q5 w5 ⟨rfl, rfl⟩; rw [H2.out]) | ((with_reducible refine (cmp_any x3 y3 _).mono ?_); rintro q5 w5 ⟨rfl, rfl⟩; rw [H3.out]) | ((with_reducible refine (cmp_any x4 y4 _).mono ?_); rintro q5 w5 ⟨rfl, rfl⟩; rw [H4.out]) | ((with_reducible refine (cmp_any x5 y5 _).mono ?_); rintro q5 w5 ⟨rfl, rfl⟩; rw [H5.out]))
    | (go_at_call 48; refine (or_any w1.heap.size X _ HO.out).mono ?_; rintro q5 w5 ⟨rfl, rfl⟩))
  all_goals
    go_wp2_with fail
    go_ret
    exact ⟨by rw [HD.out]; rfl, hb9⟩
end Go.Proofs.Ytdpkiolngglpaaa.Ce
