/-
  Package parents: who is ahead of whom.
-/
import Derived.Test.YtjboilkbcajkcaaPaMath
import Derived.Lib.Hide
import Derived.IntWalk
import Derived.BigQuiet
import Derived.Deep.RegionHeld3
import Derived.Deep.LoopGhost
set_option maxRecDepth 100000
namespace Go.Proofs.Ytjboilkbcajkcaa.Pa
set_option linter.unusedVariables false
open Go.RowKit Lb

theorem keep_cell {W W' : World} {p : Addr} {v : Value} (hb : Below W.heap.size W W') (h : W.cell? p = some v) : W'.cell? p = some v := (hb.cell (lt_of_cell h)).trans h
theorem isNaN_any (x : Int) (w : World) : Calls Try.prog 56 #[.int .i64 x] w fun r w' => r = .returned (.bool false) ∧ w = w' := by
  go_enter Try.func56, Try.ntmps56
  go_wp2_with fail
  all_goals
    go_ret
    exact ⟨by first | rfl | simp, rfl⟩
theorem cmp_any (x y : Int) (w : World) : Calls Try.prog 41 #[.int .i64 x, .int .i64 y] w fun r w' => r = .returned (.int .i64 (cmpI x y)) ∧ w = w' := by
  rcases (show x < y ∨ (decide (x < y) = false ∧ y < x) ∨ (decide (x < y) = false ∧ decide (y < x) = false) by
    by_cases h : x < y
    · exact .inl h
    · by_cases h2 : y < x
      · exact .inr (.inl ⟨by simp; omega, h2⟩)
      · exact .inr (.inr ⟨by simp; omega, by simp; omega⟩)) with h | ⟨h, h2⟩ | ⟨h, h2⟩
  · have HD : Hid (cmpI x y = -1) := Lib.hid (by unfold cmpI; rw [if_pos h])
    go_enter Try.func41, Try.ntmps41
    go_wp2_with ((with_reducible refine (isNaN_any _ _).mono ?_); rintro r w' ⟨rfl, rfl⟩)
    go_ret
    exact ⟨by rw [HD.out]; rfl, rfl⟩
  · have HD : Hid (cmpI x y = 1) := Lib.hid (by unfold cmpI; rw [if_neg (by simpa using h), if_pos h2])
    go_enter Try.func41, Try.ntmps41
    go_wp2_with ((with_reducible refine (isNaN_any _ _).mono ?_); rintro r w' ⟨rfl, rfl⟩)
    go_ret
    exact ⟨by rw [HD.out]; rfl, rfl⟩
  · have HD : Hid (cmpI x y = 0) := Lib.hid (by unfold cmpI; rw [if_neg (by simpa using h), if_neg (by simpa using h2)])
    go_enter Try.func41, Try.ntmps41
    go_wp2_with ((with_reducible refine (isNaN_any _ _).mono ?_); rintro r w' ⟨rfl, rfl⟩)
    go_ret
    exact ⟨by rw [HD.out]; rfl, rfl⟩
theorem or_two (b : Nat) (x y : Int) (w : World) (h0 : w.cell? ⟨b, 0, none⟩ = some (.int .i64 x)) (h1 : w.cell? ⟨b, 1, none⟩ = some (.int .i64 y)) :
    Calls Try.prog 40 #[.slice (some ⟨b, 0, none⟩) 2 2] w fun r w' => r = .returned (.int .i64 (orI x y)) ∧ w = w' := by
  have hc : ∀ k, k < 2 → w.cell? ⟨b, 0 + k, none⟩ = some (.int .i64 (if k = 0 then x else y)) := fun k hk => by
    rcases (show k = 0 ∨ k = 1 by omega) with rfl | rfl
    · exact h0
    · exact h1
  have HC := Lib.hid hc
  clear hc h0 h1
  go_enter Try.func40, Try.ntmps40
  go_wp2_with fail
  go_loopw [8] (fun i wr => ∃ k : Nat, i = .int .i64 k ∧ k ≤ 2 ∧ Hid (∀ j, j < k → (if j = 0 then x else y) = 0) ∧ w = wr) (fun i _ => 2 - (intOf i).toNat)
  case atStart => exact ⟨0, rfl, by omega, Lib.hid (fun j hj => by omega), rfl⟩
  case round =>
    obtain ⟨k, rfl, hk, HN, rfl⟩ := hrel
    by_cases hlt : k < 2
    · have g1 : (k : Int) < 2 := by omega
      have c0 := HC.out k hlt
      rw [Nat.zero_add] at c0
      obtain ⟨z, hz⟩ : ∃ z, (if k = 0 then x else y) = z := ⟨_, rfl⟩
      have HZ := Lib.hid hz
      rw [hz] at c0
      clear hz
      by_cases hz0 : z = 0
      · have HN2 : Hid (∀ j, j < k + 1 → (if j = 0 then x else y) = 0) := Lib.hid (fun j hj => by
          by_cases e : j = k
          · subst e; rw [HZ.out]; exact hz0
          · exact HN.out j (by omega))
        have e1 : (z != 0) = false := by simpa using hz0
        clear hz0
        go_wp2_with fail
        first
          | exact ⟨⟨k + 1, by simp, by omega, HN2, trivial⟩, by simp [intOf]; omega⟩
          | exact ⟨⟨k + 1, by simp [intOf], by omega, HN2, rfl⟩, by simp [intOf]; omega⟩
          | exact ⟨⟨_, _, ⟨k + 1, by simp, by omega, HN2⟩, rfl, rfl⟩, by simp [intOf]; omega⟩
      · have e1 : (z != 0) = true := by simpa using hz0
        have HD : Hid (orI x y = z) := Lib.hid (by
          unfold orI
          rcases (show k = 0 ∨ k = 1 by omega) with rfl | rfl
          · have := HZ.out
            simp only [if_true] at this
            rw [this, if_neg hz0]
          · have hx := HN.out 0 (by omega)
            simp only [if_true] at hx
            rw [if_pos hx]
            have := HZ.out
            rwa [if_neg (by omega)] at this)
        clear hz0
        go_wp2_with fail
        go_ret
        exact ⟨by rw [HD.out]; rfl, rfl⟩
    · obtain rfl : 2 = k := by omega
      have HD : Hid (orI x y = 0) := Lib.hid (by
        unfold orI
        have hx := HN.out 0 (by omega)
        have hy := HN.out 1 (by omega)
        simp only [if_true] at hx
        rw [if_neg (by omega)] at hy
        rw [if_pos hx, hy])
      go_wp2_with fail
      go_ret
      exact ⟨by rw [HD.out]; rfl, rfl⟩
set_option maxHeartbeats 2000000 in
theorem com_any (x y : P) (w : World) :
    Calls Try.prog 33 #[.agg #[.int .i64 x.n, .int .i64 x.r, .int .i64 x.h], .agg #[.int .i64 y.n, .int .i64 y.r, .int .i64 y.h]] w fun r w' => r = .returned (.int .i64 (cf x y)) ∧ Below w.heap.size w w' := by
  obtain ⟨x1, x2, x3⟩ := x
  obtain ⟨y1, y2, y3⟩ := y
  obtain ⟨c1, hc1⟩ : ∃ c, cmpI x2 y2 = c := ⟨_, rfl⟩
  obtain ⟨c2, hc2⟩ : ∃ c, cmpI x1 y1 = c := ⟨_, rfl⟩
  have H1 := Lib.hid hc1
  have H2 := Lib.hid hc2
  have HD : Hid (cf ⟨x1, x2, x3⟩ ⟨y1, y2, y3⟩ = orI c1 c2) := Lib.hid (by rw [← hc1, ← hc2]; rfl)
  clear hc1 hc2
  have k1 : Own ((w.alloc (.cells #[.int .i64 x1, .int .i64 x2, .int .i64 x3] 55)).alloc (.cells #[.int .i64 y1, .int .i64 y2, .int .i64 y3] 55)) w.heap.size 55 #[.int .i64 x1, .int .i64 x2, .int .i64 x3] := (Own.new w _ _).alloc _
  have k2 : Own ((w.alloc (.cells #[.int .i64 x1, .int .i64 x2, .int .i64 x3] 55)).alloc (.cells #[.int .i64 y1, .int .i64 y2, .int .i64 y3] 55)) (w.heap.size + 1) 55 #[.int .i64 y1, .int .i64 y2, .int .i64 y3] := by
    have := Own.new (w.alloc (.cells #[.int .i64 x1, .int .i64 x2, .int .i64 x3] 55)) 55 #[.int .i64 y1, .int .i64 y2, .int .i64 y3]
    rwa [show (w.alloc (.cells #[.int .i64 x1, .int .i64 x2, .int .i64 x3] 55)).heap.size = w.heap.size + 1 by simp] at this
  have b0 := ((Below.refl w.heap.size w).alloc (Nat.le_refl _) (.cells #[.int .i64 x1, .int .i64 x2, .int .i64 x3] 55)).alloc (by simp) (.cells #[.int .i64 y1, .int .i64 y2, .int .i64 y3] 55)
  go_enter Try.func33, Try.ntmps33
  go_wp2_with fail
  obtain ⟨w1, hw1⟩ : ∃ w1, (w.alloc (.cells #[.int .i64 x1, .int .i64 x2, .int .i64 x3] 55)).alloc (.cells #[.int .i64 y1, .int .i64 y2, .int .i64 y3] 55) = w1 := ⟨_, rfl⟩
  rw [hw1] at k1 k2 b0 ⊢
  clear hw1
  have s0 : (fun w' : World => w'.cell? ⟨w.heap.size, 0, none⟩ = some (.int .i64 x1) ∧ w'.cell? ⟨w.heap.size, 1, none⟩ = some (.int .i64 x2) ∧ w'.cell? ⟨w.heap.size + 1, 0, none⟩ = some (.int .i64 y1) ∧ w'.cell? ⟨w.heap.size + 1, 1, none⟩ = some (.int .i64 y2)) w1.drew := ⟨k1.cell 0, k1.cell 1, k2.cell 0, k2.cell 1⟩
  have o1 := (k1.drewN 1).alloc (.cells #[.int .i64 c1, .int .i64 c2] 3)
  have o2 := (k2.drewN 1).alloc (.cells #[.int .i64 c1, .int .i64 c2] 3)
  have s1 : (fun w' : World => w'.cell? ⟨w.heap.size, 0, none⟩ = some (.int .i64 x1) ∧ w'.cell? ⟨w.heap.size, 1, none⟩ = some (.int .i64 x2) ∧ w'.cell? ⟨w.heap.size + 1, 0, none⟩ = some (.int .i64 y1) ∧ w'.cell? ⟨w.heap.size + 1, 1, none⟩ = some (.int .i64 y2)) (w1.drew.alloc (.cells #[.int .i64 c1, .int .i64 c2] 3)) := ⟨o1.cell 0, o1.cell 1, o2.cell 0, o2.cell 1⟩
  have o3 := Own.new w1.drew 3 #[.int .i64 c1, .int .i64 c2]
  have hsz : w1.drew.heap.size = w1.heap.size := rfl
  rw [hsz] at o3
  have hb9 := (below_drewN b0 1).alloc b0.size (.cells #[.int .i64 c1, .int .i64 c2] 3)
  clear o1 o2 k1 k2
  go_region_held3 (fun w' : World => w'.cell? ⟨w.heap.size, 0, none⟩ = some (.int .i64 x1) ∧ w'.cell? ⟨w.heap.size, 1, none⟩ = some (.int .i64 x2) ∧ w'.cell? ⟨w.heap.size + 1, 0, none⟩ = some (.int .i64 y1) ∧ w'.cell? ⟨w.heap.size + 1, 1, none⟩ = some (.int .i64 y2)) (first | exact s0 | exact s1) (first
    | (go_at_call 41; first | ((with_reducible refine (cmp_any x2 y2 _).mono ?_); rintro q5 w5 ⟨rfl, rfl⟩; rw [H1.out]) | ((with_reducible refine (cmp_any x1 y1 _).mono ?_); rintro q5 w5 ⟨rfl, rfl⟩; rw [H2.out]))
    | (go_at_call 40; refine (or_two w1.heap.size c1 c2 _ (o3.cell 0) (o3.cell 1)).mono ?_; rintro q5 w5 ⟨rfl, rfl⟩))
  all_goals
    go_wp2_with fail
    go_ret
    exact ⟨by rw [HD.out]; rfl, hb9⟩
end Go.Proofs.Ytjboilkbcajkcaa.Pa
