/-
  cmp.Compare and cmp.Or at integers.
-/
import Derived.Test.YtdpkiolngglpaaaLib
import Derived.Lib.Hide
import Derived.Sort.Grow
import Derived.Deep.RegionHeld3
set_option maxRecDepth 100000
namespace Go.Proofs.Ytdpkiolngglpaaa.Lb
set_option linter.unusedVariables false
set_option linter.unusedSimpArgs false
open Go.RowKit Go.Sort

def orI (x y : Int) : Int := if x = 0 then y else x
def cmpI (x y : Int) : Int := if x < y then -1 else if y < x then 1 else 0
theorem isNaN_any (x : Int) (w : World) : Calls Try.prog 62 #[.int .i64 x] w fun r w' => r = .returned (.bool false) ∧ w = w' := by
  go_enter Try.func62, Try.ntmps62
  go_wp2_with fail
  all_goals
    go_ret
    exact ⟨by first | rfl | simp, rfl⟩
theorem compare_any (x y : Int) (w : World) : Calls Try.prog 49 #[.int .i64 x, .int .i64 y] w fun r w' => r = .returned (.int .i64 (cmpI x y)) ∧ w = w' := by
  rcases (show x < y ∨ (decide (x < y) = false ∧ y < x) ∨ (decide (x < y) = false ∧ decide (y < x) = false) by
    by_cases h : x < y
    · exact .inl h
    · by_cases h2 : y < x
      · exact .inr (.inl ⟨by simp; omega, h2⟩)
      · exact .inr (.inr ⟨by simp; omega, by simp; omega⟩)) with h | ⟨h, h2⟩ | ⟨h, h2⟩
  · have HD : Hid (cmpI x y = -1) := Lib.hid (by unfold cmpI; rw [if_pos h])
    go_enter Try.func49, Try.ntmps49
    go_wp2_with fail
    refine (isNaN_any x _).mono ?_
    rintro r w' ⟨rfl, rfl⟩
    go_wp2_with fail
    refine (isNaN_any y _).mono ?_
    rintro r w' ⟨rfl, rfl⟩
    go_wp2_with fail
    go_ret
    exact ⟨by rw [HD.out]; rfl, rfl⟩
  · have HD : Hid (cmpI x y = 1) := Lib.hid (by unfold cmpI; rw [if_neg (by simpa using h), if_pos h2])
    go_enter Try.func49, Try.ntmps49
    go_wp2_with fail
    refine (isNaN_any x _).mono ?_
    rintro r w' ⟨rfl, rfl⟩
    go_wp2_with fail
    refine (isNaN_any y _).mono ?_
    rintro r w' ⟨rfl, rfl⟩
    go_wp2_with fail
    go_ret
    exact ⟨by rw [HD.out]; rfl, rfl⟩
  · have HD : Hid (cmpI x y = 0) := Lib.hid (by unfold cmpI; rw [if_neg (by simpa using h), if_neg (by simpa using h2)])
    go_enter Try.func49, Try.ntmps49
    go_wp2_with fail
    refine (isNaN_any x _).mono ?_
    rintro r w' ⟨rfl, rfl⟩
    go_wp2_with fail
    refine (isNaN_any y _).mono ?_
    rintro r w' ⟨rfl, rfl⟩
    go_wp2_with fail
    go_ret
    exact ⟨by rw [HD.out]; rfl, rfl⟩
theorem or_two (b : Nat) (x y : Int) (w : World) (h0 : w.cell? ⟨b, 0, none⟩ = some (.int .i64 x)) (h1 : w.cell? ⟨b, 1, none⟩ = some (.int .i64 y)) :
    Calls Try.prog 48 #[.slice (some ⟨b, 0, none⟩) 2 2] w fun r w' => r = .returned (.int .i64 (orI x y)) ∧ w = w' := by
  have hc : ∀ k, k < 2 → w.cell? ⟨b, 0 + k, none⟩ = some (.int .i64 (if k = 0 then x else y)) := fun k hk => by
    rcases (show k = 0 ∨ k = 1 by omega) with rfl | rfl
    · exact h0
    · exact h1
  have HC := Lib.hid hc
  clear hc h0 h1
  go_enter Try.func48, Try.ntmps48
  go_wp2_with fail
  go_loopw [8] (fun i wr => ∃ k : Nat, i = .int .i64 k ∧ k ≤ 2 ∧ Hid (∀ j, j < k → (if j = 0 then x else y) = 0) ∧ w = wr) (fun i _ => 2 - (intOf i).toNat)
  case atStart => exact ⟨0, rfl, by omega, Lib.hid (fun j hj => by omega), rfl⟩
  case round =>
    obtain ⟨k, rfl, hk, HN, rfl⟩ := hrel
    by_cases hlt : k < 2
    · have g1 : (k : Int) < 2 := by omega
      have c0 := HC.out k hlt
      rw [Nat.zero_add] at c0
      obtain ⟨z, hz⟩ : ∃ z, (if k = 0 then x else y) = z := ⟨_, rfl⟩
      have HZ := Lib.hid hz
      rw [hz] at c0
      clear hz
      by_cases hz0 : z = 0
      · have HN2 : Hid (∀ j, j < k + 1 → (if j = 0 then x else y) = 0) := Lib.hid (fun j hj => by
          by_cases e : j = k
          · subst e; rw [HZ.out]; exact hz0
          · exact HN.out j (by omega))
        have e1 : (z != 0) = false := by simpa using hz0
        clear hz0
        go_wp2_with fail
        first
          | exact ⟨⟨k + 1, by simp, by omega, HN2, trivial⟩, by simp [intOf]; omega⟩
          | exact ⟨⟨k + 1, by simp [intOf], by omega, HN2, rfl⟩, by simp [intOf]; omega⟩
          | exact ⟨⟨_, _, ⟨k + 1, by simp, by omega, HN2⟩, rfl, rfl⟩, by simp [intOf]; omega⟩
      · have e1 : (z != 0) = true := by simpa using hz0
        have HD : Hid (orI x y = z) := Lib.hid (by
          unfold orI
          rcases (show k = 0 ∨ k = 1 by omega) with rfl | rfl
          · have := HZ.out
            simp only [if_true] at this
            rw [this, if_neg hz0]
          · have hx := HN.out 0 (by omega)
            simp only [if_true] at hx
            rw [if_pos hx]
            have := HZ.out
            rwa [if_neg (by omega)] at this)
        clear hz0
        go_wp2_with fail
        go_ret
        exact ⟨by rw [HD.out]; rfl, rfl⟩
    · obtain rfl : 2 = k := by omega
      have HD : Hid (orI x y = 0) := Lib.hid (by
        unfold orI
        have hx := HN.out 0 (by omega)
        have hy := HN.out 1 (by omega)
        simp only [if_true] at hx
        rw [if_neg (by omega)] at hy
        rw [if_pos hx, hy])
      go_wp2_with fail
      go_ret
      exact ⟨by rw [HD.out]; rfl, rfl⟩
end Go.Proofs.Ytdpkiolngglpaaa.Lb
