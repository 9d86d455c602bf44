/-
  Which of two links comes first: cmp.Compare and cmp.Or at integers, and the closure that Report sorts by.
-/
import Derived.Test.YtpapkcelgbnkaaaNeighMore
import Derived.Sort.Grow
import Derived.Deep.RegionHeld3
set_option maxRecDepth 100000
namespace Go.Proofs.Ytpapkcelgbnkaaa.Ng
set_option linter.unusedVariables false
open Go.RowKit Lb Go.Sort

def orI (x y : Int) : Int := if x = 0 then y else x
def cmpI (x y : Int) : Int := if x < y then -1 else if y < x then 1 else 0
theorem isNaN_any (x : Int) (w : World) : Calls Try.prog 30 #[.int .i64 x] w fun r w' => r = .returned (.bool false) ∧ w = w' := by
  go_enter Try.func30, Try.ntmps30
  go_wp2_with fail
  all_goals
    go_ret
    exact ⟨by first | rfl | simp, rfl⟩
theorem compare_any (x y : Int) (w : World) : Calls Try.prog 27 #[.int .i64 x, .int .i64 y] w fun r w' => r = .returned (.int .i64 (cmpI x y)) ∧ w = w' := by
  rcases (show x < y ∨ (decide (x < y) = false ∧ y < x) ∨ (decide (x < y) = false ∧ decide (y < x) = false) by
    by_cases h : x < y
    · exact .inl h
    · by_cases h2 : y < x
      · exact .inr (.inl ⟨by simp; omega, h2⟩)
      · exact .inr (.inr ⟨by simp; omega, by simp; omega⟩)) with h | ⟨h, h2⟩ | ⟨h, h2⟩
  · have HD : Hid (cmpI x y = -1) := Lib.hid (by unfold cmpI; rw [if_pos h])
    go_enter Try.func27, Try.ntmps27
    go_wp2_with fail
    refine (isNaN_any x _).mono ?_
    rintro r w' ⟨rfl, rfl⟩
    go_wp2_with fail
    refine (isNaN_any y _).mono ?_
    rintro r w' ⟨rfl, rfl⟩
    go_wp2_with fail
    go_ret
    exact ⟨by rw [HD.out]; rfl, rfl⟩
  · have HD : Hid (cmpI x y = 1) := Lib.hid (by unfold cmpI; rw [if_neg (by simpa using h), if_pos h2])
    go_enter Try.func27, Try.ntmps27
    go_wp2_with fail
    refine (isNaN_any x _).mono ?_
    rintro r w' ⟨rfl, rfl⟩
    go_wp2_with fail
    refine (isNaN_any y _).mono ?_
    rintro r w' ⟨rfl, rfl⟩
    go_wp2_with fail
    go_ret
    exact ⟨by rw [HD.out]; rfl, rfl⟩
  · have HD : Hid (cmpI x y = 0) := Lib.hid (by unfold cmpI; rw [if_neg (by simpa using h), if_neg (by simpa using h2)])
    go_enter Try.func27, Try.ntmps27
    go_wp2_with fail
    refine (isNaN_any x _).mono ?_
    rintro r w' ⟨rfl, rfl⟩
    go_wp2_with fail
    refine (isNaN_any y _).mono ?_
    rintro r w' ⟨rfl, rfl⟩
    go_wp2_with fail
    go_ret
    exact ⟨by rw [HD.out]; rfl, rfl⟩
theorem or_two (b : Nat) (x y : Int) (w : World) (h0 : w.cell? ⟨b, 0, none⟩ = some (.int .i64 x)) (h1 : w.cell? ⟨b, 1, none⟩ = some (.int .i64 y)) :
    Calls Try.prog 26 #[.slice (some ⟨b, 0, none⟩) 2 2] w fun r w' => r = .returned (.int .i64 (orI x y)) ∧ w = w' := by
  have hc : ∀ k, k < 2 → w.cell? ⟨b, 0 + k, none⟩ = some (.int .i64 (if k = 0 then x else y)) := fun k hk => by
    rcases (show k = 0 ∨ k = 1 by omega) with rfl | rfl
    · exact h0
    · exact h1
  have HC := Lib.hid hc
  clear hc h0 h1
  go_enter Try.func26, Try.ntmps26
  go_wp2_with fail
  go_loopw [8] (fun i wr => ∃ k : Nat, i = .int .i64 k ∧ k ≤ 2 ∧ Hid (∀ j, j < k → (if j = 0 then x else y) = 0) ∧ w = wr) (fun i _ => 2 - (intOf i).toNat)
  case atStart => exact ⟨0, rfl, by omega, Lib.hid (fun j hj => by omega), rfl⟩
  case round =>
    obtain ⟨k, rfl, hk, HN, rfl⟩ := hrel
    by_cases hlt : k < 2
    · have g1 : (k : Int) < 2 := by omega
      have c0 := HC.out k hlt
      rw [Nat.zero_add] at c0
      obtain ⟨z, hz⟩ : ∃ z, (if k = 0 then x else y) = z := ⟨_, rfl⟩
      have HZ := Lib.hid hz
      rw [hz] at c0
      clear hz
      by_cases hz0 : z = 0
      · have HN2 : Hid (∀ j, j < k + 1 → (if j = 0 then x else y) = 0) := Lib.hid (fun j hj => by
          by_cases e : j = k
          · subst e; rw [HZ.out]; exact hz0
          · exact HN.out j (by omega))
        have e1 : (z != 0) = false := by simpa using hz0
        clear hz0
        go_wp2_with fail
        first
          | exact ⟨⟨k + 1, by simp, by omega, HN2, trivial⟩, by simp [intOf]; omega⟩
          | exact ⟨⟨k + 1, by simp [intOf], by omega, HN2, rfl⟩, by simp [intOf]; omega⟩
          | exact ⟨⟨_, _, ⟨k + 1, by simp, by omega, HN2⟩, rfl, rfl⟩, by simp [intOf]; omega⟩
      · have e1 : (z != 0) = true := by simpa using hz0
        have HD : Hid (orI x y = z) := Lib.hid (by
          unfold orI
          rcases (show k = 0 ∨ k = 1 by omega) with rfl | rfl
          · have := HZ.out
            simp only [if_true] at this
            rw [this, if_neg hz0]
          · have hx := HN.out 0 (by omega)
            simp only [if_true] at hx
            rw [if_pos hx]
            have := HZ.out
            rwa [if_neg (by omega)] at this)
        clear hz0
        go_wp2_with fail
        go_ret
        exact ⟨by rw [HD.out]; rfl, rfl⟩
    · obtain rfl : 2 = k := by omega
      have HD : Hid (orI x y = 0) := Lib.hid (by
        unfold orI
        have hx := HN.out 0 (by omega)
        have hy := HN.out 1 (by omega)
        simp only [if_true] at hx
        rw [if_neg (by omega)] at hy
        rw [if_pos hx, hy])
      go_wp2_with fail
      go_ret
      exact ⟨by rw [HD.out]; rfl, rfl⟩
structure Lk where
  a : Int
  b : Int
  q : Int
def encL (x : Lk) : List Value := [.int .i64 x.a, .int .i64 x.b, .int .i64 x.q]
def cfL (x y : Lk) : Int := orI (cmpI y.q x.q) (cmpI x.b y.b)
set_option maxHeartbeats 2000000 in
theorem closure_any (x y : Lk) (w : World) :
    Calls Try.prog 25 #[.agg #[.int .i64 x.a, .int .i64 x.b, .int .i64 x.q], .agg #[.int .i64 y.a, .int .i64 y.b, .int .i64 y.q]] w fun r w' => r = .returned (.int .i64 (cfL x y)) ∧ ∃ q os', w' = grow (w.drewN q) os' := by
  obtain ⟨xa, xb, xq⟩ := x
  obtain ⟨ya, yb, yq⟩ := y
  obtain ⟨c1, hc1⟩ : ∃ c, cmpI yq xq = c := ⟨_, rfl⟩
  obtain ⟨c2, hc2⟩ : ∃ c, cmpI xb yb = c := ⟨_, rfl⟩
  have H1 := Lib.hid hc1
  have H2 := Lib.hid hc2
  have HD : Hid (cfL ⟨xa, xb, xq⟩ ⟨ya, yb, yq⟩ = orI c1 c2) := Lib.hid (by rw [← hc1, ← hc2]; rfl)
  clear hc1 hc2
  have k1 : Own ((w.alloc (.cells #[.int .i64 xa, .int .i64 xb, .int .i64 xq] 41)).alloc (.cells #[.int .i64 ya, .int .i64 yb, .int .i64 yq] 41)) w.heap.size 41 #[.int .i64 xa, .int .i64 xb, .int .i64 xq] := (Own.new w _ _).alloc _
  have k2 : Own ((w.alloc (.cells #[.int .i64 xa, .int .i64 xb, .int .i64 xq] 41)).alloc (.cells #[.int .i64 ya, .int .i64 yb, .int .i64 yq] 41)) (w.heap.size + 1) 41 #[.int .i64 ya, .int .i64 yb, .int .i64 yq] := by
    have := Own.new (w.alloc (.cells #[.int .i64 xa, .int .i64 xb, .int .i64 xq] 41)) 41 #[.int .i64 ya, .int .i64 yb, .int .i64 yq]
    rwa [show (w.alloc (.cells #[.int .i64 xa, .int .i64 xb, .int .i64 xq] 41)).heap.size = w.heap.size + 1 by simp] at this
  have hg : (w.alloc (.cells #[.int .i64 xa, .int .i64 xb, .int .i64 xq] 41)).alloc (.cells #[.int .i64 ya, .int .i64 yb, .int .i64 yq] 41) = grow w (#[.cells #[.int .i64 xa, .int .i64 xb, .int .i64 xq] 41] ++ #[.cells #[.int .i64 ya, .int .i64 yb, .int .i64 yq] 41]) := by rw [alloc_eq_grow, alloc_eq_grow, grow_grow]
  obtain ⟨os1, hos⟩ : ∃ os1 : Array Obj, os1 = (#[.cells #[.int .i64 xa, .int .i64 xb, .int .i64 xq] 41] ++ #[.cells #[.int .i64 ya, .int .i64 yb, .int .i64 yq] 41]) := ⟨_, rfl⟩
  rw [← hos] at hg
  have HG := Lib.hid hg
  clear hg hos
  go_enter Try.func25, Try.ntmps25
  go_wp2_with fail
  obtain ⟨w1, hw1⟩ : ∃ w1, (w.alloc (.cells #[.int .i64 xa, .int .i64 xb, .int .i64 xq] 41)).alloc (.cells #[.int .i64 ya, .int .i64 yb, .int .i64 yq] 41) = w1 := ⟨_, rfl⟩
  rw [hw1] at k1 k2 HG ⊢
  clear hw1
  have s0 : (fun w' : World => w'.cell? ⟨w.heap.size, 1, none⟩ = some (.int .i64 xb) ∧ w'.cell? ⟨w.heap.size, 2, none⟩ = some (.int .i64 xq) ∧ w'.cell? ⟨w.heap.size + 1, 1, none⟩ = some (.int .i64 yb) ∧ w'.cell? ⟨w.heap.size + 1, 2, none⟩ = some (.int .i64 yq)) w1.drew := ⟨k1.cell 1, k1.cell 2, k2.cell 1, k2.cell 2⟩
  have o1 := (k1.drewN 1).alloc (.cells #[.int .i64 c1, .int .i64 c2] 3)
  have o2 := (k2.drewN 1).alloc (.cells #[.int .i64 c1, .int .i64 c2] 3)
  have s1 : (fun w' : World => w'.cell? ⟨w.heap.size, 1, none⟩ = some (.int .i64 xb) ∧ w'.cell? ⟨w.heap.size, 2, none⟩ = some (.int .i64 xq) ∧ w'.cell? ⟨w.heap.size + 1, 1, none⟩ = some (.int .i64 yb) ∧ w'.cell? ⟨w.heap.size + 1, 2, none⟩ = some (.int .i64 yq)) (w1.drew.alloc (.cells #[.int .i64 c1, .int .i64 c2] 3)) := ⟨o1.cell 1, o1.cell 2, o2.cell 1, o2.cell 2⟩
  have o3 := Own.new w1.drew 3 #[.int .i64 c1, .int .i64 c2]
  have hsz : w1.drew.heap.size = w1.heap.size := rfl
  go_region_held3 (fun w' => w'.cell? ⟨w.heap.size, 1, none⟩ = some (.int .i64 xb) ∧ w'.cell? ⟨w.heap.size, 2, none⟩ = some (.int .i64 xq) ∧ w'.cell? ⟨w.heap.size + 1, 1, none⟩ = some (.int .i64 yb) ∧ w'.cell? ⟨w.heap.size + 1, 2, none⟩ = some (.int .i64 yq)) (first | exact s0 | exact s1) (first
    | (go_at_call 27; first | ((with_reducible refine (compare_any yq xq _).mono ?_); rintro q5 w5 ⟨rfl, rfl⟩; rw [H1.out]) | ((with_reducible refine (compare_any xb yb _).mono ?_); rintro q5 w5 ⟨rfl, rfl⟩; rw [H2.out]))
    | (go_at_call 26; refine (or_two w1.heap.size c1 c2 _ (o3.cell 0) (o3.cell 1)).mono ?_; rintro q5 w5 ⟨rfl, rfl⟩))
  all_goals
    go_wp2_with fail
    go_ret
    exact ⟨by rw [HD.out]; rfl, 1, os1 ++ #[.cells #[.int .i64 c1, .int .i64 c2] 3], by rw [HG.out, alloc_eq_grow, grow_grow, drew_grow]; rfl⟩
end Go.Proofs.Ytpapkcelgbnkaaa.Ng
