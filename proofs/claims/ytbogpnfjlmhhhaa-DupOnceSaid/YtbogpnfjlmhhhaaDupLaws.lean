/-
  What the laws of package dup share: one contract of New for what is in its bounds, and what every program must know.
-/
import Derived.Test.YtbogpnfjlmhhhaaDupWalks
import Derived.Test.YtbogpnfjlmhhhaaDupMath
set_option maxRecDepth 100000
namespace Go.Proofs.Ytbogpnfjlmhhhaa.Dp
set_option linter.unusedVariables false
open Go.RowKit Lb

theorem upd_self {α : Type} (f : Nat → α) (i : Nat) : upd f i (f i) = f := by
  funext j
  unfold upd
  split
  · rename_i h; rw [h]
  · rfl
theorem upd_same {α : Type} (f : Nat → α) (i : Nat) (x : α) : upd f i x i = x := by simp [upd]
theorem upd_other {α : Type} (f : Nat → α) {i j : Nat} (x : α) (h : j ≠ i) : upd f i x j = f j := by simp [upd, h]

theorem new_in (b i : Nat) (L : Nat → Int) (S : Nat → Nat) (n : Int) (w : World) (h : Win w b L S) (hi : i < 16) (hn : 0 ≤ n) (hm : n < 9223372036854775808) (hg : DGood (L i) (S i)) :
    Calls Try.prog 11 #[.pointer (some ⟨b, 0, none⟩), .int .i64 i, .int .i64 n] w fun r w' => r = .returned (.bool (isN (L i) (S i) n)) ∧ Win w' b (upd L i (nL (L i) (S i) n)) (upd S i (nS (L i) (S i) n)) ∧ Just b w w' := by
  obtain ⟨hs2, hl⟩ := hg
  by_cases hs : S i = 0
  · refine (new_fresh b i L S n w h hi hn hs).mono ?_
    rintro r w' ⟨rfl, k, j⟩
    refine ⟨by simp [isN, hs], ?_, j⟩
    simp only [nL, nS, hs]
    exact k
  · obtain ⟨l0, l1⟩ := hl hs
    by_cases h1 : L i < n
    · refine (new_up b i L S n w h hi h1 l0 (by omega) hs hs2).mono ?_
      rintro r w' ⟨rfl, k, j⟩
      refine ⟨by simp [isN, h1], ?_, j⟩
      have e1 : nL (L i) (S i) n = n := by simp [nL, h1]
      have e2 : nS (L i) (S i) n = S i <<< (n - L i).toNat % 2 ^ 64 ||| 1 := by unfold nS; rw [if_neg hs, if_pos h1]
      rw [e1, e2]
      exact k
    · have e1 : nL (L i) (S i) n = L i := by unfold nL; rw [if_neg (by omega)]
      rw [e1, upd_self]
      by_cases h2 : L i < n + 64
      · cases hb : (S i).testBit (L i - n).toNat
        · refine (new_late b i L S n w h hi hn h2 (by omega) (by omega) hs hs2 hb).mono ?_
          rintro r w' ⟨rfl, k, j⟩
          refine ⟨by simp [isN, hb]; omega, ?_, j⟩
          have e2 : nS (L i) (S i) n = S i ||| 1 <<< (L i - n).toNat := by unfold nS; rw [if_neg hs, if_neg h1, if_pos ⟨by omega, hb⟩]
          rw [e2]
          exact k
        · refine (new_dup b i L S n w h hi hn h2 (by omega) (by omega) hs hs2 hb).mono ?_
          rintro r w' ⟨rfl, m, rfl⟩
          have e2 : nS (L i) (S i) n = S i := by unfold nS; rw [if_neg hs, if_neg h1, if_neg (by rw [hb]; simp)]
          rw [e2, upd_self]
          exact ⟨by simp [isN, hb, hs, h1], Blk.drewN h m, (Just.refl _ _).drewN m⟩
      · refine (new_old b i L S n w h hi hn (by omega) (by omega) hs).mono ?_
        rintro r w' ⟨rfl, m, rfl⟩
        have e2 : nS (L i) (S i) n = S i := by unfold nS; rw [if_neg hs, if_neg h1, if_neg (by omega)]
        rw [e2, upd_self]
        refine ⟨?_, Blk.drewN h m, (Just.refl _ _).drewN m⟩
        simp [isN, hs]
        omega

/-- As new_in, with the answer known. -/
theorem new_is (b i : Nat) (L : Nat → Int) (S : Nat → Nat) (n : Int) (a : Bool) (w : World) (h : Win w b L S) (hi : i < 16) (hn : 0 ≤ n) (hm : n < 9223372036854775808) (hg : DGood (L i) (S i)) (ha : isN (L i) (S i) n = a) :
    Calls Try.prog 11 #[.pointer (some ⟨b, 0, none⟩), .int .i64 i, .int .i64 n] w fun r w' => r = .returned (.bool a) ∧ Win w' b (upd L i (nL (L i) (S i) n)) (upd S i (nS (L i) (S i) n)) ∧ Just b w w' := by
  rw [← ha]
  exact new_in b i L S n w h hi hn hm hg

theorem good_upd {L : Nat → Int} {S : Nat → Nat} (hg : ∀ i, DGood (L i) (S i)) (i : Nat) (n : Int) (hn : 0 ≤ n) (hm : n < 9223372036854775808) (j : Nat) :
    DGood (upd L i (nL (L i) (S i) n) j) (upd S i (nS (L i) (S i) n) j) := by
  by_cases h : j = i
  · subst h
    rw [upd_same, upd_same]
    exact good_step (hg j) hn hm
  · rw [upd_other L _ h, upd_other S _ h]
    exact hg j

set_option maxHeartbeats 1000000 in
theorem awake_any (w : World) :
    Calls Try.prog 15 #[] w fun r w' => r = .returned (.bool true) ∧ Below w.heap.size w w' := by
  have g0 : ∀ i : Nat, DGood ((fun _ => 0 : Nat → Int) i) ((fun _ => 0 : Nat → Nat) i) := fun _ => good_zero 0
  have g1 := good_upd g0 3 5 (by decide) (by decide)
  have g2 := good_upd g1 3 5 (by decide) (by decide)
  have g3 := good_upd g2 3 69 (by decide) (by decide)
  have g4 := good_upd g3 3 5 (by decide) (by decide)
  go_enter Try.func15, Try.ntmps15
  go_wp2_with fail
  refine (new_any _).mono ?_
  rintro r w1 ⟨rfl, k1, b1, z1⟩
  go_wp2_with fail
  refine (new_is w.heap.size 3 _ _ 5 true _ k1 (by decide) (by decide) (by decide) (g0 3) (by decide)).mono ?_
  rintro r w2 ⟨rfl, k2, j2⟩
  go_wp2_with fail
  refine (new_is w.heap.size 3 _ _ 5 false _ k2 (by decide) (by decide) (by decide) (g1 3) (by decide)).mono ?_
  rintro r w3 ⟨rfl, k3, j3⟩
  go_wp2_with fail
  refine (new_is w.heap.size 3 _ _ 69 true _ k3 (by decide) (by decide) (by decide) (g2 3) (by decide)).mono ?_
  rintro r w4 ⟨rfl, k4, j4⟩
  go_wp2_with fail
  refine (new_is w.heap.size 3 _ _ 5 false _ k4 (by decide) (by decide) (by decide) (g3 3) (by decide)).mono ?_
  rintro r w5 ⟨rfl, k5, j5⟩
  go_wp2_with fail
  refine (new_is w.heap.size 4 _ _ 5 true _ k5 (by decide) (by decide) (by decide) (g4 4) (by decide)).mono ?_
  rintro r w6 ⟨rfl, k6, j6⟩
  go_wp2_with fail
  go_ret
  have j := (((j2.trans j3).trans j4).trans j5).trans j6
  exact ⟨rfl, j.below b1 (Nat.le_refl _) (Nat.le_of_lt z1)⟩
end Go.Proofs.Ytbogpnfjlmhhhaa.Dp
