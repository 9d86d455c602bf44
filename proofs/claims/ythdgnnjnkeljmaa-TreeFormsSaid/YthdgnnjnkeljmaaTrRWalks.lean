/-
  The reference's tree (chapter 21): Rank, Parents, Children, Order, Path.
-/
import Derived.Test.YthdgnnjnkeljmaaTrKids
import Derived.Test.YthdgnnjnkeljmaaTopoRef
set_option maxRecDepth 100000
namespace Go.Proofs.Ythdgnnjnkeljmaa.Tr
set_option linter.unusedVariables false
open Go.RowKit Lb Tp

def rI (R : Rk) (x : Nat) : Int := match R x with
  | some r => (r : Int)
  | none => -1
theorem rI_bd (R : Rk) (h : ∀ x s, R x = some s → s ≤ 15) (x : Nat) : -1 ≤ rI R x ∧ rI R x ≤ 15 := by
  unfold rI
  cases hx : R x with
  | some r => have := h x r hx; dsimp only; omega
  | none => dsimp only; omega
def rtv (R : Rk) (P : Nat → Value) (j : Nat) : Value := if j < 16 then .int .i64 (rI R j) else P (j - 16)
def RTb (w : World) (t : Nat) (R : Rk) (P : Nat → Value) : Prop := Blk w t 63 32 (rtv R P)
theorem RTb.rank {w : World} {t : Nat} {R : Rk} {P : Nat → Value} (h : RTb w t R P) {x : Nat} (hx : x < 16) : w.cell? ⟨t, x, none⟩ = some (.int .i64 (rI R x)) := by
  have := Blk.cell h (i := x) (by omega)
  unfold rtv at this
  rw [if_pos hx] at this
  exact this
theorem RTb.par {w : World} {t : Nat} {R : Rk} {P : Nat → Value} (h : RTb w t R P) {x : Nat} (hx : x < 16) : w.cell? ⟨t, 16 + x, none⟩ = some (P x) := by
  have := Blk.cell h (i := 16 + x) (by omega)
  unfold rtv at this
  rw [if_neg (by omega), show 16 + x - 16 = x by omega] at this
  exact this
theorem RTb.lt {w : World} {t : Nat} {R : Rk} {P : Nat → Value} (h : RTb w t R P) : t < w.heap.size := Blk.lt h
theorem RTb.below {w w' : World} {t B : Nat} {R : Rk} {P : Nat → Value} (h : RTb w t R P) (j : Below B w w') (hb : t < B) : RTb w' t R P := below_blk j h hb
def RTre (w : World) (t : Nat) (R : Rk) (P : Nat → List Nat) : Prop := ∃ (A : Nat → Option Addr) (K : Nat → Nat), RTb w t R (fun x => .slice (A x) (P x).length (K x)) ∧ ∀ x, x < 16 → Rl w (t + 1) (A x) (K x) (P x)
theorem RTre.below {w w' : World} {t : Nat} {R : Rk} {P : Nat → List Nat} (h : RTre w t R P) (j : Below w.heap.size w w') : RTre w' t R P := by
  obtain ⟨A, K, h1, h2⟩ := h
  exact ⟨A, K, below_blk j h1 h1.lt, fun x hx => (h2 x hx).below j⟩
theorem RTre.lt {w : World} {t : Nat} {R : Rk} {P : Nat → List Nat} (h : RTre w t R P) : t < w.heap.size := by
  obtain ⟨A, K, h1, h2⟩ := h
  exact h1.lt
def ndB (x : Int) : Bool := decide (0 ≤ x ∧ x < 16)
theorem node_any (x : Int) (w : World) : Calls Try.prog 39 #[.int .i64 x] w fun r w' => r = .returned (.bool (ndB x)) ∧ w = w' := by
  by_cases h0 : 0 ≤ x
  · by_cases h1 : x < 16
    · have HD : Hid (ndB x = true) := Lib.hid (by simp [ndB, h0, h1])
      go_enter Try.func39, Try.ntmps39
      go_wp2_with fail
      go_ret
      exact ⟨by rw [HD.out]; rfl, rfl⟩
    · have HD : Hid (ndB x = false) := Lib.hid (by simp [ndB]; omega)
      have h2 : decide (x < 16) = false := by simp; omega
      clear h1
      go_enter Try.func39, Try.ntmps39
      go_wp2_with fail
      go_ret
      exact ⟨by rw [HD.out]; rfl, rfl⟩
  · have HD : Hid (ndB x = false) := Lib.hid (by simp [ndB]; omega)
    have h2 : x < 0 := by omega
    clear h0
    go_enter Try.func39, Try.ntmps39
    go_wp2_with fail
    go_ret
    exact ⟨by rw [HD.out]; rfl, rfl⟩
theorem ndB_nat {k : Nat} (h : k < 16) : ndB (k : Int) = true := decide_eq_true (by omega)
theorem rrank_any (t : Nat) (R : Rk) (P : Nat → Value) (x : Int) (w : World) (h : RTb w t R P) :
    Calls Try.prog 15 #[.pointer (some ⟨t, 0, none⟩), .int .i64 x] w fun r w' => r = .returned (.tuple #[.int .i64 (rankT R x), .bool (hasT R x)]) ∧ w = w' := by
  cases hn : ndB x with
  | false =>
    have HN := Lib.hid (node_any x w)
    rw [hn] at HN
    have HD : Hid (hasT R x = false ∧ rankT R x = 0) := Lib.hid (by
      unfold ndB at hn
      have : hasT R x = false := by unfold hasT; rw [hn]; rfl
      exact ⟨this, by unfold rankT; rw [this]; rfl⟩)
    clear hn h
    go_enter Try.func15, Try.ntmps15
    go_wp2_with fail
    refine HN.out.mono ?_
    rintro r w' ⟨rfl, rfl⟩
    go_wp2_with fail
    go_ret2
    exact ⟨by rw [HD.out.1, HD.out.2]; rfl, rfl⟩
  | true =>
    have HN := Lib.hid (node_any x w)
    rw [hn] at HN
    unfold ndB at hn
    rw [decide_eq_true_eq] at hn
    obtain ⟨k, rfl⟩ := Int.eq_ofNat_of_zero_le hn.1
    have hk : k < 16 := by omega
    have c := h.rank hk
    have g1 : (k : Int) < 16 := by omega
    cases hR : R k with
    | none =>
      have HD : Hid (hasT R (k : Int) = false ∧ rankT R (k : Int) = 0) := Lib.hid (by
        have : hasT R (k : Int) = false := by rw [hasT_nat R hk, hR]; rfl
        exact ⟨this, by unfold rankT; rw [this]; rfl⟩)
      have c1 : w.cell? ⟨t, k, none⟩ = some (.int .i64 (-1)) := by rw [c]; unfold rI; rw [hR]
      clear c hn hR h
      go_enter Try.func15, Try.ntmps15
      go_wp2_with fail
      refine HN.out.mono ?_
      rintro r w' ⟨rfl, rfl⟩
      go_wp2_with fail
      go_ret2
      exact ⟨by rw [HD.out.1, HD.out.2]; rfl, rfl⟩
    | some r =>
      have HD : Hid (hasT R (k : Int) = true ∧ rankT R (k : Int) = (r : Int)) := Lib.hid (by
        have : hasT R (k : Int) = true := by rw [hasT_nat R hk, hR]; rfl
        exact ⟨this, by unfold rankT; rw [this]; unfold rkI; rw [if_pos rfl, Int.toNat_natCast, hR]; rfl⟩)
      have c1 : w.cell? ⟨t, k, none⟩ = some (.int .i64 (r : Int)) := by rw [c]; unfold rI; rw [hR]
      clear c hn hR h
      go_enter Try.func15, Try.ntmps15
      go_wp2_with fail
      refine HN.out.mono ?_
      rintro r w' ⟨rfl, rfl⟩
      go_wp2_with fail
      go_ret2
      exact ⟨by rw [HD.out.1, HD.out.2]; rfl, rfl⟩
def rparsT (P : Nat → List Nat) (x : Int) : List Nat := if ndB x = true then P x.toNat else []
theorem rparents_any (t : Nat) (R : Rk) (P : Nat → List Nat) (x : Int) (w : World) (h : RTre w t R P) :
    Calls Try.prog 17 #[.pointer (some ⟨t, 0, none⟩), .int .i64 x] w fun r w' => ∃ A c lo, r = .returned (.slice A (rparsT P x).length c) ∧ Rl w' lo A c (rparsT P x) ∧ w = w' := by
  obtain ⟨A, K, hT, hR⟩ := h
  cases hn : ndB x with
  | false =>
    have HN := Lib.hid (node_any x w)
    rw [hn] at HN
    have HD : Hid (rparsT P x = []) := Lib.hid (by unfold rparsT; rw [hn]; rfl)
    clear hn hT hR
    go_enter Try.func17, Try.ntmps17
    go_wp2_with fail
    refine HN.out.mono ?_
    rintro r w' ⟨rfl, rfl⟩
    go_wp2_with fail
    go_ret
    exact ⟨none, 0, 0, by rw [HD.out]; rfl, by rw [HD.out]; exact Rl.nil _ _, rfl⟩
  | true =>
    have HN := Lib.hid (node_any x w)
    rw [hn] at HN
    have HD : Hid (rparsT P x = P x.toNat) := Lib.hid (by unfold rparsT; rw [hn]; rfl)
    unfold ndB at hn
    rw [decide_eq_true_eq] at hn
    obtain ⟨k, rfl⟩ := Int.eq_ofNat_of_zero_le hn.1
    have hk : k < 16 := by omega
    have c := hT.par hk
    have HR := Lib.hid (hR k hk)
    have g1 : (k : Int) < 16 := by omega
    clear hn hT hR
    go_enter Try.func17, Try.ntmps17
    go_wp2_with fail
    refine HN.out.mono ?_
    rintro r w' ⟨rfl, rfl⟩
    go_wp2_with fail
    go_ret
    exact ⟨A k, K k, t + 1, by rw [HD.out]; rfl, by rw [HD.out]; exact HR.out, rfl⟩
def l16 (S : Nat → Value) : List Value := [S 0, S 1, S 2, S 3, S 4, S 5, S 6, S 7, S 8, S 9, S 10, S 11, S 12, S 13, S 14, S 15]
theorem l16_at (S : Nat → Value) {k : Nat} {v : Value} (h : (l16 S)[k]? = some v) : k < 16 ∧ v = S k := by
  have hk : k < 16 := (List.getElem?_eq_some_iff.1 h).1
  refine ⟨hk, ?_⟩
  unfold l16 at h
  rcases (show k = 0 ∨ k = 1 ∨ k = 2 ∨ k = 3 ∨ k = 4 ∨ k = 5 ∨ k = 6 ∨ k = 7 ∨ k = 8 ∨ k = 9 ∨ k = 10 ∨ k = 11 ∨ k = 12 ∨ k = 13 ∨ k = 14 ∨ k = 15 by omega) with rfl | rfl | rfl | rfl | rfl | rfl | rfl | rfl | rfl | rfl | rfl | rfl | rfl | rfl | rfl | rfl <;> exact (Option.some.inj h).symm
theorem index_s (S : Nat → Option Addr) (L K : Nat → Nat) (k : Nat) (hk : k < 16) (w : World) : (Instr.index 61 (.agg (l16 (fun x => .slice (S x) (L x) (K x))).toArray) (.int .i64 (k : Int))).run Try.prog w = .ok (.slice (S k) (L k) (K k)) w := by
  rcases (show k = 0 ∨ k = 1 ∨ k = 2 ∨ k = 3 ∨ k = 4 ∨ k = 5 ∨ k = 6 ∨ k = 7 ∨ k = 8 ∨ k = 9 ∨ k = 10 ∨ k = 11 ∨ k = 12 ∨ k = 13 ∨ k = 14 ∨ k = 15 by omega) with rfl | rfl | rfl | rfl | rfl | rfl | rfl | rfl | rfl | rfl | rfl | rfl | rfl | rfl | rfl | rfl <;> kernel_rfl
theorem index_i (S : Nat → Int) (k : Nat) (hk : k < 16) (w : World) : (Instr.index 60 (.agg (l16 (fun x => .int .i64 (S x))).toArray) (.int .i64 (k : Int))).run Try.prog w = .ok (.int .i64 (S k)) w := by
  rcases (show k = 0 ∨ k = 1 ∨ k = 2 ∨ k = 3 ∨ k = 4 ∨ k = 5 ∨ k = 6 ∨ k = 7 ∨ k = 8 ∨ k = 9 ∨ k = 10 ∨ k = 11 ∨ k = 12 ∨ k = 13 ∨ k = 14 ∨ k = 15 by omega) with rfl | rfl | rfl | rfl | rfl | rfl | rfl | rfl | rfl | rfl | rfl | rfl | rfl | rfl | rfl | rfl <;> kernel_rfl
theorem RTb.pars {w : World} {t : Nat} {R : Rk} {P : Nat → Value} (h : RTb w t R P) : w.rangeAt t 16 (l16 P) := fun j v hv => by
  obtain ⟨hj, rfl⟩ := l16_at P hv
  exact h.par hj
theorem RTb.ranks {w : World} {t : Nat} {R : Rk} {P : Nat → Value} (h : RTb w t R P) : w.rangeAt t 0 (l16 fun x => .int .i64 (rI R x)) := fun j v hv => by
  obtain ⟨hj, rfl⟩ := l16_at _ hv
  rw [Nat.zero_add]
  exact h.rank hj
end Go.Proofs.Ythdgnnjnkeljmaa.Tr
