/-
  Package tree (chapter 21): a tree as ranks and rows; has, Rank.
-/
import Derived.Test.YtahcplddonipcaaGreatTrQ
import Derived.Test.YtahcplddonipcaaGreatBlk
import Derived.Test.YtahcplddonipcaaGreatTopoWalks
set_option maxRecDepth 100000
namespace Go.Proofs.YtahcplddonipcaaGreat.Tr
set_option linter.unusedVariables false
set_option linter.unusedSimpArgs false
open Go.RowKit Lb Tp

def rkI (R : Rk) (x : Nat) : Int := (((R x).getD 0 : Nat) : Int)
def tv (R : Rk) (P : Nat → Value) (j : Nat) : Value := if j % 3 = 0 then .bool (R (j / 3)).isSome else if j % 3 = 1 then .int .i64 (rkI R (j / 3)) else P (j / 3)
def Tb (w : World) (t : Nat) (R : Rk) (P : Nat → Value) : Prop := Blk w t 73 48 (tv R P)
theorem Tb.has {w : World} {t : Nat} {R : Rk} {P : Nat → Value} (h : Tb w t R P) {x : Nat} (hx : x < 16) : w.cell? ⟨t, x * 3, none⟩ = some (.bool (R x).isSome) := by
  have := Blk.cell h (i := x * 3) (by omega)
  unfold tv at this
  rw [if_pos (by omega), show x * 3 / 3 = x by omega] at this
  exact this
theorem Tb.rank {w : World} {t : Nat} {R : Rk} {P : Nat → Value} (h : Tb w t R P) {x : Nat} (hx : x < 16) : w.cell? ⟨t, x * 3 + 1, none⟩ = some (.int .i64 (rkI R x)) := by
  have := Blk.cell h (i := x * 3 + 1) (by omega)
  unfold tv at this
  rw [if_neg (by omega), if_pos (by omega), show (x * 3 + 1) / 3 = x by omega] at this
  exact this
theorem Tb.par {w : World} {t : Nat} {R : Rk} {P : Nat → Value} (h : Tb w t R P) {x : Nat} (hx : x < 16) : w.cell? ⟨t, x * 3 + 2, none⟩ = some (P x) := by
  have := Blk.cell h (i := x * 3 + 2) (by omega)
  unfold tv at this
  rw [if_neg (by omega), if_neg (by omega), show (x * 3 + 2) / 3 = x by omega] at this
  exact this
/-- A row of nodes, in memory from lo on. -/
structure Rl (w : World) (lo : Nat) (A : Option Addr) (c : Nat) (l : List Nat) : Prop where
  le : l.length ≤ c
  cap : c ≤ maxLen
  row : Row w A l.length (ln l)
  lo : 0 < l.length → ∀ q, A.map Addr.block = some q → lo ≤ q
theorem Rl.below {w w' : World} {lo c : Nat} {A : Option Addr} {l : List Nat} (h : Rl w lo A c l) (j : Below w.heap.size w w') : Rl w' lo A c l := ⟨h.le, h.cap, h.row.below j, h.lo⟩
theorem Rl.mono {w : World} {lo lo' c : Nat} {A : Option Addr} {l : List Nat} (h : Rl w lo A c l) (hl : lo' ≤ lo) : Rl w lo' A c l := ⟨h.le, h.cap, h.row, fun h0 q e => Nat.le_trans hl (h.lo h0 q e)⟩
theorem Rl.just {w w' : World} {lo c g : Nat} {A : Option Addr} {l : List Nat} (h : Rl w lo A c l) (j : Just g w w') (hg : g < lo) : Rl w' lo A c l := by
  refine ⟨h.le, h.cap, fun hn => ?_, h.lo⟩
  obtain ⟨q, off, e1, e2, e3⟩ := h.row hn
  have hq := h.lo hn q (by rw [e1]; rfl)
  refine ⟨q, off, e1, Nat.lt_of_lt_of_le e2 j.size, fun i hi => ?_⟩
  have := j.block q e2 (by omega)
  have h6 := e3 i hi
  unfold World.cell? at h6 ⊢
  rw [← h6, this]
theorem Rl.nil (w : World) (lo : Nat) : Rl w lo none 0 [] := ⟨Nat.le_refl _, Nat.zero_le _, fun h => absurd h (by simp), fun h => absurd h (by simp)⟩
theorem Rl.of {w : World} {base : Nat} {v : Value} {l : List Nat} (h : Mine w base 3 v l.length (ln l)) : ∃ A c, v = .slice A l.length c ∧ Rl w base A c l := by
  obtain ⟨a, c, rfl, h1, h2, h3⟩ := h.row
  refine ⟨a, c, rfl, h1, h2, h3, fun h0 q e => ?_⟩
  obtain ⟨b, cs, hv, hb, _⟩ := h.block h0
  injection hv with hv
  rw [hv] at e
  have e : b = q := by simpa using e
  omega
/-- A tree: ranks, and whom each may follow. -/
def Tre (w : World) (t : Nat) (R : Rk) (P : Nat → List Nat) : Prop := ∃ (A : Nat → Option Addr) (K : Nat → Nat), Tb w t R (fun x => .slice (A x) (P x).length (K x)) ∧ ∀ x, x < 16 → Rl w (t + 1) (A x) (K x) (P x)
theorem Tre.below {w w' : World} {t : Nat} {R : Rk} {P : Nat → List Nat} (h : Tre w t R P) (j : Below w.heap.size w w') : Tre w' t R P := by
  obtain ⟨A, K, h1, h2⟩ := h
  exact ⟨A, K, below_blk j h1 h1.lt, fun x hx => (h2 x hx).below j⟩
theorem Tre.lt {w : World} {t : Nat} {R : Rk} {P : Nat → List Nat} (h : Tre w t R P) : t < w.heap.size := by
  obtain ⟨A, K, h1, h2⟩ := h
  exact h1.lt
def hasT (R : Rk) (x : Int) : Bool := decide (0 ≤ x ∧ x < 16) && (R x.toNat).isSome
theorem hasT_nat (R : Rk) {x : Nat} (hx : x < 16) : hasT R (x : Int) = (R x).isSome := by
  unfold hasT
  rw [decide_eq_true (by omega), Bool.true_and]
  rfl
theorem hasT_yes {R : Rk} {x : Int} (h : hasT R x = true) : ∃ k r : Nat, x = (k : Int) ∧ k < 16 ∧ R k = some r := by
  unfold hasT at h
  rw [Bool.and_eq_true, decide_eq_true_eq] at h
  obtain ⟨r, hr⟩ := Option.isSome_iff_exists.1 h.2
  exact ⟨x.toNat, r, by omega, by omega, hr⟩
theorem has_any (t : Nat) (R : Rk) (P : Nat → Value) (x : Int) (w : World) (h : Tb w t R P) :
    Calls Tryz.prog 28 #[.pointer (some ⟨t, 0, none⟩), .int .i64 x] w fun r w' => r = .returned (.bool (hasT R x)) ∧ w = w' := by
  by_cases h0 : 0 ≤ x
  · by_cases h1 : x < 16
    · obtain ⟨k, rfl⟩ := Int.eq_ofNat_of_zero_le h0
      have hk : k < 16 := by omega
      have HD : Hid (hasT R (k : Int) = (R k).isSome) := Lib.hid (hasT_nat R hk)
      have c := h.has hk
      obtain ⟨q, hq⟩ : ∃ q, (R k).isSome = q := ⟨_, rfl⟩
      rw [hq] at c HD
      clear h hq
      go_enter Tryz.func28, Tryz.ntmps28
      go_wp2_with fail
      go_ret
      exact ⟨by rw [HD.out]; rfl, rfl⟩
    · have HD : Hid (hasT R x = false) := Lib.hid (by unfold hasT; rw [decide_eq_false (by omega)]; rfl)
      have g1 : decide (x < 16) = false := by simp; omega
      clear h h1
      go_enter Tryz.func28, Tryz.ntmps28
      go_wp2_with fail
      go_ret
      exact ⟨by rw [HD.out]; rfl, rfl⟩
  · have HD : Hid (hasT R x = false) := Lib.hid (by unfold hasT; rw [decide_eq_false (by omega)]; rfl)
    have g1 : decide (0 ≤ x) = false := by simp; omega
    have g2 : decide (x ≥ 0) = false := by simp; omega
    clear h h0
    go_enter Tryz.func28, Tryz.ntmps28
    go_wp2_with fail
    go_ret
    exact ⟨by rw [HD.out]; rfl, rfl⟩
theorem has_nil (x : Int) (w : World) :
    Calls Tryz.prog 28 #[.pointer none, .int .i64 x] w fun r w' => r = .returned (.bool false) ∧ w = w' := by
  go_enter Tryz.func28, Tryz.ntmps28
  go_wp2_with fail
  go_ret
  exact ⟨rfl, rfl⟩
end Go.Proofs.YtahcplddonipcaaGreat.Tr
