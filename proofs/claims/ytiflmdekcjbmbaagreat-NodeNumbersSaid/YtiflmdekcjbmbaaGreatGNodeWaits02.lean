/-
  Contracts of package clock (chapter 4) and of the reference's clock, over the block that the clock is. Contracts of package keep (chapter 15) and of the reference's keeper, over the block that the keeper is. Contracts of package dup (chapter 12). A window of 64 numbers as a row of bits: what is new, and what it has behind that. What the laws of package dup share: one contract of New for what is in its bounds, and what every program must know.
-/
import Derived.Test.YtiflmdekcjbmbaaGreatGNodeWaits01
import Derived.Deep.RegionWith
import Derived.Lib.Hide
import Derived.Test.YtiflmdekcjbmbaaGreatRows
set_option maxRecDepth 100000
namespace Go.Proofs.YtiflmdekcjbmbaaGreat.Ck
set_option linter.unusedVariables false
set_option linter.unusedSimpArgs false
open Go.RowKit Lb

/-- Block b is a clock: put to p, d millionths drifted since, s slots gone by. -/
def Clk (w : World) (b : Nat) (p d s : Int) : Prop := Own w b 172 #[.int .i64 p, .int .i64 d, .int .i64 s]
def Ref (w : World) (b : Nat) (p d s : Int) : Prop := Own w b 97 #[.int .i64 p, .int .i64 d, .int .i64 s]
def lim (n m : Int) : Int := min (max n (-m)) m
theorem lim_low (n m : Int) (h : 0 ≤ m) : -m ≤ lim n m := by unfold lim; omega
theorem lim_high (n m : Int) : lim n m ≤ m := by unfold lim; omega
/-- How far off. -/
def off (p d : Int) : Int := p + d / 1000000

theorem new_any (w : World) :
    Calls Tryz.prog 118 #[] w fun r w' => r = .returned (.pointer (some ⟨w.heap.size, 0, none⟩)) ∧ Clk w' w.heap.size 0 0 0 ∧ Below w.heap.size w w' ∧ w.heap.size < w'.heap.size := by
  go_enter Tryz.func118, Tryz.ntmps118
  go_wp2
  go_ret
  exact ⟨rfl, Own.new _ _ _, (Below.refl _ _).alloc (Nat.le_refl _) _, by simp⟩

theorem cut_int (n m : Int) (w : World) (h0 : 0 ≤ m) (h1 : m ≤ 1000000000000) :
    Calls Tryz.prog 125 #[.int .i64 n, .int .i64 m] w fun r w' => r = .returned (.int .i64 (lim n m)) ∧ w = w' := by
  go_enter Tryz.func125, Tryz.ntmps125
  go_wp2
  go_ret
  exact ⟨rfl, rfl⟩

theorem cut_long (n m : Int) (w : World) (h0 : 0 ≤ m) (h1 : m ≤ 1000000000000) :
    Calls Tryz.prog 173 #[.int .i64 n, .int .i64 m] w fun r w' => r = .returned (.int .i64 (lim n m)) ∧ w = w' := by
  go_enter Tryz.func173, Tryz.ntmps173
  go_wp2
  go_ret
  exact ⟨rfl, rfl⟩

theorem slot_any (b : Nat) (p d s n : Int) (w : World) (h : Clk w b p d s) (hs0 : 0 ≤ s) (hs1 : s < 1099511627776) (hd0 : -2000000000000000000 ≤ d) (hd1 : d ≤ 2000000000000000000) :
    Calls Tryz.prog 58 #[.pointer (some ⟨b, 0, none⟩), .int .i64 n] w fun r w' => r = .returned (.tuple #[]) ∧ Clk w' b p (d + lim n 100 * 10000) (s + 1) ∧ Just b w w' := by
  have c1 : w.cell? ⟨b, 1, none⟩ = some (.int .i64 d) := h.cell 1
  have c2 : w.cell? ⟨b, 2, none⟩ = some (.int .i64 s) := h.cell 2
  have f1 : w.frozen? ⟨b, 1, none⟩ = false := h.free 1
  have f2 : w.frozen? ⟨b, 2, none⟩ = false := h.free 2
  have hne : (s == 1099511627776) = false := by simp; omega
  have l0 := lim_low n 100 (by omega)
  have l1 := lim_high n 100
  go_enter Tryz.func58, Tryz.ntmps58
  go_wp2_with (go_at_call 125; refine (cut_int _ _ _ (by omega) (by omega)).mono ?_; rintro r w' ⟨rfl, rfl⟩)
  have e1 : IntKind.i64.wrap (lim n 100 * 10000) = lim n 100 * 10000 := IntWalk.i64_in _ (by omega)
  have e2 : IntKind.i64.wrap (d + lim n 100 * 10000) = d + lim n 100 * 10000 := IntWalk.i64_in _ (by omega)
  go_region_with (go_at_call 125; refine (cut_int _ _ _ (by omega) (by omega)).mono ?_; rintro r w' ⟨rfl, rfl⟩)
  all_goals
    go_end0
    exact ⟨rfl, Own.put (Own.put h 2 _) 1 _, ((Just.set b w 2 _).put 1 _).drewN 1⟩

theorem slot_full (b : Nat) (p d n : Int) (w : World) (h : Clk w b p d 1099511627776) :
    Calls Tryz.prog 58 #[.pointer (some ⟨b, 0, none⟩), .int .i64 n] w fun r w' => r = .returned (.tuple #[]) ∧ ∃ m, w.drewN m = w' := by
  have c2 : w.cell? ⟨b, 2, none⟩ = some (.int .i64 1099511627776) := h.cell 2
  go_enter Tryz.func58, Tryz.ntmps58
  go_wp2_with fail
  refine bodyPost_ret (results_none rfl _ _ _) rfl ?_
  exact ⟨rfl, 0, rfl⟩

theorem slot_nil (n : Int) (w : World) :
    Calls Tryz.prog 58 #[.pointer none, .int .i64 n] w fun r w' => r = .returned (.tuple #[]) ∧ w = w' := by
  go_enter Tryz.func58, Tryz.ntmps58
  go_wp2_with fail
  refine bodyPost_ret (results_none rfl _ _ _) rfl ?_
  exact ⟨rfl, rfl⟩

theorem put_any (b : Nat) (p d s n : Int) (w : World) (h : Clk w b p d s) :
    Calls Tryz.prog 107 #[.pointer (some ⟨b, 0, none⟩), .int .i64 n] w fun r w' => r = .returned (.tuple #[]) ∧ Clk w' b (lim n 1000000000000) 0 s ∧ Just b w w' := by
  have c0 : w.cell? ⟨b, 0, none⟩ = some (.int .i64 p) := h.cell 0
  have c1 : w.cell? ⟨b, 1, none⟩ = some (.int .i64 d) := h.cell 1
  have f0 : w.frozen? ⟨b, 0, none⟩ = false := h.free 0
  have f1 : w.frozen? ⟨b, 1, none⟩ = false := h.free 1
  go_enter Tryz.func107, Tryz.ntmps107
  go_wp2_with (go_at_call 173; refine (cut_long _ _ _ (by omega) (by omega)).mono ?_; rintro r w' ⟨rfl, rfl⟩)
  go_end0
  exact ⟨rfl, Own.put (Own.put h 0 _) 1 _, (Just.set b w 0 _).put 1 _⟩

theorem put_nil (n : Int) (w : World) :
    Calls Tryz.prog 107 #[.pointer none, .int .i64 n] w fun r w' => r = .returned (.tuple #[]) ∧ w = w' := by
  go_enter Tryz.func107, Tryz.ntmps107
  go_wp2_with fail
  go_end0
  exact ⟨rfl, rfl⟩

theorem move_any (b : Nat) (p d s n : Int) (w : World) (h : Clk w b p d s) (hp0 : -2000000000000 ≤ p) (hp1 : p ≤ 2000000000000) :
    Calls Tryz.prog 143 #[.pointer (some ⟨b, 0, none⟩), .int .i64 n] w fun r w' => r = .returned (.tuple #[]) ∧ Clk w' b (lim (p + lim n 1000000) 1000000000000) d s ∧ Just b w w' := by
  have c0 : w.cell? ⟨b, 0, none⟩ = some (.int .i64 p) := h.cell 0
  have f0 : w.frozen? ⟨b, 0, none⟩ = false := h.free 0
  have l0 := lim_low n 1000000 (by omega)
  have l1 := lim_high n 1000000
  go_enter Tryz.func143, Tryz.ntmps143
  go_wp2_with fail
  have e1 : IntKind.i64.wrap (p + lim n 1000000) = p + lim n 1000000 := IntWalk.i64_in _ (by omega)
  go_region_with (first
    | (go_at_call 125; refine (cut_int _ _ _ (by omega) (by omega)).mono ?_; rintro r w' ⟨rfl, rfl⟩)
    | (go_at_call 173; refine (cut_long _ _ _ (by omega) (by omega)).mono ?_; rintro r w' ⟨rfl, rfl⟩))
  all_goals
    go_end0
    exact ⟨rfl, Own.put h 0 _, (Just.set b w 0 _).drewN 1⟩

theorem move_nil (n : Int) (w : World) :
    Calls Tryz.prog 143 #[.pointer none, .int .i64 n] w fun r w' => r = .returned (.tuple #[]) ∧ w = w' := by
  go_enter Tryz.func143, Tryz.ntmps143
  go_wp2_with fail
  go_end0
  exact ⟨rfl, rfl⟩

theorem off_any (b : Nat) (p d s : Int) (w : World) (h : Clk w b p d s) (hp0 : -2000000000000 ≤ p) (hp1 : p ≤ 2000000000000) (hd0 : -4000000000000000000 ≤ d) (hd1 : d ≤ 4000000000000000000) :
    Calls Tryz.prog 106 #[.pointer (some ⟨b, 0, none⟩)] w fun r w' => r = .returned (.int .i64 (off p d)) ∧ ∃ m, w.drewN m = w' := by
  have c0 : w.cell? ⟨b, 0, none⟩ = some (.int .i64 p) := h.cell 0
  have c1 : w.cell? ⟨b, 1, none⟩ = some (.int .i64 d) := h.cell 1
  by_cases hd : 0 ≤ d
  · go_enter Tryz.func106, Tryz.ntmps106
    go_wp2_with fail
    go_ret
    exact ⟨rfl, 0, rfl⟩
  · have t1 := tdiv_low d 1000000 (by omega) (by omega)
    have t2 := tmod_low d 1000000 (by omega)
    by_cases hm : d.tmod 1000000 < 0
    · have b1 : -4000000000000 ≤ d.tdiv 1000000 := by omega
      have b2 : d.tdiv 1000000 ≤ 0 := by omega
      have hoff : off p d = p + (d.tdiv 1000000 - 1) := by unfold off; omega
      have H := Lib.hid hoff
      clear t1 t2 hoff
      go_enter Tryz.func106, Tryz.ntmps106
      go_wp2_with fail
      go_ret
      exact ⟨by rw [H.out]; first | rfl | (congr 2; omega), 0, rfl⟩
    · have b1 : -4000000000000 ≤ d.tdiv 1000000 := by omega
      have b2 : d.tdiv 1000000 ≤ 0 := by omega
      have hoff : off p d = p + d.tdiv 1000000 := by unfold off; omega
      have H := Lib.hid hoff
      clear t1 t2 hoff
      go_enter Tryz.func106, Tryz.ntmps106
      go_wp2_with fail
      go_ret
      exact ⟨by rw [H.out]; first | rfl | (congr 2; omega), 0, rfl⟩

theorem off_nil (w : World) :
    Calls Tryz.prog 106 #[.pointer none] w fun r w' => r = .returned (.int .i64 0) ∧ w = w' := by
  go_enter Tryz.func106, Tryz.ntmps106
  go_wp2_with fail
  go_ret
  exact ⟨rfl, rfl⟩

theorem slots_any (b : Nat) (p d s : Int) (w : World) (h : Clk w b p d s) :
    Calls Tryz.prog 62 #[.pointer (some ⟨b, 0, none⟩)] w fun r w' => r = .returned (.int .i64 s) ∧ w = w' := by
  have c2 : w.cell? ⟨b, 2, none⟩ = some (.int .i64 s) := h.cell 2
  go_enter Tryz.func62, Tryz.ntmps62
  go_wp2_with fail
  go_ret
  exact ⟨rfl, rfl⟩

theorem slots_nil (w : World) :
    Calls Tryz.prog 62 #[.pointer none] w fun r w' => r = .returned (.int .i64 0) ∧ w = w' := by
  go_enter Tryz.func62, Tryz.ntmps62
  go_wp2_with fail
  go_ret
  exact ⟨rfl, rfl⟩
end Go.Proofs.YtiflmdekcjbmbaaGreat.Ck
namespace Go.Proofs.YtiflmdekcjbmbaaGreat.Kp
set_option linter.unusedVariables false
set_option linter.unusedSimpArgs false
open Go.RowKit Lb

/-- Block b is a keeper: every e slots, s slots since the last sign. -/
def Kee (w : World) (b : Nat) (e s : Int) : Prop := Own w b 213 #[.int .i64 e, .int .i64 s]
def Ref (w : World) (b : Nat) (e s : Int) : Prop := Own w b 143 #[.int .i64 e, .int .i64 s]

theorem new_any (e : Int) (w : World) :
    Calls Tryz.prog 145 #[.int .i64 e] w fun r w' => r = .returned (.pointer (some ⟨w.heap.size, 0, none⟩)) ∧ Kee w' w.heap.size (min (max e 1) 10000) 0 ∧ Below w.heap.size w w' ∧ w.heap.size < w'.heap.size := by
  go_enter Tryz.func145, Tryz.ntmps145
  go_wp2
  go_ret
  exact ⟨rfl, Own.new _ _ _, (Below.refl _ _).alloc (Nat.le_refl _) _, by simp⟩

theorem rnew_any (e : Int) (w : World) :
    Calls Tryz.prog 83 #[.int .i64 e] w fun r w' => r = .returned (.pointer (some ⟨w.heap.size, 0, none⟩)) ∧ Ref w' w.heap.size (min (max e 1) 10000) 0 ∧ Below w.heap.size w w' ∧ w.heap.size < w'.heap.size := by
  go_enter Tryz.func83, Tryz.ntmps83
  go_wp2
  go_ret
  have h : max 1 (min e 10000) = min (max e 1) 10000 := by omega
  exact ⟨rfl, by rw [← h]; exact Own.new _ _ _, (Below.refl _ _).alloc (Nat.le_refl _) _, by simp⟩

theorem slot_any (b : Nat) (e s : Int) (w : World) (h : Kee w b e s) (hs0 : 0 ≤ s) (hs1 : s ≤ 1000000) :
    Calls Tryz.prog 97 #[.pointer (some ⟨b, 0, none⟩)] w fun r w' => r = .returned (.tuple #[]) ∧ Kee w' b e (min (s + 1) 1000000) ∧ Just b w w' := by
  have h1 : w.cell? ⟨b, 1, none⟩ = some (.int .i64 s) := h.cell 1
  have hf : w.frozen? ⟨b, 1, none⟩ = false := h.free 1
  go_enter Tryz.func97, Tryz.ntmps97
  go_wp2
  go_end0
  exact ⟨rfl, h.put 1 _, Just.set _ _ _ _⟩

theorem min_succ (s : Int) (h : s < 1000000) : min (s + 1) 1000000 = s + 1 := by omega
theorem slot_up (b : Nat) (e s : Int) (w : World) (h : Kee w b e s) (hs0 : 0 ≤ s) (hs1 : s < 1000000) :
    Calls Tryz.prog 97 #[.pointer (some ⟨b, 0, none⟩)] w fun r w' => r = .returned (.tuple #[]) ∧ Kee w' b e (s + 1) ∧ Just b w w' :=
  (slot_any b e s w h hs0 (Int.le_of_lt hs1)).mono fun _ _ ⟨h1, h2, h3⟩ => ⟨h1, by rw [min_succ s hs1] at h2; exact h2, h3⟩

theorem slot_nil (w : World) :
    Calls Tryz.prog 97 #[.pointer none] w fun r w' => r = .returned (.tuple #[]) ∧ w = w' := by
  go_enter Tryz.func97, Tryz.ntmps97
  go_wp2
  go_end0
  exact ⟨rfl, rfl⟩

theorem rslot_any (b : Nat) (e s : Int) (w : World) (h : Ref w b e s) (hs0 : 0 ≤ s) (hs1 : s ≤ 1000000) :
    Calls Tryz.prog 100 #[.pointer (some ⟨b, 0, none⟩)] w fun r w' => r = .returned (.tuple #[]) ∧ Ref w' b e (min (s + 1) 1000000) ∧ Just b w w' := by
  have h1 : w.cell? ⟨b, 1, none⟩ = some (.int .i64 s) := h.cell 1
  have hf : w.frozen? ⟨b, 1, none⟩ = false := h.free 1
  go_enter Tryz.func100, Tryz.ntmps100
  go_wp2
  go_end0
  exact ⟨rfl, h.put 1 _, Just.set _ _ _ _⟩

theorem rdue_any (b : Nat) (e s : Int) (w : World) (h : Ref w b e s) :
    Calls Tryz.prog 140 #[.pointer (some ⟨b, 0, none⟩)] w fun r w' => r = .returned (.bool (decide (e ≤ s))) ∧ ∃ n, w.drewN n = w' := by
  have h0 : w.cell? ⟨b, 0, none⟩ = some (.int .i64 e) := h.cell 0
  have h1 : w.cell? ⟨b, 1, none⟩ = some (.int .i64 s) := h.cell 1
  go_enter Tryz.func140, Tryz.ntmps140
  go_wp2
  go_quiet (fail)
  go_wp2
  go_ret
  exact ⟨rfl, _, rfl⟩

theorem heard_any (b : Nat) (e s : Int) (w : World) (h : Kee w b e s) :
    Calls Tryz.prog 146 #[.pointer (some ⟨b, 0, none⟩)] w fun r w' => r = .returned (.tuple #[]) ∧ Kee w' b e 0 ∧ Just b w w' := by
  have h1 : w.cell? ⟨b, 1, none⟩ = some (.int .i64 s) := h.cell 1
  have hf : w.frozen? ⟨b, 1, none⟩ = false := h.free 1
  go_enter Tryz.func146, Tryz.ntmps146
  go_wp2
  go_end0
  exact ⟨rfl, h.put 1 _, Just.set _ _ _ _⟩

theorem heard_nil (w : World) :
    Calls Tryz.prog 146 #[.pointer none] w fun r w' => r = .returned (.tuple #[]) ∧ w = w' := by
  go_enter Tryz.func146, Tryz.ntmps146
  go_wp2
  go_end0
  exact ⟨rfl, rfl⟩

theorem due_any (b : Nat) (e s : Int) (w : World) (h : Kee w b e s) :
    Calls Tryz.prog 131 #[.pointer (some ⟨b, 0, none⟩)] w fun r w' => r = .returned (.bool (decide (e ≤ s))) ∧ ∃ n, w.drewN n = w' := by
  have h0 : w.cell? ⟨b, 0, none⟩ = some (.int .i64 e) := h.cell 0
  have h1 : w.cell? ⟨b, 1, none⟩ = some (.int .i64 s) := h.cell 1
  go_enter Tryz.func131, Tryz.ntmps131
  go_wp2
  go_quiet (fail)
  go_wp2
  go_ret
  exact ⟨rfl, _, rfl⟩

theorem due_nil (w : World) :
    Calls Tryz.prog 131 #[.pointer none] w fun r w' => r = .returned (.bool false) ∧ ∃ n, w.drewN n = w' := by
  go_enter Tryz.func131, Tryz.ntmps131
  go_wp2
  go_quiet (fail)
  go_wp2
  go_ret
  exact ⟨rfl, _, rfl⟩



end Go.Proofs.YtiflmdekcjbmbaaGreat.Kp
set_option maxRecDepth 100000
namespace Go.Proofs.YtiflmdekcjbmbaaGreat.Dp
set_option linter.unusedVariables false
set_option linter.unusedSimpArgs false
open Go.RowKit Lb

/-- A window's cells: of node i the greatest number L i, and the row of bits S i. -/
def dv (L : Nat → Int) (S : Nat → Nat) (j : Nat) : Value := if j % 2 = 0 then .int .i64 (L (j / 2)) else .int .u64 (S (j / 2))
def Win (w : World) (b : Nat) (L : Nat → Int) (S : Nat → Nat) : Prop := Blk w b 227 32 (dv L S)
def upd {α : Type} (f : Nat → α) (i : Nat) (x : α) (j : Nat) : α := if j = i then x else f j
theorem dv_put (L : Nat → Int) (S : Nat → Nat) (i : Nat) (x : Int) (y : Nat) (j : Nat) : (if j = i * 2 + 1 then .int .u64 y else if j = i * 2 then .int .i64 x else dv L S j) = dv (upd L i x) (upd S i y) j := by
  unfold dv upd
  split
  · rename_i h; rw [if_neg (by omega), if_pos (by omega)]
  · split
    · rename_i h; rw [if_pos (by omega), if_pos (by omega)]
    · split
      · rw [if_neg (by omega)]
      · rw [if_neg (by omega)]

theorem dv_one (L : Nat → Int) (S : Nat → Nat) (i : Nat) (y : Nat) (j : Nat) : (if j = i * 2 + 1 then .int .u64 y else dv L S j) = dv L (upd S i y) j := by
  unfold dv upd
  split
  · rename_i h; rw [if_neg (by omega), if_pos (by omega)]
  · split
    · rfl
    · rw [if_neg (by omega)]

theorem new_any (w : World) :
    Calls Tryz.prog 120 #[] w fun r w' => r = .returned (.pointer (some ⟨w.heap.size, 0, none⟩)) ∧ Win w' w.heap.size (fun _ => 0) (fun _ => 0) ∧ Below w.heap.size w w' ∧ w.heap.size < w'.heap.size := by
  go_enter Tryz.func120, Tryz.ntmps120
  go_wp2
  go_ret
  refine ⟨rfl, Blk.of (Own.new _ _ _) (by simp) ?_, (Below.refl _ _).alloc (Nat.le_refl _) _, by simp⟩
  intro i hi
  unfold dv
  rcases (show i = 0 ∨ i = 1 ∨ i = 2 ∨ i = 3 ∨ i = 4 ∨ i = 5 ∨ i = 6 ∨ i = 7 ∨ i = 8 ∨ i = 9 ∨ i = 10 ∨ i = 11 ∨ i = 12 ∨ i = 13 ∨ i = 14 ∨ i = 15 ∨ i = 16 ∨ i = 17 ∨ i = 18 ∨ i = 19 ∨ i = 20 ∨ i = 21 ∨ i = 22 ∨ i = 23 ∨ i = 24 ∨ i = 25 ∨ i = 26 ∨ i = 27 ∨ i = 28 ∨ i = 29 ∨ i = 30 ∨ i = 31 by omega) with rfl | rfl | rfl | rfl | rfl | rfl | rfl | rfl | rfl | rfl | rfl | rfl | rfl | rfl | rfl | rfl | rfl | rfl | rfl | rfl | rfl | rfl | rfl | rfl | rfl | rfl | rfl | rfl | rfl | rfl | rfl | rfl <;> rfl

theorem isNode_yes (i : Nat) (w : World) (hi : i < 16) :
    Calls Tryz.prog 202 #[.int .i64 i] w fun r w' => r = .returned (.bool true) ∧ w = w' := by
  have hd : (i : Int) < 16 := by omega
  go_enter Tryz.func202, Tryz.ntmps202
  go_wp2_with fail
  go_ret
  exact ⟨rfl, rfl⟩
theorem isNode_no (n : Int) (w : World) (hn : ¬ (0 ≤ n ∧ n < 16)) :
    Calls Tryz.prog 202 #[.int .i64 n] w fun r w' => r = .returned (.bool false) ∧ w = w' := by
  by_cases h0 : 0 ≤ n
  · have hd : decide (n < 16) = false := by simp; omega
    clear hn
    go_enter Tryz.func202, Tryz.ntmps202
    go_wp2_with fail
    go_ret
    exact ⟨rfl, rfl⟩
  · clear hn
    have h0 : n < 0 := by omega
    go_enter Tryz.func202, Tryz.ntmps202
    go_wp2_with fail
    go_ret
    exact ⟨rfl, rfl⟩

theorem Win.c0 {w : World} {b i : Nat} {L : Nat → Int} {S : Nat → Nat} (h : Win w b L S) (hi : i < 16) : w.cell? ⟨b, i * 2, none⟩ = some (.int .i64 (L i)) := by
  rw [Blk.cell h (by omega)]; unfold dv; rw [if_pos (by omega)]; congr 3; omega
theorem Win.c1 {w : World} {b i : Nat} {L : Nat → Int} {S : Nat → Nat} (h : Win w b L S) (hi : i < 16) : w.cell? ⟨b, i * 2 + 1, none⟩ = some (.int .u64 (S i)) := by
  rw [Blk.cell h (by omega)]; unfold dv; rw [if_neg (by omega), show (i * 2 + 1) / 2 = i by omega]

theorem new_out (b : Nat) (L : Nat → Int) (S : Nat → Nat) (i n : Int) (w : World) (h : Win w b L S) (hi : ¬ (0 ≤ i ∧ i < 16 ∧ 0 ≤ n)) :
    Calls Tryz.prog 150 #[.pointer (some ⟨b, 0, none⟩), .int .i64 i, .int .i64 n] w fun r w' => r = .returned (.bool false) ∧ w = w' := by
  by_cases h0 : 0 ≤ i ∧ i < 16
  · have hn : n < 0 := by omega
    obtain ⟨k, rfl⟩ := Int.eq_ofNat_of_zero_le h0.1
    have hk : k < 16 := by omega
    clear hi h0
    go_enter Tryz.func150, Tryz.ntmps150
    go_wp2_with fail
    refine (isNode_yes _ _ hk).mono ?_
    rintro r w' ⟨rfl, rfl⟩
    go_wp2_with fail
    go_ret
    exact ⟨rfl, rfl⟩
  · clear hi
    go_enter Tryz.func150, Tryz.ntmps150
    go_wp2_with fail
    refine (isNode_no _ _ h0).mono ?_
    rintro r w' ⟨rfl, rfl⟩
    go_wp2_with fail
    go_ret
    exact ⟨rfl, rfl⟩

theorem new_fresh (b i : Nat) (L : Nat → Int) (S : Nat → Nat) (n : Int) (w : World) (h : Win w b L S) (hi : i < 16) (hn : 0 ≤ n) (hs : S i = 0) :
    Calls Tryz.prog 150 #[.pointer (some ⟨b, 0, none⟩), .int .i64 i, .int .i64 n] w fun r w' => r = .returned (.bool true) ∧ Win w' b (upd L i n) (upd S i 1) ∧ Just b w w' := by
  have c0 := Win.c0 h hi
  have c1 := Win.c1 h hi
  rw [hs] at c1
  have f0 : w.frozen? ⟨b, i * 2, none⟩ = false := Blk.free h _
  have f1 : w.frozen? ⟨b, i * 2 + 1, none⟩ = false := Blk.free h _
  clear hs
  go_enter Tryz.func150, Tryz.ntmps150
  go_wp2_with fail
  refine (isNode_yes _ _ hi).mono ?_
  rintro r w' ⟨rfl, rfl⟩
  go_wp2_with fail
  go_ret
  exact ⟨rfl, Blk.ext (Blk.put (Blk.put h _ _) _ _) (fun j _ => dv_put L S i n 1 j), (Just.set b w _ _).put _ _⟩

set_option maxHeartbeats 800000 in
theorem new_up (b i : Nat) (L : Nat → Int) (S : Nat → Nat) (n : Int) (w : World) (h : Win w b L S) (hi : i < 16) (hn : L i < n) (hl : 0 ≤ L i) (hm : n < 2 ^ 63) (hs : S i ≠ 0) (hs2 : S i < 18446744073709551616) :
    Calls Tryz.prog 150 #[.pointer (some ⟨b, 0, none⟩), .int .i64 i, .int .i64 n] w fun r w' => r = .returned (.bool true) ∧ Win w' b (upd L i n) (upd S i (S i <<< (n - L i).toNat % 2 ^ 64 ||| 1)) ∧ Just b w w' := by
  have c0 := Win.c0 h hi
  have c1 := Win.c1 h hi
  have f0 : w.frozen? ⟨b, i * 2, none⟩ = false := Blk.free h _
  have f1 : w.frozen? ⟨b, i * 2 + 1, none⟩ = false := Blk.free h _
  have hne : ((S i : Int) == 0) = false := by simp; exact hs
  have e1 : IntKind.i64.wrap (n - L i) = n - L i := IntWalk.i64_in _ (by omega)
  have e2 : IntKind.u64.wrap (n - L i) = n - L i := by rw [IntKind.wrap_u64]; omega
  have hd : 0 < n - L i := by omega
  have e3 : ∀ w, Sem.run Tryz.prog (Op.shift .shl .u64 (S i : Int) .u64 (n - L i)) w = .ok (.int .u64 ((S i <<< (n - L i).toNat % 2 ^ 64 : Nat) : Int)) w := run_shl _ _ _ rfl _ _ (by omega)
  have q1 : S i <<< (n - L i).toNat % 2 ^ 64 < 2 ^ 64 := Nat.mod_lt _ (by decide)
  have e4 : bits .or .u64 ((S i <<< (n - L i).toNat % 2 ^ 64 : Nat) : Int) 1 = ((S i <<< (n - L i).toNat % 2 ^ 64 ||| 1 : Nat) : Int) := u64_or_nat _ 1 q1 (by decide)
  generalize S i <<< (n - L i).toNat % 2 ^ 64 = u at *
  go_enter Tryz.func150, Tryz.ntmps150
  go_wp2_with fail
  refine (isNode_yes _ _ hi).mono ?_
  rintro r w' ⟨rfl, rfl⟩
  go_wp2_with fail
  go_region
  all_goals
    go_wp2_with fail
    go_ret
    exact ⟨rfl, Blk.ext (Blk.drewN (Blk.put (Blk.put h (i * 2) (.int .i64 n)) (i * 2 + 1) (.int .u64 ((u ||| 1 : Nat) : Int))) 1) (fun j _ => dv_put L S i n (u ||| 1) j), ((Just.set b w _ _).put _ _).drewN 1⟩

theorem new_old (b i : Nat) (L : Nat → Int) (S : Nat → Nat) (n : Int) (w : World) (h : Win w b L S) (hi : i < 16) (hn : 0 ≤ n) (hl : n + 64 ≤ L i) (hm : L i < 2 ^ 63) (hs : S i ≠ 0) :
    Calls Tryz.prog 150 #[.pointer (some ⟨b, 0, none⟩), .int .i64 i, .int .i64 n] w fun r w' => r = .returned (.bool false) ∧ ∃ m, w.drewN m = w' := by
  have c0 := Win.c0 h hi
  have c1 := Win.c1 h hi
  have hne : ((S i : Int) == 0) = false := by simp; exact hs
  have e1 : IntKind.i64.wrap (L i - n) = L i - n := IntWalk.i64_in _ (by omega)
  have hd : 64 ≤ L i - n := by omega
  have hd2 : ¬ L i < n := by omega
  go_enter Tryz.func150, Tryz.ntmps150
  go_wp2_with fail
  refine (isNode_yes _ _ hi).mono ?_
  rintro r w' ⟨rfl, rfl⟩
  go_wp2_with fail
  go_quiet (fail)
  go_wp2_with fail
  go_ret
  exact ⟨rfl, _, rfl⟩

theorem new_dup (b i : Nat) (L : Nat → Int) (S : Nat → Nat) (n : Int) (w : World) (h : Win w b L S) (hi : i < 16) (hn : 0 ≤ n) (hl : L i < n + 64) (hl2 : n ≤ L i) (hm : L i < 2 ^ 63) (hs : S i ≠ 0) (hs2 : S i < 18446744073709551616) (hb : (S i).testBit (L i - n).toNat = true) :
    Calls Tryz.prog 150 #[.pointer (some ⟨b, 0, none⟩), .int .i64 i, .int .i64 n] w fun r w' => r = .returned (.bool false) ∧ ∃ m, w.drewN m = w' := by
  have c0 := Win.c0 h hi
  have c1 := Win.c1 h hi
  have hne : ((S i : Int) == 0) = false := by simp; exact hs
  have e1 : IntKind.i64.wrap (L i - n) = L i - n := IntWalk.i64_in _ (by omega)
  have hd : decide (64 ≤ L i - n) = false := by simp; omega
  have hd2 : ¬ L i < n := by omega
  have q1 : S i >>> (L i - n).toNat < 18446744073709551616 := Nat.lt_of_le_of_lt (by rw [Nat.shiftRight_eq_div_pow]; exact Nat.div_le_self _ _) hs2
  have e4 : bits .and .u64 ((S i : Int) / 2 ^ (L i - n).toNat) 1 = 1 := by
    have := u64_and_nat _ 1 q1 (by decide)
    rw [shr_and_one, hb, Nat.shiftRight_eq_div_pow] at this
    simpa using this
  clear hb q1
  go_enter Tryz.func150, Tryz.ntmps150
  go_wp2_with fail
  refine (isNode_yes _ _ hi).mono ?_
  rintro r w' ⟨rfl, rfl⟩
  go_wp2_with fail
  go_quiet (fail)
  go_wp2_with fail
  go_ret
  exact ⟨rfl, _, rfl⟩

set_option maxHeartbeats 4000000 in
theorem new_late (b i : Nat) (L : Nat → Int) (S : Nat → Nat) (n : Int) (w : World) (h : Win w b L S) (hi : i < 16) (hn : 0 ≤ n) (hl : L i < n + 64) (hl2 : n ≤ L i) (hm : L i < 2 ^ 63) (hs : S i ≠ 0) (hs2 : S i < 18446744073709551616) (hb : (S i).testBit (L i - n).toNat = false) :
    Calls Tryz.prog 150 #[.pointer (some ⟨b, 0, none⟩), .int .i64 i, .int .i64 n] w fun r w' => r = .returned (.bool true) ∧ Win w' b L (upd S i (S i ||| 1 <<< (L i - n).toNat)) ∧ Just b w w' := by
  have c0 := Win.c0 h hi
  have c1 := Win.c1 h hi
  have f1 : w.frozen? ⟨b, i * 2 + 1, none⟩ = false := Blk.free h _
  have hne : ((S i : Int) == 0) = false := by simp; exact hs
  have e1 : IntKind.i64.wrap (L i - n) = L i - n := IntWalk.i64_in _ (by omega)
  have hd : decide (64 ≤ L i - n) = false := by simp; omega
  have hd2 : ¬ L i < n := by omega
  have q1 : S i >>> (L i - n).toNat < 18446744073709551616 := Nat.lt_of_le_of_lt (by rw [Nat.shiftRight_eq_div_pow]; exact Nat.div_le_self _ _) hs2
  have e4 : bits .and .u64 ((S i : Int) / 2 ^ (L i - n).toNat) 1 = 0 := by
    have := u64_and_nat _ 1 q1 (by decide)
    rw [shr_and_one, hb, Nat.shiftRight_eq_div_pow] at this
    simpa using this
  have q3 : (1 : Nat) <<< (L i - n).toNat < 18446744073709551616 := by
    rw [Nat.one_shiftLeft]
    exact Nat.lt_of_lt_of_le (Nat.pow_lt_pow_right (by decide) (show (L i - n).toNat < 64 by omega)) (by decide)
  have e6 : bits .or .u64 (S i : Int) (IntKind.u64.wrap (2 ^ (L i - n).toNat)) = ((S i ||| 1 <<< (L i - n).toNat : Nat) : Int) := by
    rw [← u64_or_nat _ _ hs2 q3]
    congr 1
    have := wrap_nat .u64 rfl (2 ^ (L i - n).toNat)
    rw [Nat.one_shiftLeft] at q3 ⊢
    rw [show 2 ^ IntKind.u64.bits = 18446744073709551616 from rfl, Nat.mod_eq_of_lt q3] at this
    rw [← this]
    simp
  clear hb q1
  go_enter Tryz.func150, Tryz.ntmps150
  go_wp2_with fail
  refine (isNode_yes _ _ hi).mono ?_
  rintro r w' ⟨rfl, rfl⟩
  go_wp2_with fail
  go_quiet (fail)
  go_wp2_with fail
  go_region
  all_goals
    go_wp2_with fail
    go_ret
    exact ⟨rfl, Blk.ext (Blk.put (Blk.drewN h _) (i * 2 + 1) (.int .u64 ((S i ||| 1 <<< (L i - n).toNat : Nat) : Int))) (fun j _ => dv_one L S i (S i ||| 1 <<< (L i - n).toNat) j), ((Just.refl b w).drewN _).put _ _⟩

end Go.Proofs.YtiflmdekcjbmbaaGreat.Dp
namespace Go.Proofs.YtiflmdekcjbmbaaGreat.Dp
set_option linter.unusedVariables false
set_option linter.unusedSimpArgs false

/-- Is n new, where l was the greatest and s the row? -/
def isN (l : Int) (s : Nat) (n : Int) : Bool := decide (s = 0 ∨ l < n ∨ (l - n < 64 ∧ s.testBit (l - n).toNat = false))
def nL (l : Int) (s : Nat) (n : Int) : Int := if s = 0 ∨ l < n then n else l
def nS (l : Int) (s : Nat) (n : Int) : Nat :=
  if s = 0 then 1 else if l < n then s <<< (n - l).toNat % 2 ^ 64 ||| 1 else if l - n < 64 ∧ s.testBit (l - n).toNat = false then s ||| 1 <<< (l - n).toNat else s
/-- Is x among what the row holds? -/
def has (l : Int) (s : Nat) (x : Int) : Prop := s ≠ 0 ∧ x ≤ l ∧ l - x < 64 ∧ s.testBit (l - x).toNat = true
def DGood (l : Int) (s : Nat) : Prop := s < 18446744073709551616 ∧ (s ≠ 0 → 0 ≤ l ∧ l < 9223372036854775808)

theorem good_zero (l : Int) : DGood l 0 := ⟨by decide, fun h => absurd rfl h⟩
theorem or_ne_left {a b : Nat} (h : a ≠ 0) : a ||| b ≠ 0 := by
  intro e
  have : (a ||| b) = 0 := e
  rw [Nat.or_eq_zero_iff] at this
  exact h this.1
theorem or_ne_right {a b : Nat} (h : b ≠ 0) : a ||| b ≠ 0 := by
  intro e
  have : (a ||| b) = 0 := e
  rw [Nat.or_eq_zero_iff] at this
  exact h this.2
theorem nS_ne (l : Int) (s : Nat) (n : Int) : nS l s n ≠ 0 := by
  unfold nS
  split
  · decide
  · split
    · exact or_ne_right (by decide)
    · split
      · rename_i h _ _; exact or_ne_left h
      · rename_i h _ _; exact h
theorem good_step {l : Int} {s : Nat} {n : Int} (h : DGood l s) (h0 : 0 ≤ n) (h1 : n < 9223372036854775808) : DGood (nL l s n) (nS l s n) := by
  obtain ⟨ha, hb⟩ := h
  refine ⟨?_, fun _ => ?_⟩
  · unfold nS
    split
    · decide
    · split
      · exact Nat.or_lt_two_pow (n := 64) (Nat.mod_lt _ (by decide)) (by decide)
      · split
        · rename_i _ _ hc
          refine Nat.or_lt_two_pow (n := 64) ha ?_
          rw [Nat.one_shiftLeft]
          exact Nat.pow_lt_pow_right (by decide) (by omega)
        · exact ha
  · unfold nL
    split
    · exact ⟨h0, h1⟩
    · rename_i hc
      exact hb (fun e => hc (.inl e))
theorem isN_iff {l : Int} {s : Nat} {n : Int} : isN l s n = true ↔ (s = 0 ∨ l < n ∨ (l - n < 64 ∧ ¬ has l s n)) := by
  unfold isN has
  simp only [decide_eq_true_eq]
  constructor
  · rintro (h | h | ⟨h1, h2⟩)
    · exact .inl h
    · exact .inr (.inl h)
    · refine .inr (.inr ⟨h1, fun h => ?_⟩)
      rw [h.2.2.2] at h2
      cases h2
  · rintro (h | h | ⟨h1, h2⟩)
    · exact .inl h
    · exact .inr (.inl h)
    · by_cases hs : s = 0
      · exact .inl hs
      · by_cases hl : l < n
        · exact .inr (.inl hl)
        · refine .inr (.inr ⟨h1, ?_⟩)
          cases hb : s.testBit (l - n).toNat
          · rfl
          · exact absurd ⟨hs, by omega, h1, hb⟩ h2
theorem isN_false {l : Int} {s : Nat} {n : Int} (h : isN l s n = false) : nL l s n = l ∧ nS l s n = s := by
  unfold isN at h
  simp only [decide_eq_false_iff_not] at h
  unfold nL nS
  refine ⟨if_neg (fun hc => h (by omega)), ?_⟩
  rw [if_neg (fun hc => h (.inl hc)), if_neg (fun hc => h (.inr (.inl hc))), if_neg (fun hc => h (.inr (.inr hc)))]
theorem has_new {l : Int} {s : Nat} {n x : Int} (h : isN l s n = true) : has (nL l s n) (nS l s n) x ↔ (x = n ∨ (has l s x ∧ nL l s n - x < 64)) := by
  unfold isN at h
  simp only [decide_eq_true_eq] at h
  by_cases hs : s = 0
  · subst hs
    have e1 : nL l 0 n = n := by unfold nL; simp
    have e2 : nS l 0 n = 1 := by unfold nS; simp
    rw [e1, e2]
    unfold has
    constructor
    · rintro ⟨_, h1, h2, h3⟩
      left
      have h3' : (n - x).toNat = 0 := by
        by_cases h4 : (n - x).toNat = 0
        · exact h4
        · rw [show (1 : Nat) = 2 ^ 0 from rfl, Nat.testBit_two_pow] at h3
          simp at h3
          omega
      omega
    · rintro (rfl | ⟨⟨h1, _⟩, _⟩)
      · exact ⟨by decide, by omega, by omega, by simp⟩
      · exact absurd rfl h1
  · by_cases hl : l < n
    · have e1 : nL l s n = n := by unfold nL; simp [hl]
      have e2 : nS l s n = s <<< (n - l).toNat % 2 ^ 64 ||| 1 := by unfold nS; rw [if_neg hs, if_pos hl]
      rw [e1]
      unfold has
      constructor
      · rintro ⟨_, h1, h2, h3⟩
        by_cases hx : x = n
        · exact .inl hx
        · right
          rw [e2, Nat.testBit_or, Nat.testBit_mod_two_pow, Nat.testBit_shiftLeft] at h3
          have h4 : Nat.testBit 1 (n - x).toNat = false := by
            rw [show (1 : Nat) = 2 ^ 0 from rfl, Nat.testBit_two_pow]
            simp
            omega
          rw [h4] at h3
          simp at h3
          obtain ⟨h5, h6, h7⟩ := h3
          refine ⟨⟨hs, by omega, by omega, ?_⟩, by omega⟩
          rw [show (l - x).toNat = (n - x).toNat - (n - l).toNat by omega]
          exact h7
      · rintro (rfl | ⟨⟨_, h1, h2, h3⟩, h4⟩)
        · refine ⟨nS_ne _ _ _, by omega, by omega, ?_⟩
          rw [e2, Nat.testBit_or]
          simp
        · refine ⟨nS_ne _ _ _, by omega, by omega, ?_⟩
          rw [e2, Nat.testBit_or, Nat.testBit_mod_two_pow, Nat.testBit_shiftLeft, show (n - x).toNat - (n - l).toNat = (l - x).toNat by omega, h3]
          simp
          left
          omega
    · have h' : l - n < 64 ∧ s.testBit (l - n).toNat = false := by
        rcases h with h | h | h
        · exact absurd h hs
        · exact absurd h hl
        · exact h
      have e1 : nL l s n = l := by unfold nL; rw [if_neg (by omega)]
      have e2 : nS l s n = s ||| 1 <<< (l - n).toNat := by unfold nS; rw [if_neg hs, if_neg hl, if_pos h']
      rw [e1]
      unfold has
      constructor
      · rintro ⟨_, h1, h2, h3⟩
        by_cases hx : x = n
        · exact .inl hx
        · right
          rw [e2, Nat.testBit_or, Nat.one_shiftLeft, Nat.testBit_two_pow] at h3
          have h4 : decide ((l - n).toNat = (l - x).toNat) = false := by simp; omega
          rw [h4] at h3
          simp at h3
          exact ⟨⟨hs, h1, h2, h3⟩, h2⟩
      · rintro (rfl | ⟨⟨_, h1, h2, h3⟩, h4⟩)
        · refine ⟨nS_ne _ _ _, by omega, by omega, ?_⟩
          rw [e2, Nat.testBit_or, Nat.one_shiftLeft, Nat.testBit_two_pow]
          simp
        · refine ⟨nS_ne _ _ _, h1, h2, ?_⟩
          rw [e2, Nat.testBit_or, h3]
          rfl
theorem has_le {l : Int} {s : Nat} {x : Int} (h : has l s x) : x ≤ l ∧ l - x < 64 := ⟨h.2.1, h.2.2.1⟩
theorem kn_iff {l : Int} {s : Nat} {x : Int} : isN l s x = false ↔ (s ≠ 0 ∧ x ≤ l ∧ (l - x < 64 → has l s x)) := by
  constructor
  · intro h
    have h' : ¬ isN l s x = true := by rw [h]; decide
    rw [isN_iff] at h'
    refine ⟨fun e => h' (.inl e), ?_, fun h1 => ?_⟩
    · by_cases hl : l < x
      · exact absurd (.inr (.inl hl)) h'
      · omega
    · by_cases h2 : has l s x
      · exact h2
      · exact absurd (.inr (.inr ⟨h1, h2⟩)) h'
  · rintro ⟨h1, h2, h3⟩
    cases h : isN l s x
    · rfl
    · rcases isN_iff.1 h with h4 | h4 | ⟨h4, h5⟩
      · exact absurd h4 h1
      · omega
      · exact absurd (h3 h4) h5
theorem nL_ge {l : Int} {s : Nat} {n : Int} (h : s ≠ 0) : l ≤ nL l s n := by
  unfold nL
  split
  · omega
  · omega
theorem nL_ge2 {l : Int} {s : Nat} {n : Int} : n ≤ nL l s n := by
  unfold nL
  split <;> omega
/-- What was known stays known. -/
theorem kn_step {l : Int} {s : Nat} {x : Int} (n : Int) (h : isN l s x = false) : isN (nL l s n) (nS l s n) x = false := by
  cases hn : isN l s n
  · obtain ⟨e1, e2⟩ := isN_false hn
    rw [e1, e2]
    exact h
  · obtain ⟨h1, h2, h3⟩ := kn_iff.1 h
    have := nL_ge (l := l) (n := n) h1
    refine kn_iff.2 ⟨nS_ne _ _ _, by omega, fun h4 => ?_⟩
    exact (has_new hn).2 (.inr ⟨h3 (by omega), h4⟩)
/-- What was asked for is known. -/
theorem kn_new (l : Int) (s : Nat) (n : Int) : isN (nL l s n) (nS l s n) n = false := by
  cases hn : isN l s n
  · obtain ⟨e1, e2⟩ := isN_false hn
    rw [e1, e2]
    exact hn
  · exact kn_iff.2 ⟨nS_ne _ _ _, nL_ge2, fun _ => (has_new hn).2 (.inl rfl)⟩
end Go.Proofs.YtiflmdekcjbmbaaGreat.Dp
set_option maxRecDepth 100000
namespace Go.Proofs.YtiflmdekcjbmbaaGreat.Dp
set_option linter.unusedVariables false
set_option linter.unusedSimpArgs false
open Go.RowKit Lb

theorem upd_self {α : Type} (f : Nat → α) (i : Nat) : upd f i (f i) = f := by
  funext j
  unfold upd
  split
  · rename_i h; rw [h]
  · rfl
theorem upd_same {α : Type} (f : Nat → α) (i : Nat) (x : α) : upd f i x i = x := by simp [upd]
theorem upd_other {α : Type} (f : Nat → α) {i j : Nat} (x : α) (h : j ≠ i) : upd f i x j = f j := by simp [upd, h]

theorem new_in (b i : Nat) (L : Nat → Int) (S : Nat → Nat) (n : Int) (w : World) (h : Win w b L S) (hi : i < 16) (hn : 0 ≤ n) (hm : n < 9223372036854775808) (hg : DGood (L i) (S i)) :
    Calls Tryz.prog 150 #[.pointer (some ⟨b, 0, none⟩), .int .i64 i, .int .i64 n] w fun r w' => r = .returned (.bool (isN (L i) (S i) n)) ∧ Win w' b (upd L i (nL (L i) (S i) n)) (upd S i (nS (L i) (S i) n)) ∧ Just b w w' := by
  obtain ⟨hs2, hl⟩ := hg
  by_cases hs : S i = 0
  · refine (new_fresh b i L S n w h hi hn hs).mono ?_
    rintro r w' ⟨rfl, k, j⟩
    refine ⟨by simp [isN, hs], ?_, j⟩
    simp only [nL, nS, hs]
    exact k
  · obtain ⟨l0, l1⟩ := hl hs
    by_cases h1 : L i < n
    · refine (new_up b i L S n w h hi h1 l0 (by omega) hs hs2).mono ?_
      rintro r w' ⟨rfl, k, j⟩
      refine ⟨by simp [isN, h1], ?_, j⟩
      have e1 : nL (L i) (S i) n = n := by simp [nL, h1]
      have e2 : nS (L i) (S i) n = S i <<< (n - L i).toNat % 2 ^ 64 ||| 1 := by unfold nS; rw [if_neg hs, if_pos h1]
      rw [e1, e2]
      exact k
    · have e1 : nL (L i) (S i) n = L i := by unfold nL; rw [if_neg (by omega)]
      rw [e1, upd_self]
      by_cases h2 : L i < n + 64
      · cases hb : (S i).testBit (L i - n).toNat
        · refine (new_late b i L S n w h hi hn h2 (by omega) (by omega) hs hs2 hb).mono ?_
          rintro r w' ⟨rfl, k, j⟩
          refine ⟨by simp [isN, hb]; omega, ?_, j⟩
          have e2 : nS (L i) (S i) n = S i ||| 1 <<< (L i - n).toNat := by unfold nS; rw [if_neg hs, if_neg h1, if_pos ⟨by omega, hb⟩]
          rw [e2]
          exact k
        · refine (new_dup b i L S n w h hi hn h2 (by omega) (by omega) hs hs2 hb).mono ?_
          rintro r w' ⟨rfl, m, rfl⟩
          have e2 : nS (L i) (S i) n = S i := by unfold nS; rw [if_neg hs, if_neg h1, if_neg (by rw [hb]; simp)]
          rw [e2, upd_self]
          exact ⟨by simp [isN, hb, hs, h1], Blk.drewN h m, (Just.refl _ _).drewN m⟩
      · refine (new_old b i L S n w h hi hn (by omega) (by omega) hs).mono ?_
        rintro r w' ⟨rfl, m, rfl⟩
        have e2 : nS (L i) (S i) n = S i := by unfold nS; rw [if_neg hs, if_neg h1, if_neg (by omega)]
        rw [e2, upd_self]
        refine ⟨?_, Blk.drewN h m, (Just.refl _ _).drewN m⟩
        simp [isN, hs]
        omega

/-- As new_in, with the answer known. -/
theorem new_is (b i : Nat) (L : Nat → Int) (S : Nat → Nat) (n : Int) (a : Bool) (w : World) (h : Win w b L S) (hi : i < 16) (hn : 0 ≤ n) (hm : n < 9223372036854775808) (hg : DGood (L i) (S i)) (ha : isN (L i) (S i) n = a) :
    Calls Tryz.prog 150 #[.pointer (some ⟨b, 0, none⟩), .int .i64 i, .int .i64 n] w fun r w' => r = .returned (.bool a) ∧ Win w' b (upd L i (nL (L i) (S i) n)) (upd S i (nS (L i) (S i) n)) ∧ Just b w w' := by
  rw [← ha]
  exact new_in b i L S n w h hi hn hm hg

theorem good_upd {L : Nat → Int} {S : Nat → Nat} (hg : ∀ i, DGood (L i) (S i)) (i : Nat) (n : Int) (hn : 0 ≤ n) (hm : n < 9223372036854775808) (j : Nat) :
    DGood (upd L i (nL (L i) (S i) n) j) (upd S i (nS (L i) (S i) n) j) := by
  by_cases h : j = i
  · subst h
    rw [upd_same, upd_same]
    exact good_step (hg j) hn hm
  · rw [upd_other L _ h, upd_other S _ h]
    exact hg j

end Go.Proofs.YtiflmdekcjbmbaaGreat.Dp
