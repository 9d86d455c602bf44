/-
  Contracts of package offset (chapter 13).
-/
import Derived.Test.YtjknppldpepcnaaBlk
import Derived.Lib.Hide
import Derived.Deep.RegionWith
set_option maxRecDepth 100000
namespace Go.Proofs.Ytjknppldpepcnaa.Of
set_option linter.unusedVariables false
open Go.RowKit Lb

/-- A proof's cells: how many nodes, and of node i whether it is known (K i), and by how much it can be off (B i). -/
def ov (N : Nat) (K : Nat → Bool) (B : Nat → Int) (j : Nat) : Value := if j = 0 then .int .i64 N else if j % 2 = 1 then .bool (K (j / 2)) else .int .i64 (B (j / 2 - 1))
def Prf (w : World) (b : Nat) (N : Nat) (K : Nat → Bool) (B : Nat → Int) : Prop := Blk w b 49 33 (ov N K B)
def upd {α : Type} (f : Nat → α) (i : Nat) (x : α) (j : Nat) : α := if j = i then x else f j
theorem upd_same {α : Type} (f : Nat → α) (i : Nat) (x : α) : upd f i x i = x := by simp [upd]
theorem upd_other {α : Type} (f : Nat → α) {i j : Nat} (x : α) (h : j ≠ i) : upd f i x j = f j := by simp [upd, h]
theorem ov_put (N : Nat) (K : Nat → Bool) (B : Nat → Int) (i : Nat) (x : Bool) (y : Int) (j : Nat) :
    (if j = 1 + i * 2 + 1 then .int .i64 y else if j = 1 + i * 2 then .bool x else ov N K B j) = ov N (upd K i x) (upd B i y) j := by
  unfold ov upd
  split
  · rename_i h; rw [if_neg (by omega), if_neg (by omega), if_pos (by omega)]
  · split
    · rename_i h; rw [if_neg (by omega), if_pos (by omega), if_pos (by omega)]
    · split
      · rfl
      · split
        · rw [if_neg (by omega)]
        · rw [if_neg (by omega)]
theorem ov_one (N : Nat) (K : Nat → Bool) (B : Nat → Int) (i : Nat) (y : Int) (j : Nat) :
    (if j = 1 + i * 2 + 1 then .int .i64 y else ov N K B j) = ov N K (upd B i y) j := by
  unfold ov upd
  split
  · rename_i h; rw [if_neg (by omega), if_neg (by omega), if_pos (by omega)]
  · split
    · rfl
    · split
      · rfl
      · rw [if_neg (by omega)]
theorem Prf.c0 {w : World} {b N : Nat} {K : Nat → Bool} {B : Nat → Int} (h : Prf w b N K B) : w.cell? ⟨b, 0, none⟩ = some (.int .i64 N) := by
  rw [Blk.cell h (by omega)]; rfl
theorem Prf.c1 {w : World} {b N i : Nat} {K : Nat → Bool} {B : Nat → Int} (h : Prf w b N K B) (hi : i < 16) : w.cell? ⟨b, 1 + i * 2, none⟩ = some (.bool (K i)) := by
  rw [Blk.cell h (by omega)]; unfold ov; rw [if_neg (by omega), if_pos (by omega), show (1 + i * 2) / 2 = i by omega]
theorem Prf.c2 {w : World} {b N i : Nat} {K : Nat → Bool} {B : Nat → Int} (h : Prf w b N K B) (hi : i < 16) : w.cell? ⟨b, 1 + i * 2 + 1, none⟩ = some (.int .i64 (B i)) := by
  rw [Blk.cell h (by omega)]; unfold ov; rw [if_neg (by omega), if_neg (by omega), show (1 + i * 2 + 1) / 2 - 1 = i by omega]

def lim (n l m : Int) : Int := min (max n l) m
theorem lim_low (n l m : Int) (h : l ≤ m) : l ≤ lim n l m := by unfold lim; omega
theorem lim_high (n l m : Int) : lim n l m ≤ m := by unfold lim; omega

theorem cut_int (n l m : Int) (w : World) (h : l ≤ m) :
    Calls Try.prog 24 #[.int .i64 n, .int .i64 l, .int .i64 m] w fun r w' => r = .returned (.int .i64 (lim n l m)) ∧ w = w' := by
  go_enter Try.func24, Try.ntmps24
  go_wp2
  go_ret
  exact ⟨rfl, rfl⟩
theorem cut_long (n l m : Int) (w : World) (h : l ≤ m) :
    Calls Try.prog 25 #[.int .i64 n, .int .i64 l, .int .i64 m] w fun r w' => r = .returned (.int .i64 (lim n l m)) ∧ w = w' := by
  go_enter Try.func25, Try.ntmps25
  go_wp2
  go_ret
  exact ⟨rfl, rfl⟩

theorem new_any (n : Int) (w : World) :
    Calls Try.prog 14 #[.int .i64 n] w fun r w' => r = .returned (.pointer (some ⟨w.heap.size, 0, none⟩)) ∧ Prf w' w.heap.size (lim n 1 16).toNat (upd (fun _ => false) 0 true) (fun _ => 0) ∧ Below w.heap.size w w' ∧ w.heap.size < w'.heap.size := by
  have l1 := lim_low n 1 16 (by omega)
  go_enter Try.func14, Try.ntmps14
  go_wp2_with (go_at_call 24; refine (cut_int _ _ _ _ (by omega)).mono ?_; rintro r w' ⟨rfl, rfl⟩)
  go_ret
  refine ⟨rfl, Blk.of (Own.new _ _ _) (by simp) ?_, (Below.refl _ _).alloc (Nat.le_refl _) _, by simp⟩
  intro i hi
  have hl : ((lim n 1 16).toNat : Int) = lim n 1 16 := by omega
  unfold ov
  rw [hl]
  clear hl
  rcases (show i = 0 ∨ i = 1 ∨ i = 2 ∨ i = 3 ∨ i = 4 ∨ i = 5 ∨ i = 6 ∨ i = 7 ∨ i = 8 ∨ i = 9 ∨ i = 10 ∨ i = 11 ∨ i = 12 ∨ i = 13 ∨ i = 14 ∨ i = 15 ∨ i = 16 ∨ i = 17 ∨ i = 18 ∨ i = 19 ∨ i = 20 ∨ i = 21 ∨ i = 22 ∨ i = 23 ∨ i = 24 ∨ i = 25 ∨ i = 26 ∨ i = 27 ∨ i = 28 ∨ i = 29 ∨ i = 30 ∨ i = 31 ∨ i = 32 by omega) with rfl | rfl | rfl | rfl | rfl | rfl | rfl | rfl | rfl | rfl | rfl | rfl | rfl | rfl | rfl | rfl | rfl | rfl | rfl | rfl | rfl | rfl | rfl | rfl | rfl | rfl | rfl | rfl | rfl | rfl | rfl | rfl | rfl <;> rfl

theorem has_yes (b N i : Nat) (K : Nat → Bool) (B : Nat → Int) (w : World) (h : Prf w b N K B) (hi : i < N) :
    Calls Try.prog 27 #[.pointer (some ⟨b, 0, none⟩), .int .i64 i] w fun r w' => r = .returned (.bool true) ∧ w = w' := by
  have c0 := h.c0
  have hd : (i : Int) < (N : Int) := by omega
  go_enter Try.func27, Try.ntmps27
  go_wp2_with fail
  go_ret
  exact ⟨rfl, rfl⟩
theorem has_no (b N : Nat) (i : Int) (K : Nat → Bool) (B : Nat → Int) (w : World) (h : Prf w b N K B) (hi : ¬ (0 ≤ i ∧ i < N)) :
    Calls Try.prog 27 #[.pointer (some ⟨b, 0, none⟩), .int .i64 i] w fun r w' => r = .returned (.bool false) ∧ w = w' := by
  have c0 := h.c0
  by_cases h0 : 0 ≤ i
  · have hd : decide (i < (N : Int)) = false := by simp; omega
    clear hi
    go_enter Try.func27, Try.ntmps27
    go_wp2_with fail
    go_ret
    exact ⟨rfl, rfl⟩
  · clear hi
    have h0 : i < 0 := by omega
    go_enter Try.func27, Try.ntmps27
    go_wp2_with fail
    go_ret
    exact ⟨rfl, rfl⟩

theorem bound_in (b N i : Nat) (K : Nat → Bool) (B : Nat → Int) (w : World) (h : Prf w b N K B) (hi : i < N) (hN : N ≤ 16) :
    Calls Try.prog 22 #[.pointer (some ⟨b, 0, none⟩), .int .i64 i] w fun r w' => r = .returned (.tuple #[.int .i64 (B i), .bool (K i)]) ∧ ∃ m, w.drewN m = w' := by
  have c1 := h.c1 (i := i) (by omega)
  have c2 := h.c2 (i := i) (by omega)
  go_enter Try.func22, Try.ntmps22
  go_wp2_with fail
  refine (has_yes _ _ _ _ _ _ h hi).mono ?_
  rintro r w' ⟨rfl, rfl⟩
  go_wp2_with fail
  go_quiet (fail)
  go_wp2_with fail
  refine bodyPost_ret (results_tmp2 rfl _ _ _) rfl ?_
  exact ⟨rfl, _, rfl⟩
theorem bound_out (b N : Nat) (i : Int) (K : Nat → Bool) (B : Nat → Int) (w : World) (h : Prf w b N K B) (hi : ¬ (0 ≤ i ∧ i < N)) :
    Calls Try.prog 22 #[.pointer (some ⟨b, 0, none⟩), .int .i64 i] w fun r w' => r = .returned (.tuple #[.int .i64 0, .bool false]) ∧ w = w' := by
  go_enter Try.func22, Try.ntmps22
  go_wp2_with fail
  refine (has_no _ _ _ _ _ _ h hi).mono ?_
  rintro r w' ⟨rfl, rfl⟩
  go_wp2_with fail
  refine bodyPost_ret (results_tmp2 rfl _ _ _) rfl ?_
  exact ⟨rfl, rfl⟩

theorem lose_out (b N : Nat) (i : Int) (K : Nat → Bool) (B : Nat → Int) (w : World) (h : Prf w b N K B) (hi : ¬ (0 < i ∧ i < N)) (hN : 0 < N) :
    Calls Try.prog 18 #[.pointer (some ⟨b, 0, none⟩), .int .i64 i] w fun r w' => r = .returned (.tuple #[]) ∧ w = w' := by
  by_cases h0 : i = 0
  · subst h0
    clear hi
    go_enter Try.func18, Try.ntmps18
    go_wp2_with fail
    refine (has_yes b N 0 _ _ _ h hN).mono ?_
    rintro r w' ⟨rfl, rfl⟩
    go_wp2_with fail
    go_end0
    exact ⟨rfl, rfl⟩
  · go_enter Try.func18, Try.ntmps18
    go_wp2_with fail
    refine (has_no b N i _ _ _ h (by omega)).mono ?_
    rintro r w' ⟨rfl, rfl⟩
    go_wp2_with fail
    go_end0
    exact ⟨rfl, rfl⟩
theorem lose_in (b N i : Nat) (K : Nat → Bool) (B : Nat → Int) (w : World) (h : Prf w b N K B) (h0 : 0 < i) (hi : i < N) (hN : N ≤ 16) :
    Calls Try.prog 18 #[.pointer (some ⟨b, 0, none⟩), .int .i64 i] w fun r w' => r = .returned (.tuple #[]) ∧ Prf w' b N (upd K i false) (upd B i 0) ∧ Just b w w' := by
  have c1 := h.c1 (i := i) (by omega)
  have c2 := h.c2 (i := i) (by omega)
  have f1 : w.frozen? ⟨b, 1 + i * 2, none⟩ = false := Blk.free h _
  have f2 : w.frozen? ⟨b, 1 + i * 2 + 1, none⟩ = false := Blk.free h _
  have hne : ((i : Int) == 0) = false := by simp; omega
  have hne2 : ((i : Int) != 0) = true := by simp; omega
  go_enter Try.func18, Try.ntmps18
  go_wp2_with fail
  refine (has_yes _ _ _ _ _ _ h hi).mono ?_
  rintro r w' ⟨rfl, rfl⟩
  go_wp2_with fail
  go_end0
  exact ⟨rfl, Blk.ext (Blk.put (Blk.put h (1 + i * 2) (.bool false)) (1 + i * 2 + 1) (.int .i64 0)) (fun j _ => ov_put N K B i false 0 j), (Just.set b w _ _).put _ _⟩

theorem heard_off (b N : Nat) (i y e : Int) (K : Nat → Bool) (B : Nat → Int) (w : World) (h : Prf w b N K B) (hN : 0 < N) (hi : ¬ (0 < i ∧ i < N ∧ 0 ≤ y ∧ y < N ∧ i ≠ y)) :
    Calls Try.prog 20 #[.pointer (some ⟨b, 0, none⟩), .int .i64 i, .int .i64 y, .int .i64 e] w fun r w' => r = .returned (.tuple #[]) ∧ w = w' := by
  by_cases a1 : 0 ≤ i ∧ i < N
  · obtain ⟨i, rfl⟩ := Int.eq_ofNat_of_zero_le a1.1
    by_cases a2 : 0 ≤ y ∧ y < N
    · obtain ⟨y, rfl⟩ := Int.eq_ofNat_of_zero_le a2.1
      by_cases a3 : i = 0
      · subst a3
        clear hi
        go_enter Try.func20, Try.ntmps20
        go_wp2_with fail
        refine (has_yes b N 0 _ _ _ h hN).mono ?_
        rintro r w' ⟨rfl, rfl⟩
        go_wp2_with fail
        refine (has_yes b N y _ _ _ h (by omega)).mono ?_
        rintro r w' ⟨rfl, rfl⟩
        go_wp2_with fail
        refine bodyPost_ret (results_none rfl _ _ _) rfl ?_
        exact ⟨rfl, rfl⟩
      · have a4 : i = y := by omega
        subst a4
        have hne : ((i : Int) == 0) = false := by simp; exact a3
        clear hi
        go_enter Try.func20, Try.ntmps20
        go_wp2_with fail
        refine (has_yes b N i _ _ _ h (by omega)).mono ?_
        rintro r w' ⟨rfl, rfl⟩
        go_wp2_with fail
        refine (has_yes b N i _ _ _ h (by omega)).mono ?_
        rintro r w' ⟨rfl, rfl⟩
        go_wp2_with fail
        refine bodyPost_ret (results_none rfl _ _ _) rfl ?_
        exact ⟨rfl, rfl⟩
    · clear hi
      go_enter Try.func20, Try.ntmps20
      go_wp2_with fail
      refine (has_yes b N i _ _ _ h (by omega)).mono ?_
      rintro r w' ⟨rfl, rfl⟩
      go_wp2_with fail
      refine (has_no b N y _ _ _ h a2).mono ?_
      rintro r w' ⟨rfl, rfl⟩
      go_wp2_with fail
      refine bodyPost_ret (results_none rfl _ _ _) rfl ?_
      exact ⟨rfl, rfl⟩
  · clear hi
    go_enter Try.func20, Try.ntmps20
    go_wp2_with fail
    refine (has_no b N i _ _ _ h a1).mono ?_
    rintro r w' ⟨rfl, rfl⟩
    go_wp2_with fail
    refine bodyPost_ret (results_none rfl _ _ _) rfl ?_
    exact ⟨rfl, rfl⟩

set_option maxHeartbeats 1000000 in
theorem heard_none (b N i y : Nat) (e : Int) (K : Nat → Bool) (B : Nat → Int) (w : World) (h : Prf w b N K B) (hN : N ≤ 16) (h0 : 0 < i) (hi : i < N) (hy : y < N) (hiy : i ≠ y) (hK : K y = false) :
    Calls Try.prog 20 #[.pointer (some ⟨b, 0, none⟩), .int .i64 i, .int .i64 y, .int .i64 e] w fun r w' => r = .returned (.tuple #[]) ∧ Prf w' b N (upd K i false) (upd B i 0) ∧ Just b w w' := by
  have c1 := h.c1 (i := i) (by omega)
  have c2 := h.c2 (i := i) (by omega)
  have d1 := h.c1 (i := y) (by omega)
  have d2 := h.c2 (i := y) (by omega)
  rw [hK] at d1
  have f1 : w.frozen? ⟨b, 1 + i * 2, none⟩ = false := Blk.free h _
  have f2 : w.frozen? ⟨b, 1 + i * 2 + 1, none⟩ = false := Blk.free h _
  have hne : ((i : Int) == 0) = false := by simp; omega
  have hne2 : ((i : Int) == (y : Int)) = false := by simp; omega
  clear hK
  go_enter Try.func20, Try.ntmps20
  go_wp2_with fail
  refine (has_yes b N i _ _ _ h hi).mono ?_
  rintro r w' ⟨rfl, rfl⟩
  go_wp2_with fail
  refine (has_yes b N y _ _ _ h hy).mono ?_
  rintro r w' ⟨rfl, rfl⟩
  go_wp2_with fail
  go_end0
  exact ⟨rfl, Blk.ext (Blk.alloc (Blk.put (Blk.put h (1 + i * 2) (.bool false)) (1 + i * 2 + 1) (.int .i64 0)) _) (fun j _ => ov_put N K B i false 0 j), ((Just.set b w _ _).put _ _).alloc _⟩

set_option maxHeartbeats 1000000 in
theorem heard_some (b N i y : Nat) (e : Int) (K : Nat → Bool) (B : Nat → Int) (w : World) (h : Prf w b N K B) (hN : N ≤ 16) (h0 : 0 < i) (hi : i < N) (hy : y < N) (hiy : i ≠ y) (hK : K y = true) (hb0 : 0 ≤ B y) (hb1 : B y ≤ 4000000000000) :
    Calls Try.prog 20 #[.pointer (some ⟨b, 0, none⟩), .int .i64 i, .int .i64 y, .int .i64 e] w fun r w' => r = .returned (.tuple #[]) ∧ Prf w' b N (upd K i true) (upd B i (B y + lim e 0 1000)) ∧ Just b w w' := by
  have c1 := h.c1 (i := i) (by omega)
  have c2 := h.c2 (i := i) (by omega)
  have d1 := h.c1 (i := y) (by omega)
  have d2 := h.c2 (i := y) (by omega)
  rw [hK] at d1
  have f1 : w.frozen? ⟨b, 1 + i * 2, none⟩ = false := Blk.free h _
  have f2 : w.frozen? ⟨b, 1 + i * 2 + 1, none⟩ = false := Blk.free h _
  have hne : ((i : Int) == 0) = false := by simp; omega
  have hne2 : ((i : Int) == (y : Int)) = false := by simp; omega
  have l0 := lim_low e 0 1000 (by omega)
  have l1 := lim_high e 0 1000
  have e1 : IntKind.i64.wrap (B y + lim e 0 1000) = B y + lim e 0 1000 := IntWalk.i64_in _ (by omega)
  clear hK
  go_enter Try.func20, Try.ntmps20
  go_wp2_with fail
  refine (has_yes b N i _ _ _ h hi).mono ?_
  rintro r w' ⟨rfl, rfl⟩
  go_wp2_with fail
  refine (has_yes b N y _ _ _ h hy).mono ?_
  rintro r w' ⟨rfl, rfl⟩
  go_wp2_with fail
  have p1 := Blk.alloc (Blk.put (Blk.put h (1 + i * 2) (.bool false)) (1 + i * 2 + 1) (.int .i64 0)) (.cells #[.bool true, .int .i64 (B y)] 46)
  have p2 : Prf _ b N (upd K i false) (upd B i 0) := Blk.ext p1 (fun j _ => ov_put N K B i false 0 j)
  have j2 := ((Just.set b w (1 + i * 2) (.bool false)).put (1 + i * 2 + 1) (.int .i64 0)).alloc (.cells #[.bool true, .int .i64 (B y)] 46)
  have z2 : w.heap.size < (((w.setCell ⟨b, 1 + i * 2, none⟩ (.bool false)).setCell ⟨b, 1 + i * 2 + 1, none⟩ (.int .i64 0)).alloc (.cells #[.bool true, .int .i64 (B y)] 46)).heap.size := by simp
  have x1 : (((w.setCell ⟨b, 1 + i * 2, none⟩ (.bool false)).setCell ⟨b, 1 + i * 2 + 1, none⟩ (.int .i64 0)).alloc (.cells #[.bool true, .int .i64 (B y)] 46)).cell? ⟨w.heap.size, 1, none⟩ = some (.int .i64 (B y)) := by
    have := Own.cell (Own.new ((w.setCell ⟨b, 1 + i * 2, none⟩ (.bool false)).setCell ⟨b, 1 + i * 2 + 1, none⟩ (.int .i64 0)) 46 #[.bool true, .int .i64 (B y)]) 1
    simpa using this
  have hsz : ((w.setCell ⟨b, 1 + i * 2, none⟩ (.bool false)).setCell ⟨b, 1 + i * 2 + 1, none⟩ (.int .i64 0)).heap.size = w.heap.size := by simp
  generalize (((w.setCell ⟨b, 1 + i * 2, none⟩ (.bool false)).setCell ⟨b, 1 + i * 2 + 1, none⟩ (.int .i64 0)).alloc (.cells #[.bool true, .int .i64 (B y)] 46)) = w2 at *
  have c1' := p2.c1 (i := i) (by omega)
  have c2' := p2.c2 (i := i) (by omega)
  have f1' : w2.frozen? ⟨b, 1 + i * 2, none⟩ = false := Blk.free p2 _
  have f2' : w2.frozen? ⟨b, 1 + i * 2 + 1, none⟩ = false := Blk.free p2 _
  clear c1 c2 d1 d2 f1 f2 hsz
  go_region_with (go_at_call 24; refine (cut_int _ _ _ _ (by omega)).mono ?_; rintro r w' ⟨rfl, rfl⟩)
  all_goals
    go_end0
    refine ⟨rfl, ?_, ((j2.put _ _).put _ _).drewN 1⟩
    refine Blk.ext (Blk.drewN (Blk.put (Blk.put p2 (1 + i * 2) (.bool true)) (1 + i * 2 + 1) (.int .i64 (B y + lim e 0 1000))) 1) (fun j _ => ?_)
    rw [ov_put]
    congr 1
    · funext q; unfold upd; split <;> rfl
    · funext q; unfold upd; split <;> rfl

def tick (N : Nat) (K : Nat → Bool) (B : Nat → Int) (k j : Nat) : Int := if 1 ≤ j ∧ j < k ∧ K j = true ∧ B j < 1000000000000 then B j + 1 else B j
set_option maxHeartbeats 1000000 in
theorem slot_any (b N : Nat) (K : Nat → Bool) (B : Nat → Int) (w : World) (h : Prf w b N K B) (h0 : 0 < N) (hN : N ≤ 16) (hB : ∀ i, -1000000000000 ≤ B i) :
    Calls Try.prog 16 #[.pointer (some ⟨b, 0, none⟩)] w fun r w' => r = .returned (.tuple #[]) ∧ Prf w' b N K (tick N K B N) ∧ Just b w w' := by
  have HB := Lib.hid hB
  clear hB
  go_enter Try.func16, Try.ntmps16
  go_wp2_with fail
  go_loopw [2] (fun i wr => ∃ k : Nat, i = .int .i64 k ∧ 1 ≤ k ∧ k ≤ N ∧ Prf wr b N K (tick N K B k) ∧ Just b w wr) (fun i _ => N - (intOf i).toNat)
  case atStart => exact ⟨1, rfl, by omega, by omega, Blk.ext h (fun j _ => by
    have : tick N K B 1 = B := by funext q; unfold tick; rw [if_neg (by omega)]
    rw [this]), Just.refl _ _⟩
  case round =>
    obtain ⟨k, rfl, hk1, hk, kk, jj⟩ := hrel
    have c0 := kk.c0
    by_cases hlt : k < N
    · have c1 := kk.c1 (i := k) (by omega)
      have c2 := kk.c2 (i := k) (by omega)
      rw [show tick N K B k k = B k by unfold tick; rw [if_neg (by omega)]] at c2
      have f2 : wr.frozen? ⟨b, 1 + k * 2 + 1, none⟩ = false := Blk.free kk _
      have hb := HB.out k
      by_cases hK : K k = true ∧ B k < 1000000000000
      · obtain ⟨hK, hb1⟩ := hK
        rw [hK] at c1
        have Hn : Hid (tick N K B (k + 1) = upd (tick N K B k) k (B k + 1)) := Lib.hid (by
          funext q
          unfold tick upd
          by_cases hq : q = k
          · subst hq; simp [hK, hb1, hk1]
          · have : (1 ≤ q ∧ q < k + 1 ∧ K q = true ∧ B q < 1000000000000) ↔ (1 ≤ q ∧ q < k ∧ K q = true ∧ B q < 1000000000000) := by
              constructor <;> rintro ⟨x1, x2, x3, x4⟩ <;> exact ⟨x1, by omega, x3, x4⟩
            simp only [this, hq, if_false])
        have e1 : IntKind.i64.wrap (B k + 1) = B k + 1 := IntWalk.i64_in _ (by omega)
        clear hK
        go_wp2_with fail
        go_region
        all_goals
          go_wp2_with fail
          exact ⟨⟨k + 1, by go_num, by omega, by omega, by rw [Hn.out]; exact Blk.ext (Blk.drewN (Blk.put kk (1 + k * 2 + 1) (.int .i64 (B k + 1))) 1) (fun j _ => ov_one _ _ _ _ _ j), (jj.put _ _).drewN 1⟩, by simp [intOf]; omega⟩
      · have Hn : Hid (tick N K B (k + 1) = tick N K B k) := Lib.hid (by
          funext q
          unfold tick
          have : (1 ≤ q ∧ q < k + 1 ∧ K q = true ∧ B q < 1000000000000) ↔ (1 ≤ q ∧ q < k ∧ K q = true ∧ B q < 1000000000000) := by
            constructor
            · rintro ⟨x1, x2, x3, x4⟩
              refine ⟨x1, ?_, x3, x4⟩
              by_cases hq : q = k
              · subst hq; exact absurd ⟨x3, x4⟩ hK
              · omega
            · rintro ⟨x1, x2, x3, x4⟩; exact ⟨x1, by omega, x3, x4⟩
          simp only [this])
        cases hk2 : K k
        · rw [hk2] at c1
          clear hK hk2
          go_wp2_with fail
          exact ⟨⟨k + 1, by go_num, by omega, by omega, by rw [Hn.out]; exact kk, jj⟩, by simp [intOf]; omega⟩
        · rw [hk2] at c1
          have hb2 : decide (B k < 1000000000000) = false := by
            by_cases hb3 : B k < 1000000000000
            · exact absurd ⟨hk2, hb3⟩ hK
            · simp; omega
          clear hK hk2
          go_wp2_with fail
          exact ⟨⟨k + 1, by go_num, by omega, by omega, by rw [Hn.out]; exact kk, jj⟩, by simp [intOf]; omega⟩
    · obtain rfl : k = N := by omega
      go_wp2_with fail
      go_end0
      exact ⟨rfl, kk, jj⟩
end Go.Proofs.Ytjknppldpepcnaa.Of
