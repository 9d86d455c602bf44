/-
  Contracts of package clock (chapter 4) and of the reference's clock, over the block that the clock is.
-/
import Derived.Test.YtckbihiegliiiaaLib
import Derived.Deep.RegionWith
import Derived.Lib.Hide
set_option maxRecDepth 100000
namespace Go.Proofs.Ytckbihiegliiiaa.Ck
open Go.RowKit Lb

/-- Block b is a clock: put to p, d millionths drifted since, s slots gone by. -/
def Clk (w : World) (b : Nat) (p d s : Int) : Prop := Own w b 43 #[.int .i64 p, .int .i64 d, .int .i64 s]
def Ref (w : World) (b : Nat) (p d s : Int) : Prop := Own w b 27 #[.int .i64 p, .int .i64 d, .int .i64 s]
def lim (n m : Int) : Int := min (max n (-m)) m
theorem lim_low (n m : Int) (h : 0 ≤ m) : -m ≤ lim n m := by unfold lim; omega
theorem lim_high (n m : Int) : lim n m ≤ m := by unfold lim; omega
/-- How far off. -/
def off (p d : Int) : Int := p + d / 1000000

theorem new_any (w : World) :
    Calls Try.prog 9 #[] w fun r w' => r = .returned (.pointer (some ⟨w.heap.size, 0, none⟩)) ∧ Clk w' w.heap.size 0 0 0 ∧ Below w.heap.size w w' ∧ w.heap.size < w'.heap.size := by
  go_enter Try.func9, Try.ntmps9
  go_wp2
  go_ret
  exact ⟨rfl, Own.new _ _ _, (Below.refl _ _).alloc (Nat.le_refl _) _, by simp⟩

theorem cut_int (n m : Int) (w : World) (h0 : 0 ≤ m) (h1 : m ≤ 1000000000000) :
    Calls Try.prog 22 #[.int .i64 n, .int .i64 m] w fun r w' => r = .returned (.int .i64 (lim n m)) ∧ w = w' := by
  go_enter Try.func22, Try.ntmps22
  go_wp2
  go_ret
  exact ⟨rfl, rfl⟩

theorem cut_long (n m : Int) (w : World) (h0 : 0 ≤ m) (h1 : m ≤ 1000000000000) :
    Calls Try.prog 20 #[.int .i64 n, .int .i64 m] w fun r w' => r = .returned (.int .i64 (lim n m)) ∧ w = w' := by
  go_enter Try.func20, Try.ntmps20
  go_wp2
  go_ret
  exact ⟨rfl, rfl⟩

theorem slot_any (b : Nat) (p d s n : Int) (w : World) (h : Clk w b p d s) (hs0 : 0 ≤ s) (hs1 : s < 1099511627776) (hd0 : -2000000000000000000 ≤ d) (hd1 : d ≤ 2000000000000000000) :
    Calls Try.prog 14 #[.pointer (some ⟨b, 0, none⟩), .int .i64 n] w fun r w' => r = .returned (.tuple #[]) ∧ Clk w' b p (d + lim n 100 * 10000) (s + 1) ∧ Just b w w' := by
  have c1 : w.cell? ⟨b, 1, none⟩ = some (.int .i64 d) := h.cell 1
  have c2 : w.cell? ⟨b, 2, none⟩ = some (.int .i64 s) := h.cell 2
  have f1 : w.frozen? ⟨b, 1, none⟩ = false := h.free 1
  have f2 : w.frozen? ⟨b, 2, none⟩ = false := h.free 2
  have hne : (s == 1099511627776) = false := by simp; omega
  have l0 := lim_low n 100 (by omega)
  have l1 := lim_high n 100
  go_enter Try.func14, Try.ntmps14
  go_wp2_with (go_at_call 22; refine (cut_int _ _ _ (by omega) (by omega)).mono ?_; rintro r w' ⟨rfl, rfl⟩)
  have e1 : IntKind.i64.wrap (lim n 100 * 10000) = lim n 100 * 10000 := IntWalk.i64_in _ (by omega)
  have e2 : IntKind.i64.wrap (d + lim n 100 * 10000) = d + lim n 100 * 10000 := IntWalk.i64_in _ (by omega)
  go_region_with (go_at_call 22; refine (cut_int _ _ _ (by omega) (by omega)).mono ?_; rintro r w' ⟨rfl, rfl⟩)
  all_goals
    go_end0
    exact ⟨rfl, Own.put (Own.put h 2 _) 1 _, ((Just.set b w 2 _).put 1 _).drewN 1⟩

theorem slot_full (b : Nat) (p d n : Int) (w : World) (h : Clk w b p d 1099511627776) :
    Calls Try.prog 14 #[.pointer (some ⟨b, 0, none⟩), .int .i64 n] w fun r w' => r = .returned (.tuple #[]) ∧ ∃ m, w.drewN m = w' := by
  have c2 : w.cell? ⟨b, 2, none⟩ = some (.int .i64 1099511627776) := h.cell 2
  go_enter Try.func14, Try.ntmps14
  go_wp2_with fail
  refine bodyPost_ret (results_none rfl _ _ _) rfl ?_
  exact ⟨rfl, 0, rfl⟩

theorem slot_nil (n : Int) (w : World) :
    Calls Try.prog 14 #[.pointer none, .int .i64 n] w fun r w' => r = .returned (.tuple #[]) ∧ w = w' := by
  go_enter Try.func14, Try.ntmps14
  go_wp2_with fail
  refine bodyPost_ret (results_none rfl _ _ _) rfl ?_
  exact ⟨rfl, rfl⟩

theorem put_any (b : Nat) (p d s n : Int) (w : World) (h : Clk w b p d s) :
    Calls Try.prog 10 #[.pointer (some ⟨b, 0, none⟩), .int .i64 n] w fun r w' => r = .returned (.tuple #[]) ∧ Clk w' b (lim n 1000000000000) 0 s ∧ Just b w w' := by
  have c0 : w.cell? ⟨b, 0, none⟩ = some (.int .i64 p) := h.cell 0
  have c1 : w.cell? ⟨b, 1, none⟩ = some (.int .i64 d) := h.cell 1
  have f0 : w.frozen? ⟨b, 0, none⟩ = false := h.free 0
  have f1 : w.frozen? ⟨b, 1, none⟩ = false := h.free 1
  go_enter Try.func10, Try.ntmps10
  go_wp2_with (go_at_call 20; refine (cut_long _ _ _ (by omega) (by omega)).mono ?_; rintro r w' ⟨rfl, rfl⟩)
  go_end0
  exact ⟨rfl, Own.put (Own.put h 0 _) 1 _, (Just.set b w 0 _).put 1 _⟩

theorem put_nil (n : Int) (w : World) :
    Calls Try.prog 10 #[.pointer none, .int .i64 n] w fun r w' => r = .returned (.tuple #[]) ∧ w = w' := by
  go_enter Try.func10, Try.ntmps10
  go_wp2_with fail
  go_end0
  exact ⟨rfl, rfl⟩

theorem move_any (b : Nat) (p d s n : Int) (w : World) (h : Clk w b p d s) (hp0 : -2000000000000 ≤ p) (hp1 : p ≤ 2000000000000) :
    Calls Try.prog 12 #[.pointer (some ⟨b, 0, none⟩), .int .i64 n] w fun r w' => r = .returned (.tuple #[]) ∧ Clk w' b (lim (p + lim n 1000000) 1000000000000) d s ∧ Just b w w' := by
  have c0 : w.cell? ⟨b, 0, none⟩ = some (.int .i64 p) := h.cell 0
  have f0 : w.frozen? ⟨b, 0, none⟩ = false := h.free 0
  have l0 := lim_low n 1000000 (by omega)
  have l1 := lim_high n 1000000
  go_enter Try.func12, Try.ntmps12
  go_wp2_with fail
  have e1 : IntKind.i64.wrap (p + lim n 1000000) = p + lim n 1000000 := IntWalk.i64_in _ (by omega)
  go_region_with (first
    | (go_at_call 22; refine (cut_int _ _ _ (by omega) (by omega)).mono ?_; rintro r w' ⟨rfl, rfl⟩)
    | (go_at_call 20; refine (cut_long _ _ _ (by omega) (by omega)).mono ?_; rintro r w' ⟨rfl, rfl⟩))
  all_goals
    go_end0
    exact ⟨rfl, Own.put h 0 _, (Just.set b w 0 _).drewN 1⟩

theorem move_nil (n : Int) (w : World) :
    Calls Try.prog 12 #[.pointer none, .int .i64 n] w fun r w' => r = .returned (.tuple #[]) ∧ w = w' := by
  go_enter Try.func12, Try.ntmps12
  go_wp2_with fail
  go_end0
  exact ⟨rfl, rfl⟩

theorem off_any (b : Nat) (p d s : Int) (w : World) (h : Clk w b p d s) (hp0 : -2000000000000 ≤ p) (hp1 : p ≤ 2000000000000) (hd0 : -4000000000000000000 ≤ d) (hd1 : d ≤ 4000000000000000000) :
    Calls Try.prog 16 #[.pointer (some ⟨b, 0, none⟩)] w fun r w' => r = .returned (.int .i64 (off p d)) ∧ ∃ m, w.drewN m = w' := by
  have c0 : w.cell? ⟨b, 0, none⟩ = some (.int .i64 p) := h.cell 0
  have c1 : w.cell? ⟨b, 1, none⟩ = some (.int .i64 d) := h.cell 1
  by_cases hd : 0 ≤ d
  · go_enter Try.func16, Try.ntmps16
    go_wp2_with fail
    go_ret
    exact ⟨rfl, 0, rfl⟩
  · have t1 := tdiv_low d 1000000 (by omega) (by omega)
    have t2 := tmod_low d 1000000 (by omega)
    by_cases hm : d.tmod 1000000 < 0
    · have b1 : -4000000000000 ≤ d.tdiv 1000000 := by omega
      have b2 : d.tdiv 1000000 ≤ 0 := by omega
      have hoff : off p d = p + (d.tdiv 1000000 - 1) := by unfold off; omega
      have H := Lib.hid hoff
      clear t1 t2 hoff
      go_enter Try.func16, Try.ntmps16
      go_wp2_with fail
      go_ret
      exact ⟨by rw [H.out]; first | rfl | (congr 2; omega), 0, rfl⟩
    · have b1 : -4000000000000 ≤ d.tdiv 1000000 := by omega
      have b2 : d.tdiv 1000000 ≤ 0 := by omega
      have hoff : off p d = p + d.tdiv 1000000 := by unfold off; omega
      have H := Lib.hid hoff
      clear t1 t2 hoff
      go_enter Try.func16, Try.ntmps16
      go_wp2_with fail
      go_ret
      exact ⟨by rw [H.out]; first | rfl | (congr 2; omega), 0, rfl⟩

theorem off_nil (w : World) :
    Calls Try.prog 16 #[.pointer none] w fun r w' => r = .returned (.int .i64 0) ∧ w = w' := by
  go_enter Try.func16, Try.ntmps16
  go_wp2_with fail
  go_ret
  exact ⟨rfl, rfl⟩

theorem slots_any (b : Nat) (p d s : Int) (w : World) (h : Clk w b p d s) :
    Calls Try.prog 18 #[.pointer (some ⟨b, 0, none⟩)] w fun r w' => r = .returned (.int .i64 s) ∧ w = w' := by
  have c2 : w.cell? ⟨b, 2, none⟩ = some (.int .i64 s) := h.cell 2
  go_enter Try.func18, Try.ntmps18
  go_wp2_with fail
  go_ret
  exact ⟨rfl, rfl⟩

theorem slots_nil (w : World) :
    Calls Try.prog 18 #[.pointer none] w fun r w' => r = .returned (.int .i64 0) ∧ w = w' := by
  go_enter Try.func18, Try.ntmps18
  go_wp2_with fail
  go_ret
  exact ⟨rfl, rfl⟩
end Go.Proofs.Ytckbihiegliiiaa.Ck
