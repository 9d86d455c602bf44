/-
  Contracts of the reference's clock (chapter 4), over the block that the clock is.
-/
import Derived.Test.YtckbihiegliiiaaClockWalks
set_option maxRecDepth 100000
namespace Go.Proofs.Ytckbihiegliiiaa.Ck
open Go.RowKit Lb

theorem rclamp_any (n m : Int) (w : World) :
    Calls Try.prog 21 #[.int .i64 n, .int .i64 (-m), .int .i64 m] w fun r w' => r = .returned (.int .i64 (max (-m) (min n m))) ∧ w = w' := by
  go_enter Try.func21, Try.ntmps21
  go_wp2_with fail
  go_ret
  exact ⟨rfl, rfl⟩
theorem rclamp_lim (n m : Int) (h : 0 ≤ m) : max (-m) (min n m) = lim n m := by unfold lim; omega

theorem rclamp_ppm (n : Int) (w : World) :
    Calls Try.prog 21 #[.int .i64 n, .int .i64 (-100), .int .i64 100] w fun r w' => r = .returned (.int .i64 (lim n 100)) ∧ w = w' :=
  (rclamp_any n 100 w).mono fun _ _ ⟨h1, h2⟩ => ⟨by rw [h1, rclamp_lim _ _ (by omega)], h2⟩
theorem rclamp_move (n : Int) (w : World) :
    Calls Try.prog 21 #[.int .i64 n, .int .i64 (-1000000), .int .i64 1000000] w fun r w' => r = .returned (.int .i64 (lim n 1000000)) ∧ w = w' :=
  (rclamp_any n 1000000 w).mono fun _ _ ⟨h1, h2⟩ => ⟨by rw [h1, rclamp_lim _ _ (by omega)], h2⟩
theorem rclamp_far (n : Int) (w : World) :
    Calls Try.prog 21 #[.int .i64 n, .int .i64 (-1000000000000), .int .i64 1000000000000] w fun r w' => r = .returned (.int .i64 (lim n 1000000000000)) ∧ w = w' :=
  (rclamp_any n 1000000000000 w).mono fun _ _ ⟨h1, h2⟩ => ⟨by rw [h1, rclamp_lim _ _ (by omega)], h2⟩

theorem rslot_any (b : Nat) (p d s n : Int) (w : World) (h : Ref w b p d s) (hs0 : 0 ≤ s) (hs1 : s < 1099511627776) (hd0 : -2000000000000000000 ≤ d) (hd1 : d ≤ 2000000000000000000) :
    Calls Try.prog 15 #[.pointer (some ⟨b, 0, none⟩), .int .i64 n] w fun r w' => r = .returned (.tuple #[]) ∧ Ref w' b p (d + lim n 100 * 10000) (s + 1) ∧ Just b w w' := by
  have c1 : w.cell? ⟨b, 1, none⟩ = some (.int .i64 d) := h.cell 1
  have c2 : w.cell? ⟨b, 2, none⟩ = some (.int .i64 s) := h.cell 2
  have f1 : w.frozen? ⟨b, 1, none⟩ = false := h.free 1
  have f2 : w.frozen? ⟨b, 2, none⟩ = false := h.free 2
  have l0 := lim_low n 100 (by omega)
  have l1 := lim_high n 100
  go_enter Try.func15, Try.ntmps15
  go_wp2_with fail
  have e1 : IntKind.i64.wrap (lim n 100 * 10000) = lim n 100 * 10000 := IntWalk.i64_in _ (by omega)
  have e2 : IntKind.i64.wrap (d + lim n 100 * 10000) = d + lim n 100 * 10000 := IntWalk.i64_in _ (by omega)
  go_region_with (go_at_call 21; refine (rclamp_ppm _ _).mono ?_; rintro r w' ⟨rfl, rfl⟩)
  all_goals
    go_end0
    exact ⟨rfl, Own.put (Own.put h 2 _) 1 _, ((Just.set b w 2 _).put 1 _).drewN 1⟩

theorem rput_any (b : Nat) (p d s n : Int) (w : World) (h : Ref w b p d s) :
    Calls Try.prog 11 #[.pointer (some ⟨b, 0, none⟩), .int .i64 n] w fun r w' => r = .returned (.tuple #[]) ∧ Ref w' b (lim n 1000000000000) 0 s ∧ Just b w w' := by
  have c0 : w.cell? ⟨b, 0, none⟩ = some (.int .i64 p) := h.cell 0
  have c1 : w.cell? ⟨b, 1, none⟩ = some (.int .i64 d) := h.cell 1
  have f0 : w.frozen? ⟨b, 0, none⟩ = false := h.free 0
  have f1 : w.frozen? ⟨b, 1, none⟩ = false := h.free 1
  go_enter Try.func11, Try.ntmps11
  go_wp2_with (go_at_call 21; refine (rclamp_far _ _).mono ?_; rintro r w' ⟨rfl, rfl⟩)
  go_end0
  exact ⟨rfl, Own.put (Own.put h 0 _) 1 _, (Just.set b w 0 _).put 1 _⟩

theorem rmove_any (b : Nat) (p d s n : Int) (w : World) (h : Ref w b p d s) (hp0 : -2000000000000 ≤ p) (hp1 : p ≤ 2000000000000) :
    Calls Try.prog 13 #[.pointer (some ⟨b, 0, none⟩), .int .i64 n] w fun r w' => r = .returned (.tuple #[]) ∧ Ref w' b (lim (p + lim n 1000000) 1000000000000) d s ∧ Just b w w' := by
  have c0 : w.cell? ⟨b, 0, none⟩ = some (.int .i64 p) := h.cell 0
  have f0 : w.frozen? ⟨b, 0, none⟩ = false := h.free 0
  have l0 := lim_low n 1000000 (by omega)
  have l1 := lim_high n 1000000
  go_enter Try.func13, Try.ntmps13
  go_wp2_with fail
  have e1 : IntKind.i64.wrap (p + lim n 1000000) = p + lim n 1000000 := IntWalk.i64_in _ (by omega)
  go_region_with (go_at_call 21; first | ((with_reducible refine (rclamp_move _ _).mono ?_); rintro r w' ⟨rfl, rfl⟩) | ((with_reducible refine (rclamp_far _ _).mono ?_); rintro r w' ⟨rfl, rfl⟩))
  all_goals
    go_end0
    exact ⟨rfl, Own.put h 0 _, (Just.set b w 0 _).drewN 1⟩

theorem roff_any (b : Nat) (p d s : Int) (w : World) (h : Ref w b p d s) (hp0 : -2000000000000 ≤ p) (hp1 : p ≤ 2000000000000) (hd0 : -4000000000000000000 ≤ d) (hd1 : d ≤ 4000000000000000000) :
    Calls Try.prog 17 #[.pointer (some ⟨b, 0, none⟩)] w fun r w' => r = .returned (.int .i64 (off p d)) ∧ ∃ m, w.drewN m = w' := by
  have c0 : w.cell? ⟨b, 0, none⟩ = some (.int .i64 p) := h.cell 0
  have c1 : w.cell? ⟨b, 1, none⟩ = some (.int .i64 d) := h.cell 1
  by_cases hd : 0 ≤ d
  · go_enter Try.func17, Try.ntmps17
    go_wp2_with fail
    go_ret
    exact ⟨rfl, 0, rfl⟩
  · have t1 := tdiv_low d 1000000 (by omega) (by omega)
    have t2 := tmod_low d 1000000 (by omega)
    by_cases hm : d.tmod 1000000 < 0
    · have b1 : -4000000000000 ≤ d.tdiv 1000000 := by omega
      have b2 : d.tdiv 1000000 ≤ 0 := by omega
      have hoff : off p d = p + (d.tdiv 1000000 - 1) := by unfold off; omega
      have H := Lib.hid hoff
      clear t1 t2 hoff
      go_enter Try.func17, Try.ntmps17
      go_wp2_with fail
      go_ret
      exact ⟨by rw [H.out]; rfl, 0, rfl⟩
    · have b1 : -4000000000000 ≤ d.tdiv 1000000 := by omega
      have b2 : d.tdiv 1000000 ≤ 0 := by omega
      have hoff : off p d = p + d.tdiv 1000000 := by unfold off; omega
      have H := Lib.hid hoff
      clear t1 t2 hoff
      go_enter Try.func17, Try.ntmps17
      go_wp2_with fail
      go_ret
      exact ⟨by rw [H.out]; rfl, 0, rfl⟩
end Go.Proofs.Ytckbihiegliiiaa.Ck
