/-
  Package cell: the place of a cell in a row that stands in order.
-/
import Derived.Test.YtdknacbdkekfnaaCeFind
set_option maxRecDepth 100000
namespace Go.Proofs.Ytdknacbdkekfnaa.Ce
set_option linter.unusedVariables false
open Go.RowKit Lb Cl

theorem keep_cell {W W' : World} {p : Addr} {v : Value} (hb : Below W.heap.size W W') (h : W.cell? p = some v) : W'.cell? p = some v := (hb.cell (lt_of_cell h)).trans h
def fndB (l : List C) (x : C) : Bool := decide (pos l x < l.length) && decide (cf (at_ l (pos l x)) x = 0)
set_option maxHeartbeats 400000 in
theorem bsf_any (a : Option Addr) (n m : Nat) (l : List C) (x : C) (w : World) (hR : Row w a (n * 5) (lv l)) (hl : l.length = n) (hn : n ≤ 100000) (hs : Srt l) :
    Calls Try.prog 28 #[.slice a n m, .agg #[.int .i64 x.f, .int .i64 x.s, .int .i64 x.c, .int .i64 x.o, .int .i64 x.p], .func (.func 29) #[] #[]] w fun r w' => r = .returned (.tuple #[.int .i64 (pos l x : Nat), .bool (fndB l x)]) ∧ Below w.heap.size w w' := by
  have HR := Lib.hid hR
  have HL := Lib.hid hl
  have HS := Lib.hid hs
  have o0 : Own (w.alloc (.cells #[.int .i64 x.f, .int .i64 x.s, .int .i64 x.c, .int .i64 x.o, .int .i64 x.p] 31)) w.heap.size 31 x.vals := Own.new w _ _
  have b0 := (Below.refl w.heap.size w).alloc (Nat.le_refl _) (.cells #[.int .i64 x.f, .int .i64 x.s, .int .i64 x.c, .int .i64 x.o, .int .i64 x.p] 31)
  have hz0 : w.heap.size < (w.alloc (.cells #[.int .i64 x.f, .int .i64 x.s, .int .i64 x.c, .int .i64 x.o, .int .i64 x.p] 31)).heap.size := by simp
  clear hR hl hs
  go_enter Try.func28, Try.ntmps28
  go_wp2_with fail
  generalize w.alloc (.cells #[.int .i64 x.f, .int .i64 x.s, .int .i64 x.c, .int .i64 x.o, .int .i64 x.p] 31) = w1 at *
  go_loopw [9, 10] (fun i j wr => ∃ lo hi : Nat, i = .int .i64 lo ∧ j = .int .i64 hi ∧ lo ≤ hi ∧ hi ≤ n ∧ Hid (∀ t, t < lo → cf (at_ l t) x < 0) ∧ Hid (∀ t, hi ≤ t → t < n → 0 ≤ cf (at_ l t) x) ∧ Own wr w.heap.size 31 x.vals ∧ Below w.heap.size w wr) (fun i j _ => (intOf j).toNat - (intOf i).toNat)
  case atStart => exact ⟨0, n, rfl, rfl, by omega, by omega, Lib.hid (fun t ht => by omega), Lib.hid (fun t h1 h2 => by omega), o0, b0⟩
  case round =>
    clear o0 b0 hz0
    obtain ⟨lo, hi, rfl, rfl, hlh, hin, HA, HB, o1, b1⟩ := hrel
    have hol := o1.lt
    obtain ⟨d0, d1, d2, d3, d4⟩ := own_c o1
    by_cases hlt : lo < hi
    · have hM : (lo + hi) / 2 < n := by omega
      obtain ⟨b, off, rfl, hbl, c0, c1, c2, c3, c4⟩ := row_c HR.out b1 hM
      obtain ⟨y, hy⟩ : ∃ y, at_ l ((lo + hi) / 2) = y := ⟨_, rfl⟩
      have HY := Lib.hid hy
      rw [hy] at c0 c1 c2 c3 c4
      have hcom := fun w => com_any y x w
      obtain ⟨z, hz⟩ : ∃ z, cf y x = z := ⟨_, rfl⟩
      have HZ := Lib.hid hz
      rw [hz] at hcom
      clear hy hz
      by_cases hz0 : z < 0
      · have HA2 : Hid (∀ t, t < (lo + hi) / 2 + 1 → cf (at_ l t) x < 0) := Lib.hid (fun t ht => srt_mono HS.out x t ((lo + hi) / 2) (by omega) (by rw [HL.out]; exact hM) (by rw [HY.out, HZ.out]; exact hz0))
        have m1 : (0 : Int) ≤ ((lo : Int) + (hi : Int)) / 2 := by omega
        have m2 : ((lo : Int) + (hi : Int)) / 2 < (n : Int) := by omega
        have m3 : (((lo : Int) + (hi : Int)) / 2).toNat = (lo + hi) / 2 := by omega
        go_wp2_with fail
        have s0 : (fun w' : World => w'.cell? ⟨b, off + ((lo + hi) / 2) * 5, none⟩ = some (.int .i64 y.f) ∧ w'.cell? ⟨b, off + ((lo + hi) / 2) * 5 + 1, none⟩ = some (.int .i64 y.s) ∧ w'.cell? ⟨b, off + ((lo + hi) / 2) * 5 + 2, none⟩ = some (.int .i64 y.c) ∧ w'.cell? ⟨b, off + ((lo + hi) / 2) * 5 + 3, none⟩ = some (.int .i64 y.o) ∧ w'.cell? ⟨b, off + ((lo + hi) / 2) * 5 + 4, none⟩ = some (.int .i64 y.p) ∧ w'.cell? ⟨w.heap.size, 0, none⟩ = some (.int .i64 x.f) ∧ w'.cell? ⟨w.heap.size, 1, none⟩ = some (.int .i64 x.s) ∧ w'.cell? ⟨w.heap.size, 2, none⟩ = some (.int .i64 x.c) ∧ w'.cell? ⟨w.heap.size, 3, none⟩ = some (.int .i64 x.o) ∧ w'.cell? ⟨w.heap.size, 4, none⟩ = some (.int .i64 x.p)) wr.drew := ⟨c0, c1, c2, c3, c4, d0, d1, d2, d3, d4⟩
        go_region_held3 (fun w' : World => w'.cell? ⟨b, off + ((lo + hi) / 2) * 5, none⟩ = some (.int .i64 y.f) ∧ w'.cell? ⟨b, off + ((lo + hi) / 2) * 5 + 1, none⟩ = some (.int .i64 y.s) ∧ w'.cell? ⟨b, off + ((lo + hi) / 2) * 5 + 2, none⟩ = some (.int .i64 y.c) ∧ w'.cell? ⟨b, off + ((lo + hi) / 2) * 5 + 3, none⟩ = some (.int .i64 y.o) ∧ w'.cell? ⟨b, off + ((lo + hi) / 2) * 5 + 4, none⟩ = some (.int .i64 y.p) ∧ w'.cell? ⟨w.heap.size, 0, none⟩ = some (.int .i64 x.f) ∧ w'.cell? ⟨w.heap.size, 1, none⟩ = some (.int .i64 x.s) ∧ w'.cell? ⟨w.heap.size, 2, none⟩ = some (.int .i64 x.c) ∧ w'.cell? ⟨w.heap.size, 3, none⟩ = some (.int .i64 x.o) ∧ w'.cell? ⟨w.heap.size, 4, none⟩ = some (.int .i64 x.p)) (first | exact s0 | exact s2) ((go_at_call 29; refine (hcom _).mono ?_; rintro r w5 ⟨rfl, b5⟩; have s2 : (fun w' : World => w'.cell? ⟨b, off + ((lo + hi) / 2) * 5, none⟩ = some (.int .i64 y.f) ∧ w'.cell? ⟨b, off + ((lo + hi) / 2) * 5 + 1, none⟩ = some (.int .i64 y.s) ∧ w'.cell? ⟨b, off + ((lo + hi) / 2) * 5 + 2, none⟩ = some (.int .i64 y.c) ∧ w'.cell? ⟨b, off + ((lo + hi) / 2) * 5 + 3, none⟩ = some (.int .i64 y.o) ∧ w'.cell? ⟨b, off + ((lo + hi) / 2) * 5 + 4, none⟩ = some (.int .i64 y.p) ∧ w'.cell? ⟨w.heap.size, 0, none⟩ = some (.int .i64 x.f) ∧ w'.cell? ⟨w.heap.size, 1, none⟩ = some (.int .i64 x.s) ∧ w'.cell? ⟨w.heap.size, 2, none⟩ = some (.int .i64 x.c) ∧ w'.cell? ⟨w.heap.size, 3, none⟩ = some (.int .i64 x.o) ∧ w'.cell? ⟨w.heap.size, 4, none⟩ = some (.int .i64 x.p)) w5 := ⟨keep_cell b5 c0, keep_cell b5 c1, keep_cell b5 c2, keep_cell b5 c3, keep_cell b5 c4, keep_cell b5 d0, keep_cell b5 d1, keep_cell b5 d2, keep_cell b5 d3, keep_cell b5 d4⟩))
        all_goals
          go_wp2_with fail
          have b6 := (below_drewN b1 1).trans (b5.mono b1.size)
          have o6 := below_own b5 (o1.drewN 1) hol
          exact ⟨⟨(lo + hi) / 2 + 1, hi, by simp, rfl, by omega, hin, HA2, HB, o6, b6⟩, by simp [intOf]; omega⟩
      · have g1 : decide (z < 0) = false := by simpa using hz0
        have HB2 : Hid (∀ t, (lo + hi) / 2 ≤ t → t < n → 0 ≤ cf (at_ l t) x) := Lib.hid (fun t h1 h2 => by
          by_cases h3 : cf (at_ l t) x < 0
          · refine absurd ?_ hz0
            rw [← HZ.out, ← HY.out]
            exact srt_mono HS.out x ((lo + hi) / 2) t h1 (by rw [HL.out]; exact h2) h3
          · omega)
        clear hz0
        have m1 : (0 : Int) ≤ ((lo : Int) + (hi : Int)) / 2 := by omega
        have m2 : ((lo : Int) + (hi : Int)) / 2 < (n : Int) := by omega
        have m3 : (((lo : Int) + (hi : Int)) / 2).toNat = (lo + hi) / 2 := by omega
        go_wp2_with fail
        have s0 : (fun w' : World => w'.cell? ⟨b, off + ((lo + hi) / 2) * 5, none⟩ = some (.int .i64 y.f) ∧ w'.cell? ⟨b, off + ((lo + hi) / 2) * 5 + 1, none⟩ = some (.int .i64 y.s) ∧ w'.cell? ⟨b, off + ((lo + hi) / 2) * 5 + 2, none⟩ = some (.int .i64 y.c) ∧ w'.cell? ⟨b, off + ((lo + hi) / 2) * 5 + 3, none⟩ = some (.int .i64 y.o) ∧ w'.cell? ⟨b, off + ((lo + hi) / 2) * 5 + 4, none⟩ = some (.int .i64 y.p) ∧ w'.cell? ⟨w.heap.size, 0, none⟩ = some (.int .i64 x.f) ∧ w'.cell? ⟨w.heap.size, 1, none⟩ = some (.int .i64 x.s) ∧ w'.cell? ⟨w.heap.size, 2, none⟩ = some (.int .i64 x.c) ∧ w'.cell? ⟨w.heap.size, 3, none⟩ = some (.int .i64 x.o) ∧ w'.cell? ⟨w.heap.size, 4, none⟩ = some (.int .i64 x.p)) wr.drew := ⟨c0, c1, c2, c3, c4, d0, d1, d2, d3, d4⟩
        go_region_held3 (fun w' : World => w'.cell? ⟨b, off + ((lo + hi) / 2) * 5, none⟩ = some (.int .i64 y.f) ∧ w'.cell? ⟨b, off + ((lo + hi) / 2) * 5 + 1, none⟩ = some (.int .i64 y.s) ∧ w'.cell? ⟨b, off + ((lo + hi) / 2) * 5 + 2, none⟩ = some (.int .i64 y.c) ∧ w'.cell? ⟨b, off + ((lo + hi) / 2) * 5 + 3, none⟩ = some (.int .i64 y.o) ∧ w'.cell? ⟨b, off + ((lo + hi) / 2) * 5 + 4, none⟩ = some (.int .i64 y.p) ∧ w'.cell? ⟨w.heap.size, 0, none⟩ = some (.int .i64 x.f) ∧ w'.cell? ⟨w.heap.size, 1, none⟩ = some (.int .i64 x.s) ∧ w'.cell? ⟨w.heap.size, 2, none⟩ = some (.int .i64 x.c) ∧ w'.cell? ⟨w.heap.size, 3, none⟩ = some (.int .i64 x.o) ∧ w'.cell? ⟨w.heap.size, 4, none⟩ = some (.int .i64 x.p)) (first | exact s0 | exact s2) ((go_at_call 29; refine (hcom _).mono ?_; rintro r w5 ⟨rfl, b5⟩; have s2 : (fun w' : World => w'.cell? ⟨b, off + ((lo + hi) / 2) * 5, none⟩ = some (.int .i64 y.f) ∧ w'.cell? ⟨b, off + ((lo + hi) / 2) * 5 + 1, none⟩ = some (.int .i64 y.s) ∧ w'.cell? ⟨b, off + ((lo + hi) / 2) * 5 + 2, none⟩ = some (.int .i64 y.c) ∧ w'.cell? ⟨b, off + ((lo + hi) / 2) * 5 + 3, none⟩ = some (.int .i64 y.o) ∧ w'.cell? ⟨b, off + ((lo + hi) / 2) * 5 + 4, none⟩ = some (.int .i64 y.p) ∧ w'.cell? ⟨w.heap.size, 0, none⟩ = some (.int .i64 x.f) ∧ w'.cell? ⟨w.heap.size, 1, none⟩ = some (.int .i64 x.s) ∧ w'.cell? ⟨w.heap.size, 2, none⟩ = some (.int .i64 x.c) ∧ w'.cell? ⟨w.heap.size, 3, none⟩ = some (.int .i64 x.o) ∧ w'.cell? ⟨w.heap.size, 4, none⟩ = some (.int .i64 x.p)) w5 := ⟨keep_cell b5 c0, keep_cell b5 c1, keep_cell b5 c2, keep_cell b5 c3, keep_cell b5 c4, keep_cell b5 d0, keep_cell b5 d1, keep_cell b5 d2, keep_cell b5 d3, keep_cell b5 d4⟩))
        all_goals
          go_wp2_with fail
          have b6 := (below_drewN b1 1).trans (b5.mono b1.size)
          have o6 := below_own b5 (o1.drewN 1) hol
          exact ⟨⟨lo, (lo + hi) / 2, rfl, by simp, by omega, by omega, HA, HB2, o6, b6⟩, by simp [intOf]; omega⟩
    · obtain rfl : lo = hi := by omega
      have hP : pos l x = lo := pos_is l lo (by rw [HL.out]; exact hin) HA.out (fun h => by have := HB.out lo (by omega) (by rw [HL.out] at h; exact h); omega)
      have HP := Lib.hid hP
      clear hP
      by_cases hln : lo < n
      · obtain ⟨b, off, rfl, hbl, c0, c1, c2, c3, c4⟩ := row_c HR.out b1 hln
        have hcom := fun w => com_any (at_ l lo) x w
        obtain ⟨z, hz⟩ : ∃ z, cf (at_ l lo) x = z := ⟨_, rfl⟩
        have HF : Hid (fndB l x = (z == 0)) := Lib.hid (by
          unfold fndB
          rw [HP.out, HL.out, hz, Bool.eq_iff_iff]
          simp [hln])
        rw [hz] at hcom
        generalize at_ l lo = y at *
        clear hz
        have m1 : (0 : Int) ≤ (lo : Int) := by omega
        have m2 : (lo : Int) < (n : Int) := by omega
        go_wp2_with fail
        have s0 : (fun w' : World => w'.cell? ⟨b, off + lo * 5, none⟩ = some (.int .i64 y.f) ∧ w'.cell? ⟨b, off + lo * 5 + 1, none⟩ = some (.int .i64 y.s) ∧ w'.cell? ⟨b, off + lo * 5 + 2, none⟩ = some (.int .i64 y.c) ∧ w'.cell? ⟨b, off + lo * 5 + 3, none⟩ = some (.int .i64 y.o) ∧ w'.cell? ⟨b, off + lo * 5 + 4, none⟩ = some (.int .i64 y.p) ∧ w'.cell? ⟨w.heap.size, 0, none⟩ = some (.int .i64 x.f) ∧ w'.cell? ⟨w.heap.size, 1, none⟩ = some (.int .i64 x.s) ∧ w'.cell? ⟨w.heap.size, 2, none⟩ = some (.int .i64 x.c) ∧ w'.cell? ⟨w.heap.size, 3, none⟩ = some (.int .i64 x.o) ∧ w'.cell? ⟨w.heap.size, 4, none⟩ = some (.int .i64 x.p)) wr.drew := ⟨c0, c1, c2, c3, c4, d0, d1, d2, d3, d4⟩
        go_region_held3 (fun w' : World => w'.cell? ⟨b, off + lo * 5, none⟩ = some (.int .i64 y.f) ∧ w'.cell? ⟨b, off + lo * 5 + 1, none⟩ = some (.int .i64 y.s) ∧ w'.cell? ⟨b, off + lo * 5 + 2, none⟩ = some (.int .i64 y.c) ∧ w'.cell? ⟨b, off + lo * 5 + 3, none⟩ = some (.int .i64 y.o) ∧ w'.cell? ⟨b, off + lo * 5 + 4, none⟩ = some (.int .i64 y.p) ∧ w'.cell? ⟨w.heap.size, 0, none⟩ = some (.int .i64 x.f) ∧ w'.cell? ⟨w.heap.size, 1, none⟩ = some (.int .i64 x.s) ∧ w'.cell? ⟨w.heap.size, 2, none⟩ = some (.int .i64 x.c) ∧ w'.cell? ⟨w.heap.size, 3, none⟩ = some (.int .i64 x.o) ∧ w'.cell? ⟨w.heap.size, 4, none⟩ = some (.int .i64 x.p)) (first | exact s0 | exact s2) ((go_at_call 29; refine (hcom _).mono ?_; rintro r w5 ⟨rfl, b5⟩; have s2 : (fun w' : World => w'.cell? ⟨b, off + lo * 5, none⟩ = some (.int .i64 y.f) ∧ w'.cell? ⟨b, off + lo * 5 + 1, none⟩ = some (.int .i64 y.s) ∧ w'.cell? ⟨b, off + lo * 5 + 2, none⟩ = some (.int .i64 y.c) ∧ w'.cell? ⟨b, off + lo * 5 + 3, none⟩ = some (.int .i64 y.o) ∧ w'.cell? ⟨b, off + lo * 5 + 4, none⟩ = some (.int .i64 y.p) ∧ w'.cell? ⟨w.heap.size, 0, none⟩ = some (.int .i64 x.f) ∧ w'.cell? ⟨w.heap.size, 1, none⟩ = some (.int .i64 x.s) ∧ w'.cell? ⟨w.heap.size, 2, none⟩ = some (.int .i64 x.c) ∧ w'.cell? ⟨w.heap.size, 3, none⟩ = some (.int .i64 x.o) ∧ w'.cell? ⟨w.heap.size, 4, none⟩ = some (.int .i64 x.p)) w5 := ⟨keep_cell b5 c0, keep_cell b5 c1, keep_cell b5 c2, keep_cell b5 c3, keep_cell b5 c4, keep_cell b5 d0, keep_cell b5 d1, keep_cell b5 d2, keep_cell b5 d3, keep_cell b5 d4⟩))
        all_goals
          go_wp2_with fail
          go_ret2
          have b6 := (below_drewN b1 1).trans (b5.mono b1.size)
          exact ⟨by rw [HF.out, HP.out]; rfl, b6⟩
      · have HF : Hid (fndB l x = false) := Lib.hid (by
          unfold fndB
          rw [HP.out, HL.out]
          simp
          omega)
        have g1 : decide ((lo : Int) < (n : Int)) = false := by simp; omega
        have g2 : decide (lo < n) = false := by simp; omega
        clear hln hlt
        go_wp2_with fail
        go_quiet (fail)
        go_wp2_with fail
        go_ret2
        exact ⟨by rw [HF.out, HP.out]; rfl, below_drewN b1 _⟩
end Go.Proofs.Ytdknacbdkekfnaa.Ce
