/-
  Package cell: where a cell stands in a row; whether its place is taken; Less.
-/
import Derived.Test.YtdknacbdkekfnaaCeWalks
set_option maxRecDepth 100000
namespace Go.Proofs.Ytdknacbdkekfnaa.Ce
set_option linter.unusedVariables false
open Go.RowKit Lb Cl

theorem own_c {w : World} {b : Nat} {x : C} (h : Own w b 31 x.vals) : w.cell? ⟨b, 0, none⟩ = some (.int .i64 x.f) ∧ w.cell? ⟨b, 1, none⟩ = some (.int .i64 x.s) ∧ w.cell? ⟨b, 2, none⟩ = some (.int .i64 x.c) ∧ w.cell? ⟨b, 3, none⟩ = some (.int .i64 x.o) ∧ w.cell? ⟨b, 4, none⟩ = some (.int .i64 x.p) :=
  ⟨h.cell 0, h.cell 1, h.cell 2, h.cell 3, h.cell 4⟩
theorem row_c {w w' : World} {a : Option Addr} {n k : Nat} {l : List C} (h : Row w a (n * 5) (lv l)) (hb : Below w.heap.size w w') (hk : k < n) :
    ∃ b off, a = some ⟨b, off, none⟩ ∧ b < w.heap.size ∧ w'.cell? ⟨b, off + k * 5, none⟩ = some (.int .i64 (at_ l k).f) ∧ w'.cell? ⟨b, off + k * 5 + 1, none⟩ = some (.int .i64 (at_ l k).s) ∧
      w'.cell? ⟨b, off + k * 5 + 2, none⟩ = some (.int .i64 (at_ l k).c) ∧ w'.cell? ⟨b, off + k * 5 + 3, none⟩ = some (.int .i64 (at_ l k).o) ∧ w'.cell? ⟨b, off + k * 5 + 4, none⟩ = some (.int .i64 (at_ l k).p) := crow h hb hk
theorem less_any (x y : C) (w : World) :
    Calls Try.prog 24 #[.agg #[.int .i64 x.f, .int .i64 x.s, .int .i64 x.c, .int .i64 x.o, .int .i64 x.p], .agg #[.int .i64 y.f, .int .i64 y.s, .int .i64 y.c, .int .i64 y.o, .int .i64 y.p]] w fun r w' => r = .returned (.bool (decide (cf x y < 0))) ∧ Below w.heap.size w w' := by
  have hcom := fun w => com_any x y w
  obtain ⟨z, hz⟩ : ∃ z, cf x y = z := ⟨_, rfl⟩
  rw [hz]
  rw [hz] at hcom
  clear hz
  obtain ⟨x1, x2, x3, x4, x5⟩ := x
  obtain ⟨y1, y2, y3, y4, y5⟩ := y
  have b0 := ((Below.refl w.heap.size w).alloc (Nat.le_refl _) (.cells #[.int .i64 x1, .int .i64 x2, .int .i64 x3, .int .i64 x4, .int .i64 x5] 31)).alloc (by simp) (.cells #[.int .i64 y1, .int .i64 y2, .int .i64 y3, .int .i64 y4, .int .i64 y5] 31)
  go_enter Try.func24, Try.ntmps24
  go_wp2_with ((with_reducible refine (hcom _).mono ?_); rintro r w' ⟨rfl, b1⟩)
  go_ret
  exact ⟨rfl, b0.trans (b1.mono b0.size)⟩
theorem tk1_any (x c : C) (cb : Nat) (w : World) (h : Own w cb 31 c.vals) :
    Calls Try.prog 38 #[.agg #[.int .i64 x.f, .int .i64 x.s, .int .i64 x.c, .int .i64 x.o, .int .i64 x.p], .pointer (some ⟨cb, 0, none⟩)] w fun r w' => r = .returned (.bool (same x c)) ∧ Below w.heap.size w w' := by
  obtain ⟨x1, x2, x3, x4, x5⟩ := x
  obtain ⟨y1, y2, y3, y4, y5⟩ := c
  have hl := h.lt
  have b0 := (Below.refl w.heap.size w).alloc (Nat.le_refl _) (.cells #[.int .i64 x1, .int .i64 x2, .int .i64 x3, .int .i64 x4, .int .i64 x5] 31)
  have k0 : Own w cb 31 #[.int .i64 y1, .int .i64 y2, .int .i64 y3, .int .i64 y4, .int .i64 y5] := h
  have k1 := k0.alloc (.cells #[.int .i64 x1, .int .i64 x2, .int .i64 x3, .int .i64 x4, .int .i64 x5] 31)
  have k2 := Own.new w 31 #[.int .i64 x1, .int .i64 x2, .int .i64 x3, .int .i64 x4, .int .i64 x5]
  have d1 := k1.cell 0
  have d2 := k1.cell 1
  have d3 := k1.cell 2
  have e1 := k2.cell 0
  have e2 := k2.cell 1
  have e3 := k2.cell 2
  simp at d1 d2 d3 e1 e2 e3
  obtain ⟨b1, hb1⟩ : ∃ b, (x1 == y1) = b := ⟨_, rfl⟩
  obtain ⟨b2, hb2⟩ : ∃ b, (x2 == y2) = b := ⟨_, rfl⟩
  obtain ⟨b3, hb3⟩ : ∃ b, (x3 == y3) = b := ⟨_, rfl⟩
  have HD : Hid (same ⟨x1, x2, x3, x4, x5⟩ ⟨y1, y2, y3, y4, y5⟩ = (b1 && (b2 && b3))) := Lib.hid (by unfold same; rw [← hb1, ← hb2, ← hb3])
  clear k0 k1 k2 h
  cases b1
  · go_enter Try.func38, Try.ntmps38
    go_wp2_with fail
    go_ret
    exact ⟨by rw [HD.out]; rfl, b0⟩
  · cases b2
    · go_enter Try.func38, Try.ntmps38
      go_wp2_with fail
      go_ret
      exact ⟨by rw [HD.out]; rfl, b0⟩
    · cases b3
      all_goals
        go_enter Try.func38, Try.ntmps38
        go_wp2_with fail
        go_ret
        exact ⟨by rw [HD.out]; rfl, b0⟩
def IdxPost (l : List C) (c : C) (w : World) (r : Ending) (w' : World) : Prop := ∃ z : Int, r = .returned (.int .i64 z) ∧ decide (0 ≤ z) = taken l c ∧ Below w.heap.size w w'
set_option maxHeartbeats 1000000 in
theorem idx_any (a : Option Addr) (n m : Nat) (l : List C) (c : C) (cb : Nat) (w : World) (hR : Row w a (n * 5) (lv l)) (hl : l.length = n) (hn : n ≤ 100000) (h : Own w cb 31 c.vals) :
    Calls Try.prog 43 #[.slice a n m, .func (.func 38) #[] #[.pointer (some ⟨cb, 0, none⟩)]] w (IdxPost l c w) := by
  have HR := Lib.hid hR
  have HO := Lib.hid h
  have HL := Lib.hid hl
  have hcb := h.lt
  clear hR h hl
  go_enter Try.func43, Try.ntmps43
  go_wp2_with fail
  go_loopw [8] (fun i wr => ∃ k : Nat, i = .int .i64 k ∧ k ≤ n ∧ Hid (∀ j, j < k → same (at_ l j) c = false) ∧ Below w.heap.size w wr) (fun i _ => n - (intOf i).toNat)
  case atStart => exact ⟨0, rfl, by omega, Lib.hid (fun j hj => by omega), Below.refl _ _⟩
  case round =>
    obtain ⟨k, rfl, hk, HN, b1⟩ := hrel
    by_cases hlt : k < n
    · obtain ⟨b, off, rfl, hbl, c0, c1, c2, c3, c4⟩ := row_c HR.out b1 hlt
      have HO2 := below_own b1 HO.out hcb
      have htk := fun w' (h' : Own w' cb 31 c.vals) => tk1_any (at_ l k) c cb w' h'
      obtain ⟨x, hx⟩ : ∃ x, at_ l k = x := ⟨_, rfl⟩
      have HX := Lib.hid hx
      rw [hx] at c0 c1 c2 c3 c4 htk
      clear hx
      cases hs : same x c
      · have HN2 : Hid (∀ j, j < k + 1 → same (at_ l j) c = false) := Lib.hid (fun j hj => by
          by_cases e : j = k
          · subst e; rw [HX.out]; exact hs
          · exact HN.out j (by omega))
        rw [hs] at htk
        clear hs
        go_wp2_with (go_at_call 38; refine (htk _ HO2).mono ?_; rintro r w5 ⟨rfl, b5⟩)
        exact ⟨⟨k + 1, by simp, by omega, HN2, b1.trans (b5.mono b1.size)⟩, by simp [intOf]; omega⟩
      · have HT : Hid (taken l c = true) := Lib.hid (by
          unfold taken
          rw [List.any_eq_true]
          exact ⟨x, by rw [← HX.out]; exact at_mem (by rw [HL.out]; exact hlt), hs⟩)
        rw [hs] at htk
        clear hs
        go_wp2_with (go_at_call 38; refine (htk _ HO2).mono ?_; rintro r w5 ⟨rfl, b5⟩)
        go_ret
        exact ⟨_, rfl, by rw [HT.out]; simp, b1.trans (b5.mono b1.size)⟩
    · have HT : Hid (taken l c = false) := Lib.hid (by
        unfold taken
        rw [List.any_eq_false]
        intro x hx
        obtain ⟨j, hj, rfl⟩ := mem_at hx
        rw [HN.out j (by rw [HL.out] at hj; omega)]
        decide)
      go_wp2_with fail
      go_ret
      exact ⟨_, rfl, by rw [HT.out]; rfl, b1⟩
theorem con_any (a : Option Addr) (n m : Nat) (l : List C) (c : C) (cb : Nat) (w : World) (hR : Row w a (n * 5) (lv l)) (hl : l.length = n) (hn : n ≤ 100000) (h : Own w cb 31 c.vals) :
    Calls Try.prog 37 #[.slice a n m, .func (.func 38) #[] #[.pointer (some ⟨cb, 0, none⟩)]] w fun r w' => r = .returned (.bool (taken l c)) ∧ Below w.heap.size w w' := by
  have hi := idx_any a n m l c cb w hR hl hn h
  clear hR h
  go_enter Try.func37, Try.ntmps37
  go_wp2_with (go_at_call 43; refine hi.mono ?_; rintro r w5 ⟨z, rfl, hz, b5⟩)
  go_ret
  exact ⟨by first | (rw [← hz]; rfl) | (simp [hz]) , b5⟩
end Go.Proofs.Ytdknacbdkekfnaa.Ce
