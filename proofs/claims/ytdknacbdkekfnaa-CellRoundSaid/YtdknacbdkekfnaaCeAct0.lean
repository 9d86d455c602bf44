/-
  Package cell: Active where nothing is.
-/
import Derived.Test.YtdknacbdkekfnaaCeLaw
set_option maxRecDepth 100000
namespace Go.Proofs.Ytdknacbdkekfnaa.Ce
set_option linter.unusedVariables false
open Go.RowKit Lb Cl

set_option maxHeartbeats 1000000 in
theorem act_zero (base b : Nat) (N : Nat → Int) (l : List C) (v : Value) (t : Int) (w : World) (tb : Tab w base b N l v) (hz : act N l t = []) :
    Calls Try.prog 18 #[.pointer (some ⟨b, 0, none⟩), .int .i64 t] w fun r w' => r = .returned (.slice none 0 0) ∧ Below w.heap.size w w' := by
  rcases (show t < 0 ∨ (0 ≤ t ∧ 1099511627776 ≤ t) ∨ (0 ≤ t ∧ t < 1099511627776) by omega) with ht | ⟨ht0, ht⟩ | ⟨ht0, ht⟩
  · go_enter Try.func18, Try.ntmps18
    go_wp2_with fail
    go_ret
    exact ⟨rfl, Below.refl _ _⟩
  · have g0 : decide (t < 0) = false := by simp; omega
    go_enter Try.func18, Try.ntmps18
    go_wp2_with fail
    go_ret
    exact ⟨rfl, Below.refl _ _⟩
  · have HZ : Hid (∀ k, k < l.length → onB N t (at_ l k) = false) := Lib.hid (fun k hk => by
      unfold act at hz
      rw [if_pos ⟨ht0, ht⟩, List.filter_eq_nil_iff] at hz
      have := hz _ (at_mem hk)
      simpa using this)
    clear hz
    have g0 : decide (t < 0) = false := by simp; omega
    have g1 : decide (1099511627776 ≤ t) = false := by simp; omega
    obtain ⟨A, c, rfl, hc1, hc2, hR⟩ := tb.row.row
    unfold maxLen at hc2
    have hfew := tb.good.few
    have c4 := tb.v4
    have HT := Lib.hid tb
    have HR := Lib.hid hR
    obtain ⟨m, hm⟩ : ∃ m, l.length = m := ⟨_, rfl⟩
    rw [hm] at c4 HT HR hfew hc1 HZ
    have HL := Lib.hid hm
    clear tb hR hm
    go_enter Try.func18, Try.ntmps18
    go_wp2_with fail
    go_loopw [5, 23] (fun u i wr => ∃ k : Nat, i = .int .i64 k ∧ k ≤ m ∧ u = .slice none 0 0 ∧ Below w.heap.size w wr) (fun _ i _ => m - (intOf i).toNat)
    case atStart => exact ⟨0, rfl, by omega, rfl, Below.refl _ _⟩
    case round =>
      obtain ⟨k, rfl, hk, rfl, b1⟩ := hrel
      by_cases hlt : k < m
      · obtain ⟨bo, off, rfl, hbo, d0, d1, d2, d3, d4⟩ := row_c HR.out b1 hlt
        have hup := HZ.out k hlt
        have hcell := HT.out.good.cell _ (at_mem (k := k) (by rw [HL.out]; exact hlt))
        have hNle := HT.out.good.len
        obtain ⟨x, hx⟩ : ∃ x, at_ l k = x := ⟨_, rfl⟩
        rw [hx] at d0 d1 d2 d3 d4 hup hcell
        obtain ⟨a, ha0⟩ := Int.eq_ofNat_of_zero_le hcell.1
        have ha : a < 4 := by omega
        rw [ha0, Int.toNat_natCast] at hcell
        have i0' : (0 : Int) ≤ (a : Int) := by omega
        have i1' : (a : Int) < 4 := by omega
        have cN := (HT.out.below b1).n ha
        obtain ⟨n0, hn0⟩ : ∃ n0, N a = n0 := ⟨_, rfl⟩
        have hn1 := hNle a
        rw [hn0] at cN hcell hn1
        have z1 : (n0 == 0) = false := by simp; omega
        have z2 : n0 ≠ 0 := by omega
        have z3 : t.tmod n0 = t % n0 := Int.tmod_eq_emod_of_nonneg ht0
        obtain ⟨e, he⟩ : ∃ e, (t % n0 == x.s) = e := ⟨_, rfl⟩
        have hon : onB N t x = e := by unfold onB; rw [ha0, Int.toNat_natCast, hn0, he]
        rw [hon] at hup
        subst hup
        rw [ha0] at d0
        have HA := Lib.hid ha0
        have b2 := b1.alloc b1.size (.cells #[.int .i64 (a : Int), .int .i64 x.s, .int .i64 x.c, .int .i64 x.o, .int .i64 x.p] 31)
        have o2 := Own.new wr 31 #[.int .i64 (a : Int), .int .i64 x.s, .int .i64 x.c, .int .i64 x.o, .int .i64 x.p]
        have cN2 := keep_cell ((Below.refl wr.heap.size wr).alloc (Nat.le_refl _) (.cells #[.int .i64 (a : Int), .int .i64 x.s, .int .i64 x.c, .int .i64 x.o, .int .i64 x.p] 31)) cN
        clear hx hcell hn1 hNle hn0 ha0 hon
        have bk4 := keep_cell b2 c4
        go_wp2_with fail
        generalize wr.alloc (.cells #[.int .i64 (a : Int), .int .i64 x.s, .int .i64 x.c, .int .i64 x.o, .int .i64 x.p] 31) = w2 at *
        have e0 := o2.cell 0
        have e1 := o2.cell 1
        simp at e0 e1
        go_quiet (fail)
        go_wp2_with fail
        exact ⟨⟨k + 1, by simp, by omega, rfl, below_drewN b2 _⟩, by simp [intOf]; omega⟩
      · obtain rfl : m = k := by omega
        go_wp2_with fail
        go_ret
        exact ⟨rfl, b1⟩
end Go.Proofs.Ytdknacbdkekfnaa.Ce
