/-
  The reference of joining (chapter 18): MayCells, SameCells, SameGrant (where they are the same); the law's want.
-/
import Derived.Test.YtphiohdhgkpgnaaCeRMay
import Derived.Test.YtphiohdhgkpgnaaCeEq
import Derived.Test.YtphiohdhgkpgnaaJoAw
set_option maxRecDepth 100000
namespace Go.Proofs.Ytphiohdhgkpgnaa.Jo
set_option linter.unusedVariables false
open Go.RowKit Lb Go.Shelf Bf Se Cl

set_option maxHeartbeats 2000000 in
theorem rmaycells_any (a : Option Addr) (n c : Nat) (L : Nat → C) (w : World) (hn : n ≤ c) (hc : c ≤ maxLen) (hL : Row w a (n * 5) (cv L)) :
    Calls Try.prog 23 #[.slice a n c] w fun e w' => e = .returned (.bool (mayL L n)) ∧ Below w.heap.size w w' := by
  unfold maxLen at hc
  have hn63 : (n : Int) ≤ 9223372036854775807 := by omega
  have hc63 : (c : Int) ≤ 9223372036854775807 := by omega
  go_enter Try.func23, Try.ntmps23
  go_wp2_with fail
  go_loopw [7] (fun i wr => ∃ k : Nat, i = .int .i64 k ∧ k ≤ n ∧ (∀ j, j < k → (L j).may = true) ∧ Below w.heap.size w wr) (fun i _ => n - (intOf i).toNat)
  case atStart => exact ⟨0, rfl, Nat.zero_le _, fun j hj => absurd hj (by omega), Below.refl _ _⟩
  case round =>
    obtain ⟨k, rfl, hk, hm, bb⟩ := hrel
    by_cases hlt : k < n
    · obtain ⟨b, off, rfl, _, d0, d1, d2, d3, d4⟩ := crow hL bb hlt
      have PM : ∀ W, Calls Try.prog 42 #[.agg #[.int .i64 (L k).f, .int .i64 (L k).s, .int .i64 (L k).c, .int .i64 (L k).o, .int .i64 (L k).p]] W fun e w' => e = .returned (.bool (L k).may) ∧ Below W.heap.size W w' := fun W => ref_may (L k).f (L k).s (L k).c (L k).o (L k).p W
      have HM : Hid (∀ j, j < k → (L j).may = true) := Lib.hid hm
      have b4 := bb.alloc bb.size (.cells #[.int .i64 (L k).f, .int .i64 (L k).s, .int .i64 (L k).c, .int .i64 (L k).o, .int .i64 (L k).p] 62)
      clear hm
      cases hx : (L k).may with
      | false =>
        have HX := Lib.hid hx
        rw [hx] at PM
        clear hx
        go_wp2_with fail
        refine (PM _).mono ?_
        rintro e w5 ⟨rfl, b5⟩
        go_wp2_with fail
        go_ret
        refine ⟨?_, b4.trans (b5.mono b4.size)⟩
        have : mayL L n = false := by
          cases h : mayL L n with
          | false => rfl
          | true =>
            have := (mayL_iff.1 h).2 k hlt
            rw [HX.out] at this
            cases this
        rw [this]
        rfl
      | true =>
        have HX := Lib.hid hx
        rw [hx] at PM
        clear hx
        go_wp2_with fail
        refine (PM _).mono ?_
        rintro e w5 ⟨rfl, b5⟩
        go_wp2_with fail
        exact ⟨⟨k + 1, by simp, by omega, fun j hj => by
          rcases Nat.lt_succ_iff_lt_or_eq.1 hj with h | h
          · exact HM.out j h
          · rw [h]; exact HX.out, b4.trans (b5.mono b4.size)⟩, by simp [intOf]; omega⟩
    · obtain rfl : k = n := by omega
      have HD : Hid (mayL L k = decide ((k : Int) ≤ 8)) := Lib.hid (by
        by_cases h8 : k ≤ 8
        · rw [mayL_iff.2 ⟨h8, hm⟩]
          exact (decide_eq_true (by omega)).symm
        · rw [show mayL L k = false from by unfold mayL; simp; omega]
          exact (decide_eq_false (by omega)).symm)
      clear hm
      go_wp2_with fail
      go_ret
      exact ⟨by rw [HD.out]; rfl, bb⟩
theorem want_any (a : Option Addr) (n c : Nat) (L : Nat → C) (w : World) (hn : n ≤ c) (hc : c ≤ maxLen) (hL : Row w a (n * 5) (cv L)) :
    Calls Try.prog 25 #[.slice a n c] w fun e w' => e = .returned (if mayL L n = true then .slice a n c else .slice none 0 0) ∧ Below w.heap.size w w' := by
  have PM := rmaycells_any a n c L w hn hc hL
  unfold maxLen at hc
  have hn63 : (n : Int) ≤ 9223372036854775807 := by omega
  have hc63 : (c : Int) ≤ 9223372036854775807 := by omega
  cases hx : mayL L n with
  | false =>
    rw [hx] at PM
    have HPM := Lib.hid PM
    clear PM hx hL
    go_enter Try.func25, Try.ntmps25
    go_wp2_with fail
    refine HPM.out.mono ?_
    rintro e w5 ⟨rfl, b5⟩
    go_wp2_with fail
    go_ret
    exact ⟨rfl, b5⟩
  | true =>
    rw [hx] at PM
    have HPM := Lib.hid PM
    clear PM hx hL
    go_enter Try.func25, Try.ntmps25
    go_wp2_with fail
    refine HPM.out.mono ?_
    rintro e w5 ⟨rfl, b5⟩
    go_wp2_with fail
    go_ret
    exact ⟨rfl, b5⟩
theorem rsame_any (a b : Option Addr) (n c d : Nat) (L : Nat → C) (w : World) (hn : n ≤ c) (hm : n ≤ d) (hc : c ≤ maxLen) (hd : d ≤ maxLen) (hX : Row w a (n * 5) (cv L)) (hY : Row w b (n * 5) (cv L)) :
    Calls Try.prog 24 #[.slice a n c, .slice b n d] w fun r w' => r = .returned (.bool true) ∧ Below w.heap.size w w' := by
  unfold maxLen at hc hd
  have hn63 : (n : Int) ≤ 9223372036854775807 := by omega
  have hc63 : (c : Int) ≤ 9223372036854775807 := by omega
  have hd63 : (d : Int) ≤ 9223372036854775807 := by omega
  go_enter Try.func24, Try.ntmps24
  go_wp2_with fail
  go_loopw [13] (fun i wr => ∃ (k m : Nat), i = .int .i64 k ∧ k ≤ n ∧ w.drewN m = wr) (fun i _ => n - (intOf i).toNat)
  case atStart => exact ⟨0, 0, rfl, by omega, rfl⟩
  case round =>
    obtain ⟨k, m, rfl, hk, rfl⟩ := hrel
    by_cases hlt : k < n
    · obtain ⟨p, o, rfl, _, d0, d1, d2, d3, d4⟩ := crow hX (Below.refl _ _) hlt
      obtain ⟨q, s, rfl, _, e0, e1, e2, e3, e4⟩ := crow hY (Below.refl _ _) hlt
      have hq := Ce.neq_c (L k) (L k)
      have hs : Ce.eqC (L k) (L k) = true := (Ce.eqC_is _ _).2 rfl
      simp only [hs, Bool.not_true] at hq
      generalize L k = x at *
      clear hs
      go_wp2_with fail
      go_quiet (fail)
      go_wp2_with fail
      exact ⟨⟨k + 1, _, by go_num, by omega, rfl⟩, by simp [intOf]; omega⟩
    · obtain rfl : k = n := by omega
      go_wp2_with fail
      go_ret
      exact ⟨rfl, below_drewN (Below.refl _ _) m⟩
set_option maxHeartbeats 2000000 in
theorem rsamegrant_any (g : Gt) (a b : Option Addr) (c d : Nat) (w : World) (hn : g.n ≤ c) (hm : g.n ≤ d) (hc : c ≤ maxLen) (hd : d ≤ maxLen) (hX : Row w a (g.n * 5) (cv g.L)) (hY : Row w b (g.n * 5) (cv g.L)) :
    Calls Try.prog 18 #[.agg (g.vals a c), .agg (g.vals b d)] w fun r w' => r = .returned (.bool true) ∧ Below w.heap.size w w' := by
  obtain ⟨nd, cd, no, n, L, tg⟩ := g
  dsimp only at hn hm hX hY
  have ba := (Below.refl w.heap.size w).alloc (Nat.le_refl _) (.cells (Gt.vals ⟨nd, cd, no, n, L, tg⟩ a c) 28)
  have o1 := Lb.Own.new w 28 (Gt.vals ⟨nd, cd, no, n, L, tg⟩ a c)
  have bb := (Below.refl _ (w.alloc (.cells (Gt.vals ⟨nd, cd, no, n, L, tg⟩ a c) 28))).alloc (Nat.le_refl _) (.cells (Gt.vals ⟨nd, cd, no, n, L, tg⟩ b d) 28)
  have o1' := below_own bb o1 o1.lt
  have o2 := Lb.Own.new (w.alloc (.cells (Gt.vals ⟨nd, cd, no, n, L, tg⟩ a c) 28)) 28 (Gt.vals ⟨nd, cd, no, n, L, tg⟩ b d)
  have hsz : (w.alloc (.cells (Gt.vals ⟨nd, cd, no, n, L, tg⟩ a c) 28)).heap.size = w.heap.size + 1 := by simp
  rw [hsz] at o2
  have bz := ba.trans (bb.mono ba.size)
  have PS := rsame_any a b n c d L
  have hX' := hX.below bz
  have hY' := hY.below bz
  unfold maxLen at hc hd
  have hn63 : (n : Int) ≤ 9223372036854775807 := by omega
  have hc63 : (c : Int) ≤ 9223372036854775807 := by omega
  have hd63 : (d : Int) ≤ 9223372036854775807 := by omega
  go_enter Try.func18, Try.ntmps18
  go_upto_region 1 with (fail)
  generalize (w.alloc (.cells (Gt.vals ⟨nd, cd, no, n, L, tg⟩ a c) 28)).alloc (.cells (Gt.vals ⟨nd, cd, no, n, L, tg⟩ b d) 28) = w1 at *
  obtain ⟨h, hh⟩ : ∃ h, w.heap.size = h := ⟨_, rfl⟩
  rw [hh] at o1' o2 bz ⊢
  have c0 : w1.cell? ⟨h, 0, none⟩ = some (.int .i64 nd) := o1'.cell 0
  have c1 : w1.cell? ⟨h, 1, none⟩ = some (.int .i64 cd) := o1'.cell 1
  have c2 : w1.cell? ⟨h, 2, none⟩ = some (.int .u32 no) := o1'.cell 2
  have c3 : w1.cell? ⟨h, 3, none⟩ = some (.slice a n c) := o1'.cell 3
  have c4 : w1.cell? ⟨h, 4, none⟩ = some (.int .u32 tg) := o1'.cell 4
  have d0 : w1.cell? ⟨h + 1, 0, none⟩ = some (.int .i64 nd) := o2.cell 0
  have d1 : w1.cell? ⟨h + 1, 1, none⟩ = some (.int .i64 cd) := o2.cell 1
  have d2 : w1.cell? ⟨h + 1, 2, none⟩ = some (.int .u32 no) := o2.cell 2
  have d3 : w1.cell? ⟨h + 1, 3, none⟩ = some (.slice b n d) := o2.cell 3
  have d4 : w1.cell? ⟨h + 1, 4, none⟩ = some (.int .u32 tg) := o2.cell 4
  have HPS := Lib.hid (PS w1 hn hm (by unfold maxLen; omega) (by unfold maxLen; omega) hX' hY')
  have HZ := Lib.hid bz
  have HS1 := Lib.hid o1'
  have HS2 := Lib.hid o2
  clear PS hX hY hX' hY' ba bb bz o1 hsz
  go_wp2_with fail
  refine HPS.out.mono ?_
  rintro e w2 ⟨rfl, b2⟩
  have o3 := below_own b2 HS1.out HS1.out.lt
  have o4 := below_own b2 HS2.out HS2.out.lt
  clear c0 c1 c2 c3 c4 d0 d1 d2 d3 d4
  have c4 : w2.cell? ⟨h, 4, none⟩ = some (.int .u32 tg) := o3.cell 4
  have d4 : w2.cell? ⟨h + 1, 4, none⟩ = some (.int .u32 tg) := o4.cell 4
  have HZ2 := Lib.hid (HZ.out.trans (b2.mono (by rw [← hh]; exact HZ.out.size)))
  clear o1' o2 o3 o4 b2
  go_wp2_with fail
  go_ret
  exact ⟨rfl, by rw [hh]; exact HZ2.out⟩
end Go.Proofs.Ytphiohdhgkpgnaa.Jo
