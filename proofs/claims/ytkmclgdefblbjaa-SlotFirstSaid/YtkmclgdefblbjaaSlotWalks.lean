/-
  Package slot and the reference's Decide: what each function answers.
-/
import Derived.Test.YtkmclgdefblbjaaSlotMath
import Derived.Test.YtkmclgdefblbjaaRowOut
import Derived.Deep.Cut
set_option maxRecDepth 100000
namespace Go.Proofs.Ytkmclgdefblbjaa.Sl
set_option linter.unusedVariables false
open Go.RowKit Lb Cl

theorem mayGo_any (x : C) (b : Bool) (w : World) :
    Calls Try.prog 12 #[.agg x.vals, .bool b] w fun r w' => r = .returned (.bool (goB x.o b)) ∧ Below w.heap.size w w' := by
  have hb := (Below.refl w.heap.size w).alloc (Nat.le_refl _) (.cells x.vals 26)
  obtain ⟨f, s, c, o, p⟩ := x
  show Calls Try.prog 12 #[.agg #[.int .i64 f, .int .i64 s, .int .i64 c, .int .i64 o, .int .i64 p], .bool b] w _
  obtain ⟨T, hT⟩ : ∃ T, txB o = T := ⟨_, rfl⟩
  obtain ⟨S, hS⟩ : ∃ S, shB o = S := ⟨_, rfl⟩
  have HD : Hid (goB o b = (T && (b || !S))) := Lib.hid (by rw [← hT, ← hS]; rfl)
  have t1 : (bits .and .i64 o 1 != 0) = T := hT
  have t2 : (bits .and .i64 o 4 == 0) = !S := by rw [← hS]; simp [shB, bne]
  clear hT hS
  cases T <;> cases b <;> cases S
  all_goals
    go_enter Try.func12, Try.ntmps12
    go_wp2_with fail
    all_goals
      go_ret
      exact ⟨by rw [HD.out]; rfl, hb⟩
set_option maxHeartbeats 2000000 in
theorem places_any (a : Option Addr) (n c : Nat) (W : Nat → Int) (w : World) (hn : n ≤ c) (hm : c ≤ maxLen) (hZ : Row w a n (fun i => .int .i64 (W i))) :
    Calls Try.prog 10 #[.slice a n c] w fun r w' => r = .returned (.agg (Array.ofFn (n := 17) fun i => .int .i64 (fst1 W n i))) ∧ Below w.heap.size w w' := by
  obtain ⟨zs, hzs⟩ : ∃ zs : Array Value, zs = #[.int .i64 0, .int .i64 0, .int .i64 0, .int .i64 0, .int .i64 0, .int .i64 0, .int .i64 0, .int .i64 0, .int .i64 0, .int .i64 0, .int .i64 0, .int .i64 0, .int .i64 0, .int .i64 0, .int .i64 0, .int .i64 0, .int .i64 0] := ⟨_, rfl⟩
  have hb := ((Below.refl w.heap.size w).alloc (Nat.le_refl _) (.cells zs 34)).alloc (by simp) (.cells zs 34)
  have o0 : Own ((w.alloc (.cells zs 34)).alloc (.cells zs 34)) w.heap.size 34 zs := (Own.new w _ _).alloc _
  have k1 : Blk ((w.alloc (.cells zs 34)).alloc (.cells zs 34)) (w.heap.size + 1) 34 17 (fun q => .int .i64 (if q < 0 then -1 else 0)) := by
    have := Own.new (w.alloc (.cells zs 34)) 34 zs
    have e : (w.alloc (.cells zs 34)).heap.size = w.heap.size + 1 := by simp
    rw [e] at this
    exact (Blk.same this (v := .int .i64 0) (by rw [hzs]; rfl)).ext (fun i _ => by simp)
  have hss : zs.size = 17 := by rw [hzs]; rfl
  go_enter Try.func10, Try.ntmps10
  go_wp2_with fail
  rw [← hzs]
  clear hzs
  generalize (w.alloc (.cells zs 34)).alloc (.cells zs 34) = w1 at *
  go_loopw [7] (fun i wr => ∃ k : Nat, i = .int .i64 k ∧ k ≤ 17 ∧ Blk wr (w.heap.size + 1) 34 17 (fun q => .int .i64 (if q < k then -1 else 0)) ∧ Own wr w.heap.size 34 zs ∧ Below w.heap.size w wr) (fun i _ => 17 - (intOf i).toNat)
  case atStart => exact ⟨0, rfl, by omega, k1, o0, hb⟩
  case round =>
    clear k1 o0 hb
    obtain ⟨k, rfl, hk, k1, o0, hb⟩ := hrel
    by_cases hlt : k < 17
    · have c0 := k1.cell hlt
      have f0 := k1.free k
      have g1 : (k : Int) < 17 := by omega
      go_wp2_with fail
      have k2 : Blk (wr.setCell ⟨w.heap.size + 1, k, none⟩ (.int .i64 (-1))) (w.heap.size + 1) 34 17 (fun q => .int .i64 (if q < k + 1 then -1 else 0)) :=
        (k1.put k (.int .i64 (-1))).ext fun i hi => by
          by_cases h1 : i = k
          · subst h1; simp
          · simp only [if_neg h1]
            by_cases h2 : i < k
            · rw [if_pos h2, if_pos (by omega)]
            · rw [if_neg h2, if_neg (by omega)]
      exact ⟨⟨k + 1, by simp [intOf], by omega, k2, o0.apart (by simp) _, (Just.set _ _ _ _).below hb (by omega) (by have := hb.size; omega)⟩, by simp [intOf]; omega⟩
    · obtain rfl : 17 = k := by omega
      have k3 : Blk wr (w.heap.size + 1) 34 17 (fun q => .int .i64 (fst0 W 0 q)) := k1.ext fun i hi => by rw [if_pos hi, fst0_zero]
      clear k1 hlt hk
      go_wp2_with fail
      go_loopw [15] (fun i w2 => ∃ k : Nat, i = .int .i64 k ∧ k ≤ n ∧ Blk w2 (w.heap.size + 1) 34 17 (fun q => .int .i64 (fst0 W k q)) ∧ Own w2 w.heap.size 34 zs ∧ Below w.heap.size w w2) (fun i _ => n - (intOf i).toNat)
      case atStart => exact ⟨0, rfl, by omega, k3, o0, hb⟩
      case round =>
        clear k3 o0 hb
        obtain ⟨k, rfl, hk, k1, o0, hb⟩ := hrel
        have hcap : (n : Int) ≤ 9223372036854775807 := by unfold maxLen at hm; omega
        by_cases hlt : k < n
        · obtain ⟨b, o, rfl, hbl, c0⟩ := hZ.at_old hb hlt
          have same (h : W k < 0 ∨ 16 ≤ W k ∨ fst0 W k (W k).toNat ≠ -1) : Blk wr (w.heap.size + 1) 34 17 (fun q => .int .i64 (fst0 W (k + 1) q)) := k1.ext fun i _ => by rw [fst0_skip h]
          by_cases g0 : W k < 0
          · have k2 := Lib.hid (same (.inl g0))
            clear same k1
            go_wp2_with fail
            exact ⟨⟨_, _, _, ⟨k + 1, by simp, by omega, k2.out⟩, rfl, rfl, rfl⟩, by simp [intOf]; omega⟩
          · by_cases g1 : W k < 16
            · obtain ⟨p, hp⟩ := Int.eq_ofNat_of_zero_le (show 0 ≤ W k by omega)
              have c1 := k1.cell (i := p) (by omega)
              have f1 := k1.free p
              have hp2 := Lib.hid hp
              rw [hp] at c0 g1
              clear hp g0
              by_cases g2 : fst0 W k p = -1
              · have k2 := Lib.hid ((k1.put p (.int .i64 (k : Int))).ext (U := fun q => .int .i64 (fst0 W (k + 1) q)) fun i hi => by
                  rw [fst0_take hp2.out (by omega) g2]
                  by_cases h1 : i = p
                  · rw [if_pos h1, if_pos h1]
                  · rw [if_neg h1, if_neg h1])
                rw [g2] at c1
                clear same k1 g2
                go_wp2_with fail
                exact ⟨⟨k + 1, by simp [intOf], by omega, k2.out, o0.apart (by simp) _, (Just.set _ _ _ _).below hb (by omega) (by have := hb.size; omega)⟩, by simp [intOf]; omega⟩
              · have k2 := Lib.hid (same (.inr (.inr (by rw [hp2.out]; exact g2))))
                have g3 : (fst0 W k p == -1) = false := by simpa using g2
                clear same k1 g2
                generalize fst0 W k p = v at *
                go_wp2_with fail
                exact ⟨⟨k + 1, by simp [intOf], by omega, k2.out, o0, hb⟩, by simp [intOf]; omega⟩
            · have k2 := Lib.hid (same (.inr (.inl (by omega))))
              have g2 : decide (W k < 16) = false := by simpa using g1
              have g3 : 0 ≤ W k := by omega
              clear same k1 g0 g1
              go_wp2_with fail
              exact ⟨⟨k + 1, by simp [intOf], by omega, k2.out, o0, hb⟩, by simp [intOf]; omega⟩
        · obtain rfl : n = k := by omega
          clear hlt hk
          by_cases h0 : 0 < n
          · have g0 : (0 : Int) < (n : Int) := by omega
            have f1 := k1.free 16
            have c1 := k1.cell (i := 16) (by omega)
            have k2 := (k1.put 16 (.int .i64 0)).ext (U := fun q => .int .i64 (fst1 W n q)) fun i hi => by
              unfold fst1
              by_cases h1 : i = 16
              · rw [if_pos h1, if_pos h1, if_pos h0]
              · rw [if_neg h1, if_neg h1]
            have bb := (Just.set (w.heap.size + 1) wr 16 (.int .i64 0)).below hb (by omega) (by have := hb.size; omega)
            have oo := o0.apart (p := ⟨w.heap.size + 1, 16, none⟩) (by simp) (.int .i64 0)
            have kk := Lib.hid k2
            clear k2 k1 hb o0
            go_upto_region 15 with (fail)
            generalize wr.setCell ⟨w.heap.size + 1, 16, none⟩ (.int .i64 0) = wx at *
            refine wp_row_out rfl rfl rfl rfl rfl kk.out Try.underlying34 rfl (by kernel_rfl) rfl rfl oo (by kernel_rfl) (by simp [hss]) (by rw [Array.all_eq_true]; intro i hi; simp; rfl) ?_
            go_wp2_with fail
            refine bodyPost_ret (results_cell_row rfl _ _ w.heap.size 34 _ (0, 0) _ rfl (oo.setRow _) Try.underlying34 rfl (by kernel_rfl)) rfl ⟨rfl, (Just.setRow _ _ _).below bb (Nat.le_refl _) bb.size⟩
          · obtain rfl : 0 = n := by omega
            have k2 := k1.ext (U := fun q => .int .i64 (fst1 W 0 q)) fun i hi => by
              unfold fst1
              by_cases h1 : i = 16
              · subst h1; rfl
              · rw [if_neg h1]
            have oo := o0
            have bb := hb
            have kk := Lib.hid k2
            clear k2 k1 hb o0
            go_upto_region 15 with (fail)
            refine wp_row_out rfl rfl rfl rfl rfl kk.out Try.underlying34 rfl (by kernel_rfl) rfl rfl oo (by kernel_rfl) (by simp [hss]) (by rw [Array.all_eq_true]; intro i hi; simp; rfl) ?_
            go_wp2_with fail
            refine bodyPost_ret (results_cell_row rfl _ _ w.heap.size 34 _ (0, 0) _ rfl (oo.setRow _) Try.underlying34 rfl (by kernel_rfl)) rfl ⟨rfl, (Just.setRow _ _ _).below bb (Nat.le_refl _) bb.size⟩
end Go.Proofs.Ytkmclgdefblbjaa.Sl
