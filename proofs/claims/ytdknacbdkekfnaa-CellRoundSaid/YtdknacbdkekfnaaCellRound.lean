/-
  Law CellRound: what is active now is active again just when its slotframe has gone by, once in each round; the call returns true. No condition.
-/
import Derived.Test.YtdknacbdkekfnaaCeAct0
import Derived.Test.YtdknacbdkekfnaaMild
import Derived.Deep.Strs
set_option maxRecDepth 100000
namespace Go.Proofs.Ytdknacbdkekfnaa.CellRound
set_option linter.unusedVariables false
open Go.RowKit Go.ChangeShapes Go.WideShapes Go.ChangeAt Go.Deep Lb Cl Ce
set_option linter.unusedVariables false
theorem own : ownKnob Try.prog.godebug = none := by kernel_rfl
theorem laidOut : laidOutB Try.prog = true := by kernel_rfl
/-- In which slot of those from A on the cell of slot s is active, in a slotframe of L. -/
theorem hit_at {A L s : Int} {k : Nat} (hs : 0 ≤ s) (hsL : s < L) (hk : (k : Int) < L) : (A + k) % L = s ↔ (k : Int) = (s - A) % L := by
  constructor
  · intro h
    have e : (s - A) % L = (k : Int) % L := by
      rw [← h, Int.sub_emod, Int.emod_emod, ← Int.sub_emod]
      congr 1
      omega
    rw [e, Int.emod_eq_of_lt (by omega) hk]
  · intro h
    have e : (A + (s - A) % L) % L = s % L := by
      rw [Int.add_emod, Int.emod_emod, ← Int.add_emod]
      congr 1
      omega
    rw [h, e, Int.emod_eq_of_lt hs hsL]
def cnt (L s r : Int) (k : Nat) : Int := if s < L ∧ r < (k : Int) then 1 else 0
theorem act_hit {N : Nat → Int} {c : C} {t : Int} (h0 : 0 ≤ t) (h1 : t < 1099511627776) (h : t % N c.f.toNat = c.s) : act N [c] t = [c] := by
  unfold act
  rw [if_pos ⟨h0, h1⟩, List.filter_cons, if_pos (by simp [onB, h])]
  rfl
theorem act_miss {N : Nat → Int} {c : C} {t : Int} (h : t % N c.f.toNat ≠ c.s) : act N [c] t = [] := by
  unfold act
  split
  · rw [List.filter_cons, if_neg (by simp [onB, h])]
    rfl
  · rfl
theorem act_none (N : Nat → Int) (t : Int) : act N [] t = [] := by
  unfold act
  split <;> rfl
set_option maxHeartbeats 1000000 in
theorem body (c : C) (n a : Int) (w : World) :
    Calls Try.prog 5 #[.agg #[.int .i64 c.f, .int .i64 c.s, .int .i64 c.c, .int .i64 c.o, .int .i64 c.p], .int .i64 n, .int .i64 a] w fun r w' => r = .returned (.bool true) ∧ Below w.heap.size w w' := by
  have o0 : Own (w.alloc (.cells #[.int .i64 c.f, .int .i64 c.s, .int .i64 c.c, .int .i64 c.o, .int .i64 c.p] 31)) w.heap.size 31 c.vals := Own.new w _ _
  have b0 := (Below.refl w.heap.size w).alloc (Nat.le_refl _) (.cells #[.int .i64 c.f, .int .i64 c.s, .int .i64 c.c, .int .i64 c.o, .int .i64 c.p] 31)
  have hmay := fun w => may_any c.f c.s c.c c.o c.p w
  have hz0 : w.heap.size < (w.alloc (.cells #[.int .i64 c.f, .int .i64 c.s, .int .i64 c.c, .int .i64 c.o, .int .i64 c.p] 31)).heap.size := by simp
  obtain ⟨L, hL⟩ : ∃ L : Int, 1 + (n % 18446744073709551616) % 200 = L := ⟨_, rfl⟩
  obtain ⟨A, hA⟩ : ∃ A : Int, (a % 18446744073709551616) % 549755813888 = A := ⟨_, rfl⟩
  have hL0 : 1 ≤ L := by omega
  have hL1 : L ≤ 200 := by omega
  have hA0 : 0 ≤ A := by omega
  have hA1 : A < 549755813888 := by omega
  have q1 : wrap64 (1 + wrap64 ((IntKind.u64.wrap n).tmod 200)) = L := by
    rw [IntKind.wrap_u64, Int.tmod_eq_emod_of_nonneg (Int.emod_nonneg _ (by decide)), IntWalk.wrap64_in (n % 18446744073709551616 % 200) ⟨by omega, by omega⟩, hL, IntWalk.wrap64_in _ ⟨by omega, by omega⟩]
  have q2 : wrap64 ((IntKind.u64.wrap a).tmod 549755813888) = A := by
    rw [IntKind.wrap_u64, Int.tmod_eq_emod_of_nonneg (Int.emod_nonneg _ (by decide)), hA, IntWalk.wrap64_in _ ⟨by omega, by omega⟩]
  clear hL hA
  cases hm : c.may
  · have hm' : mayC c.f c.s c.c c.o c.p = false := hm
    have hE : ∀ N, addE N [] c = 1 := fun N => by unfold addE; rw [hm]; rfl
    have HE := Lib.hid hE
    rw [hm'] at hmay
    clear hm hm' hE
    go_enter Try.func5, Try.ntmps5
    go_wp2_with fail
    generalize w.alloc (.cells #[.int .i64 c.f, .int .i64 c.s, .int .i64 c.c, .int .i64 c.o, .int .i64 c.p] 31) = w1 at *
    go_wp2_with fail
    refine (new_any _).mono ?_
    rintro r w3 ⟨rfl, t3, b3⟩
    obtain ⟨B, hB⟩ : ∃ B, w1.heap.size = B := ⟨_, rfl⟩
    have o3 := below_own b3 o0 o0.lt
    have b3 := b0.trans (b3.mono b0.size)
    rw [hB] at t3 ⊢
    have hlB : w.heap.size < B := by rw [← hB]; exact o0.lt
    clear hB o0
    obtain ⟨d0, d1, d2, d3, d4⟩ := own_c o3
    go_wp2_with fail
    refine (hmay _).mono ?_
    rintro r w4 ⟨rfl, b4⟩
    have t4 := t3.below b4
    have o4 := below_own b4 o3 o3.lt
    have b4 := b3.trans (b4.mono b3.size)
    clear d0 d1 d2 d3 d4 t3 o3
    obtain ⟨d0, d1, d2, d3, d4⟩ := own_c o4
    go_wp2_with fail
    refine (add_any B B (fun _ => 0) [] _ c _ t4).mono ?_
    rintro r w5 ⟨rfl, v5, t5, j5⟩
    have b5 := b4.trans ((j5.old t4).mono (Nat.le_of_lt hlB))
    rw [HE.out]
    go_wp2_with fail
    refine (awake_any _).mono ?_
    rintro r w9 ⟨rfl, b9⟩
    go_wp2_with fail
    go_ret
    exact ⟨rfl, b5.trans (b9.mono b5.size)⟩
  · have hm' : mayC c.f c.s c.c c.o c.p = true := hm
    rw [hm'] at hmay
    obtain ⟨f0, f1, s0, s1⟩ := may_in hm
    have hE1 : frE [] c.f L = 0 := fr_empty f0 f1 (by omega) (by omega)
    have HE1 := Lib.hid hE1
    obtain ⟨N1, hN1⟩ : ∃ N1, frN (fun _ => 0) [] c.f L = N1 := ⟨_, rfl⟩
    have hNL : N1 c.f.toNat = L := by rw [← hN1]; exact frN_at hE1
    have HN1 := Lib.hid hN1
    have hE2 : addE N1 [] c = if L ≤ c.s then 6 else 0 := by rw [add_first hm, hNL]
    have HNL := Lib.hid hNL
    have HM := Lib.hid hm
    obtain ⟨R, hR⟩ : ∃ R : Int, (c.s - A) % L = R := ⟨_, rfl⟩
    have hR0 : 0 ≤ R := by rw [← hR]; exact Int.emod_nonneg _ (by omega)
    have hR1 : R < L := by rw [← hR]; exact Int.emod_lt_of_pos _ (by omega)
    have HR := Lib.hid hR
    have HE2 := Lib.hid hE2
    clear hE1 hN1 hNL hm hm' hR hE2
    go_enter Try.func5, Try.ntmps5
    go_wp2_with fail
    generalize w.alloc (.cells #[.int .i64 c.f, .int .i64 c.s, .int .i64 c.c, .int .i64 c.o, .int .i64 c.p] 31) = w1 at *
    go_wp2_with fail
    refine (new_any _).mono ?_
    rintro r w3 ⟨rfl, t3, b3⟩
    obtain ⟨B, hB⟩ : ∃ B, w1.heap.size = B := ⟨_, rfl⟩
    have o3 := below_own b3 o0 o0.lt
    have b3 := b0.trans (b3.mono b0.size)
    rw [hB] at t3 ⊢
    have hlB : w.heap.size < B := by rw [← hB]; exact o0.lt
    clear hB o0
    obtain ⟨d0, d1, d2, d3, d4⟩ := own_c o3
    go_wp2_with fail
    refine (hmay _).mono ?_
    rintro r w4 ⟨rfl, b4⟩
    have t4 := t3.below b4
    have o4 := below_own b4 o3 o3.lt
    have b4 := b3.trans (b4.mono b3.size)
    clear d0 d1 d2 d3 d4 t3 o3
    obtain ⟨d0, d1, d2, d3, d4⟩ := own_c o4
    go_wp2_with fail
    refine (frm_any B B (fun _ => 0) [] _ c.f L _ t4).mono ?_
    rintro r w5 ⟨rfl, t5, j5⟩
    have k5 := j5.old t4
    have o5 := below_own k5 o4 hlB
    have b5 := b4.trans (k5.mono (Nat.le_of_lt hlB))
    rw [HE1.out]
    rw [HN1.out] at t5
    clear d0 d1 d2 d3 d4 o4 t4 j5 k5
    obtain ⟨d0, d1, d2, d3, d4⟩ := own_c o5
    go_wp2_with fail
    refine (add_any B B N1 [] _ c _ t5).mono ?_
    rintro r w6 ⟨rfl, v6, t6, j6⟩
    have k6 := j6.old t5
    have o6 := below_own k6 o5 hlB
    have b6 := b5.trans (k6.mono (Nat.le_of_lt hlB))
    clear d0 d1 d2 d3 d4 o5 t5 j6 k6
    obtain ⟨d0, d1, d2, d3, d4⟩ := own_c o6
    have wz : ∀ k : Nat, (k : Int) < L → IntKind.i64.wrap (A + (k : Int)) = A + (k : Int) ∧ IntKind.i64.wrap ((k : Int) + L) = (k : Int) + L ∧ IntKind.i64.wrap (A + ((k : Int) + L)) = A + ((k : Int) + L) := fun k hk => ⟨IntWalk.i64_in _ (by omega), IntWalk.i64_in _ (by omega), IntWalk.i64_in _ (by omega)⟩
    have WZ := Lib.hid wz
    clear wz
    by_cases hs : c.s < L
    · have hz : addE N1 [] c = 0 := by rw [HE2.out, if_neg (by omega)]
      rw [addL_first hz] at t6
      rw [hz]
      clear hz
      go_wp2_with fail
      go_loopw [9, 57] (fun x i wr => ∃ k : Nat, i = .int .i64 k ∧ x = .int .i64 (cnt L c.s R k) ∧ (k : Int) ≤ L ∧ Tab wr B B N1 [c] v6 ∧ Own wr w.heap.size 31 c.vals ∧ Below w.heap.size w wr) (fun _ i _ => L.toNat - (intOf i).toNat)
      case atStart => exact ⟨0, rfl, by unfold cnt; rw [if_neg (by omega)], by omega, t6, o6, b6⟩
      case round =>
        clear t6 o6 b6 d0 d1 d2 d3 d4
        obtain ⟨k, rfl, rfl, hk, t7, o7, b7⟩ := hrel
        obtain ⟨d0, d1, d2, d3, d4⟩ := own_c o7
        by_cases hlt : (k : Int) < L
        · obtain ⟨w1, w2, w3⟩ := WZ.out k hlt
          by_cases hh : (A + (k : Int)) % L = c.s
          · have ha1 : act N1 [c] (A + (k : Int)) = [c] := act_hit (by omega) (by omega) (by rw [HNL.out]; exact hh)
            have ha2 : act N1 [c] (A + ((k : Int) + L)) = [c] := act_hit (by omega) (by omega) (by rw [HNL.out, show A + ((k : Int) + L) = (A + (k : Int)) + L by omega, Int.add_emod_right]; exact hh)
            have hkR : (k : Int) = R := by rw [← HR.out]; exact (hit_at s0 hs hlt).1 hh
            have hcn : cnt L c.s R (k + 1) = 1 := by unfold cnt; rw [if_pos (by omega)]
            have hc0 : cnt L c.s R k = 0 := by unfold cnt; rw [if_neg (by omega)]
            have h8 := act_any B B N1 [c] v6 (A + (k : Int)) _ t7
            rw [ha1] at h8
            have h9 := fun (w : World) (t : Tab w B B N1 [c] v6) => act_any B B N1 [c] v6 (A + ((k : Int) + L)) w t
            rw [ha2] at h9
            have HCN := Lib.hid hcn
            have z3 : (A + (k : Int)).tmod L = c.s := by rw [Int.tmod_eq_emod_of_nonneg (by omega)]; exact hh
            have z1 : (L == 0) = false := by simp; omega
            have z2 : L ≠ 0 := by omega
            rw [hc0]
            clear ha1 ha2 hcn hc0 hkR hh
            go_wp2_with (go_at_call 18; refine h8.mono ?_; rintro r w8 ⟨v8, rfl, m8, b8⟩; have m8 : MineK w8 _ 31 5 v8 1 (lv [c]) := m8; obtain ⟨A8, c8, rfl, hc8, hd8, hR8⟩ := m8.row)
            have t8 := t7.below b8
            have o8 := below_own b8 o7 o7.lt
            have b8 := b7.trans (b8.mono b7.size)
            obtain ⟨bo, off, rfl, hbo, e0, e1, e2, e3, e4⟩ := row_c (k := 0) hR8 (Below.refl _ _) (by omega)
            have e0 : w8.cell? ⟨bo, off, none⟩ = some (.int .i64 c.f) := e0
            have e1 : w8.cell? ⟨bo, off + 1, none⟩ = some (.int .i64 c.s) := e1
            have e2 : w8.cell? ⟨bo, off + 2, none⟩ = some (.int .i64 c.c) := e2
            have e3 : w8.cell? ⟨bo, off + 3, none⟩ = some (.int .i64 c.o) := e3
            have e4 : w8.cell? ⟨bo, off + 4, none⟩ = some (.int .i64 c.p) := e4
            have hc8 : 1 ≤ c8 := hc8
            clear d0 d1 d2 d3 d4 h8 t7 o7 b7 m8 hR8
            obtain ⟨d0, d1, d2, d3, d4⟩ := own_c o8
            have h9 := h9 w8.drew ⟨t8.blk.drewN 1, t8.row.drewN 1, t8.good, t8.low⟩
            have s0' : (fun w' : World => w'.cell? ⟨w.heap.size, 0, none⟩ = some (.int .i64 c.f) ∧ w'.cell? ⟨w.heap.size, 1, none⟩ = some (.int .i64 c.s) ∧ w'.cell? ⟨w.heap.size, 2, none⟩ = some (.int .i64 c.c) ∧ w'.cell? ⟨w.heap.size, 3, none⟩ = some (.int .i64 c.o) ∧ w'.cell? ⟨w.heap.size, 4, none⟩ = some (.int .i64 c.p) ∧ w'.cell? ⟨bo, off, none⟩ = some (.int .i64 c.f) ∧ w'.cell? ⟨bo, off + 1, none⟩ = some (.int .i64 c.s) ∧ w'.cell? ⟨bo, off + 2, none⟩ = some (.int .i64 c.c) ∧ w'.cell? ⟨bo, off + 3, none⟩ = some (.int .i64 c.o) ∧ w'.cell? ⟨bo, off + 4, none⟩ = some (.int .i64 c.p)) w8.drew := ⟨d0, d1, d2, d3, d4, e0, e1, e2, e3, e4⟩
            go_region_held3 (fun w' : World => w'.cell? ⟨w.heap.size, 0, none⟩ = some (.int .i64 c.f) ∧ w'.cell? ⟨w.heap.size, 1, none⟩ = some (.int .i64 c.s) ∧ w'.cell? ⟨w.heap.size, 2, none⟩ = some (.int .i64 c.c) ∧ w'.cell? ⟨w.heap.size, 3, none⟩ = some (.int .i64 c.o) ∧ w'.cell? ⟨w.heap.size, 4, none⟩ = some (.int .i64 c.p) ∧ w'.cell? ⟨bo, off, none⟩ = some (.int .i64 c.f) ∧ w'.cell? ⟨bo, off + 1, none⟩ = some (.int .i64 c.s) ∧ w'.cell? ⟨bo, off + 2, none⟩ = some (.int .i64 c.c) ∧ w'.cell? ⟨bo, off + 3, none⟩ = some (.int .i64 c.o) ∧ w'.cell? ⟨bo, off + 4, none⟩ = some (.int .i64 c.p)) (first | exact s0' | exact s2) ((go_at_call 18; refine h9.mono ?_; rintro r w9 ⟨v9, rfl, m9, b9⟩; have m9 : MineK w9 _ 31 5 v9 1 (lv [c]) := m9; obtain ⟨A9, c9, rfl, hc9, hd9, hR9⟩ := m9.row; have b9' : Below w8.heap.size w8 w9 := (below_drewN (Below.refl w8.heap.size w8) 1).trans b9; have s2 : (fun w' : World => w'.cell? ⟨w.heap.size, 0, none⟩ = some (.int .i64 c.f) ∧ w'.cell? ⟨w.heap.size, 1, none⟩ = some (.int .i64 c.s) ∧ w'.cell? ⟨w.heap.size, 2, none⟩ = some (.int .i64 c.c) ∧ w'.cell? ⟨w.heap.size, 3, none⟩ = some (.int .i64 c.o) ∧ w'.cell? ⟨w.heap.size, 4, none⟩ = some (.int .i64 c.p) ∧ w'.cell? ⟨bo, off, none⟩ = some (.int .i64 c.f) ∧ w'.cell? ⟨bo, off + 1, none⟩ = some (.int .i64 c.s) ∧ w'.cell? ⟨bo, off + 2, none⟩ = some (.int .i64 c.c) ∧ w'.cell? ⟨bo, off + 3, none⟩ = some (.int .i64 c.o) ∧ w'.cell? ⟨bo, off + 4, none⟩ = some (.int .i64 c.p)) w9 := ⟨keep_cell b9' d0, keep_cell b9' d1, keep_cell b9' d2, keep_cell b9' d3, keep_cell b9' d4, keep_cell b9' e0, keep_cell b9' e1, keep_cell b9' e2, keep_cell b9' e3, keep_cell b9' e4⟩))
            have t9 := t8.below b9'
            have o9 := below_own b9' o8 o8.lt
            have b9 := b8.trans (b9'.mono b8.size)
            clear d0 d1 d2 d3 d4 e0 e1 e2 e3 e4 t8 o8 b8 m9 hR9 h9 s0' s2 b9'
            go_wp2_with fail
            exact ⟨⟨k + 1, by simp, by first | (rw [HCN.out]; done) | (rw [HCN.out]; simp), by omega, t9, o9, b9⟩, by simp [intOf]; omega⟩
          · have ha1 : act N1 [c] (A + (k : Int)) = [] := act_miss (by rw [HNL.out]; exact hh)
            have ha2 : act N1 [c] (A + ((k : Int) + L)) = [] := act_miss (by rw [HNL.out, show A + ((k : Int) + L) = (A + (k : Int)) + L by omega, Int.add_emod_right]; exact hh)
            have hcn : cnt L c.s R (k + 1) = cnt L c.s R k := by have hkR : (k : Int) ≠ R := (fun e => hh ((hit_at s0 hs hlt).2 (by rw [HR.out]; exact e))); unfold cnt; simp; omega
            have h8 := act_zero B B N1 [c] v6 (A + (k : Int)) _ t7 ha1
            have h9 := fun (w : World) (t : Tab w B B N1 [c] v6) => act_zero B B N1 [c] v6 (A + ((k : Int) + L)) w t ha2
            obtain ⟨x0, hx0⟩ : ∃ x0, cnt L c.s R k = x0 := ⟨_, rfl⟩
            have HX := Lib.hid hx0
            have HCN := Lib.hid hcn
            have hxb : 0 ≤ x0 ∧ x0 ≤ 1 := by rw [← hx0]; unfold cnt; split <;> omega
            rw [hx0]
            clear ha1 ha2 hcn hx0 hh
            go_wp2_with (go_at_call 18; refine h8.mono ?_; rintro r w8 ⟨rfl, b8⟩)
            have t8 := t7.below b8
            have o8 := below_own b8 o7 o7.lt
            have b8 := b7.trans (b8.mono b7.size)
            clear d0 d1 d2 d3 d4 h8 t7 o7 b7
            obtain ⟨d0, d1, d2, d3, d4⟩ := own_c o8
            refine wp_region_mild w8.heap.size w8 (by kernel_rfl) (by kernel_rfl) (Below.refl _ _) ?_
            have hq := mild_forall w8.heap.size w8
            repeat (go_big_quiet_step ((intro hC; go_at_call 18; with_reducible exact mild_below (x := .slice none 0 0) hC (Nat.le_refl _) (h9 _ (t8.below hC)))))
            refine wpQuiet_nil ?_
            intro w9 b9'
            have t9 := t8.below b9'
            have o9 := below_own b9' o8 o8.lt
            have b9 := b8.trans (b9'.mono b8.size)
            clear d0 d1 d2 d3 d4 t8 o8 b8 h9 b9' hq
            go_wp2_with fail
            exact ⟨⟨k + 1, by simp, by first | (rw [HCN.out, HX.out]; done) | (rw [HCN.out, HX.out]; simp), by omega, t9, o9, b9⟩, by simp [intOf]; omega⟩
        · have hkL : (k : Int) = L := by omega
          have hcl : cnt L c.s R k = 1 := by unfold cnt; rw [if_pos (by omega)]
          rw [hcl]
          clear hcl
          go_wp2_with fail
          refine (awake_any _).mono ?_
          rintro r wE ⟨rfl, bE⟩
          go_wp2_with fail
          go_ret
          exact ⟨rfl, b7.trans (bE.mono b7.size)⟩
    · have hz : addE N1 [] c = 6 := by rw [HE2.out, if_pos (by omega)]
      have hz2 : addL N1 [] c = [] := by unfold addL; rw [hz, if_neg (by decide)]
      rw [hz2] at t6
      rw [hz]
      have gs : decide (c.s < L) = false := by simpa using hs
      clear hz hz2
      go_wp2_with fail
      go_loopw [9, 57] (fun x i wr => ∃ k : Nat, i = .int .i64 k ∧ x = .int .i64 (cnt L c.s R k) ∧ (k : Int) ≤ L ∧ Tab wr B B N1 [] v6 ∧ Own wr w.heap.size 31 c.vals ∧ Below w.heap.size w wr) (fun _ i _ => L.toNat - (intOf i).toNat)
      case atStart => exact ⟨0, rfl, by unfold cnt; rw [if_neg (by omega)], by omega, t6, o6, b6⟩
      case round =>
        clear t6 o6 b6 d0 d1 d2 d3 d4
        obtain ⟨k, rfl, rfl, hk, t7, o7, b7⟩ := hrel
        obtain ⟨d0, d1, d2, d3, d4⟩ := own_c o7
        by_cases hlt : (k : Int) < L
        · obtain ⟨w1, w2, w3⟩ := WZ.out k hlt
          have ha1 : act N1 [] (A + (k : Int)) = [] := act_none _ _
          have ha2 : act N1 [] (A + ((k : Int) + L)) = [] := act_none _ _
          have hcn : cnt L c.s R (k + 1) = cnt L c.s R k := by unfold cnt; rw [if_neg (by omega), if_neg (by omega)]
          have h8 := act_zero B B N1 [] v6 (A + (k : Int)) _ t7 ha1
          have h9 := fun (w : World) (t : Tab w B B N1 [] v6) => act_zero B B N1 [] v6 (A + ((k : Int) + L)) w t ha2
          obtain ⟨x0, hx0⟩ : ∃ x0, cnt L c.s R k = x0 := ⟨_, rfl⟩
          have HX := Lib.hid hx0
          have HCN := Lib.hid hcn
          have hxb : 0 ≤ x0 ∧ x0 ≤ 1 := by rw [← hx0]; unfold cnt; split <;> omega
          rw [hx0]
          clear ha1 ha2 hcn hx0
          go_wp2_with (go_at_call 18; refine h8.mono ?_; rintro r w8 ⟨rfl, b8⟩)
          have t8 := t7.below b8
          have o8 := below_own b8 o7 o7.lt
          have b8 := b7.trans (b8.mono b7.size)
          clear d0 d1 d2 d3 d4 h8 t7 o7 b7
          obtain ⟨d0, d1, d2, d3, d4⟩ := own_c o8
          refine wp_region_mild w8.heap.size w8 (by kernel_rfl) (by kernel_rfl) (Below.refl _ _) ?_
          have hq := mild_forall w8.heap.size w8
          repeat (go_big_quiet_step ((intro hC; go_at_call 18; with_reducible exact mild_below (x := .slice none 0 0) hC (Nat.le_refl _) (h9 _ (t8.below hC)))))
          refine wpQuiet_nil ?_
          intro w9 b9'
          have t9 := t8.below b9'
          have o9 := below_own b9' o8 o8.lt
          have b9 := b8.trans (b9'.mono b8.size)
          clear d0 d1 d2 d3 d4 t8 o8 b8 h9 b9' hq
          go_wp2_with fail
          exact ⟨⟨k + 1, by simp, by first | (rw [HCN.out, HX.out]; done) | (rw [HCN.out, HX.out]; simp), by omega, t9, o9, b9⟩, by simp [intOf]; omega⟩
        · have hkL : (k : Int) = L := by omega
          have hcl : cnt L c.s R k = 0 := by unfold cnt; rw [if_neg (by omega)]
          rw [hcl]
          clear hcl
          go_wp2_with fail
          refine (awake_any _).mono ?_
          rintro r wE ⟨rfl, bE⟩
          go_wp2_with fail
          go_ret
          exact ⟨rfl, b7.trans (bE.mono b7.size)⟩

theorem walk (H : Type) (enc : TypeId × Value → H) : Walk H enc Try.prog 5 Try.f5 := by
  intro W base args ds p hval hA
  rw [Try.params5] at hA hval
  obtain ⟨v0, v1, v2, d0, d1, d2, p0, p1, p2, rfl, rfl, rfl, h0, h1, h2⟩ := trodAll_three hA
  have hX : Try.prog.cellsOf 31 = 5 := by kernel_rfl
  have hI : Try.prog.cellsOf 3 = 1 := by kernel_rfl
  obtain ⟨t, rfl, rfl, rfl, _⟩ := open_int Try.underlying3 (hval 1 _ v1 rfl rfl) h1
  obtain ⟨u, rfl, rfl, rfl, _⟩ := open_int Try.underlying2 (hval 2 _ v2 rfl rfl) h2
  obtain ⟨cs, rfl, hsz⟩ := okWide_struct Try.underlying31 (hval 0 _ v0 rfl rfl)
  rw [hX] at hsz
  obtain ⟨l⟩ := cs
  match l, hsz with
  | [x0, x1, x2, x3, x4], _ =>
  obtain ⟨fuel, hf⟩ := h0
  obtain ⟨xs, k, _, _, _, hlen, hfs⟩ := DataW.trod_struct Try.underlying31 hf
  match xs, hlen with
  | [z0, z1, z2, z3, z4], _ =>
  obtain ⟨q0, f0, _⟩ := DataW.trod_int Try.underlying3 (hfs 0 _ rfl)
  obtain ⟨q1, f1, _⟩ := DataW.trod_int Try.underlying3 (hfs 1 _ rfl)
  obtain ⟨q2, f2, _⟩ := DataW.trod_int Try.underlying3 (hfs 2 _ rfl)
  obtain ⟨q3, f3, _⟩ := DataW.trod_int Try.underlying3 (hfs 3 _ rfl)
  obtain ⟨q4, f4, _⟩ := DataW.trod_int Try.underlying3 (hfs 4 _ rfl)
  simp [Value.cells, hI] at f0 f1 f2 f3 f4
  subst f0 f1 f2 f3 f4
  exact body ⟨q0, q1, q2, q3, q4⟩ t u W

set_option maxRecDepth 100000 in
theorem lifted (os : Os) (started : os.Started) (H : Type) (enc : TypeId × Value → H) :
    ReturnsInHanded {} Try.checked os 5 .any (Rows.cellRoundSpec.pre6 enc Try.prog Try.f5 Rows.cellRoundRow.domain false) (Rows.cellRoundSpec.post enc Try.prog Try.f5 false true false false) :=
  returnsInHanded_of_change (C := Try.checked) own started (by kernel_rfl) Try.func5
    (ChangeSpec.witness6 (enc := enc) (C := Try.checked) false ⟨#[], #[.agg #[.int .i64 0, .int .i64 0, .int .i64 0, .int .i64 0, .int .i64 0], .int .i64 0, .int .i64 0], []⟩ 8 (by kernel_rfl) (by kernel_rfl) (by kernel_rfl) (by kernel_rfl))
    fun W base args ds gs before hval hW _ _ => step_of_walk laidOut (by rw [Try.params5]; exact of_decide_eq_true (by kernel_rfl)) (by kernel_rfl) Try.underlying4 rfl
      (fun ds h => by
        rw [Try.params5] at h
        match ds, h with
        | [_, _, _], _ => rfl) (walk H enc) W base args ds gs before hval hW

theorem holds : Rows.CellRoundSaid :=
  OpenClaim.holds_of_wide 5 Try.f5 rfl rfl rfl rfl rfl rfl rfl ⟨rfl, rfl, rfl, rfl, rfl⟩ rfl rfl rfl rfl rfl (by kernel_rfl) Try.func5 (by kernel_rfl)
    (of_decide_eq_true (by kernel_rfl)) (by unfold Func.isWrapper; first | (rw [if_pos (by decide +kernel)]; kernel_rfl) | (rw [if_neg (by decide +kernel)]; exact ⟨rfl, rfl⟩))
    (fun os started H enc _ => lifted os started H enc)
#print axioms holds
end Go.Proofs.Ytdknacbdkekfnaa.CellRound
