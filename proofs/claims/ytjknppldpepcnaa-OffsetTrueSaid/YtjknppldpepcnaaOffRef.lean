/-
  Contracts of the reference's measure, guard and proof (chapter 13).
-/
import Derived.Test.YtjknppldpepcnaaOffLaws
import Derived.Test.YtjknppldpepcnaaOwn
set_option maxRecDepth 100000
namespace Go.Proofs.Ytjknppldpepcnaa.Of
set_option linter.unusedVariables false
open Go.RowKit Lb

theorem infoL : (Try.prog.info? 2).map (fun i => (i.zero, i.size, i.bytes)) = some (some (.int .i64 0), 1, 8) := by kernel_rfl

theorem ref_clamp (n l m : Int) (w : World) (h : l ≤ m) :
    Calls Try.prog 26 #[.int .i64 n, .int .i64 l, .int .i64 m] w fun r w' => r = .returned (.int .i64 (lim n l m)) ∧ w = w' := by
  have e : lim n l m = max l (min n m) := by unfold lim; omega
  rw [e]
  clear e
  go_enter Try.func26, Try.ntmps26
  go_wp2
  go_ret
  exact ⟨rfl, rfl⟩

set_option maxHeartbeats 1000000 in
theorem ref_measure (m t e x : Int) (w : World) (hx : -9223372036854775808 ≤ x ∧ x ≤ 9223372036854775807) :
    Calls Try.prog 10 #[.int .i64 m, .int .i64 t, .int .i64 e, .int .i64 x] w fun r w' => r = .returned (.int .i64 (meas m t e x)) ∧ w = w' := by
  have a0 := lim_low x 0 1000 (by omega)
  have a1 := lim_high x 0 1000
  have b0 := lim_low t (-1000000000000) 1000000000000 (by omega)
  have b1 := lim_high t (-1000000000000) 1000000000000
  have c0 := lim_low m (-1000000000000) 1000000000000 (by omega)
  have c1 := lim_high m (-1000000000000) 1000000000000
  have d0 := lim_low e (-lim x 0 1000) (lim x 0 1000) (by omega)
  have d1 := lim_high e (-lim x 0 1000) (lim x 0 1000)
  have hH : Hid (meas m t e x = lim (lim t (-1000000000000) 1000000000000 - lim m (-1000000000000) 1000000000000 + lim e (-lim x 0 1000) (lim x 0 1000)) (-30000) 30000) := Lib.hid rfl
  rw [hH.out]
  have g0 := lim_low (lim t (-1000000000000) 1000000000000 - lim m (-1000000000000) 1000000000000 + lim e (-lim x 0 1000) (lim x 0 1000)) (-30000) 30000 (by omega)
  have g1 := lim_high (lim t (-1000000000000) 1000000000000 - lim m (-1000000000000) 1000000000000 + lim e (-lim x 0 1000) (lim x 0 1000)) (-30000) 30000
  clear hH
  go_enter Try.func10, Try.ntmps10
  go_wp2_with fail
  refine (ref_clamp _ _ _ _ (by omega)).mono ?_
  rintro r w' ⟨rfl, rfl⟩
  go_wp2_with fail
  refine (ref_clamp _ _ _ _ (by omega)).mono ?_
  rintro r w' ⟨rfl, rfl⟩
  go_wp2_with fail
  refine (ref_clamp _ _ _ _ (by omega)).mono ?_
  rintro r w' ⟨rfl, rfl⟩
  go_wp2_with fail
  refine (ref_clamp _ _ _ _ (by omega)).mono ?_
  rintro r w' ⟨rfl, rfl⟩
  go_wp2_with fail
  refine (ref_clamp _ _ _ _ (by omega)).mono ?_
  rintro r w' ⟨rfl, rfl⟩
  go_wp2_with fail
  go_ret
  exact ⟨rfl, rfl⟩

theorem ref_within (m t g : Int) (w : World) (hm : -9223372036854775808 ≤ m ∧ m ≤ 9223372036854775807) (ht : -9223372036854775808 ≤ t ∧ t ≤ 9223372036854775807) (hg : g ≤ 9223372036854775807) :
    Calls Try.prog 12 #[.int .i64 m, .int .i64 t, .int .i64 g] w fun r w' => r = .returned (.bool (within m t g)) ∧ w = w' := by
  obtain ⟨m0, m1⟩ := hm
  obtain ⟨t0, t1⟩ := ht
  have e1 : IntKind.u64.wrap (IntKind.u64.wrap t - IntKind.u64.wrap m) = if m ≤ t then t - m else t - m + 18446744073709551616 := by
    rw [IntKind.wrap_u64, IntKind.wrap_u64, IntKind.wrap_u64]
    split <;> omega
  have e2 : IntKind.u64.wrap (IntKind.u64.wrap m - IntKind.u64.wrap t) = if t ≤ m then m - t else m - t + 18446744073709551616 := by
    rw [IntKind.wrap_u64, IntKind.wrap_u64, IntKind.wrap_u64]
    split <;> omega
  by_cases h0 : 0 ≤ g
  · have e3 : IntKind.u64.wrap g = g := by rw [IntKind.wrap_u64]; omega
    by_cases h : t < m
    · have hw : within m t g = decide (m - t ≤ g) := by unfold within; rw [Bool.eq_iff_iff]; simp; omega
      rw [hw]
      clear hw e1
      rw [if_pos (by omega)] at e2
      go_enter Try.func12, Try.ntmps12
      go_wp2_with fail
      go_ret
      exact ⟨rfl, rfl⟩
    · have hw : within m t g = decide (t - m ≤ g) := by unfold within; rw [Bool.eq_iff_iff]; simp; omega
      have h' : m ≤ t := by omega
      rw [hw]
      clear hw e2
      rw [if_pos (by omega)] at e1
      go_enter Try.func12, Try.ntmps12
      go_wp2_with fail
      go_ret
      exact ⟨rfl, rfl⟩
  · have h0' : g < 0 := by omega
    have hw : within m t g = false := by unfold within; simp; omega
    rw [hw]
    clear hw h0 e1 e2
    by_cases h : t < m
    · go_enter Try.func12, Try.ntmps12
      go_wp2_with fail
      go_ret
      exact ⟨rfl, rfl⟩
    · have h' : m ≤ t := by omega
      go_enter Try.func12, Try.ntmps12
      go_wp2_with fail
      go_ret
      exact ⟨rfl, rfl⟩

/-- The reference's proof: a pointer's block b that holds a slice of N bounds C 0, C 1, .., all of it from block base on. -/
def RPrf (w : World) (b base N : Nat) (C : Nat → Int) : Prop :=
  base ≤ b ∧ 0 < N ∧ ∃ rb cap, base ≤ rb ∧ rb ≠ b ∧ N ≤ cap ∧ cap ≤ maxLen ∧ Own w b 51 #[.slice (some ⟨rb, 0, none⟩) N cap] ∧ ∃ cs, Own w rb 2 cs ∧ cs.size = cap ∧ ∀ i, i < N → cs[i]? = some (.int .i64 (C i))
theorem RPrf.drewN {w : World} {b base N : Nat} {C : Nat → Int} (h : RPrf w b base N C) (m : Nat) : RPrf (w.drewN m) b base N C := h
theorem RPrf.just {w w' : World} {b base N g : Nat} {C : Nat → Int} (h : RPrf w b base N C) (j : Just g w w') (hg : g < base) : RPrf w' b base N C := by
  obtain ⟨h1, h2, rb, cap, h3, h4, h5, h6, h7, cs, h8, h9, h10⟩ := h
  exact ⟨h1, h2, rb, cap, h3, h4, h5, h6, j.own h7 (by omega), cs, j.own h8 (by omega), h9, h10⟩
theorem RPrf.lt {w : World} {b base N : Nat} {C : Nat → Int} (h : RPrf w b base N C) : b < w.heap.size := by
  obtain ⟨h1, h2, rb, cap, h3, h4, h5, h6, h7, cs, h8, h9, h10⟩ := h
  exact h7.lt
theorem RPrf.below {w w' : World} {b base N : Nat} {C : Nat → Int} (h : RPrf w b base N C) (hb : Below w.heap.size w w') : RPrf w' b base N C := by
  obtain ⟨h1, h2, rb, cap, h3, h4, h5, h6, h7, cs, h8, h9, h10⟩ := h
  exact ⟨h1, h2, rb, cap, h3, h4, h5, h6, below_own hb h7 h7.lt, cs, below_own hb h8 h8.lt, h9, h10⟩
theorem RPrf.ext {w : World} {b base N : Nat} {C D : Nat → Int} (h : RPrf w b base N C) (hc : ∀ i, i < N → C i = D i) : RPrf w b base N D := by
  obtain ⟨h1, h2, rb, cap, h3, h4, h5, h6, h7, cs, h8, h9, h10⟩ := h
  exact ⟨h1, h2, rb, cap, h3, h4, h5, h6, h7, cs, h8, h9, fun i hi => by rw [h10 i hi, hc i hi]⟩
theorem RPrf.store {w : World} {b base N rb i : Nat} {C : Nat → Int} {cap : Nat} {cs : Array Value} (h1 : base ≤ b) (h2 : 0 < N) (h3 : base ≤ rb) (h4 : rb ≠ b) (h5 : N ≤ cap) (h6 : cap ≤ maxLen)
    (h7 : Own w b 51 #[.slice (some ⟨rb, 0, none⟩) N cap]) (h8 : Own w rb 2 cs) (h9 : cs.size = cap) (h10 : ∀ i, i < N → cs[i]? = some (.int .i64 (C i))) (hi : i < N) (x : Int) :
    RPrf (w.setCell ⟨rb, i, none⟩ (.int .i64 x)) b base N (upd C i x) := by
  refine ⟨h1, h2, rb, cap, h3, h4, h5, h6, h7.apart (fun e => h4 e.symm) _, _, h8.put i _, by simp [h9], fun j hj => ?_⟩
  rw [Array.getElem?_setIfInBounds]
  unfold upd
  by_cases hij : i = j
  · subst hij
    rw [if_pos rfl, if_pos (by omega), if_pos rfl]
  · rw [if_neg hij, h10 j hj, if_neg (fun e => hij e.symm)]

theorem ref_has_yes (b base N i : Nat) (C : Nat → Int) (w : World) (h : RPrf w b base N C) (hi : i < N) :
    Calls Try.prog 28 #[.pointer (some ⟨b, 0, none⟩), .int .i64 i] w fun r w' => r = .returned (.bool true) ∧ w = w' := by
  obtain ⟨h1, h2, rb, cap, h3, h4, h5, h6, h7, cs, h8, h9, h10⟩ := h
  have c0 : w.cell? ⟨b, 0, none⟩ = some (.slice (some ⟨rb, 0, none⟩) N cap) := h7.cell 0
  have hd : (i : Int) < (N : Int) := by omega
  go_enter Try.func28, Try.ntmps28
  go_wp2_with fail
  go_ret
  exact ⟨rfl, rfl⟩
theorem ref_has_no (b base N : Nat) (i : Int) (C : Nat → Int) (w : World) (h : RPrf w b base N C) (hi : ¬ (0 ≤ i ∧ i < N)) :
    Calls Try.prog 28 #[.pointer (some ⟨b, 0, none⟩), .int .i64 i] w fun r w' => r = .returned (.bool false) ∧ w = w' := by
  obtain ⟨h1, h2, rb, cap, h3, h4, h5, h6, h7, cs, h8, h9, h10⟩ := h
  have c0 : w.cell? ⟨b, 0, none⟩ = some (.slice (some ⟨rb, 0, none⟩) N cap) := h7.cell 0
  by_cases h0 : 0 ≤ i
  · have hd : decide (i < (N : Int)) = false := by simp; omega
    clear hi
    go_enter Try.func28, Try.ntmps28
    go_wp2_with fail
    go_ret
    exact ⟨rfl, rfl⟩
  · clear hi
    have h0 : i < 0 := by omega
    go_enter Try.func28, Try.ntmps28
    go_wp2_with fail
    go_ret
    exact ⟨rfl, rfl⟩

theorem ref_bound_out (b base N : Nat) (i : Int) (C : Nat → Int) (w : World) (h : RPrf w b base N C) (hi : ¬ (0 ≤ i ∧ i < N)) :
    Calls Try.prog 23 #[.pointer (some ⟨b, 0, none⟩), .int .i64 i] w fun r w' => r = .returned (.tuple #[.int .i64 0, .bool false]) ∧ w = w' := by
  go_enter Try.func23, Try.ntmps23
  go_wp2_with fail
  refine (ref_has_no b base N i C _ h hi).mono ?_
  rintro r w' ⟨rfl, rfl⟩
  go_wp2_with fail
  refine bodyPost_ret (results_tmp2 rfl _ _ _) rfl ?_
  exact ⟨rfl, rfl⟩
theorem ref_bound_no (b base N i : Nat) (C : Nat → Int) (w : World) (h : RPrf w b base N C) (hi : i < N) (hc : C i < 0) :
    Calls Try.prog 23 #[.pointer (some ⟨b, 0, none⟩), .int .i64 i] w fun r w' => r = .returned (.tuple #[.int .i64 0, .bool false]) ∧ w = w' := by
  have h' := h
  obtain ⟨h1, h2, rb, cap, h3, h4, h5, h6, h7, cs, h8, h9, h10⟩ := h'
  have c0 : w.cell? ⟨b, 0, none⟩ = some (.slice (some ⟨rb, 0, none⟩) N cap) := h7.cell 0
  have c1 : w.cell? ⟨rb, i, none⟩ = some (.int .i64 (C i)) := by rw [h8.cell, h10 i hi]
  have hd : (i : Int) < (N : Int) := by omega
  clear h10 h9
  go_enter Try.func23, Try.ntmps23
  go_wp2_with fail
  refine (ref_has_yes b base N i C _ h hi).mono ?_
  rintro r w' ⟨rfl, rfl⟩
  go_wp2_with fail
  refine bodyPost_ret (results_tmp2 rfl _ _ _) rfl ?_
  exact ⟨rfl, rfl⟩
theorem ref_bound_yes (b base N i : Nat) (C : Nat → Int) (w : World) (h : RPrf w b base N C) (hi : i < N) (hc : 0 ≤ C i) :
    Calls Try.prog 23 #[.pointer (some ⟨b, 0, none⟩), .int .i64 i] w fun r w' => r = .returned (.tuple #[.int .i64 (C i), .bool true]) ∧ w = w' := by
  have h' := h
  obtain ⟨h1, h2, rb, cap, h3, h4, h5, h6, h7, cs, h8, h9, h10⟩ := h'
  have c0 : w.cell? ⟨b, 0, none⟩ = some (.slice (some ⟨rb, 0, none⟩) N cap) := h7.cell 0
  have c1 : w.cell? ⟨rb, i, none⟩ = some (.int .i64 (C i)) := by rw [h8.cell, h10 i hi]
  have hd : (i : Int) < (N : Int) := by omega
  clear h10 h9
  go_enter Try.func23, Try.ntmps23
  go_wp2_with fail
  refine (ref_has_yes b base N i C _ h hi).mono ?_
  rintro r w' ⟨rfl, rfl⟩
  go_wp2_with fail
  refine bodyPost_ret (results_tmp2 rfl _ _ _) rfl ?_
  exact ⟨rfl, rfl⟩

theorem ref_lose_out (b base N : Nat) (i : Int) (C : Nat → Int) (w : World) (h : RPrf w b base N C) (hi : ¬ (0 < i ∧ i < N)) :
    Calls Try.prog 19 #[.pointer (some ⟨b, 0, none⟩), .int .i64 i] w fun r w' => r = .returned (.tuple #[]) ∧ w = w' := by
  by_cases h0 : i = 0
  · subst h0
    clear hi
    go_enter Try.func19, Try.ntmps19
    go_wp2_with fail
    refine (ref_has_yes b base N 0 C _ h h.2.1).mono ?_
    rintro r w' ⟨rfl, rfl⟩
    go_wp2_with fail
    go_end0
    exact ⟨rfl, rfl⟩
  · go_enter Try.func19, Try.ntmps19
    go_wp2_with fail
    refine (ref_has_no b base N i C _ h (by omega)).mono ?_
    rintro r w' ⟨rfl, rfl⟩
    go_wp2_with fail
    go_end0
    exact ⟨rfl, rfl⟩
theorem ref_lose_in (b base N i : Nat) (C : Nat → Int) (w : World) (h : RPrf w b base N C) (h0 : 0 < i) (hi : i < N) (hB : base ≤ w.heap.size) :
    Calls Try.prog 19 #[.pointer (some ⟨b, 0, none⟩), .int .i64 i] w fun r w' => r = .returned (.tuple #[]) ∧ RPrf w' b base N (upd C i (-1)) ∧ Below base w w' := by
  have h' := h
  obtain ⟨h1, h2, rb, cap, h3, h4, h5, h6, h7, cs, h8, h9, h10⟩ := h'
  have c0 : w.cell? ⟨b, 0, none⟩ = some (.slice (some ⟨rb, 0, none⟩) N cap) := h7.cell 0
  have c1 : w.cell? ⟨rb, i, none⟩ = some (.int .i64 (C i)) := by rw [h8.cell, h10 i hi]
  have f1 : w.frozen? ⟨rb, i, none⟩ = false := h8.free i
  have hd : (i : Int) < (N : Int) := by omega
  have H10 := Lib.hid h10
  have H9 := Lib.hid h9
  clear h10 h9
  go_enter Try.func19, Try.ntmps19
  go_wp2_with fail
  refine (ref_has_yes b base N i C _ h hi).mono ?_
  rintro r w' ⟨rfl, rfl⟩
  go_wp2_with fail
  go_end0
  exact ⟨rfl, RPrf.store h1 h2 h3 h4 h5 h6 h7 h8 H9.out H10.out hi (-1), (Just.set rb w i _).below (Below.refl _ _) h3 hB⟩

theorem ref_heard_off (b base N : Nat) (i y e : Int) (C : Nat → Int) (w : World) (h : RPrf w b base N C) (hi : ¬ (0 < i ∧ i < N ∧ 0 ≤ y ∧ y < N ∧ i ≠ y)) :
    Calls Try.prog 21 #[.pointer (some ⟨b, 0, none⟩), .int .i64 i, .int .i64 y, .int .i64 e] w fun r w' => r = .returned (.tuple #[]) ∧ w = w' := by
  by_cases a1 : 0 ≤ i ∧ i < N
  · obtain ⟨i, rfl⟩ := Int.eq_ofNat_of_zero_le a1.1
    by_cases a2 : 0 ≤ y ∧ y < N
    · obtain ⟨y, rfl⟩ := Int.eq_ofNat_of_zero_le a2.1
      by_cases a3 : i = 0
      · subst a3
        clear hi
        go_enter Try.func21, Try.ntmps21
        go_wp2_with fail
        refine (ref_has_yes b base N 0 C _ h h.2.1).mono ?_
        rintro r w' ⟨rfl, rfl⟩
        go_wp2_with fail
        refine (ref_has_yes b base N y C _ h (by omega)).mono ?_
        rintro r w' ⟨rfl, rfl⟩
        go_wp2_with fail
        refine bodyPost_ret (results_none rfl _ _ _) rfl ?_
        exact ⟨rfl, rfl⟩
      · have a4 : i = y := by omega
        subst a4
        have hne : ((i : Int) == 0) = false := by simp; exact a3
        clear hi
        go_enter Try.func21, Try.ntmps21
        go_wp2_with fail
        refine (ref_has_yes b base N i C _ h (by omega)).mono ?_
        rintro r w' ⟨rfl, rfl⟩
        go_wp2_with fail
        refine (ref_has_yes b base N i C _ h (by omega)).mono ?_
        rintro r w' ⟨rfl, rfl⟩
        go_wp2_with fail
        refine bodyPost_ret (results_none rfl _ _ _) rfl ?_
        exact ⟨rfl, rfl⟩
    · clear hi
      go_enter Try.func21, Try.ntmps21
      go_wp2_with fail
      refine (ref_has_yes b base N i C _ h (by omega)).mono ?_
      rintro r w' ⟨rfl, rfl⟩
      go_wp2_with fail
      refine (ref_has_no b base N y C _ h a2).mono ?_
      rintro r w' ⟨rfl, rfl⟩
      go_wp2_with fail
      refine bodyPost_ret (results_none rfl _ _ _) rfl ?_
      exact ⟨rfl, rfl⟩
  · clear hi
    go_enter Try.func21, Try.ntmps21
    go_wp2_with fail
    refine (ref_has_no b base N i C _ h a1).mono ?_
    rintro r w' ⟨rfl, rfl⟩
    go_wp2_with fail
    refine bodyPost_ret (results_none rfl _ _ _) rfl ?_
    exact ⟨rfl, rfl⟩

/-- The bound that is set. -/
def put (x e : Int) : Int := if x < 0 then -1 else min (x + lim e 0 1000) 1000000000000
set_option maxHeartbeats 1000000 in
theorem ref_set (b base N i : Nat) (x e : Int) (C : Nat → Int) (w : World) (h : RPrf w b base N C) (hi : i < N) (hx : x ≤ 4000000000000) (hB : base ≤ w.heap.size) :
    Calls Try.prog 29 #[.pointer (some ⟨b, 0, none⟩), .int .i64 i, .int .i64 x, .int .i64 e] w fun r w' => r = .returned (.tuple #[]) ∧ RPrf w' b base N (upd C i (put x e)) ∧ Below base w w' := by
  have h' := h
  obtain ⟨h1, h2, rb, cap, h3, h4, h5, h6, h7, cs, h8, h9, h10⟩ := h'
  have c0 : w.cell? ⟨b, 0, none⟩ = some (.slice (some ⟨rb, 0, none⟩) N cap) := h7.cell 0
  have c1 : w.cell? ⟨rb, i, none⟩ = some (.int .i64 (C i)) := by rw [h8.cell, h10 i hi]
  have f1 : w.frozen? ⟨rb, i, none⟩ = false := h8.free i
  have hd : (i : Int) < (N : Int) := by omega
  have H10 := Lib.hid h10
  have H9 := Lib.hid h9
  clear h10 h9
  by_cases h0 : x < 0
  · have hp : put x e = -1 := by unfold put; rw [if_pos h0]
    rw [hp]
    clear hp
    go_enter Try.func29, Try.ntmps29
    go_wp2_with fail
    refine bodyPost_ret (results_none rfl _ _ _) rfl ?_
    exact ⟨rfl, RPrf.store h1 h2 h3 h4 h5 h6 h7 h8 H9.out H10.out hi (-1), (Just.set rb w i _).below (Below.refl _ _) h3 hB⟩
  · have hp : put x e = min (x + lim e 0 1000) 1000000000000 := by unfold put; rw [if_neg h0]
    rw [hp]
    clear hp
    have h0' : 0 ≤ x := by omega
    clear h0
    have l0 := lim_low e 0 1000 (by omega)
    have l1 := lim_high e 0 1000
    have e1 : IntKind.i64.wrap (x + lim e 0 1000) = x + lim e 0 1000 := IntWalk.i64_in _ (by omega)
    go_enter Try.func29, Try.ntmps29
    go_wp2_with fail
    go_region_with (go_at_call 26; refine (ref_clamp _ _ _ _ (by omega)).mono ?_; rintro r w' ⟨rfl, rfl⟩)
    all_goals
      go_end0
      exact ⟨rfl, RPrf.drewN (RPrf.store h1 h2 h3 h4 h5 h6 h7 h8 H9.out H10.out hi (min (x + lim e 0 1000) 1000000000000)) 1, below_drewN ((Just.set rb w i _).below (Below.refl _ _) h3 hB) 1⟩

theorem ref_heard_in (b base N i y : Nat) (e : Int) (C : Nat → Int) (w : World) (h : RPrf w b base N C) (h0 : 0 < i) (hi : i < N) (hy : y < N) (hiy : i ≠ y) (hx : C y ≤ 4000000000000) (hB : base ≤ w.heap.size) :
    Calls Try.prog 21 #[.pointer (some ⟨b, 0, none⟩), .int .i64 i, .int .i64 y, .int .i64 e] w fun r w' => r = .returned (.tuple #[]) ∧ RPrf w' b base N (upd C i (put (C y) e)) ∧ Below base w w' := by
  have h' := h
  obtain ⟨h1, h2, rb, cap, h3, h4, h5, h6, h7, cs, h8, h9, h10⟩ := h'
  have c0 : w.cell? ⟨b, 0, none⟩ = some (.slice (some ⟨rb, 0, none⟩) N cap) := h7.cell 0
  have c1 : w.cell? ⟨rb, y, none⟩ = some (.int .i64 (C y)) := by rw [h8.cell, h10 y hy]
  have hd : (y : Int) < (N : Int) := by omega
  have hne : ((i : Int) == 0) = false := by simp; omega
  have hne2 : ((i : Int) == (y : Int)) = false := by simp; omega
  clear h10 h9
  go_enter Try.func21, Try.ntmps21
  go_wp2_with fail
  refine (ref_has_yes b base N i C _ h hi).mono ?_
  rintro r w' ⟨rfl, rfl⟩
  go_wp2_with fail
  refine (ref_has_yes b base N y C _ h hy).mono ?_
  rintro r w' ⟨rfl, rfl⟩
  go_wp2_with fail
  refine (ref_set b base N i (C y) e C _ h hi hx hB).mono ?_
  rintro r w2 ⟨rfl, k2, b2⟩
  go_wp2_with fail
  go_end0
  exact ⟨rfl, k2, b2⟩

def rtick (C : Nat → Int) (k j : Nat) : Int := if 1 ≤ j ∧ j < k ∧ 0 ≤ C j then min (C j + 1) 1000000000000 else C j
set_option maxHeartbeats 1000000 in
theorem ref_slot (b base N : Nat) (C : Nat → Int) (w : World) (h : RPrf w b base N C) (hC : ∀ i, C i ≤ 1000000000000) (hB : base ≤ w.heap.size) :
    Calls Try.prog 17 #[.pointer (some ⟨b, 0, none⟩)] w fun r w' => r = .returned (.tuple #[]) ∧ RPrf w' b base N (rtick C N) ∧ Below base w w' := by
  have HC := Lib.hid hC
  clear hC
  have h' := h
  obtain ⟨h1, h2, rb, cap, h3, h4, h5, h6, h7, cs, h8, h9, h10⟩ := h'
  have c0 : w.cell? ⟨b, 0, none⟩ = some (.slice (some ⟨rb, 0, none⟩) N cap) := h7.cell 0
  have hN : N ≤ maxLen := Nat.le_trans h5 h6
  unfold maxLen at hN
  go_enter Try.func17, Try.ntmps17
  go_wp2_with fail
  clear h7 h8 h9 h10 cs h5 h6 h4 h3 c0
  go_loopw [8] (fun i wr => ∃ k : Nat, i = .int .i64 k ∧ k ≤ N ∧ RPrf wr b base N (rtick C k) ∧ Below base w wr) (fun i _ => N - (intOf i).toNat)
  case atStart => exact ⟨0, rfl, by omega, RPrf.ext h (fun j _ => by unfold rtick; rw [if_neg (by omega)]), Below.refl _ _⟩
  case round =>
    obtain ⟨k, rfl, hk, kk, bb⟩ := hrel
    have hBr := Nat.le_trans hB bb.size
    by_cases hlt : k < N
    · have kk' := kk
      obtain ⟨h1, h2, rb, cap, h3, h4, h5, h6, h7, cs, h8, h9, h10⟩ := kk'
      have c0 : wr.cell? ⟨b, 0, none⟩ = some (.slice (some ⟨rb, 0, none⟩) N cap) := h7.cell 0
      have c1 : wr.cell? ⟨rb, k, none⟩ = some (.int .i64 (C k)) := by rw [h8.cell, h10 k hlt]; unfold rtick; rw [if_neg (by omega)]
      have f1 : wr.frozen? ⟨rb, k, none⟩ = false := h8.free k
      have H10 := Lib.hid h10
      have H9 := Lib.hid h9
      have hd : (k : Int) < (N : Int) := by omega
      have hc := HC.out k
      clear h10 h9
      by_cases hk0 : 0 < k ∧ 0 ≤ C k
      · obtain ⟨hk0, hc0⟩ := hk0
        have Hn : Hid (rtick C (k + 1) = upd (rtick C k) k (min (C k + 1) 1000000000000)) := Lib.hid (by
          funext q
          unfold rtick upd
          by_cases hq : q = k
          · subst hq; rw [if_pos ⟨by omega, by omega, hc0⟩, if_pos rfl]
          · have : (1 ≤ q ∧ q < k + 1 ∧ 0 ≤ C q) ↔ (1 ≤ q ∧ q < k ∧ 0 ≤ C q) := by
              constructor <;> rintro ⟨x1, x2, x3⟩ <;> exact ⟨x1, by omega, x3⟩
            simp only [this, hq, if_false])
        have e1 : IntKind.i64.wrap (C k + 1) = C k + 1 := IntWalk.i64_in _ (by omega)
        go_wp2_with fail
        go_region
        all_goals
          go_wp2_with fail
          exact ⟨⟨k + 1, by go_num, by omega, by rw [Hn.out]; exact RPrf.drewN (RPrf.store h1 h2 h3 h4 h5 h6 h7 h8 H9.out H10.out hlt (min (C k + 1) 1000000000000)) 1, below_drewN ((Just.set rb wr k _).below bb h3 hBr) 1⟩, by simp [intOf]; omega⟩
      · have Hn : Hid (rtick C (k + 1) = rtick C k) := Lib.hid (by
          funext q
          unfold rtick
          have : (1 ≤ q ∧ q < k + 1 ∧ 0 ≤ C q) ↔ (1 ≤ q ∧ q < k ∧ 0 ≤ C q) := by
            constructor
            · rintro ⟨x1, x2, x3⟩
              refine ⟨x1, ?_, x3⟩
              by_cases hq : q = k
              · subst hq; exact absurd ⟨x1, x3⟩ hk0
              · omega
            · rintro ⟨x1, x2, x3⟩; exact ⟨x1, by omega, x3⟩
          simp only [this])
        by_cases hk1 : 0 < k
        · have hd2 : decide (0 ≤ C k) = false := by
            by_cases hb3 : 0 ≤ C k
            · exact absurd ⟨hk1, hb3⟩ hk0
            · simp; omega
          clear hk0
          go_wp2_with fail
          exact ⟨⟨k + 1, by go_num, by omega, by rw [Hn.out]; exact kk, bb⟩, by simp [intOf]; omega⟩
        · obtain rfl : k = 0 := by omega
          clear hk0 hk1
          go_wp2_with fail
          exact ⟨⟨1, by go_num, by omega, by rw [Hn.out]; exact kk, bb⟩, by simp [intOf]; omega⟩
    · obtain rfl : k = N := by omega
      go_wp2_with fail
      go_end0
      exact ⟨rfl, kk, bb⟩

/-- How long the slice in block b's first cell is. -/
def lenAt (w : World) (b : Nat) : Nat := match w.cell? ⟨b, 0, none⟩ with | some (.slice _ n _) => n | _ => 0
theorem lenAt_of {w : World} {b n c : Nat} {t : TypeId} {a : Option Addr} (h : Own w b t #[.slice a n c]) : lenAt w b = n := by
  have := h.cell 0
  unfold lenAt
  rw [this]
  rfl
set_option maxHeartbeats 1000000 in
theorem ref_new (n : Int) (w : World) :
    Calls Try.prog 15 #[.int .i64 n] w fun r w' => r = .returned (.pointer (some ⟨w.heap.size + 1, 0, none⟩)) ∧ RPrf w' (w.heap.size + 1) w.heap.size (lim n 1 16).toNat (fun i => if i = 0 then 0 else -1) ∧ Below w.heap.size w w' := by
  obtain ⟨i0, hi0, hz0, hz1, hz2⟩ := info_parts infoL
  have hM : 100 ≤ maxLen := by unfold maxLen; omega
  have HM := Lib.hid hM
  clear hM
  go_enter Try.func15, Try.ntmps15
  have hl1 := lim_low n 1 16 (by decide)
  have hl2 := lim_high n 1 16
  go_wp2_with fail
  have o1 : Own ((w.alloc (.cells #[.int .i64 0] 2)).alloc (.cells #[.slice (some ⟨w.heap.size, 0, none⟩) 1 1] 51)) (w.heap.size + 1) 51 #[.slice (some ⟨w.heap.size, 0, none⟩) 1 1] := by
    have := Own.new (w.alloc (.cells #[.int .i64 0] 2)) 51 #[.slice (some ⟨w.heap.size, 0, none⟩) 1 1]
    simpa using this
  have o2 : Own ((w.alloc (.cells #[.int .i64 0] 2)).alloc (.cells #[.slice (some ⟨w.heap.size, 0, none⟩) 1 1] 51)) w.heap.size 2 #[.int .i64 0] := (Own.new w 2 #[.int .i64 0]).alloc _
  have b0 := ((Below.refl w.heap.size w).alloc (Nat.le_refl _) (.cells #[.int .i64 0] 2)).alloc (by simp) (.cells #[.slice (some ⟨w.heap.size, 0, none⟩) 1 1] 51)
  have r0 : RPrf ((w.alloc (.cells #[.int .i64 0] 2)).alloc (.cells #[.slice (some ⟨w.heap.size, 0, none⟩) 1 1] 51)) (w.heap.size + 1) w.heap.size 1 (fun i => if i = 0 then 0 else -1) :=
    ⟨by omega, by omega, w.heap.size, 1, by omega, by omega, by omega, by unfold maxLen; omega, o1, _, o2, rfl, fun i hi => by obtain rfl : i = 0 := (by omega); rfl⟩
  generalize ((w.alloc (.cells #[.int .i64 0] 2)).alloc (.cells #[.slice (some ⟨w.heap.size, 0, none⟩) 1 1] 51)) = w1 at *
  clear o1 o2
  go_loopw [] (fun wr => ∃ k : Nat, k ≤ (lim n 1 16).toNat ∧ RPrf wr (w.heap.size + 1) w.heap.size k (fun i => if i = 0 then 0 else -1) ∧ Below w.heap.size w wr) (fun wr => 16 - lenAt wr (w.heap.size + 1))
  case atStart => exact ⟨1, by omega, r0, b0⟩
  case round =>
    obtain ⟨k, hk, kk, bb⟩ := hrel
    have kk' := kk
    obtain ⟨h1, h2, rb, cap, h3, h4, h5, h6, h7, cs, h8, h9, h10⟩ := kk'
    have c0 : wr.cell? ⟨w.heap.size + 1, 0, none⟩ = some (.slice (some ⟨rb, 0, none⟩) k cap) := h7.cell 0
    have f0 : wr.frozen? ⟨w.heap.size + 1, 0, none⟩ = false := h7.free 0
    have hl := lenAt_of h7
    by_cases hlt : (k : Int) < lim n 1 16
    · have hlt2 : (k : Int) < min n 16 := by unfold lim at hlt; omega
      have hm := Mine.made (base := w.heap.size) h8 h3 (by rw [h9]; exact h6) (by rw [h9]; exact h5) h10
      rw [h9] at hm
      have hk1 : k + 1 ≤ maxLen := Nat.le_trans (by omega) HM.out
      have HK := Lib.hid hk1
      have HL := Lib.hid hl
      have hs := bb.size
      clear hk1 hl h10 h9
      go_wp2_with (at_builtin; go_must (refine wp_app_at rfl (.tmp 19) (.tmp 20) _ rfl w.heap.size 2 i0 _ 8 Try.underlying40 hi0 hz0 hz1 hz2 rfl _ k (fun i => .int .i64 (if i = 0 then 0 else -1)) rfl (hm.alloc _) _ 1 _ (fun _ => .int .i64 (-1)) rfl (row_new _ _ _ _ (fun i hi => by obtain rfl : i = 0 := (by omega); rfl)) (fun _ _ => rfl) HK.out ?c2 ?c3 ?_))
      case c2 => omega
      case c3 => first | omega | (simp; omega)
      intro v' w2 hv2 hg2 hw2
      have h7' : Own w2 (w.heap.size + 1) 51 #[.slice (some ⟨rb, 0, none⟩) k cap] := grown_own hg2 (h7.alloc _) (fun e => h4 (Option.some.inj e))
      have c1 : w2.cell? ⟨w.heap.size + 1, 0, none⟩ = some (.slice (some ⟨rb, 0, none⟩) k cap) := h7'.cell 0
      have f1 : w2.frozen? ⟨w.heap.size + 1, 0, none⟩ = false := h7'.free 0
      have b2 : Below w.heap.size w w2 := (bb.alloc hs _).grown hg2 (by simp; omega) (fun q hq => by have hq : rb = q := Option.some.inj hq; omega)
      obtain ⟨rb', cs', rfl, e1, e2, e3, e4, e5⟩ := hv2.block (by omega)
      have hne : rb' ≠ w.heap.size + 1 := by
        rcases hw2 with hw2 | hw2
        · have hw2 : rb' = rb := Option.some.inj hw2
          omega
        · have hw2 : rb' = _ := Option.some.inj hw2
          have := h7.lt
          omega
      clear c0 f0 hv2 hw2
      go_wp2_with fail
      have h7n : Own (w2.setCell ⟨w.heap.size + 1, 0, none⟩ (.slice (some ⟨rb', 0, none⟩) (k + 1) cs'.size)) (w.heap.size + 1) 51 #[.slice (some ⟨rb', 0, none⟩) (k + 1) cs'.size] := h7'.put 0 _
      have hl2 := lenAt_of h7n
      refine ⟨⟨k + 1, by omega, ⟨h1, by omega, rb', cs'.size, e1, hne, e3, e4, h7n, cs', e2.apart hne _, rfl, fun i hi => ?_⟩, (Just.set (w.heap.size + 1) w2 0 _).below b2 (by omega) (Nat.le_trans hs (Nat.le_trans (by simp) hg2.size))⟩, ?_⟩
      · rw [e5 i hi]
        by_cases hik : i < k
        · simp only [hik, if_true]
        · have hi0 : i ≠ 0 := by omega
          simp only [hik, hi0, if_false]
      · rw [HL.out, hl2]
        omega
    · have hlt2 : ¬ (k : Int) < min n 16 := by unfold lim at hlt; omega
      have hkl : (lim n 1 16).toNat = k := by omega
      have HKL := Lib.hid hkl
      clear hkl
      go_wp2_with fail
      go_ret
      exact ⟨rfl, by rw [HKL.out]; exact kk, bb⟩
end Go.Proofs.Ytjknppldpepcnaa.Of
