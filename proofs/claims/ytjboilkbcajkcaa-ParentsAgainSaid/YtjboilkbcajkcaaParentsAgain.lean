/-
  Law ParentsAgain: heard anew it is there once, with the new rank; if that is not below its own it goes. No condition.
-/
import Derived.Test.YtjboilkbcajkcaaPaOne
import Derived.Deep.Strs
import Derived.IntWalk
import Derived.Lib.SmallJoins
set_option maxRecDepth 100000
namespace Go.Proofs.Ytjboilkbcajkcaa.ParentsAgain
set_option linter.unusedVariables false
open Go.RowKit Go.ChangeShapes Go.WideShapes Go.ChangeAt Go.Deep Lb Pa
set_option linter.unusedVariables false
theorem own : ownKnob Try.prog.godebug = none := by kernel_rfl
theorem laidOut : laidOutB Try.prog = true := by kernel_rfl

theorem same_ints (a b : Option Addr) (n c d : Nat) (V : Nat → Value) (X : Nat → Int) (w : World) (hV : V = fun i => .int .i64 (X i)) (hn : n ≤ c) (hm : n ≤ d) (hc : c ≤ maxLen) (hd : d ≤ maxLen) (hX : Row w a n V) (hY : Row w b n V) :
    Calls Try.prog 12 #[.slice a n c, .slice b n d] w fun r w' => r = .returned (.bool true) ∧ ∃ m, w.drewN m = w' := by
  subst hV
  unfold maxLen at hc hd
  go_enter Try.func12, Try.ntmps12
  go_wp2_with fail
  go_loopw [13] (fun i wr => ∃ (k m : Nat), i = .int .i64 k ∧ k ≤ n ∧ w.drewN m = wr) (fun i _ => n - (intOf i).toNat)
  case atStart => exact ⟨0, 0, rfl, by omega, rfl⟩
  case round =>
    obtain ⟨k, m, rfl, hk, rfl⟩ := hrel
    by_cases hlt : k < n
    · obtain ⟨p, o, rfl, _, h1⟩ := hX.at_ hlt
      obtain ⟨q, s, rfl, _, h2⟩ := hY.at_ hlt
      go_wp2_with fail
      go_quiet (fail)
      go_wp2_with fail
      exact ⟨⟨k + 1, _, by go_num, by omega, rfl⟩, by simp [intOf]; omega⟩
    · obtain rfl : k = n := by omega
      go_wp2_with fail
      go_ret
      exact ⟨rfl, m, rfl⟩
theorem s2_no (w : World) : Calls Try.prog 24 #[.bool false] w fun r w' => r = .returned (.slice none 0 0) ∧ w = w' := by
  go_enter Try.func24, Try.ntmps24
  go_wp2_with fail
  go_ret
  exact ⟨rfl, rfl⟩
theorem s2_yes (w : World) : Calls Try.prog 24 #[.bool true] w fun r w' => ∃ a c, r = .returned (.slice a 1 c) ∧ 1 ≤ c ∧ c ≤ maxLen ∧ Row w' a 1 (zval [4]) ∧ Below w.heap.size w w' := by
  have b0 := (Below.refl w.heap.size w).alloc (Nat.le_refl _) (.cells #[.int .i64 4] 3)
  go_enter Try.func24, Try.ntmps24
  go_wp2_with fail
  go_ret
  exact ⟨_, 1, rfl, by omega, by unfold maxLen; omega, row_new _ _ _ _ (fun i hi => by obtain rfl : i = 0 := (by omega); rfl), b0⟩
theorem rko1 (x : P) : rkoP [x] x.n = (x.r, true) := by simp [rkoP]
theorem rko0 (n : Int) : rkoP [] n = (0, false) := rfl
theorem go1 (B : Int) : goN 995 [⟨4, B, 2⟩] = [4] := rfl
theorem go0 : goN 995 [] = [] := rfl
theorem sr1 : srtd [4] = [4] := by simp [srtd]
theorem sr0 : srtd [] = [] := by simp [srtd]
set_option maxHeartbeats 4000000 in
theorem body (a b : Int) (w : World) :
    Calls Try.prog 8 #[.int .i64 a, .int .i64 b] w fun q w' => q = .returned (.bool true) ∧ Below w.heap.size w w' := by
  obtain ⟨A, hA⟩ : ∃ A, a % 18446744073709551616 % 256 = A := ⟨_, rfl⟩
  obtain ⟨B, hB⟩ : ∃ B, b % 18446744073709551616 % 256 = B := ⟨_, rfl⟩
  have ha : 0 ≤ A ∧ A ≤ 255 := by omega
  have hb : 0 ≤ B ∧ B ≤ 255 := by omega
  have tm : ∀ x m : Int, (IntKind.u64.wrap x).tmod m = (x % 18446744073709551616) % m := fun x m => by rw [IntKind.wrap_u64, Int.tmod_eq_emod_of_nonneg (Int.emod_nonneg _ (by decide))]
  have HA := Lib.hid (show wrap64 ((IntKind.u64.wrap a).tmod 256) = A by rw [tm, hA, IntWalk.wrap64_in _ ⟨by omega, by omega⟩])
  have HB := Lib.hid (show wrap64 ((IntKind.u64.wrap b).tmod 256) = B by rw [tm, hB, IntWalk.wrap64_in _ ⟨by omega, by omega⟩])
  clear hA hB tm
  go_enter Try.func8, Try.ntmps8
  go_wp2_with fail
  rw [HA.out, HB.out]
  clear HA HB
  refine (new_yes 3 200 _ rfl rfl).mono ?_
  rintro r w1 ⟨rfl, t1, b1⟩
  have m1 : mayH 3 ⟨4, A, 1⟩ = true := by simp [mayH, ndB, rkB]; omega
  have m2 : mayH 3 ⟨4, B, 2⟩ = true := by simp [mayH, ndB, rkB]; omega
  have M2 := Lib.hid m2
  go_wp2_with fail
  refine (hear_any w.heap.size w.heap.size 3 200 [] (.slice none 0 0) ⟨4, A, 1⟩ w1 t1 (by simp) (by omega)).mono ?_
  rintro r w2 ⟨rfl, v2, t2, j2⟩
  have b2 := b1.trans (j2.below (Nat.le_refl w.heap.size) (fun q e => by cases e) b1.size)
  clear t1 j2 b1 m2
  by_cases h1 : A < 200
  · obtain ⟨hb1, hr1, hl1⟩ := one_lo (rk := 200) (l := []) (x := ⟨4, A, 1⟩) (.inl rfl) m1 h1
    rw [hb1]
    rw [hr1, hl1] at t2
    have g1 : decide (A < 200) = true := by simpa using h1
    clear hb1 hr1 hl1 m1
    go_wp2_with fail
    refine (rnk_any _ _ 3 (A + 1) [⟨4, A, 1⟩] v2 w2 t2).mono ?_
    rintro r w' ⟨rfl, rfl⟩
    go_wp2_with fail
    refine (hear_any _ _ 3 (A + 1) [⟨4, A, 1⟩] v2 ⟨4, B, 2⟩ w2 t2 (by simp) (by omega)).mono ?_
    rintro r w3 ⟨rfl, v3, t3, j3⟩
    have b3 := b2.trans (j3.old t2)
    by_cases h2 : B < (A + 1)
    · obtain ⟨hb2, hr2, hl2⟩ := one_lo (rk := (A + 1)) (l := [⟨4, A, 1⟩]) (x := ⟨4, B, 2⟩) (.inr ⟨_, rfl, rfl⟩) M2.out h2
      rw [hb2]
      rw [hr2, hl2] at t3
      have g2 : decide (B < A + 1) = true := by simpa using h2
      clear hb2 hr2 hl2 t2 j3 b2
      go_wp2_with fail
      refine (all_any _ _ 3 (B + 1) [⟨4, B, 2⟩] v3 w3 t3).mono ?_
      rintro r w4 ⟨A4, c4, rfl, hc4, hd4, hR4, b4⟩
      have t4 := t3.below b4
      have b5 := b3.trans (b4.mono b3.size)
      clear t3 b3 b4 hR4
      go_wp2_with fail
      refine (rko_any _ _ 3 (B + 1) [⟨4, B, 2⟩] v3 4 w4 t4).mono ?_
      rintro r w5 ⟨rfl, b6⟩
      have t5 := t4.below b6
      have b7 := b5.trans (b6.mono b5.size)
      rw [show rkoP [(⟨4, B, 2⟩ : P)] 4 = (B, true) from rko1 ⟨4, B, 2⟩]
      clear t4 b5 b6
      go_wp2_with fail
      refine (rnk_any _ _ 3 (B + 1) [⟨4, B, 2⟩] v3 w5 t5).mono ?_
      rintro r w' ⟨rfl, rfl⟩
      have hmin : min (A + 1) (B + 1) = B + 1 := by omega
      go_wp2_with fail
      refine (old_any sort_ok _ _ 3 (B + 1) 1000 5 995 [⟨4, B, 2⟩] v3 w5 t5 (by omega) (by omega) (by omega) rfl).mono ?_
      rintro r w6 ⟨gv, v6, rfl, m6, t6, j6⟩
      rw [go1, sr1] at m6
      have b8 := b7.trans (j6.old t5)
      obtain ⟨A6, c6, rfl, hc6, hd6, hR6⟩ := m6.row
      clear t5 t6 j6 b7
      go_wp2_with fail
      refine (s2_yes _).mono ?_
      rintro r w7 ⟨A7, c7, rfl, hc7, hd7, hR7, b9⟩
      have hR8 := (m6.kept (w' := w7) (fun q _ => if h : q < w6.heap.size then .inl (b9.block q h) else .inr (fun e => h (m6.lt q e).2))).rowAt
      have b10 := b8.trans (b9.mono b8.size)
      go_wp2_with fail
      refine (same_ints _ _ 1 c6 c7 (zval [4]) (fun j => ([4] : List Int).getD j 0) _ rfl hc6 hc7 hd6 hd7 hR8 hR7).mono ?_
      rintro r w8 ⟨rfl, m8, hm8⟩
      have b11 : Below w.heap.size w w8 := by rw [← hm8]; exact below_drewN b10 m8
      clear hm8
      go_wp2_with fail
      refine (awake_any _).mono ?_
      rintro r w9 ⟨rfl, b12⟩
      go_wp2_with fail
      go_ret
      exact ⟨rfl, b11.trans (b12.mono b11.size)⟩
    · obtain ⟨hb2, hr2, hl2⟩ := one_hi (rk := (A + 1)) (l := [⟨4, A, 1⟩]) (x := ⟨4, B, 2⟩) (.inr ⟨_, rfl, rfl⟩) M2.out (show (A + 1) ≤ B by omega)
      rw [hb2]
      rw [hr2, hl2] at t3
      have g2 : decide (B < A + 1) = false := by simpa using h2
      clear hb2 hr2 hl2 t2 j3 b2
      go_wp2_with fail
      refine (all_any _ _ 3 (A + 1) [] v3 w3 t3).mono ?_
      rintro r w4 ⟨A4, c4, rfl, hc4, hd4, hR4, b4⟩
      have t4 := t3.below b4
      have b5 := b3.trans (b4.mono b3.size)
      clear t3 b3 b4 hR4
      go_wp2_with fail
      refine (rko_any _ _ 3 (A + 1) [] v3 4 w4 t4).mono ?_
      rintro r w5 ⟨rfl, b6⟩
      have t5 := t4.below b6
      have b7 := b5.trans (b6.mono b5.size)
      rw [rko0]
      clear t4 b5 b6
      go_wp2_with fail
      refine (old_any sort_ok _ _ 3 (A + 1) 1000 5 995 [] v3 w5 t5 (by omega) (by omega) (by omega) rfl).mono ?_
      rintro r w6 ⟨gv, v6, rfl, m6, t6, j6⟩
      rw [go0, sr0] at m6
      have b8 := b7.trans (j6.old t5)
      obtain ⟨A6, c6, rfl, hc6, hd6, hR6⟩ := m6.row
      clear t5 t6 j6 b7
      go_wp2_with fail
      refine (s2_no _).mono ?_
      rintro r w' ⟨rfl, rfl⟩
      have b10 := b8
      go_wp2_with fail
      refine (same_ints _ _ 0 c6 0 (zval []) (fun j => ([] : List Int).getD j 0) _ rfl hc6 (Nat.le_refl _) hd6 (Nat.zero_le _) hR6 (fun h => by omega)).mono ?_
      rintro r w8 ⟨rfl, m8, hm8⟩
      have b11 : Below w.heap.size w w8 := by rw [← hm8]; exact below_drewN b10 m8
      clear hm8
      go_wp2_with fail
      refine (awake_any _).mono ?_
      rintro r w9 ⟨rfl, b12⟩
      go_wp2_with fail
      go_ret
      exact ⟨rfl, b11.trans (b12.mono b11.size)⟩
  · obtain ⟨hb1, hr1, hl1⟩ := one_hi (rk := 200) (l := []) (x := ⟨4, A, 1⟩) (.inl rfl) m1 (show (200 : Int) ≤ A by omega)
    rw [hb1]
    rw [hr1, hl1] at t2
    have g1 : decide (A < 200) = false := by simpa using h1
    clear hb1 hr1 hl1 m1
    go_wp2_with fail
    refine (rnk_any _ _ 3 200 [] v2 w2 t2).mono ?_
    rintro r w' ⟨rfl, rfl⟩
    go_wp2_with fail
    refine (hear_any _ _ 3 200 [] v2 ⟨4, B, 2⟩ w2 t2 (by simp) (by omega)).mono ?_
    rintro r w3 ⟨rfl, v3, t3, j3⟩
    have b3 := b2.trans (j3.old t2)
    by_cases h2 : B < 200
    · obtain ⟨hb2, hr2, hl2⟩ := one_lo (rk := 200) (l := []) (x := ⟨4, B, 2⟩) (.inl rfl) M2.out h2
      rw [hb2]
      rw [hr2, hl2] at t3
      have g2 : decide (B < 200) = true := by simpa using h2
      clear hb2 hr2 hl2 t2 j3 b2
      go_wp2_with fail
      refine (all_any _ _ 3 (B + 1) [⟨4, B, 2⟩] v3 w3 t3).mono ?_
      rintro r w4 ⟨A4, c4, rfl, hc4, hd4, hR4, b4⟩
      have t4 := t3.below b4
      have b5 := b3.trans (b4.mono b3.size)
      clear t3 b3 b4 hR4
      go_wp2_with fail
      refine (rko_any _ _ 3 (B + 1) [⟨4, B, 2⟩] v3 4 w4 t4).mono ?_
      rintro r w5 ⟨rfl, b6⟩
      have t5 := t4.below b6
      have b7 := b5.trans (b6.mono b5.size)
      rw [show rkoP [(⟨4, B, 2⟩ : P)] 4 = (B, true) from rko1 ⟨4, B, 2⟩]
      clear t4 b5 b6
      go_wp2_with fail
      refine (rnk_any _ _ 3 (B + 1) [⟨4, B, 2⟩] v3 w5 t5).mono ?_
      rintro r w' ⟨rfl, rfl⟩
      have hmin : min 200 (B + 1) = B + 1 := by omega
      go_wp2_with fail
      refine (old_any sort_ok _ _ 3 (B + 1) 1000 5 995 [⟨4, B, 2⟩] v3 w5 t5 (by omega) (by omega) (by omega) rfl).mono ?_
      rintro r w6 ⟨gv, v6, rfl, m6, t6, j6⟩
      rw [go1, sr1] at m6
      have b8 := b7.trans (j6.old t5)
      obtain ⟨A6, c6, rfl, hc6, hd6, hR6⟩ := m6.row
      clear t5 t6 j6 b7
      go_wp2_with fail
      refine (s2_yes _).mono ?_
      rintro r w7 ⟨A7, c7, rfl, hc7, hd7, hR7, b9⟩
      have hR8 := (m6.kept (w' := w7) (fun q _ => if h : q < w6.heap.size then .inl (b9.block q h) else .inr (fun e => h (m6.lt q e).2))).rowAt
      have b10 := b8.trans (b9.mono b8.size)
      go_wp2_with fail
      refine (same_ints _ _ 1 c6 c7 (zval [4]) (fun j => ([4] : List Int).getD j 0) _ rfl hc6 hc7 hd6 hd7 hR8 hR7).mono ?_
      rintro r w8 ⟨rfl, m8, hm8⟩
      have b11 : Below w.heap.size w w8 := by rw [← hm8]; exact below_drewN b10 m8
      clear hm8
      go_wp2_with fail
      refine (awake_any _).mono ?_
      rintro r w9 ⟨rfl, b12⟩
      go_wp2_with fail
      go_ret
      exact ⟨rfl, b11.trans (b12.mono b11.size)⟩
    · obtain ⟨hb2, hr2, hl2⟩ := one_hi (rk := 200) (l := []) (x := ⟨4, B, 2⟩) (.inl rfl) M2.out (show 200 ≤ B by omega)
      rw [hb2]
      rw [hr2, hl2] at t3
      have g2 : decide (B < 200) = false := by simpa using h2
      clear hb2 hr2 hl2 t2 j3 b2
      go_wp2_with fail
      refine (all_any _ _ 3 200 [] v3 w3 t3).mono ?_
      rintro r w4 ⟨A4, c4, rfl, hc4, hd4, hR4, b4⟩
      have t4 := t3.below b4
      have b5 := b3.trans (b4.mono b3.size)
      clear t3 b3 b4 hR4
      go_wp2_with fail
      refine (rko_any _ _ 3 200 [] v3 4 w4 t4).mono ?_
      rintro r w5 ⟨rfl, b6⟩
      have t5 := t4.below b6
      have b7 := b5.trans (b6.mono b5.size)
      rw [rko0]
      clear t4 b5 b6
      go_wp2_with fail
      refine (old_any sort_ok _ _ 3 200 1000 5 995 [] v3 w5 t5 (by omega) (by omega) (by omega) rfl).mono ?_
      rintro r w6 ⟨gv, v6, rfl, m6, t6, j6⟩
      rw [go0, sr0] at m6
      have b8 := b7.trans (j6.old t5)
      obtain ⟨A6, c6, rfl, hc6, hd6, hR6⟩ := m6.row
      clear t5 t6 j6 b7
      go_wp2_with fail
      refine (s2_no _).mono ?_
      rintro r w' ⟨rfl, rfl⟩
      have b10 := b8
      go_wp2_with fail
      refine (same_ints _ _ 0 c6 0 (zval []) (fun j => ([] : List Int).getD j 0) _ rfl hc6 (Nat.le_refl _) hd6 (Nat.zero_le _) hR6 (fun h => by omega)).mono ?_
      rintro r w8 ⟨rfl, m8, hm8⟩
      have b11 : Below w.heap.size w w8 := by rw [← hm8]; exact below_drewN b10 m8
      clear hm8
      go_wp2_with fail
      refine (awake_any _).mono ?_
      rintro r w9 ⟨rfl, b12⟩
      go_wp2_with fail
      go_ret
      exact ⟨rfl, b11.trans (b12.mono b11.size)⟩

theorem walk (H : Type) (enc : TypeId × Value → H) : Walk H enc Try.prog 8 Try.f8 := by
  intro W base args ds p hval hA
  rw [Try.params8] at hA hval
  obtain ⟨v0, v1, d0, d1, p0, p1, rfl, rfl, rfl, h0, h1⟩ := trodAll_two hA
  obtain ⟨a, rfl, rfl, rfl, _⟩ := open_int Try.underlying3 (hval 0 _ v0 rfl rfl) h0
  obtain ⟨b, rfl, rfl, rfl, _⟩ := open_int Try.underlying3 (hval 1 _ v1 rfl rfl) h1
  exact body a b W

set_option maxRecDepth 100000 in
theorem lifted (os : Os) (started : os.Started) (H : Type) (enc : TypeId × Value → H) :
    ReturnsInHanded {} Try.checked os 8 .any (Rows.parentsAgainSpec.pre6 enc Try.prog Try.f8 Rows.parentsAgainRow.domain false) (Rows.parentsAgainSpec.post enc Try.prog Try.f8 false true false false) :=
  returnsInHanded_of_change (C := Try.checked) own started (by kernel_rfl) Try.func8
    (ChangeSpec.witness6 (enc := enc) (C := Try.checked) false ⟨#[], #[.int .i64 0, .int .i64 0], []⟩ 8 (by kernel_rfl) (by kernel_rfl) (by kernel_rfl) (by kernel_rfl))
    fun W base args ds gs before hval hW _ _ => step_of_walk laidOut (by rw [Try.params8]; exact of_decide_eq_true (by kernel_rfl)) (by kernel_rfl) Try.underlying4 rfl
      (fun ds h => by
        rw [Try.params8] at h
        match ds, h with
        | [_, _], _ => rfl) (walk H enc) W base args ds gs before hval hW

theorem holds : Rows.ParentsAgainSaid :=
  OpenClaim.holds_of_wide 8 Try.f8 rfl rfl rfl rfl rfl rfl rfl ⟨rfl, rfl, rfl, rfl, rfl⟩ rfl rfl rfl rfl rfl (by kernel_rfl) Try.func8 (by kernel_rfl)
    (of_decide_eq_true (by kernel_rfl)) (by unfold Func.isWrapper; first | (rw [if_pos (by decide +kernel)]; kernel_rfl) | (rw [if_neg (by decide +kernel)]; exact ⟨rfl, rfl⟩))
    (fun os started H enc _ => lifted os started H enc)
#print axioms holds
end Go.Proofs.Ytjboilkbcajkcaa.ParentsAgain
