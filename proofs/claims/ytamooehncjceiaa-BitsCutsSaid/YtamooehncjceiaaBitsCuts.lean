/-
  Law BitsCuts: where the cuts are makes no difference; the call returns true. No condition.
-/
import Derived.Test.YtamooehncjceiaaBfCuts
import Derived.Test.YtamooehncjceiaaRowRow
import Derived.IntWalk
set_option maxRecDepth 100000
namespace Go.Proofs.Ytamooehncjceiaa.BitsCuts
set_option linter.unusedVariables false
open Go.RowKit Go.ChangeShapes Go.WideShapes Go.ChangeAt Go.Deep Lb Bf
set_option linter.unusedVariables false
theorem own : ownKnob Try.prog.godebug = none := by kernel_rfl
theorem laidOut : laidOutB Try.prog = true := by kernel_rfl
theorem Wr.keep {w w' : World} {base b c bits n : Nat} {Z : Nat → Nat} {B : Nat → Bool} {v x x' : Value} (h : Wr w base b bits n Z B v) (j : Lone w w' c x x') (h1 : b ≠ c) (h2 : x.ownBlock ≠ some b) (h3 : v.ownBlock ≠ some c) (h4 : ∀ q, v.ownBlock = some q → x.ownBlock ≠ some q) : Wr w' base b bits n Z B v :=
  ⟨⟨(j.keep b h.own.lt h1 h2).trans h.own, h.row.kept (fun q hq => by
    by_cases hl : v.ownBlock = some q
    · exact .inl (j.keep q (h.row.lt q hl).2 (fun e => h3 (e ▸ hl)) (h4 q hl))
    · exact .inr hl), h.str, h.low⟩, h.le, h.lt⟩
/-- Two writers, in blocks a and b, with bytes x and y, share nothing. -/
structure Two (w : World) (a b : Nat) (x y : Value) : Prop where
  ne : a ≠ b
  la : a < w.heap.size
  lb : b < w.heap.size
  xb : x.ownBlock ≠ some b
  ya : y.ownBlock ≠ some a
  sep : ∀ q, x.ownBlock = some q → y.ownBlock ≠ some q
  lx : ∀ q, x.ownBlock = some q → q < w.heap.size
  ly : ∀ q, y.ownBlock = some q → q < w.heap.size
theorem Two.symm {w : World} {a b : Nat} {x y : Value} (t : Two w a b x y) : Two w b a y x := ⟨t.ne.symm, t.lb, t.la, t.ya, t.xb, fun q e e' => t.sep q e' e, t.ly, t.lx⟩
theorem Two.left {w w' : World} {a b : Nat} {x x' y : Value} (t : Two w a b x y) (l : Lone w w' a x x') (hs : w.heap.size ≤ w'.heap.size) (hx : ∀ q, x'.ownBlock = some q → q < w'.heap.size) : Two w' a b x' y where
  ne := t.ne
  la := Nat.lt_of_lt_of_le t.la hs
  lb := Nat.lt_of_lt_of_le t.lb hs
  xb e := (l.own b e).elim t.xb (fun h => by have := t.lb; omega)
  ya := t.ya
  sep q e e' := (l.own q e).elim (fun h => t.sep q h e') (fun h => by have := t.ly q e'; omega)
  lx := hx
  ly q e := Nat.lt_of_lt_of_le (t.ly q e) hs
theorem Two.keep {w w' : World} {base a b bits n : Nat} {Z : Nat → Nat} {B : Nat → Bool} {x x' y : Value} (t : Two w a b x y) (l : Lone w w' a x x') (h : Wr w base b bits n Z B y) : Wr w' base b bits n Z B y :=
  Wr.keep h l t.ne.symm t.xb t.ya (fun q e e' => t.sep q e' e)
/-- All bytes of one writer, beside another one. -/
theorem bytes_keep (v : World) (base b c bits n cits m : Nat) (Z Y : Nat → Nat) (B E : Nat → Bool) (x y : Value) (w : World) (h : Wr w base b bits n Z B x) (g : Wr w base c cits m Y E y) (hl : bits ≤ 1000000) (hb : Below v.heap.size v w) :
    Calls Try.prog 25 #[.pointer (some ⟨b, 0, none⟩)] w fun r w' => ∃ va vc, r = .returned (.slice va n vc) ∧ (convert 22 9 (.slice va n vc)).run Try.prog w' = .ok (.string (str (fun i => (Z i : Int)) n)) w' ∧
      Row w' va n (fun i => .int .u8 (Z i : Nat)) ∧ Wr w' base b bits n Z B x ∧ Wr w' base c cits m Y E y ∧ Below v.heap.size v w' := by
  refine (bytes_any base b bits n Z B x w h hl).mono ?_
  rintro r w2 ⟨va, vc, rfl, _, _, hR, h2⟩
  exact ⟨va, vc, rfl, conv_string (P := Try.prog) Try.underlying22 Try.underlying5 Try.underlying9 hR, hR, h.below h2, g.below h2, hb.trans (h2.mono hb.size)⟩
/-- The same, with another row's text. -/
theorem bytes_keep2 (v : World) (base b c bits n cits m : Nat) (Z Y : Nat → Nat) (B E : Nat → Bool) (x y : Value) (w : World) (ua : Option Addr) (un uc : Nat) (U : Nat → Nat) (h : Wr w base b bits n Z B x) (g : Wr w base c cits m Y E y) (hl : bits ≤ 1000000) (hU : Row w ua un (fun i => .int .u8 (U i : Nat))) (hb : Below v.heap.size v w) :
    Calls Try.prog 25 #[.pointer (some ⟨b, 0, none⟩)] w fun r w' => ∃ va vc, r = .returned (.slice va n vc) ∧ (convert 22 9 (.slice va n vc)).run Try.prog w' = .ok (.string (str (fun i => (Z i : Int)) n)) w' ∧
      (convert 22 9 (.slice ua un uc)).run Try.prog w' = .ok (.string (str (fun i => (U i : Int)) un)) w' ∧ Wr w' base b bits n Z B x ∧ Wr w' base c cits m Y E y ∧ Below v.heap.size v w' := by
  refine (bytes_any base b bits n Z B x w h hl).mono ?_
  rintro r w2 ⟨va, vc, rfl, _, _, hR, h2⟩
  exact ⟨va, vc, rfl, conv_string (P := Try.prog) Try.underlying22 Try.underlying5 Try.underlying9 hR, conv_string (P := Try.prog) Try.underlying22 Try.underlying5 Try.underlying9 (hU.below h2), h.below h2, g.below h2, hb.trans (h2.mono hb.size)⟩
set_option maxHeartbeats 8000000 in
theorem body (N : Nat) (wd ct ah : Int) (w : World) (hN : N < 18446744073709551616) :
    Calls Try.prog 6 #[.int .u64 (N : Nat), .int .i64 wd, .int .i64 ct, .int .i64 ah] w fun r w' => r = .returned (.bool true) ∧ Below w.heap.size w w' := by
  obtain ⟨W, hW⟩ : ∃ W : Nat, (wd % 18446744073709551616) % 65 = (W : Int) := ⟨((wd % 18446744073709551616) % 65).toNat, by omega⟩
  obtain ⟨A, hA⟩ : ∃ A : Nat, (ah % 18446744073709551616) % 20 = (A : Int) := ⟨((ah % 18446744073709551616) % 20).toNat, by omega⟩
  have hp : (0 : Int) < (W : Int) + 1 := by omega
  obtain ⟨C, hC⟩ : ∃ C : Nat, (ct % 18446744073709551616) % ((W : Int) + 1) = (C : Int) := ⟨((ct % 18446744073709551616) % ((W : Int) + 1)).toNat, by have := Int.emod_nonneg (ct % 18446744073709551616) (show (W : Int) + 1 ≠ 0 from by omega); omega⟩
  have hCW : C ≤ W := by have := Int.emod_lt_of_pos (ct % 18446744073709551616) hp; omega
  have hW64 : W ≤ 64 := by omega
  have hA20 : A < 20 := by omega
  have tm : ∀ x m : Int, (IntKind.u64.wrap x).tmod m = (x % 18446744073709551616) % m := fun x m => by rw [IntKind.wrap_u64, Int.tmod_eq_emod_of_nonneg (Int.emod_nonneg _ (by decide))]
  have q1 : wrap64 ((IntKind.u64.wrap wd).tmod 65) = (W : Int) := by rw [tm, hW, IntWalk.wrap64_in _ ⟨by omega, by omega⟩]
  have q2 : wrap64 ((IntKind.u64.wrap ah).tmod 20) = (A : Int) := by rw [tm, hA, IntWalk.wrap64_in _ ⟨by omega, by omega⟩]
  have q3 : wrap64 ((IntKind.u64.wrap ct).tmod ((W : Int) + 1)) = (C : Int) := by rw [tm, hC, IntWalk.wrap64_in _ ⟨by omega, by omega⟩]
  have q4 : IntKind.u64.wrap ((W : Int) + 1) = (W : Int) + 1 := by rw [IntKind.wrap_u64]; omega
  have q5 : ((W : Int) + 1 == 0) = false := by simp; omega
  have q6 : (W : Int) + 1 ≠ 0 := by omega
  obtain ⟨D, hD⟩ : ∃ D, W - C = D := ⟨_, rfl⟩
  have q7 : (W : Int) - (C : Int) = (D : Int) := by omega
  have q8 : IntKind.u64.wrap (D : Int) = (D : Int) := by rw [IntKind.wrap_u64]; omega
  obtain ⟨M, hM⟩ : ∃ M, N >>> D = M := ⟨_, rfl⟩
  have q9 : (N : Int) / 2 ^ D = (M : Int) := by rw [← hM, Nat.shiftRight_eq_div_pow]; simp
  have hND : M < 18446744073709551616 := by rw [← hM]; exact Nat.lt_of_le_of_lt (by rw [Nat.shiftRight_eq_div_pow]; exact Nat.div_le_self _ _) hN
  have HM := Lib.hid hM
  clear hW hA hC tm hp hM
  have h0 : Wr ((w.alloc (.cells #[.slice none 0 0, .int .i64 0] 47)).alloc (.cells #[.slice none 0 0, .int .i64 0] 47)) w.heap.size w.heap.size 0 0 (fun _ => 0) (fun _ => false) (.slice none 0 0) := ⟨⟨(Own.new w 47 _).alloc _, Mine.nil _ _ _ _, ⟨fun k hk => by omega, fun k hk => by omega⟩, Nat.le_refl _⟩, by decide, by decide⟩
  have hs0 : (w.alloc (.cells #[.slice none 0 0, .int .i64 0] 47)).heap.size = w.heap.size + 1 := by simp
  have g0 : Wr ((w.alloc (.cells #[.slice none 0 0, .int .i64 0] 47)).alloc (.cells #[.slice none 0 0, .int .i64 0] 47)) w.heap.size (w.heap.size + 1) 0 0 (fun _ => 0) (fun _ => false) (.slice none 0 0) := ⟨⟨by rw [← hs0]; exact Own.new _ 47 _, Mine.nil _ _ _ _, ⟨fun k hk => by omega, fun k hk => by omega⟩, by omega⟩, by decide, by decide⟩
  have b0 := ((Below.refl w.heap.size w).alloc (Nat.le_refl _) (.cells #[.slice none 0 0, .int .i64 0] 47)).alloc (by rw [hs0]; omega) (.cells #[.slice none 0 0, .int .i64 0] 47)
  have t0 : Two ((w.alloc (.cells #[.slice none 0 0, .int .i64 0] 47)).alloc (.cells #[.slice none 0 0, .int .i64 0] 47)) w.heap.size (w.heap.size + 1) (.slice none 0 0) (.slice none 0 0) := ⟨by omega, h0.own.lt, g0.own.lt, by simp [Value.ownBlock], by simp [Value.ownBlock], fun q e => by simp [Value.ownBlock] at e, fun q e => by simp [Value.ownBlock] at e, fun q e => by simp [Value.ownBlock] at e⟩
  go_enter Try.func6, Try.ntmps6
  go_wp2_with fail
  generalize (w.alloc (.cells #[.slice none 0 0, .int .i64 0] 47)).alloc (.cells #[.slice none 0 0, .int .i64 0] 47) = w2 at *
  obtain ⟨S, hS⟩ : ∃ S, w.heap.size + 1 = S := ⟨_, rfl⟩
  obtain ⟨b, hb⟩ : ∃ b, w.heap.size = b := ⟨_, rfl⟩
  rw [hS] at g0 t0 ⊢
  rw [hb] at h0 g0 b0 t0 ⊢
  clear hS hs0
  have hN5 : (5 : Nat) < 18446744073709551616 := by decide
  refine (put_any b b 0 0 _ _ _ 5 A _ h0 hN5 (by omega) (by omega)).mono ?_
  rintro r w3 ⟨rfl, n1, Z1, v1, h1, b1, l1⟩
  have g1 := t0.keep l1 g0
  have t1 := t0.left l1 b1.size (fun q e => (h1.row.lt q e).2)
  have b1 := b0.trans b1
  clear h0 g0 t0 b0 l1
  go_wp2_with fail
  refine (put_any b S 0 0 _ _ _ 5 A _ g1 hN5 (by omega) (by omega)).mono ?_
  rintro r w4 ⟨rfl, n2, Z2, v2, g2, b2, l2⟩
  have h2 := t1.symm.keep l2 h1
  have t2 := (t1.symm.left l2 b2.size (fun q e => (g2.row.lt q e).2)).symm
  have b2 := b1.trans b2
  clear h1 g1 t1 b1 l2
  go_wp2_with fail
  refine (put_any b b _ n1 _ _ _ N W _ h2 hN hW64 (by omega)).mono ?_
  rintro r w5 ⟨rfl, n3, Z3, v3, h3, b3, l3⟩
  have g3 := t2.keep l3 g2
  have t3 := t2.left l3 b3.size (fun q e => (h3.row.lt q e).2)
  have b3 := b2.trans b3
  clear h2 g2 t2 b2 l3
  go_wp2_with fail
  refine (put_any b S _ n2 _ _ _ M C _ g3 hND (by omega) (by omega)).mono ?_
  rintro r w6 ⟨rfl, n4, Z4, v4, g4, b4, l4⟩
  have h4 := t3.symm.keep l4 h3
  have t4 := (t3.symm.left l4 b4.size (fun q e => (g4.row.lt q e).2)).symm
  have b4 := b3.trans b4
  clear h3 g3 t3 b3 l4
  go_wp2_with fail
  refine (put_any b S _ n4 _ _ _ N D _ g4 hN (by omega) (by omega)).mono ?_
  rintro r w7 ⟨rfl, n5, Z5, v5, g5, b5, l5⟩
  have h5 := t4.symm.keep l5 h4
  have b5 := b4.trans b5
  clear h4 g4 t4 b4 l5
  obtain ⟨Q, hQ⟩ : ∃ Q, A + W = Q := ⟨_, rfl⟩
  have hQi : (A : Int) + (W : Int) = (Q : Int) := by omega
  have hQw : IntKind.i64.wrap (Q : Int) = (Q : Int) := IntWalk.i64_in _ (by omega)
  have hQ84 : Q ≤ 1000000 := by omega
  rw [Nat.zero_add, hQ] at h5
  rw [show 0 + A + C + D = Q from by omega] at g5
  obtain ⟨en, ez⟩ := g5.str.uniq h5.str g5.le g5.lt h5.le h5.lt (fun p hp => by
    rw [Nat.zero_add, ← HM.out, ← hD]
    exact app_cut _ A N W C p hCW (by omega))
  subst en
  have HS : Hid (str (fun i => (Z5 i : Int)) n5 = str (fun i => (Z3 i : Int)) n5) := Lib.hid (str_congr (fun i hi => by show (Z5 i : Int) = (Z3 i : Int); rw [ez i hi]))
  obtain ⟨sA, hsA⟩ : ∃ sA, str (fun i => (Z3 i : Int)) n5 = sA := ⟨_, rfl⟩
  have hbC : Hid (∀ p, A ≤ p → p < A + W → bt Z3 p = app (fun _ => false) A N W p) := Lib.hid (fun p h1 h2 => by
    rw [h5.str.bt (by omega) h5.le]
    simp [app, show ¬ p < A from by omega])
  have h5d : Wr w7.drew b b Q n5 Z3 _ v3 := h5.drewN 1
  have g5d : Wr w7.drew b S Q n5 Z5 _ v5 := g5.drewN 1
  have b5d : Below b w w7.drew := below_drewN b5 1
  clear h5 g5 b5 ez hQ
  have HB := Lib.hid hb
  subst hb
  go_wp2_with fail
  go_region_with (first
    | (go_at_call 24; first | ((with_reducible refine (bits_any _ w.heap.size _ _ _ _ _ _ h5d).mono ?_); rintro r w' ⟨rfl, rfl⟩) | ((with_reducible refine (bits_any _ S _ _ _ _ _ _ g5d).mono ?_); rintro r w' ⟨rfl, rfl⟩))
    | (go_at_call 25; first
      | ((with_reducible refine (bytes_keep w _ w.heap.size S _ _ _ _ _ _ _ _ _ _ _ h5d g5d hQ84 b5d).mono ?_); rintro r w8 ⟨va, vc, rfl, k8, R8, h8, g8, b8⟩; rw [hsA] at k8)
      | ((with_reducible refine (bytes_keep2 w _ S w.heap.size _ _ _ _ _ _ _ _ _ _ _ va n5 vc Z3 g8 h8 hQ84 R8 b8).mono ?_); rintro r w9 ⟨ua, uc, rfl, k9, k9', g9, h9, b9⟩; rw [HS.out, hsA] at k9; rw [hsA] at k9')))
  all_goals
    go_wp2_with fail
    refine (bytes_any _ w.heap.size _ _ _ _ _ _ h9 hQ84).mono ?_
    rintro r w10 ⟨va2, vc2, rfl, _, _, hR10, b10⟩
    have b10 := b9.trans (b10.mono b9.size)
    have hz3 := h9.str.lt
    have hle3 := h9.le
    have hlt3 := h9.lt
    clear h9 g9 k9 k9' b9 h8 g8 R8 k8 b8 h5d g5d b5d b5 b4 b3 b2 b1 hsA HS
    go_wp2_with fail
    have hsz := b10.size
    refine (new_any va2 n5 vc2 Z3 _ (by omega) hR10 hz3 (fun e => by
      subst e
      rcases Nat.eq_zero_or_pos n5 with h | h
      · exact h
      · obtain ⟨_, _, h1, _⟩ := hR10 h
        cases h1)).mono ?_
    rintro r wA ⟨rb, rv, rfl, hA1, bA0⟩
    have bA := b10.trans (bA0.mono hsz)
    clear hR10 b10 bA0
    generalize w10.heap.size = B0 at *
    go_wp2_with fail
    refine (take_any B0 rb 0 n5 Z3 0 rv A _ hA1 (by omega) (by omega) (by omega)).mono ?_
    rintro r wB ⟨x0, rfl, _, hB1, bB0⟩
    have bB := bA.trans (bB0.mono hsz)
    rw [Nat.zero_add] at hB1
    clear hA1 bA bB0
    go_wp2_with fail
    refine (take_any B0 rb A n5 Z3 0 rv C _ hB1 (by omega) (by omega) (by omega)).mono ?_
    rintro r wC ⟨x, rfl, hx, hC1, bC0⟩
    have bC := bB.trans (bC0.mono hsz)
    clear hB1 bB bC0
    go_wp2_with fail
    refine (take_any B0 rb (A + C) n5 Z3 0 rv D _ hC1 (by omega) (by omega) (by omega)).mono ?_
    rintro r wD ⟨y, rfl, hy, hD1, bD0⟩
    have bD := bC.trans (bD0.mono hsz)
    clear hC1 bC hD1 bD0
    have hxy := (hx.both hy).uniq (show Num (N % 2 ^ W) (C + D) (bt Z3) A from by
      have := num_app (fun _ => false) (bt Z3) A N W hbC.out
      rwa [show W = C + D from by omega] at this ⊢)
    by_cases hD64 : D = 64
    · obtain rfl : C = 0 := by omega
      have hx0 : x = 0 := by have := hx.lt; omega
      have hyN : N = y := by
        subst hx0
        rw [Nat.zero_shiftLeft, Nat.zero_or] at hxy
        rw [hxy, Nat.mod_eq_of_lt]
        exact Nat.lt_of_lt_of_le hN (by rw [show W = 64 from by omega]; decide)
      subst hyN
      have g64 : ((D : Int) == 64) = true := by simp; omega
      have g65 : ((W : Int) == 64) = true := by simp; omega
      clear hxy hx hy hx0 hD64 hD
      go_wp2_with fail
      refine (awake_any _).mono ?_
      rintro r wE ⟨rfl, bE⟩
      go_wp2_with fail
      go_ret
      exact ⟨rfl, bD.trans (bE.mono bD.size)⟩
    · have g64 : ((D : Int) == 64) = false := by simp; omega
      obtain ⟨R, hR⟩ : ∃ R, N % 2 ^ W = R := ⟨_, rfl⟩
      have hp64 : 2 ^ W ≤ 2 ^ 64 := Nat.pow_le_pow_right (by decide) hW64
      have hp0 := Nat.two_pow_pos W
      have h64 : (2 : Nat) ^ 64 = 18446744073709551616 := rfl
      have hx2 : x <<< D < 2 ^ W := by
        rw [Nat.shiftLeft_eq, show W = C + D from by omega, Nat.pow_add]
        exact (Nat.mul_lt_mul_right (Nat.two_pow_pos D)).2 hx.lt
      have hy2 : y < 2 ^ 64 := Nat.lt_of_lt_of_le hy.lt (Nat.pow_le_pow_right (by decide) (by omega))
      obtain ⟨X, hX⟩ : ∃ X, x <<< D = X := ⟨_, rfl⟩
      obtain ⟨T, hT⟩ : ∃ T, 2 ^ W - 1 = T := ⟨_, rfl⟩
      have e1 : IntKind.u64.wrap ((x : Int) * 2 ^ D) = (X : Int) := by
        have hx3 : (x : Int) * 2 ^ D = ((x <<< D : Nat) : Int) := by rw [Nat.shiftLeft_eq]; simp
        rw [IntKind.wrap_u64, hx3, hX]
        rw [hX] at hx2
        omega
      have e2 : IntKind.u64.wrap (IntKind.u64.wrap (2 ^ W) - 1) = (T : Int) := by
        rw [IntKind.wrap_u64, IntKind.wrap_u64, ← hT, show ((2 : Int) ^ W) = ((2 ^ W : Nat) : Int) from by simp]
        omega
      have e3 : Go.bits .or .u64 (X : Int) (y : Int) = (R : Int) := by
        rw [u64_or_nat X y (by omega) (by omega), ← hX, hxy, hR]
      have e4 : Go.bits .and .u64 (N : Int) (T : Int) = (R : Int) := by
        rw [u64_and_nat N T hN (by omega), ← hT, Nat.and_two_pow_sub_one_eq_mod, hR]
      clear hxy hD64 hD hR hp64 hp0 h64 hx2 hy2 hX hT
      go_wp2_with fail
      refine (awake_any _).mono ?_
      rintro r wE ⟨rfl, bE⟩
      go_wp2_with fail
      go_ret
      exact ⟨rfl, bD.trans (bE.mono bD.size)⟩

theorem walk (H : Type) (enc : TypeId × Value → H) : Walk H enc Try.prog 6 Try.f6 := by
  intro W base args ds p hval hA
  rw [Try.params6] at hA hval
  obtain ⟨v0, v1, v2, v3, d0, d1, d2, d3, p0, p1, p2, p3, rfl, rfl, rfl, h0, h1, h2, h3⟩ := trodAll_four hA
  obtain ⟨x, rfl, rfl, rfl, hx⟩ := open_int Try.underlying30 (hval 0 _ v0 rfl rfl) h0
  obtain ⟨y, rfl, rfl, rfl, _⟩ := open_int Try.underlying3 (hval 1 _ v1 rfl rfl) h1
  obtain ⟨z, rfl, rfl, rfl, _⟩ := open_int Try.underlying3 (hval 2 _ v2 rfl rfl) h2
  obtain ⟨u, rfl, rfl, rfl, _⟩ := open_int Try.underlying3 (hval 3 _ v3 rfl rfl) h3
  obtain ⟨N, rfl⟩ : ∃ N : Nat, x = N := ⟨x.toNat, by have := u64_bd hx; omega⟩
  exact body N y z u W (by have := u64_bd hx; omega)

set_option maxRecDepth 100000 in
theorem lifted (os : Os) (started : os.Started) (H : Type) (enc : TypeId × Value → H) :
    ReturnsInHanded {} Try.checked os 6 .any (Rows.bitsCutsSpec.pre6 enc Try.prog Try.f6 Rows.bitsCutsRow.domain false) (Rows.bitsCutsSpec.post enc Try.prog Try.f6 false true false false) :=
  returnsInHanded_of_change (C := Try.checked) own started (by kernel_rfl) Try.func6
    (ChangeSpec.witness6 (enc := enc) (C := Try.checked) false ⟨#[], #[.int .u64 0, .int .i64 0, .int .i64 0, .int .i64 0], []⟩ 8 (by kernel_rfl) (by kernel_rfl) (by kernel_rfl) (by kernel_rfl))
    fun W base args ds gs before hval hW _ _ => step_of_walk laidOut (by rw [Try.params6]; exact of_decide_eq_true (by kernel_rfl)) (by kernel_rfl) Try.underlying4 rfl
      (fun ds h => by
        rw [Try.params6] at h
        match ds, h with
        | [_, _, _, _], _ => rfl) (walk H enc) W base args ds gs before hval hW

theorem holds : Rows.BitsCutsSaid :=
  OpenClaim.holds_of_wide 6 Try.f6 rfl rfl rfl rfl rfl rfl rfl ⟨rfl, rfl, rfl, rfl, rfl⟩ rfl rfl rfl rfl rfl (by kernel_rfl) Try.func6 (by kernel_rfl)
    (of_decide_eq_true (by kernel_rfl)) (by unfold Func.isWrapper; first | (rw [if_pos (by decide +kernel)]; kernel_rfl) | (rw [if_neg (by decide +kernel)]; exact ⟨rfl, rfl⟩))
    (fun os started H enc _ => lifted os started H enc)
#print axioms holds
end Go.Proofs.Ytamooehncjceiaa.BitsCuts
