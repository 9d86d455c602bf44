/-
  Package bits (chapter 3): a reader's methods turn their own block alone.
-/
import Derived.Test.YtcpmnfoenpdaeaaBfEnds
set_option maxRecDepth 100000
namespace Go.Proofs.Ytcpmnfoenpdaeaa.Bf
set_option linter.unusedVariables false
open Go.RowKit Lb Go.Shelf

theorem failJ (base b at_ n : Nat) (Z : Nat → Nat) (err e : Int) (v : Value) (w : World) (h : Rd w base b at_ n Z err v) :
    Calls Try.prog 55 #[.pointer (some ⟨b, 0, none⟩), .int .i64 e] w fun r w' => r = .returned (.tuple #[]) ∧ Rd w' base b 0 0 Z (fst_ err e) (.slice none 0 0) ∧ Just b w w' := by
  have k2 : w.cell? ⟨b, 2, none⟩ = some (.int .i64 err) := h.own.cell 2
  have k0 : w.cell? ⟨b, 0, none⟩ = some v := h.own.cell 0
  have k1 : w.cell? ⟨b, 1, none⟩ = some (.int .i64 (at_ : Int)) := h.own.cell 1
  have f0 : w.frozen? ⟨b, 0, none⟩ = false := h.own.free 0
  have f1 : w.frozen? ⟨b, 1, none⟩ = false := h.own.free 1
  have f2 : w.frozen? ⟨b, 2, none⟩ = false := h.own.free 2
  have hbs : base ≤ w.heap.size := by have := h.own.lt; have := h.low; omega
  obtain ⟨a, c, rfl, _, _, _⟩ := h.row.row
  by_cases e0 : err = 0
  · subst e0
    have HF : Hid (fst_ 0 e = e) := Lib.hid rfl
    go_enter Try.func55, Try.ntmps55
    go_wp2_with fail
    go_end0
    rw [HF.out]
    exact ⟨rfl, ⟨((h.own.put 2 _).put 0 _).put 1 _, Mine.nil _ _ _ _, fun k hk => by omega, h.low⟩, ((Just.set b w 2 _).put 0 _).put 1 _⟩
  · have HF : Hid (fst_ err e = err) := Lib.hid (by unfold fst_; rw [if_neg e0])
    have g : (err == 0) = false := by simpa using e0
    go_enter Try.func55, Try.ntmps55
    go_wp2_with fail
    go_end0
    rw [HF.out]
    exact ⟨rfl, ⟨(h.own.put 0 _).put 1 _, Mine.nil _ _ _ _, fun k hk => by omega, h.low⟩, (Just.set b w 0 _).put 1 _⟩
set_option maxHeartbeats 4000000 in
theorem takeJ (base b at_ n : Nat) (Z : Nat → Nat) (err : Int) (v : Value) (width : Nat) (w : World) (h : Rd w base b at_ n Z err v) (hw : width ≤ 64) (hl : at_ + width ≤ 8 * n) (hn : n ≤ 100000) :
    Calls Try.prog 45 #[.pointer (some ⟨b, 0, none⟩), .int .i64 (width : Nat)] w fun r w' => ∃ x, r = .returned (.int .u64 (x : Nat)) ∧ Num x width (bt Z) at_ ∧ Rd w' base b (at_ + width) n Z err v ∧ Just b w w' := by
  have g1 : decide ((width : Int) < 0) = false := by simp
  have g2 : decide ((64 : Int) < (width : Int)) = false := by simp; omega
  have g3 : decide (64 < width) = false := by simp; omega
  have g4 : decide (((8 * n - at_ : Nat) : Int) < (width : Int)) = false := by simp; omega
  have g5 : decide (8 * n - at_ < width) = false := by simp; omega
  have hbase : base ≤ w.heap.size := by have := h.own.lt; have := h.low; omega
  go_enter Try.func45, Try.ntmps45
  go_wp2_with fail
  refine (left_any base b at_ n Z err v _ h (by omega) (by omega)).mono ?_
  rintro r w1 ⟨rfl, m1, hw1⟩
  have h1 : Rd w1 base b (at_ + (width - width)) n Z err v := by rw [Nat.sub_self, ← hw1]; exact h.drewN m1
  have b1 : Just b w w1 := by rw [← hw1]; exact (Just.refl b w).drewN m1
  clear hw1 h
  obtain ⟨LL, hLL⟩ : ∃ LL, 8 * n - at_ = LL := ⟨_, rfl⟩
  rw [hLL] at g4 g5 ⊢
  have HLL := Lib.hid hLL
  clear hLL
  go_wp2_with fail
  go_loopw [1, 5] (fun i s wr => ∃ d X : Nat, i = .int .i64 d ∧ s = .int .u64 (X : Nat) ∧ d ≤ width ∧ Num X (width - d) (bt Z) at_ ∧ Rd wr base b (at_ + (width - d)) n Z err v ∧ Just b w wr) (fun i _ _ => (intOf i).toNat)
  case atStart => exact ⟨width, 0, rfl, rfl, Nat.le_refl _, by rw [Nat.sub_self]; exact Num.zero _ _, h1, b1⟩
  case round =>
    clear h1 b1
    obtain ⟨d, X, rfl, rfl, hd, hX, h1, b1⟩ := hrel
    by_cases hd0 : 0 < d
    · obtain ⟨g, c1, rfl⟩ := mine_form h1.row (by omega)
      have k0 : wr.cell? ⟨b, 0, none⟩ = some (.slice (some ⟨g, 0, none⟩) n c1) := h1.own.cell 0
      have k1 : wr.cell? ⟨b, 1, none⟩ = some (.int .i64 ((at_ + (width - d) : Nat) : Int)) := h1.own.cell 1
      obtain ⟨q, hq⟩ : ∃ q, at_ + (width - d) = q := ⟨_, rfl⟩
      rw [hq] at k1 h1
      have hq2 : q + d ≤ 8 * n := by omega
      have HQ := Lib.hid hq
      have hmk : width - d + d = width := by omega
      clear hq
      obtain ⟨R, hR⟩ : ∃ R, 8 - q % 8 = R := ⟨_, rfl⟩
      have e2 : (8 : Int) - (q : Int) % 8 = (R : Int) := by omega
      obtain ⟨T, hT⟩ : ∃ T, min R d = T := ⟨_, rfl⟩
      have hT1 : 1 ≤ T ∧ T ≤ R ∧ T ≤ d := by omega
      have e4 : min (R : Int) (d : Int) = (T : Int) := by omega
      obtain ⟨K, hK⟩ : ∃ K, q / 8 = K := ⟨_, rfl⟩
      have hK2 : K < n := by omega
      have e5 : (q : Int) / 8 = (K : Int) := by omega
      obtain ⟨S, hS⟩ : ∃ S, R - T = S := ⟨_, rfl⟩
      have e6 : IntKind.i64.wrap ((R : Int) - (T : Int)) = (S : Int) := by rw [IntWalk.i64_in _ (by omega)]; omega
      have e6' : (R : Int) - (T : Int) = (S : Int) := by omega
      have hz := h1.lt K hK2
      have e8 := part_and' (Z K) S T hz (by omega)
      obtain ⟨y, hy⟩ : ∃ y, part (Z K) S T = y := ⟨_, rfl⟩
      have hyl : y < 256 := by rw [← hy]; exact part_lt _ _ _
      have hX2 : Num (X <<< T ||| y) (width - d + T) (bt Z) at_ := by
        have := hX.step (t := T) (by rw [HQ.out]; omega)
        rw [HQ.out, hK, hR, hS, hy] at this
        exact this
      obtain ⟨M, hM⟩ : ∃ M, X <<< T ||| y = M := ⟨_, rfl⟩
      rw [hM] at hX2
      have hXT : X <<< T < 2 ^ 64 := by
        rw [Nat.shiftLeft_eq]
        refine Nat.lt_of_lt_of_le ((Nat.mul_lt_mul_right (Nat.two_pow_pos T)).2 hX.lt) ?_
        rw [← Nat.pow_add]
        exact Nat.pow_le_pow_right (by decide) (by omega)
      have e9 : bits .or .u64 (IntKind.u64.wrap ((X : Int) * 2 ^ T)) (y : Int) = (M : Int) := by
        have := u64_or_nat (X <<< T) y hXT (by omega)
        have e : (X : Int) * 2 ^ T = ((X <<< T : Nat) : Int) := by rw [Nat.shiftLeft_eq]; simp
        rw [← hM, ← this, e, IntKind.wrap_u64, Int.emod_eq_of_lt (Int.natCast_nonneg _) (by have h : X <<< T < 18446744073709551616 := hXT; omega)]
      have e10 : IntKind.u64.wrap (y : Int) = (y : Int) := by rw [IntKind.wrap_u64]; omega
      have e11 : (y : Int) % 18446744073709551616 = (y : Int) := by omega
      have k2 : wr.cell? ⟨g, K, none⟩ = some (.int .u8 (Z K : Nat)) := (h1.row.at_ hK2).2.2.1
      rw [hy] at e8
      obtain ⟨D, hD⟩ : ∃ D, d - T = D := ⟨_, rfl⟩
      have e12 : IntKind.i64.wrap ((d : Int) - (T : Int)) = (D : Int) := by rw [IntWalk.i64_in _ (by omega)]; omega
      have e12' : (d : Int) - (T : Int) = (D : Int) := by omega
      have hO := fun w => ones_any T (by omega) w
      have HX2 := Lib.hid hX2
      clear hM hy hXT hX hX2 hz
      go_wp2_with fail
      go_quiet (first | (go_at_call 52; exact quiet_left (hO _)))
      generalize hw2 : wr.drewN nq = w2 at *
      have h2 : Rd w2 base b q n Z err (.slice (some ⟨g, 0, none⟩) n c1) := by rw [← hw2]; exact h1.drewN nq
      have b2 : Just b w w2 := by rw [← hw2]; exact b1.drewN nq
      clear hw2 h1 b1 k0 k1 k2
      have k1 : w2.cell? ⟨b, 1, none⟩ = some (.int .i64 (q : Int)) := h2.own.cell 1
      have k3 : w2.frozen? ⟨b, 1, none⟩ = false := h2.own.free 1
      go_wp2_with fail
      have hbne : (Value.slice (some ⟨g, 0, none⟩) n c1).ownBlock ≠ some b := fun e => by
        have e : some g = some b := e
        injection e with e
        subst e
        exact absurd (own_type h2.own (mine_at h2.row).2.choose_spec) (by decide)
      refine ⟨⟨D, M, rfl, rfl, by omega, by rw [show width - D = width - d + T from by omega]; exact HX2.out, ?_, b2.put 1 _⟩, by simp [intOf]; omega⟩
      rw [show at_ + (width - D) = q + T from by have := HQ.out; omega]
      exact ⟨h2.own.put 1 _, h2.row.other (p := ⟨b, 1, none⟩) hbne _, h2.lt, h2.low⟩
    · have e0 : d = 0 := by omega
      subst e0
      go_wp2_with fail
      go_ret
      exact ⟨X, rfl, hX, h1, b1⟩
theorem shortJ (base b at_ n : Nat) (Z : Nat → Nat) (err : Int) (v : Value) (width : Nat) (w : World) (h : Rd w base b at_ n Z err v) (hw : width ≤ 64) (ha : at_ ≤ 8 * n) (hl : 8 * n - at_ < width) (hn : n ≤ 100000) :
    Calls Try.prog 45 #[.pointer (some ⟨b, 0, none⟩), .int .i64 (width : Nat)] w fun r w' => r = .returned (.int .u64 0) ∧ Rd w' base b 0 0 Z (fst_ err 2) (.slice none 0 0) ∧ Just b w w' := by
  have g1 : decide ((width : Int) < 0) = false := by simp
  have g2 : decide ((64 : Int) < (width : Int)) = false := by simp; omega
  have g3 : decide (64 < width) = false := by simp; omega
  go_enter Try.func45, Try.ntmps45
  go_wp2_with fail
  refine (left_any base b at_ n Z err v _ h ha (by omega)).mono ?_
  rintro r w1 ⟨rfl, m1, hw1⟩
  have h1 : Rd w1 base b at_ n Z err v := by rw [← hw1]; exact h.drewN m1
  have b1 : Just b w w1 := by rw [← hw1]; exact (Just.refl b w).drewN m1
  clear hw1 h
  obtain ⟨LL, hLL⟩ : ∃ LL, 8 * n - at_ = LL := ⟨_, rfl⟩
  rw [hLL] at hl ⊢
  have hl2 : (LL : Int) < (width : Int) := by omega
  clear hLL
  go_wp2_with fail
  refine (failJ base b at_ n Z err 2 v _ h1).mono ?_
  rintro r w2 ⟨rfl, h2, b2⟩
  go_wp2_with fail
  go_ret
  exact ⟨rfl, h2, b1.trans b2⟩
theorem textShortJ (base b at_ n : Nat) (Z : Nat → Nat) (err x : Int) (v : Value) (w : World) (h : Rd w base b at_ n Z err v) (ha : at_ ≤ 8 * n) (hx : 0 < x) (hl : (8 * n - at_) / 8 < x.toNat) (hn : n ≤ 100000) :
    Calls Try.prog 47 #[.pointer (some ⟨b, 0, none⟩), .int .i64 x] w fun r w' => r = .returned (.slice none 0 0) ∧ Rd w' base b 0 0 Z (fst_ err 2) (.slice none 0 0) ∧ Just b w w' := by
  have g1 : decide (x ≤ 0) = false := by simp; omega
  go_enter Try.func47, Try.ntmps47
  go_wp2_with fail
  refine (left_any base b at_ n Z err v _ h ha (by omega)).mono ?_
  rintro r w1 ⟨rfl, m1, hw1⟩
  have h1 : Rd w1 base b at_ n Z err v := by rw [← hw1]; exact h.drewN m1
  have b1 : Just b w w1 := by rw [← hw1]; exact (Just.refl b w).drewN m1
  clear hw1 h
  obtain ⟨LL, hLL⟩ : ∃ LL, 8 * n - at_ = LL := ⟨_, rfl⟩
  rw [hLL] at hl ⊢
  obtain ⟨L8, hL8⟩ : ∃ L8, LL / 8 = L8 := ⟨_, rfl⟩
  have e1 : (LL : Int) / 8 = (L8 : Int) := by omega
  have hl2 : (L8 : Int) < x := by omega
  have e2 : wrap64 (L8 : Int) = (L8 : Int) := IntWalk.wrap64_in _ ⟨by omega, by omega⟩
  clear hLL hL8
  go_wp2_with fail
  refine (failJ base b at_ n Z err 2 v _ h1).mono ?_
  rintro r w2 ⟨rfl, h2, b2⟩
  go_wp2_with fail
  go_ret
  exact ⟨rfl, h2, b1.trans b2⟩
end Go.Proofs.Ytcpmnfoenpdaeaa.Bf
