/-
  Package bits (chapter 3): a reader as a value; NewReader, Left, Take.
-/
import Derived.Test.YtcpmnfoenpdaeaaBfLaws
set_option maxRecDepth 100000
namespace Go.Proofs.Ytcpmnfoenpdaeaa.Bf
set_option linter.unusedVariables false
open Go.RowKit Lb Go.Shelf

/-- Bit p of bytes. -/
def bt (Z : Nat → Nat) (p : Nat) : Bool := (Z (p / 8)).testBit (7 - p % 8)
/-- x is the number that k bits of B are, from bit p on. -/
structure Num (x k : Nat) (B : Nat → Bool) (p : Nat) : Prop where
  lt : x < 2 ^ k
  bit : ∀ j, j < k → x.testBit j = B (p + (k - 1 - j))
theorem Num.zero (B : Nat → Bool) (p : Nat) : Num 0 0 B p := ⟨by decide, fun j hj => by omega⟩
theorem Num.uniq {x y k p : Nat} {B : Nat → Bool} (h : Num x k B p) (g : Num y k B p) : x = y := by
  apply Nat.eq_of_testBit_eq
  intro j
  by_cases hj : j < k
  · rw [h.bit j hj, g.bit j hj]
  · rw [Nat.testBit_lt_two_pow (Nat.lt_of_lt_of_le h.lt (Nat.pow_le_pow_right (by decide) (by omega))), Nat.testBit_lt_two_pow (Nat.lt_of_lt_of_le g.lt (Nat.pow_le_pow_right (by decide) (by omega)))]
theorem Num.step {x k t p : Nat} {Z : Nat → Nat} (h : Num x k (bt Z) p) (ht : t ≤ 8 - (p + k) % 8) :
    Num (x <<< t ||| part (Z ((p + k) / 8)) (8 - (p + k) % 8 - t) t) (k + t) (bt Z) p where
  lt := by
    refine Nat.or_lt_two_pow ?_ ?_
    · rw [Nat.shiftLeft_eq, Nat.pow_add]
      exact (Nat.mul_lt_mul_right (Nat.two_pow_pos t)).2 h.lt
    · refine Nat.lt_of_le_of_lt Nat.and_le_right ?_
      have h1 : 2 ^ t ≤ 2 ^ (k + t) := Nat.pow_le_pow_right (by decide) (by omega)
      have := Nat.two_pow_pos t
      omega
  bit j hj := by
    rw [Nat.testBit_or, Nat.testBit_shiftLeft, part_bit _ _ _ _ (by omega)]
    by_cases h1 : j < t
    · have h2 : ¬ j ≥ t := by omega
      have h3 : p + (k + t - 1 - j) = p + k + (t - 1 - j) := by omega
      rw [h3]
      unfold bt
      have h4 : (p + k + (t - 1 - j)) / 8 = (p + k) / 8 := by omega
      have h5 : 7 - (p + k + (t - 1 - j)) % 8 = 8 - (p + k) % 8 - t + j := by omega
      rw [h4, h5]
      simp [h1, h2]
    · have h2 : j ≥ t := by omega
      rw [h.bit (j - t) (by omega)]
      simp [h1, h2]
      congr 1
      omega
theorem Str.bt {n bits : Nat} {Z : Nat → Nat} {B : Nat → Bool} (h : Str n bits Z B) {p : Nat} (hp : p < bits) (hb : bits ≤ 8 * n) : bt Z p = B p := by
  unfold Bf.bt
  rw [h.bit (p / 8) (by omega) (p % 8) (by omega), show 8 * (p / 8) + p % 8 = p from by omega]
  simp [hp]
theorem part_and' (z D T : Nat) (hz : z < 256) (hT : T ≤ 8) : Go.bits .and .u8 ((z : Int) / 2 ^ D) ((2 ^ T - 1 : Nat) : Int) = ((part z D T : Nat) : Int) := by
  have hq : z / 2 ^ D < 256 := Nat.lt_of_le_of_lt (Nat.div_le_self _ _) hz
  have := part_and z D T hT
  have e : ((z : Int) / 2 ^ D) = ((z / 2 ^ D : Nat) : Int) := by simp
  have e2 : ((z : Int) / 2 ^ D) % 256 = (z : Int) / 2 ^ D := by
    rw [e]
    clear this e
    generalize z / 2 ^ D = u at hq ⊢
    omega
  rw [← this, e2]
structure Rd (w : World) (base b at_ n : Nat) (Z : Nat → Nat) (err : Int) (v : Value) : Prop where
  own : Own w b 75 #[v, .int .i64 (at_ : Int), .int .i64 err]
  row : Mine w base 5 v n (fun i => .int .u8 (Z i : Nat))
  lt : ∀ k, k < n → Z k < 256
  low : base ≤ b
theorem Rd.drewN {w : World} {base b at_ n : Nat} {Z : Nat → Nat} {err : Int} {v : Value} (h : Rd w base b at_ n Z err v) (m : Nat) : Rd (w.drewN m) base b at_ n Z err v := ⟨h.own.drewN m, h.row.drewN m, h.lt, h.low⟩
theorem left_any (base b at_ n : Nat) (Z : Nat → Nat) (err : Int) (v : Value) (w : World) (h : Rd w base b at_ n Z err v) (hl : at_ ≤ 8 * n) (hn : n ≤ 1000000) :
    Calls Try.prog 54 #[.pointer (some ⟨b, 0, none⟩)] w fun r w' => r = .returned (.int .i64 ((8 * n - at_ : Nat) : Int)) ∧ ∃ m, w.drewN m = w' := by
  obtain ⟨a, c, rfl, h1, h2, hR⟩ := h.row.row
  have k0 : w.cell? ⟨b, 0, none⟩ = some (.slice a n c) := h.own.cell 0
  have k1 : w.cell? ⟨b, 1, none⟩ = some (.int .i64 (at_ : Int)) := h.own.cell 1
  have e1 : IntKind.i64.wrap ((n : Int) * 8) = (n : Int) * 8 := IntWalk.i64_in _ (by omega)
  obtain ⟨R, hR⟩ : ∃ R, 8 * n - at_ = R := ⟨_, rfl⟩
  have e2 : IntKind.i64.wrap ((n : Int) * 8 - (at_ : Int)) = (R : Int) := by rw [IntWalk.i64_in _ (by omega)]; omega
  have e2' : (n : Int) * 8 - (at_ : Int) = (R : Int) := by omega
  go_enter Try.func54, Try.ntmps54
  go_wp2_with fail
  go_quiet (fail)
  go_wp2_with fail
  go_ret
  exact ⟨by rw [hR]; rfl, _, rfl⟩
theorem new_any (a : Option Addr) (n c : Nat) (Z : Nat → Nat) (w : World) (hc : n ≤ 100000) (hR : Row w a n (fun i => .int .u8 (Z i : Nat))) (hz : ∀ k, k < n → Z k < 256) (ha : a = none → n = 0) :
    Calls Try.prog 43 #[.slice a n c] w fun r w' => ∃ b v, r = .returned (.pointer (some ⟨b, 0, none⟩)) ∧ Rd w' w.heap.size b 0 n Z 0 v ∧ Below w.heap.size w w' := by
  go_enter Try.func43, Try.ntmps43
  go_wp2_with fail
  refine (clone_mine a n c (fun i => (Z i : Int)) _ (by omega) hR ha).mono ?_
  rintro r w4 ⟨v, rfl, hm, b4⟩
  have hm2 := hm.row
  obtain ⟨a', c', rfl, h3, h4, hR4⟩ := hm2
  go_wp2_with fail
  go_ret
  exact ⟨_, _, rfl, ⟨Own.new _ _ _, hm.alloc _, hz, b4.size⟩, b4.alloc b4.size _⟩
set_option maxHeartbeats 4000000 in
theorem take_any (base b at_ n : Nat) (Z : Nat → Nat) (err : Int) (v : Value) (width : Nat) (w : World) (h : Rd w base b at_ n Z err v) (hw : width ≤ 64) (hl : at_ + width ≤ 8 * n) (hn : n ≤ 100000) :
    Calls Try.prog 45 #[.pointer (some ⟨b, 0, none⟩), .int .i64 (width : Nat)] w fun r w' => ∃ x, r = .returned (.int .u64 (x : Nat)) ∧ Num x width (bt Z) at_ ∧ Rd w' base b (at_ + width) n Z err v ∧ Below base w w' := by
  have g1 : decide ((width : Int) < 0) = false := by simp
  have g2 : decide ((64 : Int) < (width : Int)) = false := by simp; omega
  have g3 : decide (64 < width) = false := by simp; omega
  have g4 : decide (((8 * n - at_ : Nat) : Int) < (width : Int)) = false := by simp; omega
  have g5 : decide (8 * n - at_ < width) = false := by simp; omega
  have hbase : base ≤ w.heap.size := by have := h.own.lt; have := h.low; omega
  go_enter Try.func45, Try.ntmps45
  go_wp2_with fail
  refine (left_any base b at_ n Z err v _ h (by omega) (by omega)).mono ?_
  rintro r w1 ⟨rfl, m1, hw1⟩
  have h1 : Rd w1 base b (at_ + (width - width)) n Z err v := by rw [Nat.sub_self, ← hw1]; exact h.drewN m1
  have b1 : Below base w w1 := by rw [← hw1]; exact below_drewN (Below.refl _ _) m1
  clear hw1 h
  obtain ⟨LL, hLL⟩ : ∃ LL, 8 * n - at_ = LL := ⟨_, rfl⟩
  rw [hLL] at g4 g5 ⊢
  have HLL := Lib.hid hLL
  clear hLL
  go_wp2_with fail
  go_loopw [1, 5] (fun i s wr => ∃ d X : Nat, i = .int .i64 d ∧ s = .int .u64 (X : Nat) ∧ d ≤ width ∧ Num X (width - d) (bt Z) at_ ∧ Rd wr base b (at_ + (width - d)) n Z err v ∧ Below base w wr) (fun i _ _ => (intOf i).toNat)
  case atStart => exact ⟨width, 0, rfl, rfl, Nat.le_refl _, by rw [Nat.sub_self]; exact Num.zero _ _, h1, b1⟩
  case round =>
    clear h1 b1
    obtain ⟨d, X, rfl, rfl, hd, hX, h1, b1⟩ := hrel
    by_cases hd0 : 0 < d
    · obtain ⟨g, c1, rfl⟩ := mine_form h1.row (by omega)
      have k0 : wr.cell? ⟨b, 0, none⟩ = some (.slice (some ⟨g, 0, none⟩) n c1) := h1.own.cell 0
      have k1 : wr.cell? ⟨b, 1, none⟩ = some (.int .i64 ((at_ + (width - d) : Nat) : Int)) := h1.own.cell 1
      obtain ⟨q, hq⟩ : ∃ q, at_ + (width - d) = q := ⟨_, rfl⟩
      rw [hq] at k1 h1
      have hq2 : q + d ≤ 8 * n := by omega
      have HQ := Lib.hid hq
      have hmk : width - d + d = width := by omega
      clear hq
      obtain ⟨R, hR⟩ : ∃ R, 8 - q % 8 = R := ⟨_, rfl⟩
      have e2 : (8 : Int) - (q : Int) % 8 = (R : Int) := by omega
      obtain ⟨T, hT⟩ : ∃ T, min R d = T := ⟨_, rfl⟩
      have hT1 : 1 ≤ T ∧ T ≤ R ∧ T ≤ d := by omega
      have e4 : min (R : Int) (d : Int) = (T : Int) := by omega
      obtain ⟨K, hK⟩ : ∃ K, q / 8 = K := ⟨_, rfl⟩
      have hK2 : K < n := by omega
      have e5 : (q : Int) / 8 = (K : Int) := by omega
      obtain ⟨S, hS⟩ : ∃ S, R - T = S := ⟨_, rfl⟩
      have e6 : IntKind.i64.wrap ((R : Int) - (T : Int)) = (S : Int) := by rw [IntWalk.i64_in _ (by omega)]; omega
      have e6' : (R : Int) - (T : Int) = (S : Int) := by omega
      have hz := h1.lt K hK2
      have e8 := part_and' (Z K) S T hz (by omega)
      obtain ⟨y, hy⟩ : ∃ y, part (Z K) S T = y := ⟨_, rfl⟩
      have hyl : y < 256 := by rw [← hy]; exact part_lt _ _ _
      have hX2 : Num (X <<< T ||| y) (width - d + T) (bt Z) at_ := by
        have := hX.step (t := T) (by rw [HQ.out]; omega)
        rw [HQ.out, hK, hR, hS, hy] at this
        exact this
      obtain ⟨M, hM⟩ : ∃ M, X <<< T ||| y = M := ⟨_, rfl⟩
      rw [hM] at hX2
      have hXT : X <<< T < 2 ^ 64 := by
        rw [Nat.shiftLeft_eq]
        refine Nat.lt_of_lt_of_le ((Nat.mul_lt_mul_right (Nat.two_pow_pos T)).2 hX.lt) ?_
        rw [← Nat.pow_add]
        exact Nat.pow_le_pow_right (by decide) (by omega)
      have e9 : bits .or .u64 (IntKind.u64.wrap ((X : Int) * 2 ^ T)) (y : Int) = (M : Int) := by
        have := u64_or_nat (X <<< T) y hXT (by omega)
        have e : (X : Int) * 2 ^ T = ((X <<< T : Nat) : Int) := by rw [Nat.shiftLeft_eq]; simp
        rw [← hM, ← this, e, IntKind.wrap_u64, Int.emod_eq_of_lt (Int.natCast_nonneg _) (by have h : X <<< T < 18446744073709551616 := hXT; omega)]
      have e10 : IntKind.u64.wrap (y : Int) = (y : Int) := by rw [IntKind.wrap_u64]; omega
      have e11 : (y : Int) % 18446744073709551616 = (y : Int) := by omega
      have k2 : wr.cell? ⟨g, K, none⟩ = some (.int .u8 (Z K : Nat)) := (h1.row.at_ hK2).2.2.1
      rw [hy] at e8
      obtain ⟨D, hD⟩ : ∃ D, d - T = D := ⟨_, rfl⟩
      have e12 : IntKind.i64.wrap ((d : Int) - (T : Int)) = (D : Int) := by rw [IntWalk.i64_in _ (by omega)]; omega
      have e12' : (d : Int) - (T : Int) = (D : Int) := by omega
      have hO := fun w => ones_any T (by omega) w
      have HX2 := Lib.hid hX2
      clear hM hy hXT hX hX2 hz
      go_wp2_with fail
      go_quiet (first | (go_at_call 52; exact quiet_left (hO _)))
      generalize hw2 : wr.drewN nq = w2 at *
      have h2 : Rd w2 base b q n Z err (.slice (some ⟨g, 0, none⟩) n c1) := by rw [← hw2]; exact h1.drewN nq
      have b2 : Below base w w2 := by rw [← hw2]; exact below_drewN b1 nq
      clear hw2 h1 b1 k0 k1 k2
      have k1 : w2.cell? ⟨b, 1, none⟩ = some (.int .i64 (q : Int)) := h2.own.cell 1
      have k3 : w2.frozen? ⟨b, 1, none⟩ = false := h2.own.free 1
      go_wp2_with fail
      have hbne : (Value.slice (some ⟨g, 0, none⟩) n c1).ownBlock ≠ some b := fun e => by
        have e : some g = some b := e
        injection e with e
        subst e
        exact absurd (own_type h2.own (mine_at h2.row).2.choose_spec) (by decide)
      refine ⟨⟨D, M, rfl, rfl, by omega, by rw [show width - D = width - d + T from by omega]; exact HX2.out, ?_, (Just.set b w2 1 _).below b2 h2.low (by have := h2.own.lt; have := h2.low; omega)⟩, by simp [intOf]; omega⟩
      rw [show at_ + (width - D) = q + T from by have := HQ.out; omega]
      exact ⟨h2.own.put 1 _, h2.row.other (p := ⟨b, 1, none⟩) hbne _, h2.lt, h2.low⟩
    · have e0 : d = 0 := by omega
      subst e0
      go_wp2_with fail
      go_ret
      exact ⟨X, rfl, hX, h1, b1⟩
end Go.Proofs.Ytcpmnfoenpdaeaa.Bf
