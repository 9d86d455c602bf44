/-
  Package bits (chapter 3): a reader that has too few bits; Even, End. Package bits (chapter 3): a reader's methods turn their own block alone. Package bits (chapter 3): a reader's Text at whole bytes: a row of its own. Package bits: a reader that stands at whole bytes: what is left as a list; bytes, numbers of six bytes, texts taken; its end. Package bits: a reader at whole bytes whose blocks lie below a bound: what is made or turned from there on leaves it alone; numbers of whole bytes taken.
-/
import Derived.Test.YtiflmdekcjbmbaaGreatGNodeWaits15
import Derived.Test.YtiflmdekcjbmbaaGreatGNodeWaits05
import Derived.Test.YtiflmdekcjbmbaaGreatGNodeWaits01
import Derived.Laws.MakeOwn
import Derived.Deep.RegionLaw
import Derived.Deep.Cut
import Derived.Deep.CutRange
set_option maxRecDepth 100000
namespace Go.Proofs.YtiflmdekcjbmbaaGreat.Bf
set_option linter.unusedVariables false
set_option linter.unusedSimpArgs false
open Go.RowKit Lb Go.Shelf

/-- The first error stays. -/
def fst_ (err e : Int) : Int := if err = 0 then e else err
theorem Rd.at0 {w : World} {base b at_ n : Nat} {Z : Nat → Nat} {err : Int} {v : Value} (h : Rd w base b at_ n Z err v) : w.cell? ⟨b, 1, none⟩ = some (.int .i64 (at_ : Int)) ∧ w.cell? ⟨b, 2, none⟩ = some (.int .i64 err) := ⟨h.own.cell 1, h.own.cell 2⟩
theorem fail_any (base b at_ n : Nat) (Z : Nat → Nat) (err e : Int) (v : Value) (w : World) (h : Rd w base b at_ n Z err v) :
    Calls Tryz.prog 215 #[.pointer (some ⟨b, 0, none⟩), .int .i64 e] w fun r w' => r = .returned (.tuple #[]) ∧ Rd w' base b 0 0 Z (fst_ err e) (.slice none 0 0) ∧ Below base w w' := by
  have k2 : w.cell? ⟨b, 2, none⟩ = some (.int .i64 err) := h.own.cell 2
  have k0 : w.cell? ⟨b, 0, none⟩ = some v := h.own.cell 0
  have k1 : w.cell? ⟨b, 1, none⟩ = some (.int .i64 (at_ : Int)) := h.own.cell 1
  have f0 : w.frozen? ⟨b, 0, none⟩ = false := h.own.free 0
  have f1 : w.frozen? ⟨b, 1, none⟩ = false := h.own.free 1
  have f2 : w.frozen? ⟨b, 2, none⟩ = false := h.own.free 2
  have hbs : base ≤ w.heap.size := by have := h.own.lt; have := h.low; omega
  obtain ⟨a, c, rfl, _, _, _⟩ := h.row.row
  by_cases e0 : err = 0
  · subst e0
    have HF : Hid (fst_ 0 e = e) := Lib.hid rfl
    go_enter Tryz.func215, Tryz.ntmps215
    go_wp2_with fail
    go_end0
    rw [HF.out]
    exact ⟨rfl, ⟨((h.own.put 2 _).put 0 _).put 1 _, Mine.nil _ _ _ _, fun k hk => by omega, h.low⟩, (((Just.set b w 2 _).put 0 _).put 1 _).below (Below.refl _ _) h.low hbs⟩
  · have HF : Hid (fst_ err e = err) := Lib.hid (by unfold fst_; rw [if_neg e0])
    have g : (err == 0) = false := by simpa using e0
    go_enter Tryz.func215, Tryz.ntmps215
    go_wp2_with fail
    go_end0
    rw [HF.out]
    exact ⟨rfl, ⟨(h.own.put 0 _).put 1 _, Mine.nil _ _ _ _, fun k hk => by omega, h.low⟩, ((Just.set b w 0 _).put 1 _).below (Below.refl _ _) h.low hbs⟩
theorem take_out (b : Nat) (x : Int) (w : World) (hx : x < 0 ∨ 64 < x) :
    Calls Tryz.prog 188 #[.pointer (some ⟨b, 0, none⟩), .int .i64 x] w fun r w' => r = .returned (.int .u64 0) ∧ w = w' := by
  by_cases h0 : x < 0
  · go_enter Tryz.func188, Tryz.ntmps188
    go_wp2_with fail
    go_ret
    exact ⟨rfl, rfl⟩
  · have h1 : 64 < x := by omega
    have g0 : decide (x < 0) = false := by simp; omega
    clear hx h0
    go_enter Tryz.func188, Tryz.ntmps188
    go_wp2_with fail
    go_ret
    exact ⟨rfl, rfl⟩
theorem take_short (base b at_ n : Nat) (Z : Nat → Nat) (err : Int) (v : Value) (width : Nat) (w : World) (h : Rd w base b at_ n Z err v) (hw : width ≤ 64) (ha : at_ ≤ 8 * n) (hl : 8 * n - at_ < width) (hn : n ≤ 100000) :
    Calls Tryz.prog 188 #[.pointer (some ⟨b, 0, none⟩), .int .i64 (width : Nat)] w fun r w' => r = .returned (.int .u64 0) ∧ Rd w' base b 0 0 Z (fst_ err 2) (.slice none 0 0) ∧ Below base w w' := by
  have g1 : decide ((width : Int) < 0) = false := by simp
  have g2 : decide ((64 : Int) < (width : Int)) = false := by simp; omega
  have g3 : decide (64 < width) = false := by simp; omega
  go_enter Tryz.func188, Tryz.ntmps188
  go_wp2_with fail
  refine (left_any base b at_ n Z err v _ h ha (by omega)).mono ?_
  rintro r w1 ⟨rfl, m1, hw1⟩
  have h1 : Rd w1 base b at_ n Z err v := by rw [← hw1]; exact h.drewN m1
  have b1 : Below base w w1 := by rw [← hw1]; exact below_drewN (Below.refl _ _) m1
  clear hw1 h
  obtain ⟨LL, hLL⟩ : ∃ LL, 8 * n - at_ = LL := ⟨_, rfl⟩
  rw [hLL] at hl ⊢
  have hl2 : (LL : Int) < (width : Int) := by omega
  clear hLL
  go_wp2_with fail
  refine (fail_any base b at_ n Z err 2 v _ h1).mono ?_
  rintro r w2 ⟨rfl, h2, b2⟩
  go_wp2_with fail
  go_ret
  exact ⟨rfl, h2, b1.trans b2⟩
/-- Of an empty reader with an error nothing is taken. -/
theorem take_empty (base b : Nat) (Z : Nat → Nat) (err : Int) (x : Int) (w : World) (h : Rd w base b 0 0 Z err (.slice none 0 0)) (he : err ≠ 0) :
    Calls Tryz.prog 188 #[.pointer (some ⟨b, 0, none⟩), .int .i64 x] w fun r w' => r = .returned (.int .u64 0) ∧ Rd w' base b 0 0 Z err (.slice none 0 0) ∧ Below base w w' := by
  by_cases hx : x < 0 ∨ 64 < x
  · refine (take_out b x w hx).mono ?_
    rintro r w' ⟨rfl, rfl⟩
    exact ⟨rfl, h, Below.refl _ _⟩
  · obtain ⟨m, rfl⟩ : ∃ m : Nat, x = m := ⟨x.toNat, by omega⟩
    by_cases hm : m = 0
    · subst hm
      refine (take_any base b 0 0 Z err _ 0 w h (by omega) (by omega) (by omega)).mono ?_
      rintro r w' ⟨y, rfl, hy, h2, b2⟩
      have := hy.lt
      obtain rfl : y = 0 := by simpa using this
      exact ⟨rfl, h2, b2⟩
    · refine (take_short base b 0 0 Z err _ m w h (by omega) (by omega) (by omega) (by omega)).mono ?_
      rintro r w' ⟨rfl, h2, b2⟩
      rw [show fst_ err 2 = err from by unfold fst_; rw [if_neg he]] at h2
      exact ⟨rfl, h2, b2⟩
theorem text_neg (b : Nat) (x : Int) (w : World) (hx : x ≤ 0) :
    Calls Tryz.prog 190 #[.pointer (some ⟨b, 0, none⟩), .int .i64 x] w fun r w' => r = .returned (.slice none 0 0) ∧ w = w' := by
  go_enter Tryz.func190, Tryz.ntmps190
  go_wp2_with fail
  go_ret
  exact ⟨rfl, rfl⟩
theorem text_short (base b at_ n : Nat) (Z : Nat → Nat) (err x : Int) (v : Value) (w : World) (h : Rd w base b at_ n Z err v) (ha : at_ ≤ 8 * n) (hx : 0 < x) (hl : (8 * n - at_) / 8 < x.toNat) (hn : n ≤ 100000) :
    Calls Tryz.prog 190 #[.pointer (some ⟨b, 0, none⟩), .int .i64 x] w fun r w' => r = .returned (.slice none 0 0) ∧ Rd w' base b 0 0 Z (fst_ err 2) (.slice none 0 0) ∧ Below base w w' := by
  have g1 : decide (x ≤ 0) = false := by simp; omega
  go_enter Tryz.func190, Tryz.ntmps190
  go_wp2_with fail
  refine (left_any base b at_ n Z err v _ h ha (by omega)).mono ?_
  rintro r w1 ⟨rfl, m1, hw1⟩
  have h1 : Rd w1 base b at_ n Z err v := by rw [← hw1]; exact h.drewN m1
  have b1 : Below base w w1 := by rw [← hw1]; exact below_drewN (Below.refl _ _) m1
  clear hw1 h
  obtain ⟨LL, hLL⟩ : ∃ LL, 8 * n - at_ = LL := ⟨_, rfl⟩
  rw [hLL] at hl ⊢
  obtain ⟨L8, hL8⟩ : ∃ L8, LL / 8 = L8 := ⟨_, rfl⟩
  have e1 : (LL : Int) / 8 = (L8 : Int) := by omega
  have hl2 : (L8 : Int) < x := by omega
  have e2 : wrap64 (L8 : Int) = (L8 : Int) := IntWalk.wrap64_in _ ⟨by omega, by omega⟩
  clear hLL hL8
  go_wp2_with fail
  refine (fail_any base b at_ n Z err 2 v _ h1).mono ?_
  rintro r w2 ⟨rfl, h2, b2⟩
  go_wp2_with fail
  go_ret
  exact ⟨rfl, h2, b1.trans b2⟩
theorem text_empty (base b : Nat) (Z : Nat → Nat) (err : Int) (x : Int) (w : World) (h : Rd w base b 0 0 Z err (.slice none 0 0)) (he : err ≠ 0) :
    Calls Tryz.prog 190 #[.pointer (some ⟨b, 0, none⟩), .int .i64 x] w fun r w' => r = .returned (.slice none 0 0) ∧ Rd w' base b 0 0 Z err (.slice none 0 0) ∧ Below base w w' := by
  by_cases hx : x ≤ 0
  · refine (text_neg b x w hx).mono ?_
    rintro r w' ⟨rfl, rfl⟩
    exact ⟨rfl, h, Below.refl _ _⟩
  · refine (text_short base b 0 0 Z err x _ w h (by omega) (by omega) (by omega) (by omega)).mono ?_
    rintro r w' ⟨rfl, h2, b2⟩
    rw [show fst_ err 2 = err from by unfold fst_; rw [if_neg he]] at h2
    exact ⟨rfl, h2, b2⟩
theorem end_err (base b at_ n : Nat) (Z : Nat → Nat) (err : Int) (v : Value) (w : World) (h : Rd w base b at_ n Z err v) (he : err ≠ 0) :
    Calls Tryz.prog 191 #[.pointer (some ⟨b, 0, none⟩)] w fun r w' => r = .returned (.int .i64 err) ∧ w = w' := by
  have k2 : w.cell? ⟨b, 2, none⟩ = some (.int .i64 err) := h.own.cell 2
  have g : (err == 0) = false := by simpa using he
  clear he
  go_enter Tryz.func191, Tryz.ntmps191
  go_wp2_with fail
  go_ret
  exact ⟨rfl, rfl⟩
theorem end_ok (base b at_ n : Nat) (Z : Nat → Nat) (v : Value) (w : World) (h : Rd w base b at_ n Z 0 v) (hl : at_ = 8 * n) (hn : n ≤ 100000) :
    Calls Tryz.prog 191 #[.pointer (some ⟨b, 0, none⟩)] w fun r w' => r = .returned (.int .i64 0) ∧ ∃ m, w.drewN m = w' := by
  have k2 : w.cell? ⟨b, 2, none⟩ = some (.int .i64 0) := h.own.cell 2
  go_enter Tryz.func191, Tryz.ntmps191
  go_wp2_with fail
  refine (left_any base b at_ n Z 0 v _ h (by omega) (by omega)).mono ?_
  rintro r w1 ⟨rfl, m1, rfl⟩
  rw [show 8 * n - at_ = 0 from by omega]
  go_wp2_with fail
  go_ret
  exact ⟨rfl, _, rfl⟩
theorem end_more (base b at_ n : Nat) (Z : Nat → Nat) (v : Value) (w : World) (h : Rd w base b at_ n Z 0 v) (hl : at_ < 8 * n) (hn : n ≤ 100000) :
    Calls Tryz.prog 191 #[.pointer (some ⟨b, 0, none⟩)] w fun r w' => r = .returned (.int .i64 3) ∧ ∃ m, w.drewN m = w' := by
  have k2 : w.cell? ⟨b, 2, none⟩ = some (.int .i64 0) := h.own.cell 2
  obtain ⟨d, hd⟩ : ∃ d, 8 * n - at_ = d := ⟨_, rfl⟩
  have hd0 : decide (0 < d) = true := by simp; omega
  have hd1 : decide ((0 : Int) < (d : Int)) = true := by simp; omega
  go_enter Tryz.func191, Tryz.ntmps191
  go_wp2_with fail
  refine (left_any base b at_ n Z 0 v _ h (by omega) (by omega)).mono ?_
  rintro r w1 ⟨rfl, m1, rfl⟩
  rw [hd]
  clear hd
  go_wp2_with fail
  go_ret
  exact ⟨rfl, _, rfl⟩
end Go.Proofs.YtiflmdekcjbmbaaGreat.Bf
set_option maxRecDepth 100000
namespace Go.Proofs.YtiflmdekcjbmbaaGreat.Bf
set_option linter.unusedVariables false
set_option linter.unusedSimpArgs false
open Go.RowKit Lb Go.Shelf

theorem failJ (base b at_ n : Nat) (Z : Nat → Nat) (err e : Int) (v : Value) (w : World) (h : Rd w base b at_ n Z err v) :
    Calls Tryz.prog 215 #[.pointer (some ⟨b, 0, none⟩), .int .i64 e] w fun r w' => r = .returned (.tuple #[]) ∧ Rd w' base b 0 0 Z (fst_ err e) (.slice none 0 0) ∧ Just b w w' := by
  have k2 : w.cell? ⟨b, 2, none⟩ = some (.int .i64 err) := h.own.cell 2
  have k0 : w.cell? ⟨b, 0, none⟩ = some v := h.own.cell 0
  have k1 : w.cell? ⟨b, 1, none⟩ = some (.int .i64 (at_ : Int)) := h.own.cell 1
  have f0 : w.frozen? ⟨b, 0, none⟩ = false := h.own.free 0
  have f1 : w.frozen? ⟨b, 1, none⟩ = false := h.own.free 1
  have f2 : w.frozen? ⟨b, 2, none⟩ = false := h.own.free 2
  have hbs : base ≤ w.heap.size := by have := h.own.lt; have := h.low; omega
  obtain ⟨a, c, rfl, _, _, _⟩ := h.row.row
  by_cases e0 : err = 0
  · subst e0
    have HF : Hid (fst_ 0 e = e) := Lib.hid rfl
    go_enter Tryz.func215, Tryz.ntmps215
    go_wp2_with fail
    go_end0
    rw [HF.out]
    exact ⟨rfl, ⟨((h.own.put 2 _).put 0 _).put 1 _, Mine.nil _ _ _ _, fun k hk => by omega, h.low⟩, ((Just.set b w 2 _).put 0 _).put 1 _⟩
  · have HF : Hid (fst_ err e = err) := Lib.hid (by unfold fst_; rw [if_neg e0])
    have g : (err == 0) = false := by simpa using e0
    go_enter Tryz.func215, Tryz.ntmps215
    go_wp2_with fail
    go_end0
    rw [HF.out]
    exact ⟨rfl, ⟨(h.own.put 0 _).put 1 _, Mine.nil _ _ _ _, fun k hk => by omega, h.low⟩, (Just.set b w 0 _).put 1 _⟩
set_option maxHeartbeats 4000000 in
theorem takeJ (base b at_ n : Nat) (Z : Nat → Nat) (err : Int) (v : Value) (width : Nat) (w : World) (h : Rd w base b at_ n Z err v) (hw : width ≤ 64) (hl : at_ + width ≤ 8 * n) (hn : n ≤ 100000) :
    Calls Tryz.prog 188 #[.pointer (some ⟨b, 0, none⟩), .int .i64 (width : Nat)] w fun r w' => ∃ x, r = .returned (.int .u64 (x : Nat)) ∧ Num x width (bt Z) at_ ∧ Rd w' base b (at_ + width) n Z err v ∧ Just b w w' := by
  have g1 : decide ((width : Int) < 0) = false := by simp
  have g2 : decide ((64 : Int) < (width : Int)) = false := by simp; omega
  have g3 : decide (64 < width) = false := by simp; omega
  have g4 : decide (((8 * n - at_ : Nat) : Int) < (width : Int)) = false := by simp; omega
  have g5 : decide (8 * n - at_ < width) = false := by simp; omega
  have hbase : base ≤ w.heap.size := by have := h.own.lt; have := h.low; omega
  go_enter Tryz.func188, Tryz.ntmps188
  go_wp2_with fail
  refine (left_any base b at_ n Z err v _ h (by omega) (by omega)).mono ?_
  rintro r w1 ⟨rfl, m1, hw1⟩
  have h1 : Rd w1 base b (at_ + (width - width)) n Z err v := by rw [Nat.sub_self, ← hw1]; exact h.drewN m1
  have b1 : Just b w w1 := by rw [← hw1]; exact (Just.refl b w).drewN m1
  clear hw1 h
  obtain ⟨LL, hLL⟩ : ∃ LL, 8 * n - at_ = LL := ⟨_, rfl⟩
  rw [hLL] at g4 g5 ⊢
  have HLL := Lib.hid hLL
  clear hLL
  go_wp2_with fail
  go_loopw [1, 5] (fun i s wr => ∃ d X : Nat, i = .int .i64 d ∧ s = .int .u64 (X : Nat) ∧ d ≤ width ∧ Num X (width - d) (bt Z) at_ ∧ Rd wr base b (at_ + (width - d)) n Z err v ∧ Just b w wr) (fun i _ _ => (intOf i).toNat)
  case atStart => exact ⟨width, 0, rfl, rfl, Nat.le_refl _, by rw [Nat.sub_self]; exact Num.zero _ _, h1, b1⟩
  case round =>
    clear h1 b1
    obtain ⟨d, X, rfl, rfl, hd, hX, h1, b1⟩ := hrel
    by_cases hd0 : 0 < d
    · obtain ⟨g, c1, rfl⟩ := mine_form h1.row (by omega)
      have k0 : wr.cell? ⟨b, 0, none⟩ = some (.slice (some ⟨g, 0, none⟩) n c1) := h1.own.cell 0
      have k1 : wr.cell? ⟨b, 1, none⟩ = some (.int .i64 ((at_ + (width - d) : Nat) : Int)) := h1.own.cell 1
      obtain ⟨q, hq⟩ : ∃ q, at_ + (width - d) = q := ⟨_, rfl⟩
      rw [hq] at k1 h1
      have hq2 : q + d ≤ 8 * n := by omega
      have HQ := Lib.hid hq
      have hmk : width - d + d = width := by omega
      clear hq
      obtain ⟨R, hR⟩ : ∃ R, 8 - q % 8 = R := ⟨_, rfl⟩
      have e2 : (8 : Int) - (q : Int) % 8 = (R : Int) := by omega
      obtain ⟨T, hT⟩ : ∃ T, min R d = T := ⟨_, rfl⟩
      have hT1 : 1 ≤ T ∧ T ≤ R ∧ T ≤ d := by omega
      have e4 : min (R : Int) (d : Int) = (T : Int) := by omega
      obtain ⟨K, hK⟩ : ∃ K, q / 8 = K := ⟨_, rfl⟩
      have hK2 : K < n := by omega
      have e5 : (q : Int) / 8 = (K : Int) := by omega
      obtain ⟨S, hS⟩ : ∃ S, R - T = S := ⟨_, rfl⟩
      have e6 : IntKind.i64.wrap ((R : Int) - (T : Int)) = (S : Int) := by rw [IntWalk.i64_in _ (by omega)]; omega
      have e6' : (R : Int) - (T : Int) = (S : Int) := by omega
      have hz := h1.lt K hK2
      have e8 := part_and' (Z K) S T hz (by omega)
      obtain ⟨y, hy⟩ : ∃ y, part (Z K) S T = y := ⟨_, rfl⟩
      have hyl : y < 256 := by rw [← hy]; exact part_lt _ _ _
      have hX2 : Num (X <<< T ||| y) (width - d + T) (bt Z) at_ := by
        have := hX.step (t := T) (by rw [HQ.out]; omega)
        rw [HQ.out, hK, hR, hS, hy] at this
        exact this
      obtain ⟨M, hM⟩ : ∃ M, X <<< T ||| y = M := ⟨_, rfl⟩
      rw [hM] at hX2
      have hXT : X <<< T < 2 ^ 64 := by
        rw [Nat.shiftLeft_eq]
        refine Nat.lt_of_lt_of_le ((Nat.mul_lt_mul_right (Nat.two_pow_pos T)).2 hX.lt) ?_
        rw [← Nat.pow_add]
        exact Nat.pow_le_pow_right (by decide) (by omega)
      have e9 : bits .or .u64 (IntKind.u64.wrap ((X : Int) * 2 ^ T)) (y : Int) = (M : Int) := by
        have := u64_or_nat (X <<< T) y hXT (by omega)
        have e : (X : Int) * 2 ^ T = ((X <<< T : Nat) : Int) := by rw [Nat.shiftLeft_eq]; simp
        rw [← hM, ← this, e, IntKind.wrap_u64, Int.emod_eq_of_lt (Int.natCast_nonneg _) (by have h : X <<< T < 18446744073709551616 := hXT; omega)]
      have e10 : IntKind.u64.wrap (y : Int) = (y : Int) := by rw [IntKind.wrap_u64]; omega
      have e11 : (y : Int) % 18446744073709551616 = (y : Int) := by omega
      have k2 : wr.cell? ⟨g, K, none⟩ = some (.int .u8 (Z K : Nat)) := (h1.row.at_ hK2).2.2.1
      rw [hy] at e8
      obtain ⟨D, hD⟩ : ∃ D, d - T = D := ⟨_, rfl⟩
      have e12 : IntKind.i64.wrap ((d : Int) - (T : Int)) = (D : Int) := by rw [IntWalk.i64_in _ (by omega)]; omega
      have e12' : (d : Int) - (T : Int) = (D : Int) := by omega
      have hO := fun w => ones_any T (by omega) w
      have HX2 := Lib.hid hX2
      clear hM hy hXT hX hX2 hz
      go_wp2_with fail
      go_quiet (first | (go_at_call 184; exact quiet_left (hO _)))
      generalize hw2 : wr.drewN nq = w2 at *
      have h2 : Rd w2 base b q n Z err (.slice (some ⟨g, 0, none⟩) n c1) := by rw [← hw2]; exact h1.drewN nq
      have b2 : Just b w w2 := by rw [← hw2]; exact b1.drewN nq
      clear hw2 h1 b1 k0 k1 k2
      have k1 : w2.cell? ⟨b, 1, none⟩ = some (.int .i64 (q : Int)) := h2.own.cell 1
      have k3 : w2.frozen? ⟨b, 1, none⟩ = false := h2.own.free 1
      go_wp2_with fail
      have hbne : (Value.slice (some ⟨g, 0, none⟩) n c1).ownBlock ≠ some b := fun e => by
        have e : some g = some b := e
        injection e with e
        subst e
        exact absurd (own_type h2.own (mine_at h2.row).2.choose_spec) (by decide)
      refine ⟨⟨D, M, rfl, rfl, by omega, by rw [show width - D = width - d + T from by omega]; exact HX2.out, ?_, b2.put 1 _⟩, by simp [intOf]; omega⟩
      rw [show at_ + (width - D) = q + T from by have := HQ.out; omega]
      exact ⟨h2.own.put 1 _, h2.row.other (p := ⟨b, 1, none⟩) hbne _, h2.lt, h2.low⟩
    · have e0 : d = 0 := by omega
      subst e0
      go_wp2_with fail
      go_ret
      exact ⟨X, rfl, hX, h1, b1⟩
theorem shortJ (base b at_ n : Nat) (Z : Nat → Nat) (err : Int) (v : Value) (width : Nat) (w : World) (h : Rd w base b at_ n Z err v) (hw : width ≤ 64) (ha : at_ ≤ 8 * n) (hl : 8 * n - at_ < width) (hn : n ≤ 100000) :
    Calls Tryz.prog 188 #[.pointer (some ⟨b, 0, none⟩), .int .i64 (width : Nat)] w fun r w' => r = .returned (.int .u64 0) ∧ Rd w' base b 0 0 Z (fst_ err 2) (.slice none 0 0) ∧ Just b w w' := by
  have g1 : decide ((width : Int) < 0) = false := by simp
  have g2 : decide ((64 : Int) < (width : Int)) = false := by simp; omega
  have g3 : decide (64 < width) = false := by simp; omega
  go_enter Tryz.func188, Tryz.ntmps188
  go_wp2_with fail
  refine (left_any base b at_ n Z err v _ h ha (by omega)).mono ?_
  rintro r w1 ⟨rfl, m1, hw1⟩
  have h1 : Rd w1 base b at_ n Z err v := by rw [← hw1]; exact h.drewN m1
  have b1 : Just b w w1 := by rw [← hw1]; exact (Just.refl b w).drewN m1
  clear hw1 h
  obtain ⟨LL, hLL⟩ : ∃ LL, 8 * n - at_ = LL := ⟨_, rfl⟩
  rw [hLL] at hl ⊢
  have hl2 : (LL : Int) < (width : Int) := by omega
  clear hLL
  go_wp2_with fail
  refine (failJ base b at_ n Z err 2 v _ h1).mono ?_
  rintro r w2 ⟨rfl, h2, b2⟩
  go_wp2_with fail
  go_ret
  exact ⟨rfl, h2, b1.trans b2⟩
theorem textShortJ (base b at_ n : Nat) (Z : Nat → Nat) (err x : Int) (v : Value) (w : World) (h : Rd w base b at_ n Z err v) (ha : at_ ≤ 8 * n) (hx : 0 < x) (hl : (8 * n - at_) / 8 < x.toNat) (hn : n ≤ 100000) :
    Calls Tryz.prog 190 #[.pointer (some ⟨b, 0, none⟩), .int .i64 x] w fun r w' => r = .returned (.slice none 0 0) ∧ Rd w' base b 0 0 Z (fst_ err 2) (.slice none 0 0) ∧ Just b w w' := by
  have g1 : decide (x ≤ 0) = false := by simp; omega
  go_enter Tryz.func190, Tryz.ntmps190
  go_wp2_with fail
  refine (left_any base b at_ n Z err v _ h ha (by omega)).mono ?_
  rintro r w1 ⟨rfl, m1, hw1⟩
  have h1 : Rd w1 base b at_ n Z err v := by rw [← hw1]; exact h.drewN m1
  have b1 : Just b w w1 := by rw [← hw1]; exact (Just.refl b w).drewN m1
  clear hw1 h
  obtain ⟨LL, hLL⟩ : ∃ LL, 8 * n - at_ = LL := ⟨_, rfl⟩
  rw [hLL] at hl ⊢
  obtain ⟨L8, hL8⟩ : ∃ L8, LL / 8 = L8 := ⟨_, rfl⟩
  have e1 : (LL : Int) / 8 = (L8 : Int) := by omega
  have hl2 : (L8 : Int) < x := by omega
  have e2 : wrap64 (L8 : Int) = (L8 : Int) := IntWalk.wrap64_in _ ⟨by omega, by omega⟩
  clear hLL hL8
  go_wp2_with fail
  refine (failJ base b at_ n Z err 2 v _ h1).mono ?_
  rintro r w2 ⟨rfl, h2, b2⟩
  go_wp2_with fail
  go_ret
  exact ⟨rfl, h2, b1.trans b2⟩
end Go.Proofs.YtiflmdekcjbmbaaGreat.Bf
set_option maxRecDepth 100000
namespace Go.Proofs.YtiflmdekcjbmbaaGreat.Bf
set_option linter.unusedVariables false
set_option linter.unusedSimpArgs false
open Go.RowKit Lb Go.Shelf

theorem Rd.alloc {w : World} {base b at_ n : Nat} {Z : Nat → Nat} {err : Int} {v : Value} (h : Rd w base b at_ n Z err v) (o : Obj) : Rd (w.alloc o) base b at_ n Z err v := ⟨h.own.alloc o, h.row.alloc o, h.lt, h.low⟩
/-- What else turns but the reader's block and its row leaves it. -/
theorem Rd.just {w w' : World} {base b g at_ n : Nat} {Z : Nat → Nat} {err : Int} {v : Value} (h : Rd w base b at_ n Z err v) (j : Just g w w') (h1 : g ≠ b) (h2 : v.ownBlock ≠ some g) : Rd w' base b at_ n Z err v :=
  ⟨j.own h.own h1.symm, h.row.kept (fun q _ => by
    by_cases e : q = g
    · exact .inr (by rw [e]; exact h2)
    · by_cases hl : q < w.heap.size
      · exact .inl (j.block q hl e)
      · exact .inr (fun e2 => hl (h.row.lt q e2).2)), h.lt, h.low⟩
theorem rd_form {w : World} {base b at_ n g c : Nat} {Z : Nat → Nat} {err : Int} (h : Rd w base b at_ n Z err (.slice (some ⟨g, 0, none⟩) n c)) : w.cell? ⟨b, 0, none⟩ = some (.slice (some ⟨g, 0, none⟩) n c) ∧ w.cell? ⟨b, 1, none⟩ = some (.int .i64 (at_ : Int)) ∧ w.frozen? ⟨b, 1, none⟩ = false ∧ g ≠ b ∧ n ≤ c ∧ c ≤ maxLen := by
  obtain ⟨a, c', e, h1, h2, _⟩ := h.row.row
  injection e with e1 e2 e3
  subst e3
  refine ⟨h.own.cell 0, h.own.cell 1, h.own.free 1, fun e => ?_, h1, h2⟩
  subst e
  exact absurd (own_type h.own (mine_at h.row).2.choose_spec) (by decide)
theorem Rd.to {w : World} {base b at_ n : Nat} {Z : Nat → Nat} {err : Int} {v : Value} (h : Rd w base b at_ n Z err v) (hv : v.ownBlock ≠ some b) (k : Nat) (u : Value) (hu : u = .int .i64 (k : Int)) : Rd (w.setCell ⟨b, 1, none⟩ u) base b k n Z err v := by
  subst hu
  exact ⟨h.own.put 1 _, h.row.other (p := ⟨b, 1, none⟩) hv _, h.lt, h.low⟩
theorem putL_all (V U : Nat → Value) (x : Nat) : ∀ i, i < x → putL V 0 ((List.range x).map U) i = U i := fun i hi => by
  rw [putL_at]
  simp [hi]
set_option maxHeartbeats 1000000 in
theorem textJ (base b j n x : Nat) (Z : Nat → Nat) (err : Int) (v : Value) (w : World) (h : Rd w base b (8 * j) n Z err v) (hx : 0 < x) (hl : j + x ≤ n) (hn : n ≤ 100000) :
    Calls Tryz.prog 190 #[.pointer (some ⟨b, 0, none⟩), .int .i64 (x : Nat)] w fun r w' => r = .returned (.slice (some ⟨w.heap.size, 0, none⟩) x x) ∧ Blk w' w.heap.size 5 x (fun i => .int .u8 (Z (j + i) : Nat)) ∧ Rd w' base b (8 * j + 8 * x) n Z err v ∧ Just b w w' := by
  obtain ⟨A, hA⟩ : ∃ A, 8 * j = A := ⟨_, rfl⟩
  rw [hA] at h ⊢
  have g1 : decide ((x : Int) ≤ 0) = false := by simp; omega
  have g1b : decide (x ≤ 0) = false := by simp; omega
  have g1c : decide (x = 0) = false := by simp; omega
  obtain ⟨D, hD⟩ : ∃ D, n - j = D := ⟨_, rfl⟩
  have hxD : x ≤ D := by omega
  have hLL : 8 * n - A = 8 * D := by omega
  have hLL2 : ((8 * D : Nat) : Int) = 8 * (D : Int) := by simp
  have e1 : (8 * (D : Int)) / 8 = (D : Int) := by omega
  have hDn : D ≤ 100000 := by omega
  have e2 : wrap64 (D : Int) = (D : Int) := IntWalk.wrap64_in _ ⟨by omega, by omega⟩
  have e3 : decide ((D : Int) < (x : Int)) = false := decide_eq_false (by omega)
  have e3b : decide (D < x) = false := decide_eq_false (by omega)
  have ea : (A : Int) % 8 = 0 := by omega
  have eb : (A : Int) / 8 = (j : Int) := by omega
  have e4b : A % 8 = 0 := by omega
  have ec : A ≤ 8 * n := by omega
  have ed : n ≤ 1000000 := by omega
  have hj5 : j < n := by omega
  have hn0 : 0 < n := by omega
  have hcast : ((A + 8 * x : Nat) : Int) = (A : Int) + (x : Int) * 8 := by omega
  have ex1 : -9223372036854775808 ≤ (x : Int) * 8 ∧ (x : Int) * 8 ≤ 9223372036854775807 := by omega
  have ex2 : -9223372036854775808 ≤ (A : Int) + (x : Int) * 8 ∧ (A : Int) + (x : Int) * 8 ≤ 9223372036854775807 := by omega
  have ex3 : -9223372036854775808 ≤ (j : Int) ∧ (j : Int) ≤ 9223372036854775807 := by omega
  have hmin : Nat.min D x = x := by show min D x = x; omega
  have hx0 : 0 + x ≤ x := by omega
  obtain ⟨i0, hi0, hz0, hz1, hz2⟩ := info_parts infoB
  have hmk : ∀ w : World, (Instr.makeSlice 35 (.int .i64 (x : Int)) (.int .i64 (x : Int))).run Tryz.prog w = .ok (.slice (some ⟨w.heap.size, 0, none⟩) x x) (w.alloc (.cells (madeCells #[.int .u8 0] x) 5)) := by
    intro w
    have := run_make w 35 5 i0 (.int .u8 0) Tryz.underlying35 hi0 hz0 .i64 .i64 (x : Int) (x : Int) (by omega) (by omega) (by rw [hz2]; omega) (by omega)
    rw [this, hz1]
    simp [Value.cells]
  have HCS : Hid (madeCells #[Value.int .u8 0] x = (List.replicate x (Value.int .u8 0)).toArray) := Lib.hid (by
    apply Array.toList_inj.1
    simpa using toList_madeCells_one (Value.int .u8 0) x)
  go_enter Tryz.func190, Tryz.ntmps190
  go_wp2_with fail
  refine (left_any base b A n Z err v _ h ec ed).mono ?_
  rintro r w1 ⟨rfl, m1, hw1⟩
  have h1 : Rd w1 base b A n Z err v := by rw [← hw1]; exact h.drewN m1
  have b1 : Just b w w1 := by rw [← hw1]; exact (Just.refl b w).drewN m1
  have hsz : w1.heap.size = w.heap.size := by rw [← hw1]; rfl
  clear hw1 h
  rw [hLL, hLL2]
  have k1 : w1.cell? ⟨b, 1, none⟩ = some (.int .i64 (A : Int)) := h1.own.cell 1
  have hbl := h1.own.lt
  have kk1 : (w1.alloc (.cells (madeCells #[.int .u8 0] x) 5)).cell? ⟨b, 1, none⟩ = some (.int .i64 (A : Int)) := (h1.alloc _).own.cell 1
  go_upto_region 8 with (fail)
  have o2 : Blk (w1.alloc (.cells (madeCells #[.int .u8 0] x) 5)) w1.heap.size 5 x (fun _ => .int .u8 0) := Blk.same (Own.new _ _ _) HCS.out
  have h2 := h1.alloc (.cells (madeCells #[.int .u8 0] x) 5)
  have J2 := b1.alloc (.cells (madeCells #[.int .u8 0] x) 5)
  obtain ⟨g0, c0, rfl⟩ := mine_form h1.row hn0
  have hg0 := (h1.row.lt g0 rfl).2
  clear h1 k1 kk1 hmk HCS b1
  rw [hsz] at o2 hbl hg0
  generalize hW2 : w1.alloc (.cells (madeCells #[.int .u8 0] x) 5) = w2 at *
  clear hW2 hsz
  obtain ⟨g, hg⟩ : ∃ g, w.heap.size = g := ⟨_, rfl⟩
  rw [hg] at o2 hbl hg0 ⊢
  have HG := Lib.hid hg
  clear hg
  have hgb : g ≠ b := fun e => by rw [e] at hbl; exact Nat.lt_irrefl _ hbl
  have hgg : g ≠ g0 := fun e => by rw [e] at hg0; exact Nat.lt_irrefl _ hg0
  obtain ⟨_, _, _, _, hn1, hc1⟩ := rd_form h2
  obtain ⟨cs, hcs⟩ : ∃ cs, (List.range x).map (fun i => Value.int .u8 (Z (j + i) : Nat)) = cs := ⟨_, rfl⟩
  have hcl : cs.length = x := by rw [← hcs]; simp
  have hsrc : ∀ q u, cs[q]? = some u → w2.drew.cell? ((⟨g0, j, none⟩ : Addr).add q) = some u := fun q u hu => by
    have hq : q < x := by
      have := (List.getElem?_eq_some_iff.1 hu).1
      rwa [hcl] at this
    rw [← hcs, List.getElem?_map, List.getElem?_range hq] at hu
    have h4 := (h2.row.at_ (Nat.lt_of_lt_of_le (Nat.add_lt_add_left hq j) hl)).2.2.1
    have hu2 : u = .int .u8 (Z (j + q) : Nat) := by injection hu with hu; exact hu.symm
    rw [hu2]
    by_cases h0 : q = 0
    · rw [h0] at h4 ⊢
      exact h4
    · show w2.cell? _ = _
      simpa [Addr.add, h0] using h4
  have hrun : ∀ ty, (Builtin.copy_ #[35, 35] ty #[.slice (some ⟨g, 0, none⟩) x x, .slice (some ⟨g0, j, none⟩) D (c0 - j)]).run Tryz.prog w2.drew = .ok (goInt x) (w2.drew.setCells g 0 cs) := fun ty =>
    run_copyK w2.drew 35 35 ty 5 1 g 0 x x ⟨g0, j, none⟩ D (c0 - j) x cs Tryz.underlying35 (by rw [hi0]; show some i0.size = some 1; rw [hz1]) hmin (by rw [hcl, Nat.mul_one]) hsrc (by rw [hcl]; exact Blk.there (o2.drewN 1) hx0) (fun u hu => by rw [← hcs] at hu; obtain ⟨q, _, rfl⟩ := List.mem_map.1 hu; rfl)
  have o3 : Blk (w2.drew.setCells g 0 cs) g 5 x (fun i => .int .u8 (Z (j + i) : Nat)) := (Blk.puts cs 0 (o2.drewN 1)).ext (fun i hi => by rw [← hcs]; exact putL_all _ (fun i => Value.int .u8 (Z (j + i) : Nat)) x i hi)
  have h3 : Rd (w2.drew.setCells g 0 cs) base b A n Z err (.slice (some ⟨g0, 0, none⟩) n c0) := (h2.drewN 1).just (Just.puts g cs w2.drew 0) hgb (fun e => by injection e with e; exact hgg e.symm)
  have JP := Just.puts g cs w2.drew 0
  have J3 : Just b w (w2.drew.setCells g 0 cs) := ⟨JP.os.trans J2.os, JP.tape.trans J2.tape, JP.output.trans J2.output, Nat.le_trans J2.size JP.size, fun k hk hb =>
    (JP.block k (Nat.lt_of_lt_of_le hk J2.size) (fun e => by rw [e, HG.out] at hk; exact Nat.lt_irrefl _ hk)).trans (J2.block k hk hb)⟩
  clear JP
  obtain ⟨k0, k1, f1, _, _, _⟩ := rd_form h2
  generalize hw3 : w2.drew.setCells g 0 cs = w3 at *
  obtain ⟨y0, y1, q1, hgb2, _, _⟩ := rd_form h3
  have e6 : IntKind.i64.wrap ((x : Int) * 8) = (x : Int) * 8 := IntWalk.i64_in _ ex1
  have e7 : IntKind.i64.wrap ((A : Int) + (x : Int) * 8) = (A : Int) + (x : Int) * 8 := IntWalk.i64_in _ ex2
  have e8 : wrap64 (j : Int) = (j : Int) := IntWalk.wrap64_in _ ex3
  have e8b : IntKind.i64.wrap (j : Int) = (j : Int) := IntWalk.i64_in _ ex3
  have e12 : (0 : Int) ≤ (j : Int) := Int.natCast_nonneg j
  have e9 : ¬ c0 = j := fun e => by rw [e] at hn1; exact Nat.not_lt.2 hn1 hj5
  have e10 : (j : Int) ≤ (n : Int) := Int.ofNat_le.2 (Nat.le_of_lt hj5)
  have e11 : j ≤ n := Nat.le_of_lt hj5
  have H3 := Lib.hid h3
  have O3 := Lib.hid o3
  have J3h := Lib.hid J3
  clear h2 h3 o2 o3 J2 J3 hw3 hsrc hcs hcl
  go_region_law (refine step_copy_is rfl (.tmp 32) (.tmp 42) 35 35 rfl (.slice (some ⟨g, 0, none⟩) x x) (.slice (some ⟨g0, j, none⟩) D (c0 - j)) (by simp [Act.eval, Act.put]) (by simp [Act.eval, Act.put]) _ _ (hrun _) ?_)
  all_goals
    go_wp2_with fail
    go_ret
    rw [HG.out]
    exact ⟨rfl, O3.out.apart (p := ⟨b, 1, none⟩) hgb _, H3.out.to (fun e => by injection e with e; exact hgb2 e) (A + 8 * x) _ (by rw [hcast]), J3h.out.put 1 _⟩
end Go.Proofs.YtiflmdekcjbmbaaGreat.Bf
set_option maxRecDepth 100000
namespace Go.Proofs.YtiflmdekcjbmbaaGreat.Bf
set_option linter.unusedVariables false
set_option linter.unusedSimpArgs false
open Go.RowKit Lb Go.Shelf

/-- A reader at whole bytes: what is left, the error that was met. -/
def Rb (w : World) (base b : Nat) (l : List Int) (err : Int) : Prop := ∃ j n Z v, Rd w base b (8 * j) n Z err v ∧ j + l.length = n ∧ n ≤ 100000 ∧ ∀ k, k < l.length → (Z (j + k) : Int) = l.getD k 0
theorem Rd.below {w w' : World} {base b at_ n : Nat} {Z : Nat → Nat} {err : Int} {v : Value} (h : Rd w base b at_ n Z err v) (j : Below w.heap.size w w') : Rd w' base b at_ n Z err v :=
  ⟨below_own j h.own h.own.lt, h.row.kept (fun q _ => if hl : q < w.heap.size then .inl (j.block q hl) else .inr (fun e => hl (h.row.lt q e).2)), h.lt, h.low⟩
theorem Rb.below {w w' : World} {base b : Nat} {l : List Int} {err : Int} (h : Rb w base b l err) (j : Below w.heap.size w w') : Rb w' base b l err := by
  obtain ⟨q, n, Z, v, h1, h2⟩ := h
  exact ⟨q, n, Z, v, h1.below j, h2⟩
theorem Rb.drewN {w : World} {base b : Nat} {l : List Int} {err : Int} (h : Rb w base b l err) (m : Nat) : Rb (w.drewN m) base b l err := by
  obtain ⟨q, n, Z, v, h1, h2⟩ := h
  exact ⟨q, n, Z, v, h1.drewN m, h2⟩
theorem rb_nil {w : World} {base b : Nat} {Z : Nat → Nat} {err : Int} (h : Rd w base b 0 0 Z err (.slice none 0 0)) : Rb w base b [] err := ⟨0, 0, Z, _, h, rfl, by omega, fun k hk => by simp at hk⟩
theorem num_byte {Z : Nat → Nat} {j : Nat} (h : Z j < 256) : Num (Z j) 8 (bt Z) (8 * j) where
  lt := h
  bit t ht := by
    unfold bt
    rw [show (8 * j + (8 - 1 - t)) / 8 = j by omega, show 7 - (8 * j + (8 - 1 - t)) % 8 = t by omega]
theorem num_bytes {Z : Nat → Nat} {x j : Nat} (h : Num x 48 (bt Z) (8 * j)) (hz : ∀ t, t < 6 → Z (j + t) < 256) : ∀ t, t < 6 → (x >>> (8 * (6 - 1 - t))) % 256 = Z (j + t) := fun t ht => by
  refine Nat.eq_of_testBit_eq fun i => ?_
  rw [show (256 : Nat) = 2 ^ 8 from rfl, Nat.testBit_mod_two_pow, Nat.testBit_shiftRight]
  by_cases hi : i < 8
  · rw [h.bit _ (by omega)]
    unfold bt
    rw [show (8 * j + (48 - 1 - (8 * (6 - 1 - t) + i))) / 8 = j + t by omega, show 7 - (8 * j + (48 - 1 - (8 * (6 - 1 - t) + i))) % 8 = i by omega]
    simp [hi]
  · have : (Z (j + t)).testBit i = false := Nat.testBit_lt_two_pow (Nat.lt_of_lt_of_le (hz t ht) (show 2 ^ 8 ≤ 2 ^ i from Nat.pow_le_pow_right (by decide) (by omega)))
    simp [hi, this]
/-- The error behind a taking of k bytes. -/
def er (l : List Int) (k : Nat) (err : Int) : Int := if l.length < k then fst_ err 2 else err
def lft (l : List Int) (k : Nat) : List Int := if l.length < k then [] else l.drop k
theorem lft_get {l : List Int} {k q : Nat} : (l.drop k).getD q 0 = l.getD (k + q) 0 := by
  rw [List.getD_eq_getElem?_getD, List.getD_eq_getElem?_getD, List.getElem?_drop]
theorem Rb.skip {w : World} {base b j n k : Nat} {Z : Nat → Nat} {v : Value} {l : List Int} {err : Int} (h : Rd w base b (8 * j + 8 * k) n Z err v) (h1 : j + l.length = n) (h2 : n ≤ 100000) (h3 : ∀ q, q < l.length → (Z (j + q) : Int) = l.getD q 0) (hk : k ≤ l.length) : Rb w base b (l.drop k) err :=
  ⟨j + k, n, Z, v, by rw [show 8 * (j + k) = 8 * j + 8 * k by omega]; exact h, by rw [List.length_drop]; omega, h2, fun q hq => by
    rw [List.length_drop] at hq
    rw [lft_get, ← h3 (k + q) (by omega), Nat.add_assoc]⟩
theorem take8_any (base b : Nat) (l : List Int) (err : Int) (w : World) (h : Rb w base b l err) :
    Calls Tryz.prog 188 #[.pointer (some ⟨b, 0, none⟩), .int .i64 8] w fun r w' => r = .returned (.int .u64 (l.getD 0 0)) ∧ Rb w' base b (lft l 1) (er l 1 err) ∧ Just b w w' := by
  obtain ⟨j, n, Z, v, h1, h2, h3, h4⟩ := h
  unfold lft er
  by_cases hl : l.length < 1
  · rw [if_pos hl, if_pos hl]
    refine (shortJ base b (8 * j) n Z err v 8 w h1 (by omega) (by omega) (by omega) h3).mono ?_
    rintro r w' ⟨rfl, h5, b5⟩
    have e0 : l.getD 0 0 = 0 := by rw [List.getD_eq_getElem?_getD, List.getElem?_eq_none (by omega)]; rfl
    rw [e0]
    exact ⟨rfl, rb_nil h5, b5⟩
  · rw [if_neg hl, if_neg hl]
    refine (takeJ base b (8 * j) n Z err v 8 w h1 (by omega) (by omega) h3).mono ?_
    rintro r w' ⟨x, rfl, hx, h5, b5⟩
    have ex : x = Z j := hx.uniq (num_byte (h1.lt j (by omega)))
    have e4 := h4 0 (by omega)
    rw [Nat.add_zero] at e4
    refine ⟨by rw [ex, e4], ?_, b5⟩
    exact Rb.skip (k := 1) (by rw [show 8 * j + 8 * 1 = 8 * j + 8 by omega]; exact h5) h2 h3 h4 (by omega)
theorem take48_any (base b : Nat) (l : List Int) (err : Int) (w : World) (h : Rb w base b l err) :
    Calls Tryz.prog 188 #[.pointer (some ⟨b, 0, none⟩), .int .i64 48] w fun r w' => ∃ x : Nat, r = .returned (.int .u64 (x : Nat)) ∧ x < 281474976710656 ∧ (6 ≤ l.length → bytesK x 6 = l.take 6) ∧ Rb w' base b (lft l 6) (er l 6 err) ∧ Just b w w' := by
  obtain ⟨j, n, Z, v, h1, h2, h3, h4⟩ := h
  unfold lft er
  by_cases hl : l.length < 6
  · rw [if_pos hl, if_pos hl]
    refine (shortJ base b (8 * j) n Z err v 48 w h1 (by omega) (by omega) (by omega) h3).mono ?_
    rintro r w' ⟨rfl, h5, b5⟩
    exact ⟨0, rfl, by omega, fun h => by omega, rb_nil h5, b5⟩
  · rw [if_neg hl, if_neg hl]
    refine (takeJ base b (8 * j) n Z err v 48 w h1 (by omega) (by omega) h3).mono ?_
    rintro r w' ⟨x, rfl, hx, h5, b5⟩
    have hb := num_bytes hx (fun t ht => h1.lt (j + t) (by omega))
    refine ⟨x, rfl, hx.lt, fun _ => ?_, ?_, b5⟩
    · apply List.ext_getElem
      · rw [bytesK_len, List.length_take]; omega
      · intro t ht1 ht2
        rw [bytesK_len] at ht1
        have e1 := bytesK_at x 6 t ht1
        rw [hb t ht1, h4 t (by omega), List.getD_eq_getElem?_getD, List.getElem?_eq_getElem (by rw [bytesK_len]; exact ht1)] at e1
        rw [List.getD_eq_getElem?_getD, List.getElem?_eq_getElem (by omega)] at e1
        simp only [Option.getD_some] at e1
        rw [e1, List.getElem_take]
    · exact Rb.skip (k := 6) (by rw [show 8 * j + 8 * 6 = 8 * j + 48 by omega]; exact h5) h2 h3 h4 (by omega)
/-- A text of whole bytes: there, in a row of its own; or too short. -/
theorem textb_J (base b : Nat) (l : List Int) (err : Int) (x : Nat) (w : World) (h : Rb w base b l err) (hx : 0 < x) :
    Calls Tryz.prog 190 #[.pointer (some ⟨b, 0, none⟩), .int .i64 (x : Nat)] w fun r w' =>
      Rb w' base b (lft l x) (er l x err) ∧ Just b w w' ∧ ((x ≤ l.length ∧ r = .returned (.slice (some ⟨w.heap.size, 0, none⟩) x x) ∧ Blk w' w.heap.size 5 x (fun i => .int .u8 (l.getD i 0))) ∨ (l.length < x ∧ r = .returned (.slice none 0 0))) := by
  obtain ⟨j, n, Z, v, h1, h2, h3, h4⟩ := h
  unfold lft er
  by_cases hl : l.length < x
  · rw [if_pos hl, if_pos hl]
    refine (textShortJ base b (8 * j) n Z err (x : Int) v w h1 (by omega) (by omega) (by rw [Int.toNat_natCast]; omega) h3).mono ?_
    rintro r w' ⟨rfl, h5, b5⟩
    exact ⟨rb_nil h5, b5, .inr ⟨hl, rfl⟩⟩
  · rw [if_neg hl, if_neg hl]
    refine (textJ base b j n x Z err v w h1 hx (by omega) h3).mono ?_
    rintro r w' ⟨rfl, hB, h5, b5⟩
    refine ⟨Rb.skip (k := x) h5 h2 h3 h4 (by omega), b5, .inl ⟨by omega, rfl, hB.ext (fun i hi => by rw [h4 i (by omega)])⟩⟩
/-- What End tells. -/
def endE (l : List Int) (err : Int) : Int := if err = 0 then (if l = [] then 0 else 3) else err
theorem endb_any (base b : Nat) (l : List Int) (err : Int) (w : World) (h : Rb w base b l err) :
    Calls Tryz.prog 191 #[.pointer (some ⟨b, 0, none⟩)] w fun r w' => r = .returned (.int .i64 (endE l err)) ∧ ∃ m, w.drewN m = w' := by
  obtain ⟨j, n, Z, v, h1, h2, h3, h4⟩ := h
  unfold endE
  by_cases he : err = 0
  · rw [if_pos he]
    subst he
    by_cases hl : l = []
    · rw [if_pos hl]
      refine end_ok base b (8 * j) n Z v w h1 ?_ h3
      subst hl
      simp at h2
      omega
    · rw [if_neg hl]
      have : l.length ≠ 0 := fun e => hl (List.length_eq_zero_iff.1 e)
      exact end_more base b (8 * j) n Z v w h1 (by omega) h3
  · rw [if_neg he]
    refine (end_err base b (8 * j) n Z err v w h1 he).mono ?_
    rintro r w' ⟨rfl, rfl⟩
    exact ⟨rfl, 0, rfl⟩
theorem newb_any (a : Option Addr) (c : Nat) (l : List Int) (w : World) (hc : l.length ≤ 100000) (hR : Row w a l.length (fun i => .int .u8 (l.getD i 0))) (hB : ∀ x, x ∈ l → 0 ≤ x ∧ x < 256) (ha : a = none → l.length = 0) :
    Calls Tryz.prog 187 #[.slice a l.length c] w fun r w' => ∃ b, r = .returned (.pointer (some ⟨b, 0, none⟩)) ∧ Rb w' w.heap.size b l 0 ∧ Below w.heap.size w w' ∧ w.heap.size ≤ b ∧ b < w'.heap.size := by
  have hz : ∀ k, k < l.length → 0 ≤ l.getD k 0 ∧ l.getD k 0 < 256 := fun k hk => by
    rw [List.getD_eq_getElem?_getD, List.getElem?_eq_getElem hk]
    exact hB _ (List.getElem_mem hk)
  have hR2 := row_ext (U := fun i => .int .u8 (((l.getD i 0).toNat : Nat) : Int)) hR (fun i hi => by
    have := hz i hi
    rw [show (((l.getD i 0).toNat : Nat) : Int) = l.getD i 0 by omega])
  refine (new_any a l.length c (fun i => (l.getD i 0).toNat) w hc hR2 (fun k hk => by have := hz k hk; show (l.getD k 0).toNat < 256; omega) ha).mono ?_
  rintro r w' ⟨b, v, rfl, h, b1⟩
  refine ⟨b, rfl, ⟨0, l.length, _, v, h, by omega, hc, fun k hk => ?_⟩, b1, h.low, h.own.lt⟩
  have := hz k hk
  show (((l.getD (0 + k) 0).toNat : Nat) : Int) = _
  rw [Nat.zero_add]
  omega
end Go.Proofs.YtiflmdekcjbmbaaGreat.Bf
set_option maxRecDepth 100000
namespace Go.Proofs.YtiflmdekcjbmbaaGreat.Bf
set_option linter.unusedVariables false
set_option linter.unusedSimpArgs false
open Go.RowKit Lb Go.Shelf

def Rh (w : World) (base H b : Nat) (l : List Int) (err : Int) : Prop := b < H ∧ ∃ j n Z v, Rd w base b (8 * j) n Z err v ∧ (∀ q, v.ownBlock = some q → q < H) ∧ j + l.length = n ∧ n ≤ 100000 ∧ ∀ k, k < l.length → (Z (j + k) : Int) = l.getD k 0
theorem Rh.rb {w : World} {base H b : Nat} {l : List Int} {err : Int} (h : Rh w base H b l err) : Rb w base b l err := by
  obtain ⟨_, j, n, Z, v, h1, _, h2⟩ := h
  exact ⟨j, n, Z, v, h1, h2⟩
theorem Rb.hold {w : World} {base b : Nat} {l : List Int} {err : Int} (h : Rb w base b l err) : Rh w base w.heap.size b l err := by
  obtain ⟨j, n, Z, v, h1, h2⟩ := h
  exact ⟨h1.own.lt, j, n, Z, v, h1, fun q e => (h1.row.lt q e).2, h2⟩
theorem Rh.kept {w w' : World} {base H b : Nat} {l : List Int} {err : Int} (h : Rh w base H b l err) (k : Below H w w') : Rh w' base H b l err := by
  obtain ⟨hb, j, n, Z, v, h1, h2, h3⟩ := h
  refine ⟨hb, j, n, Z, v, ⟨below_own k h1.own hb, h1.row.kept (fun q _ => ?_), h1.lt, h1.low⟩, h2, h3⟩
  by_cases hq : q < H
  · exact .inl (k.block q hq)
  · exact .inr (fun e => hq (h2 q e))
theorem Rh.drewN {w : World} {base H b : Nat} {l : List Int} {err : Int} (h : Rh w base H b l err) (m : Nat) : Rh (w.drewN m) base H b l err := h.kept (below_drewN (Below.refl _ _) m)
theorem Rh.lt {w : World} {base H b : Nat} {l : List Int} {err : Int} (h : Rh w base H b l err) : b < H := h.1
theorem rh_nil {w : World} {base H b : Nat} {Z : Nat → Nat} {err : Int} (h : Rd w base b 0 0 Z err (.slice none 0 0)) (hb : b < H) : Rh w base H b [] err := ⟨hb, 0, 0, Z, _, h, (fun q e => by cases e), rfl, by omega, (fun k hk => by simp at hk)⟩
theorem Rh.skip {w : World} {base H b j n k : Nat} {Z : Nat → Nat} {v : Value} {l : List Int} {err : Int} (hb : b < H) (h : Rd w base b (8 * j + 8 * k) n Z err v) (hv : ∀ q, v.ownBlock = some q → q < H) (h1 : j + l.length = n) (h2 : n ≤ 100000) (h3 : ∀ q, q < l.length → (Z (j + q) : Int) = l.getD q 0) (hk : k ≤ l.length) : Rh w base H b (l.drop k) err :=
  ⟨hb, j + k, n, Z, v, by rw [show 8 * (j + k) = 8 * j + 8 * k by omega]; exact h, hv, by rw [List.length_drop]; omega, h2, fun q hq => by
    rw [List.length_drop] at hq
    rw [lft_get, ← h3 (k + q) (by omega), Nat.add_assoc]⟩
theorem numK_bytes {Z : Nat → Nat} {x j K : Nat} (h : Num x (8 * K) (bt Z) (8 * j)) (hz : ∀ t, t < K → Z (j + t) < 256) : ∀ t, t < K → (x >>> (8 * (K - 1 - t))) % 256 = Z (j + t) := fun t ht => by
  refine Nat.eq_of_testBit_eq fun i => ?_
  rw [show (256 : Nat) = 2 ^ 8 from rfl, Nat.testBit_mod_two_pow, Nat.testBit_shiftRight]
  by_cases hi : i < 8
  · rw [h.bit _ (by omega)]
    unfold bt
    rw [show (8 * j + (8 * K - 1 - (8 * (K - 1 - t) + i))) / 8 = j + t by omega, show 7 - (8 * j + (8 * K - 1 - (8 * (K - 1 - t) + i))) % 8 = i by omega]
    simp [hi]
  · have : (Z (j + t)).testBit i = false := Nat.testBit_lt_two_pow (Nat.lt_of_lt_of_le (hz t ht) (show 2 ^ 8 ≤ 2 ^ i from Nat.pow_le_pow_right (by decide) (by omega)))
    simp [hi, this]
theorem lefth_any (base H b : Nat) (l : List Int) (err : Int) (w : World) (h : Rh w base H b l err) :
    Calls Tryz.prog 214 #[.pointer (some ⟨b, 0, none⟩)] w fun r w' => r = .returned (.int .i64 ((8 * l.length : Nat) : Int)) ∧ ∃ m, w.drewN m = w' := by
  obtain ⟨hb, j, n, Z, v, h1, h2, h3, h4, h5⟩ := h
  refine (left_any base b (8 * j) n Z err v w h1 (by omega) (by omega)).mono ?_
  rintro r w' ⟨rfl, h⟩
  refine ⟨?_, h⟩
  rw [show 8 * n - 8 * j = 8 * l.length by omega]
theorem take8h_any (base H b : Nat) (l : List Int) (err : Int) (w : World) (h : Rh w base H b l err) :
    Calls Tryz.prog 188 #[.pointer (some ⟨b, 0, none⟩), .int .i64 8] w fun r w' => r = .returned (.int .u64 (l.getD 0 0)) ∧ Rh w' base H b (lft l 1) (er l 1 err) ∧ Just b w w' := by
  obtain ⟨hb, j, n, Z, v, h1, hv, h2, h3, h4⟩ := h
  unfold lft er
  by_cases hl : l.length < 1
  · rw [if_pos hl, if_pos hl]
    refine (shortJ base b (8 * j) n Z err v 8 w h1 (by omega) (by omega) (by omega) h3).mono ?_
    rintro r w' ⟨rfl, h5, b5⟩
    have e0 : l.getD 0 0 = 0 := by rw [List.getD_eq_getElem?_getD, List.getElem?_eq_none (by omega)]; rfl
    rw [e0]
    exact ⟨rfl, rh_nil h5 hb, b5⟩
  · rw [if_neg hl, if_neg hl]
    refine (takeJ base b (8 * j) n Z err v 8 w h1 (by omega) (by omega) h3).mono ?_
    rintro r w' ⟨x, rfl, hx, h5, b5⟩
    have ex := hx.uniq (num_byte (h1.lt j (by omega)))
    have e4 := h4 0 (by omega)
    rw [Nat.add_zero] at e4
    refine ⟨by rw [ex, e4], ?_, b5⟩
    exact Rh.skip (k := 1) hb (by rw [show 8 * j + 8 * 1 = 8 * j + 8 by omega]; exact h5) hv h2 h3 h4 (by omega)
theorem takeh_any (base H b : Nat) (l : List Int) (err : Int) (K : Nat) (w : World) (h : Rh w base H b l err) (hK : K ≤ 8) (hl : K ≤ l.length) :
    Calls Tryz.prog 188 #[.pointer (some ⟨b, 0, none⟩), .int .i64 ((8 * K : Nat) : Int)] w fun r w' => ∃ x : Nat, r = .returned (.int .u64 (x : Nat)) ∧ x < 256 ^ K ∧ bytesK x K = l.take K ∧ Rh w' base H b (l.drop K) err ∧ Just b w w' := by
  obtain ⟨hb, j, n, Z, v, h1, hv, h2, h3, h4⟩ := h
  refine (takeJ base b (8 * j) n Z err v (8 * K) w h1 (by omega) (by omega) h3).mono ?_
  rintro r w' ⟨x, rfl, hx, h5, b5⟩
  have hbk := numK_bytes hx (fun t ht => h1.lt (j + t) (by omega))
  refine ⟨x, rfl, ?_, ?_, ?_, b5⟩
  · have := hx.lt
    rwa [Nat.pow_mul] at this
  · apply List.ext_getElem
    · rw [bytesK_len, List.length_take]; omega
    · intro t ht1 ht2
      rw [bytesK_len] at ht1
      have e1 := bytesK_at x K t ht1
      rw [hbk t ht1, h4 t (by omega), List.getD_eq_getElem?_getD, List.getElem?_eq_getElem (by rw [bytesK_len]; exact ht1)] at e1
      rw [List.getD_eq_getElem?_getD, List.getElem?_eq_getElem (by omega)] at e1
      simp only [Option.getD_some] at e1
      rw [e1, List.getElem_take]
  · exact Rh.skip (k := K) hb h5 hv h2 h3 h4 (by omega)
end Go.Proofs.YtiflmdekcjbmbaaGreat.Bf
