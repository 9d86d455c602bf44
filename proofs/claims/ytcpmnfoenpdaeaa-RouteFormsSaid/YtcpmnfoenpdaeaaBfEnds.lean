/-
  Package bits (chapter 3): a reader that has too few bits; Even, End.
-/
import Derived.Test.YtcpmnfoenpdaeaaBfRead
set_option maxRecDepth 100000
namespace Go.Proofs.Ytcpmnfoenpdaeaa.Bf
set_option linter.unusedVariables false
open Go.RowKit Lb Go.Shelf

/-- The first error stays. -/
def fst_ (err e : Int) : Int := if err = 0 then e else err
theorem Rd.at0 {w : World} {base b at_ n : Nat} {Z : Nat → Nat} {err : Int} {v : Value} (h : Rd w base b at_ n Z err v) : w.cell? ⟨b, 1, none⟩ = some (.int .i64 (at_ : Int)) ∧ w.cell? ⟨b, 2, none⟩ = some (.int .i64 err) := ⟨h.own.cell 1, h.own.cell 2⟩
theorem fail_any (base b at_ n : Nat) (Z : Nat → Nat) (err e : Int) (v : Value) (w : World) (h : Rd w base b at_ n Z err v) :
    Calls Try.prog 55 #[.pointer (some ⟨b, 0, none⟩), .int .i64 e] w fun r w' => r = .returned (.tuple #[]) ∧ Rd w' base b 0 0 Z (fst_ err e) (.slice none 0 0) ∧ Below base w w' := by
  have k2 : w.cell? ⟨b, 2, none⟩ = some (.int .i64 err) := h.own.cell 2
  have k0 : w.cell? ⟨b, 0, none⟩ = some v := h.own.cell 0
  have k1 : w.cell? ⟨b, 1, none⟩ = some (.int .i64 (at_ : Int)) := h.own.cell 1
  have f0 : w.frozen? ⟨b, 0, none⟩ = false := h.own.free 0
  have f1 : w.frozen? ⟨b, 1, none⟩ = false := h.own.free 1
  have f2 : w.frozen? ⟨b, 2, none⟩ = false := h.own.free 2
  have hbs : base ≤ w.heap.size := by have := h.own.lt; have := h.low; omega
  obtain ⟨a, c, rfl, _, _, _⟩ := h.row.row
  by_cases e0 : err = 0
  · subst e0
    have HF : Hid (fst_ 0 e = e) := Lib.hid rfl
    go_enter Try.func55, Try.ntmps55
    go_wp2_with fail
    go_end0
    rw [HF.out]
    exact ⟨rfl, ⟨((h.own.put 2 _).put 0 _).put 1 _, Mine.nil _ _ _ _, fun k hk => by omega, h.low⟩, (((Just.set b w 2 _).put 0 _).put 1 _).below (Below.refl _ _) h.low hbs⟩
  · have HF : Hid (fst_ err e = err) := Lib.hid (by unfold fst_; rw [if_neg e0])
    have g : (err == 0) = false := by simpa using e0
    go_enter Try.func55, Try.ntmps55
    go_wp2_with fail
    go_end0
    rw [HF.out]
    exact ⟨rfl, ⟨(h.own.put 0 _).put 1 _, Mine.nil _ _ _ _, fun k hk => by omega, h.low⟩, ((Just.set b w 0 _).put 1 _).below (Below.refl _ _) h.low hbs⟩
theorem take_out (b : Nat) (x : Int) (w : World) (hx : x < 0 ∨ 64 < x) :
    Calls Try.prog 45 #[.pointer (some ⟨b, 0, none⟩), .int .i64 x] w fun r w' => r = .returned (.int .u64 0) ∧ w = w' := by
  by_cases h0 : x < 0
  · go_enter Try.func45, Try.ntmps45
    go_wp2_with fail
    go_ret
    exact ⟨rfl, rfl⟩
  · have h1 : 64 < x := by omega
    have g0 : decide (x < 0) = false := by simp; omega
    clear hx h0
    go_enter Try.func45, Try.ntmps45
    go_wp2_with fail
    go_ret
    exact ⟨rfl, rfl⟩
theorem take_short (base b at_ n : Nat) (Z : Nat → Nat) (err : Int) (v : Value) (width : Nat) (w : World) (h : Rd w base b at_ n Z err v) (hw : width ≤ 64) (ha : at_ ≤ 8 * n) (hl : 8 * n - at_ < width) (hn : n ≤ 100000) :
    Calls Try.prog 45 #[.pointer (some ⟨b, 0, none⟩), .int .i64 (width : Nat)] w fun r w' => r = .returned (.int .u64 0) ∧ Rd w' base b 0 0 Z (fst_ err 2) (.slice none 0 0) ∧ Below base w w' := by
  have g1 : decide ((width : Int) < 0) = false := by simp
  have g2 : decide ((64 : Int) < (width : Int)) = false := by simp; omega
  have g3 : decide (64 < width) = false := by simp; omega
  go_enter Try.func45, Try.ntmps45
  go_wp2_with fail
  refine (left_any base b at_ n Z err v _ h ha (by omega)).mono ?_
  rintro r w1 ⟨rfl, m1, hw1⟩
  have h1 : Rd w1 base b at_ n Z err v := by rw [← hw1]; exact h.drewN m1
  have b1 : Below base w w1 := by rw [← hw1]; exact below_drewN (Below.refl _ _) m1
  clear hw1 h
  obtain ⟨LL, hLL⟩ : ∃ LL, 8 * n - at_ = LL := ⟨_, rfl⟩
  rw [hLL] at hl ⊢
  have hl2 : (LL : Int) < (width : Int) := by omega
  clear hLL
  go_wp2_with fail
  refine (fail_any base b at_ n Z err 2 v _ h1).mono ?_
  rintro r w2 ⟨rfl, h2, b2⟩
  go_wp2_with fail
  go_ret
  exact ⟨rfl, h2, b1.trans b2⟩
/-- Of an empty reader with an error nothing is taken. -/
theorem take_empty (base b : Nat) (Z : Nat → Nat) (err : Int) (x : Int) (w : World) (h : Rd w base b 0 0 Z err (.slice none 0 0)) (he : err ≠ 0) :
    Calls Try.prog 45 #[.pointer (some ⟨b, 0, none⟩), .int .i64 x] w fun r w' => r = .returned (.int .u64 0) ∧ Rd w' base b 0 0 Z err (.slice none 0 0) ∧ Below base w w' := by
  by_cases hx : x < 0 ∨ 64 < x
  · refine (take_out b x w hx).mono ?_
    rintro r w' ⟨rfl, rfl⟩
    exact ⟨rfl, h, Below.refl _ _⟩
  · obtain ⟨m, rfl⟩ : ∃ m : Nat, x = m := ⟨x.toNat, by omega⟩
    by_cases hm : m = 0
    · subst hm
      refine (take_any base b 0 0 Z err _ 0 w h (by omega) (by omega) (by omega)).mono ?_
      rintro r w' ⟨y, rfl, hy, h2, b2⟩
      have := hy.lt
      obtain rfl : y = 0 := by simpa using this
      exact ⟨rfl, h2, b2⟩
    · refine (take_short base b 0 0 Z err _ m w h (by omega) (by omega) (by omega) (by omega)).mono ?_
      rintro r w' ⟨rfl, h2, b2⟩
      rw [show fst_ err 2 = err from by unfold fst_; rw [if_neg he]] at h2
      exact ⟨rfl, h2, b2⟩
theorem text_neg (b : Nat) (x : Int) (w : World) (hx : x ≤ 0) :
    Calls Try.prog 47 #[.pointer (some ⟨b, 0, none⟩), .int .i64 x] w fun r w' => r = .returned (.slice none 0 0) ∧ w = w' := by
  go_enter Try.func47, Try.ntmps47
  go_wp2_with fail
  go_ret
  exact ⟨rfl, rfl⟩
theorem text_short (base b at_ n : Nat) (Z : Nat → Nat) (err x : Int) (v : Value) (w : World) (h : Rd w base b at_ n Z err v) (ha : at_ ≤ 8 * n) (hx : 0 < x) (hl : (8 * n - at_) / 8 < x.toNat) (hn : n ≤ 100000) :
    Calls Try.prog 47 #[.pointer (some ⟨b, 0, none⟩), .int .i64 x] w fun r w' => r = .returned (.slice none 0 0) ∧ Rd w' base b 0 0 Z (fst_ err 2) (.slice none 0 0) ∧ Below base w w' := by
  have g1 : decide (x ≤ 0) = false := by simp; omega
  go_enter Try.func47, Try.ntmps47
  go_wp2_with fail
  refine (left_any base b at_ n Z err v _ h ha (by omega)).mono ?_
  rintro r w1 ⟨rfl, m1, hw1⟩
  have h1 : Rd w1 base b at_ n Z err v := by rw [← hw1]; exact h.drewN m1
  have b1 : Below base w w1 := by rw [← hw1]; exact below_drewN (Below.refl _ _) m1
  clear hw1 h
  obtain ⟨LL, hLL⟩ : ∃ LL, 8 * n - at_ = LL := ⟨_, rfl⟩
  rw [hLL] at hl ⊢
  obtain ⟨L8, hL8⟩ : ∃ L8, LL / 8 = L8 := ⟨_, rfl⟩
  have e1 : (LL : Int) / 8 = (L8 : Int) := by omega
  have hl2 : (L8 : Int) < x := by omega
  have e2 : wrap64 (L8 : Int) = (L8 : Int) := IntWalk.wrap64_in _ ⟨by omega, by omega⟩
  clear hLL hL8
  go_wp2_with fail
  refine (fail_any base b at_ n Z err 2 v _ h1).mono ?_
  rintro r w2 ⟨rfl, h2, b2⟩
  go_wp2_with fail
  go_ret
  exact ⟨rfl, h2, b1.trans b2⟩
theorem text_empty (base b : Nat) (Z : Nat → Nat) (err : Int) (x : Int) (w : World) (h : Rd w base b 0 0 Z err (.slice none 0 0)) (he : err ≠ 0) :
    Calls Try.prog 47 #[.pointer (some ⟨b, 0, none⟩), .int .i64 x] w fun r w' => r = .returned (.slice none 0 0) ∧ Rd w' base b 0 0 Z err (.slice none 0 0) ∧ Below base w w' := by
  by_cases hx : x ≤ 0
  · refine (text_neg b x w hx).mono ?_
    rintro r w' ⟨rfl, rfl⟩
    exact ⟨rfl, h, Below.refl _ _⟩
  · refine (text_short base b 0 0 Z err x _ w h (by omega) (by omega) (by omega) (by omega)).mono ?_
    rintro r w' ⟨rfl, h2, b2⟩
    rw [show fst_ err 2 = err from by unfold fst_; rw [if_neg he]] at h2
    exact ⟨rfl, h2, b2⟩
theorem end_err (base b at_ n : Nat) (Z : Nat → Nat) (err : Int) (v : Value) (w : World) (h : Rd w base b at_ n Z err v) (he : err ≠ 0) :
    Calls Try.prog 46 #[.pointer (some ⟨b, 0, none⟩)] w fun r w' => r = .returned (.int .i64 err) ∧ w = w' := by
  have k2 : w.cell? ⟨b, 2, none⟩ = some (.int .i64 err) := h.own.cell 2
  have g : (err == 0) = false := by simpa using he
  clear he
  go_enter Try.func46, Try.ntmps46
  go_wp2_with fail
  go_ret
  exact ⟨rfl, rfl⟩
theorem end_ok (base b at_ n : Nat) (Z : Nat → Nat) (v : Value) (w : World) (h : Rd w base b at_ n Z 0 v) (hl : at_ = 8 * n) (hn : n ≤ 100000) :
    Calls Try.prog 46 #[.pointer (some ⟨b, 0, none⟩)] w fun r w' => r = .returned (.int .i64 0) ∧ ∃ m, w.drewN m = w' := by
  have k2 : w.cell? ⟨b, 2, none⟩ = some (.int .i64 0) := h.own.cell 2
  go_enter Try.func46, Try.ntmps46
  go_wp2_with fail
  refine (left_any base b at_ n Z 0 v _ h (by omega) (by omega)).mono ?_
  rintro r w1 ⟨rfl, m1, rfl⟩
  rw [show 8 * n - at_ = 0 from by omega]
  go_wp2_with fail
  go_ret
  exact ⟨rfl, _, rfl⟩
theorem end_more (base b at_ n : Nat) (Z : Nat → Nat) (v : Value) (w : World) (h : Rd w base b at_ n Z 0 v) (hl : at_ < 8 * n) (hn : n ≤ 100000) :
    Calls Try.prog 46 #[.pointer (some ⟨b, 0, none⟩)] w fun r w' => r = .returned (.int .i64 3) ∧ ∃ m, w.drewN m = w' := by
  have k2 : w.cell? ⟨b, 2, none⟩ = some (.int .i64 0) := h.own.cell 2
  obtain ⟨d, hd⟩ : ∃ d, 8 * n - at_ = d := ⟨_, rfl⟩
  have hd0 : decide (0 < d) = true := by simp; omega
  have hd1 : decide ((0 : Int) < (d : Int)) = true := by simp; omega
  go_enter Try.func46, Try.ntmps46
  go_wp2_with fail
  refine (left_any base b at_ n Z 0 v _ h (by omega) (by omega)).mono ?_
  rintro r w1 ⟨rfl, m1, rfl⟩
  rw [hd]
  clear hd
  go_wp2_with fail
  go_ret
  exact ⟨rfl, _, rfl⟩
end Go.Proofs.Ytcpmnfoenpdaeaa.Bf
