/-
  The package's reader and the reference's row of bits side by side: one state, one answer a call.
-/
import Derived.Test.YtamooehncjceiaaBfRowRd
set_option maxRecDepth 100000
namespace Go.Proofs.Ytamooehncjceiaa.Bf
set_option linter.unusedVariables false
open Go.RowKit Lb

/-- How far a reader is, or its error. -/
inductive St | ok (p : Nat) | bad (e : Int)
/-- Reader br of N bytes Z in state s. -/
def R1 (w : World) (base br N : Nat) (Z : Nat → Nat) : St → Prop
  | .ok p => p ≤ 8 * N ∧ ∃ v, Rd w base br p N Z 0 v
  | .bad e => e ≠ 0 ∧ Rd w base br 0 0 Z e (.slice none 0 0)
/-- Row bm of the bits of N bytes Z in state s. -/
def R2 (w : World) (bm N : Nat) (Z : Nat → Nat) : St → Prop
  | .ok p => p ≤ 8 * N ∧ ∃ a c, Ro w bm a (8 * N - p) c (bt Z) p 0
  | .bad e => e ≠ 0 ∧ Ro w bm none 0 0 (bt Z) 0 e
theorem Rd.under {w w' : World} {base b at_ n : Nat} {Z : Nat → Nat} {err : Int} {v : Value} (h : Rd w base b at_ n Z err v) (j : Below w.heap.size w w') : Rd w' base b at_ n Z err v :=
  ⟨below_own j h.own h.own.lt, h.row.kept (fun q _ => if hl : q < w.heap.size then .inl (j.block q hl) else .inr (fun e => hl (h.row.lt q e).2)), h.lt, h.low⟩
theorem R1.own {w : World} {base br N : Nat} {Z : Nat → Nat} {s : St} (h : R1 w base br N Z s) : ∃ cs, Own w br 54 cs := by
  cases s with
  | ok p => obtain ⟨_, v, h⟩ := h; exact ⟨_, h.own⟩
  | bad e => exact ⟨_, h.2.own⟩
theorem R1.low {w : World} {base br N : Nat} {Z : Nat → Nat} {s : St} (h : R1 w base br N Z s) : base ≤ br := by
  cases s with
  | ok p => obtain ⟨_, v, h⟩ := h; exact h.low
  | bad e => exact h.2.low
theorem R2.own {w : World} {bm N : Nat} {Z : Nat → Nat} {s : St} (h : R2 w bm N Z s) : ∃ cs, Own w bm 38 cs := by
  cases s with
  | ok p => obtain ⟨_, a, c, h⟩ := h; exact ⟨_, h.own⟩
  | bad e => exact ⟨_, h.2.own⟩
theorem R1.drewN {w : World} {base br N : Nat} {Z : Nat → Nat} {s : St} (h : R1 w base br N Z s) (m : Nat) : R1 (w.drewN m) base br N Z s := by
  cases s with
  | ok p => obtain ⟨h0, v, h⟩ := h; exact ⟨h0, v, h.drewN m⟩
  | bad e => exact ⟨h.1, h.2.drewN m⟩
theorem R2.just {w w' : World} {bm g N : Nat} {Z : Nat → Nat} {s : St} {t : TypeId} {cs : Array Value} (h : R2 w bm N Z s) (j : Just g w w') (o : Own w g t cs) (h1 : t ≠ 38) (h2 : t ≠ 5) : R2 w' bm N Z s := by
  cases s with
  | ok p => obtain ⟨h0, a, c, h⟩ := h; exact ⟨h0, a, c, h.just j o h1 h2⟩
  | bad e => exact ⟨h.1, h.2.just j o h1 h2⟩
theorem R2.drewN {w : World} {bm N : Nat} {Z : Nat → Nat} {s : St} (h : R2 w bm N Z s) (m : Nat) : R2 (w.drewN m) bm N Z s := by
  cases s with
  | ok p => obtain ⟨h0, a, c, h⟩ := h; exact ⟨h0, a, c, ⟨h.own.drewN m, h.le, h.cap, h.row.drewN m, h.ty⟩⟩
  | bad e => exact ⟨h.1, ⟨h.2.own.drewN m, h.2.le, h.2.cap, h.2.row.drewN m, h.2.ty⟩⟩
theorem Rd.off {w w' : World} {base b g at_ n : Nat} {Z : Nat → Nat} {err : Int} {v : Value} {t : TypeId} {cs : Array Value} (h : Rd w base b at_ n Z err v) (j : Just g w w') (o : Own w g t cs) (h1 : t ≠ 54) (h2 : t ≠ 5) : Rd w' base b at_ n Z err v :=
  h.just j (fun e => by subst e; exact h1 (own_type o h.own)) (fun e => by
    obtain ⟨_, h9⟩ := h.row
    rcases h9 with ⟨hv, _⟩ | ⟨g', cap, cur, hv, _, hh, _⟩
    · rw [hv] at e
      cases e
    · rw [hv] at e
      have e : some g' = some g := e
      injection e with e
      subst e
      exact h2 (own_type o hh))
theorem R1.just {w w' : World} {base br g N : Nat} {Z : Nat → Nat} {s : St} {t : TypeId} {cs : Array Value} (h : R1 w base br N Z s) (j : Just g w w') (o : Own w g t cs) (h1 : t ≠ 54) (h2 : t ≠ 5) : R1 w' base br N Z s := by
  cases s with
  | ok p => obtain ⟨h0, v, h⟩ := h; exact ⟨h0, v, h.off j o h1 h2⟩
  | bad e => exact ⟨h.1, h.2.off j o h1 h2⟩
/-- A row of bytes, in blocks of their own type. -/
def Rt (w : World) (a : Option Addr) (n : Nat) (V : Nat → Value) : Prop := Row w a n V ∧ (0 < n → ∀ q, a.map Addr.block = some q → ∃ cs, Own w q 5 cs)
theorem Rt.nil (w : World) (V : Nat → Value) : Rt w none 0 V := ⟨Row.nil _ _ _, fun h => absurd h (by decide)⟩
theorem Rt.just {w w' : World} {a : Option Addr} {n g : Nat} {V : Nat → Value} {t : TypeId} {cs : Array Value} (h : Rt w a n V) (j : Just g w w') (o : Own w g t cs) (h2 : t ≠ 5) : Rt w' a n V :=
  have hn : ∀ q, 0 < n → a.map Addr.block = some q → q ≠ g := fun q hn e f => by
    subst f
    obtain ⟨ds, hd⟩ := h.2 hn _ e
    exact h2 (own_type o hd)
  ⟨row_just h.1 j (fun h0 q e => hn q h0 e), fun h0 q e => by
    obtain ⟨ds, hd⟩ := h.2 h0 q e
    exact ⟨ds, j.own hd (hn q h0 e)⟩⟩
/-- Take: the number, the state. -/
def takeV (N : Nat) (Z : Nat → Nat) (x : Int) : St → Nat
  | .ok p => if 0 ≤ x ∧ x ≤ 64 ∧ (p : Int) + x ≤ 8 * N then num (bt Z) p x.toNat else 0
  | .bad _ => 0
def takeS (N : Nat) (x : Int) : St → St
  | .ok p => if 0 ≤ x ∧ x ≤ 64 then (if (p : Int) + x ≤ 8 * N then .ok (p + x.toNat) else .bad 2) else .ok p
  | .bad e => .bad e
/-- Text: how many bytes, which, the state. -/
def textM (N : Nat) (x : Int) : St → Nat
  | .ok p => if 0 < x ∧ (p : Int) + 8 * x ≤ 8 * N then x.toNat else 0
  | .bad _ => 0
def textV (Z : Nat → Nat) : St → Nat → Value
  | .ok p => fun i => .int .u8 (num (bt Z) (p + 8 * i) 8 : Nat)
  | .bad _ => fun _ => .int .u8 0
def textS (N : Nat) (x : Int) : St → St
  | .ok p => if 0 < x then (if (p : Int) + 8 * x ≤ 8 * N then .ok (p + 8 * x.toNat) else .bad 2) else .ok p
  | .bad e => .bad e
def evenS (N : Nat) (Z : Nat → Nat) : St → St
  | .ok p => if num (bt Z) p ((8 * N - p) % 8) = 0 then .ok (p + (8 * N - p) % 8) else .bad 3
  | .bad e => .bad e
def leftN (N : Nat) : St → Nat
  | .ok p => 8 * N - p
  | .bad _ => 0
def endE (N : Nat) : St → Int
  | .ok p => if p < 8 * N then 3 else 0
  | .bad e => e
/-! ### The package's reader. -/
theorem takeS_any (base br N : Nat) (Z : Nat → Nat) (s : St) (x : Int) (w : World) (h : R1 w base br N Z s) (hn : N ≤ 100000) :
    Calls Try.prog 16 #[.pointer (some ⟨br, 0, none⟩), .int .i64 x] w fun r w' => r = .returned (.int .u64 (takeV N Z x s : Nat)) ∧ R1 w' base br N Z (takeS N x s) ∧ Just br w w' := by
  by_cases hx : 0 ≤ x ∧ x ≤ 64
  · obtain ⟨k, rfl⟩ : ∃ k : Nat, x = k := ⟨x.toNat, by omega⟩
    have hk : k ≤ 64 := by omega
    cases s with
    | ok p =>
      obtain ⟨h0, v, h⟩ := h
      by_cases hl : p + k ≤ 8 * N
      · refine (takeJ base br p N Z 0 v k w h hk hl hn).mono ?_
        rintro r w' ⟨y, rfl, h1, h2, h3⟩
        refine ⟨?_, ?_, h3⟩
        · rw [h1.uniq (num_num _ _ _), takeV, if_pos ⟨by omega, by omega, by omega⟩, Int.toNat_natCast]
        · rw [takeS, if_pos ⟨by omega, by omega⟩, if_pos (by omega), Int.toNat_natCast]
          exact ⟨hl, v, h2⟩
      · refine (shortJ base br p N Z 0 v k w h hk h0 (by omega) hn).mono ?_
        rintro r w' ⟨rfl, h2, h3⟩
        refine ⟨?_, ?_, h3⟩
        · rw [takeV, if_neg (fun h => by omega)]
          rfl
        · rw [takeS, if_pos ⟨by omega, by omega⟩, if_neg (by omega)]
          exact ⟨by decide, h2⟩
    | bad e =>
      obtain ⟨h0, h⟩ := h
      by_cases hl : k = 0
      · subst hl
        refine (takeJ base br 0 0 Z e _ 0 w h (by omega) (by omega) (by omega)).mono ?_
        rintro r w' ⟨y, rfl, h1, h2, h3⟩
        have := h1.lt
        obtain rfl : y = 0 := by simpa using this
        exact ⟨rfl, ⟨h0, h2⟩, h3⟩
      · refine (shortJ base br 0 0 Z e _ k w h hk (by omega) (by omega) (by omega)).mono ?_
        rintro r w' ⟨rfl, h2, h3⟩
        rw [show fst_ e 2 = e from by unfold fst_; rw [if_neg h0]] at h2
        exact ⟨rfl, ⟨h0, h2⟩, h3⟩
  · refine (take_out br x w (by omega)).mono ?_
    rintro r w' ⟨rfl, rfl⟩
    cases s with
    | ok p =>
      rw [takeV, takeS, if_neg (fun h => hx ⟨h.1, h.2.1⟩), if_neg hx]
      exact ⟨rfl, h, Just.refl _ _⟩
    | bad e => exact ⟨rfl, h, Just.refl _ _⟩
theorem textS_any (base br N : Nat) (Z : Nat → Nat) (s : St) (x : Int) (w : World) (h : R1 w base br N Z s) (hn : N ≤ 100000) :
    Calls Try.prog 12 #[.pointer (some ⟨br, 0, none⟩), .int .i64 x] w fun r w' => ∃ a c, r = .returned (.slice a (textM N x s) c) ∧ Rt w' a (textM N x s) (textV Z s) ∧ R1 w' base br N Z (textS N x s) ∧ Just br w w' := by
  by_cases hx : 0 < x
  · obtain ⟨k, rfl⟩ : ∃ k : Nat, x = k := ⟨x.toNat, by omega⟩
    cases s with
    | ok p =>
      obtain ⟨h0, v, h⟩ := h
      by_cases hl : p + 8 * k ≤ 8 * N
      · refine (rtext_any base br p N k Z 0 v w h (by omega) hl hn).mono ?_
        rintro r w' ⟨rfl, h1, h2, h3⟩
        rw [textM, textS, if_pos ⟨by omega, by omega⟩, if_pos hx, if_pos (by omega), Int.toNat_natCast]
        exact ⟨_, _, rfl, ⟨Blk.row_of h1, fun _ q e => by injection e with e; subst e; exact ⟨_, h1⟩⟩, ⟨hl, v, h2⟩, h3⟩
      · refine (textShortJ base br p N Z 0 k v w h h0 (by omega) (by omega) hn).mono ?_
        rintro r w' ⟨rfl, h2, h3⟩
        rw [textM, textS, if_neg (fun h => by omega), if_pos hx, if_neg (by omega)]
        exact ⟨none, 0, rfl, Rt.nil _ _, ⟨by decide, h2⟩, h3⟩
    | bad e =>
      obtain ⟨h0, h⟩ := h
      refine (textShortJ base br 0 0 Z e k _ w h (by omega) hx (by omega) (by omega)).mono ?_
      rintro r w' ⟨rfl, h2, h3⟩
      rw [show fst_ e 2 = e from by unfold fst_; rw [if_neg h0]] at h2
      exact ⟨none, 0, rfl, Rt.nil _ _, ⟨h0, h2⟩, h3⟩
  · refine (text_neg br x w (by omega)).mono ?_
    rintro r w' ⟨rfl, rfl⟩
    cases s with
    | ok p =>
      rw [textM, textS, if_neg (fun h => hx h.1), if_neg hx]
      exact ⟨none, 0, rfl, Rt.nil _ _, h, Just.refl _ _⟩
    | bad e => exact ⟨none, 0, rfl, Rt.nil _ _, h, Just.refl _ _⟩
theorem evenJ (base b at_ n : Nat) (Z : Nat → Nat) (err : Int) (v : Value) (w : World) (h : Rd w base b at_ n Z err v) (ha : at_ % 8 ≠ 0) (hl : at_ ≤ 8 * n) (hn : n ≤ 100000) :
    Calls Try.prog 14 #[.pointer (some ⟨b, 0, none⟩)] w fun r w' => r = .returned (.tuple #[]) ∧ Just b w w' ∧ ∃ x, Num x (8 - at_ % 8) (bt Z) at_ ∧ ((x = 0 ∧ Rd w' base b (at_ + (8 - at_ % 8)) n Z err v) ∨ (x ≠ 0 ∧ Rd w' base b 0 0 Z (fst_ err 3) (.slice none 0 0))) := by
  have k1 : w.cell? ⟨b, 1, none⟩ = some (.int .i64 (at_ : Int)) := h.own.cell 1
  obtain ⟨r8, hr⟩ : ∃ r8, at_ % 8 = r8 := ⟨_, rfl⟩
  have e1 : (at_ : Int) % 8 = (r8 : Int) := by omega
  have e2 : ((r8 : Int) == 0) = false := by simp; omega
  have e3 : (8 : Int) - (r8 : Int) = ((8 - r8 : Nat) : Int) := by omega
  rw [hr] at ha ⊢
  have hl2 : at_ + (8 - r8) ≤ 8 * n := by omega
  have h8 : 8 - r8 ≤ 64 := by omega
  clear hr
  obtain ⟨D, hD⟩ : ∃ D, 8 - r8 = D := ⟨_, rfl⟩
  rw [hD] at e3 hl2 h8 ⊢
  clear hD
  go_enter Try.func14, Try.ntmps14
  go_wp2_with fail
  refine (takeJ base b at_ n Z err v D _ h h8 hl2 hn).mono ?_
  rintro r w1 ⟨x, rfl, hx, h1, b1⟩
  by_cases hx0 : x = 0
  · subst hx0
    go_wp2_with fail
    go_end0
    exact ⟨rfl, b1, 0, hx, .inl ⟨rfl, h1⟩⟩
  · have g : ((x : Int) == 0) = false := by simpa using hx0
    have HX := Lib.hid hx0
    clear hx0
    go_wp2_with fail
    refine (failJ base b _ n Z err 3 v _ h1).mono ?_
    rintro r w2 ⟨rfl, h2, b2⟩
    go_wp2_with fail
    go_end0
    exact ⟨rfl, b1.trans b2, x, hx, .inr ⟨HX.out, h2⟩⟩
theorem evenS_any (base br N : Nat) (Z : Nat → Nat) (s : St) (w : World) (h : R1 w base br N Z s) (hn : N ≤ 100000) :
    Calls Try.prog 14 #[.pointer (some ⟨br, 0, none⟩)] w fun r w' => r = .returned (.tuple #[]) ∧ R1 w' base br N Z (evenS N Z s) ∧ Just br w w' := by
  cases s with
  | ok p =>
    obtain ⟨h0, v, h⟩ := h
    by_cases h8 : p % 8 = 0
    · refine (even_yes base br p N Z 0 v w h h8).mono ?_
      rintro r w' ⟨rfl, rfl⟩
      rw [evenS, show (8 * N - p) % 8 = 0 by omega, if_pos (show num (bt Z) p 0 = 0 from rfl)]
      exact ⟨rfl, ⟨h0, v, h⟩, Just.refl _ _⟩
    · refine (evenJ base br p N Z 0 v w h h8 h0 hn).mono ?_
      rintro r w' ⟨rfl, j, x, hx, hor⟩
      rw [evenS, show (8 * N - p) % 8 = 8 - p % 8 by omega, ← hx.uniq (num_num _ _ _)]
      rcases hor with ⟨rfl, h2⟩ | ⟨hx0, h2⟩
      · rw [if_pos rfl]
        exact ⟨rfl, ⟨by omega, v, h2⟩, j⟩
      · rw [if_neg hx0]
        exact ⟨rfl, ⟨by decide, h2⟩, j⟩
  | bad e =>
    refine (even_yes base br 0 0 Z e _ w h.2 (by decide)).mono ?_
    rintro r w' ⟨rfl, rfl⟩
    exact ⟨rfl, h, Just.refl _ _⟩
theorem leftS_any (base br N : Nat) (Z : Nat → Nat) (s : St) (w : World) (h : R1 w base br N Z s) (hn : N ≤ 100000) :
    Calls Try.prog 18 #[.pointer (some ⟨br, 0, none⟩)] w fun r w' => r = .returned (.int .i64 (leftN N s : Nat)) ∧ ∃ m, w.drewN m = w' := by
  cases s with
  | ok p =>
    obtain ⟨h0, v, h⟩ := h
    exact left_any base br p N Z 0 v w h h0 (by omega)
  | bad e => exact left_any base br 0 0 Z e _ w h.2 (by omega) (by omega)
theorem endS_any (base br N : Nat) (Z : Nat → Nat) (s : St) (w : World) (h : R1 w base br N Z s) (hn : N ≤ 100000) :
    Calls Try.prog 19 #[.pointer (some ⟨br, 0, none⟩)] w fun r w' => r = .returned (.int .i64 (endE N s)) ∧ ∃ m, w.drewN m = w' := by
  cases s with
  | ok p =>
    obtain ⟨h0, v, h⟩ := h
    by_cases hp : p < 8 * N
    · rw [endE, if_pos hp]
      exact end_more base br p N Z v w h hp hn
    · rw [endE, if_neg hp]
      exact end_ok base br p N Z v w h (by omega) hn
  | bad e =>
    refine (end_err base br 0 0 Z e _ w h.2 h.1).mono ?_
    rintro r w' ⟨rfl, rfl⟩
    exact ⟨rfl, 0, rfl⟩
/-! ### The reference's row. -/
theorem rtakeS_any (bm N : Nat) (Z : Nat → Nat) (s : St) (x : Int) (w : World) (h : R2 w bm N Z s) :
    Calls Try.prog 17 #[.pointer (some ⟨bm, 0, none⟩), .int .i64 x] w fun r w' => r = .returned (.int .u64 (takeV N Z x s : Nat)) ∧ R2 w' bm N Z (takeS N x s) ∧ Just bm w w' := by
  cases s with
  | ok p =>
    obtain ⟨h0, a, c, h⟩ := h
    by_cases hx : 0 ≤ x ∧ x ≤ 64
    · obtain ⟨k, rfl⟩ : ∃ k : Nat, x = k := ⟨x.toNat, by omega⟩
      have hk : k ≤ 64 := by omega
      by_cases hl : p + k ≤ 8 * N
      · refine (rtake_any bm _ c p a (bt Z) k w h hk (by omega)).mono ?_
        rintro r w' ⟨rfl, h2, h3⟩
        rw [takeV, takeS, if_pos ⟨by omega, by omega, by omega⟩, if_pos ⟨by omega, by omega⟩, if_pos (by omega), Int.toNat_natCast]
        exact ⟨rfl, ⟨hl, _, _, by rw [show 8 * N - (p + k) = 8 * N - p - k by omega]; exact h2⟩, h3⟩
      · refine (rtake_short bm _ c p a (bt Z) k w h hk (by omega)).mono ?_
        rintro r w' ⟨rfl, h2, h3⟩
        rw [takeV, takeS, if_neg (fun h => by omega), if_pos ⟨by omega, by omega⟩, if_neg (by omega)]
        exact ⟨rfl, ⟨by decide, h2⟩, h3⟩
    · refine (rtake_out bm _ c p a (bt Z) 0 x w h (by omega)).mono ?_
      rintro r w' ⟨rfl, rfl⟩
      rw [takeV, takeS, if_neg (fun h => hx ⟨h.1, h.2.1⟩), if_neg hx]
      exact ⟨rfl, ⟨h0, a, c, h⟩, Just.refl _ _⟩
  | bad e =>
    refine (rtake_out bm _ _ _ _ (bt Z) e x w h.2 (.inr (.inr h.1))).mono ?_
    rintro r w' ⟨rfl, rfl⟩
    exact ⟨rfl, h, Just.refl _ _⟩
theorem rtextS_any (bm N : Nat) (Z : Nat → Nat) (s : St) (x : Int) (w : World) (h : R2 w bm N Z s) (hn : N ≤ 100000) :
    Calls Try.prog 13 #[.pointer (some ⟨bm, 0, none⟩), .int .i64 x] w fun r w' => ∃ a c, r = .returned (.slice a (textM N x s) c) ∧ Rt w' a (textM N x s) (textV Z s) ∧ R2 w' bm N Z (textS N x s) ∧ Just bm w w' := by
  cases s with
  | ok p =>
    obtain ⟨h0, a, c, h⟩ := h
    by_cases hx : 0 < x
    · obtain ⟨k, rfl⟩ : ∃ k : Nat, x = k := ⟨x.toNat, by omega⟩
      by_cases hl : p + 8 * k ≤ 8 * N
      · refine (rtextof_any bm _ c p k a (bt Z) w h (by omega) (by omega) (by omega)).mono ?_
        rintro r w' ⟨a1, c1, a2, c2, rfl, h1, h1t, h2, h3⟩
        rw [textM, textS, if_pos ⟨by omega, by omega⟩, if_pos hx, if_pos (by omega), Int.toNat_natCast]
        exact ⟨_, _, rfl, ⟨h1, fun _ => h1t⟩, ⟨hl, _, _, by rw [show 8 * N - (p + 8 * k) = 8 * N - p - 8 * k by omega]; exact h2⟩, h3⟩
      · refine (rtextof_short bm _ c p a (bt Z) k w h hx (by omega) (by omega)).mono ?_
        rintro r w' ⟨rfl, h2, h3⟩
        rw [textM, textS, if_neg (fun h => by omega), if_pos hx, if_neg (by omega)]
        exact ⟨none, 0, rfl, Rt.nil _ _, ⟨by decide, h2⟩, h3⟩
    · refine (rtextof_out bm _ c p a (bt Z) 0 x w h (.inl (by omega))).mono ?_
      rintro r w' ⟨rfl, rfl⟩
      rw [textM, textS, if_neg (fun h => hx h.1), if_neg hx]
      exact ⟨none, 0, rfl, Rt.nil _ _, ⟨h0, a, c, h⟩, Just.refl _ _⟩
  | bad e =>
    refine (rtextof_out bm _ _ _ _ (bt Z) e x w h.2 (.inr h.1)).mono ?_
    rintro r w' ⟨rfl, rfl⟩
    exact ⟨none, 0, rfl, Rt.nil _ _, h, Just.refl _ _⟩
theorem roverS_any (bm N : Nat) (Z : Nat → Nat) (s : St) (w : World) (h : R2 w bm N Z s) (hn : N ≤ 100000) :
    Calls Try.prog 15 #[.pointer (some ⟨bm, 0, none⟩)] w fun r w' => r = .returned (.tuple #[]) ∧ R2 w' bm N Z (evenS N Z s) ∧ Just bm w w' := by
  cases s with
  | ok p =>
    obtain ⟨h0, a, c, h⟩ := h
    refine (rover_any bm _ c p a (bt Z) 0 w h (.inl rfl) (by omega)).mono ?_
    rintro r w' ⟨rfl, j, hor⟩
    rcases hor with ⟨hz, a2, c2, h2⟩ | ⟨hz, h2⟩
    · rw [evenS, if_pos hz]
      exact ⟨rfl, ⟨by omega, a2, c2, by rw [show 8 * N - (p + (8 * N - p) % 8) = 8 * N - p - (8 * N - p) % 8 by omega]; exact h2⟩, j⟩
    · rw [evenS, if_neg hz]
      exact ⟨rfl, ⟨by decide, h2⟩, j⟩
  | bad e =>
    refine (rover_zero bm 0 0 0 none (bt Z) e w h.2 rfl (by omega)).mono ?_
    rintro r w' ⟨rfl, rfl⟩
    exact ⟨rfl, h, Just.refl _ _⟩
theorem rendsS_any (bm N : Nat) (Z : Nat → Nat) (s : St) (w : World) (h : R2 w bm N Z s) :
    Calls Try.prog 20 #[.pointer (some ⟨bm, 0, none⟩)] w fun r w' => r = .returned (.int .i64 (endE N s)) ∧ w = w' := by
  cases s with
  | ok p =>
    obtain ⟨h0, a, c, h⟩ := h
    refine (rends_any bm _ c p a (bt Z) 0 w h).mono ?_
    rintro r w' ⟨rfl, rfl⟩
    refine ⟨?_, rfl⟩
    by_cases hp : p < 8 * N
    · rw [endE, if_pos hp, if_pos ⟨rfl, by omega⟩]
    · rw [endE, if_neg hp, if_neg (fun h => by omega)]
  | bad e =>
    refine (rends_any bm _ _ _ _ (bt Z) e w h.2).mono ?_
    rintro r w' ⟨rfl, rfl⟩
    refine ⟨?_, rfl⟩
    rw [endE, if_neg (fun h => by omega)]
end Go.Proofs.Ytamooehncjceiaa.Bf
