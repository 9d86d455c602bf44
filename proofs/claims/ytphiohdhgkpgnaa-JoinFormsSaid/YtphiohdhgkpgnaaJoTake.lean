/-
  Package join (chapter 18): numbers of four bytes taken; what was too short; May of cells.
-/
import Derived.Test.YtphiohdhgkpgnaaJoWalks
set_option maxRecDepth 100000
namespace Go.Proofs.Ytphiohdhgkpgnaa.Jo
set_option linter.unusedVariables false
open Go.RowKit Lb Go.Shelf Bf Se Cl

theorem num_bytes4 {Z : Nat → Nat} {x j : Nat} (h : Num x 32 (bt Z) (8 * j)) (hz : ∀ t, t < 4 → Z (j + t) < 256) : ∀ t, t < 4 → (x >>> (8 * (4 - 1 - t))) % 256 = Z (j + t) := fun t ht => by
  refine Nat.eq_of_testBit_eq fun i => ?_
  rw [show (256 : Nat) = 2 ^ 8 from rfl, Nat.testBit_mod_two_pow, Nat.testBit_shiftRight]
  by_cases hi : i < 8
  · rw [h.bit _ (by omega)]
    unfold bt
    rw [show (8 * j + (32 - 1 - (8 * (4 - 1 - t) + i))) / 8 = j + t by omega, show 7 - (8 * j + (32 - 1 - (8 * (4 - 1 - t) + i))) % 8 = i by omega]
    simp [hi]
  · have : (Z (j + t)).testBit i = false := Nat.testBit_lt_two_pow (Nat.lt_of_lt_of_le (hz t ht) (show 2 ^ 8 ≤ 2 ^ i from Nat.pow_le_pow_right (by decide) (by omega)))
    simp [hi, this]
/-- What a number of four bytes is, or 0. -/
def m4 (l : List Int) : Int := if l.length < 4 then 0 else n4 l 0
theorem m4_in {l : List Int} (h : okB l) : In32 (m4 l) := by
  unfold m4
  split
  · unfold In32; omega
  · exact n4_in h 0
theorem take4_any (base b : Nat) (l : List Int) (err : Int) (w : World) (h : Rb w base b l err) :
    Calls Try.prog 53 #[.pointer (some ⟨b, 0, none⟩), .int .i64 32] w fun r w' => r = .returned (.int .u64 (m4 l)) ∧ Rb w' base b (lft l 4) (er l 4 err) ∧ Just b w w' := by
  obtain ⟨j, n, Z, v, h1, h2, h3, h4⟩ := h
  unfold lft er m4
  by_cases hl : l.length < 4
  · rw [if_pos hl, if_pos hl, if_pos hl]
    refine (shortJ base b (8 * j) n Z err v 32 w h1 (by omega) (by omega) (by omega) h3).mono ?_
    rintro r w' ⟨rfl, h5, b5⟩
    exact ⟨rfl, rb_nil h5, b5⟩
  · rw [if_neg hl, if_neg hl, if_neg hl]
    refine (takeJ base b (8 * j) n Z err v 32 w h1 (by omega) (by omega) h3).mono ?_
    rintro r w' ⟨x, rfl, hx, h5, b5⟩
    have hb := num_bytes4 hx (fun t ht => h1.lt (j + t) (by omega))
    refine ⟨?_, Rb.skip (k := 4) (by rw [show 8 * j + 8 * 4 = 8 * j + 32 by omega]; exact h5) h2 h3 h4 (by omega), b5⟩
    have b0 := hb 0 (by decide)
    have b1 := hb 1 (by decide)
    have b2 := hb 2 (by decide)
    have b3 := hb 3 (by decide)
    have e0 := h4 0 (by omega)
    have e1 := h4 1 (by omega)
    have e2 := h4 2 (by omega)
    have e3 := h4 3 (by omega)
    have hx2 := hx.lt
    simp only [Nat.shiftRight_eq_div_pow] at b0 b1 b2 b3
    unfold n4
    rw [Nat.zero_add, Nat.zero_add, Nat.zero_add, ← e0, ← e1, ← e2, ← e3, ← b0, ← b1, ← b2, ← b3]
    congr 1
    congr 1
    omega
theorem t32_any (base b : Nat) (l : List Int) (err : Int) (w : World) (h : Rb w base b l err) (hB : okB l) :
    Calls Try.prog 67 #[.pointer (some ⟨b, 0, none⟩)] w fun r w' => r = .returned (.int .u32 (m4 l)) ∧ Rb w' base b (lft l 4) (er l 4 err) ∧ Just b w w' := by
  have hm := m4_in hB
  unfold In32 at hm
  have P := take4_any base b l err w h
  obtain ⟨m, hm2⟩ : ∃ m, m4 l = m := ⟨_, rfl⟩
  rw [hm2] at hm P ⊢
  have e1 : IntKind.u32.wrap m = m := by rw [IntKind.wrap_u32]; omega
  clear hm2
  go_enter Try.func67, Try.ntmps67
  go_wp2_with fail
  refine P.mono ?_
  rintro r w' ⟨rfl, h1, h2⟩
  go_wp2_with fail
  go_ret
  exact ⟨rfl, h1, h2⟩
theorem t8_any (base b : Nat) (l : List Int) (err : Int) (w : World) (h : Rb w base b l err) (hB : okB l) :
    Calls Try.prog 68 #[.pointer (some ⟨b, 0, none⟩)] w fun r w' => r = .returned (.int .i64 (l.getD 0 0)) ∧ Rb w' base b (lft l 1) (er l 1 err) ∧ Just b w w' := by
  have hm := okB_at hB 0
  have P := take8_any base b l err w h
  obtain ⟨m, hm2⟩ : ∃ m, l.getD 0 0 = m := ⟨_, rfl⟩
  rw [hm2] at hm P ⊢
  clear hm2
  go_enter Try.func68, Try.ntmps68
  go_wp2_with fail
  refine P.mono ?_
  rintro r w' ⟨rfl, h1, h2⟩
  go_wp2_with fail
  go_ret
  exact ⟨rfl, h1, h2⟩
def shortB (l : List Int) (err : Int) : Bool := endE l err == 2
theorem short_any (base b : Nat) (l : List Int) (err : Int) (w : World) (h : Rb w base b l err) :
    Calls Try.prog 54 #[.pointer (some ⟨b, 0, none⟩)] w fun r w' => r = .returned (.bool (shortB l err)) ∧ ∃ m, w.drewN m = w' := by
  have P := endb_any base b l err w h
  have HD : Hid ((endE l err == 2) = shortB l err) := Lib.hid rfl
  obtain ⟨e, he⟩ : ∃ e, endE l err = e := ⟨_, rfl⟩
  rw [he] at P HD
  clear he
  go_enter Try.func54, Try.ntmps54
  go_wp2_with fail
  refine P.mono ?_
  rintro r w' ⟨rfl, m, rfl⟩
  go_wp2_with fail
  go_ret
  exact ⟨by rw [← HD.out]; rfl, m, rfl⟩
theorem isnode_any (x : Int) (w : World) : Calls Try.prog 28 #[.int .i64 x] w fun r w' => r = .returned (.bool (nodeB x)) ∧ w = w' := by
  by_cases h0 : 0 ≤ x
  · by_cases h1 : x < 16
    · have HD : Hid (nodeB x = true) := Lib.hid (nodeB_iff.2 ⟨h0, h1⟩)
      go_enter Try.func28, Try.ntmps28
      go_wp2_with fail
      go_ret
      exact ⟨by rw [HD.out]; rfl, rfl⟩
    · have HD : Hid (nodeB x = false) := Lib.hid (by unfold nodeB; simp; omega)
      have g1 : decide (x < 16) = false := by simp; omega
      clear h1
      go_enter Try.func28, Try.ntmps28
      go_wp2_with fail
      go_ret
      exact ⟨by rw [HD.out]; rfl, rfl⟩
  · have HD : Hid (nodeB x = false) := Lib.hid (by unfold nodeB; simp; omega)
    have g1 : decide (0 ≤ x) = false := by simp; omega
    clear h0
    go_enter Try.func28, Try.ntmps28
    go_wp2_with fail
    go_ret
    exact ⟨by rw [HD.out]; rfl, rfl⟩
theorem isother_any (x y : Int) (w : World) : Calls Try.prog 29 #[.int .i64 x, .int .i64 y] w fun r w' => r = .returned (.bool (otherB x y)) ∧ w = w' := by
  have HD : Hid (otherB x y = (nodeB x && x != y)) := Lib.hid rfl
  have P := isnode_any x w
  cases hx : nodeB x
  · rw [hx] at P HD
    clear hx
    go_enter Try.func29, Try.ntmps29
    go_wp2_with fail
    refine P.mono ?_
    rintro r w' ⟨rfl, rfl⟩
    go_wp2_with fail
    go_ret
    exact ⟨by rw [HD.out]; rfl, rfl⟩
  · rw [hx, Bool.true_and] at HD
    rw [hx] at P
    clear hx
    go_enter Try.func29, Try.ntmps29
    go_wp2_with fail
    refine P.mono ?_
    rintro r w' ⟨rfl, rfl⟩
    go_wp2_with fail
    go_ret
    exact ⟨by rw [HD.out]; rfl, rfl⟩
end Go.Proofs.Ytphiohdhgkpgnaa.Jo
