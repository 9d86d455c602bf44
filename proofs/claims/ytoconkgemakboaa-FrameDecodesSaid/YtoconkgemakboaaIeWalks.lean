/-
  Package ie (chapter 6): which numbers, which lists fit; alike or not.
-/
import Derived.Test.YtoconkgemakboaaIeMath
import Derived.Test.YtoconkgemakboaaRowOut
import Derived.Test.YtoconkgemakboaaExt
set_option maxRecDepth 100000
namespace Go.Proofs.Ytoconkgemakboaa.Ie
set_option linter.unusedVariables false
open Go.RowKit Lb Go.Shelf Bf

theorem oct_any (x : Int) (w : World) : Calls Try.prog 90 #[.int .i64 x] w fun r w' => r = .returned (.bool (octB x)) ∧ w = w' := by
  by_cases h1 : 0 ≤ x
  · by_cases h2 : x ≤ 255
    · have HD : Hid (octB x = true) := Lib.hid (by unfold octB; simp; omega)
      go_enter Try.func90, Try.ntmps90
      go_wp2_with fail
      go_ret
      exact ⟨by rw [HD.out]; rfl, rfl⟩
    · have HD : Hid (octB x = false) := Lib.hid (by unfold octB; simp; omega)
      go_enter Try.func90, Try.ntmps90
      go_wp2_with fail
      go_ret
      exact ⟨by rw [HD.out]; rfl, rfl⟩
  · have HD : Hid (octB x = false) := Lib.hid (by unfold octB; simp; omega)
    go_enter Try.func90, Try.ntmps90
    go_wp2_with fail
    go_ret
    exact ⟨by rw [HD.out]; rfl, rfl⟩
theorem octsB_yes {l : List Int} (h : ∀ j, j < l.length → octB (l.getD j 0) = true) : octsB l = true := by
  unfold octsB
  rw [decide_eq_true_eq]
  intro j hj
  have := h j hj
  unfold octB at this
  rwa [decide_eq_true_eq] at this
theorem octsB_no {l : List Int} {j : Nat} (hj : j < l.length) (h : octB (l.getD j 0) = false) : octsB l = false := by
  unfold octsB
  rw [decide_eq_false_iff_not]
  intro e
  unfold octB at h
  rw [decide_eq_false_iff_not] at h
  exact h (e j hj)
theorem lfits_any (a : Option Addr) (c : Nat) (l : List Int) (w : World) (hlc : l.length ≤ c) (hc : c ≤ maxLen) (hR : Row w a l.length (zval l)) :
    Calls Try.prog 93 #[.slice a l.length c] w fun r w' => r = .returned (.bool (listB l)) ∧ w = w' := by
  unfold maxLen at hc
  obtain ⟨n, hn⟩ : ∃ n, l.length = n := ⟨_, rfl⟩
  have HN := Lib.hid hn
  rw [hn] at hR hlc ⊢
  clear hn
  go_enter Try.func93, Try.ntmps93
  go_wp2_with fail
  go_loopw [7] (fun i wr => ∃ k : Nat, i = .int .i64 k ∧ k ≤ n ∧ Hid (∀ j, j < k → octB (l.getD j 0) = true) ∧ w = wr) (fun i _ => n - (intOf i).toNat)
  case atStart => exact ⟨0, rfl, by omega, Lib.hid (fun j hj => by omega), rfl⟩
  case round =>
    obtain ⟨k, rfl, hk, HE, rfl⟩ := hrel
    by_cases hlt : k < n
    · obtain ⟨p, o, rfl, _, x1⟩ := hR.at_ hlt
      unfold zval at x1
      obtain ⟨x, hx⟩ : ∃ x, l.getD k 0 = x := ⟨_, rfl⟩
      rw [hx] at x1
      have HX := Lib.hid hx
      clear hx
      cases ho : octB x
      · have HD : Hid (listB l = false) := Lib.hid (by
          unfold listB
          rw [octsB_no (j := k) (by rw [HN.out]; exact hlt) (by rw [HX.out]; exact ho)]
          rfl)
        have HO := Lib.hid ho
        clear ho
        go_wp2_with (refine (oct_any _ _).mono ?_; rintro r w' ⟨rfl, rfl⟩; rw [HO.out])
        go_ret
        exact ⟨by rw [HD.out]; rfl, rfl⟩
      · have HE2 : Hid (∀ j, j < k + 1 → octB (l.getD j 0) = true) := Lib.hid (fun j hj => by
          by_cases e : j = k
          · subst e; rw [HX.out]; exact ho
          · exact HE.out j (by omega))
        have HO := Lib.hid ho
        clear ho
        go_wp2_with (refine (oct_any _ _).mono ?_; rintro r w' ⟨rfl, rfl⟩; rw [HO.out])
        exact ⟨⟨k + 1, by simp, by omega, HE2, by first | trivial | rfl⟩, by simp [intOf]; omega⟩
    · obtain rfl : n = k := by omega
      have HO : Hid (octsB l = true) := Lib.hid (octsB_yes (by rw [HN.out]; exact HE.out))
      by_cases h16 : n ≤ 16
      · have HD : Hid (listB l = true) := Lib.hid (by unfold listB; rw [HO.out, HN.out]; simpa using h16)
        have g1 : decide (n ≤ 16) = true := by simpa using h16
        have g2 : decide ((n : Int) ≤ 16) = true := by simp; omega
        go_wp2_with fail
        go_ret
        exact ⟨by rw [HD.out]; rfl, rfl⟩
      · have HD : Hid (listB l = false) := Lib.hid (by unfold listB; rw [HO.out, HN.out]; simpa using h16)
        have g1 : decide (n ≤ 16) = false := by simpa using h16
        have g2 : decide ((n : Int) ≤ 16) = false := by simp; omega
        go_wp2_with fail
        go_ret
        exact ⟨by rw [HD.out]; rfl, rfl⟩
def s1B (x y : Int) : Bool := decide (0 ≤ x ∧ x < 1099511627776) && octB y
def s2B (x : Int) : Bool := decide (-32768 ≤ x ∧ x ≤ 32767)
theorem fits1 (x y : Int) (w : World) : Calls Try.prog 89 #[.agg #[.int .i64 x, .int .i64 y]] w fun r w' => r = .returned (.bool (s1B x y)) ∧ Below w.heap.size w w' := by
  have b0 := (Below.refl w.heap.size w).alloc (Nat.le_refl _) (.cells #[.int .i64 x, .int .i64 y] 96)
  by_cases h1 : 0 ≤ x
  · by_cases h2 : x < 1099511627776
    · obtain ⟨e, he⟩ : ∃ e, octB y = e := ⟨_, rfl⟩
      have HD : Hid (s1B x y = e) := Lib.hid (by unfold s1B; rw [decide_eq_true (And.intro h1 h2), he]; rfl)
      have HO := Lib.hid he
      clear he
      go_enter Try.func89, Try.ntmps89
      go_wp2_with (refine (oct_any _ _).mono ?_; rintro r w' ⟨rfl, rfl⟩; rw [HO.out])
      go_ret
      exact ⟨by rw [HD.out]; rfl, b0⟩
    · have HD : Hid (s1B x y = false) := Lib.hid (by unfold s1B; rw [decide_eq_false (fun h => h2 h.2)]; rfl)
      go_enter Try.func89, Try.ntmps89
      go_wp2_with fail
      go_ret
      exact ⟨by rw [HD.out]; rfl, b0⟩
  · have HD : Hid (s1B x y = false) := Lib.hid (by unfold s1B; rw [decide_eq_false (fun h => h1 h.1)]; rfl)
    go_enter Try.func89, Try.ntmps89
    go_wp2_with fail
    go_ret
    exact ⟨by rw [HD.out]; rfl, b0⟩
theorem fits2 (x : Int) (w : World) : Calls Try.prog 91 #[.agg #[.int .i64 x]] w fun r w' => r = .returned (.bool (s2B x)) ∧ Below w.heap.size w w' := by
  have b0 := (Below.refl w.heap.size w).alloc (Nat.le_refl _) (.cells #[.int .i64 x] 98)
  by_cases h1 : -32768 ≤ x
  · by_cases h2 : x ≤ 32767
    · have HD : Hid (s2B x = true) := Lib.hid (decide_eq_true (And.intro h1 h2))
      go_enter Try.func91, Try.ntmps91
      go_wp2_with fail
      go_ret
      exact ⟨by rw [HD.out]; rfl, b0⟩
    · have HD : Hid (s2B x = false) := Lib.hid (decide_eq_false (fun h => h2 h.2))
      go_enter Try.func91, Try.ntmps91
      go_wp2_with fail
      go_ret
      exact ⟨by rw [HD.out]; rfl, b0⟩
  · have HD : Hid (s2B x = false) := Lib.hid (decide_eq_false (fun h => h1 h.1))
    go_enter Try.func91, Try.ntmps91
    go_wp2_with fail
    go_ret
    exact ⟨by rw [HD.out]; rfl, b0⟩
theorem fits3 (a : Option Addr) (c : Nat) (l : List Int) (w : World) (hlc : l.length ≤ c) (hc : c ≤ maxLen) (hR : Row w a l.length (zval l)) :
    Calls Try.prog 92 #[.agg #[.slice a l.length c]] w fun r w' => r = .returned (.bool (listB l)) ∧ Below w.heap.size w w' := by
  have b0 := (Below.refl w.heap.size w).alloc (Nat.le_refl _) (.cells #[.slice a l.length c] 100)
  have hf := lfits_any a c l _ hlc hc (hR.below b0)
  have HF := Lib.hid hf
  clear hf
  go_enter Try.func92, Try.ntmps92
  go_wp2_with (refine HF.out.mono ?_; rintro r w' ⟨rfl, rfl⟩)
  go_ret
  exact ⟨rfl, b0⟩
theorem fits4 (a : Option Addr) (c : Nat) (l : List Int) (w : World) (hlc : l.length ≤ c) (hc : c ≤ maxLen) (hR : Row w a l.length (zval l)) :
    Calls Try.prog 94 #[.agg #[.slice a l.length c]] w fun r w' => r = .returned (.bool (listB l)) ∧ Below w.heap.size w w' := by
  have b0 := (Below.refl w.heap.size w).alloc (Nat.le_refl _) (.cells #[.slice a l.length c] 101)
  have hf := lfits_any a c l _ hlc hc (hR.below b0)
  have HF := Lib.hid hf
  clear hf
  go_enter Try.func94, Try.ntmps94
  go_wp2_with (refine HF.out.mono ?_; rintro r w' ⟨rfl, rfl⟩)
  go_ret
  exact ⟨rfl, b0⟩
end Go.Proofs.Ytoconkgemakboaa.Ie
