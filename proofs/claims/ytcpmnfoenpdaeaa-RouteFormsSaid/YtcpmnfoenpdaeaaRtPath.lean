/-
  Package route: which paths may be; where a node stands in one.
-/
import Derived.Test.YtcpmnfoenpdaeaaRtMath
import Derived.Lib.Hide
import Derived.IntWalk
import Derived.BigQuiet
import Derived.Deep.Quiet
import Derived.Deep.QuietTactic
set_option maxRecDepth 100000
namespace Go.Proofs.Ytcpmnfoenpdaeaa.Rt
set_option linter.unusedVariables false
open Go.RowKit Lb

theorem isNode_any (x : Int) (w : World) : Calls Try.prog 33 #[.int .i64 x] w fun r w' => r = .returned (.bool (ndB x)) ∧ w = w' := by
  by_cases h0 : 0 ≤ x
  · by_cases h1 : x < 16
    · have HD : Hid (ndB x = true) := Lib.hid (by simp [ndB, h0, h1])
      go_enter Try.func33, Try.ntmps33
      go_wp2_with fail
      go_ret
      exact ⟨by rw [HD.out]; rfl, rfl⟩
    · have HD : Hid (ndB x = false) := Lib.hid (by simp [ndB]; omega)
      have h2 : decide (x < 16) = false := by simp; omega
      clear h1
      go_enter Try.func33, Try.ntmps33
      go_wp2_with fail
      go_ret
      exact ⟨by rw [HD.out]; rfl, rfl⟩
  · have HD : Hid (ndB x = false) := Lib.hid (by simp [ndB]; omega)
    have h2 : x < 0 := by omega
    clear h0
    go_enter Try.func33, Try.ntmps33
    go_wp2_with fail
    go_ret
    exact ⟨by rw [HD.out]; rfl, rfl⟩
theorem node_any (x : Int) (w : World) : Calls Try.prog 36 #[.int .i64 x] w fun r w' => r = .returned (.bool (ndB x)) ∧ w = w' := by
  by_cases h0 : 0 ≤ x
  · by_cases h1 : x < 16
    · have HD : Hid (ndB x = true) := Lib.hid (by simp [ndB, h0, h1])
      go_enter Try.func36, Try.ntmps36
      go_wp2_with fail
      go_ret
      exact ⟨by rw [HD.out]; rfl, rfl⟩
    · have HD : Hid (ndB x = false) := Lib.hid (by simp [ndB]; omega)
      have h2 : decide (x < 16) = false := by simp; omega
      clear h1
      go_enter Try.func36, Try.ntmps36
      go_wp2_with fail
      go_ret
      exact ⟨by rw [HD.out]; rfl, rfl⟩
  · have HD : Hid (ndB x = false) := Lib.hid (by simp [ndB]; omega)
    have h2 : x < 0 := by omega
    clear h0
    go_enter Try.func36, Try.ntmps36
    go_wp2_with fail
    go_ret
    exact ⟨by rw [HD.out]; rfl, rfl⟩
theorem pathMay_any (a : Option Addr) (c : Nat) (l : List Int) (w : World) (hc : l.length ≤ maxLen) (hR : Row w a l.length (zval l)) :
    Calls Try.prog 38 #[.slice a l.length c] w fun r w' => r = .returned (.bool (okP l)) ∧ w = w' := by
  unfold maxLen at hc
  obtain ⟨n, hn⟩ : ∃ n, l.length = n := ⟨_, rfl⟩
  have HN := Lib.hid hn
  rw [hn] at hR hc ⊢
  clear hn
  by_cases h16 : 16 < n
  · have HD : Hid (okP l = false) := Lib.hid (okP_no (by rw [HN.out]; omega))
    have g1 : decide (16 < n) = true := by simpa using h16
    have g2 : decide ((16 : Int) < (n : Int)) = true := by simp; omega
    go_enter Try.func38, Try.ntmps38
    go_wp2_with fail
    go_ret
    exact ⟨by rw [HD.out]; rfl, rfl⟩
  have g1 : decide (16 < n) = false := by simpa using h16
  have g2 : decide ((16 : Int) < (n : Int)) = false := by simp; omega
  go_enter Try.func38, Try.ntmps38
  go_wp2_with fail
  clear g1 g2
  go_loopw [11, 3] (fun i s wr => ∃ (k S : Nat), i = .int .i64 k ∧ s = .int .u64 (S : Nat) ∧ k ≤ n ∧ Hid (Pfx l k) ∧ Hid (Seen l k S) ∧ w = wr) (fun i _ _ => n - (intOf i).toNat)
  case atStart => exact ⟨0, 0, rfl, rfl, by omega, Lib.hid (pfx_zero l), Lib.hid (seen_zero l), rfl⟩
  case round =>
    obtain ⟨k, S, rfl, rfl, hk, HP, HS, rfl⟩ := hrel
    by_cases hlt : k < n
    · obtain ⟨b, off, rfl, hb, c0⟩ := hR.at_ hlt
      unfold zval at c0
      obtain ⟨x, hx⟩ : ∃ x, l.getD k 0 = x := ⟨_, rfl⟩
      have HX := Lib.hid hx
      rw [hx] at c0
      clear hx
      have hS : S < 65536 := HS.out.1
      cases hnd : ndB x
      · have HD : Hid (okP l = false) := Lib.hid (okP_no (fun h => by
          have := (h.2 k (by rw [HN.out]; exact hlt)).1
          rw [HX.out, hnd] at this
          cases this))
        have HB := Lib.hid hnd
        clear hnd
        go_wp2_with ((with_reducible refine (isNode_any _ _).mono ?_); rintro r w' ⟨rfl, rfl⟩; rw [HB.out])
        go_ret
        exact ⟨by rw [HD.out]; rfl, rfl⟩
      · have hx16 := ndB_yes hnd
        have HB := Lib.hid hnd
        clear hnd
        obtain ⟨d, rfl⟩ : ∃ d : Nat, x = (d : Int) := ⟨x.toNat, by omega⟩
        have hd : d < 16 := by omega
        have q1 : S >>> d < 18446744073709551616 := Nat.lt_of_le_of_lt (by rw [Nat.shiftRight_eq_div_pow]; exact Nat.div_le_self _ _) (by omega)
        cases hbit : S.testBit d
        · have e4 : bits .and .u64 ((S : Int) / 2 ^ d) 1 = 0 := by
            have := u64_and_nat _ 1 q1 (by decide)
            rw [shr_and_one, hbit, Nat.shiftRight_eq_div_pow] at this
            simpa using this
          have q3 : (1 : Nat) <<< d < 18446744073709551616 := by
            rw [Nat.one_shiftLeft]
            exact Nat.lt_of_lt_of_le (Nat.pow_lt_pow_right (by decide) (show d < 64 by omega)) (by decide)
          have e6 : bits .or .u64 (S : Int) (IntKind.u64.wrap (2 ^ d)) = ((S ||| 1 <<< d : Nat) : Int) := by
            rw [← u64_or_nat _ _ (by omega) q3]
            congr 1
            have := wrap_nat .u64 rfl (2 ^ d)
            rw [Nat.one_shiftLeft] at q3 ⊢
            rw [show 2 ^ IntKind.u64.bits = 18446744073709551616 from rfl, Nat.mod_eq_of_lt q3] at this
            rw [← this]
            simp
          have HS2 := Lib.hid (seen_succ HS.out HX.out hd)
          have HP2 := Lib.hid (pfx_succ HP.out (by rw [HX.out]; exact HB.out) (by rw [HX.out]; exact seen_no HS.out hbit))
          generalize (S ||| 1 <<< d) = S2 at *
          clear hbit q1 q3
          go_wp2_with ((with_reducible refine (isNode_any _ _).mono ?_); rintro r w' ⟨rfl, rfl⟩; rw [HB.out])
          exact ⟨⟨k + 1, S2, by simp, rfl, by omega, HP2, HS2, trivial⟩, by simp [intOf]; omega⟩
        · have e4 : bits .and .u64 ((S : Int) / 2 ^ d) 1 = 1 := by
            have := u64_and_nat _ 1 q1 (by decide)
            rw [shr_and_one, hbit, Nat.shiftRight_eq_div_pow] at this
            simpa using this
          have HD : Hid (okP l = false) := Lib.hid (okP_no (fun h => by
            obtain ⟨j, hj, e⟩ := (HS.out.2 d).1 hbit
            exact (h.2 k (by rw [HN.out]; exact hlt)).2 j hj (by rw [e, HX.out])))
          clear hbit q1
          go_wp2_with ((with_reducible refine (isNode_any _ _).mono ?_); rintro r w' ⟨rfl, rfl⟩; rw [HB.out])
          go_ret
          exact ⟨by rw [HD.out]; rfl, rfl⟩
    · obtain rfl : n = k := by omega
      have HD : Hid (okP l = true) := Lib.hid (okP_yes (by rw [HN.out]; omega) (by rw [HN.out]; exact HP.out))
      go_wp2_with fail
      go_ret
      exact ⟨by rw [HD.out]; rfl, rfl⟩
theorem index_any (a : Option Addr) (c : Nat) (l : List Int) (x : Int) (w : World) (hc : l.length ≤ maxLen) (hR : Row w a l.length (zval l)) :
    Calls Try.prog 37 #[.slice a l.length c, .int .i64 x] w fun r w' => r = .returned (.int .i64 (atI l x)) ∧ w = w' := by
  unfold maxLen at hc
  obtain ⟨n, hn⟩ : ∃ n, l.length = n := ⟨_, rfl⟩
  have HN := Lib.hid hn
  rw [hn] at hR hc ⊢
  clear hn
  go_enter Try.func37, Try.ntmps37
  go_wp2_with fail
  go_loopw [8] (fun i wr => ∃ k : Nat, i = .int .i64 k ∧ k ≤ n ∧ Hid (∀ j, j < k → l.getD j 0 ≠ x) ∧ w = wr) (fun i _ => n - (intOf i).toNat)
  case atStart => exact ⟨0, rfl, by omega, Lib.hid (fun j hj => by omega), rfl⟩
  case round =>
    obtain ⟨k, rfl, hk, HP, rfl⟩ := hrel
    by_cases hlt : k < n
    · obtain ⟨b, off, rfl, hb, c0⟩ := hR.at_ hlt
      unfold zval at c0
      obtain ⟨y, hy⟩ : ∃ y, l.getD k 0 = y := ⟨_, rfl⟩
      have HY := Lib.hid hy
      rw [hy] at c0
      clear hy
      by_cases hxy : x = y
      · have HD : Hid (atI l x = (k : Int)) := Lib.hid (atI_is (by rw [HN.out]; exact hlt) (by rw [HY.out, hxy]) HP.out)
        have g1 : (x == y) = true := by simpa using hxy
        clear hxy
        go_wp2_with fail
        go_ret
        exact ⟨by rw [HD.out]; rfl, rfl⟩
      · have HP2 : Hid (∀ j, j < k + 1 → l.getD j 0 ≠ x) := Lib.hid (fun j hj => by
          by_cases e : j = k
          · subst e; rw [HY.out]; exact fun h => hxy h.symm
          · exact HP.out j (by omega))
        have g1 : (x == y) = false := by simpa using hxy
        clear hxy
        go_wp2_with fail
        exact ⟨⟨k + 1, by simp, by omega, HP2, trivial⟩, by simp [intOf]; omega⟩
    · obtain rfl : n = k := by omega
      have HD : Hid (atI l x = -1) := Lib.hid (atI_no (by rw [HN.out]; exact HP.out))
      go_wp2_with fail
      go_ret
      exact ⟨by rw [HD.out]; rfl, rfl⟩
theorem contains_any (a : Option Addr) (c : Nat) (l : List Int) (x : Int) (w : World) (hc : l.length ≤ maxLen) (hR : Row w a l.length (zval l)) :
    Calls Try.prog 35 #[.slice a l.length c, .int .i64 x] w fun r w' => r = .returned (.bool (decide (0 ≤ atI l x))) ∧ w = w' := by
  go_enter Try.func35, Try.ntmps35
  go_wp2_with ((with_reducible refine (index_any _ _ l x _ hc hR).mono ?_); rintro r w' ⟨rfl, rfl⟩)
  go_ret
  exact ⟨rfl, rfl⟩
theorem rat_any (a : Option Addr) (c : Nat) (l : List Int) (x : Int) (w : World) (hc : l.length ≤ maxLen) (hR : Row w a l.length (zval l)) :
    Calls Try.prog 27 #[.slice a l.length c, .int .i64 x] w fun r w' => r = .returned (.int .i64 (atI l x)) ∧ w = w' := by
  unfold maxLen at hc
  obtain ⟨n, hn⟩ : ∃ n, l.length = n := ⟨_, rfl⟩
  have HN := Lib.hid hn
  rw [hn] at hR hc ⊢
  clear hn
  go_enter Try.func27, Try.ntmps27
  go_wp2_with fail
  go_loopw [9] (fun i wr => ∃ k : Nat, i = .int .i64 k ∧ k ≤ n ∧ Hid (∀ j, j < k → l.getD j 0 ≠ x) ∧ w = wr) (fun i _ => n - (intOf i).toNat)
  case atStart => exact ⟨0, rfl, by omega, Lib.hid (fun j hj => by omega), rfl⟩
  case round =>
    obtain ⟨k, rfl, hk, HP, rfl⟩ := hrel
    by_cases hlt : k < n
    · obtain ⟨b, off, rfl, hb, c0⟩ := hR.at_ hlt
      unfold zval at c0
      obtain ⟨y, hy⟩ : ∃ y, l.getD k 0 = y := ⟨_, rfl⟩
      have HY := Lib.hid hy
      rw [hy] at c0
      clear hy
      by_cases hxy : y = x
      · have HD : Hid (atI l x = (k : Int)) := Lib.hid (atI_is (by rw [HN.out]; exact hlt) (by rw [HY.out, hxy]) HP.out)
        have g1 : (y == x) = true := by simpa using hxy
        clear hxy
        go_wp2_with fail
        go_ret
        exact ⟨by rw [HD.out]; rfl, rfl⟩
      · have HP2 : Hid (∀ j, j < k + 1 → l.getD j 0 ≠ x) := Lib.hid (fun j hj => by
          by_cases e : j = k
          · subst e; rw [HY.out]; exact hxy
          · exact HP.out j (by omega))
        have g1 : (y == x) = false := by simpa using hxy
        clear hxy
        go_wp2_with fail
        exact ⟨⟨k + 1, by simp, by omega, HP2, trivial⟩, by simp [intOf]; omega⟩
    · obtain rfl : n = k := by omega
      have HD : Hid (atI l x = -1) := Lib.hid (atI_no (by rw [HN.out]; exact HP.out))
      go_wp2_with fail
      go_ret
      exact ⟨by rw [HD.out]; rfl, rfl⟩
theorem atI_pre {l : List Int} {k : Nat} {x : Int} (hk : k ≤ l.length) : (atI (l.take k) x < 0) ↔ ∀ i, i < k → l.getD i 0 ≠ x := by
  have hlen : (l.take k).length = k := by simp; omega
  have hg : ∀ i, i < k → (l.take k).getD i 0 = l.getD i 0 := fun i hi => by
    rw [List.getD_eq_getElem?_getD, List.getD_eq_getElem?_getD, List.getElem?_take, if_pos hi]
  constructor
  · intro h i hi e
    by_cases h0 : 0 ≤ atI (l.take k) x
    · omega
    · rcases atI_bd (l.take k) x with ⟨h1, h2⟩
      have : atI (l.take k) x = -1 := by omega
      unfold atI at this
      split at this
      · omega
      · rename_i hh
        refine hh (List.idxOf_lt_length_iff.2 ?_)
        rw [← e, ← hg i hi, List.getD_eq_getElem?_getD, List.getElem?_eq_getElem (by omega)]
        exact List.getElem_mem _
  · intro h
    rw [atI_no (fun j hj => by rw [hlen] at hj; rw [hg j hj]; exact h j hj)]
    decide
theorem row_take {w : World} {a : Option Addr} {l : List Int} {k : Nat} (h : Row w a l.length (zval l)) (hk : k ≤ l.length) : Row w a (l.take k).length (zval (l.take k)) := by
  have hlen : (l.take k).length = k := by simp; omega
  rw [hlen]
  intro h0
  obtain ⟨b, off, h1, h2, h3⟩ := h (by omega)
  refine ⟨b, off, h1, h2, fun i hi => ?_⟩
  rw [h3 i (by omega)]
  unfold zval
  rw [List.getD_eq_getElem?_getD, List.getD_eq_getElem?_getD, List.getElem?_take, if_pos hi]
theorem rpath_any (a : Option Addr) (c : Nat) (l : List Int) (w : World) (hlc : l.length ≤ c) (hc : c ≤ maxLen) (hR : Row w a l.length (zval l)) :
    Calls Try.prog 26 #[.slice a l.length c] w fun r w' => r = .returned (.bool (okP l)) ∧ w = w' := by
  have hcm : l.length ≤ maxLen := Nat.le_trans hlc hc
  have hat := fun (k : Nat) (hk : k ≤ l.length) (x : Int) => rat_any a c (l.take k) x w (Nat.le_trans (List.length_take_le _ _) (by unfold maxLen at *; omega)) (row_take hR hk)
  have hlen : ∀ k, k ≤ l.length → (l.take k).length = k := fun k hk => by simp; omega
  unfold maxLen at hc
  obtain ⟨n, hn⟩ : ∃ n, l.length = n := ⟨_, rfl⟩
  have HN := Lib.hid hn
  have HAT := Lib.hid hat
  have HLEN := Lib.hid hlen
  rw [hn] at hR hlc hcm ⊢
  clear hn hat hlen
  go_enter Try.func26, Try.ntmps26
  go_wp2_with fail
  go_loopw [7] (fun i wr => ∃ k : Nat, i = .int .i64 k ∧ k ≤ n ∧ Hid (Pfx l k) ∧ w = wr) (fun i _ => n - (intOf i).toNat)
  case atStart => exact ⟨0, rfl, by omega, Lib.hid (pfx_zero l), rfl⟩
  case round =>
    obtain ⟨k, rfl, hk, HP, rfl⟩ := hrel
    by_cases hlt : k < n
    · obtain ⟨b, off, rfl, hb, c0⟩ := hR.at_ hlt
      unfold zval at c0
      obtain ⟨x, hx⟩ : ∃ x, l.getD k 0 = x := ⟨_, rfl⟩
      have HX := Lib.hid hx
      rw [hx] at c0
      clear hx
      cases hnd : ndB x
      · have HD : Hid (okP l = false) := Lib.hid (okP_no (fun h => by
          have := (h.2 k (by rw [HN.out]; exact hlt)).1
          rw [HX.out, hnd] at this
          cases this))
        have HB := Lib.hid hnd
        clear hnd
        go_wp2_with ((with_reducible refine (node_any _ _).mono ?_); rintro r w' ⟨rfl, rfl⟩; rw [HB.out])
        go_ret
        exact ⟨by rw [HD.out]; rfl, rfl⟩
      · have HB := Lib.hid hnd
        have hat := HAT.out k (by rw [HN.out]; omega) x
        rw [HLEN.out k (by rw [HN.out]; omega)] at hat
        have hpre := atI_pre (l := l) (k := k) (x := x) (by rw [HN.out]; omega)
        obtain ⟨z, hz⟩ : ∃ z, atI (l.take k) x = z := ⟨_, rfl⟩
        rw [hz] at hat hpre
        have HA := Lib.hid hat
        clear hnd hat hz
        by_cases hz : z < 0
        · have g1 : decide (0 ≤ z) = false := by simp; omega
          have HP2 : Hid (Pfx l (k + 1)) := Lib.hid (pfx_succ HP.out (by rw [HX.out]; exact HB.out) (by rw [HX.out]; exact hpre.1 hz))
          clear hz hpre
          go_wp2_with (first | ((with_reducible refine (node_any _ _).mono ?_); rintro r w' ⟨rfl, rfl⟩; rw [HB.out]) | (refine HA.out.mono ?_; rintro r w' ⟨rfl, rfl⟩))
          exact ⟨⟨k + 1, by simp [intOf], by omega, HP2, trivial⟩, by simp [intOf]; omega⟩
        · have g1 : decide (0 ≤ z) = true := by simp; omega
          have HD : Hid (okP l = false) := Lib.hid (okP_no (fun h => hz (hpre.2 (by have := (h.2 k (by rw [HN.out]; exact hlt)).2; rw [HX.out] at this; exact this))))
          clear hz hpre
          go_wp2_with (first | ((with_reducible refine (node_any _ _).mono ?_); rintro r w' ⟨rfl, rfl⟩; rw [HB.out]) | (refine HA.out.mono ?_; rintro r w' ⟨rfl, rfl⟩))
          go_ret
          exact ⟨by rw [HD.out]; rfl, rfl⟩
    · obtain rfl : n = k := by omega
      by_cases h16 : n ≤ 16
      · have HD : Hid (okP l = true) := Lib.hid (okP_yes (by rw [HN.out]; exact h16) (by rw [HN.out]; exact HP.out))
        have g1 : decide (n ≤ 16) = true := by simpa using h16
        have g2 : decide ((n : Int) ≤ 16) = true := by simp; omega
        clear h16
        go_wp2_with fail
        go_ret
        exact ⟨by rw [HD.out]; rfl, rfl⟩
      · have HD : Hid (okP l = false) := Lib.hid (okP_no (by rw [HN.out]; omega))
        have g1 : decide (n ≤ 16) = false := by simpa using h16
        have g2 : decide ((n : Int) ≤ 16) = false := by simp; omega
        clear h16
        go_wp2_with fail
        go_ret
        exact ⟨by rw [HD.out]; rfl, rfl⟩
end Go.Proofs.Ytcpmnfoenpdaeaa.Rt
