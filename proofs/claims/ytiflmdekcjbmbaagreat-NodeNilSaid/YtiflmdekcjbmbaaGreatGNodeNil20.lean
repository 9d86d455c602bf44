/-
  A region that draws its order, whose operations read and whose calls may make memory but turn nothing that was there: its worlds as a type of their own, so that facts on what is read are rows of the walk. Package ie (chapter 6): which numbers, which lists fit; alike or not. Package ie (chapter 6) and the reference: two rows of numbers, two elements: alike or not.
-/
import Derived.Test.YtiflmdekcjbmbaaGreatGNodeNil01
import Derived.BigQuiet
import Derived.Deep.Quiet
import Derived.Deep.QuietTactic
import Derived.Test.YtiflmdekcjbmbaaGreatGNodeNil19
import Derived.Test.YtiflmdekcjbmbaaGreatGNodeNil14
namespace Go.Proofs.YtiflmdekcjbmbaaGreat.Lb
set_option linter.unusedVariables false
set_option linter.unusedSimpArgs false
open Go.RowKit
structure Ext (v : World) where
  toW : World
  ok : Below v.heap.size v toW
instance (v : World) : Nonempty (Ext v) := ⟨⟨v, Below.refl _ _⟩⟩
theorem wp_region_ext {P : Program} {id : Nat} {Q : Exit → Act → World → Prop} {a : Act} {w : World} {l : List Oper} (v : World) (hm : P.follows .mixedOrders = true) (hB : Region.lexB .any l.toArray = true) (hC : Below v.heap.size v w)
    (h : wpQuiet P l.toArray (fun w' => ∃ x : Ext v, w' = x.toW) (fun a' => ∀ w', (∃ x : Ext v, w' = x.toW) → Q .normal a' w') l a) : (Code.region id l.toArray true).wp P Q a w :=
  wp_region_quiet (C := fun w' => ∃ x : Ext v, w' = x.toW) hm hB ⟨⟨{ w with drawn := w.drawn + 1 }, ⟨hC.os, hC.tape, hC.output, hC.size, hC.block⟩⟩, rfl⟩ (by simpa using h)
theorem ext_same {P : Program} {f : FuncId} {args : Array Value} {v : World} (x : Ext v) {u : Value} (h : Calls P f args x.toW fun e w' => e = .returned u ∧ x.toW = w') : Calls P f args x.toW fun e w' => e = .returned u ∧ ∃ y : Ext v, w' = y.toW :=
  h.mono fun _ _ ⟨h1, h2⟩ => ⟨h1, x, h2.symm⟩
theorem ext_drew {P : Program} {f : FuncId} {args : Array Value} {v : World} (x : Ext v) {u : Value} (h : Calls P f args x.toW fun e w' => e = .returned u ∧ ∃ m, x.toW.drewN m = w') : Calls P f args x.toW fun e w' => e = .returned u ∧ ∃ y : Ext v, w' = y.toW :=
  h.mono fun _ _ ⟨h1, _, h2⟩ => ⟨h1, ⟨_, below_drewN x.ok _⟩, h2.symm⟩
theorem ext_below {P : Program} {f : FuncId} {args : Array Value} {v : World} (x : Ext v) {u : Value} (h : Calls P f args x.toW fun e w' => e = .returned u ∧ Below x.toW.heap.size x.toW w') : Calls P f args x.toW fun e w' => e = .returned u ∧ ∃ y : Ext v, w' = y.toW :=
  h.mono fun _ _ ⟨h1, h2⟩ => ⟨h1, ⟨_, x.ok.trans (h2.mono x.ok.size)⟩, rfl⟩
end Go.Proofs.YtiflmdekcjbmbaaGreat.Lb
set_option maxRecDepth 100000
namespace Go.Proofs.YtiflmdekcjbmbaaGreat.Ie
set_option linter.unusedVariables false
set_option linter.unusedSimpArgs false
open Go.RowKit Lb Go.Shelf Bf

theorem oct_any (x : Int) (w : World) : Calls Tryz.prog 275 #[.int .i64 x] w fun r w' => r = .returned (.bool (octB x)) ∧ w = w' := by
  by_cases h1 : 0 ≤ x
  · by_cases h2 : x ≤ 255
    · have HD : Hid (octB x = true) := Lib.hid (by unfold octB; simp; omega)
      go_enter Tryz.func275, Tryz.ntmps275
      go_wp2_with fail
      go_ret
      exact ⟨by rw [HD.out]; rfl, rfl⟩
    · have HD : Hid (octB x = false) := Lib.hid (by unfold octB; simp; omega)
      go_enter Tryz.func275, Tryz.ntmps275
      go_wp2_with fail
      go_ret
      exact ⟨by rw [HD.out]; rfl, rfl⟩
  · have HD : Hid (octB x = false) := Lib.hid (by unfold octB; simp; omega)
    go_enter Tryz.func275, Tryz.ntmps275
    go_wp2_with fail
    go_ret
    exact ⟨by rw [HD.out]; rfl, rfl⟩
theorem octsB_yes {l : List Int} (h : ∀ j, j < l.length → octB (l.getD j 0) = true) : octsB l = true := by
  unfold octsB
  rw [decide_eq_true_eq]
  intro j hj
  have := h j hj
  unfold octB at this
  rwa [decide_eq_true_eq] at this
theorem octsB_no {l : List Int} {j : Nat} (hj : j < l.length) (h : octB (l.getD j 0) = false) : octsB l = false := by
  unfold octsB
  rw [decide_eq_false_iff_not]
  intro e
  unfold octB at h
  rw [decide_eq_false_iff_not] at h
  exact h (e j hj)
theorem lfits_any (a : Option Addr) (c : Nat) (l : List Int) (w : World) (hlc : l.length ≤ c) (hc : c ≤ maxLen) (hR : Row w a l.length (zval l)) :
    Calls Tryz.prog 278 #[.slice a l.length c] w fun r w' => r = .returned (.bool (listB l)) ∧ w = w' := by
  unfold maxLen at hc
  obtain ⟨n, hn⟩ : ∃ n, l.length = n := ⟨_, rfl⟩
  have HN := Lib.hid hn
  rw [hn] at hR hlc ⊢
  clear hn
  go_enter Tryz.func278, Tryz.ntmps278
  go_wp2_with fail
  go_loopw [7] (fun i wr => ∃ k : Nat, i = .int .i64 k ∧ k ≤ n ∧ Hid (∀ j, j < k → octB (l.getD j 0) = true) ∧ w = wr) (fun i _ => n - (intOf i).toNat)
  case atStart => exact ⟨0, rfl, by omega, Lib.hid (fun j hj => by omega), rfl⟩
  case round =>
    obtain ⟨k, rfl, hk, HE, rfl⟩ := hrel
    by_cases hlt : k < n
    · obtain ⟨p, o, rfl, _, x1⟩ := hR.at_ hlt
      unfold zval at x1
      obtain ⟨x, hx⟩ : ∃ x, l.getD k 0 = x := ⟨_, rfl⟩
      rw [hx] at x1
      have HX := Lib.hid hx
      clear hx
      cases ho : octB x
      · have HD : Hid (listB l = false) := Lib.hid (by
          unfold listB
          rw [octsB_no (j := k) (by rw [HN.out]; exact hlt) (by rw [HX.out]; exact ho)]
          rfl)
        have HO := Lib.hid ho
        clear ho
        go_wp2_with (refine (oct_any _ _).mono ?_; rintro r w' ⟨rfl, rfl⟩; rw [HO.out])
        go_ret
        exact ⟨by rw [HD.out]; rfl, rfl⟩
      · have HE2 : Hid (∀ j, j < k + 1 → octB (l.getD j 0) = true) := Lib.hid (fun j hj => by
          by_cases e : j = k
          · subst e; rw [HX.out]; exact ho
          · exact HE.out j (by omega))
        have HO := Lib.hid ho
        clear ho
        go_wp2_with (refine (oct_any _ _).mono ?_; rintro r w' ⟨rfl, rfl⟩; rw [HO.out])
        exact ⟨⟨k + 1, by simp, by omega, HE2, by first | trivial | rfl⟩, by simp [intOf]; omega⟩
    · obtain rfl : n = k := by omega
      have HO : Hid (octsB l = true) := Lib.hid (octsB_yes (by rw [HN.out]; exact HE.out))
      by_cases h16 : n ≤ 16
      · have HD : Hid (listB l = true) := Lib.hid (by unfold listB; rw [HO.out, HN.out]; simpa using h16)
        have g1 : decide (n ≤ 16) = true := by simpa using h16
        have g2 : decide ((n : Int) ≤ 16) = true := by simp; omega
        go_wp2_with fail
        go_ret
        exact ⟨by rw [HD.out]; rfl, rfl⟩
      · have HD : Hid (listB l = false) := Lib.hid (by unfold listB; rw [HO.out, HN.out]; simpa using h16)
        have g1 : decide (n ≤ 16) = false := by simpa using h16
        have g2 : decide ((n : Int) ≤ 16) = false := by simp; omega
        go_wp2_with fail
        go_ret
        exact ⟨by rw [HD.out]; rfl, rfl⟩
def s1B (x y : Int) : Bool := decide (0 ≤ x ∧ x < 1099511627776) && octB y
def s2B (x : Int) : Bool := decide (-32768 ≤ x ∧ x ≤ 32767)
theorem fits1 (x y : Int) (w : World) : Calls Tryz.prog 274 #[.agg #[.int .i64 x, .int .i64 y]] w fun r w' => r = .returned (.bool (s1B x y)) ∧ Below w.heap.size w w' := by
  have b0 := (Below.refl w.heap.size w).alloc (Nat.le_refl _) (.cells #[.int .i64 x, .int .i64 y] 254)
  by_cases h1 : 0 ≤ x
  · by_cases h2 : x < 1099511627776
    · obtain ⟨e, he⟩ : ∃ e, octB y = e := ⟨_, rfl⟩
      have HD : Hid (s1B x y = e) := Lib.hid (by unfold s1B; rw [decide_eq_true (And.intro h1 h2), he]; rfl)
      have HO := Lib.hid he
      clear he
      go_enter Tryz.func274, Tryz.ntmps274
      go_wp2_with (refine (oct_any _ _).mono ?_; rintro r w' ⟨rfl, rfl⟩; rw [HO.out])
      go_ret
      exact ⟨by rw [HD.out]; rfl, b0⟩
    · have HD : Hid (s1B x y = false) := Lib.hid (by unfold s1B; rw [decide_eq_false (fun h => h2 h.2)]; rfl)
      go_enter Tryz.func274, Tryz.ntmps274
      go_wp2_with fail
      go_ret
      exact ⟨by rw [HD.out]; rfl, b0⟩
  · have HD : Hid (s1B x y = false) := Lib.hid (by unfold s1B; rw [decide_eq_false (fun h => h1 h.1)]; rfl)
    go_enter Tryz.func274, Tryz.ntmps274
    go_wp2_with fail
    go_ret
    exact ⟨by rw [HD.out]; rfl, b0⟩
theorem fits2 (x : Int) (w : World) : Calls Tryz.prog 276 #[.agg #[.int .i64 x]] w fun r w' => r = .returned (.bool (s2B x)) ∧ Below w.heap.size w w' := by
  have b0 := (Below.refl w.heap.size w).alloc (Nat.le_refl _) (.cells #[.int .i64 x] 256)
  by_cases h1 : -32768 ≤ x
  · by_cases h2 : x ≤ 32767
    · have HD : Hid (s2B x = true) := Lib.hid (decide_eq_true (And.intro h1 h2))
      go_enter Tryz.func276, Tryz.ntmps276
      go_wp2_with fail
      go_ret
      exact ⟨by rw [HD.out]; rfl, b0⟩
    · have HD : Hid (s2B x = false) := Lib.hid (decide_eq_false (fun h => h2 h.2))
      go_enter Tryz.func276, Tryz.ntmps276
      go_wp2_with fail
      go_ret
      exact ⟨by rw [HD.out]; rfl, b0⟩
  · have HD : Hid (s2B x = false) := Lib.hid (decide_eq_false (fun h => h1 h.1))
    go_enter Tryz.func276, Tryz.ntmps276
    go_wp2_with fail
    go_ret
    exact ⟨by rw [HD.out]; rfl, b0⟩
theorem fits3 (a : Option Addr) (c : Nat) (l : List Int) (w : World) (hlc : l.length ≤ c) (hc : c ≤ maxLen) (hR : Row w a l.length (zval l)) :
    Calls Tryz.prog 277 #[.agg #[.slice a l.length c]] w fun r w' => r = .returned (.bool (listB l)) ∧ Below w.heap.size w w' := by
  have b0 := (Below.refl w.heap.size w).alloc (Nat.le_refl _) (.cells #[.slice a l.length c] 258)
  have hf := lfits_any a c l _ hlc hc (hR.below b0)
  have HF := Lib.hid hf
  clear hf
  go_enter Tryz.func277, Tryz.ntmps277
  go_wp2_with (refine HF.out.mono ?_; rintro r w' ⟨rfl, rfl⟩)
  go_ret
  exact ⟨rfl, b0⟩
theorem fits4 (a : Option Addr) (c : Nat) (l : List Int) (w : World) (hlc : l.length ≤ c) (hc : c ≤ maxLen) (hR : Row w a l.length (zval l)) :
    Calls Tryz.prog 279 #[.agg #[.slice a l.length c]] w fun r w' => r = .returned (.bool (listB l)) ∧ Below w.heap.size w w' := by
  have b0 := (Below.refl w.heap.size w).alloc (Nat.le_refl _) (.cells #[.slice a l.length c] 259)
  have hf := lfits_any a c l _ hlc hc (hR.below b0)
  have HF := Lib.hid hf
  clear hf
  go_enter Tryz.func279, Tryz.ntmps279
  go_wp2_with (refine HF.out.mono ?_; rintro r w' ⟨rfl, rfl⟩)
  go_ret
  exact ⟨rfl, b0⟩
end Go.Proofs.YtiflmdekcjbmbaaGreat.Ie
set_option maxRecDepth 100000
namespace Go.Proofs.YtiflmdekcjbmbaaGreat.Ie
set_option linter.unusedVariables false
set_option linter.unusedSimpArgs false
open Go.RowKit Lb Go.Shelf Bf

theorem list_eq {l m : List Int} (h : l.length = m.length) (hk : ∀ j, j < l.length → l.getD j 0 = m.getD j 0) : l = m := by
  apply List.ext_getElem h
  intro i h1 h2
  have := hk i h1
  rw [List.getD_eq_getElem?_getD, List.getD_eq_getElem?_getD, List.getElem?_eq_getElem h1, List.getElem?_eq_getElem h2] at this
  exact this
theorem eqi_any (a b : Option Addr) (c d : Nat) (l m : List Int) (w : World) (h1 : l.length ≤ c) (h2 : m.length ≤ d) (hc : c ≤ maxLen) (hd : d ≤ maxLen) (hX : Row w a l.length (zval l)) (hY : Row w b m.length (zval m)) :
    Calls Tryz.prog 240 #[.slice a l.length c, .slice b m.length d] w fun r w' => r = .returned (.bool (decide (l = m))) ∧ ∃ z, w.drewN z = w' := by
  unfold maxLen at hc hd
  by_cases hlm : l.length = m.length
  · have HLM := Lib.hid hlm
    obtain ⟨n, hn⟩ : ∃ n, l.length = n := ⟨_, rfl⟩
    have HN := Lib.hid hn
    have hm : m.length = n := by omega
    rw [hn] at hX h1 ⊢
    rw [hm] at hY h2 ⊢
    clear hn hm hlm
    go_enter Tryz.func240, Tryz.ntmps240
    go_wp2_with fail
    go_loopw [13] (fun i wr => ∃ (k z : Nat), i = .int .i64 k ∧ k ≤ n ∧ Hid (∀ j, j < k → l.getD j 0 = m.getD j 0) ∧ w.drewN z = wr) (fun i _ => n - (intOf i).toNat)
    case atStart => exact ⟨0, 0, rfl, by omega, Lib.hid (fun j hj => by omega), rfl⟩
    case round =>
      obtain ⟨k, z, rfl, hk, HE, rfl⟩ := hrel
      by_cases hlt : k < n
      · obtain ⟨p, o, rfl, _, x1⟩ := hX.at_ hlt
        obtain ⟨q, s, rfl, _, x2⟩ := hY.at_ hlt
        unfold zval at x1 x2
        obtain ⟨x, hx⟩ : ∃ x, l.getD k 0 = x := ⟨_, rfl⟩
        obtain ⟨y, hy⟩ : ∃ y, m.getD k 0 = y := ⟨_, rfl⟩
        rw [hx] at x1
        rw [hy] at x2
        have HX := Lib.hid hx
        have HY := Lib.hid hy
        clear hx hy
        by_cases hxy : x = y
        · have HE2 : Hid (∀ j, j < k + 1 → l.getD j 0 = m.getD j 0) := Lib.hid (fun j hj => by
            by_cases e : j = k
            · subst e; rw [HX.out, HY.out, hxy]
            · exact HE.out j (by omega))
          have g1 : (x != y) = false := by simpa using hxy
          have g2 : (x == y) = true := by simpa using hxy
          clear hxy
          go_wp2_with fail
          go_quiet (fail)
          go_wp2_with fail
          exact ⟨⟨k + 1, _, by go_num, by omega, HE2, rfl⟩, by simp [intOf]; omega⟩
        · have HD : Hid (decide (l = m) = false) := Lib.hid (by
            rw [decide_eq_false_iff_not]
            intro e
            exact hxy (by rw [← HX.out, ← HY.out, e]))
          have g1 : (x != y) = true := by simpa using hxy
          have g2 : (x == y) = false := by simpa using hxy
          clear hxy
          go_wp2_with fail
          go_quiet (fail)
          go_wp2_with fail
          go_ret
          exact ⟨by rw [HD.out]; rfl, _, (World.drewN_drewN _ _ _).symm⟩
      · obtain rfl : n = k := by omega
        have HD : Hid (decide (l = m) = true) := Lib.hid (by
          rw [decide_eq_true_eq]
          exact list_eq HLM.out (by rw [HN.out]; exact HE.out))
        go_wp2_with fail
        go_ret
        exact ⟨by rw [HD.out]; rfl, z, rfl⟩
  · have HD : Hid (decide (l = m) = false) := Lib.hid (by
      rw [decide_eq_false_iff_not]
      intro e
      exact hlm (by rw [e]))
    obtain ⟨n, hn⟩ : ∃ n, l.length = n := ⟨_, rfl⟩
    obtain ⟨k, hk⟩ : ∃ k, m.length = k := ⟨_, rfl⟩
    rw [hn, hk] at hlm ⊢
    have g1 : ((n : Int) == (k : Int)) = false := by simp; omega
    have g2 : ((n : Int) != (k : Int)) = true := by simp; omega
    clear hn hk hlm
    go_enter Tryz.func240, Tryz.ntmps240
    go_wp2_with fail
    go_ret
    exact ⟨by rw [HD.out]; rfl, 0, rfl⟩
theorem same_any (a b : Option Addr) (c d : Nat) (l m : List Int) (w : World) (h1 : l.length ≤ c) (h2 : m.length ≤ d) (hc : c ≤ maxLen) (hd : d ≤ maxLen) (hX : Row w a l.length (zval l)) (hY : Row w b m.length (zval m)) :
    Calls Tryz.prog 42 #[.slice a l.length c, .slice b m.length d] w fun r w' => r = .returned (.bool (decide (l = m))) ∧ ∃ z, w.drewN z = w' := by
  unfold maxLen at hc hd
  by_cases hlm : l.length = m.length
  · have HLM := Lib.hid hlm
    obtain ⟨n, hn⟩ : ∃ n, l.length = n := ⟨_, rfl⟩
    have HN := Lib.hid hn
    have hm : m.length = n := by omega
    rw [hn] at hX h1 ⊢
    rw [hm] at hY h2 ⊢
    clear hn hm hlm
    go_enter Tryz.func42, Tryz.ntmps42
    go_wp2_with fail
    go_loopw [13] (fun i wr => ∃ (k z : Nat), i = .int .i64 k ∧ k ≤ n ∧ Hid (∀ j, j < k → l.getD j 0 = m.getD j 0) ∧ w.drewN z = wr) (fun i _ => n - (intOf i).toNat)
    case atStart => exact ⟨0, 0, rfl, by omega, Lib.hid (fun j hj => by omega), rfl⟩
    case round =>
      obtain ⟨k, z, rfl, hk, HE, rfl⟩ := hrel
      by_cases hlt : k < n
      · obtain ⟨p, o, rfl, _, x1⟩ := hX.at_ hlt
        obtain ⟨q, s, rfl, _, x2⟩ := hY.at_ hlt
        unfold zval at x1 x2
        obtain ⟨x, hx⟩ : ∃ x, l.getD k 0 = x := ⟨_, rfl⟩
        obtain ⟨y, hy⟩ : ∃ y, m.getD k 0 = y := ⟨_, rfl⟩
        rw [hx] at x1
        rw [hy] at x2
        have HX := Lib.hid hx
        have HY := Lib.hid hy
        clear hx hy
        by_cases hxy : x = y
        · have HE2 : Hid (∀ j, j < k + 1 → l.getD j 0 = m.getD j 0) := Lib.hid (fun j hj => by
            by_cases e : j = k
            · subst e; rw [HX.out, HY.out, hxy]
            · exact HE.out j (by omega))
          have g1 : (x != y) = false := by simpa using hxy
          have g2 : (x == y) = true := by simpa using hxy
          clear hxy
          go_wp2_with fail
          go_quiet (fail)
          go_wp2_with fail
          exact ⟨⟨k + 1, _, by go_num, by omega, HE2, rfl⟩, by simp [intOf]; omega⟩
        · have HD : Hid (decide (l = m) = false) := Lib.hid (by
            rw [decide_eq_false_iff_not]
            intro e
            exact hxy (by rw [← HX.out, ← HY.out, e]))
          have g1 : (x != y) = true := by simpa using hxy
          have g2 : (x == y) = false := by simpa using hxy
          clear hxy
          go_wp2_with fail
          go_quiet (fail)
          go_wp2_with fail
          go_ret
          exact ⟨by rw [HD.out]; rfl, _, (World.drewN_drewN _ _ _).symm⟩
      · obtain rfl : n = k := by omega
        have HD : Hid (decide (l = m) = true) := Lib.hid (by
          rw [decide_eq_true_eq]
          exact list_eq HLM.out (by rw [HN.out]; exact HE.out))
        go_wp2_with fail
        go_ret
        exact ⟨by rw [HD.out]; rfl, z, rfl⟩
  · have HD : Hid (decide (l = m) = false) := Lib.hid (by
      rw [decide_eq_false_iff_not]
      intro e
      exact hlm (by rw [e]))
    obtain ⟨n, hn⟩ : ∃ n, l.length = n := ⟨_, rfl⟩
    obtain ⟨k, hk⟩ : ∃ k, m.length = k := ⟨_, rfl⟩
    rw [hn, hk] at hlm ⊢
    have g1 : ((n : Int) == (k : Int)) = false := by simp; omega
    have g2 : ((n : Int) != (k : Int)) = true := by simp; omega
    clear hn hk hlm
    go_enter Tryz.func42, Tryz.ntmps42
    go_wp2_with fail
    go_ret
    exact ⟨by rw [HD.out]; rfl, 0, rfl⟩
set_option maxHeartbeats 4000000 in
theorem sameE_any (p q : El) (a : Option Addr) (c : Nat) (a2 : Option Addr) (c2 : Nat) (w : World) (h : p.At w a c) (k : q.At w a2 c2) :
    Calls Tryz.prog 211 #[.agg (p.vals a c), .agg (q.vals a2 c2)] w fun r w' => r = .returned (.bool (sameE p q)) ∧ Below w.heap.size w w' := by
  have o1 : Lb.Own ((w.alloc (.cells (p.vals a c) 59)).alloc (.cells (q.vals a2 c2) 59)) w.heap.size 59 (p.vals a c) := (Own.new w _ _).alloc _
  have o2 : Lb.Own ((w.alloc (.cells (p.vals a c) 59)).alloc (.cells (q.vals a2 c2) 59)) (w.heap.size + 1) 59 (q.vals a2 c2) := by
    have := Own.new (w.alloc (.cells (p.vals a c) 59)) 59 (q.vals a2 c2)
    rwa [show (w.alloc (.cells (p.vals a c) 59)).heap.size = w.heap.size + 1 by simp] at this
  have b0 := ((Below.refl w.heap.size w).alloc (Nat.le_refl _) (.cells (p.vals a c) 59)).alloc (by simp) (.cells (q.vals a2 c2) 59)
  have h1 := h.below b0
  have k1 := k.below b0
  obtain ⟨pk, pa, pr, pt, pl⟩ := p
  obtain ⟨qk, qa, qr, qt, ql⟩ := q
  have hD : sameE ⟨pk, pa, pr, pt, pl⟩ ⟨qk, qa, qr, qt, ql⟩ = ((pk == qk) && ((pa == qa) && ((pr == qr) && ((pt == qt) && decide (pl = ql))))) := rfl
  obtain ⟨e1, he1⟩ : ∃ e, (pk == qk) = e := ⟨_, rfl⟩
  obtain ⟨e2, he2⟩ : ∃ e, (pa == qa) = e := ⟨_, rfl⟩
  obtain ⟨e3, he3⟩ : ∃ e, (pr == qr) = e := ⟨_, rfl⟩
  obtain ⟨e4, he4⟩ : ∃ e, (pt == qt) = e := ⟨_, rfl⟩
  obtain ⟨e5, he5⟩ : ∃ e, decide (pl = ql) = e := ⟨_, rfl⟩
  rw [he1, he2, he3, he4, he5] at hD
  have HD := Lib.hid hD
  unfold El.vals at *
  simp only at *
  go_enter Tryz.func211, Tryz.ntmps211
  go_upto_region 1 with (fail)
  generalize (w.alloc (.cells #[.int .i64 pk, .int .i64 pa, .int .i64 pr, .int .i64 pt, .slice a pl.length c] 59)).alloc (.cells #[.int .i64 qk, .int .i64 qa, .int .i64 qr, .int .i64 qt, .slice a2 ql.length c2] 59) = w1 at *
  have c0 := o1.cell 0
  have c1 := o1.cell 1
  have x2 := o1.cell 2
  have c3 := o1.cell 3
  have c4 := o1.cell 4
  have y0 := o2.cell 0
  have y1 := o2.cell 1
  have y2 := o2.cell 2
  have y3 := o2.cell 3
  have y4 := o2.cell 4
  simp at c0 c1 x2 c3 c4 y0 y1 y2 y3 y4
  have hI := eqi_any a a2 c c2 pl ql w1 h1.lc k1.lc h1.cm k1.cm h1.row k1.row
  rw [he5] at hI
  have HI := Lib.hid hI
  clear o1 o2 hI hD h k h1 k1 he5
  cases e1
  case' true => cases e2
  case' true.true => cases e3
  case' true.true.true => cases e4
  all_goals
    go_wp2_with (refine HI.out.mono ?_; rintro r w' ⟨rfl, zz, rfl⟩)
    all_goals
      go_ret
      exact ⟨by rw [HD.out]; rfl, by first | exact b0 | exact below_drewN b0 _⟩
end Go.Proofs.YtiflmdekcjbmbaaGreat.Ie
