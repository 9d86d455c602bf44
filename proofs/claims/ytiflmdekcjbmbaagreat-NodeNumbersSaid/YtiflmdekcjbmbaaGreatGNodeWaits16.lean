/-
  Package ie (chapter 6): elements as plain data; which may be; their bytes. Package ie (chapter 6): which numbers, which lists fit; alike or not. Package ie (chapter 6) and the reference: two rows of numbers, two elements: alike or not. Package ie (chapter 6): an element as one of its kind; back in the face's form.
-/
import Derived.Test.YtiflmdekcjbmbaaGreatGNodeWaits15
import Derived.Test.YtiflmdekcjbmbaaGreatGNodeWaits05
import Derived.Test.YtiflmdekcjbmbaaGreatGNodeWaits04
set_option maxRecDepth 100000
namespace Go.Proofs.YtiflmdekcjbmbaaGreat.Ie
set_option linter.unusedVariables false
set_option linter.unusedSimpArgs false
open Go.RowKit Lb Bf

structure El where
  k : Int
  asn : Int
  rank : Int
  ticks : Int
  list : List Int
def El.vals (e : El) (a : Option Addr) (c : Nat) : Array Value := #[.int .i64 e.k, .int .i64 e.asn, .int .i64 e.rank, .int .i64 e.ticks, .slice a e.list.length c]
def zval (zs : List Int) (j : Nat) : Value := .int .i64 (zs.getD j 0)
/-- The row of an element, as it lies. -/
structure El.At (w : World) (e : El) (a : Option Addr) (c : Nat) : Prop where
  lc : e.list.length ≤ c
  cm : c ≤ maxLen
  row : Row w a e.list.length (zval e.list)
  nil : a = none → e.list.length = 0
theorem El.At.below {w w' : World} {e : El} {a : Option Addr} {c : Nat} (h : e.At w a c) (b : Below w.heap.size w w') : e.At w' a c := ⟨h.lc, h.cm, h.row.below b, h.nil⟩
def octB (x : Int) : Bool := decide (0 ≤ x ∧ x ≤ 255)
def octsB (l : List Int) : Bool := decide (∀ j, j < l.length → 0 ≤ l.getD j 0 ∧ l.getD j 0 ≤ 255)
def listB (l : List Int) : Bool := octsB l && decide (l.length ≤ 16)
/-- Its own kind's fields are within their bounds. -/
def fitB (e : El) : Bool :=
  if e.k = 1 then decide (0 ≤ e.asn ∧ e.asn < 1099511627776) && octB e.rank
  else if e.k = 2 then decide (-32768 ≤ e.ticks ∧ e.ticks ≤ 32767)
  else if e.k = 3 ∨ e.k = 4 then listB e.list
  else false
/-- What is left of it in its own kind's form. -/
def own (e : El) : El :=
  if e.k = 1 then ⟨1, e.asn, e.rank, 0, []⟩
  else if e.k = 2 then ⟨2, 0, 0, e.ticks, []⟩
  else ⟨e.k, 0, 0, 0, e.list⟩
def sameE (a b : El) : Bool := (a.k == b.k) && ((a.asn == b.asn) && ((a.rank == b.rank) && ((a.ticks == b.ticks) && decide (a.list = b.list))))
theorem sameE_eq {a b : El} (h : sameE a b = true) : a = b := by
  unfold sameE at h
  simp at h
  obtain ⟨h1, h2, h3, h4, h5⟩ := h
  cases a; cases b
  simp at *
  exact ⟨h1, h2, h3, h4, h5⟩
theorem sameE_self (a : El) : sameE a a = true := by unfold sameE; simp
def mayE (e : El) : Bool := fitB e && sameE (own e) e
theorem mayE_out {e : El} (h : mayE e = true) : fitB e = true ∧ own e = e := by
  unfold mayE at h
  rw [Bool.and_eq_true] at h
  exact ⟨h.1, sameE_eq h.2⟩
theorem mayE_kind {e : El} (h : mayE e = true) : e.k = 1 ∨ e.k = 2 ∨ e.k = 3 ∨ e.k = 4 := by
  have h1 := (mayE_out h).1
  unfold fitB at h1
  by_cases k1 : e.k = 1
  · exact .inl k1
  by_cases k2 : e.k = 2
  · exact .inr (.inl k2)
  by_cases k3 : e.k = 3 ∨ e.k = 4
  · exact .inr (.inr k3)
  rw [if_neg k1, if_neg k2, if_neg k3] at h1
  cases h1
/-- A number that may be negative, as 64 bits. -/
def u64 (x : Int) : Nat := (x % 18446744073709551616).toNat
theorem u64_lt (x : Int) : u64 x < 18446744073709551616 := by unfold u64; omega
/-- The bytes of an element. -/
def encOne (e : El) : List Int :=
  if e.k = 1 then [1] ++ [6] ++ bytesK e.asn.toNat 5 ++ [e.rank]
  else if e.k = 2 then [2] ++ [2] ++ bytesK (u64 e.ticks) 2
  else [e.k] ++ [(e.list.length : Int)] ++ e.list
def encL : List El → List Int
  | [] => []
  | e :: l => encOne e ++ encL l
theorem encL_snoc (l : List El) (e : El) : encL (l ++ [e]) = encL l ++ encOne e := by
  induction l with
  | nil => simp [encL]
  | cons x l ih => simp [encL, ih]
theorem encL_take {l : List El} {k : Nat} (hk : k < l.length) : encL (l.take (k + 1)) = encL (l.take k) ++ encOne l[k] := by
  rw [List.take_succ_eq_append_getElem hk, encL_snoc]
def encI (l : List El) : List Int := [(l.length : Int)] ++ encL l
def mayL (l : List El) : Bool := decide (l.length ≤ 4) && l.all mayE
theorem encOne_len {e : El} (h : mayE e = true) : (encOne e).length ≤ 18 := by
  have h1 := (mayE_out h).1
  unfold fitB at h1
  unfold encOne
  by_cases k1 : e.k = 1
  · rw [if_pos k1]; simp [bytesK_len]
  by_cases k2 : e.k = 2
  · rw [if_neg k1, if_pos k2]; simp [bytesK_len]
  by_cases k3 : e.k = 3 ∨ e.k = 4
  · rw [if_neg k1, if_neg k2, if_pos k3] at h1
    rw [if_neg k1, if_neg k2]
    unfold listB at h1
    rw [Bool.and_eq_true, decide_eq_true_eq] at h1
    simp
    omega
  · rw [if_neg k1, if_neg k2, if_neg k3] at h1
    cases h1
end Go.Proofs.YtiflmdekcjbmbaaGreat.Ie
set_option maxRecDepth 100000
namespace Go.Proofs.YtiflmdekcjbmbaaGreat.Ie
set_option linter.unusedVariables false
set_option linter.unusedSimpArgs false
open Go.RowKit Lb Go.Shelf Bf

theorem oct_any (x : Int) (w : World) : Calls Tryz.prog 275 #[.int .i64 x] w fun r w' => r = .returned (.bool (octB x)) ∧ w = w' := by
  by_cases h1 : 0 ≤ x
  · by_cases h2 : x ≤ 255
    · have HD : Hid (octB x = true) := Lib.hid (by unfold octB; simp; omega)
      go_enter Tryz.func275, Tryz.ntmps275
      go_wp2_with fail
      go_ret
      exact ⟨by rw [HD.out]; rfl, rfl⟩
    · have HD : Hid (octB x = false) := Lib.hid (by unfold octB; simp; omega)
      go_enter Tryz.func275, Tryz.ntmps275
      go_wp2_with fail
      go_ret
      exact ⟨by rw [HD.out]; rfl, rfl⟩
  · have HD : Hid (octB x = false) := Lib.hid (by unfold octB; simp; omega)
    go_enter Tryz.func275, Tryz.ntmps275
    go_wp2_with fail
    go_ret
    exact ⟨by rw [HD.out]; rfl, rfl⟩
theorem octsB_yes {l : List Int} (h : ∀ j, j < l.length → octB (l.getD j 0) = true) : octsB l = true := by
  unfold octsB
  rw [decide_eq_true_eq]
  intro j hj
  have := h j hj
  unfold octB at this
  rwa [decide_eq_true_eq] at this
theorem octsB_no {l : List Int} {j : Nat} (hj : j < l.length) (h : octB (l.getD j 0) = false) : octsB l = false := by
  unfold octsB
  rw [decide_eq_false_iff_not]
  intro e
  unfold octB at h
  rw [decide_eq_false_iff_not] at h
  exact h (e j hj)
theorem lfits_any (a : Option Addr) (c : Nat) (l : List Int) (w : World) (hlc : l.length ≤ c) (hc : c ≤ maxLen) (hR : Row w a l.length (zval l)) :
    Calls Tryz.prog 278 #[.slice a l.length c] w fun r w' => r = .returned (.bool (listB l)) ∧ w = w' := by
  unfold maxLen at hc
  obtain ⟨n, hn⟩ : ∃ n, l.length = n := ⟨_, rfl⟩
  have HN := Lib.hid hn
  rw [hn] at hR hlc ⊢
  clear hn
  go_enter Tryz.func278, Tryz.ntmps278
  go_wp2_with fail
  go_loopw [7] (fun i wr => ∃ k : Nat, i = .int .i64 k ∧ k ≤ n ∧ Hid (∀ j, j < k → octB (l.getD j 0) = true) ∧ w = wr) (fun i _ => n - (intOf i).toNat)
  case atStart => exact ⟨0, rfl, by omega, Lib.hid (fun j hj => by omega), rfl⟩
  case round =>
    obtain ⟨k, rfl, hk, HE, rfl⟩ := hrel
    by_cases hlt : k < n
    · obtain ⟨p, o, rfl, _, x1⟩ := hR.at_ hlt
      unfold zval at x1
      obtain ⟨x, hx⟩ : ∃ x, l.getD k 0 = x := ⟨_, rfl⟩
      rw [hx] at x1
      have HX := Lib.hid hx
      clear hx
      cases ho : octB x
      · have HD : Hid (listB l = false) := Lib.hid (by
          unfold listB
          rw [octsB_no (j := k) (by rw [HN.out]; exact hlt) (by rw [HX.out]; exact ho)]
          rfl)
        have HO := Lib.hid ho
        clear ho
        go_wp2_with (refine (oct_any _ _).mono ?_; rintro r w' ⟨rfl, rfl⟩; rw [HO.out])
        go_ret
        exact ⟨by rw [HD.out]; rfl, rfl⟩
      · have HE2 : Hid (∀ j, j < k + 1 → octB (l.getD j 0) = true) := Lib.hid (fun j hj => by
          by_cases e : j = k
          · subst e; rw [HX.out]; exact ho
          · exact HE.out j (by omega))
        have HO := Lib.hid ho
        clear ho
        go_wp2_with (refine (oct_any _ _).mono ?_; rintro r w' ⟨rfl, rfl⟩; rw [HO.out])
        exact ⟨⟨k + 1, by simp, by omega, HE2, by first | trivial | rfl⟩, by simp [intOf]; omega⟩
    · obtain rfl : n = k := by omega
      have HO : Hid (octsB l = true) := Lib.hid (octsB_yes (by rw [HN.out]; exact HE.out))
      by_cases h16 : n ≤ 16
      · have HD : Hid (listB l = true) := Lib.hid (by unfold listB; rw [HO.out, HN.out]; simpa using h16)
        have g1 : decide (n ≤ 16) = true := by simpa using h16
        have g2 : decide ((n : Int) ≤ 16) = true := by simp; omega
        go_wp2_with fail
        go_ret
        exact ⟨by rw [HD.out]; rfl, rfl⟩
      · have HD : Hid (listB l = false) := Lib.hid (by unfold listB; rw [HO.out, HN.out]; simpa using h16)
        have g1 : decide (n ≤ 16) = false := by simpa using h16
        have g2 : decide ((n : Int) ≤ 16) = false := by simp; omega
        go_wp2_with fail
        go_ret
        exact ⟨by rw [HD.out]; rfl, rfl⟩
def s1B (x y : Int) : Bool := decide (0 ≤ x ∧ x < 1099511627776) && octB y
def s2B (x : Int) : Bool := decide (-32768 ≤ x ∧ x ≤ 32767)
theorem fits1 (x y : Int) (w : World) : Calls Tryz.prog 274 #[.agg #[.int .i64 x, .int .i64 y]] w fun r w' => r = .returned (.bool (s1B x y)) ∧ Below w.heap.size w w' := by
  have b0 := (Below.refl w.heap.size w).alloc (Nat.le_refl _) (.cells #[.int .i64 x, .int .i64 y] 254)
  by_cases h1 : 0 ≤ x
  · by_cases h2 : x < 1099511627776
    · obtain ⟨e, he⟩ : ∃ e, octB y = e := ⟨_, rfl⟩
      have HD : Hid (s1B x y = e) := Lib.hid (by unfold s1B; rw [decide_eq_true (And.intro h1 h2), he]; rfl)
      have HO := Lib.hid he
      clear he
      go_enter Tryz.func274, Tryz.ntmps274
      go_wp2_with (refine (oct_any _ _).mono ?_; rintro r w' ⟨rfl, rfl⟩; rw [HO.out])
      go_ret
      exact ⟨by rw [HD.out]; rfl, b0⟩
    · have HD : Hid (s1B x y = false) := Lib.hid (by unfold s1B; rw [decide_eq_false (fun h => h2 h.2)]; rfl)
      go_enter Tryz.func274, Tryz.ntmps274
      go_wp2_with fail
      go_ret
      exact ⟨by rw [HD.out]; rfl, b0⟩
  · have HD : Hid (s1B x y = false) := Lib.hid (by unfold s1B; rw [decide_eq_false (fun h => h1 h.1)]; rfl)
    go_enter Tryz.func274, Tryz.ntmps274
    go_wp2_with fail
    go_ret
    exact ⟨by rw [HD.out]; rfl, b0⟩
theorem fits2 (x : Int) (w : World) : Calls Tryz.prog 276 #[.agg #[.int .i64 x]] w fun r w' => r = .returned (.bool (s2B x)) ∧ Below w.heap.size w w' := by
  have b0 := (Below.refl w.heap.size w).alloc (Nat.le_refl _) (.cells #[.int .i64 x] 256)
  by_cases h1 : -32768 ≤ x
  · by_cases h2 : x ≤ 32767
    · have HD : Hid (s2B x = true) := Lib.hid (decide_eq_true (And.intro h1 h2))
      go_enter Tryz.func276, Tryz.ntmps276
      go_wp2_with fail
      go_ret
      exact ⟨by rw [HD.out]; rfl, b0⟩
    · have HD : Hid (s2B x = false) := Lib.hid (decide_eq_false (fun h => h2 h.2))
      go_enter Tryz.func276, Tryz.ntmps276
      go_wp2_with fail
      go_ret
      exact ⟨by rw [HD.out]; rfl, b0⟩
  · have HD : Hid (s2B x = false) := Lib.hid (decide_eq_false (fun h => h1 h.1))
    go_enter Tryz.func276, Tryz.ntmps276
    go_wp2_with fail
    go_ret
    exact ⟨by rw [HD.out]; rfl, b0⟩
theorem fits3 (a : Option Addr) (c : Nat) (l : List Int) (w : World) (hlc : l.length ≤ c) (hc : c ≤ maxLen) (hR : Row w a l.length (zval l)) :
    Calls Tryz.prog 277 #[.agg #[.slice a l.length c]] w fun r w' => r = .returned (.bool (listB l)) ∧ Below w.heap.size w w' := by
  have b0 := (Below.refl w.heap.size w).alloc (Nat.le_refl _) (.cells #[.slice a l.length c] 258)
  have hf := lfits_any a c l _ hlc hc (hR.below b0)
  have HF := Lib.hid hf
  clear hf
  go_enter Tryz.func277, Tryz.ntmps277
  go_wp2_with (refine HF.out.mono ?_; rintro r w' ⟨rfl, rfl⟩)
  go_ret
  exact ⟨rfl, b0⟩
theorem fits4 (a : Option Addr) (c : Nat) (l : List Int) (w : World) (hlc : l.length ≤ c) (hc : c ≤ maxLen) (hR : Row w a l.length (zval l)) :
    Calls Tryz.prog 279 #[.agg #[.slice a l.length c]] w fun r w' => r = .returned (.bool (listB l)) ∧ Below w.heap.size w w' := by
  have b0 := (Below.refl w.heap.size w).alloc (Nat.le_refl _) (.cells #[.slice a l.length c] 259)
  have hf := lfits_any a c l _ hlc hc (hR.below b0)
  have HF := Lib.hid hf
  clear hf
  go_enter Tryz.func279, Tryz.ntmps279
  go_wp2_with (refine HF.out.mono ?_; rintro r w' ⟨rfl, rfl⟩)
  go_ret
  exact ⟨rfl, b0⟩
end Go.Proofs.YtiflmdekcjbmbaaGreat.Ie
set_option maxRecDepth 100000
namespace Go.Proofs.YtiflmdekcjbmbaaGreat.Ie
set_option linter.unusedVariables false
set_option linter.unusedSimpArgs false
open Go.RowKit Lb Go.Shelf Bf

theorem list_eq {l m : List Int} (h : l.length = m.length) (hk : ∀ j, j < l.length → l.getD j 0 = m.getD j 0) : l = m := by
  apply List.ext_getElem h
  intro i h1 h2
  have := hk i h1
  rw [List.getD_eq_getElem?_getD, List.getD_eq_getElem?_getD, List.getElem?_eq_getElem h1, List.getElem?_eq_getElem h2] at this
  exact this
theorem eqi_any (a b : Option Addr) (c d : Nat) (l m : List Int) (w : World) (h1 : l.length ≤ c) (h2 : m.length ≤ d) (hc : c ≤ maxLen) (hd : d ≤ maxLen) (hX : Row w a l.length (zval l)) (hY : Row w b m.length (zval m)) :
    Calls Tryz.prog 240 #[.slice a l.length c, .slice b m.length d] w fun r w' => r = .returned (.bool (decide (l = m))) ∧ ∃ z, w.drewN z = w' := by
  unfold maxLen at hc hd
  by_cases hlm : l.length = m.length
  · have HLM := Lib.hid hlm
    obtain ⟨n, hn⟩ : ∃ n, l.length = n := ⟨_, rfl⟩
    have HN := Lib.hid hn
    have hm : m.length = n := by omega
    rw [hn] at hX h1 ⊢
    rw [hm] at hY h2 ⊢
    clear hn hm hlm
    go_enter Tryz.func240, Tryz.ntmps240
    go_wp2_with fail
    go_loopw [13] (fun i wr => ∃ (k z : Nat), i = .int .i64 k ∧ k ≤ n ∧ Hid (∀ j, j < k → l.getD j 0 = m.getD j 0) ∧ w.drewN z = wr) (fun i _ => n - (intOf i).toNat)
    case atStart => exact ⟨0, 0, rfl, by omega, Lib.hid (fun j hj => by omega), rfl⟩
    case round =>
      obtain ⟨k, z, rfl, hk, HE, rfl⟩ := hrel
      by_cases hlt : k < n
      · obtain ⟨p, o, rfl, _, x1⟩ := hX.at_ hlt
        obtain ⟨q, s, rfl, _, x2⟩ := hY.at_ hlt
        unfold zval at x1 x2
        obtain ⟨x, hx⟩ : ∃ x, l.getD k 0 = x := ⟨_, rfl⟩
        obtain ⟨y, hy⟩ : ∃ y, m.getD k 0 = y := ⟨_, rfl⟩
        rw [hx] at x1
        rw [hy] at x2
        have HX := Lib.hid hx
        have HY := Lib.hid hy
        clear hx hy
        by_cases hxy : x = y
        · have HE2 : Hid (∀ j, j < k + 1 → l.getD j 0 = m.getD j 0) := Lib.hid (fun j hj => by
            by_cases e : j = k
            · subst e; rw [HX.out, HY.out, hxy]
            · exact HE.out j (by omega))
          have g1 : (x != y) = false := by simpa using hxy
          have g2 : (x == y) = true := by simpa using hxy
          clear hxy
          go_wp2_with fail
          go_quiet (fail)
          go_wp2_with fail
          exact ⟨⟨k + 1, _, by go_num, by omega, HE2, rfl⟩, by simp [intOf]; omega⟩
        · have HD : Hid (decide (l = m) = false) := Lib.hid (by
            rw [decide_eq_false_iff_not]
            intro e
            exact hxy (by rw [← HX.out, ← HY.out, e]))
          have g1 : (x != y) = true := by simpa using hxy
          have g2 : (x == y) = false := by simpa using hxy
          clear hxy
          go_wp2_with fail
          go_quiet (fail)
          go_wp2_with fail
          go_ret
          exact ⟨by rw [HD.out]; rfl, _, (World.drewN_drewN _ _ _).symm⟩
      · obtain rfl : n = k := by omega
        have HD : Hid (decide (l = m) = true) := Lib.hid (by
          rw [decide_eq_true_eq]
          exact list_eq HLM.out (by rw [HN.out]; exact HE.out))
        go_wp2_with fail
        go_ret
        exact ⟨by rw [HD.out]; rfl, z, rfl⟩
  · have HD : Hid (decide (l = m) = false) := Lib.hid (by
      rw [decide_eq_false_iff_not]
      intro e
      exact hlm (by rw [e]))
    obtain ⟨n, hn⟩ : ∃ n, l.length = n := ⟨_, rfl⟩
    obtain ⟨k, hk⟩ : ∃ k, m.length = k := ⟨_, rfl⟩
    rw [hn, hk] at hlm ⊢
    have g1 : ((n : Int) == (k : Int)) = false := by simp; omega
    have g2 : ((n : Int) != (k : Int)) = true := by simp; omega
    clear hn hk hlm
    go_enter Tryz.func240, Tryz.ntmps240
    go_wp2_with fail
    go_ret
    exact ⟨by rw [HD.out]; rfl, 0, rfl⟩
theorem same_any (a b : Option Addr) (c d : Nat) (l m : List Int) (w : World) (h1 : l.length ≤ c) (h2 : m.length ≤ d) (hc : c ≤ maxLen) (hd : d ≤ maxLen) (hX : Row w a l.length (zval l)) (hY : Row w b m.length (zval m)) :
    Calls Tryz.prog 42 #[.slice a l.length c, .slice b m.length d] w fun r w' => r = .returned (.bool (decide (l = m))) ∧ ∃ z, w.drewN z = w' := by
  unfold maxLen at hc hd
  by_cases hlm : l.length = m.length
  · have HLM := Lib.hid hlm
    obtain ⟨n, hn⟩ : ∃ n, l.length = n := ⟨_, rfl⟩
    have HN := Lib.hid hn
    have hm : m.length = n := by omega
    rw [hn] at hX h1 ⊢
    rw [hm] at hY h2 ⊢
    clear hn hm hlm
    go_enter Tryz.func42, Tryz.ntmps42
    go_wp2_with fail
    go_loopw [13] (fun i wr => ∃ (k z : Nat), i = .int .i64 k ∧ k ≤ n ∧ Hid (∀ j, j < k → l.getD j 0 = m.getD j 0) ∧ w.drewN z = wr) (fun i _ => n - (intOf i).toNat)
    case atStart => exact ⟨0, 0, rfl, by omega, Lib.hid (fun j hj => by omega), rfl⟩
    case round =>
      obtain ⟨k, z, rfl, hk, HE, rfl⟩ := hrel
      by_cases hlt : k < n
      · obtain ⟨p, o, rfl, _, x1⟩ := hX.at_ hlt
        obtain ⟨q, s, rfl, _, x2⟩ := hY.at_ hlt
        unfold zval at x1 x2
        obtain ⟨x, hx⟩ : ∃ x, l.getD k 0 = x := ⟨_, rfl⟩
        obtain ⟨y, hy⟩ : ∃ y, m.getD k 0 = y := ⟨_, rfl⟩
        rw [hx] at x1
        rw [hy] at x2
        have HX := Lib.hid hx
        have HY := Lib.hid hy
        clear hx hy
        by_cases hxy : x = y
        · have HE2 : Hid (∀ j, j < k + 1 → l.getD j 0 = m.getD j 0) := Lib.hid (fun j hj => by
            by_cases e : j = k
            · subst e; rw [HX.out, HY.out, hxy]
            · exact HE.out j (by omega))
          have g1 : (x != y) = false := by simpa using hxy
          have g2 : (x == y) = true := by simpa using hxy
          clear hxy
          go_wp2_with fail
          go_quiet (fail)
          go_wp2_with fail
          exact ⟨⟨k + 1, _, by go_num, by omega, HE2, rfl⟩, by simp [intOf]; omega⟩
        · have HD : Hid (decide (l = m) = false) := Lib.hid (by
            rw [decide_eq_false_iff_not]
            intro e
            exact hxy (by rw [← HX.out, ← HY.out, e]))
          have g1 : (x != y) = true := by simpa using hxy
          have g2 : (x == y) = false := by simpa using hxy
          clear hxy
          go_wp2_with fail
          go_quiet (fail)
          go_wp2_with fail
          go_ret
          exact ⟨by rw [HD.out]; rfl, _, (World.drewN_drewN _ _ _).symm⟩
      · obtain rfl : n = k := by omega
        have HD : Hid (decide (l = m) = true) := Lib.hid (by
          rw [decide_eq_true_eq]
          exact list_eq HLM.out (by rw [HN.out]; exact HE.out))
        go_wp2_with fail
        go_ret
        exact ⟨by rw [HD.out]; rfl, z, rfl⟩
  · have HD : Hid (decide (l = m) = false) := Lib.hid (by
      rw [decide_eq_false_iff_not]
      intro e
      exact hlm (by rw [e]))
    obtain ⟨n, hn⟩ : ∃ n, l.length = n := ⟨_, rfl⟩
    obtain ⟨k, hk⟩ : ∃ k, m.length = k := ⟨_, rfl⟩
    rw [hn, hk] at hlm ⊢
    have g1 : ((n : Int) == (k : Int)) = false := by simp; omega
    have g2 : ((n : Int) != (k : Int)) = true := by simp; omega
    clear hn hk hlm
    go_enter Tryz.func42, Tryz.ntmps42
    go_wp2_with fail
    go_ret
    exact ⟨by rw [HD.out]; rfl, 0, rfl⟩
set_option maxHeartbeats 4000000 in
theorem sameE_any (p q : El) (a : Option Addr) (c : Nat) (a2 : Option Addr) (c2 : Nat) (w : World) (h : p.At w a c) (k : q.At w a2 c2) :
    Calls Tryz.prog 211 #[.agg (p.vals a c), .agg (q.vals a2 c2)] w fun r w' => r = .returned (.bool (sameE p q)) ∧ Below w.heap.size w w' := by
  have o1 : Lb.Own ((w.alloc (.cells (p.vals a c) 59)).alloc (.cells (q.vals a2 c2) 59)) w.heap.size 59 (p.vals a c) := (Own.new w _ _).alloc _
  have o2 : Lb.Own ((w.alloc (.cells (p.vals a c) 59)).alloc (.cells (q.vals a2 c2) 59)) (w.heap.size + 1) 59 (q.vals a2 c2) := by
    have := Own.new (w.alloc (.cells (p.vals a c) 59)) 59 (q.vals a2 c2)
    rwa [show (w.alloc (.cells (p.vals a c) 59)).heap.size = w.heap.size + 1 by simp] at this
  have b0 := ((Below.refl w.heap.size w).alloc (Nat.le_refl _) (.cells (p.vals a c) 59)).alloc (by simp) (.cells (q.vals a2 c2) 59)
  have h1 := h.below b0
  have k1 := k.below b0
  obtain ⟨pk, pa, pr, pt, pl⟩ := p
  obtain ⟨qk, qa, qr, qt, ql⟩ := q
  have hD : sameE ⟨pk, pa, pr, pt, pl⟩ ⟨qk, qa, qr, qt, ql⟩ = ((pk == qk) && ((pa == qa) && ((pr == qr) && ((pt == qt) && decide (pl = ql))))) := rfl
  obtain ⟨e1, he1⟩ : ∃ e, (pk == qk) = e := ⟨_, rfl⟩
  obtain ⟨e2, he2⟩ : ∃ e, (pa == qa) = e := ⟨_, rfl⟩
  obtain ⟨e3, he3⟩ : ∃ e, (pr == qr) = e := ⟨_, rfl⟩
  obtain ⟨e4, he4⟩ : ∃ e, (pt == qt) = e := ⟨_, rfl⟩
  obtain ⟨e5, he5⟩ : ∃ e, decide (pl = ql) = e := ⟨_, rfl⟩
  rw [he1, he2, he3, he4, he5] at hD
  have HD := Lib.hid hD
  unfold El.vals at *
  simp only at *
  go_enter Tryz.func211, Tryz.ntmps211
  go_upto_region 1 with (fail)
  generalize (w.alloc (.cells #[.int .i64 pk, .int .i64 pa, .int .i64 pr, .int .i64 pt, .slice a pl.length c] 59)).alloc (.cells #[.int .i64 qk, .int .i64 qa, .int .i64 qr, .int .i64 qt, .slice a2 ql.length c2] 59) = w1 at *
  have c0 := o1.cell 0
  have c1 := o1.cell 1
  have x2 := o1.cell 2
  have c3 := o1.cell 3
  have c4 := o1.cell 4
  have y0 := o2.cell 0
  have y1 := o2.cell 1
  have y2 := o2.cell 2
  have y3 := o2.cell 3
  have y4 := o2.cell 4
  simp at c0 c1 x2 c3 c4 y0 y1 y2 y3 y4
  have hI := eqi_any a a2 c c2 pl ql w1 h1.lc k1.lc h1.cm k1.cm h1.row k1.row
  rw [he5] at hI
  have HI := Lib.hid hI
  clear o1 o2 hI hD h k h1 k1 he5
  cases e1
  case' true => cases e2
  case' true.true => cases e3
  case' true.true.true => cases e4
  all_goals
    go_wp2_with (refine HI.out.mono ?_; rintro r w' ⟨rfl, zz, rfl⟩)
    all_goals
      go_ret
      exact ⟨by rw [HD.out]; rfl, by first | exact b0 | exact below_drewN b0 _⟩
end Go.Proofs.YtiflmdekcjbmbaaGreat.Ie
set_option maxRecDepth 100000
namespace Go.Proofs.YtiflmdekcjbmbaaGreat.Ie
set_option linter.unusedVariables false
set_option linter.unusedSimpArgs false
open Go.RowKit Lb Go.Shelf Bf

def v1 (asn rank : Int) : Value := .iface 254 (.agg #[.int .i64 asn, .int .i64 rank])
def v2 (ticks : Int) : Value := .iface 256 (.agg #[.int .i64 ticks])
def v3 (v : Value) : Value := .iface 258 (.agg #[v])
def v4 (v : Value) : Value := .iface 259 (.agg #[v])
theorem t11 (v : Value) (w : World) : (Instr.typeAssert (.iface 254 v) 232 254 true).run Tryz.prog w = .ok (.tuple #[v, .bool true]) w := by kernel_rfl
theorem t12 (v : Value) (w : World) : (Instr.typeAssert (.iface 254 v) 232 256 true).run Tryz.prog w = .ok (.tuple #[.agg #[.int .i64 0], .bool false]) w := by kernel_rfl
theorem t13 (v : Value) (w : World) : (Instr.typeAssert (.iface 254 v) 232 258 true).run Tryz.prog w = .ok (.tuple #[.agg #[.slice none 0 0], .bool false]) w := by kernel_rfl
theorem t14 (v : Value) (w : World) : (Instr.typeAssert (.iface 254 v) 232 259 true).run Tryz.prog w = .ok (.tuple #[.agg #[.slice none 0 0], .bool false]) w := by kernel_rfl
theorem t21 (v : Value) (w : World) : (Instr.typeAssert (.iface 256 v) 232 254 true).run Tryz.prog w = .ok (.tuple #[.agg #[.int .i64 0, .int .i64 0], .bool false]) w := by kernel_rfl
theorem t22 (v : Value) (w : World) : (Instr.typeAssert (.iface 256 v) 232 256 true).run Tryz.prog w = .ok (.tuple #[v, .bool true]) w := by kernel_rfl
theorem t23 (v : Value) (w : World) : (Instr.typeAssert (.iface 256 v) 232 258 true).run Tryz.prog w = .ok (.tuple #[.agg #[.slice none 0 0], .bool false]) w := by kernel_rfl
theorem t24 (v : Value) (w : World) : (Instr.typeAssert (.iface 256 v) 232 259 true).run Tryz.prog w = .ok (.tuple #[.agg #[.slice none 0 0], .bool false]) w := by kernel_rfl
theorem t31 (v : Value) (w : World) : (Instr.typeAssert (.iface 258 v) 232 254 true).run Tryz.prog w = .ok (.tuple #[.agg #[.int .i64 0, .int .i64 0], .bool false]) w := by kernel_rfl
theorem t32 (v : Value) (w : World) : (Instr.typeAssert (.iface 258 v) 232 256 true).run Tryz.prog w = .ok (.tuple #[.agg #[.int .i64 0], .bool false]) w := by kernel_rfl
theorem t33 (v : Value) (w : World) : (Instr.typeAssert (.iface 258 v) 232 258 true).run Tryz.prog w = .ok (.tuple #[v, .bool true]) w := by kernel_rfl
theorem t34 (v : Value) (w : World) : (Instr.typeAssert (.iface 258 v) 232 259 true).run Tryz.prog w = .ok (.tuple #[.agg #[.slice none 0 0], .bool false]) w := by kernel_rfl
theorem t41 (v : Value) (w : World) : (Instr.typeAssert (.iface 259 v) 232 254 true).run Tryz.prog w = .ok (.tuple #[.agg #[.int .i64 0, .int .i64 0], .bool false]) w := by kernel_rfl
theorem t42 (v : Value) (w : World) : (Instr.typeAssert (.iface 259 v) 232 256 true).run Tryz.prog w = .ok (.tuple #[.agg #[.int .i64 0], .bool false]) w := by kernel_rfl
theorem t43 (v : Value) (w : World) : (Instr.typeAssert (.iface 259 v) 232 258 true).run Tryz.prog w = .ok (.tuple #[.agg #[.slice none 0 0], .bool false]) w := by kernel_rfl
theorem t44 (v : Value) (w : World) : (Instr.typeAssert (.iface 259 v) 232 259 true).run Tryz.prog w = .ok (.tuple #[v, .bool true]) w := by kernel_rfl
set_option maxHeartbeats 2000000 in
theorem plain1 (x y : Int) (w : World) : Calls Tryz.prog 212 #[v1 x y] w fun r w' => r = .returned (.agg #[.int .i64 1, .int .i64 x, .int .i64 y, .int .i64 0, .slice none 0 0]) ∧ Below w.heap.size w w' := by
  have q0 := t11
  unfold v1
  go_enter Tryz.func212, Tryz.ntmps212
  go_wp2_with fail
  refine bodyPost_ret (results_cell_row rfl _ _ w.heap.size 59 #[.int .i64 1, .int .i64 x, .int .i64 y, .int .i64 0, .slice none 0 0] (0, 0) _ rfl (((Own.new w 59 #[.int .i64 1, .int .i64 x, .int .i64 y, .int .i64 0, .slice none 0 0]).alloc _)) Tryz.underlying59 rfl (by kernel_rfl)) rfl ⟨rfl, ?_⟩
  exact (((Below.refl w.heap.size w).alloc (Nat.le_refl _) (.cells #[.int .i64 1, .int .i64 x, .int .i64 y, .int .i64 0, .slice none 0 0] 59)).alloc (by simp; try omega) (.cells #[.int .i64 x, .int .i64 y] 254))
set_option maxHeartbeats 2000000 in
theorem plain2 (x : Int) (w : World) : Calls Tryz.prog 212 #[v2 x] w fun r w' => r = .returned (.agg #[.int .i64 2, .int .i64 0, .int .i64 0, .int .i64 x, .slice none 0 0]) ∧ Below w.heap.size w w' := by
  have q0 := t21
  have q1 := t22
  unfold v2
  go_enter Tryz.func212, Tryz.ntmps212
  go_wp2_with fail
  refine bodyPost_ret (results_cell_row rfl _ _ w.heap.size 59 #[.int .i64 2, .int .i64 0, .int .i64 0, .int .i64 x, .slice none 0 0] (0, 0) _ rfl ((((Own.new w 59 #[.int .i64 2, .int .i64 0, .int .i64 0, .int .i64 x, .slice none 0 0]).alloc _).alloc _)) Tryz.underlying59 rfl (by kernel_rfl)) rfl ⟨rfl, ?_⟩
  exact ((((Below.refl w.heap.size w).alloc (Nat.le_refl _) (.cells #[.int .i64 2, .int .i64 0, .int .i64 0, .int .i64 x, .slice none 0 0] 59)).alloc (by simp; try omega) (.cells #[.int .i64 0, .int .i64 0] 254)).alloc (by simp; try omega) (.cells #[.int .i64 x] 256))
set_option maxHeartbeats 2000000 in
theorem plain3 (a : Option Addr) (n c : Nat) (w : World) : Calls Tryz.prog 212 #[v3 (.slice a n c)] w fun r w' => r = .returned (.agg #[.int .i64 3, .int .i64 0, .int .i64 0, .int .i64 0, .slice a n c]) ∧ Below w.heap.size w w' := by
  have q0 := t31
  have q1 := t32
  have q2 := t33
  unfold v3
  go_enter Tryz.func212, Tryz.ntmps212
  go_wp2_with fail
  refine bodyPost_ret (results_cell_row rfl _ _ w.heap.size 59 #[.int .i64 3, .int .i64 0, .int .i64 0, .int .i64 0, .slice a n c] (0, 0) _ rfl (((((Own.new w 59 #[.int .i64 3, .int .i64 0, .int .i64 0, .int .i64 0, .slice a n c]).alloc _).alloc _).alloc _)) Tryz.underlying59 rfl (by kernel_rfl)) rfl ⟨rfl, ?_⟩
  exact (((((Below.refl w.heap.size w).alloc (Nat.le_refl _) (.cells #[.int .i64 3, .int .i64 0, .int .i64 0, .int .i64 0, .slice a n c] 59)).alloc (by simp; try omega) (.cells #[.int .i64 0, .int .i64 0] 254)).alloc (by simp; try omega) (.cells #[.int .i64 0] 256)).alloc (by simp; try omega) (.cells #[.slice a n c] 258))
set_option maxHeartbeats 2000000 in
theorem plain4 (a : Option Addr) (n c : Nat) (w : World) : Calls Tryz.prog 212 #[v4 (.slice a n c)] w fun r w' => r = .returned (.agg #[.int .i64 4, .int .i64 0, .int .i64 0, .int .i64 0, .slice a n c]) ∧ Below w.heap.size w w' := by
  have q0 := t41
  have q1 := t42
  have q2 := t43
  have q3 := t44
  unfold v4
  go_enter Tryz.func212, Tryz.ntmps212
  go_wp2_with fail
  refine bodyPost_ret (results_cell_row rfl _ _ w.heap.size 59 #[.int .i64 4, .int .i64 0, .int .i64 0, .int .i64 0, .slice a n c] (0, 0) _ rfl ((((((Own.new w 59 #[.int .i64 4, .int .i64 0, .int .i64 0, .int .i64 0, .slice a n c]).alloc _).alloc _).alloc _).alloc _)) Tryz.underlying59 rfl (by kernel_rfl)) rfl ⟨rfl, ?_⟩
  exact ((((((Below.refl w.heap.size w).alloc (Nat.le_refl _) (.cells #[.int .i64 4, .int .i64 0, .int .i64 0, .int .i64 0, .slice a n c] 59)).alloc (by simp; try omega) (.cells #[.int .i64 0, .int .i64 0] 254)).alloc (by simp; try omega) (.cells #[.int .i64 0] 256)).alloc (by simp; try omega) (.cells #[.slice none 0 0] 258)).alloc (by simp; try omega) (.cells #[.slice a n c] 259))

theorem meth1 (k : Nat) (u v : Value) (w : World) : (method (k + 1) 254 (.agg #[u, v]) "campanile/ie.fits").run Tryz.prog w = .ok (274, .agg #[u, v]) w := by kernel_rfl
theorem meth2 (k : Nat) (v : Value) (w : World) : (method (k + 1) 256 (.agg #[v]) "campanile/ie.fits").run Tryz.prog w = .ok (276, .agg #[v]) w := by kernel_rfl
theorem meth3 (k : Nat) (v : Value) (w : World) : (method (k + 1) 258 (.agg #[v]) "campanile/ie.fits").run Tryz.prog w = .ok (277, .agg #[v]) w := by kernel_rfl
theorem meth4 (k : Nat) (v : Value) (w : World) : (method (k + 1) 259 (.agg #[v]) "campanile/ie.fits").run Tryz.prog w = .ok (279, .agg #[v]) w := by kernel_rfl
theorem keep_cell {v w : World} (h : Below v.heap.size v w) {p : Addr} {u : Value} (hc : v.cell? p = some u) : w.cell? p = some u := (h.cell (lt_of_cell hc)).trans hc
theorem El.At.none (w : World) (k x y t : Int) : (⟨k, x, y, t, []⟩ : El).At w none 0 := ⟨Nat.le_refl _, Nat.zero_le _, Row.nil _ _ _, fun _ => rfl⟩
set_option maxHeartbeats 2000000 in
theorem from1 (asn rank t : Int) (l : List Int) (a : Option Addr) (c : Nat) (w : World) (h : (⟨1, asn, rank, t, l⟩ : El).At w a c) :
    Calls Tryz.prog 182 #[.agg #[.int .i64 1, .int .i64 asn, .int .i64 rank, .int .i64 t, .slice a l.length c]] w fun r w' => r = .returned (.tuple #[v1 asn rank, .bool (mayE ⟨1, asn, rank, t, l⟩)]) ∧ Below w.heap.size w w' := by
  have o1 := Own.new w 59 #[.int .i64 1, .int .i64 asn, .int .i64 rank, .int .i64 t, .slice a l.length c]
  have b0 := (Below.refl w.heap.size w).alloc (Nat.le_refl _) (.cells #[.int .i64 1, .int .i64 asn, .int .i64 rank, .int .i64 t, .slice a l.length c] 59)
  have h1 := h.below b0
  have hsz : w.heap.size ≤ (w.alloc (.cells #[.int .i64 1, .int .i64 asn, .int .i64 rank, .int .i64 t, .slice a l.length c] 59)).heap.size := by simp
  go_enter Tryz.func182, Tryz.ntmps182
  go_upto_region 2 with (fail)
  generalize w.alloc (.cells #[.int .i64 1, .int .i64 asn, .int .i64 rank, .int .i64 t, .slice a l.length c] 59) = w1 at *
  have c0 := o1.cell 0
  have c1 := o1.cell 1
  have c2 := o1.cell 2
  have c3 := o1.cell 3
  have c4 := o1.cell 4
  simp at c0 c1 c2 c3 c4
  go_upto_region 12 with (fail)
  have x0 : ∀ x : Ext w1, x.toW.cell? ⟨w.heap.size, 0, none⟩ = some (.int .i64 1) := fun x => keep_cell x.ok (o1.cell 0)
  have x1 : ∀ x : Ext w1, x.toW.cell? ⟨w.heap.size, 1, none⟩ = some (.int .i64 asn) := fun x => keep_cell x.ok (o1.cell 1)
  have x2 : ∀ x : Ext w1, x.toW.cell? ⟨w.heap.size, 2, none⟩ = some (.int .i64 rank) := fun x => keep_cell x.ok (o1.cell 2)
  have x3 : ∀ x : Ext w1, x.toW.cell? ⟨w.heap.size, 3, none⟩ = some (.int .i64 t) := fun x => keep_cell x.ok (o1.cell 3)
  have x4 : ∀ x : Ext w1, x.toW.cell? ⟨w.heap.size, 4, none⟩ = some (.slice a l.length c) := fun x => keep_cell x.ok (o1.cell 4)
  have hm := fun k u v (x : Ext w1) => meth1 k u v x.toW
  have F : ∀ x : Ext w1, Calls Tryz.prog 274 #[.agg #[.int .i64 asn, .int .i64 rank]] x.toW fun r w' => r = .returned (.bool (s1B asn rank)) ∧ Below x.toW.heap.size x.toW w' := fun x => fits1 asn rank x.toW
  have G : ∀ x : Ext w1, Calls Tryz.prog 212 #[.iface 254 (.agg #[.int .i64 asn, .int .i64 rank])] x.toW fun r w' => r = .returned (.agg #[.int .i64 1, .int .i64 asn, .int .i64 rank, .int .i64 0, .slice none 0 0]) ∧ Below x.toW.heap.size x.toW w' := fun x => plain1 asn rank x.toW
  have S : ∀ x : Ext w1, Calls Tryz.prog 211 #[.agg #[.int .i64 1, .int .i64 asn, .int .i64 rank, .int .i64 0, .slice none 0 0], .agg #[.int .i64 1, .int .i64 asn, .int .i64 rank, .int .i64 t, .slice a l.length c]] x.toW fun r w' => r = .returned (.bool (sameE ⟨1, asn, rank, 0, []⟩ ⟨1, asn, rank, t, l⟩)) ∧ Below x.toW.heap.size x.toW w' :=
    fun x => sameE_any ⟨1, asn, rank, 0, []⟩ ⟨1, asn, rank, t, l⟩ none 0 a c x.toW (El.At.none _ _ _ _ _) (h1.below x.ok)
  obtain ⟨e, he⟩ : ∃ e, s1B asn rank = e := ⟨_, rfl⟩
  obtain ⟨q, hq⟩ : ∃ q, sameE ⟨1, asn, rank, 0, []⟩ ⟨1, asn, rank, t, l⟩ = q := ⟨_, rfl⟩
  have HM : Hid (mayE ⟨1, asn, rank, t, l⟩ = (e && q)) := Lib.hid (by rw [← he, ← hq]; rfl)
  rw [he] at F
  rw [hq] at S
  have FF := Lib.hid F
  have GG := Lib.hid G
  have SS := Lib.hid S
  clear F G S c0 c1 c2 c3 c4 h h1 o1 he hq
  unfold v1 at *
  cases e
  · refine wp_region_ext w1 (by kernel_rfl) (by kernel_rfl) (Below.refl _ _) ?_
    repeat (go_big_quiet_step (first | (go_at_call 274; with_reducible exact ext_below _ (u := .bool false) (FF.out _))))
    refine wpQuiet_nil ?_
    rintro w9 ⟨x9, rfl⟩
    go_wp2_with fail
    go_ret2
    exact ⟨by rw [HM.out]; rfl, b0.trans (x9.ok.mono hsz)⟩
  · refine wp_region_ext w1 (by kernel_rfl) (by kernel_rfl) (Below.refl _ _) ?_
    repeat (go_big_quiet_step (first
      | (go_at_call 274; with_reducible exact ext_below _ (u := .bool true) (FF.out _))
      | (go_at_call 212; with_reducible exact ext_below _ (u := .agg #[.int .i64 1, .int .i64 asn, .int .i64 rank, .int .i64 0, .slice none 0 0]) (GG.out _))
      | (go_at_call 211; with_reducible exact ext_below _ (u := .bool q) (SS.out _))))
    refine wpQuiet_nil ?_
    rintro w9 ⟨x9, rfl⟩
    go_wp2_with fail
    go_ret2
    exact ⟨by rw [HM.out]; rfl, b0.trans (x9.ok.mono hsz)⟩
set_option maxHeartbeats 2000000 in
theorem from2 (asn rank t : Int) (l : List Int) (a : Option Addr) (c : Nat) (w : World) (h : (⟨2, asn, rank, t, l⟩ : El).At w a c) :
    Calls Tryz.prog 182 #[.agg #[.int .i64 2, .int .i64 asn, .int .i64 rank, .int .i64 t, .slice a l.length c]] w fun r w' => r = .returned (.tuple #[v2 t, .bool (mayE ⟨2, asn, rank, t, l⟩)]) ∧ Below w.heap.size w w' := by
  have o1 := Own.new w 59 #[.int .i64 2, .int .i64 asn, .int .i64 rank, .int .i64 t, .slice a l.length c]
  have b0 := (Below.refl w.heap.size w).alloc (Nat.le_refl _) (.cells #[.int .i64 2, .int .i64 asn, .int .i64 rank, .int .i64 t, .slice a l.length c] 59)
  have h1 := h.below b0
  have hsz : w.heap.size ≤ (w.alloc (.cells #[.int .i64 2, .int .i64 asn, .int .i64 rank, .int .i64 t, .slice a l.length c] 59)).heap.size := by simp
  go_enter Tryz.func182, Tryz.ntmps182
  go_upto_region 2 with (fail)
  generalize w.alloc (.cells #[.int .i64 2, .int .i64 asn, .int .i64 rank, .int .i64 t, .slice a l.length c] 59) = w1 at *
  have c0 := o1.cell 0
  have c1 := o1.cell 1
  have c2 := o1.cell 2
  have c3 := o1.cell 3
  have c4 := o1.cell 4
  simp at c0 c1 c2 c3 c4
  go_upto_region 12 with (fail)
  have x0 : ∀ x : Ext w1, x.toW.cell? ⟨w.heap.size, 0, none⟩ = some (.int .i64 2) := fun x => keep_cell x.ok (o1.cell 0)
  have x1 : ∀ x : Ext w1, x.toW.cell? ⟨w.heap.size, 1, none⟩ = some (.int .i64 asn) := fun x => keep_cell x.ok (o1.cell 1)
  have x2 : ∀ x : Ext w1, x.toW.cell? ⟨w.heap.size, 2, none⟩ = some (.int .i64 rank) := fun x => keep_cell x.ok (o1.cell 2)
  have x3 : ∀ x : Ext w1, x.toW.cell? ⟨w.heap.size, 3, none⟩ = some (.int .i64 t) := fun x => keep_cell x.ok (o1.cell 3)
  have x4 : ∀ x : Ext w1, x.toW.cell? ⟨w.heap.size, 4, none⟩ = some (.slice a l.length c) := fun x => keep_cell x.ok (o1.cell 4)
  have hm := fun k v (x : Ext w1) => meth2 k v x.toW
  have F : ∀ x : Ext w1, Calls Tryz.prog 276 #[.agg #[.int .i64 t]] x.toW fun r w' => r = .returned (.bool (s2B t)) ∧ Below x.toW.heap.size x.toW w' := fun x => fits2 t x.toW
  have G : ∀ x : Ext w1, Calls Tryz.prog 212 #[.iface 256 (.agg #[.int .i64 t])] x.toW fun r w' => r = .returned (.agg #[.int .i64 2, .int .i64 0, .int .i64 0, .int .i64 t, .slice none 0 0]) ∧ Below x.toW.heap.size x.toW w' := fun x => plain2 t x.toW
  have S : ∀ x : Ext w1, Calls Tryz.prog 211 #[.agg #[.int .i64 2, .int .i64 0, .int .i64 0, .int .i64 t, .slice none 0 0], .agg #[.int .i64 2, .int .i64 asn, .int .i64 rank, .int .i64 t, .slice a l.length c]] x.toW fun r w' => r = .returned (.bool (sameE ⟨2, 0, 0, t, []⟩ ⟨2, asn, rank, t, l⟩)) ∧ Below x.toW.heap.size x.toW w' :=
    fun x => sameE_any ⟨2, 0, 0, t, []⟩ ⟨2, asn, rank, t, l⟩ none 0 a c x.toW (El.At.none _ _ _ _ _) (h1.below x.ok)
  obtain ⟨e, he⟩ : ∃ e, s2B t = e := ⟨_, rfl⟩
  obtain ⟨q, hq⟩ : ∃ q, sameE ⟨2, 0, 0, t, []⟩ ⟨2, asn, rank, t, l⟩ = q := ⟨_, rfl⟩
  have HM : Hid (mayE ⟨2, asn, rank, t, l⟩ = (e && q)) := Lib.hid (by rw [← he, ← hq]; rfl)
  rw [he] at F
  rw [hq] at S
  have FF := Lib.hid F
  have GG := Lib.hid G
  have SS := Lib.hid S
  clear F G S c0 c1 c2 c3 c4 h h1 o1 he hq
  unfold v2 at *
  cases e
  · refine wp_region_ext w1 (by kernel_rfl) (by kernel_rfl) (Below.refl _ _) ?_
    repeat (go_big_quiet_step (first | (go_at_call 276; with_reducible exact ext_below _ (u := .bool false) (FF.out _))))
    refine wpQuiet_nil ?_
    rintro w9 ⟨x9, rfl⟩
    go_wp2_with fail
    go_ret2
    exact ⟨by rw [HM.out]; rfl, b0.trans (x9.ok.mono hsz)⟩
  · refine wp_region_ext w1 (by kernel_rfl) (by kernel_rfl) (Below.refl _ _) ?_
    repeat (go_big_quiet_step (first
      | (go_at_call 276; with_reducible exact ext_below _ (u := .bool true) (FF.out _))
      | (go_at_call 212; with_reducible exact ext_below _ (u := .agg #[.int .i64 2, .int .i64 0, .int .i64 0, .int .i64 t, .slice none 0 0]) (GG.out _))
      | (go_at_call 211; with_reducible exact ext_below _ (u := .bool q) (SS.out _))))
    refine wpQuiet_nil ?_
    rintro w9 ⟨x9, rfl⟩
    go_wp2_with fail
    go_ret2
    exact ⟨by rw [HM.out]; rfl, b0.trans (x9.ok.mono hsz)⟩
set_option maxHeartbeats 2000000 in
theorem from3 (asn rank t : Int) (l : List Int) (a : Option Addr) (c : Nat) (w : World) (h : (⟨3, asn, rank, t, l⟩ : El).At w a c) :
    Calls Tryz.prog 182 #[.agg #[.int .i64 3, .int .i64 asn, .int .i64 rank, .int .i64 t, .slice a l.length c]] w fun r w' => r = .returned (.tuple #[v3 (.slice a l.length c), .bool (mayE ⟨3, asn, rank, t, l⟩)]) ∧ Below w.heap.size w w' := by
  have o1 := Own.new w 59 #[.int .i64 3, .int .i64 asn, .int .i64 rank, .int .i64 t, .slice a l.length c]
  have b0 := (Below.refl w.heap.size w).alloc (Nat.le_refl _) (.cells #[.int .i64 3, .int .i64 asn, .int .i64 rank, .int .i64 t, .slice a l.length c] 59)
  have h1 := h.below b0
  have hsz : w.heap.size ≤ (w.alloc (.cells #[.int .i64 3, .int .i64 asn, .int .i64 rank, .int .i64 t, .slice a l.length c] 59)).heap.size := by simp
  go_enter Tryz.func182, Tryz.ntmps182
  go_upto_region 2 with (fail)
  generalize w.alloc (.cells #[.int .i64 3, .int .i64 asn, .int .i64 rank, .int .i64 t, .slice a l.length c] 59) = w1 at *
  have c0 := o1.cell 0
  have c1 := o1.cell 1
  have c2 := o1.cell 2
  have c3 := o1.cell 3
  have c4 := o1.cell 4
  simp at c0 c1 c2 c3 c4
  go_upto_region 12 with (fail)
  have x0 : ∀ x : Ext w1, x.toW.cell? ⟨w.heap.size, 0, none⟩ = some (.int .i64 3) := fun x => keep_cell x.ok (o1.cell 0)
  have x1 : ∀ x : Ext w1, x.toW.cell? ⟨w.heap.size, 1, none⟩ = some (.int .i64 asn) := fun x => keep_cell x.ok (o1.cell 1)
  have x2 : ∀ x : Ext w1, x.toW.cell? ⟨w.heap.size, 2, none⟩ = some (.int .i64 rank) := fun x => keep_cell x.ok (o1.cell 2)
  have x3 : ∀ x : Ext w1, x.toW.cell? ⟨w.heap.size, 3, none⟩ = some (.int .i64 t) := fun x => keep_cell x.ok (o1.cell 3)
  have x4 : ∀ x : Ext w1, x.toW.cell? ⟨w.heap.size, 4, none⟩ = some (.slice a l.length c) := fun x => keep_cell x.ok (o1.cell 4)
  have hm := fun k v (x : Ext w1) => meth3 k v x.toW
  have F : ∀ x : Ext w1, Calls Tryz.prog 277 #[.agg #[.slice a l.length c]] x.toW fun r w' => r = .returned (.bool (listB l)) ∧ Below x.toW.heap.size x.toW w' := fun x => fits3 a c l x.toW h1.lc h1.cm (h1.row.below x.ok)
  have G : ∀ x : Ext w1, Calls Tryz.prog 212 #[.iface 258 (.agg #[.slice a l.length c])] x.toW fun r w' => r = .returned (.agg #[.int .i64 3, .int .i64 0, .int .i64 0, .int .i64 0, .slice a l.length c]) ∧ Below x.toW.heap.size x.toW w' := fun x => plain3 a l.length c x.toW
  have S : ∀ x : Ext w1, Calls Tryz.prog 211 #[.agg #[.int .i64 3, .int .i64 0, .int .i64 0, .int .i64 0, .slice a l.length c], .agg #[.int .i64 3, .int .i64 asn, .int .i64 rank, .int .i64 t, .slice a l.length c]] x.toW fun r w' => r = .returned (.bool (sameE ⟨3, 0, 0, 0, l⟩ ⟨3, asn, rank, t, l⟩)) ∧ Below x.toW.heap.size x.toW w' :=
    fun x => sameE_any ⟨3, 0, 0, 0, l⟩ ⟨3, asn, rank, t, l⟩ a c a c x.toW (⟨h1.lc, h1.cm, h1.row.below x.ok, h1.nil⟩) (h1.below x.ok)
  obtain ⟨e, he⟩ : ∃ e, listB l = e := ⟨_, rfl⟩
  obtain ⟨q, hq⟩ : ∃ q, sameE ⟨3, 0, 0, 0, l⟩ ⟨3, asn, rank, t, l⟩ = q := ⟨_, rfl⟩
  have HM : Hid (mayE ⟨3, asn, rank, t, l⟩ = (e && q)) := Lib.hid (by rw [← he, ← hq]; rfl)
  rw [he] at F
  rw [hq] at S
  have FF := Lib.hid F
  have GG := Lib.hid G
  have SS := Lib.hid S
  clear F G S c0 c1 c2 c3 c4 h h1 o1 he hq
  unfold v3 at *
  cases e
  · refine wp_region_ext w1 (by kernel_rfl) (by kernel_rfl) (Below.refl _ _) ?_
    repeat (go_big_quiet_step (first | (go_at_call 277; with_reducible exact ext_below _ (u := .bool false) (FF.out _))))
    refine wpQuiet_nil ?_
    rintro w9 ⟨x9, rfl⟩
    go_wp2_with fail
    go_ret2
    exact ⟨by rw [HM.out]; rfl, b0.trans (x9.ok.mono hsz)⟩
  · refine wp_region_ext w1 (by kernel_rfl) (by kernel_rfl) (Below.refl _ _) ?_
    repeat (go_big_quiet_step (first
      | (go_at_call 277; with_reducible exact ext_below _ (u := .bool true) (FF.out _))
      | (go_at_call 212; with_reducible exact ext_below _ (u := .agg #[.int .i64 3, .int .i64 0, .int .i64 0, .int .i64 0, .slice a l.length c]) (GG.out _))
      | (go_at_call 211; with_reducible exact ext_below _ (u := .bool q) (SS.out _))))
    refine wpQuiet_nil ?_
    rintro w9 ⟨x9, rfl⟩
    go_wp2_with fail
    go_ret2
    exact ⟨by rw [HM.out]; rfl, b0.trans (x9.ok.mono hsz)⟩
set_option maxHeartbeats 2000000 in
theorem from4 (asn rank t : Int) (l : List Int) (a : Option Addr) (c : Nat) (w : World) (h : (⟨4, asn, rank, t, l⟩ : El).At w a c) :
    Calls Tryz.prog 182 #[.agg #[.int .i64 4, .int .i64 asn, .int .i64 rank, .int .i64 t, .slice a l.length c]] w fun r w' => r = .returned (.tuple #[v4 (.slice a l.length c), .bool (mayE ⟨4, asn, rank, t, l⟩)]) ∧ Below w.heap.size w w' := by
  have o1 := Own.new w 59 #[.int .i64 4, .int .i64 asn, .int .i64 rank, .int .i64 t, .slice a l.length c]
  have b0 := (Below.refl w.heap.size w).alloc (Nat.le_refl _) (.cells #[.int .i64 4, .int .i64 asn, .int .i64 rank, .int .i64 t, .slice a l.length c] 59)
  have h1 := h.below b0
  have hsz : w.heap.size ≤ (w.alloc (.cells #[.int .i64 4, .int .i64 asn, .int .i64 rank, .int .i64 t, .slice a l.length c] 59)).heap.size := by simp
  go_enter Tryz.func182, Tryz.ntmps182
  go_upto_region 2 with (fail)
  generalize w.alloc (.cells #[.int .i64 4, .int .i64 asn, .int .i64 rank, .int .i64 t, .slice a l.length c] 59) = w1 at *
  have c0 := o1.cell 0
  have c1 := o1.cell 1
  have c2 := o1.cell 2
  have c3 := o1.cell 3
  have c4 := o1.cell 4
  simp at c0 c1 c2 c3 c4
  go_upto_region 12 with (fail)
  have x0 : ∀ x : Ext w1, x.toW.cell? ⟨w.heap.size, 0, none⟩ = some (.int .i64 4) := fun x => keep_cell x.ok (o1.cell 0)
  have x1 : ∀ x : Ext w1, x.toW.cell? ⟨w.heap.size, 1, none⟩ = some (.int .i64 asn) := fun x => keep_cell x.ok (o1.cell 1)
  have x2 : ∀ x : Ext w1, x.toW.cell? ⟨w.heap.size, 2, none⟩ = some (.int .i64 rank) := fun x => keep_cell x.ok (o1.cell 2)
  have x3 : ∀ x : Ext w1, x.toW.cell? ⟨w.heap.size, 3, none⟩ = some (.int .i64 t) := fun x => keep_cell x.ok (o1.cell 3)
  have x4 : ∀ x : Ext w1, x.toW.cell? ⟨w.heap.size, 4, none⟩ = some (.slice a l.length c) := fun x => keep_cell x.ok (o1.cell 4)
  have hm := fun k v (x : Ext w1) => meth4 k v x.toW
  have F : ∀ x : Ext w1, Calls Tryz.prog 279 #[.agg #[.slice a l.length c]] x.toW fun r w' => r = .returned (.bool (listB l)) ∧ Below x.toW.heap.size x.toW w' := fun x => fits4 a c l x.toW h1.lc h1.cm (h1.row.below x.ok)
  have G : ∀ x : Ext w1, Calls Tryz.prog 212 #[.iface 259 (.agg #[.slice a l.length c])] x.toW fun r w' => r = .returned (.agg #[.int .i64 4, .int .i64 0, .int .i64 0, .int .i64 0, .slice a l.length c]) ∧ Below x.toW.heap.size x.toW w' := fun x => plain4 a l.length c x.toW
  have S : ∀ x : Ext w1, Calls Tryz.prog 211 #[.agg #[.int .i64 4, .int .i64 0, .int .i64 0, .int .i64 0, .slice a l.length c], .agg #[.int .i64 4, .int .i64 asn, .int .i64 rank, .int .i64 t, .slice a l.length c]] x.toW fun r w' => r = .returned (.bool (sameE ⟨4, 0, 0, 0, l⟩ ⟨4, asn, rank, t, l⟩)) ∧ Below x.toW.heap.size x.toW w' :=
    fun x => sameE_any ⟨4, 0, 0, 0, l⟩ ⟨4, asn, rank, t, l⟩ a c a c x.toW (⟨h1.lc, h1.cm, h1.row.below x.ok, h1.nil⟩) (h1.below x.ok)
  obtain ⟨e, he⟩ : ∃ e, listB l = e := ⟨_, rfl⟩
  obtain ⟨q, hq⟩ : ∃ q, sameE ⟨4, 0, 0, 0, l⟩ ⟨4, asn, rank, t, l⟩ = q := ⟨_, rfl⟩
  have HM : Hid (mayE ⟨4, asn, rank, t, l⟩ = (e && q)) := Lib.hid (by rw [← he, ← hq]; rfl)
  rw [he] at F
  rw [hq] at S
  have FF := Lib.hid F
  have GG := Lib.hid G
  have SS := Lib.hid S
  clear F G S c0 c1 c2 c3 c4 h h1 o1 he hq
  unfold v4 at *
  cases e
  · refine wp_region_ext w1 (by kernel_rfl) (by kernel_rfl) (Below.refl _ _) ?_
    repeat (go_big_quiet_step (first | (go_at_call 279; with_reducible exact ext_below _ (u := .bool false) (FF.out _))))
    refine wpQuiet_nil ?_
    rintro w9 ⟨x9, rfl⟩
    go_wp2_with fail
    go_ret2
    exact ⟨by rw [HM.out]; rfl, b0.trans (x9.ok.mono hsz)⟩
  · refine wp_region_ext w1 (by kernel_rfl) (by kernel_rfl) (Below.refl _ _) ?_
    repeat (go_big_quiet_step (first
      | (go_at_call 279; with_reducible exact ext_below _ (u := .bool true) (FF.out _))
      | (go_at_call 212; with_reducible exact ext_below _ (u := .agg #[.int .i64 4, .int .i64 0, .int .i64 0, .int .i64 0, .slice a l.length c]) (GG.out _))
      | (go_at_call 211; with_reducible exact ext_below _ (u := .bool q) (SS.out _))))
    refine wpQuiet_nil ?_
    rintro w9 ⟨x9, rfl⟩
    go_wp2_with fail
    go_ret2
    exact ⟨by rw [HM.out]; rfl, b0.trans (x9.ok.mono hsz)⟩
set_option maxHeartbeats 2000000 in
theorem from0 (k asn rank t : Int) (v : Value) (w : World) (h1 : k ≠ 1) (h2 : k ≠ 2) (h3 : k ≠ 3) (h4 : k ≠ 4) :
    Calls Tryz.prog 182 #[.agg #[.int .i64 k, .int .i64 asn, .int .i64 rank, .int .i64 t, v]] w fun r w' => r = .returned (.tuple #[.nilIface, .bool false]) ∧ Below w.heap.size w w' := by
  have b0 := (Below.refl w.heap.size w).alloc (Nat.le_refl _) (.cells #[.int .i64 k, .int .i64 asn, .int .i64 rank, .int .i64 t, v] 59)
  have g1 : (k == 1) = false := by simpa using h1
  have g2 : (k == 2) = false := by simpa using h2
  have g3 : (k == 3) = false := by simpa using h3
  have g4 : (k == 4) = false := by simpa using h4
  clear h1 h2 h3 h4
  go_enter Tryz.func182, Tryz.ntmps182
  go_wp2_with fail
  go_ret2
  exact ⟨rfl, b0⟩
/-- What from tells. -/
def fromV (e : El) (a : Option Addr) (c : Nat) : Value := if e.k = 1 then v1 e.asn e.rank else if e.k = 2 then v2 e.ticks else if e.k = 3 then v3 (.slice a e.list.length c) else if e.k = 4 then v4 (.slice a e.list.length c) else .nilIface
theorem from_any (e : El) (a : Option Addr) (c : Nat) (w : World) (h : e.At w a c) :
    Calls Tryz.prog 182 #[.agg (e.vals a c)] w fun r w' => r = .returned (.tuple #[fromV e a c, .bool (mayE e)]) ∧ Below w.heap.size w w' := by
  obtain ⟨k, asn, rank, t, l⟩ := e
  by_cases k1 : k = 1
  · subst k1; exact from1 asn rank t l a c w h
  by_cases k2 : k = 2
  · subst k2; exact from2 asn rank t l a c w h
  by_cases k3 : k = 3
  · subst k3; exact from3 asn rank t l a c w h
  by_cases k4 : k = 4
  · subst k4; exact from4 asn rank t l a c w h
  have e1 : fromV ⟨k, asn, rank, t, l⟩ a c = .nilIface := by unfold fromV; simp [k1, k2, k3, k4]
  have e2 : mayE ⟨k, asn, rank, t, l⟩ = false := by unfold mayE fitB; simp [k1, k2, k3, k4]
  rw [e1, e2]
  exact from0 k asn rank t _ w k1 k2 k3 k4
theorem may_any (e : El) (a : Option Addr) (c : Nat) (w : World) (h : e.At w a c) :
    Calls Tryz.prog 210 #[.agg (e.vals a c)] w fun r w' => r = .returned (.bool (mayE e)) ∧ Below w.heap.size w w' := by
  have o1 := Own.new w 59 (e.vals a c)
  have b0 := (Below.refl w.heap.size w).alloc (Nat.le_refl _) (.cells (e.vals a c) 59)
  have h1 := h.below b0
  have hsz : w.heap.size ≤ (w.alloc (.cells (e.vals a c) 59)).heap.size := by simp
  have hf := from_any e a c _ h1
  have HF := Lib.hid hf
  clear hf
  obtain ⟨k, asn, rank, t, l⟩ := e
  obtain ⟨q, hq⟩ : ∃ q, mayE ⟨k, asn, rank, t, l⟩ = q := ⟨_, rfl⟩
  rw [hq] at HF ⊢
  obtain ⟨u, hu⟩ : ∃ u, fromV ⟨k, asn, rank, t, l⟩ a c = u := ⟨_, rfl⟩
  rw [hu] at HF
  unfold El.vals at *
  simp only at *
  go_enter Tryz.func210, Tryz.ntmps210
  go_wp2_with (refine HF.out.mono ?_; rintro r w' ⟨rfl, b1⟩)
  go_ret
  exact ⟨rfl, b0.trans (b1.mono hsz)⟩
end Go.Proofs.YtiflmdekcjbmbaaGreat.Ie
