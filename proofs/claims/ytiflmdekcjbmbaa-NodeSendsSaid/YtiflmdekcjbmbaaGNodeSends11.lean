/-
  Package ie (chapter 6): elements as plain data; which may be; their bytes. Package ie (chapter 6): which numbers, which lists fit; alike or not. Package ie (chapter 6) and the reference: two rows of numbers, two elements: alike or not. Package ie (chapter 6): an element as one of its kind; back in the face's form. The reference's word on which elements may be.
-/
import Derived.Test.YtiflmdekcjbmbaaGNodeSends10
import Derived.Test.YtiflmdekcjbmbaaGNodeSends04
import Derived.Test.YtiflmdekcjbmbaaGNodeSends03
set_option maxRecDepth 100000
namespace Go.Proofs.Ytiflmdekcjbmbaa.Ie
set_option linter.unusedVariables false
set_option linter.unusedSimpArgs false
open Go.RowKit Lb Bf

structure El where
  k : Int
  asn : Int
  rank : Int
  ticks : Int
  list : List Int
def El.vals (e : El) (a : Option Addr) (c : Nat) : Array Value := #[.int .i64 e.k, .int .i64 e.asn, .int .i64 e.rank, .int .i64 e.ticks, .slice a e.list.length c]
def zval (zs : List Int) (j : Nat) : Value := .int .i64 (zs.getD j 0)
/-- The row of an element, as it lies. -/
structure El.At (w : World) (e : El) (a : Option Addr) (c : Nat) : Prop where
  lc : e.list.length ≤ c
  cm : c ≤ maxLen
  row : Row w a e.list.length (zval e.list)
  nil : a = none → e.list.length = 0
theorem El.At.below {w w' : World} {e : El} {a : Option Addr} {c : Nat} (h : e.At w a c) (b : Below w.heap.size w w') : e.At w' a c := ⟨h.lc, h.cm, h.row.below b, h.nil⟩
def octB (x : Int) : Bool := decide (0 ≤ x ∧ x ≤ 255)
def octsB (l : List Int) : Bool := decide (∀ j, j < l.length → 0 ≤ l.getD j 0 ∧ l.getD j 0 ≤ 255)
def listB (l : List Int) : Bool := octsB l && decide (l.length ≤ 16)
/-- Its own kind's fields are within their bounds. -/
def fitB (e : El) : Bool :=
  if e.k = 1 then decide (0 ≤ e.asn ∧ e.asn < 1099511627776) && octB e.rank
  else if e.k = 2 then decide (-32768 ≤ e.ticks ∧ e.ticks ≤ 32767)
  else if e.k = 3 ∨ e.k = 4 then listB e.list
  else false
/-- What is left of it in its own kind's form. -/
def own (e : El) : El :=
  if e.k = 1 then ⟨1, e.asn, e.rank, 0, []⟩
  else if e.k = 2 then ⟨2, 0, 0, e.ticks, []⟩
  else ⟨e.k, 0, 0, 0, e.list⟩
def sameE (a b : El) : Bool := (a.k == b.k) && ((a.asn == b.asn) && ((a.rank == b.rank) && ((a.ticks == b.ticks) && decide (a.list = b.list))))
theorem sameE_eq {a b : El} (h : sameE a b = true) : a = b := by
  unfold sameE at h
  simp at h
  obtain ⟨h1, h2, h3, h4, h5⟩ := h
  cases a; cases b
  simp at *
  exact ⟨h1, h2, h3, h4, h5⟩
theorem sameE_self (a : El) : sameE a a = true := by unfold sameE; simp
def mayE (e : El) : Bool := fitB e && sameE (own e) e
theorem mayE_out {e : El} (h : mayE e = true) : fitB e = true ∧ own e = e := by
  unfold mayE at h
  rw [Bool.and_eq_true] at h
  exact ⟨h.1, sameE_eq h.2⟩
theorem mayE_kind {e : El} (h : mayE e = true) : e.k = 1 ∨ e.k = 2 ∨ e.k = 3 ∨ e.k = 4 := by
  have h1 := (mayE_out h).1
  unfold fitB at h1
  by_cases k1 : e.k = 1
  · exact .inl k1
  by_cases k2 : e.k = 2
  · exact .inr (.inl k2)
  by_cases k3 : e.k = 3 ∨ e.k = 4
  · exact .inr (.inr k3)
  rw [if_neg k1, if_neg k2, if_neg k3] at h1
  cases h1
/-- A number that may be negative, as 64 bits. -/
def u64 (x : Int) : Nat := (x % 18446744073709551616).toNat
theorem u64_lt (x : Int) : u64 x < 18446744073709551616 := by unfold u64; omega
/-- The bytes of an element. -/
def encOne (e : El) : List Int :=
  if e.k = 1 then [1] ++ [6] ++ bytesK e.asn.toNat 5 ++ [e.rank]
  else if e.k = 2 then [2] ++ [2] ++ bytesK (u64 e.ticks) 2
  else [e.k] ++ [(e.list.length : Int)] ++ e.list
def encL : List El → List Int
  | [] => []
  | e :: l => encOne e ++ encL l
theorem encL_snoc (l : List El) (e : El) : encL (l ++ [e]) = encL l ++ encOne e := by
  induction l with
  | nil => simp [encL]
  | cons x l ih => simp [encL, ih]
theorem encL_take {l : List El} {k : Nat} (hk : k < l.length) : encL (l.take (k + 1)) = encL (l.take k) ++ encOne l[k] := by
  rw [List.take_succ_eq_append_getElem hk, encL_snoc]
def encI (l : List El) : List Int := [(l.length : Int)] ++ encL l
def mayL (l : List El) : Bool := decide (l.length ≤ 4) && l.all mayE
theorem encOne_len {e : El} (h : mayE e = true) : (encOne e).length ≤ 18 := by
  have h1 := (mayE_out h).1
  unfold fitB at h1
  unfold encOne
  by_cases k1 : e.k = 1
  · rw [if_pos k1]; simp [bytesK_len]
  by_cases k2 : e.k = 2
  · rw [if_neg k1, if_pos k2]; simp [bytesK_len]
  by_cases k3 : e.k = 3 ∨ e.k = 4
  · rw [if_neg k1, if_neg k2, if_pos k3] at h1
    rw [if_neg k1, if_neg k2]
    unfold listB at h1
    rw [Bool.and_eq_true, decide_eq_true_eq] at h1
    simp
    omega
  · rw [if_neg k1, if_neg k2, if_neg k3] at h1
    cases h1
end Go.Proofs.Ytiflmdekcjbmbaa.Ie
set_option maxRecDepth 100000
namespace Go.Proofs.Ytiflmdekcjbmbaa.Ie
set_option linter.unusedVariables false
set_option linter.unusedSimpArgs false
open Go.RowKit Lb Go.Shelf Bf

theorem oct_any (x : Int) (w : World) : Calls Try.prog 101 #[.int .i64 x] w fun r w' => r = .returned (.bool (octB x)) ∧ w = w' := by
  by_cases h1 : 0 ≤ x
  · by_cases h2 : x ≤ 255
    · have HD : Hid (octB x = true) := Lib.hid (by unfold octB; simp; omega)
      go_enter Try.func101, Try.ntmps101
      go_wp2_with fail
      go_ret
      exact ⟨by rw [HD.out]; rfl, rfl⟩
    · have HD : Hid (octB x = false) := Lib.hid (by unfold octB; simp; omega)
      go_enter Try.func101, Try.ntmps101
      go_wp2_with fail
      go_ret
      exact ⟨by rw [HD.out]; rfl, rfl⟩
  · have HD : Hid (octB x = false) := Lib.hid (by unfold octB; simp; omega)
    go_enter Try.func101, Try.ntmps101
    go_wp2_with fail
    go_ret
    exact ⟨by rw [HD.out]; rfl, rfl⟩
theorem octsB_yes {l : List Int} (h : ∀ j, j < l.length → octB (l.getD j 0) = true) : octsB l = true := by
  unfold octsB
  rw [decide_eq_true_eq]
  intro j hj
  have := h j hj
  unfold octB at this
  rwa [decide_eq_true_eq] at this
theorem octsB_no {l : List Int} {j : Nat} (hj : j < l.length) (h : octB (l.getD j 0) = false) : octsB l = false := by
  unfold octsB
  rw [decide_eq_false_iff_not]
  intro e
  unfold octB at h
  rw [decide_eq_false_iff_not] at h
  exact h (e j hj)
theorem lfits_any (a : Option Addr) (c : Nat) (l : List Int) (w : World) (hlc : l.length ≤ c) (hc : c ≤ maxLen) (hR : Row w a l.length (zval l)) :
    Calls Try.prog 104 #[.slice a l.length c] w fun r w' => r = .returned (.bool (listB l)) ∧ w = w' := by
  unfold maxLen at hc
  obtain ⟨n, hn⟩ : ∃ n, l.length = n := ⟨_, rfl⟩
  have HN := Lib.hid hn
  rw [hn] at hR hlc ⊢
  clear hn
  go_enter Try.func104, Try.ntmps104
  go_wp2_with fail
  go_loopw [7] (fun i wr => ∃ k : Nat, i = .int .i64 k ∧ k ≤ n ∧ Hid (∀ j, j < k → octB (l.getD j 0) = true) ∧ w = wr) (fun i _ => n - (intOf i).toNat)
  case atStart => exact ⟨0, rfl, by omega, Lib.hid (fun j hj => by omega), rfl⟩
  case round =>
    obtain ⟨k, rfl, hk, HE, rfl⟩ := hrel
    by_cases hlt : k < n
    · obtain ⟨p, o, rfl, _, x1⟩ := hR.at_ hlt
      unfold zval at x1
      obtain ⟨x, hx⟩ : ∃ x, l.getD k 0 = x := ⟨_, rfl⟩
      rw [hx] at x1
      have HX := Lib.hid hx
      clear hx
      cases ho : octB x
      · have HD : Hid (listB l = false) := Lib.hid (by
          unfold listB
          rw [octsB_no (j := k) (by rw [HN.out]; exact hlt) (by rw [HX.out]; exact ho)]
          rfl)
        have HO := Lib.hid ho
        clear ho
        go_wp2_with (refine (oct_any _ _).mono ?_; rintro r w' ⟨rfl, rfl⟩; rw [HO.out])
        go_ret
        exact ⟨by rw [HD.out]; rfl, rfl⟩
      · have HE2 : Hid (∀ j, j < k + 1 → octB (l.getD j 0) = true) := Lib.hid (fun j hj => by
          by_cases e : j = k
          · subst e; rw [HX.out]; exact ho
          · exact HE.out j (by omega))
        have HO := Lib.hid ho
        clear ho
        go_wp2_with (refine (oct_any _ _).mono ?_; rintro r w' ⟨rfl, rfl⟩; rw [HO.out])
        exact ⟨⟨k + 1, by simp, by omega, HE2, by first | trivial | rfl⟩, by simp [intOf]; omega⟩
    · obtain rfl : n = k := by omega
      have HO : Hid (octsB l = true) := Lib.hid (octsB_yes (by rw [HN.out]; exact HE.out))
      by_cases h16 : n ≤ 16
      · have HD : Hid (listB l = true) := Lib.hid (by unfold listB; rw [HO.out, HN.out]; simpa using h16)
        have g1 : decide (n ≤ 16) = true := by simpa using h16
        have g2 : decide ((n : Int) ≤ 16) = true := by simp; omega
        go_wp2_with fail
        go_ret
        exact ⟨by rw [HD.out]; rfl, rfl⟩
      · have HD : Hid (listB l = false) := Lib.hid (by unfold listB; rw [HO.out, HN.out]; simpa using h16)
        have g1 : decide (n ≤ 16) = false := by simpa using h16
        have g2 : decide ((n : Int) ≤ 16) = false := by simp; omega
        go_wp2_with fail
        go_ret
        exact ⟨by rw [HD.out]; rfl, rfl⟩
def s1B (x y : Int) : Bool := decide (0 ≤ x ∧ x < 1099511627776) && octB y
def s2B (x : Int) : Bool := decide (-32768 ≤ x ∧ x ≤ 32767)
theorem fits1 (x y : Int) (w : World) : Calls Try.prog 100 #[.agg #[.int .i64 x, .int .i64 y]] w fun r w' => r = .returned (.bool (s1B x y)) ∧ Below w.heap.size w w' := by
  have b0 := (Below.refl w.heap.size w).alloc (Nat.le_refl _) (.cells #[.int .i64 x, .int .i64 y] 144)
  by_cases h1 : 0 ≤ x
  · by_cases h2 : x < 1099511627776
    · obtain ⟨e, he⟩ : ∃ e, octB y = e := ⟨_, rfl⟩
      have HD : Hid (s1B x y = e) := Lib.hid (by unfold s1B; rw [decide_eq_true (And.intro h1 h2), he]; rfl)
      have HO := Lib.hid he
      clear he
      go_enter Try.func100, Try.ntmps100
      go_wp2_with (refine (oct_any _ _).mono ?_; rintro r w' ⟨rfl, rfl⟩; rw [HO.out])
      go_ret
      exact ⟨by rw [HD.out]; rfl, b0⟩
    · have HD : Hid (s1B x y = false) := Lib.hid (by unfold s1B; rw [decide_eq_false (fun h => h2 h.2)]; rfl)
      go_enter Try.func100, Try.ntmps100
      go_wp2_with fail
      go_ret
      exact ⟨by rw [HD.out]; rfl, b0⟩
  · have HD : Hid (s1B x y = false) := Lib.hid (by unfold s1B; rw [decide_eq_false (fun h => h1 h.1)]; rfl)
    go_enter Try.func100, Try.ntmps100
    go_wp2_with fail
    go_ret
    exact ⟨by rw [HD.out]; rfl, b0⟩
theorem fits2 (x : Int) (w : World) : Calls Try.prog 102 #[.agg #[.int .i64 x]] w fun r w' => r = .returned (.bool (s2B x)) ∧ Below w.heap.size w w' := by
  have b0 := (Below.refl w.heap.size w).alloc (Nat.le_refl _) (.cells #[.int .i64 x] 146)
  by_cases h1 : -32768 ≤ x
  · by_cases h2 : x ≤ 32767
    · have HD : Hid (s2B x = true) := Lib.hid (decide_eq_true (And.intro h1 h2))
      go_enter Try.func102, Try.ntmps102
      go_wp2_with fail
      go_ret
      exact ⟨by rw [HD.out]; rfl, b0⟩
    · have HD : Hid (s2B x = false) := Lib.hid (decide_eq_false (fun h => h2 h.2))
      go_enter Try.func102, Try.ntmps102
      go_wp2_with fail
      go_ret
      exact ⟨by rw [HD.out]; rfl, b0⟩
  · have HD : Hid (s2B x = false) := Lib.hid (decide_eq_false (fun h => h1 h.1))
    go_enter Try.func102, Try.ntmps102
    go_wp2_with fail
    go_ret
    exact ⟨by rw [HD.out]; rfl, b0⟩
theorem fits3 (a : Option Addr) (c : Nat) (l : List Int) (w : World) (hlc : l.length ≤ c) (hc : c ≤ maxLen) (hR : Row w a l.length (zval l)) :
    Calls Try.prog 103 #[.agg #[.slice a l.length c]] w fun r w' => r = .returned (.bool (listB l)) ∧ Below w.heap.size w w' := by
  have b0 := (Below.refl w.heap.size w).alloc (Nat.le_refl _) (.cells #[.slice a l.length c] 148)
  have hf := lfits_any a c l _ hlc hc (hR.below b0)
  have HF := Lib.hid hf
  clear hf
  go_enter Try.func103, Try.ntmps103
  go_wp2_with (refine HF.out.mono ?_; rintro r w' ⟨rfl, rfl⟩)
  go_ret
  exact ⟨rfl, b0⟩
theorem fits4 (a : Option Addr) (c : Nat) (l : List Int) (w : World) (hlc : l.length ≤ c) (hc : c ≤ maxLen) (hR : Row w a l.length (zval l)) :
    Calls Try.prog 105 #[.agg #[.slice a l.length c]] w fun r w' => r = .returned (.bool (listB l)) ∧ Below w.heap.size w w' := by
  have b0 := (Below.refl w.heap.size w).alloc (Nat.le_refl _) (.cells #[.slice a l.length c] 149)
  have hf := lfits_any a c l _ hlc hc (hR.below b0)
  have HF := Lib.hid hf
  clear hf
  go_enter Try.func105, Try.ntmps105
  go_wp2_with (refine HF.out.mono ?_; rintro r w' ⟨rfl, rfl⟩)
  go_ret
  exact ⟨rfl, b0⟩
end Go.Proofs.Ytiflmdekcjbmbaa.Ie
set_option maxRecDepth 100000
namespace Go.Proofs.Ytiflmdekcjbmbaa.Ie
set_option linter.unusedVariables false
set_option linter.unusedSimpArgs false
open Go.RowKit Lb Go.Shelf Bf

theorem list_eq {l m : List Int} (h : l.length = m.length) (hk : ∀ j, j < l.length → l.getD j 0 = m.getD j 0) : l = m := by
  apply List.ext_getElem h
  intro i h1 h2
  have := hk i h1
  rw [List.getD_eq_getElem?_getD, List.getD_eq_getElem?_getD, List.getElem?_eq_getElem h1, List.getElem?_eq_getElem h2] at this
  exact this
theorem eqi_any (a b : Option Addr) (c d : Nat) (l m : List Int) (w : World) (h1 : l.length ≤ c) (h2 : m.length ≤ d) (hc : c ≤ maxLen) (hd : d ≤ maxLen) (hX : Row w a l.length (zval l)) (hY : Row w b m.length (zval m)) :
    Calls Try.prog 79 #[.slice a l.length c, .slice b m.length d] w fun r w' => r = .returned (.bool (decide (l = m))) ∧ ∃ z, w.drewN z = w' := by
  unfold maxLen at hc hd
  by_cases hlm : l.length = m.length
  · have HLM := Lib.hid hlm
    obtain ⟨n, hn⟩ : ∃ n, l.length = n := ⟨_, rfl⟩
    have HN := Lib.hid hn
    have hm : m.length = n := by omega
    rw [hn] at hX h1 ⊢
    rw [hm] at hY h2 ⊢
    clear hn hm hlm
    go_enter Try.func79, Try.ntmps79
    go_wp2_with fail
    go_loopw [13] (fun i wr => ∃ (k z : Nat), i = .int .i64 k ∧ k ≤ n ∧ Hid (∀ j, j < k → l.getD j 0 = m.getD j 0) ∧ w.drewN z = wr) (fun i _ => n - (intOf i).toNat)
    case atStart => exact ⟨0, 0, rfl, by omega, Lib.hid (fun j hj => by omega), rfl⟩
    case round =>
      obtain ⟨k, z, rfl, hk, HE, rfl⟩ := hrel
      by_cases hlt : k < n
      · obtain ⟨p, o, rfl, _, x1⟩ := hX.at_ hlt
        obtain ⟨q, s, rfl, _, x2⟩ := hY.at_ hlt
        unfold zval at x1 x2
        obtain ⟨x, hx⟩ : ∃ x, l.getD k 0 = x := ⟨_, rfl⟩
        obtain ⟨y, hy⟩ : ∃ y, m.getD k 0 = y := ⟨_, rfl⟩
        rw [hx] at x1
        rw [hy] at x2
        have HX := Lib.hid hx
        have HY := Lib.hid hy
        clear hx hy
        by_cases hxy : x = y
        · have HE2 : Hid (∀ j, j < k + 1 → l.getD j 0 = m.getD j 0) := Lib.hid (fun j hj => by
            by_cases e : j = k
            · subst e; rw [HX.out, HY.out, hxy]
            · exact HE.out j (by omega))
          have g1 : (x != y) = false := by simpa using hxy
          have g2 : (x == y) = true := by simpa using hxy
          clear hxy
          go_wp2_with fail
          go_quiet (fail)
          go_wp2_with fail
          exact ⟨⟨k + 1, _, by go_num, by omega, HE2, rfl⟩, by simp [intOf]; omega⟩
        · have HD : Hid (decide (l = m) = false) := Lib.hid (by
            rw [decide_eq_false_iff_not]
            intro e
            exact hxy (by rw [← HX.out, ← HY.out, e]))
          have g1 : (x != y) = true := by simpa using hxy
          have g2 : (x == y) = false := by simpa using hxy
          clear hxy
          go_wp2_with fail
          go_quiet (fail)
          go_wp2_with fail
          go_ret
          exact ⟨by rw [HD.out]; rfl, _, (World.drewN_drewN _ _ _).symm⟩
      · obtain rfl : n = k := by omega
        have HD : Hid (decide (l = m) = true) := Lib.hid (by
          rw [decide_eq_true_eq]
          exact list_eq HLM.out (by rw [HN.out]; exact HE.out))
        go_wp2_with fail
        go_ret
        exact ⟨by rw [HD.out]; rfl, z, rfl⟩
  · have HD : Hid (decide (l = m) = false) := Lib.hid (by
      rw [decide_eq_false_iff_not]
      intro e
      exact hlm (by rw [e]))
    obtain ⟨n, hn⟩ : ∃ n, l.length = n := ⟨_, rfl⟩
    obtain ⟨k, hk⟩ : ∃ k, m.length = k := ⟨_, rfl⟩
    rw [hn, hk] at hlm ⊢
    have g1 : ((n : Int) == (k : Int)) = false := by simp; omega
    have g2 : ((n : Int) != (k : Int)) = true := by simp; omega
    clear hn hk hlm
    go_enter Try.func79, Try.ntmps79
    go_wp2_with fail
    go_ret
    exact ⟨by rw [HD.out]; rfl, 0, rfl⟩
set_option maxHeartbeats 4000000 in
theorem sameE_any (p q : El) (a : Option Addr) (c : Nat) (a2 : Option Addr) (c2 : Nat) (w : World) (h : p.At w a c) (k : q.At w a2 c2) :
    Calls Try.prog 76 #[.agg (p.vals a c), .agg (q.vals a2 c2)] w fun r w' => r = .returned (.bool (sameE p q)) ∧ Below w.heap.size w w' := by
  have o1 : Lb.Own ((w.alloc (.cells (p.vals a c) 49)).alloc (.cells (q.vals a2 c2) 49)) w.heap.size 49 (p.vals a c) := (Own.new w _ _).alloc _
  have o2 : Lb.Own ((w.alloc (.cells (p.vals a c) 49)).alloc (.cells (q.vals a2 c2) 49)) (w.heap.size + 1) 49 (q.vals a2 c2) := by
    have := Own.new (w.alloc (.cells (p.vals a c) 49)) 49 (q.vals a2 c2)
    rwa [show (w.alloc (.cells (p.vals a c) 49)).heap.size = w.heap.size + 1 by simp] at this
  have b0 := ((Below.refl w.heap.size w).alloc (Nat.le_refl _) (.cells (p.vals a c) 49)).alloc (by simp) (.cells (q.vals a2 c2) 49)
  have h1 := h.below b0
  have k1 := k.below b0
  obtain ⟨pk, pa, pr, pt, pl⟩ := p
  obtain ⟨qk, qa, qr, qt, ql⟩ := q
  have hD : sameE ⟨pk, pa, pr, pt, pl⟩ ⟨qk, qa, qr, qt, ql⟩ = ((pk == qk) && ((pa == qa) && ((pr == qr) && ((pt == qt) && decide (pl = ql))))) := rfl
  obtain ⟨e1, he1⟩ : ∃ e, (pk == qk) = e := ⟨_, rfl⟩
  obtain ⟨e2, he2⟩ : ∃ e, (pa == qa) = e := ⟨_, rfl⟩
  obtain ⟨e3, he3⟩ : ∃ e, (pr == qr) = e := ⟨_, rfl⟩
  obtain ⟨e4, he4⟩ : ∃ e, (pt == qt) = e := ⟨_, rfl⟩
  obtain ⟨e5, he5⟩ : ∃ e, decide (pl = ql) = e := ⟨_, rfl⟩
  rw [he1, he2, he3, he4, he5] at hD
  have HD := Lib.hid hD
  unfold El.vals at *
  simp only at *
  go_enter Try.func76, Try.ntmps76
  go_upto_region 1 with (fail)
  generalize (w.alloc (.cells #[.int .i64 pk, .int .i64 pa, .int .i64 pr, .int .i64 pt, .slice a pl.length c] 49)).alloc (.cells #[.int .i64 qk, .int .i64 qa, .int .i64 qr, .int .i64 qt, .slice a2 ql.length c2] 49) = w1 at *
  have c0 := o1.cell 0
  have c1 := o1.cell 1
  have x2 := o1.cell 2
  have c3 := o1.cell 3
  have c4 := o1.cell 4
  have y0 := o2.cell 0
  have y1 := o2.cell 1
  have y2 := o2.cell 2
  have y3 := o2.cell 3
  have y4 := o2.cell 4
  simp at c0 c1 x2 c3 c4 y0 y1 y2 y3 y4
  have hI := eqi_any a a2 c c2 pl ql w1 h1.lc k1.lc h1.cm k1.cm h1.row k1.row
  rw [he5] at hI
  have HI := Lib.hid hI
  clear o1 o2 hI hD h k h1 k1 he5
  cases e1
  case' true => cases e2
  case' true.true => cases e3
  case' true.true.true => cases e4
  all_goals
    go_wp2_with (refine HI.out.mono ?_; rintro r w' ⟨rfl, zz, rfl⟩)
    all_goals
      go_ret
      exact ⟨by rw [HD.out]; rfl, by first | exact b0 | exact below_drewN b0 _⟩
end Go.Proofs.Ytiflmdekcjbmbaa.Ie
set_option maxRecDepth 100000
namespace Go.Proofs.Ytiflmdekcjbmbaa.Ie
set_option linter.unusedVariables false
set_option linter.unusedSimpArgs false
open Go.RowKit Lb Go.Shelf Bf

def v1 (asn rank : Int) : Value := .iface 144 (.agg #[.int .i64 asn, .int .i64 rank])
def v2 (ticks : Int) : Value := .iface 146 (.agg #[.int .i64 ticks])
def v3 (v : Value) : Value := .iface 148 (.agg #[v])
def v4 (v : Value) : Value := .iface 149 (.agg #[v])
theorem t11 (v : Value) (w : World) : (Instr.typeAssert (.iface 144 v) 135 144 true).run Try.prog w = .ok (.tuple #[v, .bool true]) w := by kernel_rfl
theorem t12 (v : Value) (w : World) : (Instr.typeAssert (.iface 144 v) 135 146 true).run Try.prog w = .ok (.tuple #[.agg #[.int .i64 0], .bool false]) w := by kernel_rfl
theorem t13 (v : Value) (w : World) : (Instr.typeAssert (.iface 144 v) 135 148 true).run Try.prog w = .ok (.tuple #[.agg #[.slice none 0 0], .bool false]) w := by kernel_rfl
theorem t14 (v : Value) (w : World) : (Instr.typeAssert (.iface 144 v) 135 149 true).run Try.prog w = .ok (.tuple #[.agg #[.slice none 0 0], .bool false]) w := by kernel_rfl
theorem t21 (v : Value) (w : World) : (Instr.typeAssert (.iface 146 v) 135 144 true).run Try.prog w = .ok (.tuple #[.agg #[.int .i64 0, .int .i64 0], .bool false]) w := by kernel_rfl
theorem t22 (v : Value) (w : World) : (Instr.typeAssert (.iface 146 v) 135 146 true).run Try.prog w = .ok (.tuple #[v, .bool true]) w := by kernel_rfl
theorem t23 (v : Value) (w : World) : (Instr.typeAssert (.iface 146 v) 135 148 true).run Try.prog w = .ok (.tuple #[.agg #[.slice none 0 0], .bool false]) w := by kernel_rfl
theorem t24 (v : Value) (w : World) : (Instr.typeAssert (.iface 146 v) 135 149 true).run Try.prog w = .ok (.tuple #[.agg #[.slice none 0 0], .bool false]) w := by kernel_rfl
theorem t31 (v : Value) (w : World) : (Instr.typeAssert (.iface 148 v) 135 144 true).run Try.prog w = .ok (.tuple #[.agg #[.int .i64 0, .int .i64 0], .bool false]) w := by kernel_rfl
theorem t32 (v : Value) (w : World) : (Instr.typeAssert (.iface 148 v) 135 146 true).run Try.prog w = .ok (.tuple #[.agg #[.int .i64 0], .bool false]) w := by kernel_rfl
theorem t33 (v : Value) (w : World) : (Instr.typeAssert (.iface 148 v) 135 148 true).run Try.prog w = .ok (.tuple #[v, .bool true]) w := by kernel_rfl
theorem t34 (v : Value) (w : World) : (Instr.typeAssert (.iface 148 v) 135 149 true).run Try.prog w = .ok (.tuple #[.agg #[.slice none 0 0], .bool false]) w := by kernel_rfl
theorem t41 (v : Value) (w : World) : (Instr.typeAssert (.iface 149 v) 135 144 true).run Try.prog w = .ok (.tuple #[.agg #[.int .i64 0, .int .i64 0], .bool false]) w := by kernel_rfl
theorem t42 (v : Value) (w : World) : (Instr.typeAssert (.iface 149 v) 135 146 true).run Try.prog w = .ok (.tuple #[.agg #[.int .i64 0], .bool false]) w := by kernel_rfl
theorem t43 (v : Value) (w : World) : (Instr.typeAssert (.iface 149 v) 135 148 true).run Try.prog w = .ok (.tuple #[.agg #[.slice none 0 0], .bool false]) w := by kernel_rfl
theorem t44 (v : Value) (w : World) : (Instr.typeAssert (.iface 149 v) 135 149 true).run Try.prog w = .ok (.tuple #[v, .bool true]) w := by kernel_rfl
set_option maxHeartbeats 2000000 in
theorem plain1 (x y : Int) (w : World) : Calls Try.prog 77 #[v1 x y] w fun r w' => r = .returned (.agg #[.int .i64 1, .int .i64 x, .int .i64 y, .int .i64 0, .slice none 0 0]) ∧ Below w.heap.size w w' := by
  have q0 := t11
  unfold v1
  go_enter Try.func77, Try.ntmps77
  go_wp2_with fail
  refine bodyPost_ret (results_cell_row rfl _ _ w.heap.size 49 #[.int .i64 1, .int .i64 x, .int .i64 y, .int .i64 0, .slice none 0 0] (0, 0) _ rfl (((Own.new w 49 #[.int .i64 1, .int .i64 x, .int .i64 y, .int .i64 0, .slice none 0 0]).alloc _)) Try.underlying49 rfl (by kernel_rfl)) rfl ⟨rfl, ?_⟩
  exact (((Below.refl w.heap.size w).alloc (Nat.le_refl _) (.cells #[.int .i64 1, .int .i64 x, .int .i64 y, .int .i64 0, .slice none 0 0] 49)).alloc (by simp; try omega) (.cells #[.int .i64 x, .int .i64 y] 144))
set_option maxHeartbeats 2000000 in
theorem plain2 (x : Int) (w : World) : Calls Try.prog 77 #[v2 x] w fun r w' => r = .returned (.agg #[.int .i64 2, .int .i64 0, .int .i64 0, .int .i64 x, .slice none 0 0]) ∧ Below w.heap.size w w' := by
  have q0 := t21
  have q1 := t22
  unfold v2
  go_enter Try.func77, Try.ntmps77
  go_wp2_with fail
  refine bodyPost_ret (results_cell_row rfl _ _ w.heap.size 49 #[.int .i64 2, .int .i64 0, .int .i64 0, .int .i64 x, .slice none 0 0] (0, 0) _ rfl ((((Own.new w 49 #[.int .i64 2, .int .i64 0, .int .i64 0, .int .i64 x, .slice none 0 0]).alloc _).alloc _)) Try.underlying49 rfl (by kernel_rfl)) rfl ⟨rfl, ?_⟩
  exact ((((Below.refl w.heap.size w).alloc (Nat.le_refl _) (.cells #[.int .i64 2, .int .i64 0, .int .i64 0, .int .i64 x, .slice none 0 0] 49)).alloc (by simp; try omega) (.cells #[.int .i64 0, .int .i64 0] 144)).alloc (by simp; try omega) (.cells #[.int .i64 x] 146))
set_option maxHeartbeats 2000000 in
theorem plain3 (a : Option Addr) (n c : Nat) (w : World) : Calls Try.prog 77 #[v3 (.slice a n c)] w fun r w' => r = .returned (.agg #[.int .i64 3, .int .i64 0, .int .i64 0, .int .i64 0, .slice a n c]) ∧ Below w.heap.size w w' := by
  have q0 := t31
  have q1 := t32
  have q2 := t33
  unfold v3
  go_enter Try.func77, Try.ntmps77
  go_wp2_with fail
  refine bodyPost_ret (results_cell_row rfl _ _ w.heap.size 49 #[.int .i64 3, .int .i64 0, .int .i64 0, .int .i64 0, .slice a n c] (0, 0) _ rfl (((((Own.new w 49 #[.int .i64 3, .int .i64 0, .int .i64 0, .int .i64 0, .slice a n c]).alloc _).alloc _).alloc _)) Try.underlying49 rfl (by kernel_rfl)) rfl ⟨rfl, ?_⟩
  exact (((((Below.refl w.heap.size w).alloc (Nat.le_refl _) (.cells #[.int .i64 3, .int .i64 0, .int .i64 0, .int .i64 0, .slice a n c] 49)).alloc (by simp; try omega) (.cells #[.int .i64 0, .int .i64 0] 144)).alloc (by simp; try omega) (.cells #[.int .i64 0] 146)).alloc (by simp; try omega) (.cells #[.slice a n c] 148))
set_option maxHeartbeats 2000000 in
theorem plain4 (a : Option Addr) (n c : Nat) (w : World) : Calls Try.prog 77 #[v4 (.slice a n c)] w fun r w' => r = .returned (.agg #[.int .i64 4, .int .i64 0, .int .i64 0, .int .i64 0, .slice a n c]) ∧ Below w.heap.size w w' := by
  have q0 := t41
  have q1 := t42
  have q2 := t43
  have q3 := t44
  unfold v4
  go_enter Try.func77, Try.ntmps77
  go_wp2_with fail
  refine bodyPost_ret (results_cell_row rfl _ _ w.heap.size 49 #[.int .i64 4, .int .i64 0, .int .i64 0, .int .i64 0, .slice a n c] (0, 0) _ rfl ((((((Own.new w 49 #[.int .i64 4, .int .i64 0, .int .i64 0, .int .i64 0, .slice a n c]).alloc _).alloc _).alloc _).alloc _)) Try.underlying49 rfl (by kernel_rfl)) rfl ⟨rfl, ?_⟩
  exact ((((((Below.refl w.heap.size w).alloc (Nat.le_refl _) (.cells #[.int .i64 4, .int .i64 0, .int .i64 0, .int .i64 0, .slice a n c] 49)).alloc (by simp; try omega) (.cells #[.int .i64 0, .int .i64 0] 144)).alloc (by simp; try omega) (.cells #[.int .i64 0] 146)).alloc (by simp; try omega) (.cells #[.slice none 0 0] 148)).alloc (by simp; try omega) (.cells #[.slice a n c] 149))

theorem meth1 (k : Nat) (u v : Value) (w : World) : (method (k + 1) 144 (.agg #[u, v]) "campanile/ie.fits").run Try.prog w = .ok (100, .agg #[u, v]) w := by kernel_rfl
theorem meth2 (k : Nat) (v : Value) (w : World) : (method (k + 1) 146 (.agg #[v]) "campanile/ie.fits").run Try.prog w = .ok (102, .agg #[v]) w := by kernel_rfl
theorem meth3 (k : Nat) (v : Value) (w : World) : (method (k + 1) 148 (.agg #[v]) "campanile/ie.fits").run Try.prog w = .ok (103, .agg #[v]) w := by kernel_rfl
theorem meth4 (k : Nat) (v : Value) (w : World) : (method (k + 1) 149 (.agg #[v]) "campanile/ie.fits").run Try.prog w = .ok (105, .agg #[v]) w := by kernel_rfl
theorem keep_cell {v w : World} (h : Below v.heap.size v w) {p : Addr} {u : Value} (hc : v.cell? p = some u) : w.cell? p = some u := (h.cell (lt_of_cell hc)).trans hc
theorem El.At.none (w : World) (k x y t : Int) : (⟨k, x, y, t, []⟩ : El).At w none 0 := ⟨Nat.le_refl _, Nat.zero_le _, Row.nil _ _ _, fun _ => rfl⟩
set_option maxHeartbeats 2000000 in
theorem from1 (asn rank t : Int) (l : List Int) (a : Option Addr) (c : Nat) (w : World) (h : (⟨1, asn, rank, t, l⟩ : El).At w a c) :
    Calls Try.prog 66 #[.agg #[.int .i64 1, .int .i64 asn, .int .i64 rank, .int .i64 t, .slice a l.length c]] w fun r w' => r = .returned (.tuple #[v1 asn rank, .bool (mayE ⟨1, asn, rank, t, l⟩)]) ∧ Below w.heap.size w w' := by
  have o1 := Own.new w 49 #[.int .i64 1, .int .i64 asn, .int .i64 rank, .int .i64 t, .slice a l.length c]
  have b0 := (Below.refl w.heap.size w).alloc (Nat.le_refl _) (.cells #[.int .i64 1, .int .i64 asn, .int .i64 rank, .int .i64 t, .slice a l.length c] 49)
  have h1 := h.below b0
  have hsz : w.heap.size ≤ (w.alloc (.cells #[.int .i64 1, .int .i64 asn, .int .i64 rank, .int .i64 t, .slice a l.length c] 49)).heap.size := by simp
  go_enter Try.func66, Try.ntmps66
  go_upto_region 2 with (fail)
  generalize w.alloc (.cells #[.int .i64 1, .int .i64 asn, .int .i64 rank, .int .i64 t, .slice a l.length c] 49) = w1 at *
  have c0 := o1.cell 0
  have c1 := o1.cell 1
  have c2 := o1.cell 2
  have c3 := o1.cell 3
  have c4 := o1.cell 4
  simp at c0 c1 c2 c3 c4
  go_upto_region 12 with (fail)
  have x0 : ∀ x : Ext w1, x.toW.cell? ⟨w.heap.size, 0, none⟩ = some (.int .i64 1) := fun x => keep_cell x.ok (o1.cell 0)
  have x1 : ∀ x : Ext w1, x.toW.cell? ⟨w.heap.size, 1, none⟩ = some (.int .i64 asn) := fun x => keep_cell x.ok (o1.cell 1)
  have x2 : ∀ x : Ext w1, x.toW.cell? ⟨w.heap.size, 2, none⟩ = some (.int .i64 rank) := fun x => keep_cell x.ok (o1.cell 2)
  have x3 : ∀ x : Ext w1, x.toW.cell? ⟨w.heap.size, 3, none⟩ = some (.int .i64 t) := fun x => keep_cell x.ok (o1.cell 3)
  have x4 : ∀ x : Ext w1, x.toW.cell? ⟨w.heap.size, 4, none⟩ = some (.slice a l.length c) := fun x => keep_cell x.ok (o1.cell 4)
  have hm := fun k u v (x : Ext w1) => meth1 k u v x.toW
  have F : ∀ x : Ext w1, Calls Try.prog 100 #[.agg #[.int .i64 asn, .int .i64 rank]] x.toW fun r w' => r = .returned (.bool (s1B asn rank)) ∧ Below x.toW.heap.size x.toW w' := fun x => fits1 asn rank x.toW
  have G : ∀ x : Ext w1, Calls Try.prog 77 #[.iface 144 (.agg #[.int .i64 asn, .int .i64 rank])] x.toW fun r w' => r = .returned (.agg #[.int .i64 1, .int .i64 asn, .int .i64 rank, .int .i64 0, .slice none 0 0]) ∧ Below x.toW.heap.size x.toW w' := fun x => plain1 asn rank x.toW
  have S : ∀ x : Ext w1, Calls Try.prog 76 #[.agg #[.int .i64 1, .int .i64 asn, .int .i64 rank, .int .i64 0, .slice none 0 0], .agg #[.int .i64 1, .int .i64 asn, .int .i64 rank, .int .i64 t, .slice a l.length c]] x.toW fun r w' => r = .returned (.bool (sameE ⟨1, asn, rank, 0, []⟩ ⟨1, asn, rank, t, l⟩)) ∧ Below x.toW.heap.size x.toW w' :=
    fun x => sameE_any ⟨1, asn, rank, 0, []⟩ ⟨1, asn, rank, t, l⟩ none 0 a c x.toW (El.At.none _ _ _ _ _) (h1.below x.ok)
  obtain ⟨e, he⟩ : ∃ e, s1B asn rank = e := ⟨_, rfl⟩
  obtain ⟨q, hq⟩ : ∃ q, sameE ⟨1, asn, rank, 0, []⟩ ⟨1, asn, rank, t, l⟩ = q := ⟨_, rfl⟩
  have HM : Hid (mayE ⟨1, asn, rank, t, l⟩ = (e && q)) := Lib.hid (by rw [← he, ← hq]; rfl)
  rw [he] at F
  rw [hq] at S
  have FF := Lib.hid F
  have GG := Lib.hid G
  have SS := Lib.hid S
  clear F G S c0 c1 c2 c3 c4 h h1 o1 he hq
  unfold v1 at *
  cases e
  · refine wp_region_ext w1 (by kernel_rfl) (by kernel_rfl) (Below.refl _ _) ?_
    repeat (go_big_quiet_step (first | (go_at_call 100; with_reducible exact ext_below _ (u := .bool false) (FF.out _))))
    refine wpQuiet_nil ?_
    rintro w9 ⟨x9, rfl⟩
    go_wp2_with fail
    go_ret2
    exact ⟨by rw [HM.out]; rfl, b0.trans (x9.ok.mono hsz)⟩
  · refine wp_region_ext w1 (by kernel_rfl) (by kernel_rfl) (Below.refl _ _) ?_
    repeat (go_big_quiet_step (first
      | (go_at_call 100; with_reducible exact ext_below _ (u := .bool true) (FF.out _))
      | (go_at_call 77; with_reducible exact ext_below _ (u := .agg #[.int .i64 1, .int .i64 asn, .int .i64 rank, .int .i64 0, .slice none 0 0]) (GG.out _))
      | (go_at_call 76; with_reducible exact ext_below _ (u := .bool q) (SS.out _))))
    refine wpQuiet_nil ?_
    rintro w9 ⟨x9, rfl⟩
    go_wp2_with fail
    go_ret2
    exact ⟨by rw [HM.out]; rfl, b0.trans (x9.ok.mono hsz)⟩
set_option maxHeartbeats 2000000 in
theorem from2 (asn rank t : Int) (l : List Int) (a : Option Addr) (c : Nat) (w : World) (h : (⟨2, asn, rank, t, l⟩ : El).At w a c) :
    Calls Try.prog 66 #[.agg #[.int .i64 2, .int .i64 asn, .int .i64 rank, .int .i64 t, .slice a l.length c]] w fun r w' => r = .returned (.tuple #[v2 t, .bool (mayE ⟨2, asn, rank, t, l⟩)]) ∧ Below w.heap.size w w' := by
  have o1 := Own.new w 49 #[.int .i64 2, .int .i64 asn, .int .i64 rank, .int .i64 t, .slice a l.length c]
  have b0 := (Below.refl w.heap.size w).alloc (Nat.le_refl _) (.cells #[.int .i64 2, .int .i64 asn, .int .i64 rank, .int .i64 t, .slice a l.length c] 49)
  have h1 := h.below b0
  have hsz : w.heap.size ≤ (w.alloc (.cells #[.int .i64 2, .int .i64 asn, .int .i64 rank, .int .i64 t, .slice a l.length c] 49)).heap.size := by simp
  go_enter Try.func66, Try.ntmps66
  go_upto_region 2 with (fail)
  generalize w.alloc (.cells #[.int .i64 2, .int .i64 asn, .int .i64 rank, .int .i64 t, .slice a l.length c] 49) = w1 at *
  have c0 := o1.cell 0
  have c1 := o1.cell 1
  have c2 := o1.cell 2
  have c3 := o1.cell 3
  have c4 := o1.cell 4
  simp at c0 c1 c2 c3 c4
  go_upto_region 12 with (fail)
  have x0 : ∀ x : Ext w1, x.toW.cell? ⟨w.heap.size, 0, none⟩ = some (.int .i64 2) := fun x => keep_cell x.ok (o1.cell 0)
  have x1 : ∀ x : Ext w1, x.toW.cell? ⟨w.heap.size, 1, none⟩ = some (.int .i64 asn) := fun x => keep_cell x.ok (o1.cell 1)
  have x2 : ∀ x : Ext w1, x.toW.cell? ⟨w.heap.size, 2, none⟩ = some (.int .i64 rank) := fun x => keep_cell x.ok (o1.cell 2)
  have x3 : ∀ x : Ext w1, x.toW.cell? ⟨w.heap.size, 3, none⟩ = some (.int .i64 t) := fun x => keep_cell x.ok (o1.cell 3)
  have x4 : ∀ x : Ext w1, x.toW.cell? ⟨w.heap.size, 4, none⟩ = some (.slice a l.length c) := fun x => keep_cell x.ok (o1.cell 4)
  have hm := fun k v (x : Ext w1) => meth2 k v x.toW
  have F : ∀ x : Ext w1, Calls Try.prog 102 #[.agg #[.int .i64 t]] x.toW fun r w' => r = .returned (.bool (s2B t)) ∧ Below x.toW.heap.size x.toW w' := fun x => fits2 t x.toW
  have G : ∀ x : Ext w1, Calls Try.prog 77 #[.iface 146 (.agg #[.int .i64 t])] x.toW fun r w' => r = .returned (.agg #[.int .i64 2, .int .i64 0, .int .i64 0, .int .i64 t, .slice none 0 0]) ∧ Below x.toW.heap.size x.toW w' := fun x => plain2 t x.toW
  have S : ∀ x : Ext w1, Calls Try.prog 76 #[.agg #[.int .i64 2, .int .i64 0, .int .i64 0, .int .i64 t, .slice none 0 0], .agg #[.int .i64 2, .int .i64 asn, .int .i64 rank, .int .i64 t, .slice a l.length c]] x.toW fun r w' => r = .returned (.bool (sameE ⟨2, 0, 0, t, []⟩ ⟨2, asn, rank, t, l⟩)) ∧ Below x.toW.heap.size x.toW w' :=
    fun x => sameE_any ⟨2, 0, 0, t, []⟩ ⟨2, asn, rank, t, l⟩ none 0 a c x.toW (El.At.none _ _ _ _ _) (h1.below x.ok)
  obtain ⟨e, he⟩ : ∃ e, s2B t = e := ⟨_, rfl⟩
  obtain ⟨q, hq⟩ : ∃ q, sameE ⟨2, 0, 0, t, []⟩ ⟨2, asn, rank, t, l⟩ = q := ⟨_, rfl⟩
  have HM : Hid (mayE ⟨2, asn, rank, t, l⟩ = (e && q)) := Lib.hid (by rw [← he, ← hq]; rfl)
  rw [he] at F
  rw [hq] at S
  have FF := Lib.hid F
  have GG := Lib.hid G
  have SS := Lib.hid S
  clear F G S c0 c1 c2 c3 c4 h h1 o1 he hq
  unfold v2 at *
  cases e
  · refine wp_region_ext w1 (by kernel_rfl) (by kernel_rfl) (Below.refl _ _) ?_
    repeat (go_big_quiet_step (first | (go_at_call 102; with_reducible exact ext_below _ (u := .bool false) (FF.out _))))
    refine wpQuiet_nil ?_
    rintro w9 ⟨x9, rfl⟩
    go_wp2_with fail
    go_ret2
    exact ⟨by rw [HM.out]; rfl, b0.trans (x9.ok.mono hsz)⟩
  · refine wp_region_ext w1 (by kernel_rfl) (by kernel_rfl) (Below.refl _ _) ?_
    repeat (go_big_quiet_step (first
      | (go_at_call 102; with_reducible exact ext_below _ (u := .bool true) (FF.out _))
      | (go_at_call 77; with_reducible exact ext_below _ (u := .agg #[.int .i64 2, .int .i64 0, .int .i64 0, .int .i64 t, .slice none 0 0]) (GG.out _))
      | (go_at_call 76; with_reducible exact ext_below _ (u := .bool q) (SS.out _))))
    refine wpQuiet_nil ?_
    rintro w9 ⟨x9, rfl⟩
    go_wp2_with fail
    go_ret2
    exact ⟨by rw [HM.out]; rfl, b0.trans (x9.ok.mono hsz)⟩
set_option maxHeartbeats 2000000 in
theorem from3 (asn rank t : Int) (l : List Int) (a : Option Addr) (c : Nat) (w : World) (h : (⟨3, asn, rank, t, l⟩ : El).At w a c) :
    Calls Try.prog 66 #[.agg #[.int .i64 3, .int .i64 asn, .int .i64 rank, .int .i64 t, .slice a l.length c]] w fun r w' => r = .returned (.tuple #[v3 (.slice a l.length c), .bool (mayE ⟨3, asn, rank, t, l⟩)]) ∧ Below w.heap.size w w' := by
  have o1 := Own.new w 49 #[.int .i64 3, .int .i64 asn, .int .i64 rank, .int .i64 t, .slice a l.length c]
  have b0 := (Below.refl w.heap.size w).alloc (Nat.le_refl _) (.cells #[.int .i64 3, .int .i64 asn, .int .i64 rank, .int .i64 t, .slice a l.length c] 49)
  have h1 := h.below b0
  have hsz : w.heap.size ≤ (w.alloc (.cells #[.int .i64 3, .int .i64 asn, .int .i64 rank, .int .i64 t, .slice a l.length c] 49)).heap.size := by simp
  go_enter Try.func66, Try.ntmps66
  go_upto_region 2 with (fail)
  generalize w.alloc (.cells #[.int .i64 3, .int .i64 asn, .int .i64 rank, .int .i64 t, .slice a l.length c] 49) = w1 at *
  have c0 := o1.cell 0
  have c1 := o1.cell 1
  have c2 := o1.cell 2
  have c3 := o1.cell 3
  have c4 := o1.cell 4
  simp at c0 c1 c2 c3 c4
  go_upto_region 12 with (fail)
  have x0 : ∀ x : Ext w1, x.toW.cell? ⟨w.heap.size, 0, none⟩ = some (.int .i64 3) := fun x => keep_cell x.ok (o1.cell 0)
  have x1 : ∀ x : Ext w1, x.toW.cell? ⟨w.heap.size, 1, none⟩ = some (.int .i64 asn) := fun x => keep_cell x.ok (o1.cell 1)
  have x2 : ∀ x : Ext w1, x.toW.cell? ⟨w.heap.size, 2, none⟩ = some (.int .i64 rank) := fun x => keep_cell x.ok (o1.cell 2)
  have x3 : ∀ x : Ext w1, x.toW.cell? ⟨w.heap.size, 3, none⟩ = some (.int .i64 t) := fun x => keep_cell x.ok (o1.cell 3)
  have x4 : ∀ x : Ext w1, x.toW.cell? ⟨w.heap.size, 4, none⟩ = some (.slice a l.length c) := fun x => keep_cell x.ok (o1.cell 4)
  have hm := fun k v (x : Ext w1) => meth3 k v x.toW
  have F : ∀ x : Ext w1, Calls Try.prog 103 #[.agg #[.slice a l.length c]] x.toW fun r w' => r = .returned (.bool (listB l)) ∧ Below x.toW.heap.size x.toW w' := fun x => fits3 a c l x.toW h1.lc h1.cm (h1.row.below x.ok)
  have G : ∀ x : Ext w1, Calls Try.prog 77 #[.iface 148 (.agg #[.slice a l.length c])] x.toW fun r w' => r = .returned (.agg #[.int .i64 3, .int .i64 0, .int .i64 0, .int .i64 0, .slice a l.length c]) ∧ Below x.toW.heap.size x.toW w' := fun x => plain3 a l.length c x.toW
  have S : ∀ x : Ext w1, Calls Try.prog 76 #[.agg #[.int .i64 3, .int .i64 0, .int .i64 0, .int .i64 0, .slice a l.length c], .agg #[.int .i64 3, .int .i64 asn, .int .i64 rank, .int .i64 t, .slice a l.length c]] x.toW fun r w' => r = .returned (.bool (sameE ⟨3, 0, 0, 0, l⟩ ⟨3, asn, rank, t, l⟩)) ∧ Below x.toW.heap.size x.toW w' :=
    fun x => sameE_any ⟨3, 0, 0, 0, l⟩ ⟨3, asn, rank, t, l⟩ a c a c x.toW (⟨h1.lc, h1.cm, h1.row.below x.ok, h1.nil⟩) (h1.below x.ok)
  obtain ⟨e, he⟩ : ∃ e, listB l = e := ⟨_, rfl⟩
  obtain ⟨q, hq⟩ : ∃ q, sameE ⟨3, 0, 0, 0, l⟩ ⟨3, asn, rank, t, l⟩ = q := ⟨_, rfl⟩
  have HM : Hid (mayE ⟨3, asn, rank, t, l⟩ = (e && q)) := Lib.hid (by rw [← he, ← hq]; rfl)
  rw [he] at F
  rw [hq] at S
  have FF := Lib.hid F
  have GG := Lib.hid G
  have SS := Lib.hid S
  clear F G S c0 c1 c2 c3 c4 h h1 o1 he hq
  unfold v3 at *
  cases e
  · refine wp_region_ext w1 (by kernel_rfl) (by kernel_rfl) (Below.refl _ _) ?_
    repeat (go_big_quiet_step (first | (go_at_call 103; with_reducible exact ext_below _ (u := .bool false) (FF.out _))))
    refine wpQuiet_nil ?_
    rintro w9 ⟨x9, rfl⟩
    go_wp2_with fail
    go_ret2
    exact ⟨by rw [HM.out]; rfl, b0.trans (x9.ok.mono hsz)⟩
  · refine wp_region_ext w1 (by kernel_rfl) (by kernel_rfl) (Below.refl _ _) ?_
    repeat (go_big_quiet_step (first
      | (go_at_call 103; with_reducible exact ext_below _ (u := .bool true) (FF.out _))
      | (go_at_call 77; with_reducible exact ext_below _ (u := .agg #[.int .i64 3, .int .i64 0, .int .i64 0, .int .i64 0, .slice a l.length c]) (GG.out _))
      | (go_at_call 76; with_reducible exact ext_below _ (u := .bool q) (SS.out _))))
    refine wpQuiet_nil ?_
    rintro w9 ⟨x9, rfl⟩
    go_wp2_with fail
    go_ret2
    exact ⟨by rw [HM.out]; rfl, b0.trans (x9.ok.mono hsz)⟩
set_option maxHeartbeats 2000000 in
theorem from4 (asn rank t : Int) (l : List Int) (a : Option Addr) (c : Nat) (w : World) (h : (⟨4, asn, rank, t, l⟩ : El).At w a c) :
    Calls Try.prog 66 #[.agg #[.int .i64 4, .int .i64 asn, .int .i64 rank, .int .i64 t, .slice a l.length c]] w fun r w' => r = .returned (.tuple #[v4 (.slice a l.length c), .bool (mayE ⟨4, asn, rank, t, l⟩)]) ∧ Below w.heap.size w w' := by
  have o1 := Own.new w 49 #[.int .i64 4, .int .i64 asn, .int .i64 rank, .int .i64 t, .slice a l.length c]
  have b0 := (Below.refl w.heap.size w).alloc (Nat.le_refl _) (.cells #[.int .i64 4, .int .i64 asn, .int .i64 rank, .int .i64 t, .slice a l.length c] 49)
  have h1 := h.below b0
  have hsz : w.heap.size ≤ (w.alloc (.cells #[.int .i64 4, .int .i64 asn, .int .i64 rank, .int .i64 t, .slice a l.length c] 49)).heap.size := by simp
  go_enter Try.func66, Try.ntmps66
  go_upto_region 2 with (fail)
  generalize w.alloc (.cells #[.int .i64 4, .int .i64 asn, .int .i64 rank, .int .i64 t, .slice a l.length c] 49) = w1 at *
  have c0 := o1.cell 0
  have c1 := o1.cell 1
  have c2 := o1.cell 2
  have c3 := o1.cell 3
  have c4 := o1.cell 4
  simp at c0 c1 c2 c3 c4
  go_upto_region 12 with (fail)
  have x0 : ∀ x : Ext w1, x.toW.cell? ⟨w.heap.size, 0, none⟩ = some (.int .i64 4) := fun x => keep_cell x.ok (o1.cell 0)
  have x1 : ∀ x : Ext w1, x.toW.cell? ⟨w.heap.size, 1, none⟩ = some (.int .i64 asn) := fun x => keep_cell x.ok (o1.cell 1)
  have x2 : ∀ x : Ext w1, x.toW.cell? ⟨w.heap.size, 2, none⟩ = some (.int .i64 rank) := fun x => keep_cell x.ok (o1.cell 2)
  have x3 : ∀ x : Ext w1, x.toW.cell? ⟨w.heap.size, 3, none⟩ = some (.int .i64 t) := fun x => keep_cell x.ok (o1.cell 3)
  have x4 : ∀ x : Ext w1, x.toW.cell? ⟨w.heap.size, 4, none⟩ = some (.slice a l.length c) := fun x => keep_cell x.ok (o1.cell 4)
  have hm := fun k v (x : Ext w1) => meth4 k v x.toW
  have F : ∀ x : Ext w1, Calls Try.prog 105 #[.agg #[.slice a l.length c]] x.toW fun r w' => r = .returned (.bool (listB l)) ∧ Below x.toW.heap.size x.toW w' := fun x => fits4 a c l x.toW h1.lc h1.cm (h1.row.below x.ok)
  have G : ∀ x : Ext w1, Calls Try.prog 77 #[.iface 149 (.agg #[.slice a l.length c])] x.toW fun r w' => r = .returned (.agg #[.int .i64 4, .int .i64 0, .int .i64 0, .int .i64 0, .slice a l.length c]) ∧ Below x.toW.heap.size x.toW w' := fun x => plain4 a l.length c x.toW
  have S : ∀ x : Ext w1, Calls Try.prog 76 #[.agg #[.int .i64 4, .int .i64 0, .int .i64 0, .int .i64 0, .slice a l.length c], .agg #[.int .i64 4, .int .i64 asn, .int .i64 rank, .int .i64 t, .slice a l.length c]] x.toW fun r w' => r = .returned (.bool (sameE ⟨4, 0, 0, 0, l⟩ ⟨4, asn, rank, t, l⟩)) ∧ Below x.toW.heap.size x.toW w' :=
    fun x => sameE_any ⟨4, 0, 0, 0, l⟩ ⟨4, asn, rank, t, l⟩ a c a c x.toW (⟨h1.lc, h1.cm, h1.row.below x.ok, h1.nil⟩) (h1.below x.ok)
  obtain ⟨e, he⟩ : ∃ e, listB l = e := ⟨_, rfl⟩
  obtain ⟨q, hq⟩ : ∃ q, sameE ⟨4, 0, 0, 0, l⟩ ⟨4, asn, rank, t, l⟩ = q := ⟨_, rfl⟩
  have HM : Hid (mayE ⟨4, asn, rank, t, l⟩ = (e && q)) := Lib.hid (by rw [← he, ← hq]; rfl)
  rw [he] at F
  rw [hq] at S
  have FF := Lib.hid F
  have GG := Lib.hid G
  have SS := Lib.hid S
  clear F G S c0 c1 c2 c3 c4 h h1 o1 he hq
  unfold v4 at *
  cases e
  · refine wp_region_ext w1 (by kernel_rfl) (by kernel_rfl) (Below.refl _ _) ?_
    repeat (go_big_quiet_step (first | (go_at_call 105; with_reducible exact ext_below _ (u := .bool false) (FF.out _))))
    refine wpQuiet_nil ?_
    rintro w9 ⟨x9, rfl⟩
    go_wp2_with fail
    go_ret2
    exact ⟨by rw [HM.out]; rfl, b0.trans (x9.ok.mono hsz)⟩
  · refine wp_region_ext w1 (by kernel_rfl) (by kernel_rfl) (Below.refl _ _) ?_
    repeat (go_big_quiet_step (first
      | (go_at_call 105; with_reducible exact ext_below _ (u := .bool true) (FF.out _))
      | (go_at_call 77; with_reducible exact ext_below _ (u := .agg #[.int .i64 4, .int .i64 0, .int .i64 0, .int .i64 0, .slice a l.length c]) (GG.out _))
      | (go_at_call 76; with_reducible exact ext_below _ (u := .bool q) (SS.out _))))
    refine wpQuiet_nil ?_
    rintro w9 ⟨x9, rfl⟩
    go_wp2_with fail
    go_ret2
    exact ⟨by rw [HM.out]; rfl, b0.trans (x9.ok.mono hsz)⟩
set_option maxHeartbeats 2000000 in
theorem from0 (k asn rank t : Int) (v : Value) (w : World) (h1 : k ≠ 1) (h2 : k ≠ 2) (h3 : k ≠ 3) (h4 : k ≠ 4) :
    Calls Try.prog 66 #[.agg #[.int .i64 k, .int .i64 asn, .int .i64 rank, .int .i64 t, v]] w fun r w' => r = .returned (.tuple #[.nilIface, .bool false]) ∧ Below w.heap.size w w' := by
  have b0 := (Below.refl w.heap.size w).alloc (Nat.le_refl _) (.cells #[.int .i64 k, .int .i64 asn, .int .i64 rank, .int .i64 t, v] 49)
  have g1 : (k == 1) = false := by simpa using h1
  have g2 : (k == 2) = false := by simpa using h2
  have g3 : (k == 3) = false := by simpa using h3
  have g4 : (k == 4) = false := by simpa using h4
  clear h1 h2 h3 h4
  go_enter Try.func66, Try.ntmps66
  go_wp2_with fail
  go_ret2
  exact ⟨rfl, b0⟩
/-- What from tells. -/
def fromV (e : El) (a : Option Addr) (c : Nat) : Value := if e.k = 1 then v1 e.asn e.rank else if e.k = 2 then v2 e.ticks else if e.k = 3 then v3 (.slice a e.list.length c) else if e.k = 4 then v4 (.slice a e.list.length c) else .nilIface
theorem from_any (e : El) (a : Option Addr) (c : Nat) (w : World) (h : e.At w a c) :
    Calls Try.prog 66 #[.agg (e.vals a c)] w fun r w' => r = .returned (.tuple #[fromV e a c, .bool (mayE e)]) ∧ Below w.heap.size w w' := by
  obtain ⟨k, asn, rank, t, l⟩ := e
  by_cases k1 : k = 1
  · subst k1; exact from1 asn rank t l a c w h
  by_cases k2 : k = 2
  · subst k2; exact from2 asn rank t l a c w h
  by_cases k3 : k = 3
  · subst k3; exact from3 asn rank t l a c w h
  by_cases k4 : k = 4
  · subst k4; exact from4 asn rank t l a c w h
  have e1 : fromV ⟨k, asn, rank, t, l⟩ a c = .nilIface := by unfold fromV; simp [k1, k2, k3, k4]
  have e2 : mayE ⟨k, asn, rank, t, l⟩ = false := by unfold mayE fitB; simp [k1, k2, k3, k4]
  rw [e1, e2]
  exact from0 k asn rank t _ w k1 k2 k3 k4
theorem may_any (e : El) (a : Option Addr) (c : Nat) (w : World) (h : e.At w a c) :
    Calls Try.prog 75 #[.agg (e.vals a c)] w fun r w' => r = .returned (.bool (mayE e)) ∧ Below w.heap.size w w' := by
  have o1 := Own.new w 49 (e.vals a c)
  have b0 := (Below.refl w.heap.size w).alloc (Nat.le_refl _) (.cells (e.vals a c) 49)
  have h1 := h.below b0
  have hsz : w.heap.size ≤ (w.alloc (.cells (e.vals a c) 49)).heap.size := by simp
  have hf := from_any e a c _ h1
  have HF := Lib.hid hf
  clear hf
  obtain ⟨k, asn, rank, t, l⟩ := e
  obtain ⟨q, hq⟩ : ∃ q, mayE ⟨k, asn, rank, t, l⟩ = q := ⟨_, rfl⟩
  rw [hq] at HF ⊢
  obtain ⟨u, hu⟩ : ∃ u, fromV ⟨k, asn, rank, t, l⟩ a c = u := ⟨_, rfl⟩
  rw [hu] at HF
  unfold El.vals at *
  simp only at *
  go_enter Try.func75, Try.ntmps75
  go_wp2_with (refine HF.out.mono ?_; rintro r w' ⟨rfl, b1⟩)
  go_ret
  exact ⟨rfl, b0.trans (b1.mono hsz)⟩
end Go.Proofs.Ytiflmdekcjbmbaa.Ie
set_option maxRecDepth 100000
namespace Go.Proofs.Ytiflmdekcjbmbaa.Ie
set_option linter.unusedVariables false
set_option linter.unusedSimpArgs false
open Go.RowKit Lb Go.Shelf

def asnB (x : Int) : Bool := decide (0 ≤ x ∧ x < 1099511627776)
theorem asn_any (x : Int) (w : World) : Calls Try.prog 71 #[.int .i64 x] w fun r w' => r = .returned (.bool (asnB x)) ∧ w = w' := by
  by_cases h1 : 0 ≤ x
  · by_cases h2 : x < 1099511627776
    · have HD : Hid (asnB x = true) := Lib.hid (decide_eq_true (And.intro h1 h2))
      go_enter Try.func71, Try.ntmps71
      go_wp2_with fail
      go_ret
      exact ⟨by rw [HD.out]; rfl, rfl⟩
    · have HD : Hid (asnB x = false) := Lib.hid (decide_eq_false (fun h => h2 h.2))
      go_enter Try.func71, Try.ntmps71
      go_wp2_with fail
      go_ret
      exact ⟨by rw [HD.out]; rfl, rfl⟩
  · have HD : Hid (asnB x = false) := Lib.hid (decide_eq_false (fun h => h1 h.1))
    go_enter Try.func71, Try.ntmps71
    go_wp2_with fail
    go_ret
    exact ⟨by rw [HD.out]; rfl, rfl⟩
theorem may1 (a r t : Int) (l : List Int) : mayE ⟨1, a, r, t, l⟩ = (asnB a && (decide (0 ≤ r) && (decide (r ≤ 255) && ((t == 0) && (l.length == 0))))) := by
  rw [Bool.eq_iff_iff]
  simp [mayE, fitB, sameE, own, octB, asnB]
  constructor
  · rintro ⟨⟨h1, h2⟩, h3, h4⟩; subst h4; exact ⟨h1, h2.1, h2.2, h3.symm, rfl⟩
  · rintro ⟨h1, h2, h3, h4, h5⟩; subst h5; exact ⟨⟨h1, h2, h3⟩, h4.symm, rfl⟩
theorem may2 (a r t : Int) (l : List Int) : mayE ⟨2, a, r, t, l⟩ = (decide (-32768 ≤ t) && (decide (t ≤ 32767) && ((a == 0) && ((r == 0) && (l.length == 0))))) := by
  rw [Bool.eq_iff_iff]
  simp [mayE, fitB, sameE, own]
  constructor
  · rintro ⟨⟨h1, h2⟩, h3, h4, h5⟩; subst h5; exact ⟨h1, h2, h3.symm, h4.symm, rfl⟩
  · rintro ⟨h1, h2, h3, h4, h5⟩; subst h5; exact ⟨⟨h1, h2⟩, h3.symm, h4.symm, rfl⟩
theorem may3 (k a r t : Int) (l : List Int) (hk : k = 3 ∨ k = 4) : mayE ⟨k, a, r, t, l⟩ = (octsB l && (decide (l.length ≤ 16) && ((a == 0) && ((r == 0) && (t == 0))))) := by
  rw [Bool.eq_iff_iff]
  rcases hk with rfl | rfl
  all_goals
    simp [mayE, fitB, sameE, own, listB]
    constructor
    · rintro ⟨⟨h1, h2⟩, h3, h4, h5⟩; exact ⟨h1, h2, h3.symm, h4.symm, h5.symm⟩
    · rintro ⟨h1, h2, h3, h4, h5⟩; exact ⟨⟨h1, h2⟩, h3.symm, h4.symm, h5.symm⟩
theorem may0 (k a r t : Int) (l : List Int) (h1 : k ≠ 1) (h2 : k ≠ 2) (h3 : k ≠ 3) (h4 : k ≠ 4) : mayE ⟨k, a, r, t, l⟩ = false := by
  unfold mayE fitB
  simp [h1, h2, h3, h4]
set_option maxHeartbeats 2000000 in
theorem rmay1 (asn rank t : Int) (l : List Int) (a : Option Addr) (c : Nat) (w : World) :
    Calls Try.prog 55 #[.agg #[.int .i64 1, .int .i64 asn, .int .i64 rank, .int .i64 t, .slice a l.length c]] w fun r w' => r = .returned (.bool (mayE ⟨1, asn, rank, t, l⟩)) ∧ Below w.heap.size w w' := by
  have o1 := Own.new w 49 #[.int .i64 1, .int .i64 asn, .int .i64 rank, .int .i64 t, .slice a l.length c]
  have b0 := (Below.refl w.heap.size w).alloc (Nat.le_refl _) (.cells #[.int .i64 1, .int .i64 asn, .int .i64 rank, .int .i64 t, .slice a l.length c] 49)
  have hD := may1 asn rank t l
  go_enter Try.func55, Try.ntmps55
  go_upto_region 1 with (fail)
  generalize w.alloc (.cells #[.int .i64 1, .int .i64 asn, .int .i64 rank, .int .i64 t, .slice a l.length c] 49) = w1 at *
  have c0 : w1.cell? ⟨w.heap.size, 0, none⟩ = some (.int .i64 1) := o1.cell 0
  have c1 : w1.cell? ⟨w.heap.size, 1, none⟩ = some (.int .i64 asn) := o1.cell 1
  have c2 : w1.cell? ⟨w.heap.size, 2, none⟩ = some (.int .i64 rank) := o1.cell 2
  have c3 : w1.cell? ⟨w.heap.size, 3, none⟩ = some (.int .i64 t) := o1.cell 3
  have c4 : w1.cell? ⟨w.heap.size, 4, none⟩ = some (.slice a l.length c) := o1.cell 4
  obtain ⟨n, hn⟩ : ∃ n, l.length = n := ⟨_, rfl⟩
  rw [hn] at c4 hD
  obtain ⟨e1, he1⟩ : ∃ e, asnB asn = e := ⟨_, rfl⟩
  obtain ⟨e2, he2⟩ : ∃ e, decide (0 ≤ rank) = e := ⟨_, rfl⟩
  obtain ⟨e3, he3⟩ : ∃ e, decide (rank ≤ 255) = e := ⟨_, rfl⟩
  obtain ⟨e4, he4⟩ : ∃ e, (t == 0) = e := ⟨_, rfl⟩
  obtain ⟨e5, he5⟩ : ∃ e, (n == 0) = e := ⟨_, rfl⟩
  rw [he1, he2, he3, he4, he5] at hD
  have he6 : ((n : Int) == 0) = e5 := by rw [← he5, Bool.eq_iff_iff]; simp
  have HD := Lib.hid hD
  have H1 := Lib.hid he1
  clear hn hD o1 he1
  cases e1
  case' true => cases e2
  case' true.true => cases e3
  case' true.true.true => cases e4
  case' true.true.true.true => cases e5
  all_goals
    go_wp2_with (refine (asn_any _ _).mono ?_; rintro r w' ⟨rfl, rfl⟩; rw [H1.out])
    go_ret
    exact ⟨by rw [HD.out]; rfl, b0⟩
set_option maxHeartbeats 2000000 in
theorem rmay2 (asn rank t : Int) (l : List Int) (a : Option Addr) (c : Nat) (w : World) :
    Calls Try.prog 55 #[.agg #[.int .i64 2, .int .i64 asn, .int .i64 rank, .int .i64 t, .slice a l.length c]] w fun r w' => r = .returned (.bool (mayE ⟨2, asn, rank, t, l⟩)) ∧ Below w.heap.size w w' := by
  have o1 := Own.new w 49 #[.int .i64 2, .int .i64 asn, .int .i64 rank, .int .i64 t, .slice a l.length c]
  have b0 := (Below.refl w.heap.size w).alloc (Nat.le_refl _) (.cells #[.int .i64 2, .int .i64 asn, .int .i64 rank, .int .i64 t, .slice a l.length c] 49)
  have hD := may2 asn rank t l
  go_enter Try.func55, Try.ntmps55
  go_upto_region 1 with (fail)
  generalize w.alloc (.cells #[.int .i64 2, .int .i64 asn, .int .i64 rank, .int .i64 t, .slice a l.length c] 49) = w1 at *
  have c0 : w1.cell? ⟨w.heap.size, 0, none⟩ = some (.int .i64 2) := o1.cell 0
  have c1 : w1.cell? ⟨w.heap.size, 1, none⟩ = some (.int .i64 asn) := o1.cell 1
  have c2 : w1.cell? ⟨w.heap.size, 2, none⟩ = some (.int .i64 rank) := o1.cell 2
  have c3 : w1.cell? ⟨w.heap.size, 3, none⟩ = some (.int .i64 t) := o1.cell 3
  have c4 : w1.cell? ⟨w.heap.size, 4, none⟩ = some (.slice a l.length c) := o1.cell 4
  obtain ⟨n, hn⟩ : ∃ n, l.length = n := ⟨_, rfl⟩
  rw [hn] at c4 hD
  obtain ⟨e1, he1⟩ : ∃ e, decide (-32768 ≤ t) = e := ⟨_, rfl⟩
  obtain ⟨e2, he2⟩ : ∃ e, decide (t ≤ 32767) = e := ⟨_, rfl⟩
  obtain ⟨e3, he3⟩ : ∃ e, (asn == 0) = e := ⟨_, rfl⟩
  obtain ⟨e4, he4⟩ : ∃ e, (rank == 0) = e := ⟨_, rfl⟩
  obtain ⟨e5, he5⟩ : ∃ e, (n == 0) = e := ⟨_, rfl⟩
  rw [he1, he2, he3, he4, he5] at hD
  have he6 : ((n : Int) == 0) = e5 := by rw [← he5, Bool.eq_iff_iff]; simp
  have HD := Lib.hid hD
  clear hn hD o1
  cases e1
  case' true => cases e2
  case' true.true => cases e3
  case' true.true.true => cases e4
  case' true.true.true.true => cases e5
  all_goals
    go_wp2_with fail
    go_ret
    exact ⟨by rw [HD.out]; rfl, b0⟩
set_option maxHeartbeats 4000000 in
theorem rmay3 (k asn rank t : Int) (l : List Int) (a : Option Addr) (c : Nat) (w : World) (hk : k = 3 ∨ k = 4) (h : (⟨k, asn, rank, t, l⟩ : El).At w a c) :
    Calls Try.prog 55 #[.agg #[.int .i64 k, .int .i64 asn, .int .i64 rank, .int .i64 t, .slice a l.length c]] w fun r w' => r = .returned (.bool (mayE ⟨k, asn, rank, t, l⟩)) ∧ Below w.heap.size w w' := by
  have o1 := Own.new w 49 #[.int .i64 k, .int .i64 asn, .int .i64 rank, .int .i64 t, .slice a l.length c]
  have b0 := (Below.refl w.heap.size w).alloc (Nat.le_refl _) (.cells #[.int .i64 k, .int .i64 asn, .int .i64 rank, .int .i64 t, .slice a l.length c] 49)
  have hD := may3 k asn rank t l hk
  have hR := h.row.below b0
  have hlc := h.lc
  have hcm := h.cm
  unfold maxLen at hcm
  have g1 : (k == 1) = false := by simp; omega
  have g2 : (k == 2) = false := by simp; omega
  have g4 : (k == 3) = false → (k == 4) = true := by simp; omega
  obtain ⟨d3, hd3⟩ : ∃ d, (k == 3) = d := ⟨_, rfl⟩
  rw [hd3] at g4
  go_enter Try.func55, Try.ntmps55
  go_upto_region 1 with (fail)
  generalize w.alloc (.cells #[.int .i64 k, .int .i64 asn, .int .i64 rank, .int .i64 t, .slice a l.length c] 49) = w1 at *
  have c0 : w1.cell? ⟨w.heap.size, 0, none⟩ = some (.int .i64 k) := o1.cell 0
  have c1 : w1.cell? ⟨w.heap.size, 1, none⟩ = some (.int .i64 asn) := o1.cell 1
  have c2 : w1.cell? ⟨w.heap.size, 2, none⟩ = some (.int .i64 rank) := o1.cell 2
  have c3 : w1.cell? ⟨w.heap.size, 3, none⟩ = some (.int .i64 t) := o1.cell 3
  have c4 : w1.cell? ⟨w.heap.size, 4, none⟩ = some (.slice a l.length c) := o1.cell 4
  obtain ⟨n, hn⟩ : ∃ n, l.length = n := ⟨_, rfl⟩
  have HN := Lib.hid hn
  rw [hn] at c4 hD hR hlc
  obtain ⟨e1, he1⟩ : ∃ e, octsB l = e := ⟨_, rfl⟩
  obtain ⟨e2, he2⟩ : ∃ e, decide (n ≤ 16) = e := ⟨_, rfl⟩
  obtain ⟨e3, he3⟩ : ∃ e, (asn == 0) = e := ⟨_, rfl⟩
  obtain ⟨e4, he4⟩ : ∃ e, (rank == 0) = e := ⟨_, rfl⟩
  obtain ⟨e5, he5⟩ : ∃ e, (t == 0) = e := ⟨_, rfl⟩
  rw [he1, he2, he3, he4, he5] at hD
  have he6 : decide ((n : Int) ≤ 16) = e2 := by rw [← he2, Bool.eq_iff_iff]; simp; omega
  have HD := Lib.hid hD
  have H1 := Lib.hid he1
  have H2 := Lib.hid he2
  have H3 := Lib.hid he3
  have H4 := Lib.hid he4
  have H5 := Lib.hid he5
  have H6 := Lib.hid he6
  clear hn hD o1 he1 h hk he2 he3 he4 he5 he6
  cases d3
  case' false =>
    have g5 := g4 rfl
  all_goals
    clear g4
    go_wp2_with fail
    go_loopw [65] (fun i wr => ∃ k : Nat, i = .int .i64 k ∧ k ≤ n ∧ Hid (∀ j, j < k → octB (l.getD j 0) = true) ∧ w1 = wr) (fun i _ => n - (intOf i).toNat)
    case atStart => exact ⟨0, rfl, by omega, Lib.hid (fun j hj => by omega), rfl⟩
    case round =>
      obtain ⟨i, rfl, hi, HE, rfl⟩ := hrel
      by_cases hlt : i < n
      · obtain ⟨p, o, rfl, _, x1⟩ := hR.at_ hlt
        unfold zval at x1
        obtain ⟨x, hx⟩ : ∃ x, l.getD i 0 = x := ⟨_, rfl⟩
        rw [hx] at x1
        have HX := Lib.hid hx
        clear hx
        by_cases h1 : x < 0
        · have f1 : decide (x < 0) = true := by simpa using h1
          have HO : Hid (e1 = false) := Lib.hid (by rw [← H1.out]; exact octsB_no (j := i) (by rw [HN.out]; exact hlt) (by rw [HX.out]; unfold octB; simp; omega))
          clear h1
          go_wp2_with fail
          go_ret
          exact ⟨by rw [HD.out, HO.out]; rfl, b0⟩
        · have f1 : decide (x < 0) = false := by simpa using h1
          by_cases h2 : 255 < x
          · have f2 : decide (255 < x) = true := by simpa using h2
            have HO : Hid (e1 = false) := Lib.hid (by rw [← H1.out]; exact octsB_no (j := i) (by rw [HN.out]; exact hlt) (by rw [HX.out]; unfold octB; simp; omega))
            clear h1 h2
            go_wp2_with fail
            go_ret
            exact ⟨by rw [HD.out, HO.out]; rfl, b0⟩
          · have f2 : decide (255 < x) = false := by simpa using h2
            have HE2 : Hid (∀ j, j < i + 1 → octB (l.getD j 0) = true) := Lib.hid (fun j hj => by
              by_cases e : j = i
              · subst e; rw [HX.out]; unfold octB; simp; omega
              · exact HE.out j (by omega))
            clear h1 h2
            go_wp2_with fail
            exact ⟨⟨i + 1, by simp, by omega, HE2, by first | trivial | rfl⟩, by simp [intOf]; omega⟩
      · obtain rfl : n = i := by omega
        have HO : Hid (e1 = true) := Lib.hid (by rw [← H1.out]; exact octsB_yes (by rw [HN.out]; exact HE.out))
        have h2 := H2.out
        have h3 := H3.out
        have h4 := H4.out
        have h5 := H5.out
        have h6 := H6.out
        clear H2 H3 H4 H5 H6
        cases e2
        case' true => cases e3
        case' true.true => cases e4
        case' true.true.true => cases e5
        all_goals
          go_wp2_with fail
          go_ret
          exact ⟨by rw [HD.out, HO.out]; rfl, b0⟩
theorem rmay0 (k asn rank t : Int) (v : Value) (w : World) (h1 : k ≠ 1) (h2 : k ≠ 2) (h3 : k ≠ 3) (h4 : k ≠ 4) :
    Calls Try.prog 55 #[.agg #[.int .i64 k, .int .i64 asn, .int .i64 rank, .int .i64 t, v]] w fun r w' => r = .returned (.bool false) ∧ Below w.heap.size w w' := by
  have b0 := (Below.refl w.heap.size w).alloc (Nat.le_refl _) (.cells #[.int .i64 k, .int .i64 asn, .int .i64 rank, .int .i64 t, v] 49)
  have g1 : (k == 1) = false := by simpa using h1
  have g2 : (k == 2) = false := by simpa using h2
  have g3 : (k == 3) = false := by simpa using h3
  have g4 : (k == 4) = false := by simpa using h4
  clear h1 h2 h3 h4
  go_enter Try.func55, Try.ntmps55
  go_wp2_with fail
  go_ret
  exact ⟨rfl, b0⟩
theorem rmay_any (e : El) (a : Option Addr) (c : Nat) (w : World) (h : e.At w a c) :
    Calls Try.prog 55 #[.agg (e.vals a c)] w fun r w' => r = .returned (.bool (mayE e)) ∧ Below w.heap.size w w' := by
  obtain ⟨k, asn, rank, t, l⟩ := e
  by_cases k1 : k = 1
  · subst k1; exact rmay1 asn rank t l a c w
  by_cases k2 : k = 2
  · subst k2; exact rmay2 asn rank t l a c w
  by_cases k3 : k = 3 ∨ k = 4
  · exact rmay3 k asn rank t l a c w k3 h
  rw [may0 k asn rank t l k1 k2 (fun h => k3 (.inl h)) (fun h => k3 (.inr h))]
  exact rmay0 k asn rank t _ w k1 k2 (fun h => k3 (.inl h)) (fun h => k3 (.inr h))
end Go.Proofs.Ytiflmdekcjbmbaa.Ie
