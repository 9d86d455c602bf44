/-
  The reference's word on which elements may be.
-/
import Derived.Test.YtoconkgemakboaaIeFrom
set_option maxRecDepth 100000
namespace Go.Proofs.Ytoconkgemakboaa.Ie
set_option linter.unusedVariables false
open Go.RowKit Lb Go.Shelf

def asnB (x : Int) : Bool := decide (0 ≤ x ∧ x < 1099511627776)
theorem asn_any (x : Int) (w : World) : Calls Try.prog 58 #[.int .i64 x] w fun r w' => r = .returned (.bool (asnB x)) ∧ w = w' := by
  by_cases h1 : 0 ≤ x
  · by_cases h2 : x < 1099511627776
    · have HD : Hid (asnB x = true) := Lib.hid (decide_eq_true (And.intro h1 h2))
      go_enter Try.func58, Try.ntmps58
      go_wp2_with fail
      go_ret
      exact ⟨by rw [HD.out]; rfl, rfl⟩
    · have HD : Hid (asnB x = false) := Lib.hid (decide_eq_false (fun h => h2 h.2))
      go_enter Try.func58, Try.ntmps58
      go_wp2_with fail
      go_ret
      exact ⟨by rw [HD.out]; rfl, rfl⟩
  · have HD : Hid (asnB x = false) := Lib.hid (decide_eq_false (fun h => h1 h.1))
    go_enter Try.func58, Try.ntmps58
    go_wp2_with fail
    go_ret
    exact ⟨by rw [HD.out]; rfl, rfl⟩
theorem may1 (a r t : Int) (l : List Int) : mayE ⟨1, a, r, t, l⟩ = (asnB a && (decide (0 ≤ r) && (decide (r ≤ 255) && ((t == 0) && (l.length == 0))))) := by
  rw [Bool.eq_iff_iff]
  simp [mayE, fitB, sameE, own, octB, asnB]
  constructor
  · rintro ⟨⟨h1, h2⟩, h3, h4⟩; subst h4; exact ⟨h1, h2.1, h2.2, h3.symm, rfl⟩
  · rintro ⟨h1, h2, h3, h4, h5⟩; subst h5; exact ⟨⟨h1, h2, h3⟩, h4.symm, rfl⟩
theorem may2 (a r t : Int) (l : List Int) : mayE ⟨2, a, r, t, l⟩ = (decide (-32768 ≤ t) && (decide (t ≤ 32767) && ((a == 0) && ((r == 0) && (l.length == 0))))) := by
  rw [Bool.eq_iff_iff]
  simp [mayE, fitB, sameE, own]
  constructor
  · rintro ⟨⟨h1, h2⟩, h3, h4, h5⟩; subst h5; exact ⟨h1, h2, h3.symm, h4.symm, rfl⟩
  · rintro ⟨h1, h2, h3, h4, h5⟩; subst h5; exact ⟨⟨h1, h2⟩, h3.symm, h4.symm, rfl⟩
theorem may3 (k a r t : Int) (l : List Int) (hk : k = 3 ∨ k = 4) : mayE ⟨k, a, r, t, l⟩ = (octsB l && (decide (l.length ≤ 16) && ((a == 0) && ((r == 0) && (t == 0))))) := by
  rw [Bool.eq_iff_iff]
  rcases hk with rfl | rfl
  all_goals
    simp [mayE, fitB, sameE, own, listB]
    constructor
    · rintro ⟨⟨h1, h2⟩, h3, h4, h5⟩; exact ⟨h1, h2, h3.symm, h4.symm, h5.symm⟩
    · rintro ⟨h1, h2, h3, h4, h5⟩; exact ⟨⟨h1, h2⟩, h3.symm, h4.symm, h5.symm⟩
theorem may0 (k a r t : Int) (l : List Int) (h1 : k ≠ 1) (h2 : k ≠ 2) (h3 : k ≠ 3) (h4 : k ≠ 4) : mayE ⟨k, a, r, t, l⟩ = false := by
  unfold mayE fitB
  simp [h1, h2, h3, h4]
set_option maxHeartbeats 2000000 in
theorem rmay1 (asn rank t : Int) (l : List Int) (a : Option Addr) (c : Nat) (w : World) :
    Calls Try.prog 31 #[.agg #[.int .i64 1, .int .i64 asn, .int .i64 rank, .int .i64 t, .slice a l.length c]] w fun r w' => r = .returned (.bool (mayE ⟨1, asn, rank, t, l⟩)) ∧ Below w.heap.size w w' := by
  have o1 := Own.new w 52 #[.int .i64 1, .int .i64 asn, .int .i64 rank, .int .i64 t, .slice a l.length c]
  have b0 := (Below.refl w.heap.size w).alloc (Nat.le_refl _) (.cells #[.int .i64 1, .int .i64 asn, .int .i64 rank, .int .i64 t, .slice a l.length c] 52)
  have hD := may1 asn rank t l
  go_enter Try.func31, Try.ntmps31
  go_upto_region 1 with (fail)
  generalize w.alloc (.cells #[.int .i64 1, .int .i64 asn, .int .i64 rank, .int .i64 t, .slice a l.length c] 52) = w1 at *
  have c0 : w1.cell? ⟨w.heap.size, 0, none⟩ = some (.int .i64 1) := o1.cell 0
  have c1 : w1.cell? ⟨w.heap.size, 1, none⟩ = some (.int .i64 asn) := o1.cell 1
  have c2 : w1.cell? ⟨w.heap.size, 2, none⟩ = some (.int .i64 rank) := o1.cell 2
  have c3 : w1.cell? ⟨w.heap.size, 3, none⟩ = some (.int .i64 t) := o1.cell 3
  have c4 : w1.cell? ⟨w.heap.size, 4, none⟩ = some (.slice a l.length c) := o1.cell 4
  obtain ⟨n, hn⟩ : ∃ n, l.length = n := ⟨_, rfl⟩
  rw [hn] at c4 hD
  obtain ⟨e1, he1⟩ : ∃ e, asnB asn = e := ⟨_, rfl⟩
  obtain ⟨e2, he2⟩ : ∃ e, decide (0 ≤ rank) = e := ⟨_, rfl⟩
  obtain ⟨e3, he3⟩ : ∃ e, decide (rank ≤ 255) = e := ⟨_, rfl⟩
  obtain ⟨e4, he4⟩ : ∃ e, (t == 0) = e := ⟨_, rfl⟩
  obtain ⟨e5, he5⟩ : ∃ e, (n == 0) = e := ⟨_, rfl⟩
  rw [he1, he2, he3, he4, he5] at hD
  have he6 : ((n : Int) == 0) = e5 := by rw [← he5, Bool.eq_iff_iff]; simp
  have HD := Lib.hid hD
  have H1 := Lib.hid he1
  clear hn hD o1 he1
  cases e1
  case' true => cases e2
  case' true.true => cases e3
  case' true.true.true => cases e4
  case' true.true.true.true => cases e5
  all_goals
    go_wp2_with (refine (asn_any _ _).mono ?_; rintro r w' ⟨rfl, rfl⟩; rw [H1.out])
    go_ret
    exact ⟨by rw [HD.out]; rfl, b0⟩
set_option maxHeartbeats 2000000 in
theorem rmay2 (asn rank t : Int) (l : List Int) (a : Option Addr) (c : Nat) (w : World) :
    Calls Try.prog 31 #[.agg #[.int .i64 2, .int .i64 asn, .int .i64 rank, .int .i64 t, .slice a l.length c]] w fun r w' => r = .returned (.bool (mayE ⟨2, asn, rank, t, l⟩)) ∧ Below w.heap.size w w' := by
  have o1 := Own.new w 52 #[.int .i64 2, .int .i64 asn, .int .i64 rank, .int .i64 t, .slice a l.length c]
  have b0 := (Below.refl w.heap.size w).alloc (Nat.le_refl _) (.cells #[.int .i64 2, .int .i64 asn, .int .i64 rank, .int .i64 t, .slice a l.length c] 52)
  have hD := may2 asn rank t l
  go_enter Try.func31, Try.ntmps31
  go_upto_region 1 with (fail)
  generalize w.alloc (.cells #[.int .i64 2, .int .i64 asn, .int .i64 rank, .int .i64 t, .slice a l.length c] 52) = w1 at *
  have c0 : w1.cell? ⟨w.heap.size, 0, none⟩ = some (.int .i64 2) := o1.cell 0
  have c1 : w1.cell? ⟨w.heap.size, 1, none⟩ = some (.int .i64 asn) := o1.cell 1
  have c2 : w1.cell? ⟨w.heap.size, 2, none⟩ = some (.int .i64 rank) := o1.cell 2
  have c3 : w1.cell? ⟨w.heap.size, 3, none⟩ = some (.int .i64 t) := o1.cell 3
  have c4 : w1.cell? ⟨w.heap.size, 4, none⟩ = some (.slice a l.length c) := o1.cell 4
  obtain ⟨n, hn⟩ : ∃ n, l.length = n := ⟨_, rfl⟩
  rw [hn] at c4 hD
  obtain ⟨e1, he1⟩ : ∃ e, decide (-32768 ≤ t) = e := ⟨_, rfl⟩
  obtain ⟨e2, he2⟩ : ∃ e, decide (t ≤ 32767) = e := ⟨_, rfl⟩
  obtain ⟨e3, he3⟩ : ∃ e, (asn == 0) = e := ⟨_, rfl⟩
  obtain ⟨e4, he4⟩ : ∃ e, (rank == 0) = e := ⟨_, rfl⟩
  obtain ⟨e5, he5⟩ : ∃ e, (n == 0) = e := ⟨_, rfl⟩
  rw [he1, he2, he3, he4, he5] at hD
  have he6 : ((n : Int) == 0) = e5 := by rw [← he5, Bool.eq_iff_iff]; simp
  have HD := Lib.hid hD
  clear hn hD o1
  cases e1
  case' true => cases e2
  case' true.true => cases e3
  case' true.true.true => cases e4
  case' true.true.true.true => cases e5
  all_goals
    go_wp2_with fail
    go_ret
    exact ⟨by rw [HD.out]; rfl, b0⟩
set_option maxHeartbeats 4000000 in
theorem rmay3 (k asn rank t : Int) (l : List Int) (a : Option Addr) (c : Nat) (w : World) (hk : k = 3 ∨ k = 4) (h : (⟨k, asn, rank, t, l⟩ : El).At w a c) :
    Calls Try.prog 31 #[.agg #[.int .i64 k, .int .i64 asn, .int .i64 rank, .int .i64 t, .slice a l.length c]] w fun r w' => r = .returned (.bool (mayE ⟨k, asn, rank, t, l⟩)) ∧ Below w.heap.size w w' := by
  have o1 := Own.new w 52 #[.int .i64 k, .int .i64 asn, .int .i64 rank, .int .i64 t, .slice a l.length c]
  have b0 := (Below.refl w.heap.size w).alloc (Nat.le_refl _) (.cells #[.int .i64 k, .int .i64 asn, .int .i64 rank, .int .i64 t, .slice a l.length c] 52)
  have hD := may3 k asn rank t l hk
  have hR := h.row.below b0
  have hlc := h.lc
  have hcm := h.cm
  unfold maxLen at hcm
  have g1 : (k == 1) = false := by simp; omega
  have g2 : (k == 2) = false := by simp; omega
  have g4 : (k == 3) = false → (k == 4) = true := by simp; omega
  obtain ⟨d3, hd3⟩ : ∃ d, (k == 3) = d := ⟨_, rfl⟩
  rw [hd3] at g4
  go_enter Try.func31, Try.ntmps31
  go_upto_region 1 with (fail)
  generalize w.alloc (.cells #[.int .i64 k, .int .i64 asn, .int .i64 rank, .int .i64 t, .slice a l.length c] 52) = w1 at *
  have c0 : w1.cell? ⟨w.heap.size, 0, none⟩ = some (.int .i64 k) := o1.cell 0
  have c1 : w1.cell? ⟨w.heap.size, 1, none⟩ = some (.int .i64 asn) := o1.cell 1
  have c2 : w1.cell? ⟨w.heap.size, 2, none⟩ = some (.int .i64 rank) := o1.cell 2
  have c3 : w1.cell? ⟨w.heap.size, 3, none⟩ = some (.int .i64 t) := o1.cell 3
  have c4 : w1.cell? ⟨w.heap.size, 4, none⟩ = some (.slice a l.length c) := o1.cell 4
  obtain ⟨n, hn⟩ : ∃ n, l.length = n := ⟨_, rfl⟩
  have HN := Lib.hid hn
  rw [hn] at c4 hD hR hlc
  obtain ⟨e1, he1⟩ : ∃ e, octsB l = e := ⟨_, rfl⟩
  obtain ⟨e2, he2⟩ : ∃ e, decide (n ≤ 16) = e := ⟨_, rfl⟩
  obtain ⟨e3, he3⟩ : ∃ e, (asn == 0) = e := ⟨_, rfl⟩
  obtain ⟨e4, he4⟩ : ∃ e, (rank == 0) = e := ⟨_, rfl⟩
  obtain ⟨e5, he5⟩ : ∃ e, (t == 0) = e := ⟨_, rfl⟩
  rw [he1, he2, he3, he4, he5] at hD
  have he6 : decide ((n : Int) ≤ 16) = e2 := by rw [← he2, Bool.eq_iff_iff]; simp; omega
  have HD := Lib.hid hD
  have H1 := Lib.hid he1
  have H2 := Lib.hid he2
  have H3 := Lib.hid he3
  have H4 := Lib.hid he4
  have H5 := Lib.hid he5
  have H6 := Lib.hid he6
  clear hn hD o1 he1 h hk he2 he3 he4 he5 he6
  cases d3
  case' false =>
    have g5 := g4 rfl
  all_goals
    clear g4
    go_wp2_with fail
    go_loopw [65] (fun i wr => ∃ k : Nat, i = .int .i64 k ∧ k ≤ n ∧ Hid (∀ j, j < k → octB (l.getD j 0) = true) ∧ w1 = wr) (fun i _ => n - (intOf i).toNat)
    case atStart => exact ⟨0, rfl, by omega, Lib.hid (fun j hj => by omega), rfl⟩
    case round =>
      obtain ⟨i, rfl, hi, HE, rfl⟩ := hrel
      by_cases hlt : i < n
      · obtain ⟨p, o, rfl, _, x1⟩ := hR.at_ hlt
        unfold zval at x1
        obtain ⟨x, hx⟩ : ∃ x, l.getD i 0 = x := ⟨_, rfl⟩
        rw [hx] at x1
        have HX := Lib.hid hx
        clear hx
        by_cases h1 : x < 0
        · have f1 : decide (x < 0) = true := by simpa using h1
          have HO : Hid (e1 = false) := Lib.hid (by rw [← H1.out]; exact octsB_no (j := i) (by rw [HN.out]; exact hlt) (by rw [HX.out]; unfold octB; simp; omega))
          clear h1
          go_wp2_with fail
          go_ret
          exact ⟨by rw [HD.out, HO.out]; rfl, b0⟩
        · have f1 : decide (x < 0) = false := by simpa using h1
          by_cases h2 : 255 < x
          · have f2 : decide (255 < x) = true := by simpa using h2
            have HO : Hid (e1 = false) := Lib.hid (by rw [← H1.out]; exact octsB_no (j := i) (by rw [HN.out]; exact hlt) (by rw [HX.out]; unfold octB; simp; omega))
            clear h1 h2
            go_wp2_with fail
            go_ret
            exact ⟨by rw [HD.out, HO.out]; rfl, b0⟩
          · have f2 : decide (255 < x) = false := by simpa using h2
            have HE2 : Hid (∀ j, j < i + 1 → octB (l.getD j 0) = true) := Lib.hid (fun j hj => by
              by_cases e : j = i
              · subst e; rw [HX.out]; unfold octB; simp; omega
              · exact HE.out j (by omega))
            clear h1 h2
            go_wp2_with fail
            exact ⟨⟨i + 1, by simp, by omega, HE2, by first | trivial | rfl⟩, by simp [intOf]; omega⟩
      · obtain rfl : n = i := by omega
        have HO : Hid (e1 = true) := Lib.hid (by rw [← H1.out]; exact octsB_yes (by rw [HN.out]; exact HE.out))
        have h2 := H2.out
        have h3 := H3.out
        have h4 := H4.out
        have h5 := H5.out
        have h6 := H6.out
        clear H2 H3 H4 H5 H6
        cases e2
        case' true => cases e3
        case' true.true => cases e4
        case' true.true.true => cases e5
        all_goals
          go_wp2_with fail
          go_ret
          exact ⟨by rw [HD.out, HO.out]; rfl, b0⟩
theorem rmay0 (k asn rank t : Int) (v : Value) (w : World) (h1 : k ≠ 1) (h2 : k ≠ 2) (h3 : k ≠ 3) (h4 : k ≠ 4) :
    Calls Try.prog 31 #[.agg #[.int .i64 k, .int .i64 asn, .int .i64 rank, .int .i64 t, v]] w fun r w' => r = .returned (.bool false) ∧ Below w.heap.size w w' := by
  have b0 := (Below.refl w.heap.size w).alloc (Nat.le_refl _) (.cells #[.int .i64 k, .int .i64 asn, .int .i64 rank, .int .i64 t, v] 52)
  have g1 : (k == 1) = false := by simpa using h1
  have g2 : (k == 2) = false := by simpa using h2
  have g3 : (k == 3) = false := by simpa using h3
  have g4 : (k == 4) = false := by simpa using h4
  clear h1 h2 h3 h4
  go_enter Try.func31, Try.ntmps31
  go_wp2_with fail
  go_ret
  exact ⟨rfl, b0⟩
theorem rmay_any (e : El) (a : Option Addr) (c : Nat) (w : World) (h : e.At w a c) :
    Calls Try.prog 31 #[.agg (e.vals a c)] w fun r w' => r = .returned (.bool (mayE e)) ∧ Below w.heap.size w w' := by
  obtain ⟨k, asn, rank, t, l⟩ := e
  by_cases k1 : k = 1
  · subst k1; exact rmay1 asn rank t l a c w
  by_cases k2 : k = 2
  · subst k2; exact rmay2 asn rank t l a c w
  by_cases k3 : k = 3 ∨ k = 4
  · exact rmay3 k asn rank t l a c w k3 h
  rw [may0 k asn rank t l k1 k2 (fun h => k3 (.inl h)) (fun h => k3 (.inr h))]
  exact rmay0 k asn rank t _ w k1 k2 (fun h => k3 (.inl h)) (fun h => k3 (.inr h))
end Go.Proofs.Ytoconkgemakboaa.Ie
