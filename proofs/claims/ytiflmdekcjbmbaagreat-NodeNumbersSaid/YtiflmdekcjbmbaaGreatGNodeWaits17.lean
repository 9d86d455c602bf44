/-
  The reference's word on which elements may be. Package ie (chapter 6): an element's bytes are put. Package ie (chapter 6): rows of elements; Encode: their bytes.
-/
import Derived.Test.YtiflmdekcjbmbaaGreatGNodeWaits16
set_option maxRecDepth 100000
namespace Go.Proofs.YtiflmdekcjbmbaaGreat.Ie
set_option linter.unusedVariables false
set_option linter.unusedSimpArgs false
open Go.RowKit Lb Go.Shelf

def asnB (x : Int) : Bool := decide (0 ≤ x ∧ x < 1099511627776)
theorem asn_any (x : Int) (w : World) : Calls Tryz.prog 59 #[.int .i64 x] w fun r w' => r = .returned (.bool (asnB x)) ∧ w = w' := by
  by_cases h1 : 0 ≤ x
  · by_cases h2 : x < 1099511627776
    · have HD : Hid (asnB x = true) := Lib.hid (decide_eq_true (And.intro h1 h2))
      go_enter Tryz.func59, Tryz.ntmps59
      go_wp2_with fail
      go_ret
      exact ⟨by rw [HD.out]; rfl, rfl⟩
    · have HD : Hid (asnB x = false) := Lib.hid (decide_eq_false (fun h => h2 h.2))
      go_enter Tryz.func59, Tryz.ntmps59
      go_wp2_with fail
      go_ret
      exact ⟨by rw [HD.out]; rfl, rfl⟩
  · have HD : Hid (asnB x = false) := Lib.hid (decide_eq_false (fun h => h1 h.1))
    go_enter Tryz.func59, Tryz.ntmps59
    go_wp2_with fail
    go_ret
    exact ⟨by rw [HD.out]; rfl, rfl⟩
theorem may1 (a r t : Int) (l : List Int) : mayE ⟨1, a, r, t, l⟩ = (asnB a && (decide (0 ≤ r) && (decide (r ≤ 255) && ((t == 0) && (l.length == 0))))) := by
  rw [Bool.eq_iff_iff]
  simp [mayE, fitB, sameE, own, octB, asnB]
  constructor
  · rintro ⟨⟨h1, h2⟩, h3, h4⟩; subst h4; exact ⟨h1, h2.1, h2.2, h3.symm, rfl⟩
  · rintro ⟨h1, h2, h3, h4, h5⟩; subst h5; exact ⟨⟨h1, h2, h3⟩, h4.symm, rfl⟩
theorem may2 (a r t : Int) (l : List Int) : mayE ⟨2, a, r, t, l⟩ = (decide (-32768 ≤ t) && (decide (t ≤ 32767) && ((a == 0) && ((r == 0) && (l.length == 0))))) := by
  rw [Bool.eq_iff_iff]
  simp [mayE, fitB, sameE, own]
  constructor
  · rintro ⟨⟨h1, h2⟩, h3, h4, h5⟩; subst h5; exact ⟨h1, h2, h3.symm, h4.symm, rfl⟩
  · rintro ⟨h1, h2, h3, h4, h5⟩; subst h5; exact ⟨⟨h1, h2⟩, h3.symm, h4.symm, rfl⟩
theorem may3 (k a r t : Int) (l : List Int) (hk : k = 3 ∨ k = 4) : mayE ⟨k, a, r, t, l⟩ = (octsB l && (decide (l.length ≤ 16) && ((a == 0) && ((r == 0) && (t == 0))))) := by
  rw [Bool.eq_iff_iff]
  rcases hk with rfl | rfl
  all_goals
    simp [mayE, fitB, sameE, own, listB]
    constructor
    · rintro ⟨⟨h1, h2⟩, h3, h4, h5⟩; exact ⟨h1, h2, h3.symm, h4.symm, h5.symm⟩
    · rintro ⟨h1, h2, h3, h4, h5⟩; exact ⟨⟨h1, h2⟩, h3.symm, h4.symm, h5.symm⟩
theorem may0 (k a r t : Int) (l : List Int) (h1 : k ≠ 1) (h2 : k ≠ 2) (h3 : k ≠ 3) (h4 : k ≠ 4) : mayE ⟨k, a, r, t, l⟩ = false := by
  unfold mayE fitB
  simp [h1, h2, h3, h4]
set_option maxHeartbeats 2000000 in
theorem rmay1 (asn rank t : Int) (l : List Int) (a : Option Addr) (c : Nat) (w : World) :
    Calls Tryz.prog 123 #[.agg #[.int .i64 1, .int .i64 asn, .int .i64 rank, .int .i64 t, .slice a l.length c]] w fun r w' => r = .returned (.bool (mayE ⟨1, asn, rank, t, l⟩)) ∧ Below w.heap.size w w' := by
  have o1 := Own.new w 59 #[.int .i64 1, .int .i64 asn, .int .i64 rank, .int .i64 t, .slice a l.length c]
  have b0 := (Below.refl w.heap.size w).alloc (Nat.le_refl _) (.cells #[.int .i64 1, .int .i64 asn, .int .i64 rank, .int .i64 t, .slice a l.length c] 59)
  have hD := may1 asn rank t l
  go_enter Tryz.func123, Tryz.ntmps123
  go_upto_region 1 with (fail)
  generalize w.alloc (.cells #[.int .i64 1, .int .i64 asn, .int .i64 rank, .int .i64 t, .slice a l.length c] 59) = w1 at *
  have c0 : w1.cell? ⟨w.heap.size, 0, none⟩ = some (.int .i64 1) := o1.cell 0
  have c1 : w1.cell? ⟨w.heap.size, 1, none⟩ = some (.int .i64 asn) := o1.cell 1
  have c2 : w1.cell? ⟨w.heap.size, 2, none⟩ = some (.int .i64 rank) := o1.cell 2
  have c3 : w1.cell? ⟨w.heap.size, 3, none⟩ = some (.int .i64 t) := o1.cell 3
  have c4 : w1.cell? ⟨w.heap.size, 4, none⟩ = some (.slice a l.length c) := o1.cell 4
  obtain ⟨n, hn⟩ : ∃ n, l.length = n := ⟨_, rfl⟩
  rw [hn] at c4 hD
  obtain ⟨e1, he1⟩ : ∃ e, asnB asn = e := ⟨_, rfl⟩
  obtain ⟨e2, he2⟩ : ∃ e, decide (0 ≤ rank) = e := ⟨_, rfl⟩
  obtain ⟨e3, he3⟩ : ∃ e, decide (rank ≤ 255) = e := ⟨_, rfl⟩
  obtain ⟨e4, he4⟩ : ∃ e, (t == 0) = e := ⟨_, rfl⟩
  obtain ⟨e5, he5⟩ : ∃ e, (n == 0) = e := ⟨_, rfl⟩
  rw [he1, he2, he3, he4, he5] at hD
  have he6 : ((n : Int) == 0) = e5 := by rw [← he5, Bool.eq_iff_iff]; simp
  have HD := Lib.hid hD
  have H1 := Lib.hid he1
  clear hn hD o1 he1
  cases e1
  case' true => cases e2
  case' true.true => cases e3
  case' true.true.true => cases e4
  case' true.true.true.true => cases e5
  all_goals
    go_wp2_with (refine (asn_any _ _).mono ?_; rintro r w' ⟨rfl, rfl⟩; rw [H1.out])
    go_ret
    exact ⟨by rw [HD.out]; rfl, b0⟩
set_option maxHeartbeats 2000000 in
theorem rmay2 (asn rank t : Int) (l : List Int) (a : Option Addr) (c : Nat) (w : World) :
    Calls Tryz.prog 123 #[.agg #[.int .i64 2, .int .i64 asn, .int .i64 rank, .int .i64 t, .slice a l.length c]] w fun r w' => r = .returned (.bool (mayE ⟨2, asn, rank, t, l⟩)) ∧ Below w.heap.size w w' := by
  have o1 := Own.new w 59 #[.int .i64 2, .int .i64 asn, .int .i64 rank, .int .i64 t, .slice a l.length c]
  have b0 := (Below.refl w.heap.size w).alloc (Nat.le_refl _) (.cells #[.int .i64 2, .int .i64 asn, .int .i64 rank, .int .i64 t, .slice a l.length c] 59)
  have hD := may2 asn rank t l
  go_enter Tryz.func123, Tryz.ntmps123
  go_upto_region 1 with (fail)
  generalize w.alloc (.cells #[.int .i64 2, .int .i64 asn, .int .i64 rank, .int .i64 t, .slice a l.length c] 59) = w1 at *
  have c0 : w1.cell? ⟨w.heap.size, 0, none⟩ = some (.int .i64 2) := o1.cell 0
  have c1 : w1.cell? ⟨w.heap.size, 1, none⟩ = some (.int .i64 asn) := o1.cell 1
  have c2 : w1.cell? ⟨w.heap.size, 2, none⟩ = some (.int .i64 rank) := o1.cell 2
  have c3 : w1.cell? ⟨w.heap.size, 3, none⟩ = some (.int .i64 t) := o1.cell 3
  have c4 : w1.cell? ⟨w.heap.size, 4, none⟩ = some (.slice a l.length c) := o1.cell 4
  obtain ⟨n, hn⟩ : ∃ n, l.length = n := ⟨_, rfl⟩
  rw [hn] at c4 hD
  obtain ⟨e1, he1⟩ : ∃ e, decide (-32768 ≤ t) = e := ⟨_, rfl⟩
  obtain ⟨e2, he2⟩ : ∃ e, decide (t ≤ 32767) = e := ⟨_, rfl⟩
  obtain ⟨e3, he3⟩ : ∃ e, (asn == 0) = e := ⟨_, rfl⟩
  obtain ⟨e4, he4⟩ : ∃ e, (rank == 0) = e := ⟨_, rfl⟩
  obtain ⟨e5, he5⟩ : ∃ e, (n == 0) = e := ⟨_, rfl⟩
  rw [he1, he2, he3, he4, he5] at hD
  have he6 : ((n : Int) == 0) = e5 := by rw [← he5, Bool.eq_iff_iff]; simp
  have HD := Lib.hid hD
  clear hn hD o1
  cases e1
  case' true => cases e2
  case' true.true => cases e3
  case' true.true.true => cases e4
  case' true.true.true.true => cases e5
  all_goals
    go_wp2_with fail
    go_ret
    exact ⟨by rw [HD.out]; rfl, b0⟩
set_option maxHeartbeats 4000000 in
theorem rmay3 (k asn rank t : Int) (l : List Int) (a : Option Addr) (c : Nat) (w : World) (hk : k = 3 ∨ k = 4) (h : (⟨k, asn, rank, t, l⟩ : El).At w a c) :
    Calls Tryz.prog 123 #[.agg #[.int .i64 k, .int .i64 asn, .int .i64 rank, .int .i64 t, .slice a l.length c]] w fun r w' => r = .returned (.bool (mayE ⟨k, asn, rank, t, l⟩)) ∧ Below w.heap.size w w' := by
  have o1 := Own.new w 59 #[.int .i64 k, .int .i64 asn, .int .i64 rank, .int .i64 t, .slice a l.length c]
  have b0 := (Below.refl w.heap.size w).alloc (Nat.le_refl _) (.cells #[.int .i64 k, .int .i64 asn, .int .i64 rank, .int .i64 t, .slice a l.length c] 59)
  have hD := may3 k asn rank t l hk
  have hR := h.row.below b0
  have hlc := h.lc
  have hcm := h.cm
  unfold maxLen at hcm
  have g1 : (k == 1) = false := by simp; omega
  have g2 : (k == 2) = false := by simp; omega
  have g4 : (k == 3) = false → (k == 4) = true := by simp; omega
  obtain ⟨d3, hd3⟩ : ∃ d, (k == 3) = d := ⟨_, rfl⟩
  rw [hd3] at g4
  go_enter Tryz.func123, Tryz.ntmps123
  go_upto_region 1 with (fail)
  generalize w.alloc (.cells #[.int .i64 k, .int .i64 asn, .int .i64 rank, .int .i64 t, .slice a l.length c] 59) = w1 at *
  have c0 : w1.cell? ⟨w.heap.size, 0, none⟩ = some (.int .i64 k) := o1.cell 0
  have c1 : w1.cell? ⟨w.heap.size, 1, none⟩ = some (.int .i64 asn) := o1.cell 1
  have c2 : w1.cell? ⟨w.heap.size, 2, none⟩ = some (.int .i64 rank) := o1.cell 2
  have c3 : w1.cell? ⟨w.heap.size, 3, none⟩ = some (.int .i64 t) := o1.cell 3
  have c4 : w1.cell? ⟨w.heap.size, 4, none⟩ = some (.slice a l.length c) := o1.cell 4
  obtain ⟨n, hn⟩ : ∃ n, l.length = n := ⟨_, rfl⟩
  have HN := Lib.hid hn
  rw [hn] at c4 hD hR hlc
  obtain ⟨e1, he1⟩ : ∃ e, octsB l = e := ⟨_, rfl⟩
  obtain ⟨e2, he2⟩ : ∃ e, decide (n ≤ 16) = e := ⟨_, rfl⟩
  obtain ⟨e3, he3⟩ : ∃ e, (asn == 0) = e := ⟨_, rfl⟩
  obtain ⟨e4, he4⟩ : ∃ e, (rank == 0) = e := ⟨_, rfl⟩
  obtain ⟨e5, he5⟩ : ∃ e, (t == 0) = e := ⟨_, rfl⟩
  rw [he1, he2, he3, he4, he5] at hD
  have he6 : decide ((n : Int) ≤ 16) = e2 := by rw [← he2, Bool.eq_iff_iff]; simp; omega
  have HD := Lib.hid hD
  have H1 := Lib.hid he1
  have H2 := Lib.hid he2
  have H3 := Lib.hid he3
  have H4 := Lib.hid he4
  have H5 := Lib.hid he5
  have H6 := Lib.hid he6
  clear hn hD o1 he1 h hk he2 he3 he4 he5 he6
  cases d3
  case' false =>
    have g5 := g4 rfl
  all_goals
    clear g4
    go_wp2_with fail
    go_loopw [65] (fun i wr => ∃ k : Nat, i = .int .i64 k ∧ k ≤ n ∧ Hid (∀ j, j < k → octB (l.getD j 0) = true) ∧ w1 = wr) (fun i _ => n - (intOf i).toNat)
    case atStart => exact ⟨0, rfl, by omega, Lib.hid (fun j hj => by omega), rfl⟩
    case round =>
      obtain ⟨i, rfl, hi, HE, rfl⟩ := hrel
      by_cases hlt : i < n
      · obtain ⟨p, o, rfl, _, x1⟩ := hR.at_ hlt
        unfold zval at x1
        obtain ⟨x, hx⟩ : ∃ x, l.getD i 0 = x := ⟨_, rfl⟩
        rw [hx] at x1
        have HX := Lib.hid hx
        clear hx
        by_cases h1 : x < 0
        · have f1 : decide (x < 0) = true := by simpa using h1
          have HO : Hid (e1 = false) := Lib.hid (by rw [← H1.out]; exact octsB_no (j := i) (by rw [HN.out]; exact hlt) (by rw [HX.out]; unfold octB; simp; omega))
          clear h1
          go_wp2_with fail
          go_ret
          exact ⟨by rw [HD.out, HO.out]; rfl, b0⟩
        · have f1 : decide (x < 0) = false := by simpa using h1
          by_cases h2 : 255 < x
          · have f2 : decide (255 < x) = true := by simpa using h2
            have HO : Hid (e1 = false) := Lib.hid (by rw [← H1.out]; exact octsB_no (j := i) (by rw [HN.out]; exact hlt) (by rw [HX.out]; unfold octB; simp; omega))
            clear h1 h2
            go_wp2_with fail
            go_ret
            exact ⟨by rw [HD.out, HO.out]; rfl, b0⟩
          · have f2 : decide (255 < x) = false := by simpa using h2
            have HE2 : Hid (∀ j, j < i + 1 → octB (l.getD j 0) = true) := Lib.hid (fun j hj => by
              by_cases e : j = i
              · subst e; rw [HX.out]; unfold octB; simp; omega
              · exact HE.out j (by omega))
            clear h1 h2
            go_wp2_with fail
            exact ⟨⟨i + 1, by simp, by omega, HE2, by first | trivial | rfl⟩, by simp [intOf]; omega⟩
      · obtain rfl : n = i := by omega
        have HO : Hid (e1 = true) := Lib.hid (by rw [← H1.out]; exact octsB_yes (by rw [HN.out]; exact HE.out))
        have h2 := H2.out
        have h3 := H3.out
        have h4 := H4.out
        have h5 := H5.out
        have h6 := H6.out
        clear H2 H3 H4 H5 H6
        cases e2
        case' true => cases e3
        case' true.true => cases e4
        case' true.true.true => cases e5
        all_goals
          go_wp2_with fail
          go_ret
          exact ⟨by rw [HD.out, HO.out]; rfl, b0⟩
theorem rmay0 (k asn rank t : Int) (v : Value) (w : World) (h1 : k ≠ 1) (h2 : k ≠ 2) (h3 : k ≠ 3) (h4 : k ≠ 4) :
    Calls Tryz.prog 123 #[.agg #[.int .i64 k, .int .i64 asn, .int .i64 rank, .int .i64 t, v]] w fun r w' => r = .returned (.bool false) ∧ Below w.heap.size w w' := by
  have b0 := (Below.refl w.heap.size w).alloc (Nat.le_refl _) (.cells #[.int .i64 k, .int .i64 asn, .int .i64 rank, .int .i64 t, v] 59)
  have g1 : (k == 1) = false := by simpa using h1
  have g2 : (k == 2) = false := by simpa using h2
  have g3 : (k == 3) = false := by simpa using h3
  have g4 : (k == 4) = false := by simpa using h4
  clear h1 h2 h3 h4
  go_enter Tryz.func123, Tryz.ntmps123
  go_wp2_with fail
  go_ret
  exact ⟨rfl, b0⟩
theorem rmay_any (e : El) (a : Option Addr) (c : Nat) (w : World) (h : e.At w a c) :
    Calls Tryz.prog 123 #[.agg (e.vals a c)] w fun r w' => r = .returned (.bool (mayE e)) ∧ Below w.heap.size w w' := by
  obtain ⟨k, asn, rank, t, l⟩ := e
  by_cases k1 : k = 1
  · subst k1; exact rmay1 asn rank t l a c w
  by_cases k2 : k = 2
  · subst k2; exact rmay2 asn rank t l a c w
  by_cases k3 : k = 3 ∨ k = 4
  · exact rmay3 k asn rank t l a c w k3 h
  rw [may0 k asn rank t l k1 k2 (fun h => k3 (.inl h)) (fun h => k3 (.inr h))]
  exact rmay0 k asn rank t _ w k1 k2 (fun h => k3 (.inl h)) (fun h => k3 (.inr h))
end Go.Proofs.YtiflmdekcjbmbaaGreat.Ie
set_option maxRecDepth 100000
namespace Go.Proofs.YtiflmdekcjbmbaaGreat.Ie
set_option linter.unusedVariables false
set_option linter.unusedSimpArgs false
open Go.RowKit Lb Go.Shelf Bf

theorem u64_id {x : Int} (h : 0 ≤ x ∧ x < 18446744073709551616) : IntKind.u64.wrap x = x := by
  rw [IntKind.wrap_u64]
  omega
theorem u64_eq (x : Int) : IntKind.u64.wrap x = ((u64 x : Nat) : Int) := by
  rw [IntKind.wrap_u64]
  unfold u64
  omega
theorem put1_any (base b : Nat) (l : List Int) (v : Value) (x : Int) (w : World) (h : Wb w base b l v) (hx : 0 ≤ x ∧ x < 256) (hl : l.length ≤ 100000) :
    Calls Tryz.prog 134 #[.pointer (some ⟨b, 0, none⟩), .int .u64 x, .int .i64 8] w fun r w' => r = .returned (.tuple #[]) ∧ ∃ v', Wb w' base b (l ++ [x]) v' ∧ Below base w w' ∧ Lone w w' b v v' := by
  obtain ⟨N, rfl⟩ : ∃ N : Nat, x = (N : Int) := ⟨x.toNat, by omega⟩
  have := putk_any base b l v N 1 w h (by omega) (by omega) hl
  rw [bytesK_one N (by omega)] at this
  exact this
theorem put5_any (base b : Nat) (l : List Int) (v : Value) (x : Int) (w : World) (h : Wb w base b l v) (hx : 0 ≤ x ∧ x < 1099511627776) (hl : l.length ≤ 100000) :
    Calls Tryz.prog 134 #[.pointer (some ⟨b, 0, none⟩), .int .u64 x, .int .i64 40] w fun r w' => r = .returned (.tuple #[]) ∧ ∃ v', Wb w' base b (l ++ bytesK x.toNat 5) v' ∧ Below base w w' ∧ Lone w w' b v v' := by
  obtain ⟨N, rfl⟩ : ∃ N : Nat, x = (N : Int) := ⟨x.toNat, by omega⟩
  exact putk_any base b l v N 5 w h (by omega) (by omega) hl
theorem put2_any (base b : Nat) (l : List Int) (v : Value) (x : Int) (w : World) (h : Wb w base b l v) (hl : l.length ≤ 100000) :
    Calls Tryz.prog 134 #[.pointer (some ⟨b, 0, none⟩), .int .u64 ((u64 x : Nat) : Int), .int .i64 16] w fun r w' => r = .returned (.tuple #[]) ∧ ∃ v', Wb w' base b (l ++ bytesK (u64 x) 2) v' ∧ Below base w w' ∧ Lone w w' b v v' :=
  putk_any base b l v (u64 x) 2 w h (u64_lt x) (by omega) hl
theorem tk_snoc {l : List Int} {k : Nat} (hk : k < l.length) : l.take (k + 1) = l.take k ++ [l.getD k 0] := by
  rw [List.take_succ_eq_append_getElem hk, List.getD_eq_getElem?_getD, List.getElem?_eq_getElem hk]
  rfl
theorem Wb.far {w : World} {base b : Nat} {l : List Int} {v : Value} (h : Wb w base b l v) : b < w.heap.size ∧ base ≤ b ∧ ∀ q, v.ownBlock = some q → q < w.heap.size := by
  obtain ⟨Z, B, h1, _⟩ := h
  exact ⟨h1.own.lt, h1.low, fun q e => (h1.row.lt q e).2⟩
/-- What is new is left alone by whoever puts later. -/
theorem lone_own {w w1 : World} {b g : Nat} {v v1 : Value} {t : TypeId} {cs : Array Value} (h : Lone w w1 b v v1) (hg : Lb.Own w g t cs) (h1 : g ≠ b) (h2 : v.ownBlock ≠ some g) : Lb.Own w1 g t cs := (h.keep g hg.lt h1 h2).trans hg
theorem lone_far {w w1 : World} {b g : Nat} {v v1 : Value} (h : Lone w w1 b v v1) (h2 : v.ownBlock ≠ some g) (hg : g < w.heap.size) : v1.ownBlock ≠ some g := fun e => by
  rcases h.own g e with e | e
  · exact h2 e
  · omega
set_option maxHeartbeats 2000000 in
theorem putl_any (base b : Nat) (l m : List Int) (v : Value) (a : Option Addr) (c : Nat) (w : World) (h : Wb w base b l v) (hl : l.length ≤ 1000) (hm : listB m = true) (hR : ∀ w', Below base w w' → Row w' a m.length (zval m)) :
    Calls Tryz.prog 213 #[.pointer (some ⟨b, 0, none⟩), .slice a m.length c] w fun r w' => r = .returned (.tuple #[]) ∧ ∃ v', Wb w' base b (l ++ [(m.length : Int)] ++ m) v' ∧ Below base w w' := by
  unfold listB octsB at hm
  rw [Bool.and_eq_true, decide_eq_true_eq, decide_eq_true_eq] at hm
  obtain ⟨hoc, h16⟩ := hm
  have HOC := Lib.hid hoc
  clear hoc
  obtain ⟨n, hn⟩ : ∃ n, m.length = n := ⟨_, rfl⟩
  have HN := Lib.hid hn
  rw [hn] at hR h16 ⊢
  have HR := Lib.hid hR
  clear hn hR
  have hsz : base ≤ w.heap.size := by have := Wb.far h; omega
  have u1 : IntKind.u64.wrap (n : Int) = (n : Int) := u64_id (by omega)
  go_enter Tryz.func213, Tryz.ntmps213
  go_wp2_with fail
  refine (put1_any base b l v (n : Int) w h (by omega) (by omega)).mono ?_
  rintro r x1 ⟨rfl, v1, hW, bb, lo⟩
  clear h u1 lo
  go_wp2_with fail
  go_loopw [13] (fun i wr => ∃ (k : Nat) (v : Value), i = .int .i64 k ∧ k ≤ n ∧ Wb wr base b (l ++ [(n : Int)] ++ m.take k) v ∧ Below base w wr) (fun i _ => n - (intOf i).toNat)
  case atStart => exact ⟨0, v1, rfl, by omega, by rw [List.take_zero, List.append_nil]; exact hW, bb⟩
  case round =>
    clear hW bb
    obtain ⟨k, v2, rfl, hk, hW, b2⟩ := hrel
    have htl : (m.take k).length ≤ k := List.length_take_le _ _
    by_cases hlt : k < n
    · obtain ⟨pb, po, rfl, hpb, cx⟩ := (HR.out wr b2).at_ hlt
      unfold zval at cx
      have hx := HOC.out k (by rw [HN.out]; exact hlt)
      have hsn := tk_snoc (l := m) (k := k) (by rw [HN.out]; exact hlt)
      obtain ⟨x, hxx⟩ : ∃ x, m.getD k 0 = x := ⟨_, rfl⟩
      rw [hxx] at cx hx hsn
      have HSN := Lib.hid hsn
      have u1 : IntKind.u64.wrap x = x := u64_id (by omega)
      clear hsn hxx
      go_wp2_with fail
      refine (put1_any base b (l ++ [(n : Int)] ++ m.take k) v2 x wr hW (by omega) (by rw [List.length_append, List.length_append]; simp only [List.length_cons, List.length_nil]; omega)).mono ?_
      rintro r x6 ⟨rfl, v6, hW6, b6, lo⟩
      have b7 := b2.trans b6
      clear u1 b6 lo
      go_wp2_with fail
      exact ⟨⟨k + 1, v6, by simp, by omega, by rw [HSN.out, ← List.append_assoc]; exact hW6, b7⟩, by simp [intOf]; omega⟩
    · obtain rfl : n = k := by omega
      have htk : m.take n = m := List.take_of_length_le (by rw [HN.out]; exact Nat.le_refl _)
      rw [htk] at hW
      clear htk
      go_wp2_with fail
      refine bodyPost_end (results_none rfl _ _ _) rfl ?_
      exact ⟨rfl, v2, hW, b2⟩
set_option maxHeartbeats 4000000 in
theorem iput1 (base b : Nat) (l : List Int) (v : Value) (x y : Int) (w : World) (h : Wb w base b l v) (hl : l.length ≤ 1000) (hx : s1B x y = true) :
    Calls Tryz.prog 183 #[.pointer (some ⟨b, 0, none⟩), .int .i64 1, v1 x y] w fun r w' => r = .returned (.tuple #[]) ∧ ∃ v', Wb w' base b (l ++ ([1] ++ [6] ++ bytesK x.toNat 5 ++ [y])) v' ∧ Below base w w' := by
  unfold s1B octB at hx
  rw [Bool.and_eq_true, decide_eq_true_eq, decide_eq_true_eq] at hx
  obtain ⟨hx1, hx2⟩ := hx
  obtain ⟨out, hout⟩ : ∃ out, l ++ ([1] ++ [6] ++ bytesK x.toNat 5 ++ [y]) = out := ⟨_, rfl⟩
  rw [hout]
  have HO := Lib.hid hout
  clear hout
  have q11 := t11
  have q12 := t12
  have q13 := t13
  have q14 := t14
  unfold v1
  obtain ⟨f1, f2, f3⟩ := Wb.far h
  have u0 : IntKind.u64.wrap 1 = 1 := by decide
  have u1 : IntKind.u64.wrap x = x := u64_id (by omega)
  have u2 : IntKind.u64.wrap y = y := u64_id (by omega)
  go_enter Tryz.func183, Tryz.ntmps183
  go_wp2_with fail
  refine (put1_any base b l v 1 w h (by omega) (by omega)).mono ?_
  rintro r x1 ⟨rfl, w1, hW, bb, lo⟩
  obtain ⟨g1, g2, g3⟩ := Wb.far hW
  have o1 := Own.new x1 254 #[.int .i64 x, .int .i64 y]
  have hW1 := hW.below ((Below.refl x1.heap.size x1).alloc (Nat.le_refl _) (.cells #[.int .i64 x, .int .i64 y] 254))
  have b1 := bb.alloc (by omega) (.cells #[.int .i64 x, .int .i64 y] 254)
  have hne : x1.heap.size ≠ b := by omega
  have hno : w1.ownBlock ≠ some x1.heap.size := fun e => by have := g3 _ e; omega
  clear h hW bb lo u0
  go_upto_region 3 with (fail)
  generalize x1.alloc (.cells #[.int .i64 x, .int .i64 y] 254) = x2 at *
  generalize x1.heap.size = g at *
  go_wp2_with fail
  refine (put1_any base b _ w1 6 x2 hW1 (by omega) (by simp; omega)).mono ?_
  rintro r x3 ⟨rfl, w3, hW3, bb, lo⟩
  have hno3 := lone_far lo hno o1.lt
  have o3 := lone_own lo o1 hne hno
  have b3 := b1.trans bb
  have c0 : x3.cell? ⟨g, 0, none⟩ = some (.int .i64 x) := o3.cell 0
  clear hW1 b1 o1 hno bb lo
  go_wp2_with fail
  refine (put5_any base b _ w3 x x3 hW3 hx1 (by simp; omega)).mono ?_
  rintro r x4 ⟨rfl, w4, hW4, bb, lo⟩
  have hno4 := lone_far lo hno3 o3.lt
  have o4 := lone_own lo o3 hne hno3
  have b4 := b3.trans bb
  have c1 : x4.cell? ⟨g, 1, none⟩ = some (.int .i64 y) := o4.cell 1
  clear hW3 b3 o3 hno3 bb lo c0
  go_wp2_with fail
  refine (put1_any base b _ w4 y x4 hW4 (by omega) (by simp [bytesK_len]; omega)).mono ?_
  rintro r x5 ⟨rfl, w5, hW5, bb, lo⟩
  have b5 := b4.trans bb
  clear hW4 b4 bb lo c1
  have hs5 : base ≤ x5.heap.size := by have := Wb.far hW5; omega
  go_wp2_with fail
  refine bodyPost_end (results_none rfl _ _ _) rfl ?_
  refine ⟨rfl, w5, ?_, ?_⟩
  · have e : out = l ++ [1] ++ [6] ++ bytesK x.toNat 5 ++ [y] := by rw [← HO.out]; simp
    rw [e]
    exact hW5.below (((((Below.refl x5.heap.size x5).alloc (Nat.le_refl _) (.cells #[.int .i64 0] 256)).alloc (by simp) (.cells #[.slice none 0 0] 258))).alloc (by simp; try omega) (.cells #[.slice none 0 0] 259))
  · exact ((b5.alloc hs5 (.cells #[.int .i64 0] 256)).alloc (by simp; omega) (.cells #[.slice none 0 0] 258)).alloc (by simp; omega) (.cells #[.slice none 0 0] 259)
set_option maxHeartbeats 4000000 in
theorem iput2 (base b : Nat) (l : List Int) (v : Value) (x : Int) (w : World) (h : Wb w base b l v) (hl : l.length ≤ 1000) :
    Calls Tryz.prog 183 #[.pointer (some ⟨b, 0, none⟩), .int .i64 2, v2 x] w fun r w' => r = .returned (.tuple #[]) ∧ ∃ v', Wb w' base b (l ++ ([2] ++ [2] ++ bytesK (u64 x) 2)) v' ∧ Below base w w' := by
  obtain ⟨out, hout⟩ : ∃ out, l ++ ([2] ++ [2] ++ bytesK (u64 x) 2) = out := ⟨_, rfl⟩
  rw [hout]
  have HO := Lib.hid hout
  clear hout
  have q11 := t21
  have q12 := t22
  have q13 := t23
  have q14 := t24
  unfold v2
  obtain ⟨f1, f2, f3⟩ := Wb.far h
  have u0 : IntKind.u64.wrap 2 = 2 := by decide
  have u1 := u64_eq x
  go_enter Tryz.func183, Tryz.ntmps183
  go_wp2_with fail
  refine (put1_any base b l v 2 w h (by omega) (by omega)).mono ?_
  rintro r x1 ⟨rfl, w1, hW, bb, lo⟩
  obtain ⟨g1, g2, g3⟩ := Wb.far hW
  have e1 : (x1.alloc (.cells #[.int .i64 0, .int .i64 0] 254)).heap.size = x1.heap.size + 1 := by simp
  have o1 := Own.new (x1.alloc (.cells #[.int .i64 0, .int .i64 0] 254)) 256 #[.int .i64 x]
  rw [e1] at o1
  have hW1 := hW.below (((Below.refl x1.heap.size x1).alloc (Nat.le_refl _) (.cells #[.int .i64 0, .int .i64 0] 254)).alloc (by simp) (.cells #[.int .i64 x] 256))
  have b1 := (bb.alloc (by omega) (.cells #[.int .i64 0, .int .i64 0] 254)).alloc (by simp; omega) (.cells #[.int .i64 x] 256)
  have hne : x1.heap.size + 1 ≠ b := by omega
  have hno : w1.ownBlock ≠ some (x1.heap.size + 1) := fun e => by have := g3 _ e; omega
  clear h hW bb lo u0 e1
  go_upto_region 8 with (fail)
  generalize (x1.alloc (.cells #[.int .i64 0, .int .i64 0] 254)).alloc (.cells #[.int .i64 x] 256) = x2 at *
  generalize x1.heap.size = g at *
  go_wp2_with fail
  refine (put1_any base b _ w1 2 x2 hW1 (by omega) (by simp; omega)).mono ?_
  rintro r x3 ⟨rfl, w3, hW3, bb, lo⟩
  have hno3 := lone_far lo hno o1.lt
  have o3 := lone_own lo o1 hne hno
  have b3 := b1.trans bb
  have c0 : x3.cell? ⟨g + 1, 0, none⟩ = some (.int .i64 x) := o3.cell 0
  clear hW1 b1 o1 hno bb lo
  go_wp2_with fail
  refine (put2_any base b _ w3 x x3 hW3 (by simp; omega)).mono ?_
  rintro r x5 ⟨rfl, w5, hW5, bb, lo⟩
  have b5 := b3.trans bb
  clear hW3 b3 bb lo c0
  have hs5 : base ≤ x5.heap.size := by have := Wb.far hW5; omega
  go_wp2_with fail
  refine bodyPost_end (results_none rfl _ _ _) rfl ?_
  refine ⟨rfl, w5, ?_, ?_⟩
  · have e : out = l ++ [2] ++ [2] ++ bytesK (u64 x) 2 := by rw [← HO.out]; simp
    rw [e]
    exact hW5.below (((Below.refl x5.heap.size x5).alloc (Nat.le_refl _) (.cells #[.slice none 0 0] 258)).alloc (by simp) (.cells #[.slice none 0 0] 259))
  · exact (b5.alloc hs5 (.cells #[.slice none 0 0] 258)).alloc (by simp; omega) (.cells #[.slice none 0 0] 259)
set_option maxHeartbeats 4000000 in
theorem iput3 (base b : Nat) (l m : List Int) (v : Value) (a : Option Addr) (c : Nat) (w : World) (h : Wb w base b l v) (hl : l.length ≤ 900) (hm : listB m = true) (hR : ∀ w', Below base w w' → Row w' a m.length (zval m)) :
    Calls Tryz.prog 183 #[.pointer (some ⟨b, 0, none⟩), .int .i64 3, v3 (.slice a m.length c)] w fun r w' => r = .returned (.tuple #[]) ∧ ∃ v', Wb w' base b (l ++ ([3] ++ [(m.length : Int)] ++ m)) v' ∧ Below base w w' := by
  obtain ⟨out, hout⟩ : ∃ out, l ++ ([3] ++ [(m.length : Int)] ++ m) = out := ⟨_, rfl⟩
  rw [hout]
  have HO := Lib.hid hout
  clear hout
  have q10 := t31
  have q11 := t32
  have q12 := t33
  have q13 := t34
  unfold v3
  obtain ⟨f1, f2, f3⟩ := Wb.far h
  have u0 : IntKind.u64.wrap 3 = 3 := by decide
  have HR := Lib.hid hR
  obtain ⟨n, hn⟩ : ∃ n, m.length = n := ⟨_, rfl⟩
  have HN := Lib.hid hn
  rw [hn]
  clear hn hR
  go_enter Tryz.func183, Tryz.ntmps183
  go_wp2_with fail
  refine (put1_any base b l v 3 w h (by omega) (by omega)).mono ?_
  rintro r x1 ⟨rfl, w1, hW, bb, lo⟩
  obtain ⟨g1, g2, g3⟩ := Wb.far hW
  have e1 : ((x1.alloc (.cells #[.int .i64 0, .int .i64 0] 254)).alloc (.cells #[.int .i64 0] 256)).heap.size = x1.heap.size + 2 := by simp
  have o1 := Own.new ((x1.alloc (.cells #[.int .i64 0, .int .i64 0] 254)).alloc (.cells #[.int .i64 0] 256)) 258 #[.slice a n c]
  rw [e1] at o1
  have hW1 := hW.below ((((Below.refl x1.heap.size x1).alloc (Nat.le_refl _) (.cells #[.int .i64 0, .int .i64 0] 254)).alloc (by simp; try omega) (.cells #[.int .i64 0] 256)).alloc (by simp; try omega) (.cells #[.slice a n c] 258))
  have b1 := (((bb.alloc (by omega) (.cells #[.int .i64 0, .int .i64 0] 254)).alloc (by simp; try omega) (.cells #[.int .i64 0] 256)).alloc (by simp; try omega) (.cells #[.slice a n c] 258))
  clear h hW bb lo u0 e1
  go_upto_region 12 with (fail)
  generalize ((x1.alloc (.cells #[.int .i64 0, .int .i64 0] 254)).alloc (.cells #[.int .i64 0] 256)).alloc (.cells #[.slice a n c] 258) = x2 at *
  generalize x1.heap.size = g at *
  have c0 : x2.cell? ⟨g + 2, 0, none⟩ = some (.slice a n c) := o1.cell 0
  go_wp2_with fail
  rw [← HN.out]
  refine (putl_any base b _ m w1 a c x2 hW1 (by simp; omega) hm (fun w' hb => HR.out w' (b1.trans hb))).mono ?_
  rintro r x5 ⟨rfl, w5, hW5, bb⟩
  have b5 := b1.trans bb
  clear hW1 b1 o1 bb c0
  have hs5 : base ≤ x5.heap.size := by have := Wb.far hW5; omega
  go_wp2_with fail
  refine bodyPost_end (results_none rfl _ _ _) rfl ?_
  refine ⟨rfl, w5, ?_, ?_⟩
  · have e : out = l ++ [3] ++ [(m.length : Int)] ++ m := by rw [← HO.out]; simp
    rw [e]
    exact hW5.below ((Below.refl x5.heap.size x5).alloc (Nat.le_refl _) (.cells #[.slice none 0 0] 259))
  · exact b5.alloc hs5 (.cells #[.slice none 0 0] 259)
set_option maxHeartbeats 4000000 in
theorem iput4 (base b : Nat) (l m : List Int) (v : Value) (a : Option Addr) (c : Nat) (w : World) (h : Wb w base b l v) (hl : l.length ≤ 900) (hm : listB m = true) (hR : ∀ w', Below base w w' → Row w' a m.length (zval m)) :
    Calls Tryz.prog 183 #[.pointer (some ⟨b, 0, none⟩), .int .i64 4, v4 (.slice a m.length c)] w fun r w' => r = .returned (.tuple #[]) ∧ ∃ v', Wb w' base b (l ++ ([4] ++ [(m.length : Int)] ++ m)) v' ∧ Below base w w' := by
  obtain ⟨out, hout⟩ : ∃ out, l ++ ([4] ++ [(m.length : Int)] ++ m) = out := ⟨_, rfl⟩
  rw [hout]
  have HO := Lib.hid hout
  clear hout
  have q10 := t41
  have q11 := t42
  have q12 := t43
  have q13 := t44
  unfold v4
  obtain ⟨f1, f2, f3⟩ := Wb.far h
  have u0 : IntKind.u64.wrap 4 = 4 := by decide
  have HR := Lib.hid hR
  obtain ⟨n, hn⟩ : ∃ n, m.length = n := ⟨_, rfl⟩
  have HN := Lib.hid hn
  rw [hn]
  clear hn hR
  go_enter Tryz.func183, Tryz.ntmps183
  go_wp2_with fail
  refine (put1_any base b l v 4 w h (by omega) (by omega)).mono ?_
  rintro r x1 ⟨rfl, w1, hW, bb, lo⟩
  obtain ⟨g1, g2, g3⟩ := Wb.far hW
  have e1 : (((x1.alloc (.cells #[.int .i64 0, .int .i64 0] 254)).alloc (.cells #[.int .i64 0] 256)).alloc (.cells #[.slice none 0 0] 258)).heap.size = x1.heap.size + 3 := by simp
  have o1 := Own.new (((x1.alloc (.cells #[.int .i64 0, .int .i64 0] 254)).alloc (.cells #[.int .i64 0] 256)).alloc (.cells #[.slice none 0 0] 258)) 259 #[.slice a n c]
  rw [e1] at o1
  have hW1 := hW.below (((((Below.refl x1.heap.size x1).alloc (Nat.le_refl _) (.cells #[.int .i64 0, .int .i64 0] 254)).alloc (by simp; try omega) (.cells #[.int .i64 0] 256)).alloc (by simp; try omega) (.cells #[.slice none 0 0] 258)).alloc (by simp; try omega) (.cells #[.slice a n c] 259))
  have b1 := ((((bb.alloc (by omega) (.cells #[.int .i64 0, .int .i64 0] 254)).alloc (by simp; try omega) (.cells #[.int .i64 0] 256)).alloc (by simp; try omega) (.cells #[.slice none 0 0] 258)).alloc (by simp; try omega) (.cells #[.slice a n c] 259))
  clear h hW bb lo u0 e1
  go_upto_region 15 with (fail)
  generalize (((x1.alloc (.cells #[.int .i64 0, .int .i64 0] 254)).alloc (.cells #[.int .i64 0] 256)).alloc (.cells #[.slice none 0 0] 258)).alloc (.cells #[.slice a n c] 259) = x2 at *
  generalize x1.heap.size = g at *
  have c0 : x2.cell? ⟨g + 3, 0, none⟩ = some (.slice a n c) := o1.cell 0
  go_wp2_with fail
  rw [← HN.out]
  refine (putl_any base b _ m w1 a c x2 hW1 (by simp; omega) hm (fun w' hb => HR.out w' (b1.trans hb))).mono ?_
  rintro r x5 ⟨rfl, w5, hW5, bb⟩
  have b5 := b1.trans bb
  clear hW1 b1 o1 bb c0
  have hs5 : base ≤ x5.heap.size := by have := Wb.far hW5; omega
  go_wp2_with fail
  refine bodyPost_end (results_none rfl _ _ _) rfl ?_
  refine ⟨rfl, w5, ?_, ?_⟩
  · have e : out = l ++ [4] ++ [(m.length : Int)] ++ m := by rw [← HO.out]; simp
    rw [e]
    exact hW5
  · exact b5
theorem iput_any (e : El) (base b : Nat) (l : List Int) (v : Value) (a : Option Addr) (c : Nat) (w : World) (h : Wb w base b l v) (hl : l.length ≤ 900) (hm : mayE e = true) (hR : ∀ w', Below base w w' → Row w' a e.list.length (zval e.list)) :
    Calls Tryz.prog 183 #[.pointer (some ⟨b, 0, none⟩), .int .i64 e.k, fromV e a c] w fun r w' => r = .returned (.tuple #[]) ∧ ∃ v', Wb w' base b (l ++ encOne e) v' ∧ Below base w w' := by
  have hf := (mayE_out hm).1
  have hk := mayE_kind hm
  obtain ⟨k, asn, rank, t, m⟩ := e
  unfold fitB at hf
  simp only at hf hk hR
  rcases hk with rfl | rfl | rfl | rfl
  · exact iput1 base b l v asn rank w h (by omega) hf
  · exact iput2 base b l v t w h (by omega)
  · exact iput3 base b l m v a c w h hl hf hR
  · exact iput4 base b l m v a c w h hl hf hR
end Go.Proofs.YtiflmdekcjbmbaaGreat.Ie
set_option maxRecDepth 100000
namespace Go.Proofs.YtiflmdekcjbmbaaGreat.Ie
set_option linter.unusedVariables false
set_option linter.unusedSimpArgs false
open Go.RowKit Lb Go.Shelf Bf

/-- An element with where its list lies. -/
structure EP where
  e : El
  a : Option Addr
  c : Nat
def EP.vals (x : EP) : Array Value := x.e.vals x.a x.c
def ep0 : EP := ⟨⟨0, 0, 0, 0, []⟩, none, 0⟩
def ev (L : List EP) (q : Nat) : Value := ((L.getD (q / 5) ep0).vals[q % 5]?).getD undef
theorem ev0 (L : List EP) (k : Nat) : ev L (k * 5) = .int .i64 (L.getD k ep0).e.k := by
  unfold ev; rw [show k * 5 / 5 = k by omega, show k * 5 % 5 = 0 by omega]; rfl
theorem ev1 (L : List EP) (k : Nat) : ev L (k * 5 + 1) = .int .i64 (L.getD k ep0).e.asn := by
  unfold ev; rw [show (k * 5 + 1) / 5 = k by omega, show (k * 5 + 1) % 5 = 1 by omega]; rfl
theorem ev2 (L : List EP) (k : Nat) : ev L (k * 5 + 2) = .int .i64 (L.getD k ep0).e.rank := by
  unfold ev; rw [show (k * 5 + 2) / 5 = k by omega, show (k * 5 + 2) % 5 = 2 by omega]; rfl
theorem ev3 (L : List EP) (k : Nat) : ev L (k * 5 + 3) = .int .i64 (L.getD k ep0).e.ticks := by
  unfold ev; rw [show (k * 5 + 3) / 5 = k by omega, show (k * 5 + 3) % 5 = 3 by omega]; rfl
theorem ev4 (L : List EP) (k : Nat) : ev L (k * 5 + 4) = .slice (L.getD k ep0).a (L.getD k ep0).e.list.length (L.getD k ep0).c := by
  unfold ev; rw [show (k * 5 + 4) / 5 = k by omega, show (k * 5 + 4) % 5 = 4 by omega]; rfl
/-- A row of elements, as it lies. -/
structure Els (w : World) (L : List EP) (a : Option Addr) (c : Nat) : Prop where
  lc : L.length ≤ c
  cm : c ≤ maxLen
  row : Row w a (L.length * 5) (ev L)
  els : ∀ k, k < L.length → (L.getD k ep0).e.At w (L.getD k ep0).a (L.getD k ep0).c
theorem Els.below {w w' : World} {L : List EP} {a : Option Addr} {c : Nat} (h : Els w L a c) (b : Below w.heap.size w w') : Els w' L a c :=
  ⟨h.lc, h.cm, h.row.below b, fun k hk => (h.els k hk).below b⟩
theorem erow {w w' : World} {L : List EP} {a : Option Addr} {n k : Nat} (h : Row w a (n * 5) (ev L)) (hb : Below w.heap.size w w') (hk : k < n) {x : EP} (hx : L.getD k ep0 = x) :
    ∃ b off, a = some ⟨b, off, none⟩ ∧ b < w.heap.size ∧ w'.cell? ⟨b, off + k * 5, none⟩ = some (.int .i64 x.e.k) ∧ w'.cell? ⟨b, off + k * 5 + 1, none⟩ = some (.int .i64 x.e.asn) ∧
      w'.cell? ⟨b, off + k * 5 + 2, none⟩ = some (.int .i64 x.e.rank) ∧ w'.cell? ⟨b, off + k * 5 + 3, none⟩ = some (.int .i64 x.e.ticks) ∧ w'.cell? ⟨b, off + k * 5 + 4, none⟩ = some (.slice x.a x.e.list.length x.c) := by
  subst hx
  obtain ⟨b, off, h1, h2, h3⟩ := h.at_struct hb hk (by decide)
  exact ⟨b, off, h1, h2, (h3 0 (by decide)).trans (congrArg some (ev0 L k)), (h3 1 (by decide)).trans (congrArg some (ev1 L k)), (h3 2 (by decide)).trans (congrArg some (ev2 L k)), (h3 3 (by decide)).trans (congrArg some (ev3 L k)), (h3 4 (by decide)).trans (congrArg some (ev4 L k))⟩
def bval (zs : List Int) (j : Nat) : Value := .int .u8 (zs.getD j 0)
def els (L : List EP) : List El := L.map (·.e)
theorem els_len (L : List EP) : (els L).length = L.length := by simp [els]
theorem els_at {L : List EP} {k : Nat} (hk : k < L.length) {x : EP} (hx : L.getD k ep0 = x) : (els L)[k]'(by rw [els_len]; exact hk) = x.e := by
  subst hx
  simp [els, List.getD_eq_getElem?_getD, List.getElem?_eq_getElem hk]
theorem mayL_no {l : List El} {k : Nat} (hk : k < l.length) (h : mayE l[k] = false) : mayL l = false := by
  unfold mayL
  rw [Bool.and_eq_false_iff]
  right
  rw [List.all_eq_false]
  exact ⟨l[k], List.getElem_mem hk, by rw [h]; simp⟩
theorem mayL_yes {l : List El} (h4 : l.length ≤ 4) (h : ∀ k, (hk : k < l.length) → mayE l[k] = true) : mayL l = true := by
  unfold mayL
  rw [decide_eq_true h4, Bool.true_and, List.all_eq_true]
  intro x hx
  obtain ⟨k, hk, rfl⟩ := List.getElem_of_mem hx
  exact h k hk
theorem encL_take_len {l : List El} (h : ∀ k, (hk : k < l.length) → mayE l[k] = true) : ∀ n, n ≤ l.length → (encL (l.take n)).length ≤ 18 * n := by
  intro n
  induction n with
  | zero => intro _; simp [encL]
  | succ n ih =>
    intro hn
    rw [encL_take (by omega), List.length_append]
    have := encOne_len (h n (by omega))
    have := ih (by omega)
    omega
def EncPost (l : List El) (w : World) (r : Ending) (w' : World) : Prop :=
  if mayL l = true then ∃ a c, r = .returned (.tuple #[.slice a (encI l).length c, .int .i64 0]) ∧ (encI l).length ≤ c ∧ c ≤ maxLen ∧ Row w' a (encI l).length (bval (encI l)) ∧ Below w.heap.size w w'
  else r = .returned (.tuple #[.slice none 0 0, .int .i64 1]) ∧ Below w.heap.size w w'
set_option maxHeartbeats 4000000 in
theorem encode_any (L : List EP) (a : Option Addr) (c : Nat) (w : World) (h : Els w L a c) :
    Calls Tryz.prog 133 #[.slice a L.length c] w (EncPost (els L) w) := by
  have hlc := h.lc
  have hcm := h.cm
  unfold maxLen at hcm
  have hrow := h.row
  have hels := Lib.hid h.els
  clear h
  obtain ⟨n, hn⟩ : ∃ n, L.length = n := ⟨_, rfl⟩
  have HN := Lib.hid hn
  rw [hn] at hlc hrow ⊢
  clear hn
  by_cases h4 : n ≤ 4
  · have g1 : decide ((4 : Int) < (n : Int)) = false := by simp; omega
    have g2 : decide (4 < n) = false := by simp; omega
    have u0 : IntKind.u64.wrap (n : Int) = (n : Int) := u64_id (by omega)
    have ho := Own.new w 180 #[.slice none 0 0, .int .i64 0]
    have b1 := (Below.refl w.heap.size w).alloc (Nat.le_refl _) (.cells #[.slice none 0 0, .int .i64 0] 180)
    have hW : Wb (w.alloc (.cells #[.slice none 0 0, .int .i64 0] 180)) w.heap.size w.heap.size [] (.slice none 0 0) :=
      ⟨fun _ => 0, fun _ => false, ⟨⟨ho, Mine.nil _ _ _ _, ⟨fun k hk => by simp at hk, fun k hk => by simp at hk⟩, Nat.le_refl _⟩, by simp, by simp⟩, fun k hk => by simp at hk⟩
    clear ho
    go_enter Tryz.func133, Tryz.ntmps133
    go_upto_region 4 with (fail)
    generalize w.alloc (.cells #[.slice none 0 0, .int .i64 0] 180) = w1 at *
    obtain ⟨g, hg⟩ : ∃ g, w.heap.size = g := ⟨_, rfl⟩
    have HG := Lib.hid hg
    rw [hg] at hW ⊢
    go_wp2_with fail
    refine (put1_any g g [] (.slice none 0 0) (n : Int) w1 hW (by omega) (by simp)).mono ?_
    rintro r x1 ⟨rfl, v1, hW1, bb, lo⟩
    rw [hg] at b1
    have b2 := b1.trans bb
    clear hW b1 bb lo u0 hg
    go_wp2_with fail
    go_loopw [18] (fun i wr => ∃ (k : Nat) (v : Value), i = .int .i64 k ∧ k ≤ n ∧ Wb wr g g ([(n : Int)] ++ encL ((els L).take k)) v ∧ Hid (∀ j, j < k → mayE (L.getD j ep0).e = true) ∧ Below g w wr) (fun i _ => n - (intOf i).toNat)
    case atStart => exact ⟨0, v1, rfl, by omega, hW1, Lib.hid (fun j hj => by omega), b2⟩
    case round =>
      clear hW1 b2
      obtain ⟨k, v, rfl, hk, hW, HE, b2⟩ := hrel
      have hbw : Below w.heap.size w wr := by rw [HG.out]; exact b2
      by_cases hlt : k < n
      · obtain ⟨x, hx⟩ : ∃ x, L.getD k ep0 = x := ⟨_, rfl⟩
        obtain ⟨pb, po, rfl, hpb, x0, x1, x2, x3, x4⟩ := erow hrow hbw hlt hx
        have hat := hels.out k (by rw [HN.out]; exact hlt)
        rw [hx] at hat
        have hl1 := els_at (k := k) (by rw [HN.out]; exact hlt) hx
        have HX := Lib.hid hx
        have hlen : ([(n : Int)] ++ encL ((els L).take k)).length ≤ 900 := by
          have : ∀ j, (hj : j < (els L).length) → j < k → mayE (els L)[j] = true := fun j hj hjk => by
            have e1 := els_at (L := L) (k := j) (by rw [els_len] at hj; exact hj) rfl
            rw [e1]
            exact HE.out j hjk
          have e2 : (encL ((els L).take k)).length ≤ 18 * k := by
            have h9 := encL_take_len (l := (els L).take k) (fun j hj => by
              rw [List.getElem_take]
              rw [List.length_take] at hj
              exact this j (by omega) (by omega)) k (by rw [List.length_take, els_len, HN.out]; omega)
            rwa [List.take_take, Nat.min_self] at h9
          simp only [List.length_append, List.length_cons, List.length_nil]
          omega
        have HL := Lib.hid hlen
        have HL1 := Lib.hid hl1
        clear hlen hl1 hx
        obtain ⟨⟨ek, easn, erank, et, el⟩, ea, ec⟩ := x
        simp only at x0 x1 x2 x3 x4 hat
        have hf := from_any ⟨ek, easn, erank, et, el⟩ ea ec (wr.alloc (.cells #[.int .i64 ek, .int .i64 easn, .int .i64 erank, .int .i64 et, .slice ea el.length ec] 59)) ((hat.below hbw).below ((Below.refl _ _).alloc (Nat.le_refl _) _))
        have o3 := Own.new wr 59 #[.int .i64 ek, .int .i64 easn, .int .i64 erank, .int .i64 et, .slice ea el.length ec]
        have hs3 : wr.heap.size < (wr.alloc (.cells #[.int .i64 ek, .int .i64 easn, .int .i64 erank, .int .i64 et, .slice ea el.length ec] 59)).heap.size := by simp
        have hgw : g ≤ wr.heap.size := by have := Wb.far hW; omega
        have b3 := b2.alloc hgw (.cells #[.int .i64 ek, .int .i64 easn, .int .i64 erank, .int .i64 et, .slice ea el.length ec] 59)
        have hW3 := hW.below ((Below.refl wr.heap.size wr).alloc (Nat.le_refl _) (.cells #[.int .i64 ek, .int .i64 easn, .int .i64 erank, .int .i64 et, .slice ea el.length ec] 59))
        obtain ⟨q, hq⟩ : ∃ q, mayE ⟨ek, easn, erank, et, el⟩ = q := ⟨_, rfl⟩
        rw [hq] at hf
        obtain ⟨u, hu⟩ : ∃ u, fromV ⟨ek, easn, erank, et, el⟩ ea ec = u := ⟨_, rfl⟩
        rw [hu] at hf
        unfold El.vals at hf
        simp only at hf
        have HF := Lib.hid hf
        have HU := Lib.hid hu
        clear hf hu hW b2 hbw
        go_upto_region 8 with (fail)
        generalize wr.alloc (.cells #[.int .i64 ek, .int .i64 easn, .int .i64 erank, .int .i64 et, .slice ea el.length ec] 59) = w3 at *
        generalize wr.heap.size = gg at *
        have c0 : w3.cell? ⟨gg, 0, none⟩ = some (.int .i64 ek) := o3.cell 0
        have c1 : w3.cell? ⟨gg, 1, none⟩ = some (.int .i64 easn) := o3.cell 1
        have c2 : w3.cell? ⟨gg, 2, none⟩ = some (.int .i64 erank) := o3.cell 2
        have c3 : w3.cell? ⟨gg, 3, none⟩ = some (.int .i64 et) := o3.cell 3
        have c4 : w3.cell? ⟨gg, 4, none⟩ = some (.slice ea el.length ec) := o3.cell 4
        cases q
        · have HD : Hid (mayL (els L) = false) := Lib.hid (mayL_no (k := k) (by rw [els_len, HN.out]; exact hlt) (by rw [HL1.out]; exact hq))
          clear hq
          go_wp2_with (refine HF.out.mono ?_; rintro r w' ⟨rfl, bf⟩)
          go_ret2
          unfold EncPost
          rw [HD.out]
          refine ⟨rfl, ?_⟩
          rw [HG.out]
          exact b3.trans (bf.mono (by omega))
        · have HQ := Lib.hid hq
          clear hq
          go_wp2_with fail
          refine HF.out.mono ?_
          rintro r w4 ⟨rfl, bf⟩
          have o4 := below_own bf o3 hs3
          have b4 := b3.trans (bf.mono (by omega))
          have hW4 := hW3.below bf
          clear c0 c1 c2 c3 c4 x0 x1 x2 x3 x4 hW3 b3 bf o3 hs3
          have c0 : w4.cell? ⟨gg, 0, none⟩ = some (.int .i64 ek) := o4.cell 0
          go_wp2_with fail
          rw [← HU.out]
          refine (iput_any ⟨ek, easn, erank, et, el⟩ g g _ v ea ec w4 hW4 HL.out HQ.out (fun w' hb => hat.row.below (by rw [HG.out]; exact b4.trans hb))).mono ?_
          rintro r w5 ⟨rfl, v5, hW5, b5⟩
          have b6 := b4.trans b5
          clear c0 b5 b4 hW4 o4
          go_wp2_with fail
          refine ⟨⟨k + 1, v5, by simp, by omega, ?_, Lib.hid (fun j hj => ?_), b6⟩, by simp [intOf]; omega⟩
          · rw [encL_take (by rw [els_len, HN.out]; exact hlt), HL1.out, ← List.append_assoc]
            exact hW5
          · by_cases e : j = k
            · subst e; rw [HX.out]; exact HQ.out
            · exact HE.out j (by omega)
      · obtain rfl : n = k := by omega
        have hall : ∀ j, (hj : j < (els L).length) → mayE (els L)[j] = true := fun j hj => by
          have e1 := els_at (L := L) (k := j) (by rw [els_len] at hj; exact hj) rfl
          rw [e1]
          exact HE.out j (by rw [els_len, HN.out] at hj; exact hj)
        have HD : Hid (mayL (els L) = true) := Lib.hid (mayL_yes (by rw [els_len, HN.out]; exact h4) hall)
        have e1 : (els L).take n = els L := List.take_of_length_le (by rw [els_len, HN.out]; exact Nat.le_refl _)
        have hll := encL_take_len hall n (by rw [els_len, HN.out]; exact Nat.le_refl _)
        rw [e1] at hW hll
        have hI : [(n : Int)] ++ encL (els L) = encI (els L) := by unfold encI; rw [els_len, HN.out]
        rw [hI] at hW
        have hIl : (encI (els L)).length ≤ 73 := by rw [← hI]; simp only [List.length_append, List.length_cons, List.length_nil]; omega
        have HIL := Lib.hid hIl
        obtain ⟨Z, B, hw1, hw2⟩ := hW
        have hZ := Lib.hid hw2
        clear hw2 hIl hI hll e1 hall
        go_wp2_with fail
        refine (bytes_any g g _ _ Z B v wr hw1 (by have := HIL.out; omega)).mono ?_
        rintro r w8 ⟨a8, c8, rfl, hc8, hd8, hR8, b8⟩
        go_wp2_with fail
        go_ret2
        unfold EncPost
        rw [HD.out, if_pos rfl]
        have hgw : w.heap.size ≤ wr.heap.size := by rw [HG.out]; have := hw1.own.lt; omega
        exact ⟨a8, c8, rfl, hc8, hd8, row_ext hR8 (fun i hi => by unfold bval; rw [← hZ.out i hi]), hbw.trans (b8.mono hgw)⟩
  · have g1 : decide ((4 : Int) < (n : Int)) = true := by simp; omega
    have g2 : decide (4 < n) = true := by simp; omega
    have HD : Hid (mayL (els L) = false) := Lib.hid (by
      unfold mayL
      rw [els_len, HN.out, decide_eq_false h4]
      rfl)
    clear h4
    go_enter Tryz.func133, Tryz.ntmps133
    go_wp2_with fail
    go_ret2
    unfold EncPost
    rw [HD.out]
    exact ⟨rfl, Below.refl _ _⟩
end Go.Proofs.YtiflmdekcjbmbaaGreat.Ie
