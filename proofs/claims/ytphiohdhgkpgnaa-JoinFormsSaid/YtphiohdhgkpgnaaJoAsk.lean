/-
  Package join (chapter 18): Ask; cells that may be a grant's; Give.
-/
import Derived.Test.YtphiohdhgkpgnaaJoAsked
import Derived.Test.YtphiohdhgkpgnaaCeMay
set_option maxRecDepth 100000
namespace Go.Proofs.Ytphiohdhgkpgnaa.Jo
set_option linter.unusedVariables false
open Go.RowKit Lb Go.Shelf Bf Se Cl

/-- May it be asked. -/
def mayR (r : Rq) : Bool := nodeB r.nd && otherB r.pa r.nd
def askO (key : Int) (r : Rq) : List Int := if mayR r = true then sealL key (askB r) else []
def askC (r : Rq) : Int := if mayR r = true then 0 else 1
theorem otherB_node {x y : Int} (h : otherB x y = true) : nodeB x = true := by
  unfold otherB at h
  rw [Bool.and_eq_true] at h
  exact h.1
set_option maxHeartbeats 2000000 in
theorem ask_any (key : Int) (r : Rq) (w : World) (hk : 0 ≤ key) (hw : r.wide) :
    Calls Try.prog 9 #[.int .u64 key, .agg r.vals] w fun e w' => ∃ a c, e = .returned (.tuple #[.slice a (askO key r).length c, .int .i64 (askC r)]) ∧ BsN w.heap.size w' a c (askO key r) ∧ Below w.heap.size w w' := by
  have q1 := Own.new w 25 r.vals
  have b0 := (Below.refl w.heap.size w).alloc (Nat.le_refl _) (.cells r.vals 25)
  have PS : ∀ (W : World), nodeB r.nd = true → otherB r.pa r.nd = true → Calls Try.prog 30 #[.int .u64 key, .iface 67 (.agg r.vals)] W fun e w' => ∃ a c, e = .returned (.slice a (sealL key (askB r)).length c) ∧ BsN W.heap.size w' a c (sealL key (askB r)) ∧ Below W.heap.size W w' := fun W h1 h2 =>
    sealed_any_a key (.agg r.vals) (askB r) W hk (askB_ok h1 (otherB_node h2)) (by rw [askB_len]; decide) (fun W => by kernel_rfl) (fun W _ => abody_any r W h1 (otherB_node h2) hw.1 hw.2)
  have P1 : ∀ W, Calls Try.prog 28 #[.int .i64 r.nd] W fun e w' => e = .returned (.bool (nodeB r.nd)) ∧ W = w' := fun W => isnode_any r.nd W
  have P2 : ∀ W, Calls Try.prog 29 #[.int .i64 r.pa, .int .i64 r.nd] W fun e w' => e = .returned (.bool (otherB r.pa r.nd)) ∧ W = w' := fun W => isother_any r.pa r.nd W
  cases h1 : nodeB r.nd with
  | false =>
    have HO : Hid (askO key r = [] ∧ askC r = 1) := Lib.hid (by unfold askO askC mayR; rw [h1]; exact ⟨rfl, rfl⟩)
    rw [h1] at P1
    clear h1 PS P2
    go_enter Try.func9, Try.ntmps9
    go_upto_region 1 with (fail)
    generalize w.alloc (.cells r.vals 25) = w1 at *
    have c0 : w1.cell? ⟨w.heap.size, 0, none⟩ = some (.int .i64 r.nd) := q1.cell 0
    go_wp2_with fail
    refine (P1 _).mono ?_
    rintro e w2 ⟨rfl, rfl⟩
    go_wp2_with fail
    go_ret2
    exact ⟨none, 0, by rw [HO.out.1, HO.out.2]; rfl, by rw [HO.out.1]; exact ⟨⟨Nat.le_refl _, Nat.zero_le _, Row.nil _ _ _⟩, fun p hp => by cases hp⟩, b0⟩
  | true =>
    cases h2 : otherB r.pa r.nd with
    | false =>
      have HO : Hid (askO key r = [] ∧ askC r = 1) := Lib.hid (by unfold askO askC mayR; rw [h1, h2]; exact ⟨rfl, rfl⟩)
      rw [h1] at P1
      rw [h2] at P2
      clear h1 h2 PS
      go_enter Try.func9, Try.ntmps9
      go_upto_region 1 with (fail)
      generalize w.alloc (.cells r.vals 25) = w1 at *
      have c0 : w1.cell? ⟨w.heap.size, 0, none⟩ = some (.int .i64 r.nd) := q1.cell 0
      have c1 : w1.cell? ⟨w.heap.size, 1, none⟩ = some (.int .i64 r.pa) := q1.cell 1
      go_wp2_with fail
      refine (P1 _).mono ?_
      rintro e w2 ⟨rfl, rfl⟩
      go_wp2_with fail
      refine (P2 _).mono ?_
      rintro e w2 ⟨rfl, rfl⟩
      go_wp2_with fail
      go_ret2
      exact ⟨none, 0, by rw [HO.out.1, HO.out.2]; rfl, by rw [HO.out.1]; exact ⟨⟨Nat.le_refl _, Nat.zero_le _, Row.nil _ _ _⟩, fun p hp => by cases hp⟩, b0⟩
    | true =>
      have HO : Hid (askO key r = sealL key (askB r) ∧ askC r = 0) := Lib.hid (by unfold askO askC mayR; rw [h1, h2]; exact ⟨rfl, rfl⟩)
      have PS := fun W => PS W h1 h2
      rw [h1] at P1
      rw [h2] at P2
      clear h1 h2
      obtain ⟨q1', q2', q3', q4', q5'⟩ := r
      go_enter Try.func9, Try.ntmps9
      go_upto_region 1 with (fail)
      generalize w.alloc (.cells (Rq.vals ⟨q1', q2', q3', q4', q5'⟩) 25) = w1 at *
      have c0 : w1.cell? ⟨w.heap.size, 0, none⟩ = some (.int .i64 q1') := q1.cell 0
      have c1 : w1.cell? ⟨w.heap.size, 1, none⟩ = some (.int .i64 q2') := q1.cell 1
      have c2 : w1.cell? ⟨w.heap.size, 2, none⟩ = some (.int .u32 q3') := q1.cell 2
      have c3 : w1.cell? ⟨w.heap.size, 3, none⟩ = some (.int .u32 q4') := q1.cell 3
      have c4 : w1.cell? ⟨w.heap.size, 4, none⟩ = some (.int .u32 q5') := q1.cell 4
      go_wp2_with fail
      refine (P1 _).mono ?_
      rintro e w2 ⟨rfl, rfl⟩
      go_wp2_with fail
      refine (P2 _).mono ?_
      rintro e w2 ⟨rfl, rfl⟩
      go_wp2_with fail
      refine (PS _).mono ?_
      rintro e w3 ⟨a, c, rfl, hB, bb⟩
      go_wp2_with fail
      go_ret2
      exact ⟨a, c, by rw [HO.out.1, HO.out.2]; rfl, by rw [HO.out.1]; exact hB.lower b0.size, b0.trans (bb.mono b0.size)⟩
/-- Cells that may be a grant's. -/
def mayL (L : Nat → C) (n : Nat) : Bool := decide (n ≤ 8) && (List.range n).all fun k => (L k).may
theorem mayL_iff {L : Nat → C} {n : Nat} : mayL L n = true ↔ n ≤ 8 ∧ ∀ k, k < n → (L k).may = true := by
  unfold mayL
  rw [Bool.and_eq_true, decide_eq_true_eq, List.all_eq_true]
  simp only [List.mem_range]
set_option maxHeartbeats 2000000 in
theorem cellsmay_any (a : Option Addr) (n c : Nat) (L : Nat → C) (w : World) (hn : n ≤ c) (hc : c ≤ maxLen) (hL : Row w a (n * 5) (cv L)) :
    Calls Try.prog 35 #[.slice a n c] w fun e w' => e = .returned (.bool (mayL L n)) ∧ Below w.heap.size w w' := by
  unfold maxLen at hc
  have hn63 : (n : Int) ≤ 9223372036854775807 := by omega
  have hc63 : (c : Int) ≤ 9223372036854775807 := by omega
  by_cases h8 : n ≤ 8
  · have d8 : decide (8 < n) = false := by simp; omega
    go_enter Try.func35, Try.ntmps35
    go_wp2_with fail
    go_loopw [10] (fun i wr => ∃ k : Nat, i = .int .i64 k ∧ k ≤ n ∧ (∀ j, j < k → (L j).may = true) ∧ Below w.heap.size w wr) (fun i _ => n - (intOf i).toNat)
    case atStart => exact ⟨0, rfl, Nat.zero_le _, fun j hj => absurd hj (by omega), Below.refl _ _⟩
    case round =>
      obtain ⟨k, rfl, hk, hm, bb⟩ := hrel
      by_cases hlt : k < n
      · obtain ⟨b, off, rfl, _, d0, d1, d2, d3, d4⟩ := crow hL bb hlt
        have PM : ∀ W, Calls Try.prog 51 #[.agg #[.int .i64 (L k).f, .int .i64 (L k).s, .int .i64 (L k).c, .int .i64 (L k).o, .int .i64 (L k).p]] W fun e w' => e = .returned (.bool (L k).may) ∧ Below W.heap.size W w' := fun W => may_any (L k).f (L k).s (L k).c (L k).o (L k).p W
        have HM : Hid (∀ j, j < k → (L j).may = true) := Lib.hid hm
        have b4 := bb.alloc bb.size (.cells #[.int .i64 (L k).f, .int .i64 (L k).s, .int .i64 (L k).c, .int .i64 (L k).o, .int .i64 (L k).p] 62)
        clear hm
        cases hx : (L k).may with
        | false =>
          have HX := Lib.hid hx
          rw [hx] at PM
          clear hx
          go_wp2_with fail
          refine (PM _).mono ?_
          rintro e w5 ⟨rfl, b5⟩
          go_wp2_with fail
          go_ret
          refine ⟨?_, b4.trans (b5.mono b4.size)⟩
          have : mayL L n = false := by
            cases h : mayL L n with
            | false => rfl
            | true =>
              have := (mayL_iff.1 h).2 k hlt
              rw [HX.out] at this
              cases this
          rw [this]
          rfl
        | true =>
          have HX := Lib.hid hx
          rw [hx] at PM
          clear hx
          go_wp2_with fail
          refine (PM _).mono ?_
          rintro e w5 ⟨rfl, b5⟩
          go_wp2_with fail
          exact ⟨⟨k + 1, by simp, by omega, fun j hj => by
            rcases Nat.lt_succ_iff_lt_or_eq.1 hj with h | h
            · exact HM.out j h
            · rw [h]; exact HX.out, b4.trans (b5.mono b4.size)⟩, by simp [intOf]; omega⟩
      · obtain rfl : k = n := by omega
        have HD : Hid (mayL L k = true) := Lib.hid (mayL_iff.2 ⟨h8, hm⟩)
        go_wp2_with fail
        go_ret
        exact ⟨by rw [HD.out]; rfl, bb⟩
  · have d8 : decide (8 < n) = true := by simp; omega
    have HD : Hid (mayL L n = false) := Lib.hid (by unfold mayL; simp; omega)
    go_enter Try.func35, Try.ntmps35
    go_wp2_with fail
    go_ret
    exact ⟨by rw [HD.out]; rfl, Below.refl _ _⟩
end Go.Proofs.Ytphiohdhgkpgnaa.Jo
