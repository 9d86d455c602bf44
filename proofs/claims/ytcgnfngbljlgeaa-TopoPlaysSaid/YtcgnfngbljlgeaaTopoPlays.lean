/-
  Law TopoPlays: any calls: each answer, each quality, whom any is near, are the reference's; the call returns true. No condition.
-/
import Derived.Test.YtcgnfngbljlgeaaTopoMore
import Derived.Deep.RegionHeld3
set_option maxRecDepth 100000
namespace Go.Proofs.Ytcgnfngbljlgeaa.TopoPlays
set_option linter.unusedVariables false
open Go.RowKit Go.ChangeShapes Go.WideShapes Go.ChangeAt Go.Deep Lb Tp
set_option linter.unusedVariables false
theorem own : ownKnob Try.prog.godebug = none := by kernel_rfl
theorem laidOut : laidOutB Try.prog = true := by kernel_rfl

set_option maxHeartbeats 4000000 in
theorem body (x : Int) (a : Option Addr) (n c : Nat) (V : Nat → Value) (C : Nat → Cl) (y : Int) (w : World) (hn : n ≤ c) (hc : c ≤ maxLen) (hV : Row w a (n * 3) V)
    (hC : ∀ i, i < n → V (i * 3) = .bool (C i).f ∧ V (i * 3 + 1) = .int .i64 (C i).me ∧ V (i * 3 + 2) = .slice (C i).a (C i).n (C i).c ∧ (C i).ok w) :
    Calls Try.prog 3 #[.int .i64 x, .slice a n c, .int .i64 y] w fun r w' => r = .returned (.bool true) ∧ Below w.heap.size w w' := by
  go_enter Try.func3, Try.ntmps3
  go_wp2_with fail
  refine (made_any x a n c V C _ hn hc hV hC).mono ?_
  rintro r w1 ⟨g1, g2, N, Q, rfl, h1, h2, hF, z1, z2, b1⟩
  have HF := Lib.hid hF
  have hN := hF.2.1
  clear hF
  have n2 : w1.cell? ⟨g2, 0, none⟩ = some (.int .i64 (N : Int)) := h2.n
  go_wp2_with fail
  go_quiet (first | (go_at_call 9; exact quiet_left (nodes_any g1 _ N Q _ (Blk.drewN h1 _))))
  generalize hnq : w1.drewN _ = w2 at *
  have h1 : Gr w2 g1 55 N Q := by rw [← hnq]; exact Blk.drewN h1 _
  have h2 : Gr w2 g2 32 N Q := by rw [← hnq]; exact Blk.drewN h2 _
  have b1 : Below w.heap.size w w2 := by rw [← hnq]; exact below_drewN b1 _
  clear hnq n2
  go_wp2_with fail
  go_loopw [10] (fun i wr => ∃ j : Nat, i = .int .i64 ((j : Int) - 1) ∧ j ≤ 18 ∧ Gr wr g1 55 N Q ∧ Gr wr g2 32 N Q ∧ Below w.heap.size w wr) (fun i _ => (17 - intOf i).toNat)
  case atStart => exact ⟨0, rfl, by omega, h1, h2, b1⟩
  case round =>
    clear h1 h2 b1
    obtain ⟨j, rfl, hj, h1, h2, b1⟩ := hrel
    by_cases hjt : j < 18
    · have e1 : (j : Int) - 1 ≤ 16 := by omega
      obtain ⟨p, hp⟩ : ∃ p, p = (j : Int) - 1 := ⟨_, rfl⟩
      have HP := Lib.hid hp
      rw [← hp] at e1 ⊢
      have e0 : -1 ≤ p := by omega
      clear hp
      go_wp2_with fail
      go_loopw [11] (fun i wr => ∃ k : Nat, i = .int .i64 ((k : Int) - 1) ∧ k ≤ 18 ∧ Gr wr g1 55 N Q ∧ Gr wr g2 32 N Q ∧ Below w.heap.size w wr) (fun i _ => (17 - intOf i).toNat)
      case atStart => exact ⟨0, rfl, by omega, h1, h2, b1⟩
      case round =>
        clear h1 h2 b1
        obtain ⟨k, rfl, hk, h1, h2, b1⟩ := hrel
        by_cases hkt : k < 18
        · have e2 : (k : Int) - 1 ≤ 16 := by omega
          obtain ⟨q, hq⟩ : ∃ q, qual N Q p ((k : Int) - 1) = q := ⟨_, rfl⟩
          have HQ := Lib.hid hq
          clear hq
          go_wp2_with fail
          refine (quality_any g1 _ N Q p ((k : Int) - 1) _ h1 hN).mono ?_
          rintro r w' ⟨rfl, m, rfl⟩
          rw [HQ.out]
          have h1 := Blk.drewN h1 m
          have h2 := Blk.drewN h2 m
          have b1 := below_drewN b1 m
          generalize wr.drewN m = wa at *
          go_wp2_with fail
          refine (rquality g2 _ N Q p ((k : Int) - 1) _ h2 hN).mono ?_
          rintro r w' ⟨rfl, m2, rfl⟩
          rw [HQ.out]
          have h1 := Blk.drewN h1 m2
          have h2 := Blk.drewN h2 m2
          have b1 := below_drewN b1 m2
          generalize wa.drewN m2 = wb at *
          go_wp2_with fail
          exact ⟨⟨k + 1, by simp [intOf] <;> omega, by omega, h1, h2, b1⟩, by simp [intOf] <;> omega⟩
        · obtain rfl : 18 = k := by omega
          have hl := nr_len N Q p y N
          go_wp2_with fail
          refine (near_any g1 _ N Q p y _ h1 hN).mono ?_
          rintro r w4 ⟨v4, rfl, hv4, b4⟩
          have h2 := below_blk b4 h2 h2.lt
          have h1 := below_blk b4 h1 h1.lt
          obtain ⟨a4, c4, rfl, hc4, hm4, hR4⟩ := hv4.row
          have b4 := b1.trans (b4.mono b1.size)
          clear hv4
          go_wp2_with fail
          refine (rnear g2 _ N Q p y _ h2 hN).mono ?_
          rintro r w5 ⟨v5, rfl, hv5, b5⟩
          obtain ⟨a5, c5, rfl, hc5, hm5, hR5⟩ := hv5.row
          have hR4 := hR4.below b5
          have h2 := below_blk b5 h2 h2.lt
          have h1 := below_blk b5 h1 h1.lt
          have b5 := b4.trans (b5.mono b4.size)
          clear hv5
          go_wp2_with fail
          refine (same_ints a4 a5 _ c4 c5 (ln (near N Q p y)) (fun i => (((near N Q p y).getD i 0 : Nat) : Int)) _ rfl hc4 hc5 hm4 hm5 hR4 hR5).mono ?_
          rintro r w' ⟨rfl, m, rfl⟩
          have h1 := Blk.drewN h1 m
          have h2 := Blk.drewN h2 m
          have b5 := below_drewN b5 m
          go_wp2_with fail
          exact ⟨⟨j + 1, by simp [intOf, HP.out] <;> omega, by omega, h1, h2, b5⟩, by simp [intOf, HP.out] <;> omega⟩
    · obtain rfl : 18 = j := by omega
      go_wp2_with fail
      refine (awake_any _).mono ?_
      rintro r w9 ⟨rfl, b9⟩
      have bb := b1.trans (b9.mono b1.size)
      go_wp2_with fail
      go_ret
      exact ⟨rfl, bb⟩

theorem walk (H : Type) (enc : TypeId × Value → H) : Walk H enc Try.prog 3 Try.f3 := by
  intro W base args ds p hval hA
  rw [Try.params3] at hA hval
  obtain ⟨v0, v1, v2, d0, d1, d2, p0, p1, p2, rfl, rfl, rfl, h0, h1, h2⟩ := trodAll_three hA
  obtain ⟨x, rfl, rfl, rfl, _⟩ := open_int Try.underlying3 (hval 0 _ v0 rfl rfl) h0
  obtain ⟨a, n, c, V, C, rfl, hn, hm, hV, hC⟩ := open_calls (hval 1 _ v1 rfl rfl) h1
  obtain ⟨y, rfl, rfl, rfl, _⟩ := open_int Try.underlying3 (hval 2 _ v2 rfl rfl) h2
  exact body x a n c V C y W hn hm hV hC

set_option maxRecDepth 100000 in
theorem lifted (os : Os) (started : os.Started) (H : Type) (enc : TypeId × Value → H) :
    ReturnsInHanded {} Try.checked os 3 .any (Rows.topoPlaysSpec.pre6 enc Try.prog Try.f3 Rows.topoPlaysRow.domain false) (Rows.topoPlaysSpec.post enc Try.prog Try.f3 false true false false) :=
  returnsInHanded_of_change (C := Try.checked) own started (by kernel_rfl) Try.func3
    (ChangeSpec.witness6 (enc := enc) (C := Try.checked) false ⟨#[], #[.int .i64 0, .slice none 0 0, .int .i64 0], []⟩ 8 (by kernel_rfl) (by kernel_rfl) (by kernel_rfl) (by kernel_rfl))
    fun W base args ds gs before hval hW _ _ => step_of_walk laidOut (by rw [Try.params3]; exact of_decide_eq_true (by kernel_rfl)) (by kernel_rfl) Try.underlying4 rfl
      (fun ds h => by
        rw [Try.params3] at h
        match ds, h with
        | [_, _, _], _ => rfl) (walk H enc) W base args ds gs before hval hW

theorem holds : Rows.TopoPlaysSaid :=
  OpenClaim.holds_of_wide 3 Try.f3 rfl rfl rfl rfl rfl rfl rfl ⟨rfl, rfl, rfl, rfl, rfl⟩ rfl rfl rfl rfl rfl (by kernel_rfl) Try.func3 (by kernel_rfl)
    (of_decide_eq_true (by kernel_rfl)) (by unfold Func.isWrapper; first | (rw [if_pos (by decide +kernel)]; kernel_rfl) | (rw [if_neg (by decide +kernel)]; exact ⟨rfl, rfl⟩))
    (fun os started H enc _ => lifted os started H enc)
#print axioms holds
end Go.Proofs.Ytcgnfngbljlgeaa.TopoPlays
