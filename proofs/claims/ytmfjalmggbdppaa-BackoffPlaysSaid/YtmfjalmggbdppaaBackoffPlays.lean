/-
  Law BackoffPlays: for every row of calls a backoff tells what the reference tells; the call returns true. No condition.
-/
import Derived.Test.YtmfjalmggbdppaaBackRef
set_option maxRecDepth 100000
namespace Go.Proofs.Ytmfjalmggbdppaa.BackoffPlays
set_option linter.unusedVariables false
open Go.RowKit Go.ChangeShapes Go.WideShapes Go.ChangeAt Go.Deep Lb Bk
set_option linter.unusedVariables false
theorem own : ownKnob Try.prog.godebug = none := by kernel_rfl
theorem laidOut : laidOutB Try.prog = true := by kernel_rfl

set_option maxHeartbeats 4000000 in
theorem body (l m s : Int) (a : Option Addr) (n c : Nat) (Z : Nat → Int) (w : World) (hn : n ≤ c) (hm : c ≤ maxLen) (hZ : Row w a n (fun i => .int .i64 (Z i))) :
    Calls Try.prog 3 #[.int .i64 l, .int .i64 m, .int .u32 s, .slice a n c] w fun e w' => e = .returned (.bool true) ∧ Below w.heap.size w w' := by
  unfold maxLen at hm
  go_enter Try.func3, Try.ntmps3
  go_wp2_with fail
  refine (new_any _ _ _ _).mono ?_
  rintro r w1 ⟨rfl, k1, b1, z1⟩
  go_wp2_with fail
  refine (ref_new _ _ _ _).mono ?_
  rintro r w2 ⟨rfl, r2, b2, z2⟩
  obtain ⟨g, hg⟩ : ∃ g, g = w1.heap.size := ⟨_, rfl⟩
  rw [← hg] at r2 b2 z2 z1 ⊢
  have k2 : Bk w2 w.heap.size (lo l) (hi l m) (lo l) 0 s := (b2.block _ z1).trans k1
  have b3 : Below w.heap.size w w2 := b1.trans (b2.mono (Nat.le_of_lt z1))
  clear hg k1 b1 b2
  obtain ⟨L, hL, hL0, hL8⟩ : ∃ L, lo l = L ∧ 0 ≤ L ∧ L ≤ 8 := ⟨_, rfl, by unfold lo; omega, by unfold lo; omega⟩
  obtain ⟨M, hM, hM0, hM8⟩ : ∃ M, hi l m = M ∧ L ≤ M ∧ M ≤ 8 := ⟨_, rfl, by unfold hi; omega, by unfold hi; omega⟩
  rw [hL, hM] at k2 r2
  clear hL hM
  go_wp2_with fail
  go_loopw [25] (fun i wr => ∃ (k : Nat) (e t q : Int), i = .int .i64 k ∧ k ≤ n ∧ k ≤ 300 ∧ L ≤ e ∧ e ≤ 8 ∧ 0 ≤ t ∧ t < 1000 ∧ 
      Bk wr w.heap.size L M e t q ∧ Ref wr g L M e t q ∧ Below w.heap.size w wr ∧ g < wr.heap.size) (fun i _ => n - (intOf i).toNat)
  case atStart => exact ⟨0, L, 0, s, rfl, by omega, by omega, by omega, by omega, by omega, by omega, k2, r2, b3, z2⟩
  case round =>
    obtain ⟨k, e, t, q, rfl, hk, hk3, he0, he8, ht0, ht1, kk, rr, bb, zz⟩ := hrel
    by_cases hlt : k < n ∧ k < 300
    · obtain ⟨hlt, h300⟩ := hlt
      obtain ⟨b, o, rfl, hb, hc⟩ := hZ.at_old bb hlt
      clear hZ
      by_cases hx0 : Z k = 0
      · rw [hx0] at hc
        clear hx0
        go_wp2_with fail
        refine (slot_any _ _ _ _ _ _ _ kk ht0 (by omega)).mono ?_
        rintro r w4 ⟨rfl, k4, j4⟩
        have r4 := j4.own rr (by omega)
        have b4 := j4.below bb (Nat.le_refl _) (by omega)
        have z4 := Nat.lt_of_lt_of_le zz j4.size
        go_wp2_with fail
        refine (ref_slot _ _ _ _ _ _ _ r4 ht0 (by omega)).mono ?_
        rintro r w5 ⟨rfl, r5, j5⟩
        have k5 := j5.own k4 (by omega)
        have b5 := j5.below b4 (by omega) (by omega)
        have z5 := Nat.lt_of_lt_of_le z4 j5.size
        have c2 : w5.cell? ⟨g, 2, none⟩ = some (.int .i64 _) := Own.cell r5 2
        have c3 : w5.cell? ⟨g, 3, none⟩ = some (.int .i64 _) := Own.cell r5 3
        obtain ⟨t', ht', h0', h1'⟩ : ∃ t', max 0 (t - 1) = t' ∧ 0 ≤ t' ∧ t' < 1000 := ⟨_, rfl, by omega, by omega⟩
        rw [ht'] at k5 r5 c3
        go_wp2_with fail
        go_quiet ((first
          | (go_at_call 13; first | exact quiet_left (wait_any _ _ _ _ _ _ _ (Own.drewN k5 _)) | exact quiet_left_add (wait_any _ _ _ _ _ _ _ (Own.drewN k5 _)))
          | (go_at_call 14; first | exact quiet_left (exponent_any _ _ _ _ _ _ _ (Own.drewN k5 _)) | exact quiet_left_add (exponent_any _ _ _ _ _ _ _ (Own.drewN k5 _)))
          | (go_at_call 15; first | exact quiet_left (free_any _ _ _ _ _ _ _ (Own.drewN k5 _)) | exact quiet_left_add (free_any _ _ _ _ _ _ _ (Own.drewN k5 _)))))
        go_wp2_with fail
        refine ⟨⟨k + 1, e, t', q, by go_num, by omega, by omega, by omega, by omega, by omega, by omega, k5, r5, below_drewN b5 _, z5⟩, by simp [intOf]; omega⟩
      · by_cases hx1 : Z k = 1
        · rw [hx1] at hc
          clear hx0 hx1
          go_wp2_with fail
          refine (sent_true _ _ _ _ _ _ _ kk).mono ?_
          rintro r w4 ⟨rfl, k4, j4⟩
          have r4 := j4.own rr (by omega)
          have b4 := j4.below bb (Nat.le_refl _) (by omega)
          have z4 := Nat.lt_of_lt_of_le zz j4.size
          go_wp2_with fail
          refine (ref_true _ _ _ _ _ _ _ r4).mono ?_
          rintro r w5 ⟨rfl, r5, j5⟩
          have k5 := j5.own k4 (by omega)
          have b5 := j5.below b4 (by omega) (by omega)
          have z5 := Nat.lt_of_lt_of_le z4 j5.size
          have c2 : w5.cell? ⟨g, 2, none⟩ = some (.int .i64 _) := Own.cell r5 2
          have c3 : w5.cell? ⟨g, 3, none⟩ = some (.int .i64 _) := Own.cell r5 3
          go_wp2_with fail
          go_quiet ((first
            | (go_at_call 13; first | exact quiet_left (wait_any _ _ _ _ _ _ _ (Own.drewN k5 _)) | exact quiet_left_add (wait_any _ _ _ _ _ _ _ (Own.drewN k5 _)))
            | (go_at_call 14; first | exact quiet_left (exponent_any _ _ _ _ _ _ _ (Own.drewN k5 _)) | exact quiet_left_add (exponent_any _ _ _ _ _ _ _ (Own.drewN k5 _)))
            | (go_at_call 15; first | exact quiet_left (free_any _ _ _ _ _ _ _ (Own.drewN k5 _)) | exact quiet_left_add (free_any _ _ _ _ _ _ _ (Own.drewN k5 _)))))
          go_wp2_with fail
          refine ⟨⟨k + 1, L, 0, q, by go_num, by omega, by omega, by omega, by omega, by omega, by omega, k5, r5, below_drewN b5 _, z5⟩, by simp [intOf]; omega⟩
        · have y0 : (Z k == 0) = false := by simpa using hx0
          have y1 : (Z k == 1) = false := by simpa using hx1
          have w0 := wait_low q (min (e + 1) M)
          have w1 := wait_high q (min (e + 1) M) (by omega) (by omega)
          clear hx0 hx1
          go_wp2_with fail
          refine (sent_false _ _ _ _ _ _ _ kk (by omega) he8 (by omega) hM8).mono ?_
          rintro r w4 ⟨rfl, k4, j4⟩
          have r4 := j4.own rr (by omega)
          have b4 := j4.below bb (Nat.le_refl _) (by omega)
          have z4 := Nat.lt_of_lt_of_le zz j4.size
          go_wp2_with fail
          refine (ref_false _ _ _ _ _ _ _ r4 (by omega) he8 (by omega) hM8).mono ?_
          rintro r w5 ⟨rfl, r5, j5⟩
          have k5 := j5.own k4 (by omega)
          have b5 := j5.below b4 (by omega) (by omega)
          have z5 := Nat.lt_of_lt_of_le z4 j5.size
          obtain ⟨t', ht', h0', h1'⟩ : ∃ t', wait q (min (e + 1) M) = t' ∧ 0 ≤ t' ∧ t' < 1000 := ⟨_, rfl, by omega, by omega⟩
          obtain ⟨e', he', h2', h3'⟩ : ∃ e', min (e + 1) M = e' ∧ L ≤ e' ∧ e' ≤ 8 := ⟨_, rfl, by omega, by omega⟩
          rw [he'] at ht' k5 r5 w0 w1
          rw [ht'] at k5 r5 w0 w1
          clear k4 r4 ht' he'
          have c2 : w5.cell? ⟨g, 2, none⟩ = some (.int .i64 _) := Own.cell r5 2
          have c3 : w5.cell? ⟨g, 3, none⟩ = some (.int .i64 _) := Own.cell r5 3
          go_wp2_with fail
          go_quiet ((first
            | (go_at_call 13; first | exact quiet_left (wait_any _ _ _ _ _ _ _ (Own.drewN k5 _)) | exact quiet_left_add (wait_any _ _ _ _ _ _ _ (Own.drewN k5 _)))
            | (go_at_call 14; first | exact quiet_left (exponent_any _ _ _ _ _ _ _ (Own.drewN k5 _)) | exact quiet_left_add (exponent_any _ _ _ _ _ _ _ (Own.drewN k5 _)))
            | (go_at_call 15; first | exact quiet_left (free_any _ _ _ _ _ _ _ (Own.drewN k5 _)) | exact quiet_left_add (free_any _ _ _ _ _ _ _ (Own.drewN k5 _)))))
          go_wp2_with fail
          refine ⟨⟨k + 1, e', t', nxt q, by go_num, by omega, by omega, by omega, by omega, by omega, by omega, k5, r5, below_drewN b5 _, z5⟩, by simp [intOf]; omega⟩
    · have hend : n ≤ k ∨ k = 300 := by omega
      rcases hend with hend | rfl
      · obtain rfl : k = n := by omega
        go_wp2_with fail
        refine (awake_any _).mono ?_
        rintro r w' ⟨rfl, b9⟩
        go_wp2_with fail
        go_ret
        exact ⟨rfl, bb.trans (b9.mono bb.size)⟩
      · by_cases h3 : 300 < n
        · obtain ⟨b, o, rfl, hb, hc⟩ := hZ.at_old bb h3
          clear hZ
          go_wp2_with fail
          refine (awake_any _).mono ?_
          rintro r w' ⟨rfl, b9⟩
          go_wp2_with fail
          go_ret
          exact ⟨rfl, bb.trans (b9.mono bb.size)⟩
        · obtain rfl : n = 300 := by omega
          go_wp2_with fail
          refine (awake_any _).mono ?_
          rintro r w' ⟨rfl, b9⟩
          go_wp2_with fail
          go_ret
          exact ⟨rfl, bb.trans (b9.mono bb.size)⟩

theorem walk (H : Type) (enc : TypeId × Value → H) : Walk H enc Try.prog 3 Try.f3 := by
  intro W base args ds p hval hA
  rw [Try.params3] at hA hval
  obtain ⟨v0, v1, v2, v3, d0, d1, d2, d3, p0, p1, p2, p3, rfl, rfl, rfl, h0, h1, h2, h3⟩ := trodAll_four hA
  obtain ⟨l, rfl, rfl, rfl, _⟩ := open_int Try.underlying3 (hval 0 _ v0 rfl rfl) h0
  obtain ⟨m, rfl, rfl, rfl, _⟩ := open_int Try.underlying3 (hval 1 _ v1 rfl rfl) h1
  obtain ⟨s, rfl, rfl, rfl, _⟩ := open_int Try.underlying22 (hval 2 _ v2 rfl rfl) h2
  obtain ⟨a, n, c, Z, rfl, hn, hm, hZ, hz⟩ := open_row_int Try.underlying23 Try.underlying3 (by kernel_rfl) (hval 3 _ v3 rfl rfl) h3
  exact body l m s a n c Z W hn hm hZ

set_option maxRecDepth 100000 in
theorem lifted (os : Os) (started : os.Started) (H : Type) (enc : TypeId × Value → H) :
    ReturnsInHanded {} Try.checked os 3 .any (Rows.backoffPlaysSpec.pre6 enc Try.prog Try.f3 Rows.backoffPlaysRow.domain false) (Rows.backoffPlaysSpec.post enc Try.prog Try.f3 false true false false) :=
  returnsInHanded_of_change (C := Try.checked) own started (by kernel_rfl) Try.func3
    (ChangeSpec.witness6 (enc := enc) (C := Try.checked) false ⟨#[], #[.int .i64 0, .int .i64 0, .int .u32 0, .slice none 0 0], []⟩ 8 (by kernel_rfl) (by kernel_rfl) (by kernel_rfl) (by kernel_rfl))
    fun W base args ds gs before hval hW _ _ => step_of_walk laidOut (by rw [Try.params3]; exact of_decide_eq_true (by kernel_rfl)) (by kernel_rfl) Try.underlying4 rfl
      (fun ds h => by
        rw [Try.params3] at h
        match ds, h with
        | [_, _, _, _], _ => rfl) (walk H enc) W base args ds gs before hval hW

theorem holds : Rows.BackoffPlaysSaid :=
  OpenClaim.holds_of_wide 3 Try.f3 rfl rfl rfl rfl rfl rfl rfl ⟨rfl, rfl, rfl, rfl, rfl⟩ rfl rfl rfl rfl rfl (by kernel_rfl) Try.func3 (by kernel_rfl)
    (of_decide_eq_true (by kernel_rfl)) (by unfold Func.isWrapper; first | (rw [if_pos (by decide +kernel)]; kernel_rfl) | (rw [if_neg (by decide +kernel)]; exact ⟨rfl, rfl⟩))
    (fun os started H enc _ => lifted os started H enc)
#print axioms holds
end Go.Proofs.Ytmfjalmggbdppaa.BackoffPlays
