/-
  Law BackoffEnds: a wait is below two to the exponent and comes to nothing in so many slots; the call returns true. No condition.
-/
import Derived.Test.YtmfjalmggbdppaaBackRef
set_option maxRecDepth 100000
namespace Go.Proofs.Ytmfjalmggbdppaa.BackoffEnds
set_option linter.unusedVariables false
open Go.RowKit Go.ChangeShapes Go.WideShapes Go.ChangeAt Go.Deep Lb Bk
set_option linter.unusedVariables false
theorem own : ownKnob Try.prog.godebug = none := by kernel_rfl
theorem laidOut : laidOutB Try.prog = true := by kernel_rfl

theorem wait_pow (n e : Int) : wait n e < 2 ^ e.toNat := by
  unfold wait
  exact Int.emod_lt_of_pos _ (Int.pow_pos (by omega))

theorem pow_cases (G T : Int) (h0 : 0 ≤ G) (h8 : G ≤ 8) (h : T < 2 ^ G.toNat) : (G = 0 ∧ T < 1) ∨ (G = 1 ∧ T < 2) ∨ (G = 2 ∧ T < 4) ∨ (G = 3 ∧ T < 8) ∨ (G = 4 ∧ T < 16) ∨ (G = 5 ∧ T < 32) ∨ (G = 6 ∧ T < 64) ∨ (G = 7 ∧ T < 128) ∨ (G = 8 ∧ T < 256) := by
  rcases (show G = 0 ∨ G = 1 ∨ G = 2 ∨ G = 3 ∨ G = 4 ∨ G = 5 ∨ G = 6 ∨ G = 7 ∨ G = 8 by omega) with rfl | rfl | rfl | rfl | rfl | rfl | rfl | rfl | rfl
  all_goals
    have h' : T < _ := h
    simp at h'
    omega

set_option maxHeartbeats 8000000 in
theorem body (l m s f : Int) (w : World) :
    Calls Try.prog 5 #[.int .i64 l, .int .i64 m, .int .u32 s, .int .i64 f] w fun e w' => e = .returned (.bool true) ∧ Below w.heap.size w w' := by
  have hl0 := u64_pos l
  have hm0 := u64_pos m
  have hf0 := u64_pos f
  obtain ⟨L, hL, hL8⟩ : ∃ L : Nat, IntKind.u64.wrap l % 9 = L ∧ L ≤ 8 := ⟨(IntKind.u64.wrap l % 9).toNat, by omega, by omega⟩
  obtain ⟨D, hD, hD8⟩ : ∃ D : Nat, IntKind.u64.wrap m % (9 - (L : Int)) = D ∧ D + L ≤ 8 := by
    have h1 := Int.emod_nonneg (IntKind.u64.wrap m) (b := 9 - (L : Int)) (by omega)
    have h2 := Int.emod_lt_of_pos (IntKind.u64.wrap m) (b := 9 - (L : Int)) (by omega)
    exact ⟨(IntKind.u64.wrap m % (9 - (L : Int))).toNat, by omega, by omega⟩
  obtain ⟨N, hN, hN30⟩ : ∃ N : Nat, IntKind.u64.wrap f % 30 = N ∧ N < 30 := ⟨(IntKind.u64.wrap f % 30).toNat, by omega, by omega⟩
  have hne : ((9 : Int) - (L : Int) == 0) = false := by simp; omega
  go_enter Try.func5, Try.ntmps5
  go_wp2_with fail
  have k0 : lo (L : Int) = L := by unfold lo; omega
  have k1 : hi (L : Int) ((L : Int) + D) = (L : Int) + D := by unfold hi; rw [k0]; omega
  refine (new_any _ _ _ _).mono ?_
  rintro r w1 ⟨rfl, k2, b3, z1⟩
  rw [k0, k1] at k2
  obtain ⟨M, hM, hM0, hM8⟩ : ∃ M : Int, (L : Int) + D = M ∧ (L : Int) ≤ M ∧ M ≤ 8 := ⟨_, rfl, by omega, by omega⟩
  rw [hM] at k2
  go_wp2_with fail
  have HN := Lib.hid hN
  clear hN
  go_loopw [35] (fun i wr => ∃ (k : Nat) (t q : Int), i = .int .i64 k ∧ k ≤ N ∧ 0 ≤ t ∧ t < 1000 ∧ Bk wr w.heap.size L M (min M (L + k)) t q ∧ Below w.heap.size w wr) (fun i _ => N - (intOf i).toNat)
  case atStart => exact ⟨0, 0, s, rfl, by omega, by omega, by omega, by rw [show min M ((L : Int) + ((0 : Nat) : Int)) = L by omega]; exact k2, b3⟩
  case round =>
    obtain ⟨k, t, q, rfl, hk, ht0, ht1, kk, bb⟩ := hrel
    by_cases hlt : k < N
    · obtain ⟨E, hE, hE0, hE8⟩ : ∃ E : Int, min M (L + k) = E ∧ 0 ≤ E ∧ E ≤ 8 := ⟨_, rfl, by omega, by omega⟩
      obtain ⟨G, hG, hG0, hG8⟩ : ∃ G : Int, min (E + 1) M = G ∧ 0 ≤ G ∧ G ≤ 8 := ⟨_, rfl, by omega, by omega⟩
      have hG' : min M ((L : Int) + k + 1) = G := by omega
      have hG2 : min M ((L : Int) + ((k + 1 : Nat) : Int)) = G := by omega
      rw [hE] at kk
      have w0 := wait_low q G
      have w1 := wait_high q G hG0 hG8
      have wp := wait_pow q G
      go_wp2_with fail
      refine (sent_false _ _ _ _ _ _ _ kk (by omega) hE8 (by omega) hM8).mono ?_
      rintro r w4 ⟨rfl, k4, j4⟩
      have b4 := j4.below bb (Nat.le_refl _) (by have := bb.size; omega)
      rw [hG] at k4
      obtain ⟨T, hT⟩ : ∃ T : Nat, wait q G = T := ⟨(wait q G).toNat, by omega⟩
      rw [hT] at k4 wp w0 w1
      clear hT hG hE
      go_wp2_with fail
      refine (exponent_any _ _ _ _ _ _ _ k4).mono ?_
      rintro r w' ⟨rfl, rfl⟩
      go_wp2_with fail
      refine (wait_any _ _ _ _ _ _ _ k4).mono ?_
      rintro r w' ⟨rfl, rfl⟩
      rcases pow_cases G T hG0 hG8 wp with ⟨h, wp⟩ | ⟨h, wp⟩ | ⟨h, wp⟩ | ⟨h, wp⟩ | ⟨h, wp⟩ | ⟨h, wp⟩ | ⟨h, wp⟩ | ⟨h, wp⟩ | ⟨h, wp⟩
      all_goals
        subst h
        by_cases h3 : k % 3 = 2
        · have h3' : ((k : Int) % 3 == 2) = true := by simp; omega
          clear h3
          go_wp2_with fail
          go_loopw [67] (fun i wr => ∃ j : Nat, i = .int .i64 j ∧ j ≤ T ∧ Bk wr w.heap.size L M (min M ((L : Int) + k + 1)) ((T : Int) - j) (nxt q) ∧ Below w.heap.size w wr) (fun i _ => T - (intOf i).toNat)
          case atStart => exact ⟨0, rfl, by omega, by rw [show (T : Int) - ((0 : Nat) : Int) = T by omega, hG']; exact k4, b4⟩
          case round =>
            obtain ⟨j, rfl, hj, kj, bj⟩ := hrel
            by_cases hjt : j < T
            · have hz : (((T : Int) - (j : Int)) == 0) = false := by simp; omega
              go_wp2_with fail
              refine (wait_any _ _ _ _ _ _ _ kj).mono ?_
              rintro r w' ⟨rfl, rfl⟩
              go_wp2_with fail
              refine (free_any _ _ _ _ _ _ _ kj).mono ?_
              rintro r w' ⟨rfl, rfl⟩
              go_wp2_with fail
              refine (slot_any _ _ _ _ _ _ _ kj (by omega) (by omega)).mono ?_
              rintro r w5 ⟨rfl, k5, j5⟩
              have b5 := j5.below bj (Nat.le_refl _) (by have := bj.size; omega)
              rw [show max 0 ((T : Int) - j - 1) = (T : Int) - ((j + 1 : Nat) : Int) by omega] at k5
              go_wp2_with fail
              first
                | exact ⟨⟨j + 1, by go_num, by omega, k5, b5⟩, by simp [intOf]; omega⟩
                | (go_roundw
                   case rel => exact ⟨j + 1, by go_num, by omega, k5, b5⟩
                   case measure => simp [intOf]; omega)
            · obtain rfl : j = T := by omega
              have kz : Bk wr w.heap.size L M (min M ((L : Int) + k + 1)) 0 (nxt q) := by rw [show (0 : Int) = (j : Int) - j by omega]; exact kj
              rw [hG'] at kz
              clear kj
              go_wp2_with fail
              refine (free_any _ _ _ _ _ _ _ kz).mono ?_
              rintro r w' ⟨rfl, rfl⟩
              go_wp2_with fail
              refine (exponent_any _ _ _ _ _ _ _ kz).mono ?_
              rintro r w' ⟨rfl, rfl⟩
              go_wp2_with fail
              first
            | exact ⟨⟨k + 1, 0, nxt q, by go_num, by omega, by omega, by omega, by rw [hG2]; exact kz, bj⟩, by simp [intOf]; omega⟩
            | (go_roundw
               case rel => exact ⟨k + 1, 0, nxt q, by go_num, by omega, by omega, by omega, by rw [hG2]; exact kz, bj⟩
               case measure => simp [intOf]; omega)
        · have h3' : ((k : Int) % 3 == 2) = false := by simp; omega
          clear h3
          go_wp2_with fail
          first
            | exact ⟨⟨k + 1, T, nxt q, by go_num, by omega, by omega, by omega, by rw [hG2]; exact k4, b4⟩, by simp [intOf]; omega⟩
            | (go_roundw
               case rel => exact ⟨k + 1, T, nxt q, by go_num, by omega, by omega, by omega, by rw [hG2]; exact k4, b4⟩
               case measure => simp [intOf]; omega)
    · obtain rfl : k = N := by omega
      go_wp2_with fail
      refine (sent_true _ _ _ _ _ _ _ kk).mono ?_
      rintro r w4 ⟨rfl, k4, j4⟩
      have b4 := j4.below bb (Nat.le_refl _) (by have := bb.size; omega)
      go_wp2_with fail
      refine (free_any _ _ _ _ _ _ _ k4).mono ?_
      rintro r w' ⟨rfl, rfl⟩
      go_wp2_with fail
      refine (exponent_any _ _ _ _ _ _ _ k4).mono ?_
      rintro r w' ⟨rfl, rfl⟩
      go_wp2_with fail
      refine (awake_any _).mono ?_
      rintro r w' ⟨rfl, b9⟩
      go_wp2_with fail
      go_ret
      exact ⟨rfl, b4.trans (b9.mono b4.size)⟩

theorem walk (H : Type) (enc : TypeId × Value → H) : Walk H enc Try.prog 5 Try.f5 := by
  intro W base args ds p hval hA
  rw [Try.params5] at hA hval
  obtain ⟨v0, v1, v2, v3, d0, d1, d2, d3, p0, p1, p2, p3, rfl, rfl, rfl, h0, h1, h2, h3⟩ := trodAll_four hA
  obtain ⟨l, rfl, rfl, rfl, _⟩ := open_int Try.underlying3 (hval 0 _ v0 rfl rfl) h0
  obtain ⟨m, rfl, rfl, rfl, _⟩ := open_int Try.underlying3 (hval 1 _ v1 rfl rfl) h1
  obtain ⟨s, rfl, rfl, rfl, _⟩ := open_int Try.underlying22 (hval 2 _ v2 rfl rfl) h2
  obtain ⟨f, rfl, rfl, rfl, _⟩ := open_int Try.underlying3 (hval 3 _ v3 rfl rfl) h3
  exact body l m s f W

set_option maxRecDepth 100000 in
theorem lifted (os : Os) (started : os.Started) (H : Type) (enc : TypeId × Value → H) :
    ReturnsInHanded {} Try.checked os 5 .any (Rows.backoffEndsSpec.pre6 enc Try.prog Try.f5 Rows.backoffEndsRow.domain false) (Rows.backoffEndsSpec.post enc Try.prog Try.f5 false true false false) :=
  returnsInHanded_of_change (C := Try.checked) own started (by kernel_rfl) Try.func5
    (ChangeSpec.witness6 (enc := enc) (C := Try.checked) false ⟨#[], #[.int .i64 0, .int .i64 0, .int .u32 0, .int .i64 0], []⟩ 8 (by kernel_rfl) (by kernel_rfl) (by kernel_rfl) (by kernel_rfl))
    fun W base args ds gs before hval hW _ _ => step_of_walk laidOut (by rw [Try.params5]; exact of_decide_eq_true (by kernel_rfl)) (by kernel_rfl) Try.underlying4 rfl
      (fun ds h => by
        rw [Try.params5] at h
        match ds, h with
        | [_, _, _, _], _ => rfl) (walk H enc) W base args ds gs before hval hW

theorem holds : Rows.BackoffEndsSaid :=
  OpenClaim.holds_of_wide 5 Try.f5 rfl rfl rfl rfl rfl rfl rfl ⟨rfl, rfl, rfl, rfl, rfl⟩ rfl rfl rfl rfl rfl (by kernel_rfl) Try.func5 (by kernel_rfl)
    (of_decide_eq_true (by kernel_rfl)) (by unfold Func.isWrapper; first | (rw [if_pos (by decide +kernel)]; kernel_rfl) | (rw [if_neg (by decide +kernel)]; exact ⟨rfl, rfl⟩))
    (fun os started H enc _ => lifted os started H enc)
#print axioms holds
end Go.Proofs.Ytmfjalmggbdppaa.BackoffEnds
