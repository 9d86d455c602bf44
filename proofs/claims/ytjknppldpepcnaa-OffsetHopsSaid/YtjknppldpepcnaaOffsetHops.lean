/-
  Law OffsetHops: down a row of nodes each is as sure as its way says: for each hop an error, for each slot a tick; the call returns true. No condition.
-/
import Derived.Test.YtjknppldpepcnaaOffLaws
set_option maxRecDepth 100000
namespace Go.Proofs.Ytjknppldpepcnaa.OffsetHops
set_option linter.unusedVariables false
open Go.RowKit Go.ChangeShapes Go.WideShapes Go.ChangeAt Go.Deep Lb Of
set_option linter.unusedVariables false
theorem own : ownKnob Try.prog.godebug = none := by kernel_rfl
theorem laidOut : laidOutB Try.prog = true := by kernel_rfl

def kn (k j : Nat) : Bool := decide (j < k)
def bn (e : Int) (k : Nat) (s : Int) (j : Nat) : Int := if j < k then if j = 0 then 0 else j * e + s else 0
theorem kn_start : upd (fun _ => false) 0 true = kn 1 := by funext j; unfold upd kn; by_cases h : j = 0 <;> simp [h]
theorem bn_start (e : Int) : (fun _ => 0 : Nat → Int) = bn e 1 0 := by
  funext j; unfold bn
  split
  · rw [if_pos (by omega)]
  · rfl
theorem kn_next (k : Nat) : upd (kn k) k true = kn (k + 1) := by
  funext j; unfold upd kn
  by_cases h : j = k
  · simp [h]
  · simp [h]; omega
theorem bn_next (e : Int) (k : Nat) (hk : 0 < k) : upd (bn e k 0) k (bn e k 0 (k - 1) + e) = bn e (k + 1) 0 := by
  have h0 : bn e k 0 (k - 1) + e = (k : Int) * e := by
    unfold bn
    rw [if_pos (show k - 1 < k by omega)]
    by_cases h1 : k - 1 = 0
    · rw [if_pos h1, show k = 1 by omega]; simp
    · rw [if_neg h1, show ((k - 1 : Nat) : Int) = (k : Int) - 1 by omega, Int.sub_mul]; omega
  rw [h0]
  funext j
  unfold upd bn
  by_cases h : j = k
  · subst h
    rw [if_pos rfl, if_pos (show j < j + 1 by omega), if_neg (show ¬ j = 0 by omega)]
    omega
  · rw [if_neg h]
    by_cases h1 : j < k
    · rw [if_pos h1, if_pos (show j < k + 1 by omega)]
    · rw [if_neg h1, if_neg (show ¬ j < k + 1 by omega)]
theorem prod_bd (j : Nat) (e : Int) (h0 : 0 ≤ e) (h1 : e ≤ 1000) (hj : j ≤ 16) : 0 ≤ (j : Int) * e ∧ (j : Int) * e ≤ 16000 := by
  have h2 : (0 : Int) ≤ j := by omega
  have h3 : (j : Int) ≤ 16 := by omega
  constructor
  · exact Int.mul_nonneg h2 h0
  · have := Int.mul_le_mul h3 h1 h0 (by omega)
    simpa using this
theorem bn_bd (e : Int) (k : Nat) (s : Int) (j : Nat) (h0 : 0 ≤ e) (h1 : e ≤ 1000) (hj : k ≤ 16) (s0 : 0 ≤ s) (s1 : s ≤ 60) : 0 ≤ bn e k s j ∧ bn e k s j ≤ 20000 := by
  unfold bn
  split
  · split
    · omega
    · have := prod_bd j e h0 h1 (by omega); omega
  · omega
theorem tick_next (e : Int) (N : Nat) (s : Int) (h0 : 0 ≤ e) (h1 : e ≤ 1000) (hN : N ≤ 16) (s0 : 0 ≤ s) (s1 : s ≤ 60) : tick N (kn N) (bn e N s) N = bn e N (s + 1) := by
  funext j
  have hb := bn_bd e N s j h0 h1 hN s0 s1
  unfold tick
  by_cases hj : 1 ≤ j ∧ j < N
  · rw [if_pos ⟨hj.1, hj.2, by unfold kn; simp [hj.2], by omega⟩]
    unfold bn
    rw [if_pos hj.2, if_pos hj.2, if_neg (by omega), if_neg (by omega)]
    omega
  · rw [if_neg (by omega)]
    unfold bn
    by_cases h2 : j < N
    · rw [if_pos h2, if_pos h2, if_pos (by omega), if_pos (by omega)]
    · rw [if_neg h2, if_neg h2]

set_option maxHeartbeats 2000000 in
theorem body (n e s : Int) (w : World) :
    Calls Try.prog 8 #[.int .i64 n, .int .i64 e, .int .i64 s] w fun e w' => e = .returned (.bool true) ∧ Below w.heap.size w w' := by
  have un := u64_pos n
  have ue := u64_pos e
  have us := u64_pos s
  obtain ⟨N, hN, N0, N1⟩ : ∃ N : Nat, 2 + IntKind.u64.wrap n % 15 = (N : Int) ∧ 2 ≤ N ∧ N ≤ 16 := ⟨(2 + IntKind.u64.wrap n % 15).toNat, by omega, by omega, by omega⟩
  obtain ⟨E, hE, E0, E1⟩ : ∃ E : Int, IntKind.u64.wrap e % 1001 = E ∧ 0 ≤ E ∧ E ≤ 1000 := ⟨_, rfl, by omega, by omega⟩
  obtain ⟨S, hS, S1⟩ : ∃ S : Nat, IntKind.u64.wrap s % 50 = (S : Int) ∧ S ≤ 50 := ⟨(IntKind.u64.wrap s % 50).toNat, by omega, by omega⟩
  go_enter Try.func8, Try.ntmps8
  go_wp2_with fail
  clear un ue us hN hE hS
  refine (new_any _ _).mono ?_
  rintro r w1 ⟨rfl, k1, b1, z1⟩
  rw [show (lim (N : Int) 1 16).toNat = N by unfold lim; omega, kn_start, bn_start E] at k1
  go_wp2_with fail
  go_loopw [8] (fun i wr => ∃ k : Nat, i = .int .i64 k ∧ 1 ≤ k ∧ k ≤ N ∧ Prf wr w.heap.size N (kn k) (bn E k 0) ∧ Below w.heap.size w wr ∧ w.heap.size < wr.heap.size) (fun i _ => N - (intOf i).toNat)
  case atStart => exact ⟨1, rfl, by omega, by omega, k1, b1, z1⟩
  case round =>
    obtain ⟨k, rfl, hk1, hk, kk, bb, zz⟩ := hrel
    by_cases hlt : k < N
    · have hb := bn_bd E k 0 (k - 1) E0 E1 (by omega) (by omega) (by omega)
      have e1 : (k : Int) - 1 = ((k - 1 : Nat) : Int) := by omega
      have HE := Lib.hid e1
      clear e1
      go_wp2_with fail
      rw [HE.out]
      refine (heard_some _ N k (k - 1) E _ _ _ kk N1 (by omega) hlt (by omega) (by omega) (by unfold kn; simp; omega) (by omega) (by omega)).mono ?_
      rintro r w2 ⟨rfl, k2, j2⟩
      rw [show lim E 0 1000 = E by unfold lim; omega, kn_next, bn_next E k (by omega)] at k2
      have b2 := j2.below bb (Nat.le_refl _) (by omega)
      have z2 := Nat.lt_of_lt_of_le zz j2.size
      go_wp2_with fail
      exact ⟨⟨k + 1, by go_num, by omega, by omega, k2, b2, z2⟩, by simp [intOf]; omega⟩
    · obtain rfl : k = N := by omega
      clear hlt
      go_wp2_with fail
      go_loopw [44] (fun i wr => ∃ q : Nat, i = .int .i64 q ∧ q ≤ S ∧ Prf wr w.heap.size k (kn k) (bn E k q) ∧ Below w.heap.size w wr ∧ w.heap.size < wr.heap.size) (fun i _ => S - (intOf i).toNat)
      case atStart => exact ⟨0, rfl, by omega, kk, bb, zz⟩
      case round =>
        obtain ⟨q, rfl, hq, kk, bb, zz⟩ := hrel
        by_cases hlt : q < S
        · go_wp2_with fail
          refine (slot_any _ k _ _ _ kk (by omega) N1 (fun i => by have := bn_bd E k q i E0 E1 N1 (by omega) (by omega); omega)).mono ?_
          rintro r w2 ⟨rfl, k2, j2⟩
          rw [tick_next E k q E0 E1 N1 (by omega) (by omega), show (q : Int) + 1 = ((q + 1 : Nat) : Int) by omega] at k2
          have b2 := j2.below bb (Nat.le_refl _) (by omega)
          have z2 := Nat.lt_of_lt_of_le zz j2.size
          go_wp2_with fail
          exact ⟨⟨q + 1, by go_num, by omega, k2, b2, z2⟩, by simp [intOf]; omega⟩
        · obtain rfl : q = S := by omega
          clear hlt
          go_wp2_with fail
          go_loopw [50] (fun i wr => ∃ j : Nat, i = .int .i64 j ∧ j ≤ k ∧ Prf wr w.heap.size k (kn k) (bn E k q) ∧ Below w.heap.size w wr ∧ w.heap.size < wr.heap.size) (fun i _ => k - (intOf i).toNat)
          case atStart => exact ⟨0, rfl, by omega, kk, bb, zz⟩
          case round =>
            obtain ⟨j, rfl, hj, kk, bb, zz⟩ := hrel
            by_cases hlt : j < k
            · have pb := prod_bd j E E0 E1 (by omega)
              obtain ⟨p, hp⟩ : ∃ p, (j : Int) * E = p := ⟨_, rfl⟩
              go_wp2_with fail
              refine (bound_in _ k j _ _ _ kk hlt N1).mono ?_
              rintro r w2 ⟨rfl, m, rfl⟩
              rw [show kn k j = true by unfold kn; simp [hlt]]
              by_cases hj0 : j = 0
              · subst hj0
                rw [show bn E k q 0 = 0 by unfold bn; simp]
                go_wp2_with fail
                exact ⟨⟨1, by go_num, by omega, Blk.drewN kk _, below_drewN bb _, zz⟩, by simp [intOf]; omega⟩
              · rw [show bn E k q j = j * E + q by unfold bn; rw [if_pos hlt, if_neg hj0]]
                rw [hp] at pb ⊢
                have hne : ((j : Int) == 0) = false := by simp; exact hj0
                go_wp2_with fail
                exact ⟨⟨j + 1, by go_num, by omega, Blk.drewN kk _, below_drewN bb _, zz⟩, by simp [intOf]; omega⟩
            · obtain rfl : j = k := by omega
              clear hlt
              go_wp2_with fail
              refine (lose_in _ j 1 _ _ _ kk (by omega) (by omega) N1).mono ?_
              rintro r w2 ⟨rfl, k2, j2⟩
              have b2 := j2.below bb (Nat.le_refl _) (by omega)
              have z2 := Nat.lt_of_lt_of_le zz j2.size
              go_wp2_with fail
              refine (bound_in _ j 1 _ _ _ k2 (by omega) N1).mono ?_
              rintro r w3 ⟨rfl, m, rfl⟩
              rw [upd_same, upd_same]
              have k3 := Blk.drewN k2 m
              have b3 := below_drewN b2 m
              by_cases hj2 : j = 2
              · subst hj2
                go_wp2_with fail
                refine (heard_off _ 2 1 1 E _ _ _ k3 (by decide) (by decide)).mono ?_
                rintro r w' ⟨rfl, rfl⟩
                go_wp2_with fail
                refine (bound_in _ 2 1 _ _ _ k3 (by omega) N1).mono ?_
                rintro r w3 ⟨rfl, m2, rfl⟩
                rw [upd_same, upd_same]
                go_wp2_with fail
                refine (awake_any _).mono ?_
                rintro r w9 ⟨rfl, b9⟩
                go_wp2_with fail
                go_ret
                have b4 := below_drewN b2 (m + m2)
                exact ⟨rfl, b4.trans (b9.mono b4.size)⟩
              · have e1 : (j : Int) - 1 = ((j - 1 : Nat) : Int) := by omega
                have HE := Lib.hid e1
                clear e1
                go_wp2_with fail
                rw [HE.out]
                refine (heard_none _ j (j - 1) 1 E _ _ _ k3 N1 (by omega) (by omega) (by omega) (by omega) (by rw [upd_same])).mono ?_
                rintro r w4 ⟨rfl, k4, j4⟩
                have b4 := j4.below b3 (Nat.le_refl _) (Nat.le_of_lt z2)
                go_wp2_with fail
                rw [HE.out]
                refine (bound_in _ j (j - 1) _ _ _ k4 (by omega) N1).mono ?_
                rintro r w5 ⟨rfl, m2, rfl⟩
                rw [upd_same, upd_same]
                go_wp2_with fail
                refine (awake_any _).mono ?_
                rintro r w9 ⟨rfl, b9⟩
                go_wp2_with fail
                go_ret
                have b5 := below_drewN b4 m2
                exact ⟨rfl, b5.trans (b9.mono b5.size)⟩

theorem walk (H : Type) (enc : TypeId × Value → H) : Walk H enc Try.prog 8 Try.f8 := by
  intro W base args ds p hval hA
  rw [Try.params8] at hA hval
  obtain ⟨v0, v1, v2, d0, d1, d2, p0, p1, p2, rfl, rfl, rfl, h0, h1, h2⟩ := trodAll_three hA
  obtain ⟨a, rfl, rfl, rfl, w0⟩ := open_int Try.underlying3 (hval 0 _ v0 rfl rfl) h0
  obtain ⟨b, rfl, rfl, rfl, w1⟩ := open_int Try.underlying3 (hval 1 _ v1 rfl rfl) h1
  obtain ⟨g, rfl, rfl, rfl, w2⟩ := open_int Try.underlying3 (hval 2 _ v2 rfl rfl) h2
  exact body a b g W

set_option maxRecDepth 100000 in
theorem lifted (os : Os) (started : os.Started) (H : Type) (enc : TypeId × Value → H) :
    ReturnsInHanded {} Try.checked os 8 .any (Rows.offsetHopsSpec.pre6 enc Try.prog Try.f8 Rows.offsetHopsRow.domain false) (Rows.offsetHopsSpec.post enc Try.prog Try.f8 false true false false) :=
  returnsInHanded_of_change (C := Try.checked) own started (by kernel_rfl) Try.func8
    (ChangeSpec.witness6 (enc := enc) (C := Try.checked) false ⟨#[], #[.int .i64 0, .int .i64 0, .int .i64 0], []⟩ 8 (by kernel_rfl) (by kernel_rfl) (by kernel_rfl) (by kernel_rfl))
    fun W base args ds gs before hval hW _ _ => step_of_walk laidOut (by rw [Try.params8]; exact of_decide_eq_true (by kernel_rfl)) (by kernel_rfl) Try.underlying4 rfl
      (fun ds h => by
        rw [Try.params8] at h
        match ds, h with
        | [_, _, _], _ => rfl) (walk H enc) W base args ds gs before hval hW

theorem holds : Rows.OffsetHopsSaid :=
  OpenClaim.holds_of_wide 8 Try.f8 rfl rfl rfl rfl rfl rfl rfl ⟨rfl, rfl, rfl, rfl, rfl⟩ rfl rfl rfl rfl rfl (by kernel_rfl) Try.func8 (by kernel_rfl)
    (of_decide_eq_true (by kernel_rfl)) (by unfold Func.isWrapper; first | (rw [if_pos (by decide +kernel)]; kernel_rfl) | (rw [if_neg (by decide +kernel)]; exact ⟨rfl, rfl⟩))
    (fun os started H enc _ => lifted os started H enc)
#print axioms holds
end Go.Proofs.Ytjknppldpepcnaa.OffsetHops
