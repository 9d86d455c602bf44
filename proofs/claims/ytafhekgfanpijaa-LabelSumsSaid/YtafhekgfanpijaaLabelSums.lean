/-
  Law LabelSums: for every two texts of which no rune comes together where they meet: the sum of both is the first one's sum and the second one's, its runes counted on; the call returns true. No condition.
-/
import Derived.Test.YtafhekgfanpijaaLaTo
set_option maxRecDepth 100000
namespace Go.Proofs.Ytafhekgfanpijaa.LabelSums
set_option linter.unusedVariables false
open Go.RowKit Go.ChangeShapes Go.WideShapes Go.ChangeAt Go.Deep Lb La
set_option linter.unusedVariables false
theorem own : ownKnob Try.prog.godebug = none := by kernel_rfl
theorem laidOut : laidOutB Try.prog = true := by kernel_rfl
def rawS (q : List Nat) : Nat → Nat
  | 0 => 0
  | j + 1 => rawS q j + q.getD j 0 * (j + 1)
def tot (q : List Nat) : Nat → Nat
  | 0 => 0
  | j + 1 => tot q j + q.getD j 0
theorem sum_raw (q : List Nat) : ∀ j, sumJ q j = rawS q j % 65521
  | 0 => rfl
  | j + 1 => by
    show (sumJ q j + q.getD j 0 * (j + 1)) % 65521 = (rawS q j + q.getD j 0 * (j + 1)) % 65521
    rw [sum_raw q j]
    generalize q.getD j 0 * (j + 1) = X
    omega
theorem raw_left (p q : List Nat) : ∀ j, j ≤ p.length → rawS (p ++ q) j = rawS p j
  | 0, _ => rfl
  | j + 1, h => by
    show rawS (p ++ q) j + (p ++ q).getD j 0 * (j + 1) = rawS p j + p.getD j 0 * (j + 1)
    rw [raw_left p q j (by omega), List.getD_eq_getElem?_getD, List.getD_eq_getElem?_getD, List.getElem?_append_left (by omega)]
theorem raw_right (p q : List Nat) : ∀ j, rawS (p ++ q) (p.length + j) = rawS p p.length + rawS q j + p.length * tot q j
  | 0 => by rw [Nat.add_zero, raw_left p q _ (Nat.le_refl _)]; simp [rawS, tot]
  | j + 1 => by
    show rawS (p ++ q) (p.length + j) + (p ++ q).getD (p.length + j) 0 * (p.length + j + 1) = rawS p p.length + (rawS q j + q.getD j 0 * (j + 1)) + p.length * (tot q j + q.getD j 0)
    have h : (p ++ q).getD (p.length + j) 0 = q.getD j 0 := by
      rw [List.getD_eq_getElem?_getD, List.getD_eq_getElem?_getD, List.getElem?_append_right (by omega), Nat.add_sub_cancel_left]
    rw [raw_right p q j, h, Nat.add_assoc p.length j 1, Nat.mul_add, Nat.mul_add p.length, Nat.mul_comm (q.getD j 0) p.length]
    omega
theorem sum_cat {a b : List UInt8} {N M : Nat} (h : rs (a ++ b) = rs a ++ rs b) (hN : (ru a).length = N) (hM : (ru b).length = M) :
    sumJ (ru (a ++ b)) (ru (a ++ b)).length = (sumJ (ru a) N + sumJ (ru b) M + N * tot (ru b) M) % 65521 := by
  rw [ru_app h, List.length_append, sum_raw, raw_right, sum_raw, sum_raw, hN, hM]
  omega
theorem mem_le {l : List UInt8} {j c : Nat} (h : (ru l)[j]? = some c) : c ≤ 1114111 := by
  have := ru_valid l c (List.mem_of_getElem? h)
  unfold validRune at this
  rw [decide_eq_true_eq] at this
  omega

set_option maxHeartbeats 1000000 in
theorem body (a b : List UInt8) (w : World) : Calls Try.prog 6 #[.string ⟨⟨a⟩⟩, .string ⟨⟨b⟩⟩] w fun e w' => e = .returned (.bool true) ∧ Below w.heap.size w w' := by
  obtain ⟨n, hn⟩ : ∃ n, a.length = n := ⟨_, rfl⟩
  obtain ⟨m, hm⟩ : ∃ m, b.length = m := ⟨_, rfl⟩
  have hsz : (ByteArray.mk ⟨a⟩).size = n := hn
  have hsz2 : (ByteArray.mk ⟨b⟩).size = m := hm
  by_cases h5 : 300 < n
  · have h7 : decide (300 < n) = true := by simp; omega
    have h8 : decide ((300 : Int) < (n : Int)) = true := by simp; omega
    go_enter Try.func6, Try.ntmps6
    go_wp2_with (go_at_call 9; refine (awake_any _).mono ?_)
    rintro r w1 ⟨rfl, b1⟩
    go_wp2_with fail
    go_ret
    exact ⟨rfl, b1⟩
  have h5b : decide (300 < n) = false := by simp; omega
  have h5c : decide ((300 : Int) < (n : Int)) = false := by simp; omega
  by_cases h6 : 300 < m
  · have h7 : decide (300 < m) = true := by simp; omega
    have h8 : decide ((300 : Int) < (m : Int)) = true := by simp; omega
    go_enter Try.func6, Try.ntmps6
    go_wp2_with (go_at_call 9; refine (awake_any _).mono ?_)
    rintro r w1 ⟨rfl, b1⟩
    go_wp2_with fail
    go_ret
    exact ⟨rfl, b1⟩
  have h6b : decide (300 < m) = false := by simp; omega
  have h6c : decide ((300 : Int) < (m : Int)) = false := by simp; omega
  have hab : (a ++ b).length ≤ 600 := by rw [List.length_append]; omega
  obtain ⟨N, hN⟩ : ∃ N, (ru a).length = N := ⟨_, rfl⟩
  obtain ⟨M, hM⟩ : ∃ M, (ru b).length = M := ⟨_, rfl⟩
  obtain ⟨K, hK⟩ : ∃ K, (ru (a ++ b)).length = K := ⟨_, rfl⟩
  have hN5 : N ≤ 300 := by have := rs_le a; rw [← hN, ru_len]; omega
  have hM5 : M ≤ 300 := by have := rs_le b; rw [← hM, ru_len]; omega
  have F1 := Lib.hid (to_count hK (by omega))
  have F2 := Lib.hid (to_count hN (by omega))
  have F3 := Lib.hid (to_count hM (by omega))
  have e1 : IntKind.i64.wrap ((N : Int) + (M : Int)) = (N : Int) + (M : Int) := wrap_small _ (by omega) (by omega)
  have HCAT := Lib.hid (cat a b)
  by_cases hk : K = N + M
  · have hrs : rs (a ++ b) = rs a ++ rs b := rs_app_eq (by rw [← ru_len, ← ru_len, ← ru_len, hK, hN, hM]; exact hk)
    have hs := sum_cat hrs hN hM
    obtain ⟨S, hS⟩ : ∃ S, sumJ (ru a) N = S := ⟨_, rfl⟩
    obtain ⟨T, hT⟩ : ∃ T, sumJ (ru b) M = T := ⟨_, rfl⟩
    have hS5 : S < 65521 := hS ▸ sumJ_lt _ _
    have hT5 : T < 65521 := hT ▸ sumJ_lt _ _
    rw [hS, hT] at hs
    obtain ⟨R, hR⟩ : ∃ R, (S + T + N * tot (ru b) M) % 65521 = R := ⟨_, rfl⟩
    rw [hR] at hs
    have HR := Lib.hid hR
    clear hR
    have F4 := Lib.hid (to_sum hs (by omega))
    have F5 := Lib.hid (to_sum (l := a) (N := S) (by rw [hN]; exact hS) (by omega))
    have F6 := Lib.hid (to_sum (l := b) (N := T) (by rw [hM]; exact hT) (by omega))
    have g1 : ((K : Int) != (N : Int) + (M : Int)) = false := by simp; omega
    have HM := Lib.hid hM
    have hbl : b.length ≤ 300 := by omega
    clear hs hn hm hN hM hK hrs hab hk hS hT
    go_enter Try.func6, Try.ntmps6
    go_wp2_with (go_at_call 14; refine (F2.out _).mono ?_)
    rintro r w1 ⟨rfl, b1⟩
    go_wp2_with (go_at_call 14; rw [HCAT.out]; refine (F1.out _).mono ?_)
    rintro r w2 ⟨rfl, b2⟩
    go_wp2_with (go_at_call 14; refine (F3.out _).mono ?_)
    rintro r w3 ⟨rfl, b3⟩
    go_wp2_with (go_at_call 18; refine (F5.out _).mono ?_)
    rintro r w4 ⟨rfl, b4⟩
    go_wp2_with (go_at_call 18; refine (F6.out _).mono ?_)
    rintro r w5 ⟨rfl, b5⟩
    have bb := two (two (two (two b1 b2) b3) b4) b5
    clear b1 b2 b3 b4 b5 g1 e1
    go_wp2_with fail
    have it0 := iter_start w5 b
    have ib0 := bb.trans ((iter_below w5 b).mono bb.size)
    generalize hw6 : w5.iter ⟨⟨b⟩⟩ 0 = w6 at *
    clear hw6
    have hwg : w.heap.size ≤ w5.heap.size := bb.size
    clear bb
    generalize w5.heap.size = g at *
    go_loopw [6] (fun n wr => ∃ j U : Nat, n = .int .i64 U ∧ j ≤ M ∧ U ≤ 131042 + 340000000 * j ∧ Hid (U = S + T + N * tot (ru b) j) ∧ wr.heap[g]? = some (.stringIter ⟨⟨b⟩⟩ (wid b j)) ∧ Below w.heap.size w wr) (fun _ wr => b.length - wr.iterPos g)
    case atStart => exact ⟨0, S + T, by simp, Nat.zero_le _, by omega, Lib.hid rfl, it0, ib0⟩
    case round =>
      clear it0 ib0
      obtain ⟨j, U, rfl, hj, hU, HU, hit, hb⟩ := hrel
      have hip := Lib.hid (iter_pos hit)
      rcases next_rune b j wr g hit (by rw [HM.out]; exact hj) with ⟨c, hlt, hc, hcm, hw1, hw2, hnx, hit2⟩ | ⟨hend, hw, hnx⟩
      · rw [HM.out] at hlt
        have hb2 := Lib.below_iterAt hb (k := g) hwg ⟨⟨b⟩⟩ (wid b (j + 1))
        have HIP2 := Lib.hid (iter_pos hit2)
        have HW := Lib.hid (And.intro hw1 hw2)
        have HIT := Lib.hid hit2
        have HB2 := Lib.hid hb2
        have HC := Lib.hid (getD_of hc)
        have hX : N * c ≤ 300 * 1114111 := Nat.mul_le_mul hN5 hcm
        obtain ⟨X, hX2⟩ : ∃ X, N * c = X := ⟨_, rfl⟩
        have HX := Lib.hid hX2
        rw [hX2] at hX
        have e2 : IntKind.i64.wrap ((N : Int) * (c : Int)) = (X : Int) := by
          rw [← Int.natCast_mul, hX2]
          exact wrap_small _ (by omega) (by omega)
        clear hc hw1 hw2 hit hit2 hb2 hX2
        go_wp2_with fail
        go_roundw
        case rel => exact ⟨j + 1, U + X, by simp, by omega, by omega, Lib.hid (by
          show _ = S + T + N * (tot (ru b) j + (ru b).getD j 0)
          rw [HC.out, Nat.mul_add, HX.out, HU.out]
          omega), HIT.out, HB2.out⟩
        case measure =>
          rw [HIP2.out, hip.out]
          have := HW.out
          omega
      · rw [HM.out] at hend
        obtain rfl : M = j := hend.symm
        have HB := Lib.hid hb
        have g2 : ((R : Int) == (U : Int) % 65521) = true := by
          have h1 := HR.out
          rw [← HU.out] at h1
          simp
          omega
        clear hit hb hend
        go_wp2_with (go_at_call 18; rw [HCAT.out]; refine (F4.out _).mono ?_)
        rintro r w7 ⟨rfl, b7⟩
        go_wp2_with (go_at_call 9; refine (awake_any _).mono ?_)
        rintro r w8 ⟨rfl, b8⟩
        go_wp2_with fail
        go_ret
        exact ⟨rfl, two (two HB.out b7) b8⟩
  · have g1 : ((K : Int) != (N : Int) + (M : Int)) = true := by simp; omega
    clear hn hm hN hM hK hab hk
    go_enter Try.func6, Try.ntmps6
    go_wp2_with (go_at_call 14; refine (F2.out _).mono ?_)
    rintro r w1 ⟨rfl, b1⟩
    go_wp2_with (go_at_call 14; rw [HCAT.out]; refine (F1.out _).mono ?_)
    rintro r w2 ⟨rfl, b2⟩
    go_wp2_with (go_at_call 14; refine (F3.out _).mono ?_)
    rintro r w3 ⟨rfl, b3⟩
    go_wp2_with (go_at_call 9; refine (awake_any _).mono ?_)
    rintro r w4 ⟨rfl, b4⟩
    go_wp2_with fail
    go_ret
    exact ⟨rfl, two (two (two b1 b2) b3) b4⟩

theorem walk (H : Type) (enc : TypeId × Value → H) : Walk H enc Try.prog 6 Try.f6 := by
  intro W base args ds p hval hA
  rw [Try.params6] at hA hval
  obtain ⟨v0, v1, d0, d1, p0, p1, rfl, rfl, rfl, h0, h1⟩ := trodAll_two hA
  obtain ⟨⟨⟨a⟩⟩, rfl⟩ := okWide_string Try.underlying9 (hval 0 _ v0 rfl rfl)
  obtain ⟨⟨⟨b⟩⟩, rfl⟩ := okWide_string Try.underlying9 (hval 1 _ v1 rfl rfl)
  exact body a b W

set_option maxRecDepth 100000 in
theorem lifted (os : Os) (started : os.Started) (H : Type) (enc : TypeId × Value → H) :
    ReturnsInHanded {} Try.checked os 6 .any (Rows.labelSumsSpec.pre6 enc Try.prog Try.f6 Rows.labelSumsRow.domain false) (Rows.labelSumsSpec.post enc Try.prog Try.f6 false true false false) :=
  returnsInHanded_of_change (C := Try.checked) own started (by kernel_rfl) Try.func6
    (ChangeSpec.witness6 (enc := enc) (C := Try.checked) false ⟨#[], #[.string ⟨#[]⟩, .string ⟨#[]⟩], []⟩ 8 (by kernel_rfl) (by kernel_rfl) (by kernel_rfl) (by kernel_rfl))
    fun W base args ds gs before hval hW _ _ => step_of_walk laidOut (by rw [Try.params6]; exact of_decide_eq_true (by kernel_rfl)) (by kernel_rfl) Try.underlying4 rfl
      (fun ds h => by
        rw [Try.params6] at h
        match ds, h with
        | [_, _], _ => rfl) (walk H enc) W base args ds gs before hval hW

theorem holds : Rows.LabelSumsSaid :=
  OpenClaim.holds_of_wide 6 Try.f6 rfl rfl rfl rfl rfl rfl rfl ⟨rfl, rfl, rfl, rfl, rfl⟩ rfl rfl rfl rfl rfl (by kernel_rfl) Try.func6 (by kernel_rfl)
    (of_decide_eq_true (by kernel_rfl)) (by unfold Func.isWrapper; first | (rw [if_pos (by decide +kernel)]; kernel_rfl) | (rw [if_neg (by decide +kernel)]; exact ⟨rfl, rfl⟩))
    (fun os started H enc _ => lifted os started H enc)
#print axioms holds
end Go.Proofs.Ytafhekgfanpijaa.LabelSums
