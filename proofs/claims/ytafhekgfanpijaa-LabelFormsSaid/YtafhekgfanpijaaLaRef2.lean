/-
  The reference's texts (chapter 1): cuts, sums, turning, names, small letters.
-/
import Derived.Test.YtafhekgfanpijaaLaRef
import Derived.Deep.CutBlock
set_option maxRecDepth 100000
namespace Go.Proofs.Ytafhekgfanpijaa.La
set_option linter.unusedVariables false
open Go.RowKit Lb Go.Shelf
set_option linter.unusedVariables false
set_option maxHeartbeats 1000000 in
theorem rcut_any (l : List UInt8) (n : Int) (w : World) (hl : l.length ≤ 1048576) (h0 : -9223372036854775808 ≤ n) (h1 : n ≤ 9223372036854775807) : Calls Try.prog 17 #[.string ⟨⟨l⟩⟩, .int .i64 n] w fun r w' => r = .returned (.string ⟨⟨cutB l n⟩⟩) ∧ Below w.heap.size w w' := by
  obtain ⟨C, hC⟩ : ∃ C, cutB l n = C := ⟨_, rfl⟩
  have HC := Lib.hid hC
  rw [hC]
  clear hC
  have hle : (ru l).length ≤ l.length := by rw [ru_len]; exact rs_le l
  obtain ⟨N, hN⟩ : ∃ N, (ru l).length = N := ⟨_, rfl⟩
  have HN := Lib.hid hN
  rw [hN] at hle
  clear hN
  go_enter Try.func17, Try.ntmps17
  go_wp2_with fail
  go_loopw [5] (fun i wr => ∃ j : Nat, i = .int .i64 j ∧ j ≤ n.toNat ∧ j ≤ N ∧ wr.heap[w.heap.size]? = some (.stringIter ⟨⟨l⟩⟩ (wid l j)) ∧ Below w.heap.size w wr) (fun _ wr => l.length - wr.iterPos w.heap.size)
  case atStart => exact ⟨0, rfl, Nat.zero_le _, Nat.zero_le _, iter_start w l, iter_below w l⟩
  case round =>
    obtain ⟨j, rfl, hjn, hj, hit, hb⟩ := hrel
    have hip := Lib.hid (iter_pos hit)
    rcases next_rune l j wr w.heap.size hit (by rw [HN.out]; exact hj) with ⟨c, hlt, hc, hcm, hw1, hw2, hnx, hit2⟩ | ⟨hend, hw, hnx⟩
    · rw [HN.out] at hlt
      have hb2 := Lib.below_iterAt hb (Nat.le_refl w.heap.size) ⟨⟨l⟩⟩ (wid l (j + 1))
      have HIP2 := Lib.hid (iter_pos hit2)
      have HW := Lib.hid (And.intro hw1 hw2)
      have HIT := Lib.hid hit2
      have HB2 := Lib.hid hb2
      clear hc hit hit2 hb2
      generalize wr.iterAt w.heap.size ⟨⟨l⟩⟩ (wid l (j + 1)) = wn at *
      by_cases hd : n ≤ (j : Int)
      · have hcut : C = l.take (wid l j) := by
          rw [← HC.out]
          unfold cutB
          rw [show n.toNat = j by omega]
        have hsl : (0 : Int) ≤ (wid l j : Nat) ∧ wid l j ≤ l.length := by omega
        generalize wid l j = p at *
        have hex := ext_take l p
        rw [← hcut] at hex
        have HX := Lib.hid hex
        clear hcut
        go_wp2_with fail
        go_ret
        exact ⟨by rw [← HX.out]; rfl, HB2.out⟩
      · have hd2 : decide (n ≤ (j : Int)) = false := by simp; omega
        have HJ := Lib.hid (show j + 1 ≤ n.toNat by omega)
        clear hd
        go_wp2_with fail
        go_roundw
        case rel => exact ⟨j + 1, by simp, HJ.out, by omega, HIT.out, HB2.out⟩
        case measure =>
          rw [HIP2.out, hip.out]
          have := HW.out
          omega
    · rw [HN.out] at hend
      obtain rfl : N = j := hend.symm
      clear hit
      by_cases hn : n ≤ 0
      · have HE := Lib.hid (show C = [] by rw [← HC.out, cut_none hn])
        go_wp2_with fail
        go_ret
        exact ⟨by rw [HE.out]; rfl, hb⟩
      · have HE := Lib.hid (show C = l by rw [← HC.out, cut_all HN.out (by omega)])
        have hn2 : decide (n ≤ 0) = false := by simp; omega
        clear hn
        go_wp2_with fail
        go_ret
        exact ⟨by rw [HE.out]; rfl, hb⟩

set_option maxHeartbeats 1000000 in
theorem rsum_any (l : List UInt8) (w : World) (hl : l.length ≤ 2000) : Calls Try.prog 19 #[.string ⟨⟨l⟩⟩] w fun r w' => r = .returned (.int .i64 (sumJ (ru l) (ru l).length)) ∧ Below w.heap.size w w' := by
  have hle : (ru l).length ≤ l.length := by rw [ru_len]; exact rs_le l
  have HR := Lib.hid (runes_any l w (by omega))
  have HV := Lib.hid (ru_valid l)
  obtain ⟨q, hq⟩ : ∃ q, ru l = q := ⟨_, rfl⟩
  rw [hq] at hle HR HV ⊢
  clear hq
  obtain ⟨N, hN⟩ : ∃ N, q.length = N := ⟨_, rfl⟩
  have HN := Lib.hid hN
  rw [hN] at hle HR ⊢
  clear hN
  go_enter Try.func19, Try.ntmps19
  go_wp2_with (go_at_call 15; refine HR.out.mono ?_)
  rintro r w1 ⟨v, rfl, hv, hb⟩
  obtain ⟨a, c, rfl, hnc, hcm, hR⟩ := hv.row
  clear hv
  go_wp2_with fail
  go_loopw [3, 9] (fun s i wr => ∃ k S : Nat, s = .int .i64 S ∧ i = .int .i64 k ∧ k ≤ N ∧ S < 65521 ∧ Hid (sumJ q k = S) ∧ w1 = wr) (fun _ i _ => N - (intOf i).toNat)
  case atStart => exact ⟨0, 0, rfl, rfl, Nat.zero_le _, Nat.zero_lt_succ _, Lib.hid rfl, rfl⟩
  case round =>
    obtain ⟨k, S, rfl, rfl, hk, hS, HS, rfl⟩ := hrel
    by_cases hlt : k < N
    · obtain ⟨b, off, rfl, hbl, c0⟩ := hR.at_ hlt
      have hlq : k < q.length := by rw [HN.out]; exact hlt
      have hc : q[k]? = some (q[k]'hlq) := List.getElem?_eq_getElem hlq
      obtain ⟨c', hcc⟩ : ∃ c', q[k]'hlq = c' := ⟨_, rfl⟩
      rw [hcc] at hc
      have hvc := HV.out c' (List.mem_of_getElem? hc)
      have hcm : c' ≤ 1114111 := by
        unfold validRune at hvc
        rw [decide_eq_true_eq] at hvc
        omega
      unfold rv at c0
      rw [getD_of hc] at c0
      have HC := Lib.hid (getD_of hc)
      have hm : c' * (k + 1) ≤ 1114111 * 2001 := Nat.mul_le_mul hcm (by omega)
      obtain ⟨M, hM⟩ : ∃ M, c' * (k + 1) = M := ⟨_, rfl⟩
      have HM := Lib.hid hM
      rw [hM] at hm
      have e1 : IntKind.i64.wrap ((c' : Int) * ((k : Int) + 1)) = (M : Int) := by
        have : ((c' : Int) * ((k : Int) + 1)) = (M : Int) := by rw [← hM]; simp
        rw [this]
        exact wrap_small _ (by omega) (by omega)
      have e2 : (k : Int) % 65521 = (k : Int) := by omega
      have e3 : k % 65521 = k := by omega
      clear hM hc hcc hvc
      go_wp2_with fail
      go_roundw
      case rel => exact ⟨k + 1, (S + M) % 65521, by simp, by simp, by omega, Nat.mod_lt _ (by decide), Lib.hid (by show (sumJ q k + q.getD k 0 * (k + 1)) % 65521 = _; rw [HS.out, HC.out, HM.out]), trivial⟩
      case measure => simp [intOf]; omega
    · obtain rfl : N = k := by omega
      go_wp2_with fail
      go_ret
      exact ⟨by rw [HS.out]; rfl, hb⟩

set_option maxHeartbeats 2000000 in
theorem rturn_any (l : List UInt8) (w : World) (hl : l.length ≤ 2000) : Calls Try.prog 21 #[.string ⟨⟨l⟩⟩] w fun r w' => r = .returned (.string ⟨⟨turnB l⟩⟩) ∧ Below w.heap.size w w' := by
  obtain ⟨i0, hi0, hz0, hz1, hz2⟩ := info_parts infoR
  have hle : (ru l).length ≤ l.length := by rw [ru_len]; exact rs_le l
  have HR := Lib.hid (runes_any l w (by omega))
  have HV := Lib.hid (ru_valid l)
  have HU := Lib.hid (show turnB l = enc (ru l).reverse from rfl)
  obtain ⟨q, hq⟩ : ∃ q, ru l = q := ⟨_, rfl⟩
  rw [hq] at hle HR HV HU
  clear hq
  obtain ⟨N, hN⟩ : ∃ N, q.length = N := ⟨_, rfl⟩
  have HN := Lib.hid hN
  have HRL := Lib.hid (show q.reverse.length = N by rw [List.length_reverse, hN])
  rw [hN] at hle HR
  clear hN
  have HM := Lib.hid (show 2001 ≤ maxLen by unfold maxLen; omega)
  go_enter Try.func21, Try.ntmps21
  go_wp2_with (go_at_call 15; refine HR.out.mono ?_)
  rintro r w1 ⟨v, rfl, hv, hb⟩
  obtain ⟨a, c, rfl, hnc, hcm, hR⟩ := hv.row
  clear hv
  go_wp2_with fail
  go_loopw [4, 5] (fun u i wr => ∃ (j : Nat) (v : Value), u = v ∧ i = .int .i64 ((N : Int) - 1 - (j : Int)) ∧ j ≤ N ∧ Mine wr w1.heap.size 21 v j (rv q.reverse) ∧ Below w1.heap.size w1 wr) (fun _ i _ => (intOf i + 1).toNat)
  case atStart => exact ⟨0, _, rfl, by simp, Nat.zero_le _, Mine.nil _ _ _ _, Below.refl _ _⟩
  case round =>
    obtain ⟨j, v, rfl, rfl, hj, hv, bb⟩ := hrel
    by_cases hlt : j < N
    · obtain ⟨m, hm⟩ : ∃ m : Nat, (N : Int) - 1 - (j : Int) = (m : Int) := ⟨N - 1 - j, by omega⟩
      have hmN : m < N := by omega
      obtain ⟨b, off, rfl, hbl, c0⟩ := (hR.below bb).at_ hmN
      unfold rv at c0
      obtain ⟨c', hcc⟩ : ∃ c', q.getD m 0 = c' := ⟨_, rfl⟩
      rw [hcc] at c0
      have HC := Lib.hid (show q.reverse.getD j 0 = c' by
        rw [← hcc, List.getD_eq_getElem?_getD, List.getD_eq_getElem?_getD, List.getElem?_reverse (by rw [HN.out]; exact hlt), HN.out, show N - 1 - j = m by omega])
      have hs := bb.size
      have Hm := Lib.hid (show j + 1 ≤ maxLen from Nat.le_trans (by omega) HM.out)
      have c1 : (wr.alloc (.cells #[.int .i32 (c' : Int)] 21)).cell? ⟨b, off + m, none⟩ = some (.int .i32 (c' : Int)) := by
        rw [← c0]
        exact ((Below.refl wr.heap.size wr).alloc (Nat.le_refl _) _).cell (p := ⟨b, off + m, none⟩) hbl
      rw [hm]
      have hm2 : IntKind.i64.wrap ((m : Int) - 1) = (m : Int) - 1 := IntWalk.i64_in _ (by omega)
      clear hcc
      go_wp2_with (at_builtin; go_must (refine wp_app rfl (.tmp 15) (.tmp 20) _ rfl w1.heap.size 21 i0 _ 4 Try.underlying26 hi0 hz0 hz1 hz2 rfl u4 j (rv q.reverse) rfl (hv.alloc _) _ 1 _ (fun _ => .int .i32 (c' : Int)) rfl (row_new _ _ _ _ (fun i hi => by obtain rfl : i = 0 := (by omega); rfl)) (fun _ _ => rfl) Hm.out ?c2 ?c3 ?_))
      case c2 => omega
      case c3 => simp; omega
      intro v' w2 hv3 hg
      have b2 : Below w1.heap.size w1 w2 := (bb.alloc hs _).grown hg (by simp; omega) (fun q hq => (hv.lt q hq).1)
      have hv4 := hv3.ext (U := rv q.reverse) (fun i hi => by
        by_cases h : i < j
        · simp only [h, if_true]
        · obtain rfl : i = j := by omega
          simp only [h, if_false]
          unfold rv
          rw [HC.out])
      clear hv hv3 c0 c1
      go_wp2_with fail
      go_roundw
      case rel => exact ⟨j + 1, _, rfl, by congr 1; omega, by omega, hv4, b2⟩
      case measure => simp [intOf]
    · obtain rfl : N = j := by omega
      obtain ⟨a2, c2, rfl, hn2, hc2, hR2⟩ := hv.row
      have hR3 : Row wr a2 q.reverse.length (rv q.reverse) := by rw [HRL.out]; exact hR2
      have ht := text_any a2 c2 q.reverse wr (by rw [HRL.out]; omega) (fun c hc => HV.out c (List.mem_reverse.1 hc)) hR3
      rw [HRL.out] at ht
      have HT := Lib.hid ht
      clear ht hv
      have hm2 : ((N : Int) - 1 - (N : Int)) = -1 := by omega
      rw [hm2]
      go_wp2_with (go_at_call 27; refine HT.out.mono ?_)
      rintro r w3 ⟨rfl, rfl⟩
      go_wp2_with fail
      go_ret
      exact ⟨by rw [HU.out]; rfl, hb.trans (bb.mono hb.size)⟩

set_option maxHeartbeats 4000000 in
theorem rmay_any (l : List UInt8) (w : World) (hl : l.length ≤ 2000) : Calls Try.prog 11 #[.string ⟨⟨l⟩⟩] w fun r w' => r = .returned (.bool (mayL (ru l))) ∧ Below w.heap.size w w' := by
  have hle : (ru l).length ≤ l.length := by rw [ru_len]; exact rs_le l
  have HR := Lib.hid (runes_any l w (by omega))
  obtain ⟨q, hq⟩ : ∃ q, ru l = q := ⟨_, rfl⟩
  rw [hq] at hle HR ⊢
  clear hq
  obtain ⟨N, hN⟩ : ∃ N, q.length = N := ⟨_, rfl⟩
  have HN := Lib.hid hN
  rw [hN] at hle HR
  clear hN
  by_cases h1 : N < 1
  · have HM := Lib.hid (mayL_no (q := q) (fun h => by have := h.1; rw [HN.out] at this; omega))
    have g1 : decide (N < 1) = true := by simp; omega
    have g2 : decide ((N : Int) < 1) = true := by simp; omega
    go_enter Try.func11, Try.ntmps11
    go_wp2_with (go_at_call 15; refine HR.out.mono ?_)
    rintro r w1 ⟨v, rfl, hv, hb⟩
    obtain ⟨a, c, rfl, hnc, hcm, hR⟩ := hv.row
    clear hv
    go_wp2_with fail
    go_ret
    exact ⟨by rw [HM.out]; rfl, hb⟩
  have g1 : decide (N < 1) = false := by simp; omega
  have g2 : decide ((N : Int) < 1) = false := by simp; omega
  by_cases h2 : 16 < N
  · have HM := Lib.hid (mayL_no (q := q) (fun h => by have := h.2.1; rw [HN.out] at this; omega))
    have g3 : decide (16 < N) = true := by simp; omega
    have g4 : decide ((16 : Int) < (N : Int)) = true := by simp; omega
    go_enter Try.func11, Try.ntmps11
    go_wp2_with (go_at_call 15; refine HR.out.mono ?_)
    rintro r w1 ⟨v, rfl, hv, hb⟩
    obtain ⟨a, c, rfl, hnc, hcm, hR⟩ := hv.row
    clear hv
    go_wp2_with fail
    go_ret
    exact ⟨by rw [HM.out]; rfl, hb⟩
  have g3 : decide (16 < N) = false := by simp; omega
  have g4 : decide ((16 : Int) < (N : Int)) = false := by simp; omega
  go_enter Try.func11, Try.ntmps11
  go_wp2_with (go_at_call 15; refine HR.out.mono ?_)
  rintro r w1 ⟨v, rfl, hv, hb⟩
  obtain ⟨a, c, rfl, hnc, hcm, hR⟩ := hv.row
  clear hv
  go_wp2_with fail
  clear g1 g2 g3 g4
  go_loopw [19] (fun i wr => ∃ k : Nat, i = .int .i64 k ∧ k ≤ N ∧ Hid (OkTo q k) ∧ w1 = wr) (fun i _ => N - (intOf i).toNat)
  case atStart => exact ⟨0, rfl, Nat.zero_le _, Lib.hid (fun i hi => absurd hi (Nat.not_lt_zero i)), rfl⟩
  case round =>
    obtain ⟨k, rfl, hk, HO, rfl⟩ := hrel
    by_cases hlt : k < N
    · obtain ⟨b, off, rfl, hbl, c0⟩ := hR.at_ hlt
      unfold rv at c0
      obtain ⟨x, hx⟩ : ∃ x : Int, ((q.getD k 0 : Nat) : Int) = x := ⟨_, rfl⟩
      rw [hx] at c0
      have HX := Lib.hid hx
      clear hx
      obtain ⟨t, ht⟩ : ∃ t, smallB x = t := ⟨_, rfl⟩
      have HT := Lib.hid ht
      clear ht
      go_upto_region 7 with (fail)
      go_cut [6] from 24 to 41 (fun s wz => s = .bool t ∧ w1 = wz)
      case first =>
        by_cases z0 : x < 97
        · obtain rfl : t = false := by rw [← HT.out, small_no (by omega)]
          have z1 : decide (97 ≤ x) = false := by simp; omega
          have z2 : decide (945 ≤ x) = false := by simp; omega
          go_wp2_with fail
          go_meet
          exact ⟨rfl, rfl⟩
        have y0 : 97 ≤ x := by omega
        by_cases z1 : x ≤ 122
        · obtain rfl : t = true := by rw [← HT.out, small_yes (by omega)]
          clear z0
          go_wp2_with fail
          go_meet
          exact ⟨rfl, rfl⟩
        have y1 : decide (x ≤ 122) = false := by simp; omega
        clear z0
        by_cases z2 : x < 945
        · obtain rfl : t = false := by rw [← HT.out, small_no (by omega)]
          have z3 : decide (945 ≤ x) = false := by simp; omega
          clear z1
          go_wp2_with fail
          go_meet
          exact ⟨rfl, rfl⟩
        have y2 : 945 ≤ x := by omega
        clear z2
        by_cases z3 : 969 < x
        · obtain rfl : t = false := by rw [← HT.out, small_no (by omega)]
          have z4 : decide (x ≤ 969) = false := by simp; omega
          clear z1
          go_wp2_with fail
          go_meet
          exact ⟨rfl, rfl⟩
        have y3 : x ≤ 969 := by omega
        clear z3 z1
        by_cases z4 : x = 962
        · obtain rfl : t = false := by rw [← HT.out, small_no (by omega)]
          have z5 : (x != 962) = false := by simp [z4]
          clear z4
          go_wp2_with fail
          go_meet
          exact ⟨rfl, rfl⟩
        · obtain rfl : t = true := by rw [← HT.out, small_yes (by omega)]
          have z5 : (x != 962) = true := by simp [z4]
          clear z4
          go_wp2_with fail
          go_meet
          exact ⟨rfl, rfl⟩
      case rest =>
        obtain ⟨rfl, rfl⟩ := hcut
        cases t
        · by_cases hd : 0 < k ∧ digitB x = true
          · have HO2 := Lib.hid (ok_succ HO.out (show okAt q k = true by unfold okAt; rw [HX.out, HT.out, decide_eq_true hd.1, hd.2]; rfl))
            have hd2 := hd.2
            unfold digitB at hd2
            rw [decide_eq_true_eq] at hd2
            have z1 : decide (0 < k) = true := by simp; omega
            have z2 : decide ((0 : Int) < (k : Int)) = true := by simp; omega
            have z3 : 48 ≤ x := hd2.1
            have z4 : x ≤ 57 := hd2.2
            clear hd hd2
            go_wp2_with fail
            go_roundw
            case rel => exact ⟨k + 1, by simp, by omega, HO2, trivial⟩
            case measure => simp [intOf]; omega
          · have HM := Lib.hid (mayL_no (q := q) (fun h => by
              have := h.2.2 k (by rw [HN.out]; exact hlt)
              unfold okAt at this
              rw [HX.out, HT.out] at this
              simp at this
              exact hd this))
            by_cases hk0 : 0 < k
            · have z1 : decide (0 < k) = true := by simp; omega
              have z2 : decide ((0 : Int) < (k : Int)) = true := by simp; omega
              have hdx : ¬ (48 ≤ x ∧ x ≤ 57) := fun h => hd ⟨hk0, by unfold digitB; rw [decide_eq_true_eq]; exact h⟩
              clear hd
              by_cases h48 : x < 48
              · have z3 : decide (48 ≤ x) = false := by simp; omega
                clear hdx
                go_wp2_with fail
                go_ret
                exact ⟨by rw [HM.out]; rfl, hb⟩
              · have z3 : 48 ≤ x := by omega
                have z4 : decide (x ≤ 57) = false := by simp; omega
                clear hdx h48
                go_wp2_with fail
                go_ret
                exact ⟨by rw [HM.out]; rfl, hb⟩
            · obtain rfl : k = 0 := by omega
              clear hd
              go_wp2_with fail
              go_ret
              exact ⟨by rw [HM.out]; rfl, hb⟩
        · have HO2 := Lib.hid (ok_succ HO.out (show okAt q k = true by unfold okAt; rw [HX.out, HT.out]; rfl))
          go_wp2_with fail
          go_roundw
          case rel => exact ⟨k + 1, by simp, by omega, HO2, trivial⟩
          case measure => simp [intOf]; omega
    · obtain rfl : N = k := by omega
      have HM := Lib.hid (mayL_yes (q := q) (by rw [HN.out]; omega) (by rw [HN.out]; omega) (by rw [HN.out]; exact HO.out))
      go_wp2_with fail
      go_ret
      exact ⟨by rw [HM.out]; rfl, hb⟩

theorem smV {c : Nat} (h : validRune (c : Int) = true) : validRune (smN c : Nat) = true := by
  unfold smN
  split
  · rename_i h2
    unfold bigB at h2
    rw [decide_eq_true_eq] at h2
    unfold validRune
    rw [decide_eq_true_eq]
    omega
  · exact h
theorem getD_map (q : List Nat) (k : Nat) (h : k < q.length) : (q.map smN).getD k 0 = smN (q.getD k 0) := by
  rw [List.getD_eq_getElem?_getD, List.getD_eq_getElem?_getD, List.getElem?_map, List.getElem?_eq_getElem h]
  rfl
set_option maxHeartbeats 4000000 in
theorem rnorm_any (l : List UInt8) (w : World) (hl : l.length ≤ 2000) : Calls Try.prog 13 #[.string ⟨⟨l⟩⟩] w fun r w' => r = .returned (.string ⟨⟨normB l⟩⟩) ∧ Below w.heap.size w w' := by
  have hle : (ru l).length ≤ l.length := by rw [ru_len]; exact rs_le l
  have HR := Lib.hid (runes_any l w (by omega))
  have HV := Lib.hid (ru_valid l)
  have HU := Lib.hid (show normB l = enc ((ru l).map smN) from rfl)
  obtain ⟨q, hq⟩ : ∃ q, ru l = q := ⟨_, rfl⟩
  rw [hq] at hle HR HV HU
  clear hq
  obtain ⟨N, hN⟩ : ∃ N, q.length = N := ⟨_, rfl⟩
  have HN := Lib.hid hN
  have HML := Lib.hid (show (q.map smN).length = N by rw [List.length_map, hN])
  rw [hN] at hle HR
  clear hN
  go_enter Try.func13, Try.ntmps13
  go_wp2_with (go_at_call 15; refine HR.out.mono ?_)
  rintro r w1 ⟨v, rfl, hv, hb⟩
  obtain ⟨a, c, rfl, hnc, hcm, hR⟩ := hv.row
  clear hR
  go_wp2_with fail
  go_loopw [10] (fun i wr => ∃ k : Nat, i = .int .i64 k ∧ k ≤ N ∧ Mine wr w.heap.size 21 (.slice a N c) N (fun i => if i < k then rv (q.map smN) i else rv q i) ∧ Below w.heap.size w wr) (fun i _ => N - (intOf i).toNat)
  case atStart => exact ⟨0, rfl, Nat.zero_le _, hv.ext (fun i hi => by rw [if_neg (by omega)]), hb⟩
  case round =>
    clear hv hb
    obtain ⟨k, rfl, hk, hm, hb⟩ := hrel
    by_cases hlt : k < N
    · obtain ⟨b, cs, e1, hbb, _, _, _, _⟩ := hm.block (by omega)
      injection e1 with e1 _ e3
      clear e3
      subst e1
      obtain ⟨_, _, c0, f0⟩ := hm.at_ hlt
      rw [if_neg (by omega)] at c0
      unfold rv at c0
      have hlq : k < q.length := by rw [HN.out]; exact hlt
      obtain ⟨n, hn⟩ : ∃ n, q.getD k 0 = n := ⟨_, rfl⟩
      rw [hn] at c0
      have HNk := Lib.hid hn
      have hnm : n ≤ 1114111 := by
        have := HV.out n (by rw [← hn, List.getD_eq_getElem?_getD, List.getElem?_eq_getElem hlq]; exact List.getElem_mem hlq)
        unfold validRune at this
        rw [decide_eq_true_eq] at this
        omega
      have HG := Lib.hid (getD_map q k hlq)
      clear hn
      obtain ⟨x, hx⟩ : ∃ x : Int, (n : Int) = x := ⟨_, rfl⟩
      rw [hx] at c0
      have HX := Lib.hid hx
      have hx0 : 0 ≤ x := by omega
      have hx1 : x ≤ 1114111 := by omega
      clear hx
      obtain ⟨t, ht⟩ : ∃ t, bigB x = t := ⟨_, rfl⟩
      have HT := Lib.hid ht
      clear ht
      go_upto_region 5 with (fail)
      go_cut [32] from 15 to 32 (fun s wz => s = .bool t ∧ wr = wz)
      case first =>
        by_cases z0 : x < 65
        · obtain rfl : t = false := by rw [← HT.out, big_no (by omega)]
          have z1 : decide (65 ≤ x) = false := by simp; omega
          have z2 : decide (913 ≤ x) = false := by simp; omega
          go_wp2_with fail
          go_meet
          exact ⟨rfl, rfl⟩
        have y0 : 65 ≤ x := by omega
        by_cases z1 : x ≤ 90
        · obtain rfl : t = true := by rw [← HT.out, big_yes (by omega)]
          clear z0
          go_wp2_with fail
          go_meet
          exact ⟨rfl, rfl⟩
        have y1 : decide (x ≤ 90) = false := by simp; omega
        clear z0
        by_cases z2 : x < 913
        · obtain rfl : t = false := by rw [← HT.out, big_no (by omega)]
          have z3 : decide (913 ≤ x) = false := by simp; omega
          clear z1
          go_wp2_with fail
          go_meet
          exact ⟨rfl, rfl⟩
        have y2 : 913 ≤ x := by omega
        clear z2
        by_cases z3 : 937 < x
        · obtain rfl : t = false := by rw [← HT.out, big_no (by omega)]
          have z4 : decide (x ≤ 937) = false := by simp; omega
          clear z1
          go_wp2_with fail
          go_meet
          exact ⟨rfl, rfl⟩
        have y3 : x ≤ 937 := by omega
        clear z3 z1
        by_cases z4 : x = 930
        · obtain rfl : t = false := by rw [← HT.out, big_no (by omega)]
          have z5 : (x != 930) = false := by simp [z4]
          clear z4
          go_wp2_with fail
          go_meet
          exact ⟨rfl, rfl⟩
        · obtain rfl : t = true := by rw [← HT.out, big_yes (by omega)]
          have z5 : (x != 930) = true := by simp [z4]
          clear z4
          go_wp2_with fail
          go_meet
          exact ⟨rfl, rfl⟩
      case rest =>
        obtain ⟨rfl, rfl⟩ := hcut
        cases t
        · have HSM := Lib.hid (show rv (q.map smN) k = rv q k by
            unfold rv
            rw [HG.out, HNk.out]
            unfold smN
            rw [HX.out, HT.out]
            show Value.int .i32 (n : Int) = _
            rw [HX.out])
          have hm2 := hm.ext (U := fun i => if i < k + 1 then rv (q.map smN) i else rv q i) (fun i hi => by
            by_cases h : i < k
            · rw [if_pos h, if_pos (by omega)]
            · by_cases h2 : i = k
              · subst h2
                rw [if_neg h, if_pos (by omega), HSM.out]
              · rw [if_neg h, if_neg (by omega)])
          clear hm c0 f0
          go_wp2_with fail
          go_roundw
          case rel => exact ⟨k + 1, by simp, by omega, hm2, hb⟩
          case measure => simp [intOf]; omega
        · have e1 : IntKind.i32.wrap (x + 32) = x + 32 := by
            have h1 : (x + 32) % 4294967296 = x + 32 := by omega
            unfold IntKind.wrap
            simp [IntKind.bits, IntKind.signed, h1]
            omega
          have HSM := Lib.hid (show rv (q.map smN) k = .int .i32 (x + 32) by
            unfold rv
            rw [HG.out, HNk.out]
            unfold smN
            rw [HX.out, HT.out, ← HX.out]
            rfl)
          have hm2 := (hm.store hlt (.int .i32 (x + 32))).ext (U := fun i => if i < k + 1 then rv (q.map smN) i else rv q i) (fun i hi => by
            by_cases h2 : i = k
            · subst h2
              rw [if_pos rfl, if_pos (by omega), HSM.out]
            · rw [if_neg h2]
              by_cases h : i < k
              · rw [if_pos h, if_pos (by omega)]
              · rw [if_neg h, if_neg (by omega)])
          have hb2 := ((Just.refl b wr).put k (.int .i32 (x + 32))).below hb hbb hb.size
          clear hm
          go_wp2_with fail
          go_roundw
          case rel => exact ⟨k + 1, by simp, by omega, hm2, hb2⟩
          case measure => simp [intOf]; omega
    · obtain rfl : N = k := by omega
      have hR := (hm.ext (U := rv (q.map smN)) (fun i hi => by rw [if_pos hi])).rowAt
      have hR3 : Row wr a (q.map smN).length (rv (q.map smN)) := by rw [HML.out]; exact hR
      have ht := text_any a c (q.map smN) wr (by rw [HML.out]; omega) (fun d hd => by
        obtain ⟨z, hz, rfl⟩ := List.mem_map.1 hd
        exact smV (HV.out z hz)) hR3
      rw [HML.out] at ht
      have HT := Lib.hid ht
      clear ht hm hR hR3
      go_wp2_with (go_at_call 27; refine HT.out.mono ?_)
      rintro r w3 ⟨rfl, rfl⟩
      go_wp2_with fail
      go_ret
      exact ⟨by rw [HU.out]; rfl, hb⟩
end Go.Proofs.Ytafhekgfanpijaa.La
