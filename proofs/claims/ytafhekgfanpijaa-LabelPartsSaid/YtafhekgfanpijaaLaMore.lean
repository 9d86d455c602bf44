/-
  Package label (chapter 1): May, Sum, Cut, and how many bytes a rune has.
-/
import Derived.Test.YtafhekgfanpijaaLaWalks
set_option maxRecDepth 100000
namespace Go.Proofs.Ytafhekgfanpijaa.La
set_option linter.unusedVariables false
open Go.RowKit Lb Go.Shelf
set_option linter.unusedVariables false

theorem runeLen_any (c : Nat) (w : World) (hv : validRune (c : Int) = true) : Calls Try.prog 29 #[.int .i32 c] w fun r w' => r = .returned (.int .i64 (Lib.encodeRune (c : Int)).length) ∧ w = w' := by
  rw [enc_len hv]
  have hc := valid_cases hv
  clear hv
  have fin : ∀ (b : Nat), (if c < 128 then 1 else if c < 2048 then 2 else if c < 65536 then 3 else 4) = b → Calls Try.prog 29 #[.int .i32 c] w (fun r w' => r = .returned (.int .i64 b) ∧ w = w') → Calls Try.prog 29 #[.int .i32 c] w fun r w' => r = .returned (.int .i64 ((if c < 128 then 1 else if c < 2048 then 2 else if c < 65536 then 3 else 4 : Nat) : Nat)) ∧ w = w' := fun b h k => h ▸ k
  obtain ⟨x, hx⟩ : ∃ x : Int, (c : Int) = x := ⟨_, rfl⟩
  have h0 : decide (x < 0) = false := by simp; omega
  by_cases h1 : c < 128
  · refine fin 1 (by rw [if_pos h1]) ?_
    rw [hx]
    have h2 : x ≤ 127 := by omega
    clear hc fin
    go_enter Try.func29, Try.ntmps29
    go_wp2_with fail
    go_ret
    exact ⟨rfl, rfl⟩
  have g1 : decide (x ≤ 127) = false := by simp; omega
  by_cases h2 : c < 2048
  · refine fin 2 (by rw [if_neg h1, if_pos h2]) ?_
    rw [hx]
    have h3 : x ≤ 2047 := by omega
    clear hc fin
    go_enter Try.func29, Try.ntmps29
    go_wp2_with fail
    go_ret
    exact ⟨rfl, rfl⟩
  have g2 : decide (x ≤ 2047) = false := by simp; omega
  by_cases h3 : c < 65536
  · refine fin 3 (by rw [if_neg h1, if_neg h2, if_pos h3]) ?_
    rw [hx]
    have h4 : x ≤ 65535 := by omega
    by_cases h5 : x < 55296
    · have g5 : decide (55296 ≤ x) = false := by simp; omega
      clear hc fin
      go_enter Try.func29, Try.ntmps29
      go_wp2_with fail
      go_ret
      exact ⟨rfl, rfl⟩
    · have g5 : 55296 ≤ x := by omega
      have g6 : decide (x ≤ 57343) = false := by simp; omega
      clear hc fin
      go_enter Try.func29, Try.ntmps29
      go_wp2_with fail
      go_ret
      exact ⟨rfl, rfl⟩
  · refine fin 4 (by rw [if_neg h1, if_neg h2, if_neg h3]) ?_
    rw [hx]
    have g5 : 55296 ≤ x := by omega
    have g6 : decide (x ≤ 57343) = false := by simp; omega
    have g7 : decide (x ≤ 65535) = false := by simp; omega
    have g8 : x ≤ 1114111 := by omega
    clear hc fin
    go_enter Try.func29, Try.ntmps29
    go_wp2_with fail
    go_ret
    exact ⟨rfl, rfl⟩

/-- May a name be made of these runes? -/
def okAt (q : List Nat) (i : Nat) : Bool := smallB (q.getD i 0 : Nat) || (decide (0 < i) && digitB (q.getD i 0 : Nat))
def OkTo (q : List Nat) (k : Nat) : Prop := ∀ i, i < k → okAt q i = true
instance (q : List Nat) (k : Nat) : Decidable (OkTo q k) := by unfold OkTo; infer_instance
def mayL (q : List Nat) : Bool := decide (1 ≤ q.length ∧ q.length ≤ 16 ∧ OkTo q q.length)
theorem mayL_yes {q : List Nat} (h : 1 ≤ q.length) (h2 : q.length ≤ 16) (h3 : OkTo q q.length) : mayL q = true := by unfold mayL; rw [decide_eq_true_eq]; exact ⟨h, h2, h3⟩
theorem mayL_no {q : List Nat} (h : ¬ (1 ≤ q.length ∧ q.length ≤ 16 ∧ OkTo q q.length)) : mayL q = false := by unfold mayL; rw [decide_eq_false_iff_not]; exact h
theorem ok_succ {q : List Nat} {k : Nat} (h : OkTo q k) (h2 : okAt q k = true) : OkTo q (k + 1) := fun i hi => by
  by_cases e : i = k
  · rw [e]; exact h2
  · exact h i (by omega)
theorem getD_of {q : List Nat} {j c : Nat} (h : q[j]? = some c) : q.getD j 0 = c := by
  rw [List.getD_eq_getElem?_getD, h]; rfl

theorem may_any (l : List UInt8) (w : World) : Calls Try.prog 10 #[.string ⟨⟨l⟩⟩] w fun r w' => r = .returned (.bool (mayL (ru l))) ∧ Below w.heap.size w w' := by
  obtain ⟨N, hN⟩ : ∃ N, (ru l).length = N := ⟨_, rfl⟩
  have HN := Lib.hid hN
  clear hN
  go_enter Try.func10, Try.ntmps10
  go_wp2_with fail
  go_loopw [3] (fun n wr => ∃ j : Nat, n = .int .i64 j ∧ j ≤ N ∧ j ≤ 16 ∧ Hid (OkTo (ru l) j) ∧ wr.heap[w.heap.size]? = some (.stringIter ⟨⟨l⟩⟩ (wid l j)) ∧ Below w.heap.size w wr) (fun _ wr => l.length - wr.iterPos w.heap.size)
  case atStart => exact ⟨0, rfl, Nat.zero_le _, Nat.zero_le _, Lib.hid (fun i hi => absurd hi (Nat.not_lt_zero i)), iter_start w l, iter_below w l⟩
  case round =>
    obtain ⟨j, rfl, hj, hj16, HO, hit, hb⟩ := hrel
    have hip := Lib.hid (iter_pos hit)
    rcases next_rune l j wr w.heap.size hit (by rw [HN.out]; exact hj) with ⟨c, hlt, hc, hcm, hw1, hw2, hnx, hit2⟩ | ⟨hend, hw, hnx⟩
    · rw [HN.out] at hlt
      have hb2 := Lib.below_iterAt hb (Nat.le_refl w.heap.size) ⟨⟨l⟩⟩ (wid l (j + 1))
      have HIP2 := Lib.hid (iter_pos hit2)
      have HW := Lib.hid (And.intro hw1 hw2)
      have HIT := Lib.hid hit2
      have HB2 := Lib.hid hb2
      have HC := Lib.hid (getD_of hc)
      clear hc hw1 hw2 hit hit2 hb2
      obtain ⟨s, hs⟩ : ∃ s, smallB (c : Int) = s := ⟨_, rfl⟩
      have HS := Lib.hid hs
      obtain ⟨d, hd⟩ : ∃ d, digitB (c : Int) = d := ⟨_, rfl⟩
      have HD := Lib.hid hd
      clear hs hd
      by_cases hok : okAt (ru l) j = true
      · have HO2 := Lib.hid (ok_succ HO.out hok)
        have hsd : s = true ∨ (s = false ∧ 0 < j ∧ d = true) := by
          unfold okAt at hok
          rw [HC.out, HS.out, HD.out] at hok
          cases s
          · simp at hok
            exact .inr ⟨rfl, hok.1, hok.2⟩
          · exact .inl rfl
        clear hok
        by_cases h16 : j + 1 ≤ 16
        · have g1 : decide ((16 : Int) < (j : Int) + 1) = false := by simp; omega
          rcases hsd with rfl | ⟨rfl, hj0, rfl⟩
          · go_wp2_with first | ((with_reducible refine (isSmall_any _ _).mono ?_); rintro r w' ⟨rfl, rfl⟩; rw [HS.out]) | ((with_reducible refine (isDigit_any _ _).mono ?_); rintro r w' ⟨rfl, rfl⟩; rw [HD.out])
            go_roundw
            case rel => exact ⟨j + 1, by simp, by omega, h16, HO2, HIT.out, HB2.out⟩
            case measure =>
              rw [HIP2.out, hip.out]
              have := HW.out
              omega
          · have g2 : ((j : Int) == 0) = false := by simp; omega
            have g3 : (j == 0) = false := by simp; omega
            go_wp2_with first | ((with_reducible refine (isSmall_any _ _).mono ?_); rintro r w' ⟨rfl, rfl⟩; rw [HS.out]) | ((with_reducible refine (isDigit_any _ _).mono ?_); rintro r w' ⟨rfl, rfl⟩; rw [HD.out])
            go_roundw
            case rel => exact ⟨j + 1, by simp, by omega, h16, HO2, HIT.out, HB2.out⟩
            case measure =>
              rw [HIP2.out, hip.out]
              have := HW.out
              omega
        · have HM := Lib.hid (mayL_no (q := ru l) (fun h => by have := h.2.1; rw [HN.out] at this; omega))
          obtain rfl : j = 16 := by omega
          rcases hsd with rfl | ⟨rfl, hj0, rfl⟩
          · go_wp2_with first | ((with_reducible refine (isSmall_any _ _).mono ?_); rintro r w' ⟨rfl, rfl⟩; rw [HS.out]) | ((with_reducible refine (isDigit_any _ _).mono ?_); rintro r w' ⟨rfl, rfl⟩; rw [HD.out])
            go_ret
            exact ⟨by rw [HM.out]; rfl, HB2.out⟩
          · go_wp2_with first | ((with_reducible refine (isSmall_any _ _).mono ?_); rintro r w' ⟨rfl, rfl⟩; rw [HS.out]) | ((with_reducible refine (isDigit_any _ _).mono ?_); rintro r w' ⟨rfl, rfl⟩; rw [HD.out])
            go_ret
            exact ⟨by rw [HM.out]; rfl, HB2.out⟩
      · have HM := Lib.hid (mayL_no (q := ru l) (fun h => hok (h.2.2 j (by rw [HN.out]; exact hlt))))
        have hsd : s = false ∧ (j = 0 ∨ (0 < j ∧ d = false)) := by
          unfold okAt at hok
          rw [HC.out, HS.out, HD.out] at hok
          cases s
          · cases d
            · exact ⟨rfl, (Nat.eq_zero_or_pos j).imp id (fun h => ⟨h, rfl⟩)⟩
            · simp at hok
              exact ⟨rfl, .inl hok⟩
          · simp at hok
        clear hok
        rcases hsd with ⟨rfl, rfl | ⟨hj0, rfl⟩⟩
        · go_wp2_with first | ((with_reducible refine (isSmall_any _ _).mono ?_); rintro r w' ⟨rfl, rfl⟩; rw [HS.out]) | ((with_reducible refine (isDigit_any _ _).mono ?_); rintro r w' ⟨rfl, rfl⟩; rw [HD.out])
          go_ret
          exact ⟨by rw [HM.out]; rfl, HB2.out⟩
        · have g2 : ((j : Int) == 0) = false := by simp; omega
          have g3 : (j == 0) = false := by simp; omega
          go_wp2_with first | ((with_reducible refine (isSmall_any _ _).mono ?_); rintro r w' ⟨rfl, rfl⟩; rw [HS.out]) | ((with_reducible refine (isDigit_any _ _).mono ?_); rintro r w' ⟨rfl, rfl⟩; rw [HD.out])
          go_ret
          exact ⟨by rw [HM.out]; rfl, HB2.out⟩
    · rw [HN.out] at hend
      subst hend
      have HB := Lib.hid hb
      clear hit hb
      by_cases h0 : 0 < j
      · have HM := Lib.hid (mayL_yes (q := ru l) (by rw [HN.out]; omega) (by rw [HN.out]; exact hj16) (by rw [HN.out]; exact HO.out))
        go_wp2_with fail
        go_ret
        exact ⟨by rw [HM.out]; simp [h0], HB.out⟩
      · have HM := Lib.hid (mayL_no (q := ru l) (fun h => by have := h.1; rw [HN.out] at this; omega))
        obtain rfl : j = 0 := by omega
        go_wp2_with fail
        go_ret
        exact ⟨by rw [HM.out]; rfl, HB.out⟩

/-- The runes, each times its place, added. -/
def sumJ (q : List Nat) : Nat → Nat
  | 0 => 0
  | j + 1 => (sumJ q j + q.getD j 0 * (j + 1)) % 65521
theorem sumJ_lt (q : List Nat) (j : Nat) : sumJ q j < 65521 := by
  cases j with
  | zero => exact Nat.zero_lt_succ _
  | succ j => exact Nat.mod_lt _ (by decide)
theorem sum_any (l : List UInt8) (w : World) (hl : l.length ≤ 1048576) : Calls Try.prog 18 #[.string ⟨⟨l⟩⟩] w fun r w' => r = .returned (.int .i64 (sumJ (ru l) (ru l).length)) ∧ Below w.heap.size w w' := by
  have hle : (ru l).length ≤ l.length := by rw [ru_len]; exact rs_le l
  obtain ⟨N, hN⟩ : ∃ N, (ru l).length = N := ⟨_, rfl⟩
  have HN := Lib.hid hN
  rw [hN] at hle ⊢
  clear hN
  go_enter Try.func18, Try.ntmps18
  go_wp2_with fail
  go_loopw [3, 4] (fun s p wr => ∃ j S : Nat, s = .int .i64 S ∧ p = .int .i64 j ∧ j ≤ N ∧ S < 65521 ∧ Hid (sumJ (ru l) j = S) ∧ wr.heap[w.heap.size]? = some (.stringIter ⟨⟨l⟩⟩ (wid l j)) ∧ Below w.heap.size w wr) (fun _ _ wr => l.length - wr.iterPos w.heap.size)
  case atStart => exact ⟨0, 0, rfl, rfl, Nat.zero_le _, Nat.zero_lt_succ _, Lib.hid rfl, iter_start w l, iter_below w l⟩
  case round =>
    obtain ⟨j, S, rfl, rfl, hj, hS, HS, hit, hb⟩ := hrel
    have hip := Lib.hid (iter_pos hit)
    rcases next_rune l j wr w.heap.size hit (by rw [HN.out]; exact hj) with ⟨c, hlt, hc, hcm, hw1, hw2, hnx, hit2⟩ | ⟨hend, hw, hnx⟩
    · rw [HN.out] at hlt
      have hb2 := Lib.below_iterAt hb (Nat.le_refl w.heap.size) ⟨⟨l⟩⟩ (wid l (j + 1))
      have HIP2 := Lib.hid (iter_pos hit2)
      have HW := Lib.hid (And.intro hw1 hw2)
      have HIT := Lib.hid hit2
      have HB2 := Lib.hid hb2
      have HC := Lib.hid (getD_of hc)
      clear hc hw1 hw2 hit hit2 hb2
      have hm : c * (j + 1) ≤ 1114111 * 1048577 := Nat.mul_le_mul hcm (by omega)
      obtain ⟨M, hM⟩ : ∃ M, c * (j + 1) = M := ⟨_, rfl⟩
      have HM := Lib.hid hM
      rw [hM] at hm
      have e1 : IntKind.i64.wrap ((c : Int) * ((j : Int) + 1)) = (M : Int) := by
        have : ((c : Int) * ((j : Int) + 1)) = (M : Int) := by rw [← hM]; simp
        rw [this]
        exact wrap_small _ (by omega) (by omega)
      clear hM
      go_wp2_with fail
      go_roundw
      case rel => exact ⟨j + 1, (S + M) % 65521, by simp, by simp, by omega, Nat.mod_lt _ (by decide), Lib.hid (by show (sumJ (ru l) j + (ru l).getD j 0 * (j + 1)) % 65521 = _; rw [HS.out, HC.out, HM.out]), HIT.out, HB2.out⟩
      case measure =>
        rw [HIP2.out, hip.out]
        have := HW.out
        omega
    · rw [HN.out] at hend
      subst hend
      clear hit
      go_wp2_with fail
      go_ret
      exact ⟨by rw [HS.out]; rfl, hb⟩

/-- The bytes of the first n runes. -/
def cutB (l : List UInt8) (n : Int) : List UInt8 := l.take (wid l n.toNat)
theorem cut_none {l : List UInt8} {n : Int} (h : n ≤ 0) : cutB l n = [] := by
  unfold cutB
  rw [show n.toNat = 0 by omega, wid_zero, List.take_zero]
theorem cut_all {l : List UInt8} {n : Int} {N : Nat} (hN : (ru l).length = N) (h : (N : Int) ≤ n) : cutB l n = l := by
  unfold cutB
  rw [wid_big l n.toNat (by rw [← ru_len, hN]; omega), List.take_length]
theorem cut_len (l : List UInt8) (n : Int) : (cutB l n).length ≤ l.length := by
  unfold cutB
  rw [List.length_take]
  exact Nat.min_le_right _ _
theorem ext_take (l : List UInt8) (k : Nat) : (ByteArray.mk ⟨l⟩).extract 0 k = ⟨⟨l.take k⟩⟩ := by
  apply ByteArray.ext
  rw [ByteArray.data_extract]
  apply Array.ext'
  rw [Array.toList_extract]
  simp
theorem clone_any (l : List UInt8) (w : World) (hl : l.length ≤ 1048576) : Calls Try.prog 33 #[.string ⟨⟨l⟩⟩] w fun r w' => r = .returned (.string ⟨⟨l⟩⟩) ∧ Below w.heap.size w w' :=
  AnyPu.stringslite_Clone Try.laysClone ⟨⟨l⟩⟩ w (by show l.length ≤ _; omega)
theorem sclone_any (l : List UInt8) (w : World) (hl : l.length ≤ 1048576) : Calls Try.prog 28 #[.string ⟨⟨l⟩⟩] w fun r w' => r = .returned (.string ⟨⟨l⟩⟩) ∧ Below w.heap.size w w' := by
  go_enter Try.func28, Try.ntmps28
  go_wp2_with (go_at_call 33; refine (clone_any l _ hl).mono ?_)
  rintro r w1 ⟨rfl, hb1⟩
  go_wp2_with fail
  go_ret
  exact ⟨rfl, hb1⟩
theorem cut_any (l : List UInt8) (n : Int) (w : World) (hl : l.length ≤ 1048576) (h0 : -9223372036854775808 ≤ n) (h1 : n ≤ 9223372036854775807) : Calls Try.prog 16 #[.string ⟨⟨l⟩⟩, .int .i64 n] w fun r w' => r = .returned (.string ⟨⟨cutB l n⟩⟩) ∧ Below w.heap.size w w' := by
  obtain ⟨C, hC⟩ : ∃ C, cutB l n = C := ⟨_, rfl⟩
  have HC := Lib.hid hC
  rw [hC]
  clear hC
  by_cases hn : n ≤ 0
  · obtain rfl : C = [] := by rw [← HC.out, cut_none hn]
    go_enter Try.func16, Try.ntmps16
    go_wp2_with fail
    go_ret
    exact ⟨rfl, Below.refl _ _⟩
  obtain ⟨N, hN⟩ : ∃ N, (ru l).length = N := ⟨_, rfl⟩
  have HN := Lib.hid hN
  clear hN
  obtain ⟨m, rfl⟩ : ∃ m : Nat, n = (m : Int) := ⟨n.toNat, by omega⟩
  have hn0 : decide ((m : Int) ≤ 0) = false := by simp; omega
  have hn1 : decide (m ≤ 0) = false := by simp; omega
  have hn2 : decide (m = 0) = false := by simp; omega
  have hn3 : 0 < m := by omega
  clear hn
  go_enter Try.func16, Try.ntmps16
  go_wp2_with fail
  clear hn0 hn1 hn2
  go_loopw [1] (fun i wr => ∃ d j : Nat, i = .int .i64 d ∧ d + j = m ∧ j ≤ N ∧ wr.heap[w.heap.size]? = some (.stringIter ⟨⟨l⟩⟩ (wid l j)) ∧ Below w.heap.size w wr) (fun _ wr => l.length - wr.iterPos w.heap.size)
  case atStart => exact ⟨m, 0, rfl, rfl, Nat.zero_le _, iter_start w l, iter_below w l⟩
  case round =>
    obtain ⟨d, j, rfl, hdj, hj, hit, hb⟩ := hrel
    have hip := Lib.hid (iter_pos hit)
    rcases next_rune l j wr w.heap.size hit (by rw [HN.out]; exact hj) with ⟨c, hlt, hc, hcm, hw1, hw2, hnx, hit2⟩ | ⟨hend, hw, hnx⟩
    · rw [HN.out] at hlt
      have hb2 := Lib.below_iterAt hb (Nat.le_refl w.heap.size) ⟨⟨l⟩⟩ (wid l (j + 1))
      have HIP2 := Lib.hid (iter_pos hit2)
      have HW := Lib.hid (And.intro hw1 hw2)
      have HIT := Lib.hid hit2
      have HB2 := Lib.hid hb2
      clear hc hit hit2 hb2
      generalize wr.iterAt w.heap.size ⟨⟨l⟩⟩ (wid l (j + 1)) = wn at *
      by_cases hd : d = 0
      · subst hd
        have hcut : C = l.take (wid l j) := by
          rw [← HC.out]
          unfold cutB
          rw [Int.toNat_natCast, ← hdj, Nat.zero_add]
        have hsl : (0 : Int) ≤ (wid l j : Nat) ∧ wid l j ≤ l.length := by omega
        generalize wid l j = p at *
        have HT := Lib.hid hcut
        have HL := Lib.hid (show (l.take p).length ≤ 1048576 by rw [List.length_take]; omega)
        clear hcut
        go_wp2_with (go_at_call 28; rw [ext_take]; refine (sclone_any _ _ HL.out).mono ?_)
        rintro r w1 ⟨rfl, hb1⟩
        go_wp2_with fail
        go_ret
        exact ⟨by rw [HT.out]; rfl, HB2.out.trans (hb1.mono HB2.out.size)⟩
      · have hd0 : ((d : Int) == 0) = false := by simp; omega
        have hd1 : (d == 0) = false := by simp; omega
        have hd2 : IntKind.i64.wrap ((d : Int) - 1) = ((d - 1 : Nat) : Int) := by rw [wrap_small _ (by omega) (by omega)]; omega
        go_wp2_with fail
        go_roundw
        case rel => exact ⟨d - 1, j + 1, by simp, by omega, by omega, HIT.out, HB2.out⟩
        case measure =>
          rw [HIP2.out, hip.out]
          have := HW.out
          omega
    · rw [HN.out] at hend
      subst hend
      obtain rfl : C = l := by rw [← HC.out, cut_all HN.out (by omega)]
      clear hit
      have hcl := Lib.hid hl
      go_wp2_with (go_at_call 28; refine (sclone_any _ _ hcl.out).mono ?_)
      rintro r w1 ⟨rfl, hb1⟩
      go_wp2_with fail
      go_ret
      exact ⟨rfl, hb.trans (hb1.mono hb.size)⟩
end Go.Proofs.Ytafhekgfanpijaa.La
