/-
  Package label (chapter 1): Turn: its runes are the text's, from the last one.
-/
import Derived.Test.YtafhekgfanpijaaLaTurn
set_option maxRecDepth 100000
namespace Go.Proofs.Ytafhekgfanpijaa.La
set_option linter.unusedVariables false
open Go.RowKit Lb Go.Shelf
set_option linter.unusedVariables false
theorem encR_le (c : Nat) : (Lib.encodeRune (c : Int)).length ≤ 4 ∧ 1 ≤ (Lib.encodeRune (c : Int)).length := by
  have h := Lib.encodeRuneZ_length (c : Int)
  unfold Lib.encodeRune
  rw [List.length_map]
  exact ⟨h.2, h.1⟩
theorem enc_snoc (q : List Nat) (c : Nat) : enc (q ++ [c]) = enc q ++ Lib.encodeRune (c : Int) := by
  rw [enc_app]
  show _ ++ (_ ++ []) = _
  rw [List.append_nil]
theorem take_snoc {q : List Nat} {j c : Nat} (h : q[j]? = some c) : q.take (j + 1) = q.take j ++ [c] := by
  rw [List.take_add_one, h]
  rfl
theorem enc_le : ∀ q : List Nat, (enc q).length ≤ 4 * q.length
  | [] => Nat.zero_le _
  | c :: q => by
    show (_ ++ enc q).length ≤ _
    rw [List.length_append, List.length_cons]
    have := (encR_le c).1
    have := enc_le q
    omega
theorem enc_rev_len : ∀ q : List Nat, (enc q.reverse).length = (enc q).length
  | [] => rfl
  | c :: q => by
    rw [List.reverse_cons, enc_snoc, List.length_append, enc_rev_len q]
    show _ = (_ ++ enc q).length
    rw [List.length_append]
    omega
def turnB (l : List UInt8) : List UInt8 := enc (ru l).reverse
theorem bt_left {a : List UInt8} {i : Nat} (b : List UInt8) (h : i < a.length) : bv (a ++ b) i = bv a i := by
  unfold bv
  rw [bt_app a b i h]
theorem bt_right {a : List UInt8} {i : Nat} (b : List UInt8) (h : a.length ≤ i) : bv (a ++ b) i = bv b (i - a.length) := by
  unfold bv bt
  rw [List.getD_eq_getElem?_getD, List.getD_eq_getElem?_getD, List.getElem?_append_right h]
theorem str_bt (l : List UInt8) : str (fun i => (bt l i : Int)) l.length = ⟨⟨l⟩⟩ := by
  have h := strOfNums_data ((List.range l.length).map (fun i => (bt l i : Int)))
  unfold str
  apply ByteArray.ext
  apply Array.ext'
  rw [h, List.map_map]
  apply List.ext_getElem
  · simp
  · intro i h1 h2
    simp only [List.getElem_map, List.getElem_range, Function.comp]
    have hb : bt l i = (l[i]'h2).toNat := by
      unfold bt
      rw [List.getD_eq_getElem?_getD, List.getElem?_eq_getElem h2]
      rfl
    rw [hb]
    simp

set_option maxHeartbeats 400000 in
theorem turn_any (l : List UInt8) (w : World) (hl : l.length ≤ 1048576) : Calls Try.prog 20 #[.string ⟨⟨l⟩⟩] w fun r w' => r = .returned (.string ⟨⟨turnB l⟩⟩) ∧ Below w.heap.size w w' := by
  have hle : (ru l).length ≤ l.length := by rw [ru_len]; exact rs_le l
  obtain ⟨q, hq⟩ : ∃ q, ru l = q := ⟨_, rfl⟩
  have HQ := Lib.hid hq
  rw [hq] at hle
  have HV := Lib.hid (ru_valid l)
  rw [hq] at HV
  clear hq
  obtain ⟨N, hN⟩ : ∃ N, q.length = N := ⟨_, rfl⟩
  have HN := Lib.hid hN
  rw [hN] at hle
  clear hN
  obtain ⟨T, hT⟩ : ∃ T, (enc q).length = T := ⟨_, rfl⟩
  have hT4 : T ≤ 4194304 := by
    have := enc_le q
    rw [hT, HN.out] at this
    omega
  have HT := Lib.hid hT
  clear hT
  have hall : ∀ j, j ≤ N → (enc (q.take j)).length ≤ T := fun j hj => by
    have h1 : enc q = enc (q.take j) ++ enc (q.drop j) := by rw [← enc_app, List.take_append_drop]
    have := congrArg List.length h1
    rw [HT.out, List.length_append] at this
    omega
  have HALL := Lib.hid hall
  clear hall
  obtain ⟨i0, hi0, hz0, hz1, hz2⟩ := info_parts info8
  go_enter Try.func20, Try.ntmps20
  go_wp2_with fail
  go_loopw [3] (fun n wr => ∃ j S : Nat, n = .int .i64 S ∧ j ≤ N ∧ S ≤ T ∧ Hid ((enc (q.take j)).length = S) ∧ wr.heap[w.heap.size]? = some (.stringIter ⟨⟨l⟩⟩ (wid l j)) ∧ Below w.heap.size w wr) (fun _ wr => l.length - wr.iterPos w.heap.size)
  case atStart => exact ⟨0, 0, rfl, Nat.zero_le _, Nat.zero_le _, Lib.hid rfl, iter_start w l, iter_below w l⟩
  case round =>
    obtain ⟨j, S, rfl, hj, hS, HS, hit, hb⟩ := hrel
    have hip := Lib.hid (iter_pos hit)
    rcases next_rune l j wr w.heap.size hit (by rw [HQ.out, HN.out]; exact hj) with ⟨c, hlt, hc, hcm, hw1, hw2, hnx, hit2⟩ | ⟨hend, hw, hnx⟩
    · rw [HQ.out, HN.out] at hlt
      rw [HQ.out] at hc
      have HC := Lib.hid (take_snoc hc)
      have HVC := Lib.hid (HV.out c (List.mem_of_getElem? hc))
      have hb2 := Lib.below_iterAt hb (Nat.le_refl w.heap.size) ⟨⟨l⟩⟩ (wid l (j + 1))
      have HIP2 := Lib.hid (iter_pos hit2)
      have HW := Lib.hid (And.intro hw1 hw2)
      have HIT := Lib.hid hit2
      have HB2 := Lib.hid hb2
      clear hc hw1 hw2 hit hit2 hb2
      obtain ⟨k, hk⟩ : ∃ k, (Lib.encodeRune (c : Int)).length = k := ⟨_, rfl⟩
      have hk4 := (encR_le c).1
      rw [hk] at hk4
      have HK := Lib.hid hk
      clear hk
      have HS2 := Lib.hid (show (enc (q.take (j + 1))).length = S + k by rw [HC.out, enc_snoc, List.length_append, HS.out, HK.out])
      have hS2 : S + k ≤ T := by rw [← HS2.out]; exact HALL.out (j + 1) hlt
      go_wp2_with ((with_reducible refine (runeLen_any _ _ HVC.out).mono ?_); rintro r w' ⟨rfl, rfl⟩; rw [HK.out])
      go_roundw
      case rel => exact ⟨j + 1, S + k, by simp, by omega, hS2, HS2, HIT.out, HB2.out⟩
      case measure =>
        rw [HIP2.out, hip.out]
        have := HW.out
        omega
    · rw [HQ.out, HN.out] at hend
      obtain rfl : N = j := hend.symm
      clear hit
      obtain rfl : S = T := by
        have := HS.out
        rw [List.take_of_length_le (by rw [HN.out]; exact Nat.le_refl _), HT.out] at this
        exact this.symm
      have hmk : ∀ w : World, (Instr.makeSlice 36 (.int .i64 (S : Int)) (.int .i64 (S : Int))).run Try.prog w = .ok (.slice (some ⟨w.heap.size, 0, none⟩) S S) (w.alloc (.cells (madeCells #[.int .u8 0] S) 5)) := by
        intro w
        have := run_make w 36 5 i0 (.int .u8 0) Try.underlying36 hi0 hz0 .i64 .i64 (S : Int) (S : Int) (by omega) (by omega) (by rw [hz2]; omega) (by omega)
        rw [this, hz1]
        simp [Value.cells]
      have HCS : Hid (madeCells #[Value.int .u8 0] S = (List.replicate S (Value.int .u8 0)).toArray) := Lib.hid (by
        apply Array.toList_inj.1
        simpa using toList_madeCells_one (Value.int .u8 0) S)
      go_wp2_with fail
      clear hmk hnx
      have o1 : Blk ((wr.alloc (.cells (madeCells #[.int .u8 0] S) 5)).iter ⟨⟨l⟩⟩ 0) wr.heap.size 5 S (fun i => if i < S then .int .u8 0 else bv [] (i - S)) := Blk.alloc (Blk.ext (Blk.same (Own.new _ _ _) HCS.out) (fun i hi => by rw [if_pos hi])) _
      have b1 : Below w.heap.size w ((wr.alloc (.cells (madeCells #[.int .u8 0] S) 5)).iter ⟨⟨l⟩⟩ 0) := (hb.alloc hb.size _).alloc (Nat.le_trans hb.size (by simp)) _
      have i1 : ((wr.alloc (.cells (madeCells #[.int .u8 0] S) 5)).iter ⟨⟨l⟩⟩ 0).heap[wr.heap.size + 1]? = some (.stringIter ⟨⟨l⟩⟩ (wid l 0)) := by
        have := World.iter_heap (wr.alloc (.cells (madeCells #[.int .u8 0] S) 5)) ⟨⟨l⟩⟩ 0
        simpa [wid_zero] using this
      generalize (wr.alloc (.cells (madeCells #[.int .u8 0] S) 5)).iter ⟨⟨l⟩⟩ 0 = w1 at *
      have hgw : w.heap.size ≤ wr.heap.size := hb.size
      generalize wr.heap.size = g at *
      clear HCS hb hip HS hj
      go_loopw [3] (fun n wx => ∃ (j R : Nat) (D : List UInt8), n = .int .i64 R ∧ j ≤ N ∧ R ≤ S ∧ R + D.length = S ∧ Hid (enc ((q.take j).reverse) = D) ∧ Blk wx g 5 S (fun i => if i < R then .int .u8 0 else bv D (i - R)) ∧ wx.heap[g + 1]? = some (.stringIter ⟨⟨l⟩⟩ (wid l j)) ∧ Below w.heap.size w wx) (fun _ wx => l.length - wx.iterPos (g + 1))
      case atStart => exact ⟨0, S, [], rfl, Nat.zero_le _, Nat.le_refl _, rfl, Lib.hid rfl, o1, i1, b1⟩
      case round =>
        clear o1 i1 b1
        obtain ⟨j, R, D, rfl, hj, hR, hD, HD, hB, hit, hb⟩ := hrel
        have hip := Lib.hid (iter_pos hit)
        rcases next_rune l j _ (g + 1) hit (by rw [HQ.out, HN.out]; exact hj) with ⟨c, hlt, hc, hcm, hw1, hw2, hnx, hit2⟩ | ⟨hend, hw, hnx⟩
        · rw [HQ.out, HN.out] at hlt
          rw [HQ.out] at hc
          have HC := Lib.hid (take_snoc hc)
          have HVC := Lib.hid (HV.out c (List.mem_of_getElem? hc))
          have hb2 := Lib.below_iterAt hb (k := g + 1) (by omega) ⟨⟨l⟩⟩ (wid l (j + 1))
          have hB2 : Blk (wr.iterAt (g + 1) ⟨⟨l⟩⟩ (wid l (j + 1))) g 5 S (fun i => if i < R then .int .u8 0 else bv D (i - R)) := (Lib.iterAt_other wr (g + 1) g ⟨⟨l⟩⟩ (wid l (j + 1)) (by omega)).trans hB
          have HIP2 := Lib.hid (iter_pos hit2)
          have HW := Lib.hid (And.intro hw1 hw2)
          have HIT := Lib.hid hit2
          have HB2 := Lib.hid hb2
          have HBL := Lib.hid hB2
          clear hc hw1 hw2 hit hit2 hb2 hB hB2
          generalize wr.iterAt (g + 1) ⟨⟨l⟩⟩ (wid l (j + 1)) = wn at *
          obtain ⟨E, hE⟩ : ∃ E, Lib.encodeRune (c : Int) = E := ⟨_, rfl⟩
          have hk4 := encR_le c
          have HE := Lib.hid hE
          have HD2 := Lib.hid (show enc ((q.take (j + 1)).reverse) = E ++ D by
            rw [HC.out, List.reverse_append]
            show enc (c :: (q.take j).reverse) = _
            show Lib.encodeRune (c : Int) ++ enc _ = _
            rw [HD.out, HE.out])
          rw [hE] at hk4
          clear hE
          obtain ⟨k, hk⟩ : ∃ k, E.length = k := ⟨_, rfl⟩
          have HK := Lib.hid hk
          rw [hk] at hk4
          clear hk
          have hkR : k ≤ R := by
            have h1 := HALL.out (j + 1) hlt
            rw [← enc_rev_len, HD2.out, List.length_append, HK.out] at h1
            omega
          obtain ⟨U, hU⟩ : ∃ U, R - k = U := ⟨_, rfl⟩
          have e1 : IntKind.i64.wrap ((R : Int) - (k : Int)) = (U : Int) := by rw [wrap_small _ (by omega) (by omega)]; omega
          have hUS : U ≤ S := by omega
          have hSU : ¬ S = U := by omega
          have HU := Lib.hid hU
          clear hU
          go_wp2_with first | ((with_reducible refine (runeLen_any _ _ HVC.out).mono ?_); rintro r w' ⟨rfl, rfl⟩; rw [HE.out, HK.out]) | (go_at_call 30; refine (encodeRune_any c HVC.out g U (S - U) (S - U) S _ wn HBL.out (by rw [HE.out, HK.out]; have := HU.out; omega) (by rw [HE.out, HK.out]; have := HU.out; omega)).mono ?_)
          rintro e w2 ⟨⟨kk, rfl⟩, B2, J2⟩
          rw [HE.out, HK.out] at B2
          have hUk : U + k = R := by have := HU.out; omega
          have B3 : Blk w2 g 5 S (fun i => if i < U then .int .u8 0 else bv (E ++ D) (i - U)) := B2.ext (fun i hi => by
            by_cases h1 : i < U
            · rw [if_pos h1, if_neg (by omega), if_pos (by omega)]
            · rw [if_neg h1]
              by_cases h2 : i < U + k
              · rw [if_pos (by omega), bt_left _ (by rw [HK.out]; omega)]
              · rw [if_neg (by omega), if_neg (by omega), bt_right _ (by rw [HK.out]; omega), HK.out, show i - R = i - U - k by omega])
          have I2 := (J2.block (g + 1) (Array.getElem?_eq_some_iff.1 HIT.out).1 (by omega)).trans HIT.out
          have b2 := J2.below HB2.out hgw HB2.out.size
          have HP2 := Lib.hid (iter_pos I2)
          have HI2 := Lib.hid I2
          clear B2 J2 I2 e1 hSU
          go_wp2_with fail
          go_roundw
          case rel => exact ⟨j + 1, U, E ++ D, rfl, by omega, hUS, by rw [List.length_append, HK.out]; omega, HD2, B3, HI2.out, b2⟩
          case measure =>
            rw [HP2.out, hip.out]
            have := HW.out
            omega
        · rw [HQ.out, HN.out] at hend
          obtain rfl : N = j := hend.symm
          have hD0 : D = turnB l := by
            rw [← HD.out, List.take_of_length_le (by rw [HN.out]; exact Nat.le_refl _)]
            unfold turnB
            rw [HQ.out]
          have hDl : D.length = S := by rw [← HT.out, ← enc_rev_len, ← HD.out, List.take_of_length_le (by rw [HN.out]; exact Nat.le_refl _)]
          obtain rfl : R = 0 := by omega
          have hRow : Row wr (some ⟨g, 0, none⟩) S (fun i => .int .u8 ((fun i => (bt D i : Int)) i)) := fun h0 => ⟨g, 0, rfl, hB.lt, fun i hi => by
            have := hB.cell hi
            rw [if_neg (by omega)] at this
            simpa [bv] using this⟩
          have hcv := conv_string (P := Try.prog) (c := S) Try.underlying36 Try.underlying5 Try.underlying9 hRow
          have HSD := Lib.hid (show str (fun i => (bt D i : Int)) S = ⟨⟨turnB l⟩⟩ by rw [← hD0, ← hDl]; exact str_bt D)
          clear hD0 hDl hRow hB hit
          go_wp2_with fail
          go_ret
          exact ⟨by rw [← HSD.out]; rfl, hb⟩
end Go.Proofs.Ytafhekgfanpijaa.La
