/-
  The reference of joining (chapter 18): join, tagged, Node, mayRequest, Ask.
-/
import Derived.Test.YtphiohdhgkpgnaaRTag
import Derived.Test.YtphiohdhgkpgnaaJoMa
import Derived.Test.YtphiohdhgkpgnaaTyGrow
set_option maxRecDepth 100000
namespace Go.Proofs.Ytphiohdhgkpgnaa.Jo
set_option linter.unusedVariables false
open Go.RowKit Lb Go.Shelf Bf Se Cl

theorem info8' : (Try.prog.info? 5).map (fun i => (i.zero, i.size, i.bytes)) = some (some (.int .u8 0), 1, 1) := by kernel_rfl
theorem b4_octet (x : Int) (h : 0 ≤ x) (i : Nat) (hi : i < 4) : octet x 4 i = (b4 x).getD i 0 := by
  obtain ⟨N, rfl⟩ := Int.eq_ofNat_of_zero_le h
  unfold b4
  rw [Int.toNat_natCast, bytesK_at _ _ _ hi, Nat.shiftRight_eq_div_pow]
  unfold octet
  push_cast
  rfl
theorem rb4_any (x : Int) (w : World) (h : 0 ≤ x) : Calls Try.prog 34 #[.int .u64 x, .int .i64 4] w fun r w' => ∃ a c, r = .returned (.slice a 4 c) ∧ BsN w.heap.size w' a c (b4 x) ∧ Below w.heap.size w w' :=
  (bytes_any x 4 w h (by decide)).mono (fun r w' ⟨v, e, hm, hb⟩ => by
    have hm := hm.ext (U := bval (b4 x)) (fun i hi => by unfold bval; rw [← b4_octet x h i hi])
    have hlo := hm.lt
    obtain ⟨a, c, rfl, h1, h2, h3⟩ := hm.row
    have hl : (b4 x).length = 4 := b4_len x
    refine ⟨a, c, e, ⟨⟨by rw [hl]; exact h1, h2, by rw [hl]; exact h3⟩, fun p hp => ?_⟩, hb⟩
    subst hp
    exact hm.2.elim (fun h => by cases h.1) (fun ⟨g, cap, cur, hv, hg, _⟩ => by injection hv with hv; injection hv with hv; rw [hv]; exact hg))
theorem rnode_any (x : Int) (w : World) : Calls Try.prog 36 #[.int .i64 x] w fun r w' => r = .returned (.bool (nodeB x)) ∧ w = w' := by
  by_cases h0 : 0 ≤ x
  · by_cases h1 : x < 16
    · have HD : Hid (nodeB x = true) := Lib.hid (nodeB_iff.2 ⟨h0, h1⟩)
      go_enter Try.func36, Try.ntmps36
      go_wp2_with fail
      go_ret
      exact ⟨by rw [HD.out]; rfl, rfl⟩
    · have HD : Hid (nodeB x = false) := Lib.hid (by unfold nodeB; simp; omega)
      have g1 : decide (x < 16) = false := by simp; omega
      clear h1
      go_enter Try.func36, Try.ntmps36
      go_wp2_with fail
      go_ret
      exact ⟨by rw [HD.out]; rfl, rfl⟩
  · have HD : Hid (nodeB x = false) := Lib.hid (by unfold nodeB; simp; omega)
    have g1 : decide (0 ≤ x) = false := by simp; omega
    clear h0
    go_enter Try.func36, Try.ntmps36
    go_wp2_with fail
    go_ret
    exact ⟨by rw [HD.out]; rfl, rfl⟩
theorem rmay_any (r : Rq) (w : World) : Calls Try.prog 31 #[.agg r.vals] w fun e w' => e = .returned (.bool (mayR r)) ∧ Below w.heap.size w w' := by
  have q1 := Own.new w 25 r.vals
  have b0 := (Below.refl w.heap.size w).alloc (Nat.le_refl _) (.cells r.vals 25)
  have P1 : ∀ W, Calls Try.prog 36 #[.int .i64 r.nd] W fun e w' => e = .returned (.bool (nodeB r.nd)) ∧ W = w' := fun W => rnode_any r.nd W
  have P2 : ∀ W, Calls Try.prog 36 #[.int .i64 r.pa] W fun e w' => e = .returned (.bool (nodeB r.pa)) ∧ W = w' := fun W => rnode_any r.pa W
  have HD : mayR r = (nodeB r.nd && (nodeB r.pa && r.pa != r.nd)) := rfl
  obtain ⟨q1', q2', q3', q4', q5'⟩ := r
  dsimp only at P1 P2 HD
  cases h1 : nodeB q1' with
  | false =>
    rw [h1, Bool.false_and] at HD
    rw [h1] at P1
    have HX := Lib.hid HD
    clear HD h1 P2
    go_enter Try.func31, Try.ntmps31
    go_upto_region 1 with (fail)
    generalize w.alloc (.cells (Rq.vals ⟨q1', q2', q3', q4', q5'⟩) 25) = w1 at *
    have c0 : w1.cell? ⟨w.heap.size, 0, none⟩ = some (.int .i64 q1') := q1.cell 0
    go_wp2_with fail
    refine (P1 _).mono ?_
    rintro e w2 ⟨rfl, rfl⟩
    go_wp2_with fail
    go_ret
    exact ⟨by rw [HX.out]; rfl, b0⟩
  | true =>
    cases h2 : nodeB q2' with
    | false =>
      rw [h1, h2] at HD
      rw [h1] at P1
      rw [h2] at P2
      have HX : Hid (mayR ⟨q1', q2', q3', q4', q5'⟩ = false) := Lib.hid HD
      clear HD h1 h2
      go_enter Try.func31, Try.ntmps31
      go_upto_region 1 with (fail)
      generalize w.alloc (.cells (Rq.vals ⟨q1', q2', q3', q4', q5'⟩) 25) = w1 at *
      have c0 : w1.cell? ⟨w.heap.size, 0, none⟩ = some (.int .i64 q1') := q1.cell 0
      have c1 : w1.cell? ⟨w.heap.size, 1, none⟩ = some (.int .i64 q2') := q1.cell 1
      go_wp2_with fail
      refine (P1 _).mono ?_
      rintro e w2 ⟨rfl, rfl⟩
      go_wp2_with fail
      refine (P2 _).mono ?_
      rintro e w2 ⟨rfl, rfl⟩
      go_wp2_with fail
      go_ret
      exact ⟨by rw [HX.out]; rfl, b0⟩
    | true =>
      rw [h1, h2, Bool.true_and, Bool.true_and] at HD
      rw [h1] at P1
      rw [h2] at P2
      have HX := Lib.hid HD
      clear HD h1 h2
      go_enter Try.func31, Try.ntmps31
      go_upto_region 1 with (fail)
      generalize w.alloc (.cells (Rq.vals ⟨q1', q2', q3', q4', q5'⟩) 25) = w1 at *
      have c0 : w1.cell? ⟨w.heap.size, 0, none⟩ = some (.int .i64 q1') := q1.cell 0
      have c1 : w1.cell? ⟨w.heap.size, 1, none⟩ = some (.int .i64 q2') := q1.cell 1
      go_wp2_with fail
      refine (P1 _).mono ?_
      rintro e w2 ⟨rfl, rfl⟩
      go_wp2_with fail
      refine (P2 _).mono ?_
      rintro e w2 ⟨rfl, rfl⟩
      go_wp2_with fail
      go_ret
      exact ⟨by rw [HX.out]; rfl, b0⟩
def joinL (Ls : Nat → List Int) : Nat → List Int
  | 0 => []
  | k + 1 => joinL Ls k ++ Ls k
theorem joinL_len {Ls : Nat → List Int} {m : Nat} (h : ∀ j, (Ls j).length ≤ m) : ∀ k, (joinL Ls k).length ≤ k * m
  | 0 => by simp [joinL]
  | k + 1 => by
    have := h k
    rw [joinL, List.length_append, Nat.succ_mul]
    exact Nat.add_le_add (joinL_len h k) this
set_option maxHeartbeats 1000000 in
theorem rjoin_any (A : Option Addr) (k cc : Nat) (av : Nat → Option Addr) (cs : Nat → Nat) (Ls : Nat → List Int) (w : World) (hk : k ≤ 8) (hl : ∀ j, (Ls j).length ≤ 1000) (hR : Row w A k (fun j => .slice (av j) (Ls j).length (cs j))) (hB : ∀ j, j < k → Bs w (av j) (cs j) (Ls j)) :
    Calls Try.prog 33 #[.slice A k cc] w fun r w' => ∃ a c, r = .returned (.slice a (joinL Ls k).length c) ∧ BsN w.heap.size w' a c (joinL Ls k) ∧ Below w.heap.size w w' := by
  obtain ⟨i0, hi0, hz0, hz1, hz2⟩ := info_parts info8'
  have hk63 : (k : Int) ≤ 9223372036854775807 := by omega
  have HJ := Lib.hid (joinL_len hl)
  go_enter Try.func33, Try.ntmps33
  go_wp2_with fail
  go_loopw [3, 8] (fun u i wr => ∃ (j : Nat) (v : Value), u = v ∧ j ≤ k ∧ i = .int .i64 (j : Int) ∧ Mine wr w.heap.size 5 v (joinL Ls j).length (bval (joinL Ls j)) ∧ Below w.heap.size w wr) (fun _ i _ => k - (intOf i).toNat)
  case atStart => exact ⟨0, _, rfl, Nat.zero_le _, by simp, Mine.nil _ _ _ _, Below.refl _ _⟩
  case round =>
    obtain ⟨j, v, rfl, hj, rfl, hv, bb⟩ := hrel
    by_cases hlt : j < k
    · have hs := bb.size
      have hn1 := hl j
      have hm : (joinL Ls j).length + (Ls j).length ≤ maxLen := by
        have t1 := HJ.out j
        have t2 : j * 1000 ≤ 8 * 1000 := Nat.mul_le_mul_right _ (by omega)
        unfold maxLen
        omega
      have hmj8 : (joinL Ls j).length ≤ 8000 := by
        have t1 := HJ.out j
        have t2 : j * 1000 ≤ 8 * 1000 := Nat.mul_le_mul_right _ (by omega)
        omega
      have Hm := Lib.hid hm
      have hrow := ((hB j hlt).below bb).row
      have hca := (hB j hlt).cap
      have hle := (hB j hlt).le
      unfold maxLen at hca
      obtain ⟨rb, ro, rfl, hrb, hrc⟩ := (hR.below bb) (by omega)
      have c0 : wr.cell? ⟨rb, ro + j, none⟩ = some (.slice (av j) (Ls j).length (cs j)) := hrc j hlt
      obtain ⟨nj, hnj⟩ : ∃ n, (Ls j).length = n := ⟨_, rfl⟩
      obtain ⟨mj, hmj⟩ : ∃ n, (joinL Ls j).length = n := ⟨_, rfl⟩
      have HNJ := Lib.hid hnj
      have HMJ := Lib.hid hmj
      rw [hnj] at c0 hrow hle hn1 Hm
      rw [hmj] at hv Hm hmj8
      have hn63 : (nj : Int) ≤ 9223372036854775807 := by omega
      have hc63 : (cs j : Int) ≤ 9223372036854775807 := by omega
      clear hm hrc hR hB hl hnj hmj
      go_wp2_with (at_builtin; go_must (refine wp_app_at rfl (.tmp 12) (.tmp 13) _ rfl w.heap.size 5 i0 _ 1 Try.underlying30 hi0 hz0 hz1 hz2 rfl _ mj (bval (joinL Ls j)) rfl hv _ nj _ (bval (Ls j)) rfl hrow (fun _ _ => rfl) Hm.out ?c2 hs ?_))
      case c2 => omega
      intro v' w2 hv2 hg _
      have b2 : Below w.heap.size w w2 := bb.grown hg hs (fun q hq => (hv.lt q hq).1)
      have hv3 : Mine w2 w.heap.size 5 v' (joinL Ls (j + 1)).length (bval (joinL Ls (j + 1))) := by
        rw [joinL, List.length_append, HNJ.out, HMJ.out]
        refine hv2.ext (fun q hq => ?_)
        unfold bval
        by_cases h : q < mj
        · rw [if_pos h, List.getD_eq_getElem?_getD, List.getD_eq_getElem?_getD, List.getElem?_append_left (by rw [HMJ.out]; exact h)]
        · rw [if_neg h, List.getD_eq_getElem?_getD, List.getD_eq_getElem?_getD, List.getElem?_append_right (by rw [HMJ.out]; omega), HMJ.out]
      clear hv hv2 hg c0 hrow
      go_wp2_with fail
      exact ⟨⟨j + 1, _, rfl, by omega, by simp, hv3, b2⟩, by simp [intOf]; omega⟩
    · obtain rfl : j = k := by omega
      have hlo := hv.lt
      have hx := hv.2
      obtain ⟨a, c, rfl, h1, h2, h3⟩ := hv.row
      have HR := Lib.hid (show BsN w.heap.size wr a c (joinL Ls j) from ⟨⟨h1, h2, h3⟩, fun p hp => by
        subst hp
        exact hx.elim (fun h => by cases h.1) (fun ⟨g, cap, cur, hv, hg, _⟩ => by injection hv with hv; injection hv with hv; rw [hv]; exact hg)⟩)
      obtain ⟨mj, hmj⟩ : ∃ n, (joinL Ls j).length = n := ⟨_, rfl⟩
      have HMJ := Lib.hid hmj
      rw [hmj] at h1 h3 ⊢
      unfold maxLen at h2
      have hn63 : (mj : Int) ≤ 9223372036854775807 := by omega
      have hc63 : (c : Int) ≤ 9223372036854775807 := by omega
      clear hl hmj hR hB hlo hx
      go_wp2_with fail
      go_ret
      exact ⟨a, c, by rw [HMJ.out]; rfl, HR.out, bb⟩
set_option maxHeartbeats 1000000 in
theorem rtagged_any (key : Int) (a : Option Addr) (c : Nat) (l : List Int) (w : World) (hk : 0 ≤ key) (hl : l.length ≤ 1000) (hR : Bs w a c l) (hB : okB l) :
    Calls Try.prog 32 #[.int .u64 key, .slice a l.length c] w fun r w' => ∃ a c, r = .returned (.slice a (sealL key l).length c) ∧ BsN w.heap.size w' a c (sealL key l) ∧ Below w.heap.size w w' := by
  have hle := hR.le
  have hcap := hR.cap
  unfold maxLen at hcap
  have ht := tagL_in key l
  have PT := rtag_any key a l.length c (fun i => l.getD i 0) w hk (by unfold maxLen; omega) hR.row (fun i => okB_at hB i)
  have PT : Calls Try.prog 50 #[.int .u64 key, .slice a l.length c] w fun r w' => r = .returned (.int .u32 (tagL key l)) ∧ Below w.heap.size w w' := PT
  have hS : joinL (fun j => if j = 0 then l else b4 (tagL key l)) 2 = sealL key l := by
    unfold sealL joinL joinL joinL
    rfl
  have HS := Lib.hid hS
  obtain ⟨t, htt⟩ : ∃ t, tagL key l = t := ⟨_, rfl⟩
  rw [htt] at PT ht hS
  have HTT := Lib.hid htt
  obtain ⟨n, hn⟩ : ∃ n, l.length = n := ⟨_, rfl⟩
  have HN := Lib.hid hn
  rw [hn] at PT hle hl ⊢
  have hn63 : (n : Int) ≤ 9223372036854775807 := by omega
  have hc63 : (c : Int) ≤ 9223372036854775807 := by omega
  have HPT := Lib.hid PT
  obtain ⟨t0, t1⟩ := ht
  clear hS htt hn PT
  go_enter Try.func32, Try.ntmps32
  go_wp2_with fail
  refine HPT.out.mono ?_
  rintro e w2 ⟨rfl, b2⟩
  go_wp2_with fail
  refine (rb4_any t w2 t0).mono ?_
  rintro e w3 ⟨a3, c3, rfl, B3, b3⟩
  have b4' := b2.trans (b3.mono b2.size)
  have hc3 := B3.toBs.cap
  have hl3 := B3.toBs.le
  rw [b4_len] at hl3
  unfold maxLen at hc3
  have hc363 : (c3 : Int) ≤ 9223372036854775807 := by omega
  have ba := (Below.refl w3.heap.size w3).alloc (Nat.le_refl _) (.cells #[.slice a n c, .slice a3 4 c3] 30)
  have hr4 : Row (w3.alloc (.cells #[.slice a n c, .slice a3 4 c3] 30)) (some ⟨w3.heap.size, 0, none⟩) 2 (fun j => .slice (if j = 0 then a else a3) ((fun j => if j = 0 then l else b4 t) j).length (if j = 0 then c else c3)) := row_new _ _ _ _ (fun i hi => by
    rcases (show i = 0 ∨ i = 1 by omega) with rfl | rfl
    · simp [HN.out]
    · simp [b4_len])
  have b5 := b4'.trans (ba.mono b4'.size)
  have PJ := rjoin_any (some ⟨w3.heap.size, 0, none⟩) 2 2 (fun j => if j = 0 then a else a3) (fun j => if j = 0 then c else c3) (fun j => if j = 0 then l else b4 t) (w3.alloc (.cells #[.slice a n c, .slice a3 4 c3] 30)) (by decide) (fun j => by
    split
    · rw [HN.out]; exact hl
    · rw [b4_len]; decide) hr4 (fun j hj => by
    rcases (show j = 0 ∨ j = 1 by omega) with rfl | rfl
    · exact hR.below b5
    · exact B3.toBs.below ba)
  have hS : joinL (fun j => if j = 0 then l else b4 t) 2 = sealL key l := by
    rw [← HTT.out]
    exact HS.out
  rw [hS] at PJ
  have HPJ := Lib.hid PJ
  clear PJ hS hr4 ba b2 b3 HPT B3
  go_wp2_with fail
  refine HPJ.out.mono ?_
  rintro e w6 ⟨a6, c6, rfl, B6, b6⟩
  go_wp2_with fail
  go_ret
  exact ⟨a6, c6, rfl, B6.lower b5.size, b5.trans (b6.mono b5.size)⟩
/-- A row of three slices of bytes. -/
def triP (v : World) (x1 x2 x3 : List Int) (y : Value) (s : Gw v) : Prop := ∃ A a1 a2 a3 c1 c2 c3, y = .slice (some A) 3 3 ∧ Row s.toW (some A) 3 (fun j => .slice (if j = 0 then a1 else if j = 1 then a2 else a3) ((fun j => if j = 0 then x1 else if j = 1 then x2 else x3) j).length (if j = 0 then c1 else if j = 1 then c2 else c3)) ∧ Bs s.toW a1 c1 x1 ∧ Bs s.toW a2 c2 x2 ∧ Bs s.toW a3 c3 x3
theorem triP_still (v : World) (x1 x2 x3 : List Int) (y : Value) (s s' : Gw v) (h : s.still s') (hx : triP v x1 x2 x3 y s) : triP v x1 x2 x3 y s' := by
  obtain ⟨A, a1, a2, a3, c1, c2, c3, rfl, h1, h2, h3, h4⟩ := hx
  exact ⟨A, a1, a2, a3, c1, c2, c3, rfl, h1.below h.below, h2.below h.below, h3.below h.below, h4.below h.below⟩
def triK (v : World) (x1 x2 x3 : List Int) : Kd v := .grow (triP v x1 x2 x3) (triP_still v x1 x2 x3)
theorem tri_ask (r : Rq) : joinL (fun j => if j = 0 then [74, r.nd, r.pa] else if j = 1 then b4 r.no else b4 r.co) 3 = askB r := by
  unfold joinL joinL joinL joinL askB
  simp
set_option maxHeartbeats 4000000 in
theorem rask_any (key : Int) (r : Rq) (w : World) (hk : 0 ≤ key) (hw : r.wide) :
    Calls Try.prog 10 #[.int .u64 key, .agg r.vals] w fun e w' => ∃ a c, e = .returned (.tuple #[.slice a (askO key r).length c, .int .i64 (askC r)]) ∧ Bs w' a c (askO key r) ∧ Below w.heap.size w w' := by
  have q1 := Own.new w 25 r.vals
  have b0 := (Below.refl w.heap.size w).alloc (Nat.le_refl _) (.cells r.vals 25)
  have PM : ∀ W, Calls Try.prog 31 #[.agg r.vals] W fun e w' => e = .returned (.bool (mayR r)) ∧ Below W.heap.size W w' := fun W => rmay_any r W
  cases h1 : mayR r with
  | false =>
    have HO : Hid (askO key r = [] ∧ askC r = 1) := Lib.hid (by unfold askO askC; rw [h1]; exact ⟨rfl, rfl⟩)
    rw [h1] at PM
    clear h1 hw
    obtain ⟨q1', q2', q3', q4', q5'⟩ := r
    go_enter Try.func10, Try.ntmps10
    go_upto_region 1 with (fail)
    generalize w.alloc (.cells (Rq.vals ⟨q1', q2', q3', q4', q5'⟩) 25) = w1 at *
    have c0 : w1.cell? ⟨w.heap.size, 0, none⟩ = some (.int .i64 q1') := q1.cell 0
    have c1 : w1.cell? ⟨w.heap.size, 1, none⟩ = some (.int .i64 q2') := q1.cell 1
    have c2 : w1.cell? ⟨w.heap.size, 2, none⟩ = some (.int .u32 q3') := q1.cell 2
    have c3 : w1.cell? ⟨w.heap.size, 3, none⟩ = some (.int .u32 q4') := q1.cell 3
    have c4 : w1.cell? ⟨w.heap.size, 4, none⟩ = some (.int .u32 q5') := q1.cell 4
    unfold Rq.vals at PM
    dsimp only at PM
    go_wp2_with fail
    refine (PM _).mono ?_
    rintro e w2 ⟨rfl, b2⟩
    go_wp2_with fail
    go_ret2
    exact ⟨none, 0, by rw [HO.out.1, HO.out.2]; rfl, by rw [HO.out.1]; exact ⟨Nat.le_refl _, Nat.zero_le _, Row.nil _ _ _⟩, b0.trans (b2.mono b0.size)⟩
  | true =>
    have HO : Hid (askO key r = sealL key (askB r) ∧ askC r = 0) := Lib.hid (by unfold askO askC; rw [h1]; exact ⟨rfl, rfl⟩)
    have HTA := Lib.hid (tri_ask r)
    have hmr := h1
    unfold mayR at hmr
    rw [Bool.and_eq_true] at hmr
    have hnb := otherB_node hmr.2
    have HOK := Lib.hid (askB_ok hmr.1 hnb)
    have hna := nodeB_iff.1 hmr.1
    have hnb := nodeB_iff.1 hnb
    rw [h1] at PM
    obtain ⟨⟨w1a, w1b⟩, w2a, w2b⟩ := hw
    clear h1 hmr
    obtain ⟨nd, pa, no, co, tg⟩ := r
    dsimp only at w1a w1b w2a w2b hna hnb HTA
    go_enter Try.func10, Try.ntmps10
    go_upto_region 1 with (fail)
    obtain ⟨g, hg⟩ : ∃ g, w.heap.size = g := ⟨_, rfl⟩
    have HG := Lib.hid hg
    rw [hg] at q1 ⊢
    generalize w.alloc (.cells (Rq.vals ⟨nd, pa, no, co, tg⟩) 25) = w1 at *
    have c0 : w1.cell? ⟨g, 0, none⟩ = some (.int .i64 nd) := q1.cell 0
    have c1 : w1.cell? ⟨g, 1, none⟩ = some (.int .i64 pa) := q1.cell 1
    have c2 : w1.cell? ⟨g, 2, none⟩ = some (.int .u32 no) := q1.cell 2
    have c3 : w1.cell? ⟨g, 3, none⟩ = some (.int .u32 co) := q1.cell 3
    have c4 : w1.cell? ⟨g, 4, none⟩ = some (.int .u32 tg) := q1.cell 4
    unfold Rq.vals at PM
    dsimp only at PM
    have hlt : g < w1.heap.size := Own.lt q1
    clear hg
    go_wp2_with fail
    refine (PM _).mono ?_
    rintro e w2 ⟨rfl, b2⟩
    have q2 := below_own b2 q1 hlt
    have b3 := b0.trans (b2.mono b0.size)
    clear c0 c1 c2 c3 c4 q1 b0 b2 PM
    go_upto_region 3 with (fail)
    have c0 : w2.cell? ⟨g, 0, none⟩ = some (.int .i64 nd) := q2.cell 0
    have c1 : w2.cell? ⟨g, 1, none⟩ = some (.int .i64 pa) := q2.cell 1
    have c2 : w2.cell? ⟨g, 2, none⟩ = some (.int .u32 no) := q2.cell 2
    have c3 : w2.cell? ⟨g, 3, none⟩ = some (.int .u32 co) := q2.cell 3
    have d0 : ∀ z : Gw w2, z.toW.cell? ⟨g, 0, none⟩ = some (.int .i64 nd) := fun z => (z.ok.cell (lt_of_cell c0)).trans c0
    have d1 : ∀ z : Gw w2, z.toW.cell? ⟨g, 1, none⟩ = some (.int .i64 pa) := fun z => (z.ok.cell (lt_of_cell c1)).trans c1
    have d2 : ∀ z : Gw w2, z.toW.cell? ⟨g, 2, none⟩ = some (.int .u32 no) := fun z => (z.ok.cell (lt_of_cell c2)).trans c2
    have d3 : ∀ z : Gw w2, z.toW.cell? ⟨g, 3, none⟩ = some (.int .u32 co) := fun z => (z.ok.cell (lt_of_cell c3)).trans c3
    have u1 : IntKind.u8.wrap nd = nd := by rw [IntKind.wrap_u8]; omega
    have u2 : IntKind.u8.wrap pa = pa := by rw [IntKind.wrap_u8]; omega
    have u3 : IntKind.u64.wrap no = no := by rw [IntKind.wrap_u64]; omega
    have u4 : IntKind.u64.wrap co = co := by rw [IntKind.wrap_u64]; omega
    clear c0 c1 c2 c3
    refine wp_region_grow w2 (Below.refl _ _) [.is (.int .u64 key), .is (.pointer (some ⟨g, 0, none⟩)), .is (.int .i64 nd), .is (.int .u8 nd), .is (.pointer (some ⟨g, 1, none⟩)), .is (.int .i64 pa), .is (.int .u8 pa), .rows w2 3 (bval [74, nd, pa]), .is (.pointer (some ⟨g, 2, none⟩)), .is (.int .u32 no), .is (.int .u64 no), .rows w2 4 (bval (b4 no)), .is (.pointer (some ⟨g, 3, none⟩)), .is (.int .u32 co), .is (.int .u64 co), .rows w2 4 (bval (b4 co)), triK w2 [74, nd, pa] (b4 no) (b4 co), .rows w2 11 (bval (askB ⟨nd, pa, no, co, tg⟩)), .rows w2 15 (bval (sealL key (askB ⟨nd, pa, no, co, tg⟩))), .rows w2 15 (bval (sealL key (askB ⟨nd, pa, no, co, tg⟩))), .is (.int .i64 0)] [] (by kernel_rfl) (by kernel_rfl) rfl (by kernel_rfl) ?_
    iterate 7
      refine kd_is (by rfl) (fun z hz K Q hK => ?_) ?_
      · go_big_op
        exact hK _ _ rfl rfl
      simp only [Act.put, List.setIfInBounds_toArray, List.set_cons_zero, List.set_cons_succ]
    refine kd_grow (by rfl) (fun z hz K Q hK => ?_) (fun x7 => ?_)
    · go_big_op
      refine hK _ _ ⟨_, z.to _ ((Below.refl _ _).alloc (Nat.le_refl _) (.cells #[.int .u8 74, .int .u8 nd, .int .u8 pa] 5)), rfl, rfl, z.to_still _ _, some ⟨z.toW.heap.size, 0, none⟩, 3, rfl, Nat.le_refl _, by decide, row_new _ _ _ _ (fun i hi => by rcases (show i = 0 ∨ i = 1 ∨ i = 2 by omega) with rfl | rfl | rfl <;> rfl)⟩
    simp only [Act.put, List.setIfInBounds_toArray, List.set_cons_zero, List.set_cons_succ]
    iterate 3
      refine kd_is (by rfl) (fun z hz K Q hK => ?_) ?_
      · go_big_op
        exact hK _ _ rfl rfl
      simp only [Act.put, List.setIfInBounds_toArray, List.set_cons_zero, List.set_cons_succ]
    refine kd_grow (by rfl) (fun z hz K Q hK => ?_) (fun x11 => ?_)
    · go_big_op
      refine (rb4_any no z.toW w1a).mono ?_
      rintro e w3 ⟨a, c, rfl, hB, bb⟩
      exact hK _ _ ⟨_, z.to w3 bb, rfl, rfl, z.to_still w3 bb, a, c, rfl, by have := hB.toBs.le; rwa [b4_len] at this, hB.toBs.cap, by have := hB.toBs.row; rwa [b4_len] at this⟩
    simp only [Act.put, List.setIfInBounds_toArray, List.set_cons_zero, List.set_cons_succ]
    iterate 3
      refine kd_is (by rfl) (fun z hz K Q hK => ?_) ?_
      · go_big_op
        exact hK _ _ rfl rfl
      simp only [Act.put, List.setIfInBounds_toArray, List.set_cons_zero, List.set_cons_succ]
    refine kd_grow (by rfl) (fun z hz K Q hK => ?_) (fun x15 => ?_)
    · go_big_op
      refine (rb4_any co z.toW w2a).mono ?_
      rintro e w3 ⟨a, c, rfl, hB, bb⟩
      exact hK _ _ ⟨_, z.to w3 bb, rfl, rfl, z.to_still w3 bb, a, c, rfl, by have := hB.toBs.le; rwa [b4_len] at this, hB.toBs.cap, by have := hB.toBs.row; rwa [b4_len] at this⟩
    simp only [Act.put, List.setIfInBounds_toArray, List.set_cons_zero, List.set_cons_succ]
    refine kd_grow (by rfl) (fun z hz K Q hK => ?_) (fun x16 => ?_)
    · obtain ⟨a1, c1, rfl, f1, f2, f3⟩ := fact_at hz 7 (rowS w2 3 (bval [74, nd, pa])) x7 (by kernel_rfl) (by kernel_rfl) (by kernel_rfl)
      obtain ⟨a2, c2, rfl, g1, g2, g3⟩ := fact_at hz 11 (rowS w2 4 (bval (b4 no))) x11 (by kernel_rfl) (by kernel_rfl) (by kernel_rfl)
      obtain ⟨a3, c3, rfl, h1, h2, h3⟩ := fact_at hz 15 (rowS w2 4 (bval (b4 co))) x15 (by kernel_rfl) (by kernel_rfl) (by kernel_rfl)
      go_big_op
      have ba := (Below.refl z.toW.heap.size z.toW).alloc (Nat.le_refl _) (.cells #[.slice a1 3 c1, .slice a2 4 c2, .slice a3 4 c3] 30)
      refine hK _ _ ⟨_, z.to _ ba, rfl, rfl, z.to_still _ _, ⟨z.toW.heap.size, 0, none⟩, a1, a2, a3, c1, c2, c3, rfl, row_new _ _ _ _ (fun i hi => ?_), Bs.below ⟨f1, f2, f3⟩ ba, Bs.below ⟨by rw [b4_len]; exact g1, g2, by rw [b4_len]; exact g3⟩ ba, Bs.below ⟨by rw [b4_len]; exact h1, h2, by rw [b4_len]; exact h3⟩ ba⟩
      rcases (show i = 0 ∨ i = 1 ∨ i = 2 by omega) with rfl | rfl | rfl
      · simp
      · simp [b4_len]
      · simp [b4_len]
    simp only [Act.put, List.setIfInBounds_toArray, List.set_cons_zero, List.set_cons_succ]
    refine kd_grow (by rfl) (fun z hz K Q hK => ?_) (fun x17 => ?_)
    · obtain ⟨A, a1, a2, a3, c1, c2, c3, rfl, f1, f2, f3, f4⟩ := fact_at hz 16 (triP w2 [74, nd, pa] (b4 no) (b4 co)) x16 (by kernel_rfl) (by kernel_rfl) (by kernel_rfl)
      have PJ := rjoin_any (some A) 3 3 _ _ _ z.toW (by decide) (fun j => by
        split
        · show 3 ≤ 1000
          decide
        · split <;> (rw [b4_len]; decide)) f1 (fun j hj => by
        rcases (show j = 0 ∨ j = 1 ∨ j = 2 by omega) with rfl | rfl | rfl
        · exact f2
        · exact f3
        · exact f4)
      rw [HTA.out, askB_len] at PJ
      go_big_op
      refine PJ.mono ?_
      rintro e w3 ⟨a, c, rfl, hB, bb⟩
      exact hK _ _ ⟨_, z.to w3 bb, rfl, rfl, z.to_still w3 bb, a, c, rfl, by have := hB.toBs.le; rwa [askB_len] at this, hB.toBs.cap, by have := hB.toBs.row; rwa [askB_len] at this⟩
    simp only [Act.put, List.setIfInBounds_toArray, List.set_cons_zero, List.set_cons_succ]
    refine kd_grow (by rfl) (fun z hz K Q hK => ?_) (fun x18 => ?_)
    · obtain ⟨a1, c1, rfl, f1, f2, f3⟩ := fact_at hz 17 (rowS w2 11 (bval (askB ⟨nd, pa, no, co, tg⟩))) x17 (by kernel_rfl) (by kernel_rfl) (by kernel_rfl)
      have PT := rtagged_any key a1 c1 (askB ⟨nd, pa, no, co, tg⟩) z.toW hk (by rw [askB_len]; decide) ⟨by rw [askB_len]; exact f1, f2, by rw [askB_len]; exact f3⟩ HOK.out
      rw [sealL_len, askB_len] at PT
      go_big_op
      refine PT.mono ?_
      rintro e w3 ⟨a, c, rfl, hB, bb⟩
      exact hK _ _ ⟨_, z.to w3 bb, rfl, rfl, z.to_still w3 bb, a, c, rfl, by have := hB.toBs.le; rwa [sealL_len, askB_len] at this, hB.toBs.cap, by have := hB.toBs.row; rwa [sealL_len, askB_len] at this⟩
    simp only [Act.put, List.setIfInBounds_toArray, List.set_cons_zero, List.set_cons_succ]
    refine kd_grow (by rfl) (fun z hz K Q hK => ?_) (fun x19 => ?_)
    · have hy := fact_at hz 18 (rowS w2 15 (bval (sealL key (askB ⟨nd, pa, no, co, tg⟩)))) x18 (by kernel_rfl) (by kernel_rfl) (by kernel_rfl)
      go_big_op
      exact hK _ _ ⟨_, z, rfl, rfl, .refl z, hy⟩
    simp only [Act.put, List.setIfInBounds_toArray, List.set_cons_zero, List.set_cons_succ]
    iterate 1
      refine kd_is (by rfl) (fun z hz K Q hK => ?_) ?_
      · go_big_op
        exact hK _ _ rfl rfl
      simp only [Act.put, List.setIfInBounds_toArray, List.set_cons_zero, List.set_cons_succ]
    refine kd_nil (fun z hz => ?_)
    obtain ⟨A, c, rfl, hA1, hA2, hA3⟩ := (show rowS w2 15 (bval (sealL key (askB ⟨nd, pa, no, co, tg⟩))) x19 z from hz 19 (.of (rowS w2 15 (bval (sealL key (askB ⟨nd, pa, no, co, tg⟩))))) x19 (by kernel_rfl) (fun i hi => by simp [gKill]))
    have HR := Lib.hid (show Bs z.toW A c (sealL key (askB ⟨nd, pa, no, co, tg⟩)) from ⟨by rw [sealL_len, askB_len]; exact hA1, hA2, by rw [sealL_len, askB_len]; exact hA3⟩)
    have b9 := Lib.hid (b3.trans (z.ok.mono b3.size))
    clear hz
    go_wp2_with fail
    go_ret2
    exact ⟨A, c, by rw [HO.out.1, HO.out.2, sealL_len, askB_len]; rfl, by rw [HO.out.1]; exact HR.out, b9.out⟩
end Go.Proofs.Ytphiohdhgkpgnaa.Jo
