/-
  Package parents: the reference's Hear.
-/
import Derived.Test.YtjboilkbcajkcaaPaRef2
import Derived.Test.YtjboilkbcajkcaaCut
import Derived.Deep.CutBlock
import Derived.Deep.CutRange
import Derived.Deep.RegionLaw
import Derived.BigRegion
set_option maxRecDepth 100000
namespace Go.Proofs.Ytjboilkbcajkcaa.Pa
set_option linter.unusedVariables false
open Go.RowKit Lb Go.Shelf

/-- The first three whose rank is below R. -/
def f3 (R : Int) (l : List P) (k : Nat) : List P := (kept (fun y => decide (R ≤ y.r)) l k).take 3
theorem f3_yes {R : Int} {l : List P} {k : Nat} (hk : k < l.length) (h : (at_ l k).r < R) (h3 : (f3 R l k).length < 3) : f3 R l (k + 1) = f3 R l k ++ [at_ l k] := by
  unfold f3 at *
  rw [List.length_take] at h3
  rw [kept_succ _ _ _ hk, if_neg (by simp; omega), List.take_of_length_le (by simp; omega), List.take_of_length_le (by omega)]
theorem f3_full {R : Int} {l : List P} {k : Nat} (hk : k < l.length) (h3 : ¬ (f3 R l k).length < 3) : f3 R l (k + 1) = f3 R l k := by
  unfold f3 at *
  rw [List.length_take] at h3
  rw [kept_succ _ _ _ hk, List.take_append_of_le_length (by omega)]
theorem f3_no {R : Int} {l : List P} {k : Nat} (hk : k < l.length) (h : ¬ (at_ l k).r < R) : f3 R l (k + 1) = f3 R l k := by
  unfold f3
  rw [kept_succ _ _ _ hk, if_pos (by simp; omega), List.append_nil]
theorem f3_len (R : Int) (l : List P) (k : Nat) : (f3 R l k).length ≤ 3 := by
  unfold f3
  rw [List.length_take]
  omega
theorem f3_all {me rk : Int} {l : List P} {x : P} (hi : Inv me rk l) (hx : x.r < rk) : f3 (rk3 rk x) (l2 l x) (l2 l x).length = l4 rk l x := by
  unfold f3 l4 l3 rk3
  by_cases h : x.r + 1 < rk
  · rw [if_pos h, if_pos h]
  · rw [if_neg h, if_neg h]
    rw [kept_all _ _ _ (fun j hj => ?_) (Nat.le_refl _), List.take_length]
    have hm := at_mem hj
    have hp : (l2 l x).Perm (x :: l1 l x.n) := ins_perm _ _ _
    rcases List.mem_cons.1 (hp.mem_iff.1 hm) with e | e
    · rw [e]; simp; omega
    · have := (hi.kept (fun y => y.n == x.n) l.length).below _ e
      simp; omega
theorem size_rp (w : World) : (Go.sizeOf 61).run Try.prog w = .ok 3 w := by kernel_rfl
theorem row_ext3 {w : World} {a : Option Addr} {n : Nat} {V U : Nat → Value} (h : Row w a n V) (hv : ∀ i, i < n → V i = U i) : Row w a n U := by
  intro h0
  obtain ⟨b, off, h1, h2, h3⟩ := h h0
  exact ⟨b, off, h1, h2, fun i hi => (h3 i hi).trans (congrArg some (hv i hi))⟩
theorem pv_drop (M : List P) (K i : Nat) : pv M (K * 3 + i) = pv (M.drop K) i := by
  unfold pv at_
  rw [show (K * 3 + i) / 3 = K + i / 3 by omega, show (K * 3 + i) % 3 = i % 3 by omega, List.getD_eq_getElem?_getD, List.getD_eq_getElem?_getD, List.getElem?_drop]
theorem ins_ext {M : List P} {K m : Nat} (x : P) (hK : K ≤ m) (hm : M.length = m) (i : Nat) : (if i < (0 + K + 1) * 3 then (if i < (0 + K) * 3 then (if i < 0 * 3 then pv [] i else pv M (i - 0 * 3)) else pv [x] (i - (0 + K) * 3)) else pv (M.drop K) (i - (0 + K + 1) * 3)) = pv (ins M K x) i := by
  subst hm
  have hi := at_ins x hK (i / 3)
  by_cases h1 : i < K * 3
  · rw [if_pos (by omega), if_pos (by omega), if_neg (by omega), show i - 0 * 3 = i by omega]
    exact (pv_congr (by rw [hi, if_pos (by omega)]))
  · by_cases h2 : i < K * 3 + 3
    · rw [if_pos (by omega), if_neg (by omega)]
      unfold pv
      rw [hi, if_neg (by omega), if_pos (by omega), show (i - (0 + K) * 3) / 3 = 0 by omega, show (i - (0 + K) * 3) % 3 = i % 3 by omega]
      rfl
    · rw [if_neg (by omega), ← pv_drop]
      unfold pv
      rw [hi, if_neg (by omega), if_neg (by omega), show (K * 3 + (i - (0 + K + 1) * 3)) / 3 = i / 3 - 1 by omega, show (K * 3 + (i - (0 + K + 1) * 3)) % 3 = i % 3 by omega]
theorem f3_snoc (S : List P) (y : P) (q : Nat) : (if q < S.length * 3 then pv S q else pv [y] (q - S.length * 3)) = pv (S ++ [y]) q := pv_app S [y] q
def RHearPost (base b : Nat) (me rk : Int) (l : List P) (x : P) (w : World) (r : Ending) (w' : World) : Prop :=
  r = .returned (.bool (hearB me rk l x)) ∧ ∃ v', Rs w' base b me (hearR me rk l x) (hearL me rk l x) v' ∧ Just b w w'
theorem rhear_no {base b : Nat} {me rk : Int} {l : List P} {v : Value} {x : P} {w w' : World} (t : Rs w base b me rk l v) (hm : mayH me x = false) (hb : Below w.heap.size w w') : RHearPost base b me rk l x w (.returned (.bool false)) w' := by
  have h1 : hearB me rk l x = false := by unfold hearB; rw [hm]; rfl
  have h2 : hearR me rk l x = rk := by unfold hearR; rw [hm]; rfl
  have h3 : hearL me rk l x = l := by unfold hearL; rw [hm]; rfl
  refine ⟨by rw [h1], v, ?_, ⟨hb.os, hb.tape, hb.output, hb.size, fun q hq _ => hb.block q hq⟩⟩
  rw [h2, h3]
  exact t.below hb
set_option maxHeartbeats 4000000 in
theorem rhear_any (base b : Nat) (me rk : Int) (l : List P) (v : Value) (x : P) (w : World) (t : Rs w base b me rk l v) (hi : Inv me rk l) :
    Calls Try.prog 16 #[.pointer (some ⟨b, 0, none⟩), .int .i64 x.n, .int .i64 x.r, .int .i64 x.h] w (RHearPost base b me rk l x w) := by
  have hlt := t.own.lt
  have hlow := t.low
  have c0 : w.cell? ⟨b, 0, none⟩ = some (.int .i64 me) := t.own.cell 0
  have HT := Lib.hid t
  have HI := Lib.hid hi
  have hn := rnode_any x.n w
  obtain ⟨nb, hnb⟩ : ∃ q, ndB x.n = q := ⟨_, rfl⟩
  obtain ⟨n1, hn1⟩ : ∃ q, (x.n == me) = q := ⟨_, rfl⟩
  obtain ⟨n2, hn2⟩ : ∃ q, decide (x.r < 0) = q := ⟨_, rfl⟩
  obtain ⟨n3, hn3⟩ : ∃ q, decide (255 < x.r) = q := ⟨_, rfl⟩
  obtain ⟨n4, hn4⟩ : ∃ q, decide (x.h < 0) = q := ⟨_, rfl⟩
  have HM : Hid (mayH me x = (nb && (!n1 && ((!n2 && !n3) && !n4)))) := Lib.hid (by
    unfold mayH rkB
    rw [← hnb, ← hn1, ← hn2, ← hn3, ← hn4]
    congr 1
    congr 1
    congr 1
    · simp only [Bool.decide_and]
      congr 1 <;> (rw [← decide_not]; congr 1; apply propext; omega)
    · rw [← decide_not]; congr 1; apply propext; omega)
  rw [hnb] at hn
  clear t hi hnb
  go_enter Try.func16, Try.ntmps16
  cases nb
  · have HF : Hid (mayH me x = false) := Lib.hid (by rw [HM.out]; rfl)
    go_wp2_with (go_at_call 27; refine hn.mono ?_; rintro r w' ⟨rfl, rfl⟩)
    go_ret
    exact rhear_no HT.out HF.out (Below.refl _ _)
  cases n1
  case true =>
    have HF : Hid (mayH me x = false) := Lib.hid (by rw [HM.out]; rfl)
    go_wp2_with (go_at_call 27; refine hn.mono ?_; rintro r w' ⟨rfl, rfl⟩)
    go_ret
    exact rhear_no HT.out HF.out (Below.refl _ _)
  cases n2
  case true =>
    have HF : Hid (mayH me x = false) := Lib.hid (by rw [HM.out]; rfl)
    go_wp2_with (go_at_call 27; refine hn.mono ?_; rintro r w' ⟨rfl, rfl⟩)
    go_ret
    exact rhear_no HT.out HF.out (Below.refl _ _)
  cases n3
  case true =>
    have HF : Hid (mayH me x = false) := Lib.hid (by rw [HM.out]; rfl)
    go_wp2_with (go_at_call 27; refine hn.mono ?_; rintro r w' ⟨rfl, rfl⟩)
    go_ret
    exact rhear_no HT.out HF.out (Below.refl _ _)
  cases n4
  case true =>
    have HF : Hid (mayH me x = false) := Lib.hid (by rw [HM.out]; rfl)
    go_wp2_with (go_at_call 27; refine hn.mono ?_; rintro r w' ⟨rfl, rfl⟩)
    go_ret
    exact rhear_no HT.out HF.out (Below.refl _ _)
  have HF : Hid (mayH me x = true) := Lib.hid (by rw [HM.out]; rfl)
  have hd := rdr_any base b me rk l v x.n w HT.out
  clear HM
  by_cases he : rk ≤ x.r
  · have ge : decide (rk ≤ x.r) = true := by simpa using he
    have HE := Lib.hid he
    clear he
    go_wp2_with (first
      | (go_at_call 27; refine hn.mono ?_; rintro r w' ⟨rfl, rfl⟩)
      | (go_at_call 36; refine hd.mono ?_; rintro r w2 ⟨rfl, v1, t1, j1⟩; have k1 : w2.cell? ⟨b, 1, none⟩ = some (.int .i64 rk) := t1.own.cell 1))
    go_ret
    refine ⟨?_, v1, ?_, j1⟩
    · unfold hearB
      rw [if_pos HF.out, if_pos HE.out]
      rfl
    · unfold hearR hearL
      rw [if_pos HF.out, if_pos HE.out, if_pos HF.out, if_pos HE.out]
      exact t1
  have ge : decide (rk ≤ x.r) = false := by simpa using he
  have HE := Lib.hid he
  clear he
  go_wp2_with fail
  refine hn.mono ?_
  rintro r w' ⟨rfl, rfl⟩
  go_wp2_with fail
  refine hd.mono ?_
  rintro r w2 ⟨rfl, v1, t1, j1⟩
  have k1 : w2.cell? ⟨b, 1, none⟩ = some (.int .i64 rk) := t1.own.cell 1
  go_upto_block 0 with (fail)
  have HJ1 := Lib.hid j1
  have hrow := t1.row
  obtain ⟨A, c, hv1, hc1, hc2, hR⟩ := hrow.row
  subst hv1
  have hfew := t1.few
  have ho1 := t1.own
  have hlow1 := t1.low
  have hne1 := t1.ne
  have hll : (kept (fun y => y.n == x.n) l l.length).length ≤ 3 := (HI.out.kept _ _).three
  change Row w2 A ((l1 l x.n).length * 3) (pv (l1 l x.n)) at hR
  change MineK w2 base 61 3 (.slice A (l1 l x.n).length c) (l1 l x.n).length (pv (l1 l x.n)) at hrow
  change (l1 l x.n).length ≤ 3 at hll
  change (l1 l x.n).length ≤ c at hc1
  have k2 : w2.cell? ⟨b, 2, none⟩ = some (.slice A (l1 l x.n).length c) := ho1.cell 2
  obtain ⟨M, hM⟩ : ∃ M, l1 l x.n = M := ⟨_, rfl⟩
  have HMM := Lib.hid hM
  have hLL : Hid (l2 l x = ins M (pos M x) x) := Lib.hid (by unfold l2; rw [hM])
  rw [hM] at hR hrow hll k2 hc1
  have HO1 := Lib.hid ho1
  clear t1 j1 hn hd c0 hM hfew ho1
  obtain ⟨m, hm⟩ : ∃ m, M.length = m := ⟨_, rfl⟩
  have HL := Lib.hid hm
  rw [hm] at hR hrow hll k2 hc1
  clear hm
  have HR := Lib.hid hR
  clear hR
  unfold maxLen at hc2
  have hpl := pos_le M x
  rw [HL.out] at hpl
  obtain ⟨K, hK⟩ : ∃ K, pos M x = K := ⟨_, rfl⟩
  have HK := Lib.hid hK
  rw [hK] at hpl
  clear hK
  go_cut [9] from 47 to 91 (fun s wx => s = .int .i64 (K : Nat) ∧ w2 = wx)
  case first =>
    go_wp2_with fail
    go_loopw [9] (fun i wr => ∃ k : Nat, i = .int .i64 k ∧ k ≤ m ∧ Hid (∀ j, j < k → cf (at_ M j) x < 0) ∧ w2 = wr) (fun i _ => m - (intOf i).toNat)
    case atStart => exact ⟨0, rfl, by omega, Lib.hid (fun j hj => by omega), rfl⟩
    case round =>
      obtain ⟨k, rfl, hk, HN, rfl⟩ := hrel
      by_cases hlt2 : k < m
      · obtain ⟨bo, off, rfl, hbo, d0, d1, d2⟩ := prow HR.out (Below.refl _ _) hlt2
        obtain ⟨y, hy⟩ : ∃ y, at_ M k = y := ⟨_, rfl⟩
        have HY := Lib.hid hy
        rw [hy] at d0 d1 d2
        clear hy
        by_cases e1 : y.r < x.r
        · have g1 : decide (y.r < x.r) = true := by simpa using e1
          have HN2 : Hid (∀ j, j < k + 1 → cf (at_ M j) x < 0) := Lib.hid (fun j hj => by
            by_cases e : j = k
            · subst e; rw [HY.out, cf_lt]; exact .inl e1
            · exact HN.out j (by omega))
          clear e1
          go_wp2_with fail
          exact ⟨⟨k + 1, by simp, by omega, HN2, trivial⟩, by simp [intOf]; omega⟩
        · have g1 : decide (y.r < x.r) = false := by simpa using e1
          by_cases e2 : y.r = x.r
          · have g2 : (y.r == x.r) = true := by simpa using e2
            by_cases e3 : y.n < x.n
            · have g3 : decide (y.n < x.n) = true := by simpa using e3
              have HN2 : Hid (∀ j, j < k + 1 → cf (at_ M j) x < 0) := Lib.hid (fun j hj => by
                by_cases e : j = k
                · subst e; rw [HY.out, cf_lt]; exact .inr ⟨e2, e3⟩
                · exact HN.out j (by omega))
              clear e1 e2 e3
              go_wp2_with fail
              exact ⟨⟨k + 1, by simp, by omega, HN2, trivial⟩, by simp [intOf]; omega⟩
            · have g3 : decide (y.n < x.n) = false := by simpa using e3
              have HE : Hid (k = K) := Lib.hid (by
                rw [← HK.out]
                exact (pos_is M k (by rw [HL.out]; omega) HN.out (fun _ => by rw [HY.out, cf_lt]; omega)).symm)
              clear e1 e2 e3
              go_wp2_with fail
              go_meet
              exact ⟨by rw [HE.out], rfl⟩
          · have g2 : (y.r == x.r) = false := by simpa using e2
            have HE : Hid (k = K) := Lib.hid (by
              rw [← HK.out]
              exact (pos_is M k (by rw [HL.out]; omega) HN.out (fun _ => by rw [HY.out, cf_lt]; omega)).symm)
            clear e1 e2
            go_wp2_with fail
            go_meet
            exact ⟨by rw [HE.out], rfl⟩
      · have HE : Hid (k = K) := Lib.hid (by
          rw [← HK.out]
          exact (pos_is M k (by rw [HL.out]; omega) HN.out (fun h => by rw [HL.out] at h; omega)).symm)
        have hkm : k = m := by omega
        go_wp2_with fail
        go_meet
        exact ⟨by rw [HE.out], rfl⟩
  case rest =>
    obtain ⟨rfl, rfl⟩ := hcut
    have s2 : w2.drew.cell? ⟨b, 2, none⟩ = some (.slice A m c) := k2
    have HRp : Hid (Row w2 A (K * 3) (pv M)) := Lib.hid (HR.out.cut (Nat.mul_le_mul_right 3 hpl))
    have q1 : ∀ wq : World, (Instr.slice 39 (.slice A m c) none (some (.int .i64 (K : Int))) none).run Try.prog wq = .ok (.slice A K c) wq := cut_to 39 61 3 Try.underlying39 size_rp A m c K (by omega)
    have q2 := cut_from 39 61 3 Try.underlying39 size_rp A m c K hpl
    have HRs : Hid (Row w2 (cutA A c K 3) ((m - K) * 3) (pv (M.drop K))) := Lib.hid (row_ext3 (cut_row HR.out hc1) (fun i _ => pv_drop M K i))
    generalize cutA A c K 3 = A2 at *
    have ho1 : Own w2 b 41 #[.int .i64 me, .int .i64 rk, .slice A m c] := by
      have := HO1.out
      rwa [show (kept (fun y => y.n == x.n) l l.length).length = m from by rw [← HL.out, ← HMM.out]; rfl] at this
    obtain ⟨i0, hi0, hz0, hz1, hz2⟩ := info_parts infoR
    have hbs : b < w2.heap.size := ho1.lt
    have hlen2 : Hid ((l2 l x).length = m + 1) := Lib.hid (by rw [hLL.out, ins_len x (by rw [HK.out, HL.out]; exact hpl), HL.out])
    go_upto_region 9 with (fail)
    go_cut [92] from 92 to 114 (fun _ wx => ∃ v9, Own wx b 41 #[.int .i64 me, .int .i64 rk, v9] ∧ MineK wx base 61 3 v9 (m + 1) (pv (l2 l x)) ∧ Just b w2 wx)
    case first =>
      go_wp2_with fail
      have s2a : (w2.drew.alloc (.cells #[.int .i64 x.n, .int .i64 x.r, .int .i64 x.h] 61)).cell? ⟨b, 2, none⟩ = some (.slice A m c) := (below_own ((below_drewN (Below.refl w2.heap.size w2) 1).alloc (Nat.le_refl _) _) ho1 hbs).cell 2
      go_region_law (first
        | (refine step_appK (w := w2.drew.alloc (.cells #[.int .i64 x.n, .int .i64 x.r, .int .i64 x.h] 61)) rfl (.const (.slice none 0 0)) (.tmp 98) 39 rfl w2.heap.size 61 i0 _ 3 24 Try.underlying39 hi0 hz0 hz1 hz2 rfl (by decide) (.slice none 0 0) 0 (pv []) (by rfl) (MineK.nil _ _ _ _ _) _ K c (pv M) (by rfl) (HRp.out.below ((below_drewN (Below.refl w2.heap.size w2) 1).alloc (Nat.le_refl _) _)) (fun i _ => pv_one _ i) (by unfold maxLen; omega) (by omega) (by simp) ?_; intro v6 w6 m6 g6 l6; have j6 : Below w2.heap.size w2 w6 := ((below_drewN (Below.refl w2.heap.size w2) 1).alloc (Nat.le_refl _) _).grown g6 (by simp) (fun q e => by cases e); have s6 : w6.cell? ⟨b, 2, none⟩ = some (.slice A m c) := (below_own j6 ho1 hbs).cell 2; have r6 : Row w6 (some ⟨w2.heap.size, 0, none⟩) (1 * 3) (pv [x]) := (pv_one_row w2.drew x).below ⟨g6.os, g6.tape, g6.output, g6.size, fun q hq => g6.block q hq (fun e => by cases e)⟩)
        | (refine step_appK (w := w2.drew) rfl (.const (.slice none 0 0)) (.tmp 98) 39 rfl w2.heap.size 61 i0 _ 3 24 Try.underlying39 hi0 hz0 hz1 hz2 rfl (by decide) (.slice none 0 0) 0 (pv []) (by rfl) (MineK.nil _ _ _ _ _) _ K c (pv M) (by rfl) HRp.out (fun i _ => pv_one _ i) (by unfold maxLen; omega) (by omega) (Nat.le_refl _) ?_; intro v6 w6 m6 g6 l6; have j6 : Below w2.heap.size w2 w6 := (below_drewN (Below.refl _ _) 1).grown g6 (Nat.le_refl _) (fun q e => by cases e); have s6 : w6.cell? ⟨b, 2, none⟩ = some (.slice A m c) := (below_own j6 ho1 hbs).cell 2; have s6a : (w6.alloc (.cells #[.int .i64 x.n, .int .i64 x.r, .int .i64 x.h] 61)).cell? ⟨b, 2, none⟩ = some (.slice A m c) := (below_own (j6.alloc j6.size _) ho1 hbs).cell 2)
        | (refine step_appK (w := w6.alloc (.cells #[.int .i64 x.n, .int .i64 x.r, .int .i64 x.h] 61)) rfl (.tmp 99) (.tmp 104) 39 rfl w2.heap.size 61 i0 _ 3 24 Try.underlying39 hi0 hz0 hz1 hz2 rfl (by decide) v6 (0 + K) _ (by rfl) (m6.alloc _) _ 1 _ (pv [x]) (by rfl) (pv_one_row w6 x) (fun i _ => pv_one _ i) (by unfold maxLen; omega) (by omega) (by have := j6.size; simp; omega) ?_; intro v7 w7 m7 g7 l7; have j7 : Below w2.heap.size w2 w7 := (j6.alloc j6.size _).grown g7 (by have := j6.size; simp; omega) (fun q e => (m6.lt q e).1); have s7 : w7.cell? ⟨b, 2, none⟩ = some (.slice A m c) := (below_own j7 ho1 hbs).cell 2)
        | (refine step_appK (w := w6) rfl (.tmp 99) (.tmp 104) 39 rfl w2.heap.size 61 i0 _ 3 24 Try.underlying39 hi0 hz0 hz1 hz2 rfl (by decide) v6 (0 + K) _ (by rfl) m6 _ 1 _ (pv [x]) (by rfl) r6 (fun i _ => pv_one _ i) (by unfold maxLen; omega) (by omega) j6.size ?_; intro v7 w7 m7 g7 l7; have j7 : Below w2.heap.size w2 w7 := j6.grown g7 j6.size (fun q e => (m6.lt q e).1); have s7 : w7.cell? ⟨b, 2, none⟩ = some (.slice A m c) := (below_own j7 ho1 hbs).cell 2)
        | (refine step_appK (w := w7) rfl (.tmp 105) (.tmp 111) 39 rfl w2.heap.size 61 i0 _ 3 24 Try.underlying39 hi0 hz0 hz1 hz2 rfl (by decide) v7 (0 + K + 1) _ (by rfl) m7 A2 (m - K) (c - K) (pv (M.drop K)) (by rfl) (HRs.out.below j7) (fun i _ => pv_one _ i) (by unfold maxLen; omega) (by omega) j7.size ?_; intro v8 w8 m8 g8 l8; have j8 : Below w2.heap.size w2 w8 := j7.grown g8 j7.size (fun q e => (m7.lt q e).1); have s8 : w8.cell? ⟨b, 2, none⟩ = some (.slice A m c) := (below_own j8 ho1 hbs).cell 2; have f8 : w8.frozen? ⟨b, 2, none⟩ = false := (below_own j8 ho1 hbs).free 2; have M8 := Lib.hid m8; obtain ⟨a8, c8, hv8, _, _, _⟩ := m8.row; subst hv8)
        | (trace_state; sorry))
      all_goals
        go_wp2_with fail
        go_meet
        have o8 := below_own j8 ho1 hbs
        have e8 : 0 + K + 1 + (m - K) = m + 1 := by omega
        rw [show K + 1 + (m - K) = m + 1 by omega]
        have h8 := M8.out
        rw [e8] at h8
        refine ⟨_, o8.put 2 _, rrow_put (mk_low (h8.ext (fun i _ => ?_)) (show base ≤ w2.heap.size by omega)) (fun e => by have := (h8.lt b e).1; omega) 2 _, (show Just b w2 w8 from ⟨j8.os, j8.tape, j8.output, j8.size, fun q hq _ => j8.block q hq⟩).put 2 _⟩
        rw [hLL.out, HK.out]
        exact ins_ext x hpl HL.out i
    case rest =>
      clear s2 HRp q1 q2 HRs HR k2 k1 hrow
      obtain ⟨v9, o9, m9, j9⟩ := hcut
      obtain ⟨a9, c9, rfl, hc9, hd9, hR9⟩ := m9.row
      unfold maxLen at hd9
      have hlo := HI.out.lo
      have hxr : x.r < 255 := by have := HE.out; omega
      have hx0 : 0 ≤ x.r := by simpa using hn2
      have k1 : wc.cell? ⟨b, 1, none⟩ = some (.int .i64 rk) := o9.cell 1
      have f1 : wc.frozen? ⟨b, 1, none⟩ = false := o9.free 1
      have k2 : wc.cell? ⟨b, 2, none⟩ = some (.slice a9 (m + 1) c9) := o9.cell 2
      have hmin : min rk (x.r + 1) = rk3 rk x := by unfold rk3; split <;> omega
      have o3 : Own (wc.setCell ⟨b, 1, none⟩ (.int .i64 (rk3 rk x))) b 41 #[.int .i64 me, .int .i64 (rk3 rk x), .slice a9 (m + 1) c9] := o9.put 1 _
      have m3 := rrow_put m9 (rmine_ne m9 o9) 1 (.int .i64 (rk3 rk x))
      have j3 := HJ1.out.trans (j9.put 1 (.int .i64 (rk3 rk x)))
      go_upto_region 11 with (fail)
      clear hmin k1 k2 f1 m9 o9 hR9 j9
      generalize wc.setCell ⟨b, 1, none⟩ (.int .i64 (rk3 rk x)) = w3 at *
      obtain ⟨R, hR⟩ : ∃ R, rk3 rk x = R := ⟨_, rfl⟩
      have HRR := Lib.hid hR
      rw [hR] at o3
      obtain ⟨L, hL⟩ : ∃ L, l2 l x = L := ⟨_, rfl⟩
      have HL2 := Lib.hid hL
      have hlen3 := hlen2.out
      rw [hL] at m3 hlen3
      have HLen := Lib.hid hlen3
      obtain ⟨n, hn⟩ : ∃ n, m + 1 = n := ⟨_, rfl⟩
      rw [hn] at m3 o3 hc9 HLen
      have hn4' : n ≤ 4 := by omega
      have HR3 := Lib.hid m3.rowAt
      have k2 : w3.cell? ⟨b, 2, none⟩ = some (.slice a9 n c9) := o3.cell 2
      have hb3 : b < w3.heap.size := o3.lt
      have HO3 := Lib.hid o3
      have k1 : w3.cell? ⟨b, 1, none⟩ = some (.int .i64 R) := o3.cell 1
      clear hR hL hlen3 hlen2 hn m3 o3
      go_wp2_with fail
      go_loopw [130, 10] (fun i u wr => ∃ k : Nat, i = .int .i64 k ∧ k ≤ n ∧ MineK wr w3.heap.size 61 3 u (f3 R L k).length (pv (f3 R L k)) ∧ Below w3.heap.size w3 wr) (fun i _ _ => n - (intOf i).toNat)
      case atStart => exact ⟨0, rfl, by omega, MineK.nil _ _ _ _ _, Below.refl _ _⟩
      case round =>
        obtain ⟨k, rfl, hk, hW, b1⟩ := hrel
        by_cases hlt2 : k < n
        · obtain ⟨bo, off, rfl, hbo, d0, d1, d2⟩ := prow HR3.out b1 hlt2
          obtain ⟨y, hy⟩ : ∃ y, at_ L k = y := ⟨_, rfl⟩
          have HY := Lib.hid hy
          rw [hy] at d0 d1 d2
          have hkl := f3_len R L k
          obtain ⟨S, hS⟩ : ∃ S, f3 R L k = S := ⟨_, rfl⟩
          have HS := Lib.hid hS
          rw [hS] at hW hkl
          obtain ⟨sn, hsn⟩ : ∃ n, S.length = n := ⟨_, rfl⟩
          have HSN := Lib.hid hsn
          rw [hsn] at hW hkl
          have ob := Own.new wr 61 #[.int .i64 y.n, .int .i64 y.r, .int .i64 y.h]
          have b2 := b1.alloc b1.size (.cells #[.int .i64 y.n, .int .i64 y.r, .int .i64 y.h] 61)
          have hW2 := hW.alloc (.cells #[.int .i64 y.n, .int .i64 y.r, .int .i64 y.h] 61)
          have hbs := b1.size
          clear hy hS hsn hW
          obtain ⟨a4, c4, rfl, hc4, hd4, _⟩ := hW2.row
          go_upto_region 15 with (fail)
          have hsz : wr.heap.size < (wr.alloc (.cells #[.int .i64 y.n, .int .i64 y.r, .int .i64 y.h] 61)).heap.size := by simp
          generalize wr.alloc (.cells #[.int .i64 y.n, .int .i64 y.r, .int .i64 y.h] 61) = w4 at *
          obtain ⟨g, hg⟩ : ∃ g, wr.heap.size = g := ⟨_, rfl⟩
          rw [hg] at ob hsz hbs ⊢
          clear hg d0 d1 d2
          have d0 : w4.cell? ⟨g, 0, none⟩ = some (.int .i64 y.n) := ob.cell 0
          have d1 : w4.cell? ⟨g, 1, none⟩ = some (.int .i64 y.r) := ob.cell 1
          have d2 : w4.cell? ⟨g, 2, none⟩ = some (.int .i64 y.h) := ob.cell 2
          have r1 : w4.cell? ⟨b, 1, none⟩ = some (.int .i64 R) := (below_own b2 HO3.out hb3).cell 1
          by_cases e1 : y.r < R
          · have g1 : decide (y.r < R) = true := by simpa using e1
            by_cases e2 : sn < 3
            · have g2 : decide (sn < 3) = true := by simpa using e2
              have g3 : decide ((sn : Int) < 3) = true := by simp; omega
              have HNE : Hid (f3 R L (k + 1) = S ++ [y]) := Lib.hid (by rw [f3_yes (by rw [HLen.out]; exact hlt2) (by rw [HY.out]; exact e1) (by rw [HS.out, HSN.out]; exact e2), HS.out, HY.out])
              clear e1 e2
              go_quiet (fail)
              go_upto_region 16 with (fail)
              generalize hw5 : w4.drewN _ = w5
              have b5 : Below w3.heap.size w3 w5 := by rw [← hw5]; exact below_drewN b2 _
              have W5 : MineK w5 w3.heap.size 61 3 (.slice a4 sn c4) sn (pv S) := by rw [← hw5]; exact hW2.drewN _
              have o5 : Own w5 g 61 #[.int .i64 y.n, .int .i64 y.r, .int .i64 y.h] := by rw [← hw5]; exact ob.drewN _
              have d0 : w5.cell? ⟨g, 0, none⟩ = some (.int .i64 y.n) := o5.cell 0
              have d1 : w5.cell? ⟨g, 1, none⟩ = some (.int .i64 y.r) := o5.cell 1
              have d2 : w5.cell? ⟨g, 2, none⟩ = some (.int .i64 y.h) := o5.cell 2
              clear hw5 b2 hW2 ob
              have HNM : Hid (sn + 1 ≤ maxLen) := Lib.hid (by unfold maxLen; omega)
              have HR1 := Lib.hid (pv_one_row w5 y)
              have b6 := b5.alloc b5.size (.cells #[.int .i64 y.n, .int .i64 y.r, .int .i64 y.h] 61)
              have hbs6 := b6.size
              go_wp2_with (at_builtin; go_must (refine wp_appK rfl (.tmp 146) (.tmp 148) _ rfl w3.heap.size 61 i0 _ 3 24 Try.underlying39 hi0 hz0 hz1 hz2 rfl (by decide) _ sn (pv S) rfl (W5.alloc _) _ 1 _ (pv [y]) rfl HR1.out (fun i _ => pv_one _ i) HNM.out ?c2 hbs6 ?_))
              case c2 => omega
              intro v7 w7 m7 q7 l7
              have b7 := b6.grown q7 hbs6 (fun q e => by have := (W5.lt q e).1; omega)
              have HW7 : Hid (MineK w7 w3.heap.size 61 3 v7 (f3 R L (k + 1)).length (pv (f3 R L (k + 1)))) := Lib.hid (by
                rw [HNE.out, List.length_append, HSN.out]
                exact m7.ext (fun i _ => by have := f3_snoc S y i; rw [HSN.out] at this; exact this))
              clear m7 q7 l7 W5
              go_wp2_with fail
              exact ⟨⟨k + 1, by simp, by omega, HW7.out, b7⟩, by simp [intOf]; omega⟩
            · have g2 : decide (sn < 3) = false := by simpa using e2
              have g3 : decide ((sn : Int) < 3) = false := by simp; omega
              have HNE : Hid (f3 R L (k + 1) = S) := Lib.hid (by rw [f3_full (by rw [HLen.out]; exact hlt2) (by rw [HS.out, HSN.out]; exact e2), HS.out])
              clear e1 e2
              go_quiet (fail)
              go_wp2_with fail
              generalize hw5 : w4.drewN _ = w5
              have b5 : Below w3.heap.size w3 w5 := by rw [← hw5]; exact below_drewN b2 _
              have HW5 : Hid (MineK w5 w3.heap.size 61 3 (.slice a4 sn c4) (f3 R L (k + 1)).length (pv (f3 R L (k + 1)))) := Lib.hid (by rw [HNE.out, HSN.out, ← hw5]; exact hW2.drewN _)
              clear hw5 b2 hW2 ob
              exact ⟨⟨k + 1, by simp, by omega, HW5.out, b5⟩, by simp [intOf]; omega⟩
          · have g1 : decide (y.r < R) = false := by simpa using e1
            have HNE : Hid (f3 R L (k + 1) = S) := Lib.hid (by rw [f3_no (by rw [HLen.out]; exact hlt2) (by rw [HY.out]; exact e1), HS.out])
            clear e1
            go_quiet (fail)
            go_wp2_with fail
            generalize hw5 : w4.drewN _ = w5
            have b5 : Below w3.heap.size w3 w5 := by rw [← hw5]; exact below_drewN b2 _
            have HW5 : Hid (MineK w5 w3.heap.size 61 3 (.slice a4 sn c4) (f3 R L (k + 1)).length (pv (f3 R L (k + 1)))) := Lib.hid (by rw [HNE.out, HSN.out, ← hw5]; exact hW2.drewN _)
            clear hw5 b2 hW2 ob
            exact ⟨⟨k + 1, by simp, by omega, HW5.out, b5⟩, by simp [intOf]; omega⟩
        · obtain rfl : n = k := by omega
          have hF : f3 R L n = l4 rk l x := by rw [← HLen.out, ← HL2.out, ← HRR.out]; exact f3_all HI.out HE.out
          rw [hF] at hW
          obtain ⟨a5, c5, rfl, _, _, _⟩ := hW.row
          have o5 := below_own b1 HO3.out hb3
          have f2 := o5.free 2
          have r2 : wr.cell? ⟨b, 2, none⟩ = some (.slice a9 n c9) := o5.cell 2
          have h4l : (l4 rk l x).length ≤ 3 := by unfold l4; exact List.length_take_le _ _
          have h5 : Rs (wr.setCell ⟨b, 2, none⟩ (.slice a5 (l4 rk l x).length c5)) base b me R (l4 rk l x) (.slice a5 (l4 rk l x).length c5) := ⟨o5.put 2 _, rrow_put (mk_low hW (by omega)) (fun e => by have := (hW.lt b e).1; omega) 2 _, by omega, hlow⟩
          have j5 : Just b w (wr.setCell ⟨b, 2, none⟩ (.slice a5 (l4 rk l x).length c5)) := j3.trans ((show Just b w3 wr from ⟨b1.os, b1.tape, b1.output, b1.size, fun q hq _ => b1.block q hq⟩).put 2 _)
          have H5 := Lib.hid h5
          have J5 := Lib.hid j5
          have HF4 := Lib.hid hF
          clear hW b1 j3 h5 j5 hF h4l o5
          go_upto_region 19 with (fail)
          generalize wr.setCell ⟨b, 2, none⟩ (.slice a5 (l4 rk l x).length c5) = w6 at *
          go_wp2_with fail
          refine (rrko_any base b me R (l4 rk l x) (.slice a5 (l4 rk l x).length c5) x.n w6 H5.out).mono ?_
          rintro r w7 ⟨rfl, b7⟩
          go_wp2_with fail
          go_ret
          refine ⟨?_, .slice a5 (l4 rk l x).length c5, ?_, J5.out.trans ⟨b7.os, b7.tape, b7.output, b7.size, fun q hq _ => b7.block q hq⟩⟩
          · unfold hearB
            rw [if_pos HF.out, if_neg (by have := HE.out; omega)]
            rfl
          · unfold hearR hearL
            rw [if_pos HF.out, if_neg (by have := HE.out; omega), if_pos HF.out, if_neg (by have := HE.out; omega), HRR.out]
            exact H5.out.below b7
end Go.Proofs.Ytjboilkbcajkcaa.Pa
