/-
  Package tree (chapter 21): Order.
-/
import Derived.Test.YtahcplddonipcaaGreatTrOrdM
import Derived.Test.YtahcplddonipcaaGreatTrMore
set_option maxRecDepth 100000
namespace Go.Proofs.YtahcplddonipcaaGreat.Tr
set_option linter.unusedVariables false
set_option linter.unusedSimpArgs false
open Go.RowKit Lb Tp Go.Sort Go.Shelf Go.Lib

def encF (x : Fin 16) : Value := .int .i64 ((x.val : Nat) : Int)
set_option maxHeartbeats 2000000 in
theorem co_any (t tb : Nat) (R : Rk) (P : Nat → Value) (x y : Fin 16) (w : World) (hT : Tb w t R P) (o1 : w.cell? ⟨tb, 0, none⟩ = some (.pointer (some ⟨t, 0, none⟩))) :
    Calls Tryz.prog 43 #[encF x, encF y, .pointer (some ⟨tb, 0, none⟩)] w fun r w' => r = .returned (.int .i64 (cfR R x y)) ∧ ∃ q, w' = w.drewN q := by
  obtain ⟨a, ha⟩ := x
  obtain ⟨b, hb⟩ := y
  have c1 := hT.rank ha
  have c2 := hT.rank hb
  unfold encF cfR
  dsimp only
  obtain ⟨p, hp⟩ : ∃ p, rkI R a = p := ⟨_, rfl⟩
  obtain ⟨q, hq⟩ : ∃ p, rkI R b = p := ⟨_, rfl⟩
  rw [hp] at c1 ⊢
  rw [hq] at c2 ⊢
  have g1 : (a : Int) < 16 := by omega
  have g2 : (b : Int) < 16 := by omega
  clear hT hp hq
  go_enter Tryz.func43, Tryz.ntmps43
  go_wp2_with fail
  go_quiet ((go_at_call 41; exact quiet_left (compare_any p q _)))
  go_wp2_with fail
  go_ret
  exact ⟨rfl, _, rfl⟩
theorem oneF : OneCell encF := fun _ => rfl
set_option maxHeartbeats 2000000 in
theorem stab_any (t tb blk cap : Nat) (R : Rk) (P : Nat → Value) (d : Array (Fin 16)) (w : World) (hT : Tb w t R P) (o1 : w.cell? ⟨tb, 0, none⟩ = some (.pointer (some ⟨t, 0, none⟩)))
    (h1 : t ≠ blk) (h2 : tb ≠ blk) (hH : Holds encF w blk 0 d) (hblk : blk < w.heap.size) (hsz : d.size ≤ 16) (hcap : d.size ≤ cap) (hcap2 : cap ≤ maxLen) :
    Calls Tryz.prog 42 #[.slice (some ⟨blk, 0, none⟩) d.size cap, .func (.func 43) #[] #[.pointer (some ⟨tb, 0, none⟩)]] w fun e w' =>
      e = .returned (.tuple #[]) ∧ Holds encF w' blk 0 (insertionSort (ltOf (cfR R)) d 0 d.size) ∧ (insertionSort (ltOf (cfR R)) d 0 d.size).size = d.size ∧ Just blk w w' := by
  have eg : ∀ args w, (callFunc 43 args).run Tryz.prog w = .ok (.enter 43 args) w := enters_of Tryz.func43 (by kernel_rfl) rfl
  have hcmp : CmpReads Tryz.prog 43 #[.pointer (some ⟨tb, 0, none⟩)] encF (cfR R) blk 0 d.size w := fun m os dk _ x y => by
    have j := just_sort1 encF w blk 0 m dk os
    exact co_any t tb R P x y _ (j.blk hT h1) ((World.cell?_of_block (a := ⟨tb, 0, none⟩) (j.block tb (lt_of_cell o1) h2)).trans o1)
  have hI := Any.insertionSortCmpFunc_one insI encF oneF (cfR R) 43 _ blk 0 cap 0 d.size d w eg hcmp hH (Nat.zero_le _) (Nat.le_refl _) (by omega)
  have hss : (insertionSort (ltOf (cfR R)) d 0 d.size).size = d.size := sort_size d 0 d.size
  have hlt : (d.size : Int) < 20 := by omega
  unfold maxLen at hcap2
  obtain ⟨n, hn⟩ : ∃ n, d.size = n := ⟨_, rfl⟩
  have HS := Lib.hid hss
  have HH := Lib.hid hH
  have HN := Lib.hid hn
  rw [hn] at hI hlt hcap ⊢
  have HI : Hid (Calls Tryz.prog 96 #[.slice (some ⟨blk, 0, none⟩) n cap, .int .i64 0, .int .i64 n, .func (.func 43) #[] #[.pointer (some ⟨tb, 0, none⟩)]] w fun e w' => e = .returned (.tuple #[]) ∧ ∃ m, w' = (putRow encF w blk 0 (insertionSort (ltOf (cfR R)) d 0 n)).drewN m) := Lib.hid hI
  have hn63 : (n : Int) ≤ 9223372036854775807 := by omega
  have hc63 : (cap : Int) ≤ 9223372036854775807 := by omega
  clear hn hss hH hI hcmp hT o1 hsz
  have hC : Calls Tryz.prog 64 #[.slice (some ⟨blk, 0, none⟩) n cap, .int .i64 n, .func (.func 43) #[] #[.pointer (some ⟨tb, 0, none⟩)]] w fun e w' =>
      e = .returned (.tuple #[]) ∧ ∃ m, w' = (putRow encF w blk 0 (insertionSort (ltOf (cfR R)) d 0 n)).drewN m := by
    go_enter Tryz.func64, Tryz.ntmps64
    go_wp2_with fail
    refine wp_loop_rounds 1 ?_
    rw [rounds_succ]
    go_wp2_with fail
    refine HI.out.mono ?_
    rintro r w5 ⟨rfl, m, rfl⟩
    generalize hw5 : (putRow encF w blk 0 (insertionSort (ltOf (cfR R)) d 0 n)).drewN m = w5
    have HW := Lib.hid hw5
    clear hw5
    go_wp2_with fail
    refine wp_loop_rounds 1 ?_
    rw [rounds_succ]
    go_wp2_with fail
    go_end0
    exact ⟨rfl, m, HW.out.symm⟩
  go_enter Tryz.func42, Tryz.ntmps42
  go_wp2_with fail
  refine hC.mono ?_
  rintro r w5 ⟨rfl, m, hw5⟩
  have HW := Lib.hid hw5
  clear hw5
  go_wp2_with fail
  go_end0
  have hw5 := HW.out
  have hn2 := HN.out
  subst hn2
  subst hw5
  refine ⟨rfl, fun j hj => holds_putRow encF w blk 0 d _ HH.out HS.out j hj, HS.out, ?_⟩
  exact ⟨rfl, rfl, rfl, by show w.heap.size ≤ (w.heap.modify blk _).size; simp, fun b hb hne => by
    show (w.heap.modify blk _)[b]? = _
    rw [Array.getElem?_modify, if_neg (fun e => hne e.symm)]⟩
theorem rowF_of {w : World} {g : Nat} {d : Array (Fin 16)} {l : List Nat} (h : Holds encF w g 0 d) (e : d.toList.map Fin.val = l) (hg : g < w.heap.size) : Row w (some ⟨g, 0, none⟩) l.length (ln l) := by
  subst e
  intro _
  refine ⟨g, 0, rfl, hg, fun j hj => ?_⟩
  have hj2 : j < d.size := by simpa using hj
  rw [(h j hj2).1, getElem!_pos d j hj2]
  unfold ln encF
  rw [List.getD_eq_getElem?_getD, List.getElem?_eq_getElem hj]
  simp
theorem holdsF_mine {w : World} {g : Nat} {cs : Array Value} {d : Array (Fin 16)} {l : List Nat} (h : Own w g 3 cs) (e : d.toList.map Fin.val = l) (hc : ∀ i, i < l.length → cs[i]? = some (ln l i)) : Holds encF w g 0 d := by
  subst e
  intro j hj
  have hj2 : j < (d.toList.map Fin.val).length := by simpa using hj
  refine ⟨?_, h.free _⟩
  rw [Nat.zero_add, h.cell, hc j hj2, getElem!_pos d j hj]
  unfold ln encF
  rw [List.getD_eq_getElem?_getD, List.getElem?_eq_getElem hj2]
  simp
def rkK (R : Rk) (k : Nat) : List Nat := (List.range k).filter fun i => (R i).isSome
theorem rkK_next (R : Rk) (k : Nat) : rkK R (k + 1) = rkK R k ++ if (R k).isSome then [k] else [] := by
  unfold rkK
  rw [List.range_succ, List.filter_append, List.filter_cons, List.filter_nil]
theorem rkK_len (R : Rk) (k : Nat) : (rkK R k).length ≤ k := by
  unfold rkK
  refine Nat.le_trans (List.length_filter_le _ _) ?_
  rw [List.length_range]
  exact Nat.le_refl _
theorem ordT_len {R : Rk} (hs : ∀ x s, R x = some s → s ≤ 15) : (ordT R).length = (rkK R 16).length := by
  rw [← ordF_val, List.length_map, (ordF_perm hs).length_eq]
  unfold rkK
  rw [← rnkF_val, List.length_map]
set_option maxHeartbeats 4000000 in
theorem order_any (t : Nat) (R : Rk) (P : Nat → List Nat) (w : World) (h : Tre w t R P) (h0 : R 0 = some 0) (hs : ∀ x s, R x = some s → s ≤ 15) :
    Calls Tryz.prog 15 #[.pointer (some ⟨t, 0, none⟩)] w fun r w' => ∃ A c, r = .returned (.slice A (ordT R).length c) ∧ Rl w' w.heap.size A c (ordT R) ∧ RowKit.Below w.heap.size w w' := by
  obtain ⟨A, K, hT, hR⟩ := h
  obtain ⟨i0, hi0, hz0, hz1, hz2⟩ := info_parts infoT
  have ob := Own.new w 32 #[.pointer (some ⟨t, 0, none⟩)]
  have b0 := (Below.refl w.heap.size w).alloc (Nat.le_refl _) (.cells #[.pointer (some ⟨t, 0, none⟩)] 32)
  obtain ⟨tb, htb⟩ : ∃ q, w.heap.size = q := ⟨_, rfl⟩
  have hsz : (w.alloc (.cells #[.pointer (some ⟨t, 0, none⟩)] 32)).heap.size = tb + 1 := by rw [← htb]; simp
  rw [htb] at ob b0 ⊢
  have hlt0 : t < tb := htb ▸ Blk.lt hT
  have hT0 := below_blk b0 hT hlt0
  have HTB := Lib.hid htb
  have HH0 := Lib.hid h0
  have HHS := Lib.hid hs
  clear htb hT hR h0 hs
  go_enter Tryz.func15, Tryz.ntmps15
  go_upto_region 1 with (fail)
  generalize w.alloc (.cells #[.pointer (some ⟨t, 0, none⟩)] 32) = w0 at *
  have c0 : w0.cell? ⟨tb, 0, none⟩ = some (.pointer (some ⟨t, 0, none⟩)) := ob.cell 0
  rw [HTB.out]
  go_wp2_with fail
  clear c0
  go_loopw [3, 7] (fun v i wr => ∃ k : Nat, i = .int .i64 k ∧ k ≤ 16 ∧ Mine wr (tb + 1) 3 v (rkK R k).length (ln (rkK R k)) ∧ RowKit.Below (tb + 1) w0 wr) (fun _ i _ => 16 - (intOf i).toNat)
  case atStart => exact ⟨0, rfl, by omega, Mine.nil _ _ _ _, Below.refl _ _⟩
  case round =>
    obtain ⟨k, rfl, hk, hv, bb⟩ := hrel
    have o2 := below_own bb ob (by omega)
    have c0 : wr.cell? ⟨tb, 0, none⟩ = some (.pointer (some ⟨t, 0, none⟩)) := o2.cell 0
    have hT2 := below_blk bb hT0 (by omega)
    have hsb := bb.size
    rw [hsz] at hsb
    by_cases hlt : k < 16
    · have hnx := rkK_next R k
      have hkl := rkK_len R k
      have PH := has_any t R _ (k : Int) wr hT2
      rw [hasT_nat R hlt] at PH
      obtain ⟨b, hb⟩ : ∃ b, (R k).isSome = b := ⟨_, rfl⟩
      rw [hb] at PH hnx
      have g1 : (k : Int) < 16 := by omega
      clear hb
      cases b with
      | false =>
        have HNX : Hid (rkK R (k + 1) = rkK R k) := Lib.hid (by rw [hnx]; simp)
        clear hnx
        go_wp2_with fail
        refine PH.mono ?_
        rintro r w5 ⟨rfl, rfl⟩
        go_wp2_with fail
        exact ⟨⟨k + 1, by simp [intOf], by omega, by rw [HNX.out]; exact hv, bb⟩, by simp [intOf]; omega⟩
      | true =>
        have HNX : Hid (rkK R (k + 1) = rkK R k ++ [k]) := Lib.hid (by rw [hnx]; simp)
        have hm : (rkK R k).length + 1 ≤ maxLen := by unfold maxLen; omega
        have Hm := Lib.hid hm
        clear hnx hm
        go_wp2_with fail
        refine PH.mono ?_
        rintro r w5 ⟨rfl, rfl⟩
        go_wp2_with (at_builtin; go_must (refine wp_app rfl (.tmp 13) (.tmp 15) _ rfl (tb + 1) 3 i0 _ 8 Tryz.underlying29 hi0 hz0 hz1 hz2 rfl _ (rkK R k).length (ln (rkK R k)) rfl (hv.alloc _) _ 1 _ (fun _ => .int .i64 (k : Int)) rfl (row_new _ _ _ _ (fun i hi => by obtain rfl : i = 0 := (by omega); rfl)) (fun _ _ => rfl) Hm.out ?c2 ?c3 ?_))
        case c2 => omega
        case c3 => first | omega | (simp; omega)
        intro v' w5 hv5 hg5
        have b5 : RowKit.Below (tb + 1) w0 w5 := (bb.alloc hsb _).grown hg5 (by simp; omega) (fun q hq => (hv.lt q hq).1)
        have hv6 : Mine w5 (tb + 1) 3 v' (rkK R (k + 1)).length (ln (rkK R (k + 1))) := by
          rw [HNX.out, List.length_append]
          exact hv5.ext (fun q hq => ln_snoc _ _ _ hq)
        clear hv hv5 bb
        go_wp2_with fail
        exact ⟨⟨k + 1, by simp [intOf], by omega, hv6, b5⟩, by simp [intOf]; omega⟩
    · obtain rfl : k = 16 := by omega
      have hpos : 0 < (rkK R 16).length := by
        have : 0 ∈ rkK R 16 := List.mem_filter.2 ⟨by simp, by rw [HH0.out]; rfl⟩
        exact List.length_pos_of_mem this
      obtain ⟨bk, cs, rfl, hb, ho, h5, h6, h7⟩ := hv.block hpos
      have hd : ((rnkF R).toArray).toList.map Fin.val = rkK R 16 := by
        rw [List.toList_toArray, rnkF_val]
        rfl
      have hh := holdsF_mine ho hd h7
      have hdl : (rnkF R).toArray.size = (rkK R 16).length := by rw [← hd]; simp
      have hkl := rkK_len R 16
      have hS := stab_any t tb bk cs.size R _ (rnkF R).toArray wr hT2 c0 (by omega) (by omega) hh ho.lt (by omega) (by omega) h6
      have hso := ord_sorted HHS.out (rnkF R).toArray (by simp)
      rw [hdl] at hS
      have HSO := Lib.hid hso
      have HDL := Lib.hid hdl
      have hblt := ho.lt
      obtain ⟨m, hm⟩ : ∃ m, (rkK R 16).length = m := ⟨_, rfl⟩
      rw [hm] at hS h5 hkl ⊢
      have HM := Lib.hid hm
      obtain ⟨C, hC⟩ : ∃ C, cs.size = C := ⟨_, rfl⟩
      rw [hC] at hS h5 h6 ⊢
      have h6' := h6
      unfold maxLen at h6'
      have hm63 : (m : Int) ≤ 9223372036854775807 := by omega
      have hc63 : (C : Int) ≤ 9223372036854775807 := by omega
      clear hd hh hdl hso hm hC h7 ho hv hT2 hpos
      go_wp2_with fail
      refine hS.mono ?_
      rintro r w6 ⟨rfl, hH, hss, j⟩
      have b6 := j.below bb (by omega) (by omega)
      clear hS
      go_wp2_with fail
      go_ret
      have hl : (ordT R).length = m := by rw [ordT_len HHS.out, HM.out]
      refine ⟨some ⟨bk, 0, none⟩, C, by rw [hl]; rfl, ⟨by rw [hl]; exact h5, h6, ?_, fun _ q e => ?_⟩, ?_⟩
      · refine rowF_of (d := insertionSort (ltOf (cfR R)) (rnkF R).toArray 0 (rkK R 16).length) ?_ ?_ (Nat.lt_of_lt_of_le hblt j.size)
        · rw [HM.out, ← HM.out, ← HDL.out]
          have := hH
          rw [← HM.out, ← HDL.out] at this
          exact this
        · rw [← HDL.out, HSO.out, ordF_val]
      · have e : bk = q := by simpa using e
        omega
      · exact b0.trans (b6.mono (Nat.le_succ tb))
theorem order_nil (w : World) :
    Calls Tryz.prog 15 #[.pointer none] w fun r w' => r = .returned (.slice none 0 0) ∧ RowKit.Below w.heap.size w w' := by
  have ob := Own.new w 32 #[.pointer none]
  have b0 := (Below.refl w.heap.size w).alloc (Nat.le_refl _) (.cells #[.pointer none] 32)
  go_enter Tryz.func15, Tryz.ntmps15
  go_upto_region 1 with (fail)
  have c0 : (w.alloc (.cells #[.pointer none] 32)).cell? ⟨w.heap.size, 0, none⟩ = some (.pointer none) := ob.cell 0
  go_wp2_with fail
  go_ret
  exact ⟨rfl, b0⟩
end Go.Proofs.YtahcplddonipcaaGreat.Tr
