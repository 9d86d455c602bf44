/-
  The reference's tree (chapter 21): Children, Order, Path.
-/
import Derived.Test.YthdgnnjnkeljmaaTrRWalks
import Derived.Test.YthdgnnjnkeljmaaTrMore
import Derived.Test.YthdgnnjnkeljmaaTrOrdM
set_option maxRecDepth 100000
namespace Go.Proofs.Ythdgnnjnkeljmaa.Tr
set_option linter.unusedVariables false
open Go.RowKit Lb Tp

set_option maxHeartbeats 4000000 in
theorem rkids_any (t : Nat) (R : Rk) (P : Nat → List Nat) (n : Int) (w : World) (h : RTre w t R P) :
    Calls Try.prog 19 #[.pointer (some ⟨t, 0, none⟩), .int .i64 n] w fun r w' => ∃ A c, r = .returned (.slice A (kidK P n 16).length c) ∧ Rl w' w.heap.size A c (kidK P n 16) ∧ RowKit.Below w.heap.size w w' := by
  obtain ⟨A, K, hT, hR⟩ := h
  obtain ⟨i0, hi0, hz0, hz1, hz2⟩ := info_parts infoT
  have HI := Lib.hid (fun k (hk : k < 16) w => index_s A (fun x => (P x).length) K k hk w)
  have HR := Lib.hid hR
  have hp := hT.pars
  obtain ⟨cs, hcs⟩ : ∃ cs, l16 (fun x => .slice (A x) (P x).length (K x)) = cs := ⟨_, rfl⟩
  have hl : cs.length = 16 := by rw [← hcs]; rfl
  rw [hcs] at HI hp
  have HP := Lib.hid hp
  clear hT hR hcs hp
  go_enter Try.func19, Try.ntmps19
  go_wp2_with (refine wpList_load_mid rfl 61 _ rfl t 16 rfl cs _ HP.out Try.underlying61 rfl (by rw [hl]; kernel_rfl) ?_)
  go_loopw [5, 12] (fun v i wr => ∃ k : Nat, i = .int .i64 k ∧ k ≤ 16 ∧ Mine wr w.heap.size 3 v (kidK P n k).length (ln (kidK P n k)) ∧ RowKit.Below w.heap.size w wr) (fun _ i _ => 16 - (intOf i).toNat)
  case atStart => exact ⟨0, rfl, by omega, Mine.nil _ _ _ _, Below.refl _ _⟩
  case round =>
    obtain ⟨k, rfl, hk, hv, bb⟩ := hrel
    by_cases hlt : k < 16
    · have hix := HI.out k hlt
      have hnx := kidK_next P n k
      have hkl := kidK_len P n k
      have hRk := (HR.out k hlt).row
      obtain ⟨A0, hA0⟩ : ∃ b, A k = b := ⟨_, rfl⟩
      obtain ⟨K0, hK0⟩ : ∃ b, K k = b := ⟨_, rfl⟩
      rw [hA0, hK0] at hix
      rw [hA0] at hRk
      have g1 : (k : Int) < 16 := by omega
      have hs0 := bb.size
      clear hA0 hK0
      cases hPk : P k with
      | nil =>
        rw [hPk] at hix
        rw [List.length_nil] at hix
        have hy : kidB P n k = false := by unfold kidB; rw [hPk]
        have HNX : Hid (kidK P n (k + 1) = kidK P n k) := Lib.hid (by rw [hnx, hy]; simp)
        clear hPk hy hnx hRk
        go_wp2_with fail
        exact ⟨⟨k + 1, by simp [intOf], by omega, by rw [HNX.out]; exact hv, bb⟩, by simp [intOf]; omega⟩
      | cons p l =>
        rw [hPk] at hix hRk
        obtain ⟨bo, off, hAe, hbo, d0⟩ := hRk.at_ (k := 0) (by simp)
        have d0 : w.cell? ⟨bo, off, none⟩ = some (.int .i64 (p : Int)) := d0
        obtain ⟨ll, hll⟩ : ∃ q, (p :: l).length = q := ⟨_, rfl⟩
        have hlp : 0 < ll := by rw [← hll]; simp
        rw [hll] at hix
        subst hAe
        have d1 := (bb.cell (p := ⟨bo, off, none⟩) hbo).trans d0
        by_cases hpn : (p : Int) = n
        · have hy : kidB P n k = true := by unfold kidB; rw [hPk]; simpa using hpn
          have HNX : Hid (kidK P n (k + 1) = kidK P n k ++ [k]) := Lib.hid (by rw [hnx, hy]; simp)
          have g3 : ((p : Int) == n) = true := by simpa using hpn
          have hm : (kidK P n k).length + 1 ≤ maxLen := by unfold maxLen; omega
          have Hm := Lib.hid hm
          clear hPk hy hnx hRk d0 hll hpn hm
          go_wp2_with (at_builtin; go_must (refine wp_app rfl (.tmp 26) (.tmp 28) _ rfl w.heap.size 3 i0 _ 8 Try.underlying33 hi0 hz0 hz1 hz2 rfl _ (kidK P n k).length (ln (kidK P n k)) rfl (hv.alloc _) _ 1 _ (fun _ => .int .i64 (k : Int)) rfl (row_new _ _ _ _ (fun i hi => by obtain rfl : i = 0 := (by omega); rfl)) (fun _ _ => rfl) Hm.out ?c2 ?c3 ?_))
          case c2 => omega
          case c3 => first | omega | (simp; omega)
          intro v' w5 hv5 hg5
          have b5 : RowKit.Below w.heap.size w w5 := (bb.alloc hs0 _).grown hg5 (by simp; omega) (fun q hq => (hv.lt q hq).1)
          have hv6 : Mine w5 w.heap.size 3 v' (kidK P n (k + 1)).length (ln (kidK P n (k + 1))) := by
            rw [HNX.out, List.length_append]
            exact hv5.ext (fun q hq => ln_snoc _ _ _ hq)
          clear hv hv5 bb
          go_wp2_with fail
          exact ⟨⟨k + 1, by simp [intOf], by omega, hv6, b5⟩, by simp [intOf]; omega⟩
        · have hy : kidB P n k = false := by unfold kidB; rw [hPk]; simpa using hpn
          have HNX : Hid (kidK P n (k + 1) = kidK P n k) := Lib.hid (by rw [hnx, hy]; simp)
          have g3 : ((p : Int) == n) = false := by simpa using hpn
          clear hPk hy hnx hRk d0 hll hpn
          go_wp2_with fail
          exact ⟨⟨k + 1, by simp [intOf], by omega, by rw [HNX.out]; exact hv, bb⟩, by simp [intOf]; omega⟩
    · obtain rfl : k = 16 := by omega
      obtain ⟨A5, c5, rfl, h5⟩ := Rl.of hv
      go_wp2_with fail
      go_ret
      exact ⟨A5, c5, rfl, h5, bb⟩
/-- The order so far. -/
def ordK (R : Rk) (r k : Nat) : List Nat := (List.range r).flatMap (rowAt R) ++ (List.range k).filter fun i => R i == some r
theorem ordK_next (R : Rk) (r k : Nat) : ordK R r (k + 1) = ordK R r k ++ if R k == some r then [k] else [] := by
  unfold ordK
  rw [List.range_succ (n := k), List.filter_append, List.filter_cons, List.filter_nil, List.append_assoc]
theorem ordK_row (R : Rk) (r : Nat) : ordK R (r + 1) 0 = ordK R r 16 := by
  unfold ordK rowAt
  rw [List.range_succ (n := r), List.flatMap_append]
  simp
theorem ordK_end (R : Rk) : ordK R 16 0 = ordT R := by
  unfold ordK ordT
  simp
theorem ordK_len (R : Rk) : ∀ r k, (ordK R r k).length ≤ r * 16 + k
  | 0, 0 => by simp [ordK]
  | r + 1, 0 => by
    rw [ordK_row]
    have := ordK_len R r 16
    omega
  | r, k + 1 => by
    rw [ordK_next, List.length_append]
    have := ordK_len R r k
    split <;> simp <;> omega
  termination_by r k => (r, k)
set_option maxHeartbeats 4000000 in
theorem rorder_any (t : Nat) (R : Rk) (P : Nat → Value) (w : World) (h : RTb w t R P) :
    Calls Try.prog 13 #[.pointer (some ⟨t, 0, none⟩)] w fun r w' => ∃ A c, r = .returned (.slice A (ordT R).length c) ∧ Rl w' w.heap.size A c (ordT R) ∧ RowKit.Below w.heap.size w w' := by
  obtain ⟨i0, hi0, hz0, hz1, hz2⟩ := info_parts infoT
  have HI := Lib.hid (fun k (hk : k < 16) w => index_i (rI R) k hk w)
  have HT := Lib.hid h
  obtain ⟨cs, hcs⟩ : ∃ cs, l16 (fun x => .int .i64 (rI R x)) = cs := ⟨_, rfl⟩
  have hl : cs.length = 16 := by rw [← hcs]; rfl
  rw [hcs] at HI
  have HC := Lib.hid hcs
  clear h hcs
  go_enter Try.func13, Try.ntmps13
  go_wp2_with fail
  go_loopw [3, 7] (fun v i wr => ∃ r : Nat, i = .int .i64 r ∧ r ≤ 16 ∧ Mine wr w.heap.size 3 v (ordK R r 0).length (ln (ordK R r 0)) ∧ RowKit.Below w.heap.size w wr) (fun _ i _ => 16 - (intOf i).toNat)
  case atStart => exact ⟨0, rfl, by omega, Mine.nil _ _ _ _, Below.refl _ _⟩
  case round =>
    obtain ⟨r, rfl, hr, hv, bb⟩ := hrel
    by_cases hlr : r < 16
    · have g1 : (r : Int) < 16 := by omega
      have hp : wr.rangeAt t 0 cs := HC.out ▸ (HT.out.below bb HT.out.lt).ranks
      go_wp2_with (refine wpList_load_mid rfl 60 _ rfl t 0 rfl cs _ hp Try.underlying60 rfl (by rw [hl]; kernel_rfl) ?_)
      clear hp
      go_loopw [3, 14] (fun v i wz => ∃ k : Nat, i = .int .i64 k ∧ k ≤ 16 ∧ Mine wz w.heap.size 3 v (ordK R r k).length (ln (ordK R r k)) ∧ RowKit.Below w.heap.size w wz) (fun _ i _ => 16 - (intOf i).toNat)
      case atStart => exact ⟨0, rfl, by omega, hv, bb⟩
      case round =>
        clear hv bb
        obtain ⟨k, rfl, hk, hv, bb⟩ := hrel
        by_cases hlt : k < 16
        · have hix := HI.out k hlt
          have hnx := ordK_next R r k
          have hkl := ordK_len R r k
          have g2 : (k : Int) < 16 := by omega
          have hs0 := bb.size
          obtain ⟨x, hx⟩ : ∃ x, rI R k = x := ⟨_, rfl⟩
          rw [hx] at hix
          by_cases hxr : x = (r : Int)
          · have hy : (R k == some r) = true := by
              unfold rI at hx
              cases hR : R k with
              | none => rw [hR] at hx; dsimp only at hx; omega
              | some s => rw [hR] at hx; dsimp only at hx; rw [show s = r by omega]; simp
            have HNX : Hid (ordK R r (k + 1) = ordK R r k ++ [k]) := Lib.hid (by rw [hnx, hy]; simp)
            have g3 : (x == (r : Int)) = true := by simpa using hxr
            have hm : (ordK R r k).length + 1 ≤ maxLen := by unfold maxLen; omega
            have Hm := Lib.hid hm
            clear hy hnx hx hxr hm
            go_wp2_with (at_builtin; go_must (refine wp_app rfl (.tmp 21) (.tmp 23) _ rfl w.heap.size 3 i0 _ 8 Try.underlying33 hi0 hz0 hz1 hz2 rfl _ (ordK R r k).length (ln (ordK R r k)) rfl (hv.alloc _) _ 1 _ (fun _ => .int .i64 (k : Int)) rfl (row_new _ _ _ _ (fun i hi => by obtain rfl : i = 0 := (by omega); rfl)) (fun _ _ => rfl) Hm.out ?c2 ?c3 ?_))
            case c2 => omega
            case c3 => first | omega | (simp; omega)
            intro v' w5 hv5 hg5
            have b5 : RowKit.Below w.heap.size w w5 := (bb.alloc hs0 _).grown hg5 (by simp; omega) (fun q hq => (hv.lt q hq).1)
            have hv6 : Mine w5 w.heap.size 3 v' (ordK R r (k + 1)).length (ln (ordK R r (k + 1))) := by
              rw [HNX.out, List.length_append]
              exact hv5.ext (fun q hq => ln_snoc _ _ _ hq)
            clear hv hv5 bb
            go_wp2_with fail
            exact ⟨⟨k + 1, by simp [intOf], by omega, hv6, b5⟩, by simp [intOf]; omega⟩
          · have hy : (R k == some r) = false := by
              unfold rI at hx
              cases hR : R k with
              | none => simp
              | some s =>
                rw [hR] at hx
                dsimp only at hx
                have : s ≠ r := by omega
                simp [this]
            have HNX : Hid (ordK R r (k + 1) = ordK R r k) := Lib.hid (by rw [hnx, hy]; simp)
            have g3 : (x == (r : Int)) = false := by simpa using hxr
            clear hy hnx hx hxr hkl
            go_wp2_with fail
            exact ⟨⟨k + 1, by simp [intOf], by omega, by rw [HNX.out]; exact hv, bb⟩, by simp [intOf]; omega⟩
        · obtain rfl : k = 16 := by omega
          go_wp2_with fail
          exact ⟨⟨r + 1, by simp [intOf], by omega, by rw [ordK_row]; exact hv, bb⟩, by simp [intOf]; omega⟩
    · obtain rfl : r = 16 := by omega
      rw [ordK_end] at hv
      obtain ⟨A5, c5, rfl, h5⟩ := Rl.of hv
      go_wp2_with fail
      go_ret
      exact ⟨A5, c5, rfl, h5, bb⟩
/-- A path from its end. -/
def pathB (P : Nat → List Nat) (n k : Nat) : List Nat := (List.range (k + 1)).map fun j => anc P n (k - j)
theorem pathB_next (P : Nat → List Nat) (n k : Nat) : pathB P n (k + 1) = anc P n (k + 1) :: pathB P n k := by
  unfold pathB
  rw [List.range_succ_eq_map, List.map_cons, List.map_map]
  congr 1
  apply List.map_congr_left
  intro j _
  show anc P n (k + 1 - (j + 1)) = _
  congr 1
  omega
set_option maxHeartbeats 4000000 in
theorem rpath_any (t : Nat) (R : Rk) (P : Nat → List Nat) (x : Int) (w : World) (h : RTre w t R P) (hF : Firsts R P) :
    Calls Try.prog 21 #[.pointer (some ⟨t, 0, none⟩), .int .i64 x] w fun r w' => ∃ A c, r = .returned (.slice A (pathsT R P x).length c) ∧ Rl w' w.heap.size A c (pathsT R P x) ∧ RowKit.Below w.heap.size w w' := by
  obtain ⟨A, K, hT, hR⟩ := h
  have PH := Lib.hid (rrank_any t R _ x w hT)
  cases hx : hasT R x
  · rw [hx] at PH
    have HD : Hid (pathsT R P x = []) := Lib.hid (by unfold pathsT; rw [hx]; rfl)
    clear hx hT hR
    go_enter Try.func21, Try.ntmps21
    go_wp2_with fail
    refine PH.out.mono ?_
    rintro r w' ⟨rfl, rfl⟩
    go_wp2_with fail
    go_ret
    exact ⟨none, 0, by rw [HD.out]; rfl, by rw [HD.out]; exact Rl.nil _ _, Below.refl _ _⟩
  · rw [hx] at PH
    obtain ⟨n, r0, rfl, hn, hr⟩ := hasT_yes hx
    have hr15 := hF.small n r0 hr
    have HD : Hid (pathsT R P (n : Int) = pathB P n r0) := Lib.hid (by
      unfold pathsT pathT pathB
      rw [hx, if_pos rfl, show ((n : Int)).toNat = n by omega, hr])
    have hanc := fun k hk => anc_rank hF hn hr k hk
    have hlast : anc P n r0 = 0 := hF.only _ (by have := (hanc r0 (Nat.le_refl _)).1; rw [Nat.sub_self] at this; exact this)
    have HANC := Lib.hid hanc
    have HLAST := Lib.hid hlast
    have HR := Lib.hid hR
    have HT := Lib.hid hT
    obtain ⟨i0, hi0, hz0, hz1, hz2⟩ := info_parts infoT
    have hv0 : Mine (w.alloc (.cells #[.int .i64 (n : Int)] 3)) w.heap.size 3 (.slice (some ⟨w.heap.size, 0, none⟩) 1 1) (pathB P n 0).length (ln (pathB P n 0)) := Mine.made (Own.new _ _ _) (Nat.le_refl _) (by unfold maxLen; simp) (by simp) (fun i hi => by
      obtain rfl : i = 0 := by simpa [pathB] using hi
      rfl)
    have bb0 := (Below.refl w.heap.size w).alloc (Nat.le_refl _) (.cells #[.int .i64 (n : Int)] 3)
    clear hx hanc hlast hR hT hr
    go_enter Try.func21, Try.ntmps21
    go_wp2_with fail
    refine PH.out.mono ?_
    rintro r w' ⟨rfl, rfl⟩
    go_wp2_with fail
    go_loopw [1, 7, 18] (fun nd v i wr => ∃ k : Nat, i = .int .i64 k ∧ k ≤ r0 ∧ nd = .int .i64 ((anc P n k : Nat) : Int) ∧ Mine wr w.heap.size 3 v (pathB P n k).length (ln (pathB P n k)) ∧ RowKit.Below w.heap.size w wr) (fun _ _ i _ => 16 - (intOf i).toNat)
    case atStart => exact ⟨0, rfl, by omega, rfl, hv0, bb0⟩
    case round =>
      clear hv0 bb0
      obtain ⟨k, rfl, hk, rfl, hv, bb⟩ := hrel
      have g1 : (k : Int) < 16 := by omega
      by_cases hlt : k < r0
      · obtain ⟨hrk, h16⟩ := HANC.out k (by omega)
        obtain ⟨p, l, hP, _, _⟩ := hF.first _ (r0 - k - 1) (by rw [hrk]; congr 1; omega)
        have hnx : anc P n (k + 1) = p := by unfold anc; rw [hP]; rfl
        have hnz : anc P n k ≠ 0 := fun e => by
          rw [e] at hrk
          have h0 := (HANC.out r0 (Nat.le_refl _)).1
          rw [HLAST.out, hrk] at h0
          injection h0 with h0
          omega
        obtain ⟨a, ha⟩ : ∃ a, anc P n k = a := ⟨_, rfl⟩
        rw [ha] at hP h16 hnz ⊢
        have c2 := (HT.out.below bb HT.out.lt).par h16
        rw [hP] at c2
        have hra := (HR.out a h16)
        rw [hP] at hra
        obtain ⟨bo, off, hAe, hbo, d0⟩ := row_ln (hra.row.below bb) (Below.refl _ _) (k := 0) (by simp)
        have d0 : wr.cell? ⟨bo, off, none⟩ = some (.int .i64 (p : Int)) := d0
        obtain ⟨cA, hcA⟩ : ∃ q, K a = q := ⟨_, rfl⟩
        obtain ⟨ll, hll⟩ : ∃ q, (p :: l).length = q := ⟨_, rfl⟩
        have hlp : 0 < ll := by rw [← hll]; simp
        rw [hAe, hcA, hll] at c2
        have g5 : (a : Int) < 16 := by omega
        have g6 : ((a : Int) == 0) = false := by simpa using hnz
        have hs0 := bb.size
        obtain ⟨A1, c1, rfl, h1⟩ := Rl.of hv
        have hplen : (pathB P n k).length = k + 1 := by unfold pathB; simp
        have HPL := Lib.hid hplen
        have hR1 : Row (wr.alloc (.cells #[.int .i64 (p : Int)] 3)) A1 (pathB P n k).length (ln (pathB P n k)) := h1.row.below ((Below.refl _ _).alloc (Nat.le_refl _) _)
        have hm1 : Mine (wr.alloc (.cells #[.int .i64 (p : Int)] 3)) w.heap.size 3 (.slice (some ⟨wr.heap.size, 0, none⟩) 1 1) 1 (fun _ => .int .i64 (p : Int)) := Mine.made (Own.new _ _ _) hs0 (by unfold maxLen; simp) (by simp) (fun i hi => by
          obtain rfl : i = 0 := by omega
          rfl)
        have hm : 1 + (pathB P n k).length ≤ maxLen := by rw [hplen]; unfold maxLen; omega
        have Hm := Lib.hid hm
        have HNX : Hid (anc P n (k + 1) = p) := Lib.hid hnx
        have bx := bb.alloc hs0 (.cells #[.int .i64 (p : Int)] 3)
        have hsx : w.heap.size ≤ (wr.alloc (.cells #[.int .i64 (p : Int)] 3)).heap.size := by simp; omega
        clear hra hP hrk hnx hAe hcA hll hbo ha hnz hv h1 hm hplen bb
        go_wp2_with (at_builtin; go_must (refine wp_app rfl (.tmp 31) (.tmp 32) _ rfl w.heap.size 3 i0 _ 8 Try.underlying33 hi0 hz0 hz1 hz2 rfl _ 1 (fun _ => .int .i64 (p : Int)) rfl hm1 _ (pathB P n k).length _ (ln (pathB P n k)) rfl hR1 (fun i _ => by unfold ln; first | rfl | (split <;> rfl)) Hm.out ?c2 ?c3 ?_))
        case c2 => rw [HPL.out]; omega
        case c3 => first | omega | (simp; omega)
        intro v' w5 hv5 hg5
        have b5 : RowKit.Below w.heap.size w w5 := bx.grown hg5 hsx (fun q hq => (hm1.lt q hq).1)
        have hv6 : Mine w5 w.heap.size 3 v' (pathB P n (k + 1)).length (ln (pathB P n (k + 1))) := by
          rw [pathB_next, HNX.out, List.length_cons, Nat.add_comm]
          exact hv5.ext (fun q hq => by
            cases q with
            | zero => rw [if_pos (by decide)]; rfl
            | succ q => rw [if_neg (by omega), ln_cons]; rfl)
        have hnd : Value.int .i64 (p : Int) = .int .i64 ((anc P n (k + 1) : Nat) : Int) := by rw [HNX.out]
        have HND := Lib.hid hnd
        clear hm1 hR1 hv5 bx hnd
        go_wp2_with fail
        exact ⟨⟨k + 1, by simp [intOf], by omega, HND.out, hv6, b5⟩, by simp [intOf]; omega⟩
      · obtain rfl : k = r0 := by omega
        have e0 := HLAST.out
        rw [e0]
        obtain ⟨A5, c5, rfl, h5⟩ := Rl.of hv
        clear e0
        go_wp2_with fail
        go_ret
        exact ⟨A5, c5, by rw [HD.out]; rfl, by rw [HD.out]; exact h5, bb⟩
end Go.Proofs.Ythdgnnjnkeljmaa.Tr
