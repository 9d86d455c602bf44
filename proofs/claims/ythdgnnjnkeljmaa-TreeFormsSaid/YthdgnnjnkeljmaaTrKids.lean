/-
  Package tree (chapter 21): Children.
-/
import Derived.Test.YthdgnnjnkeljmaaTrWalks
import Derived.Deep.Cut
import Derived.Deep.CutRange
import Derived.BigRegion
import Derived.IntWalk
import Derived.Test.YthdgnnjnkeljmaaRowOut
set_option maxRecDepth 100000
namespace Go.Proofs.Ythdgnnjnkeljmaa.Tr
set_option linter.unusedVariables false
open Go.RowKit Lb Tp

def d48 (S : Nat → Value) : Array Value := Array.ofFn (n := 48) fun i => S i
theorem own48 {w : World} {t : Nat} {R : Rk} {P : Nat → Value} (h : Tb w t R P) : Own w t 56 (d48 (tv R P)) := h
theorem index_r (S : Nat → Value) (k : Nat) (hk : k < 16) (w : World) : (Instr.index 54 (.agg (d48 S)) (.int .i64 (k : Int))).run Try.prog w = .ok (.agg #[S (k * 3), S (k * 3 + 1), S (k * 3 + 2)]) w := by
  have hu : Try.prog.underlying 54 = some (.array 16 53) := Try.underlying54
  have ha : (isAgg 53).run Try.prog w = .ok true w := rfl
  have hs : (Go.sizeOf 53).run Try.prog w = .ok 3 w := rfl
  have e : (d48 S).extract (k * 3) (k * 3 + 3) = #[S (k * 3), S (k * 3 + 1), S (k * 3 + 2)] := by
    unfold d48
    apply Array.ext
    · simp
      omega
    · intro i h1 h2
      rcases (show i = 0 ∨ i = 1 ∨ i = 2 by simp at h2; omega) with rfl | rfl | rfl <;> simp
  unfold Instr.index part
  simp only [asIntOf, Sem.run_bind, Sem.run_pure, Result.andThen_ok, run_underlying hu w, ha, hs]
  rw [if_pos (by omega)]
  simp only [Sem.run_bind, Sem.run_pure, Result.andThen_ok, ha, hs, if_true, Int.toNat_natCast, e]
theorem tv_0 (R : Rk) (P : Nat → Value) (k : Nat) : tv R P (k * 3) = .bool (R k).isSome := by
  unfold tv
  rw [if_pos (by omega), show k * 3 / 3 = k by omega]
theorem tv_1 (R : Rk) (P : Nat → Value) (k : Nat) : tv R P (k * 3 + 1) = .int .i64 (rkI R k) := by
  unfold tv
  rw [if_neg (by omega), if_pos (by omega), show (k * 3 + 1) / 3 = k by omega]
theorem tv_2 (R : Rk) (P : Nat → Value) (k : Nat) : tv R P (k * 3 + 2) = P k := by
  unfold tv
  rw [if_neg (by omega), if_neg (by omega), show (k * 3 + 2) / 3 = k by omega]
/-- The children among the first k. -/
def kidB (P : Nat → List Nat) (n : Int) (c : Nat) : Bool := match P c with
  | p :: _ => (p : Int) == n
  | [] => false
def kidK (P : Nat → List Nat) (n : Int) (k : Nat) : List Nat := (List.range k).filter (kidB P n)
theorem kidK_next (P : Nat → List Nat) (n : Int) (k : Nat) : kidK P n (k + 1) = kidK P n k ++ if kidB P n k then [k] else [] := by
  unfold kidK
  rw [List.range_succ, List.filter_append, List.filter_cons, List.filter_nil]
theorem kidK_len (P : Nat → List Nat) (n : Int) (k : Nat) : (kidK P n k).length ≤ k := by
  unfold kidK
  refine Nat.le_trans (List.length_filter_le _ _) ?_
  rw [List.length_range]
  exact Nat.le_refl _
def kidsT (R : Rk) (P : Nat → List Nat) (n : Int) : List Nat := if hasT R n = true then kidK P n 16 else []
set_option maxHeartbeats 4000000 in
theorem kids_any (t : Nat) (R : Rk) (P : Nat → List Nat) (n : Int) (w : World) (h : Tre w t R P) :
    Calls Try.prog 18 #[.pointer (some ⟨t, 0, none⟩), .int .i64 n] w fun r w' => ∃ A c, r = .returned (.slice A (kidsT R P n).length c) ∧ Rl w' w.heap.size A c (kidsT R P n) ∧ RowKit.Below w.heap.size w w' := by
  obtain ⟨A, K, hT, hR⟩ := h
  cases hx : hasT R n
  · have HX := Lib.hid hx
    have HD : Hid (kidsT R P n = []) := Lib.hid (by unfold kidsT; rw [hx]; rfl)
    clear hx
    go_enter Try.func18, Try.ntmps18
    go_wp2_with fail
    refine (has_any t R _ n _ hT).mono ?_
    rintro r w' ⟨rfl, rfl⟩
    rw [HX.out]
    go_wp2_with fail
    go_ret
    exact ⟨none, 0, by rw [HD.out]; rfl, by rw [HD.out]; exact Rl.nil _ _, Below.refl _ _⟩
  · have HX := Lib.hid hx
    have HD : Hid (kidsT R P n = kidK P n 16) := Lib.hid (by unfold kidsT; rw [hx]; rfl)
    obtain ⟨i0, hi0, hz0, hz1, hz2⟩ := info_parts infoT
    have ho := own48 hT
    have HI := Lib.hid (fun k (hk : k < 16) w => index_r (tv R (fun x => .slice (A x) (P x).length (K x))) k hk w)
    have HR := Lib.hid hR
    have hT1 := hT
    obtain ⟨cs, hcs⟩ : ∃ cs, d48 (tv R (fun x => .slice (A x) (P x).length (K x))) = cs := ⟨_, rfl⟩
    have hsz : cs.size = 48 := by rw [← hcs]; unfold d48; simp
    rw [hcs] at ho HI
    have HO := Lib.hid ho
    have HSZ := Lib.hid hsz
    clear hx hT hR ho hcs hsz
    go_enter Try.func18, Try.ntmps18
    go_wp2_with fail
    refine (has_any t R _ n _ hT1).mono ?_
    rintro r w' ⟨rfl, rfl⟩
    rw [HX.out]
    go_wp2_with (refine wpList_load_row rfl _ _ rfl t rfl 56 cs (0, 0) _ HO.out Try.underlying54 rfl (by rw [HSZ.out]; kernel_rfl) ?_)
    have hlt0 := Blk.lt hT1
    clear hT1
    go_loopw [5, 16] (fun v i wr => ∃ k : Nat, i = .int .i64 k ∧ k ≤ 16 ∧ Mine wr w.heap.size 3 v (kidK P n k).length (ln (kidK P n k)) ∧ RowKit.Below w.heap.size w wr) (fun _ i _ => 16 - (intOf i).toNat)
    case atStart => exact ⟨0, rfl, by omega, Mine.nil _ _ _ _, Below.refl _ _⟩
    case round =>
      obtain ⟨k, rfl, hk, hv, bb⟩ := hrel
      by_cases hlt : k < 16
      · have hix := HI.out k hlt
        rw [tv_0, tv_1, tv_2] at hix
        have hnx := kidK_next P n k
        have hkl := kidK_len P n k
        have hRk := (HR.out k hlt).row
        obtain ⟨b0, hb0⟩ : ∃ b, (R k).isSome = b := ⟨_, rfl⟩
        obtain ⟨i0', hi0'⟩ : ∃ b, rkI R k = b := ⟨_, rfl⟩
        obtain ⟨A0, hA0⟩ : ∃ b, A k = b := ⟨_, rfl⟩
        obtain ⟨K0, hK0⟩ : ∃ b, K k = b := ⟨_, rfl⟩
        rw [hb0, hi0', hA0, hK0] at hix
        rw [hA0] at hRk
        have g1 : (k : Int) < 16 := by omega
        have hs0 := bb.size
        clear hb0 hi0' hA0 hK0
        cases hPk : P k with
        | nil =>
          rw [hPk] at hix
          rw [List.length_nil] at hix
          have hy : kidB P n k = false := by unfold kidB; rw [hPk]
          have HNX : Hid (kidK P n (k + 1) = kidK P n k) := Lib.hid (by rw [hnx, hy]; simp)
          have hv2 := hv.alloc (.cells #[.bool b0, .int .i64 i0', .slice A0 0 K0] 53)
          have b2 := bb.alloc hs0 (.cells #[.bool b0, .int .i64 i0', .slice A0 0 K0] 53)
          clear hPk hy hnx hRk hv bb
          go_wp2_with fail
          exact ⟨⟨k + 1, by simp [intOf], by omega, by rw [HNX.out]; exact hv2, b2⟩, by simp [intOf]; omega⟩
        | cons p l =>
          rw [hPk] at hix hRk
          obtain ⟨bo, off, hAe, hbo, d0⟩ := hRk.at_ (k := 0) (by simp)
          have d0 : w.cell? ⟨bo, off, none⟩ = some (.int .i64 (p : Int)) := d0
          obtain ⟨ll, hll⟩ : ∃ q, (p :: l).length = q := ⟨_, rfl⟩
          have hlp : 0 < ll := by rw [← hll]; simp
          rw [hll] at hix
          subst hAe
          have bx := bb.alloc hs0 (.cells #[.bool b0, .int .i64 i0', .slice (some ⟨bo, off, none⟩) ll K0] 53)
          have d1 := (bx.cell (p := ⟨bo, off, none⟩) hbo).trans d0
          have hv2 := hv.alloc (.cells #[.bool b0, .int .i64 i0', .slice (some ⟨bo, off, none⟩) ll K0] 53)
          by_cases hpn : (p : Int) = n
          · have hy : kidB P n k = true := by unfold kidB; rw [hPk]; simpa using hpn
            have HNX : Hid (kidK P n (k + 1) = kidK P n k ++ [k]) := Lib.hid (by rw [hnx, hy]; simp)
            have g3 : ((p : Int) == n) = true := by simpa using hpn
            have hm : (kidK P n k).length + 1 ≤ maxLen := by unfold maxLen; omega
            have Hm := Lib.hid hm
            have hs2 := bx.size
            clear hPk hy hnx hRk hv bb d0 hll hpn hm
            go_upto_region 8 with (fail)
            generalize wr.alloc (.cells #[.bool b0, .int .i64 i0', .slice (some ⟨bo, off, none⟩) ll K0] 53) = wx at *
            clear d1
            go_wp2_with (at_builtin; go_must (refine wp_app rfl (.tmp 32) (.tmp 34) _ rfl w.heap.size 3 i0 _ 8 Try.underlying33 hi0 hz0 hz1 hz2 rfl _ (kidK P n k).length (ln (kidK P n k)) rfl (hv2.alloc _) _ 1 _ (fun _ => .int .i64 (k : Int)) rfl (row_new _ _ _ _ (fun i hi => by obtain rfl : i = 0 := (by omega); rfl)) (fun _ _ => rfl) Hm.out ?c2 ?c3 ?_))
            case c2 => omega
            case c3 => first | omega | (simp; omega)
            intro v' w5 hv5 hg5
            have b5 : RowKit.Below w.heap.size w w5 := (bx.alloc hs2 _).grown hg5 (by simp; omega) (fun q hq => (hv2.lt q hq).1)
            have hv6 : Mine w5 w.heap.size 3 v' (kidK P n (k + 1)).length (ln (kidK P n (k + 1))) := by
              rw [HNX.out, List.length_append]
              exact hv5.ext (fun q hq => ln_snoc _ _ _ hq)
            clear hv2 hv5 bx
            go_wp2_with fail
            exact ⟨⟨k + 1, by simp [intOf], by omega, hv6, b5⟩, by simp [intOf]; omega⟩
          · have hy : kidB P n k = false := by unfold kidB; rw [hPk]; simpa using hpn
            have HNX : Hid (kidK P n (k + 1) = kidK P n k) := Lib.hid (by rw [hnx, hy]; simp)
            have g3 : ((p : Int) == n) = false := by simpa using hpn
            clear hPk hy hnx hRk hv bb d0 hll hpn
            go_wp2_with fail
            exact ⟨⟨k + 1, by simp [intOf], by omega, by rw [HNX.out]; exact hv2, bx⟩, by simp [intOf]; omega⟩
      · obtain rfl : k = 16 := by omega
        obtain ⟨A5, c5, rfl, h5⟩ := Rl.of hv
        go_wp2_with fail
        go_ret
        exact ⟨A5, c5, by rw [HD.out]; rfl, by rw [HD.out]; exact h5, bb⟩
theorem kids_nil (n : Int) (w : World) :
    Calls Try.prog 18 #[.pointer none, .int .i64 n] w fun r w' => r = .returned (.slice none 0 0) ∧ w = w' := by
  go_enter Try.func18, Try.ntmps18
  go_wp2_with fail
  refine (has_nil n _).mono ?_
  rintro r w' ⟨rfl, rfl⟩
  go_wp2_with fail
  go_ret
  exact ⟨rfl, rfl⟩
end Go.Proofs.Ythdgnnjnkeljmaa.Tr
