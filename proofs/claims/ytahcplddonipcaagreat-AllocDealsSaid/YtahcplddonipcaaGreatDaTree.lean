/-
  The reference's tree (chapter 21), as its Deal asks for it.
-/
import Derived.Test.YtahcplddonipcaaGreatTrWalks
import Derived.Deep.Cut
import Derived.Deep.CutRange
import Derived.BigRegion
import Derived.IntWalk
import Derived.Test.YtahcplddonipcaaGreatRowOut
import Derived.Test.YtahcplddonipcaaGreatTopoRef
import Derived.Test.YtahcplddonipcaaGreatTrMore
import Derived.Test.YtahcplddonipcaaGreatTrOrdM
import Derived.Test.YtahcplddonipcaaGreatTrAwake
import Derived.Test.YtahcplddonipcaaGreatTrOrder
set_option linter.unusedSimpArgs false
set_option maxRecDepth 100000
namespace Go.Proofs.YtahcplddonipcaaGreat.Tr
set_option linter.unusedVariables false
open Go.RowKit Lb Tp

def d48 (S : Nat → Value) : Array Value := Array.ofFn (n := 48) fun i => S i
theorem own48 {w : World} {t : Nat} {R : Rk} {P : Nat → Value} (h : Tb w t R P) : Own w t 73 (d48 (tv R P)) := h
theorem index_r (S : Nat → Value) (k : Nat) (hk : k < 16) (w : World) : (Instr.index 71 (.agg (d48 S)) (.int .i64 (k : Int))).run Tryz.prog w = .ok (.agg #[S (k * 3), S (k * 3 + 1), S (k * 3 + 2)]) w := by
  have hu : Tryz.prog.underlying 71 = some (.array 16 70) := Tryz.underlying71
  have ha : (isAgg 70).run Tryz.prog w = .ok true w := rfl
  have hs : (Go.sizeOf 70).run Tryz.prog w = .ok 3 w := rfl
  have e : (d48 S).extract (k * 3) (k * 3 + 3) = #[S (k * 3), S (k * 3 + 1), S (k * 3 + 2)] := by
    unfold d48
    apply Array.ext
    · simp
      omega
    · intro i h1 h2
      rcases (show i = 0 ∨ i = 1 ∨ i = 2 by simp at h2; omega) with rfl | rfl | rfl <;> simp
  unfold Instr.index part
  simp only [asIntOf, Sem.run_bind, Sem.run_pure, Result.andThen_ok, run_underlying hu w, ha, hs]
  rw [if_pos (by omega)]
  simp only [Sem.run_bind, Sem.run_pure, Result.andThen_ok, ha, hs, if_true, Int.toNat_natCast, e]
theorem tv_0 (R : Rk) (P : Nat → Value) (k : Nat) : tv R P (k * 3) = .bool (R k).isSome := by
  unfold tv
  rw [if_pos (by omega), show k * 3 / 3 = k by omega]
theorem tv_1 (R : Rk) (P : Nat → Value) (k : Nat) : tv R P (k * 3 + 1) = .int .i64 (rkI R k) := by
  unfold tv
  rw [if_neg (by omega), if_pos (by omega), show (k * 3 + 1) / 3 = k by omega]
theorem tv_2 (R : Rk) (P : Nat → Value) (k : Nat) : tv R P (k * 3 + 2) = P k := by
  unfold tv
  rw [if_neg (by omega), if_neg (by omega), show (k * 3 + 2) / 3 = k by omega]
/-- The children among the first k. -/
def kidB (P : Nat → List Nat) (n : Int) (c : Nat) : Bool := match P c with
  | p :: _ => (p : Int) == n
  | [] => false
def kidK (P : Nat → List Nat) (n : Int) (k : Nat) : List Nat := (List.range k).filter (kidB P n)
theorem kidK_next (P : Nat → List Nat) (n : Int) (k : Nat) : kidK P n (k + 1) = kidK P n k ++ if kidB P n k then [k] else [] := by
  unfold kidK
  rw [List.range_succ, List.filter_append, List.filter_cons, List.filter_nil]
theorem kidK_len (P : Nat → List Nat) (n : Int) (k : Nat) : (kidK P n k).length ≤ k := by
  unfold kidK
  refine Nat.le_trans (List.length_filter_le _ _) ?_
  rw [List.length_range]
  exact Nat.le_refl _
def kidsT (R : Rk) (P : Nat → List Nat) (n : Int) : List Nat := if hasT R n = true then kidK P n 16 else []
end Go.Proofs.YtahcplddonipcaaGreat.Tr
set_option maxRecDepth 100000
namespace Go.Proofs.YtahcplddonipcaaGreat.Tr
set_option linter.unusedVariables false
open Go.RowKit Lb Tp

def rI (R : Rk) (x : Nat) : Int := match R x with
  | some r => (r : Int)
  | none => -1
theorem rI_bd (R : Rk) (h : ∀ x s, R x = some s → s ≤ 15) (x : Nat) : -1 ≤ rI R x ∧ rI R x ≤ 15 := by
  unfold rI
  cases hx : R x with
  | some r => have := h x r hx; dsimp only; omega
  | none => dsimp only; omega
def rtv (R : Rk) (P : Nat → Value) (j : Nat) : Value := if j < 16 then .int .i64 (rI R j) else P (j - 16)
def RTb (w : World) (t : Nat) (R : Rk) (P : Nat → Value) : Prop := Blk w t 82 32 (rtv R P)
theorem RTb.rank {w : World} {t : Nat} {R : Rk} {P : Nat → Value} (h : RTb w t R P) {x : Nat} (hx : x < 16) : w.cell? ⟨t, x, none⟩ = some (.int .i64 (rI R x)) := by
  have := Blk.cell h (i := x) (by omega)
  unfold rtv at this
  rw [if_pos hx] at this
  exact this
theorem RTb.par {w : World} {t : Nat} {R : Rk} {P : Nat → Value} (h : RTb w t R P) {x : Nat} (hx : x < 16) : w.cell? ⟨t, 16 + x, none⟩ = some (P x) := by
  have := Blk.cell h (i := 16 + x) (by omega)
  unfold rtv at this
  rw [if_neg (by omega), show 16 + x - 16 = x by omega] at this
  exact this
theorem RTb.lt {w : World} {t : Nat} {R : Rk} {P : Nat → Value} (h : RTb w t R P) : t < w.heap.size := Blk.lt h
theorem RTb.below {w w' : World} {t B : Nat} {R : Rk} {P : Nat → Value} (h : RTb w t R P) (j : Below B w w') (hb : t < B) : RTb w' t R P := below_blk j h hb
def RTre (w : World) (t : Nat) (R : Rk) (P : Nat → List Nat) : Prop := ∃ (A : Nat → Option Addr) (K : Nat → Nat), RTb w t R (fun x => .slice (A x) (P x).length (K x)) ∧ ∀ x, x < 16 → Rl w (t + 1) (A x) (K x) (P x)
theorem RTre.below {w w' : World} {t : Nat} {R : Rk} {P : Nat → List Nat} (h : RTre w t R P) (j : Below w.heap.size w w') : RTre w' t R P := by
  obtain ⟨A, K, h1, h2⟩ := h
  exact ⟨A, K, below_blk j h1 h1.lt, fun x hx => (h2 x hx).below j⟩
theorem RTre.lt {w : World} {t : Nat} {R : Rk} {P : Nat → List Nat} (h : RTre w t R P) : t < w.heap.size := by
  obtain ⟨A, K, h1, h2⟩ := h
  exact h1.lt
def ndB (x : Int) : Bool := decide (0 ≤ x ∧ x < 16)
theorem node_any (x : Int) (w : World) : Calls Tryz.prog 114 #[.int .i64 x] w fun r w' => r = .returned (.bool (ndB x)) ∧ w = w' := by
  by_cases h0 : 0 ≤ x
  · by_cases h1 : x < 16
    · have HD : Hid (ndB x = true) := Lib.hid (by simp [ndB, h0, h1])
      go_enter Tryz.func114, Tryz.ntmps114
      go_wp2_with fail
      go_ret
      exact ⟨by rw [HD.out]; rfl, rfl⟩
    · have HD : Hid (ndB x = false) := Lib.hid (by simp [ndB]; omega)
      have h2 : decide (x < 16) = false := by simp; omega
      clear h1
      go_enter Tryz.func114, Tryz.ntmps114
      go_wp2_with fail
      go_ret
      exact ⟨by rw [HD.out]; rfl, rfl⟩
  · have HD : Hid (ndB x = false) := Lib.hid (by simp [ndB]; omega)
    have h2 : x < 0 := by omega
    clear h0
    go_enter Tryz.func114, Tryz.ntmps114
    go_wp2_with fail
    go_ret
    exact ⟨by rw [HD.out]; rfl, rfl⟩
theorem ndB_nat {k : Nat} (h : k < 16) : ndB (k : Int) = true := decide_eq_true (by omega)
def l16 (S : Nat → Value) : List Value := [S 0, S 1, S 2, S 3, S 4, S 5, S 6, S 7, S 8, S 9, S 10, S 11, S 12, S 13, S 14, S 15]
theorem l16_at (S : Nat → Value) {k : Nat} {v : Value} (h : (l16 S)[k]? = some v) : k < 16 ∧ v = S k := by
  have hk : k < 16 := (List.getElem?_eq_some_iff.1 h).1
  refine ⟨hk, ?_⟩
  unfold l16 at h
  rcases (show k = 0 ∨ k = 1 ∨ k = 2 ∨ k = 3 ∨ k = 4 ∨ k = 5 ∨ k = 6 ∨ k = 7 ∨ k = 8 ∨ k = 9 ∨ k = 10 ∨ k = 11 ∨ k = 12 ∨ k = 13 ∨ k = 14 ∨ k = 15 by omega) with rfl | rfl | rfl | rfl | rfl | rfl | rfl | rfl | rfl | rfl | rfl | rfl | rfl | rfl | rfl | rfl <;> exact (Option.some.inj h).symm
theorem index_s (S : Nat → Option Addr) (L K : Nat → Nat) (k : Nat) (hk : k < 16) (w : World) : (Instr.index 80 (.agg (l16 (fun x => .slice (S x) (L x) (K x))).toArray) (.int .i64 (k : Int))).run Tryz.prog w = .ok (.slice (S k) (L k) (K k)) w := by
  rcases (show k = 0 ∨ k = 1 ∨ k = 2 ∨ k = 3 ∨ k = 4 ∨ k = 5 ∨ k = 6 ∨ k = 7 ∨ k = 8 ∨ k = 9 ∨ k = 10 ∨ k = 11 ∨ k = 12 ∨ k = 13 ∨ k = 14 ∨ k = 15 by omega) with rfl | rfl | rfl | rfl | rfl | rfl | rfl | rfl | rfl | rfl | rfl | rfl | rfl | rfl | rfl | rfl <;> kernel_rfl
theorem index_i (S : Nat → Int) (k : Nat) (hk : k < 16) (w : World) : (Instr.index 79 (.agg (l16 (fun x => .int .i64 (S x))).toArray) (.int .i64 (k : Int))).run Tryz.prog w = .ok (.int .i64 (S k)) w := by
  rcases (show k = 0 ∨ k = 1 ∨ k = 2 ∨ k = 3 ∨ k = 4 ∨ k = 5 ∨ k = 6 ∨ k = 7 ∨ k = 8 ∨ k = 9 ∨ k = 10 ∨ k = 11 ∨ k = 12 ∨ k = 13 ∨ k = 14 ∨ k = 15 by omega) with rfl | rfl | rfl | rfl | rfl | rfl | rfl | rfl | rfl | rfl | rfl | rfl | rfl | rfl | rfl | rfl <;> kernel_rfl
theorem RTb.pars {w : World} {t : Nat} {R : Rk} {P : Nat → Value} (h : RTb w t R P) : w.rangeAt t 16 (l16 P) := fun j v hv => by
  obtain ⟨hj, rfl⟩ := l16_at P hv
  exact h.par hj
theorem RTb.ranks {w : World} {t : Nat} {R : Rk} {P : Nat → Value} (h : RTb w t R P) : w.rangeAt t 0 (l16 fun x => .int .i64 (rI R x)) := fun j v hv => by
  obtain ⟨hj, rfl⟩ := l16_at _ hv
  rw [Nat.zero_add]
  exact h.rank hj
end Go.Proofs.YtahcplddonipcaaGreat.Tr
set_option maxRecDepth 100000
namespace Go.Proofs.YtahcplddonipcaaGreat.Tr
set_option linter.unusedVariables false
open Go.RowKit Lb Tp

/-- The order so far. -/
def ordK (R : Rk) (r k : Nat) : List Nat := (List.range r).flatMap (rowAt R) ++ (List.range k).filter fun i => R i == some r
theorem ordK_next (R : Rk) (r k : Nat) : ordK R r (k + 1) = ordK R r k ++ if R k == some r then [k] else [] := by
  unfold ordK
  rw [List.range_succ (n := k), List.filter_append, List.filter_cons, List.filter_nil, List.append_assoc]
theorem ordK_row (R : Rk) (r : Nat) : ordK R (r + 1) 0 = ordK R r 16 := by
  unfold ordK rowAt
  rw [List.range_succ (n := r), List.flatMap_append]
  simp
theorem ordK_end (R : Rk) : ordK R 16 0 = ordT R := by
  unfold ordK ordT
  simp
theorem ordK_len (R : Rk) : ∀ r k, (ordK R r k).length ≤ r * 16 + k
  | 0, 0 => by simp [ordK]
  | r + 1, 0 => by
    rw [ordK_row]
    have := ordK_len R r 16
    omega
  | r, k + 1 => by
    rw [ordK_next, List.length_append]
    have := ordK_len R r k
    split <;> simp <;> omega
  termination_by r k => (r, k)
set_option maxHeartbeats 4000000 in
theorem rorder_any (t : Nat) (R : Rk) (P : Nat → Value) (w : World) (h : RTb w t R P) :
    Calls Tryz.prog 30 #[.pointer (some ⟨t, 0, none⟩)] w fun r w' => ∃ A c, r = .returned (.slice A (ordT R).length c) ∧ Rl w' w.heap.size A c (ordT R) ∧ RowKit.Below w.heap.size w w' := by
  obtain ⟨i0, hi0, hz0, hz1, hz2⟩ := info_parts infoT
  have HI := Lib.hid (fun k (hk : k < 16) w => index_i (rI R) k hk w)
  have HT := Lib.hid h
  obtain ⟨cs, hcs⟩ : ∃ cs, l16 (fun x => .int .i64 (rI R x)) = cs := ⟨_, rfl⟩
  have hl : cs.length = 16 := by rw [← hcs]; rfl
  rw [hcs] at HI
  have HC := Lib.hid hcs
  clear h hcs
  go_enter Tryz.func30, Tryz.ntmps30
  go_wp2_with fail
  go_loopw [3, 7] (fun v i wr => ∃ r : Nat, i = .int .i64 r ∧ r ≤ 16 ∧ Mine wr w.heap.size 3 v (ordK R r 0).length (ln (ordK R r 0)) ∧ RowKit.Below w.heap.size w wr) (fun _ i _ => 16 - (intOf i).toNat)
  case atStart => exact ⟨0, rfl, by omega, Mine.nil _ _ _ _, Below.refl _ _⟩
  case round =>
    obtain ⟨r, rfl, hr, hv, bb⟩ := hrel
    by_cases hlr : r < 16
    · have g1 : (r : Int) < 16 := by omega
      have hp : wr.rangeAt t 0 cs := HC.out ▸ (HT.out.below bb HT.out.lt).ranks
      go_wp2_with (refine wpList_load_mid rfl 79 _ rfl t 0 rfl cs _ hp Tryz.underlying79 rfl (by rw [hl]; kernel_rfl) ?_)
      clear hp
      go_loopw [3, 14] (fun v i wz => ∃ k : Nat, i = .int .i64 k ∧ k ≤ 16 ∧ Mine wz w.heap.size 3 v (ordK R r k).length (ln (ordK R r k)) ∧ RowKit.Below w.heap.size w wz) (fun _ i _ => 16 - (intOf i).toNat)
      case atStart => exact ⟨0, rfl, by omega, hv, bb⟩
      case round =>
        clear hv bb
        obtain ⟨k, rfl, hk, hv, bb⟩ := hrel
        by_cases hlt : k < 16
        · have hix := HI.out k hlt
          have hnx := ordK_next R r k
          have hkl := ordK_len R r k
          have g2 : (k : Int) < 16 := by omega
          have hs0 := bb.size
          obtain ⟨x, hx⟩ : ∃ x, rI R k = x := ⟨_, rfl⟩
          rw [hx] at hix
          by_cases hxr : x = (r : Int)
          · have hy : (R k == some r) = true := by
              unfold rI at hx
              cases hR : R k with
              | none => rw [hR] at hx; dsimp only at hx; omega
              | some s => rw [hR] at hx; dsimp only at hx; rw [show s = r by omega]; simp
            have HNX : Hid (ordK R r (k + 1) = ordK R r k ++ [k]) := Lib.hid (by rw [hnx, hy]; simp)
            have g3 : (x == (r : Int)) = true := by simpa using hxr
            have hm : (ordK R r k).length + 1 ≤ maxLen := by unfold maxLen; omega
            have Hm := Lib.hid hm
            clear hy hnx hx hxr hm
            go_wp2_with (at_builtin; go_must (refine wp_app rfl (.tmp 21) (.tmp 23) _ rfl w.heap.size 3 i0 _ 8 Tryz.underlying29 hi0 hz0 hz1 hz2 rfl _ (ordK R r k).length (ln (ordK R r k)) rfl (hv.alloc _) _ 1 _ (fun _ => .int .i64 (k : Int)) rfl (row_new _ _ _ _ (fun i hi => by obtain rfl : i = 0 := (by omega); rfl)) (fun _ _ => rfl) Hm.out ?c2 ?c3 ?_))
            case c2 => omega
            case c3 => first | omega | (simp; omega)
            intro v' w5 hv5 hg5
            have b5 : RowKit.Below w.heap.size w w5 := (bb.alloc hs0 _).grown hg5 (by simp; omega) (fun q hq => (hv.lt q hq).1)
            have hv6 : Mine w5 w.heap.size 3 v' (ordK R r (k + 1)).length (ln (ordK R r (k + 1))) := by
              rw [HNX.out, List.length_append]
              exact hv5.ext (fun q hq => ln_snoc _ _ _ hq)
            clear hv hv5 bb
            go_wp2_with fail
            exact ⟨⟨k + 1, by simp [intOf], by omega, hv6, b5⟩, by simp [intOf]; omega⟩
          · have hy : (R k == some r) = false := by
              unfold rI at hx
              cases hR : R k with
              | none => simp
              | some s =>
                rw [hR] at hx
                dsimp only at hx
                have : s ≠ r := by omega
                simp [this]
            have HNX : Hid (ordK R r (k + 1) = ordK R r k) := Lib.hid (by rw [hnx, hy]; simp)
            have g3 : (x == (r : Int)) = false := by simpa using hxr
            clear hy hnx hx hxr hkl
            go_wp2_with fail
            exact ⟨⟨k + 1, by simp [intOf], by omega, by rw [HNX.out]; exact hv, bb⟩, by simp [intOf]; omega⟩
        · obtain rfl : k = 16 := by omega
          go_wp2_with fail
          exact ⟨⟨r + 1, by simp [intOf], by omega, by rw [ordK_row]; exact hv, bb⟩, by simp [intOf]; omega⟩
    · obtain rfl : r = 16 := by omega
      rw [ordK_end] at hv
      obtain ⟨A5, c5, rfl, h5⟩ := Rl.of hv
      go_wp2_with fail
      go_ret
      exact ⟨A5, c5, rfl, h5, bb⟩
/-- A path from its end. -/
def pathB (P : Nat → List Nat) (n k : Nat) : List Nat := (List.range (k + 1)).map fun j => anc P n (k - j)
theorem pathB_next (P : Nat → List Nat) (n k : Nat) : pathB P n (k + 1) = anc P n (k + 1) :: pathB P n k := by
  unfold pathB
  rw [List.range_succ_eq_map, List.map_cons, List.map_map]
  congr 1
  apply List.map_congr_left
  intro j _
  show anc P n (k + 1 - (j + 1)) = _
  congr 1
  omega
end Go.Proofs.YtahcplddonipcaaGreat.Tr
set_option maxRecDepth 100000
namespace Go.Proofs.YtahcplddonipcaaGreat.Tr
set_option linter.unusedVariables false
open Lb Tp

section
variable {N : Nat} {Q : Nat → Nat → Int} {least : Int} {R R' : Rk}
theorem fin_le (h : Fin_ N Q least R) (h' : Fin_ N Q least R') : ∀ r x, R x = some r → ∃ s, R' x = some s ∧ s ≤ r
  | 0, x, hx => by
    obtain rfl := h.only x hx
    exact ⟨0, h'.root, Nat.le_refl _⟩
  | r + 1, x, hx => by
    obtain ⟨y, hy, hr⟩ := h.up x r hx
    obtain ⟨s, hs, hle⟩ := fin_le h h' r y hr
    obtain ⟨t, ht, hle2⟩ := h'.near y s hs x (near_comm hy)
    exact ⟨t, ht, by omega⟩
theorem fin_unique (h : Fin_ N Q least R) (h' : Fin_ N Q least R') : R = R' := by
  funext x
  cases hx : R x with
  | some r =>
    obtain ⟨s, hs, h1⟩ := fin_le h h' r x hx
    obtain ⟨t, ht, h2⟩ := fin_le h' h s x hs
    rw [hx] at ht
    injection ht with ht
    rw [hs]
    congr 1
    omega
  | none =>
    cases hy : R' x with
    | none => rfl
    | some s =>
      obtain ⟨t, ht, _⟩ := fin_le h' h s x hy
      rw [hx] at ht
      cases ht
/-- One node of a round. -/
def rin (N : Nat) (Q : Nat → Nat → Int) (least : Int) (r : Nat) (R : Rk) (a : Nat) : Rk := if R a = some r then (visits r (R, []) (near N Q a least)).1 else R
def rndK (N : Nat) (Q : Nat → Nat → Int) (least : Int) (r : Nat) (R : Rk) (k : Nat) : Rk := (List.range k).foldl (rin N Q least r) R
def rallK (N : Nat) (Q : Nat → Nat → Int) (least : Int) (k : Nat) : Rk := (List.range k).foldl (fun R r => rndK N Q least r R N) R0
theorem rndK_next (r : Nat) (R : Rk) (k : Nat) : rndK N Q least r R (k + 1) = rin N Q least r (rndK N Q least r R k) k := by
  unfold rndK
  rw [List.range_succ, List.foldl_append]
  rfl
theorem rallK_next (k : Nat) : rallK N Q least (k + 1) = rndK N Q least k (rallK N Q least k) N := by
  unfold rallK
  rw [List.range_succ, List.foldl_append]
  rfl
/-- What holds in round r, k nodes on. -/
structure Jn (N : Nat) (Q : Nat → Nat → Int) (least : Int) (r k : Nat) (R : Rk) : Prop where
  root : R 0 = some 0
  inN : ∀ x s, R x = some s → x < N
  only : ∀ x, R x = some 0 → x = 0
  up : ∀ x s, R x = some (s + 1) → ∃ y, y ∈ near N Q x least ∧ R y = some s
  done : ∀ x s, R x = some s → (s < r ∨ (s = r ∧ x < k)) → ∀ y, y ∈ near N Q x least → ∃ t, R y = some t ∧ t ≤ s + 1
  small : Small R
  le : ∀ x s, R x = some s → s ≤ r + 1
theorem jn_start (hN : 1 ≤ N) : Jn N Q least 0 0 R0 := by
  have h0 : ∀ x s, R0 x = some s → x = 0 ∧ s = 0 := fun x s h => by
    unfold R0 at h
    split at h
    · injection h with h
      exact ⟨by assumption, h.symm⟩
    · cases h
  exact ⟨rfl, fun x s h => by have := (h0 x s h).1; omega, fun x h => (h0 x 0 h).1, fun x s h => by have := (h0 x _ h).2; omega, fun x s h hd => by have := h0 x s h; omega, small_start, fun x s h => by have := (h0 x s h).2; omega⟩
theorem jn_round {r : Nat} (h : Jn N Q least r N R) : Jn N Q least (r + 1) 0 R :=
  ⟨h.root, h.inN, h.only, h.up, fun x s hx hd => h.done x s hx (by have := h.inN x s hx; omega), h.small, fun x s hx => by have := h.le x s hx; omega⟩
theorem jn_step {r k : Nat} (hN : N ≤ 16) (h : Jn N Q least r k R) : Jn N Q least r (k + 1) (rin N Q least r R k) := by
  unfold rin
  by_cases hk : R k = some r
  · rw [if_pos hk]
    obtain ⟨news, _, _, hv⟩ := visits_is r (near N Q k least) R []
    obtain ⟨R', hR'⟩ : ∃ R', (visits r (R, []) (near N Q k least)).1 = R' := ⟨_, rfl⟩
    have hsm := small_visits (r := r) (near N Q k least) (R, []) (fun b hb => by have := (mem_near.1 hb).1; omega) h.small (h.small k r hk)
    rw [hR'] at hv hsm ⊢
    have hold : ∀ x s, R x = some s → R' x = some s := fun x s hx => by rw [hv, hx]; rfl
    have hnew : ∀ x s, R' x = some s → R x = some s ∨ (R x = none ∧ x ∈ near N Q k least ∧ s = r + 1) := fun x s hx => by
      rw [hv] at hx
      cases hR : R x with
      | some t => rw [hR] at hx; exact .inl hx
      | none =>
        rw [hR] at hx
        simp at hx
        exact .inr ⟨rfl, hx.1, hx.2.symm⟩
    have hin : ∀ x, x ∈ near N Q k least → ∃ t, R' x = some t := fun x hx => by
      rw [hv]
      cases hR : R x with
      | some t => exact ⟨t, rfl⟩
      | none => exact ⟨r + 1, by simp [hx]⟩
    refine ⟨hold _ _ h.root, fun x s hx => ?_, fun x hx => ?_, fun x s hx => ?_, fun x s hx hd => ?_, hsm.1, fun x s hx => ?_⟩
    · rcases hnew x s hx with h1 | ⟨_, h1, _⟩
      · exact h.inN x s h1
      · exact (mem_near.1 h1).1
    · rcases hnew x 0 hx with h1 | ⟨_, _, h1⟩
      · exact h.only x h1
      · omega
    · rcases hnew x _ hx with h1 | ⟨_, h1, h2⟩
      · obtain ⟨y, hy, hs⟩ := h.up x s h1
        exact ⟨y, hy, hold _ _ hs⟩
      · exact ⟨k, near_comm h1, by rw [hold _ _ hk]; congr 1; omega⟩
    · rcases hnew x s hx with h1 | ⟨_, h1, h2⟩
      · by_cases hxk : s = r ∧ x = k
        · obtain ⟨rfl, rfl⟩ := hxk
          intro y hy
          obtain ⟨t, ht⟩ := hin y hy
          refine ⟨t, ht, ?_⟩
          rcases hnew y t ht with h3 | ⟨_, _, h3⟩
          · exact h.le y t h3
          · omega
        · intro y hy
          obtain ⟨t, ht, hle⟩ := h.done x s h1 (by omega) y hy
          exact ⟨t, hold _ _ ht, hle⟩
      · omega
    · rcases hnew x s hx with h1 | ⟨_, _, h1⟩
      · exact h.le x s h1
      · omega
  · rw [if_neg hk]
    refine ⟨h.root, h.inN, h.only, h.up, fun x s hx hd => ?_, h.small, h.le⟩
    by_cases hxk : x = k
    · subst hxk
      have : s ≠ r := fun e => hk (by rw [hx, e])
      exact h.done x s hx (by omega)
    · exact h.done x s hx (by omega)
theorem jn_rnd {r k : Nat} (hN : N ≤ 16) (h : Jn N Q least r 0 R) : ∀ k, Jn N Q least r k (rndK N Q least r R k)
  | 0 => h
  | k + 1 => by
    rw [rndK_next]
    exact jn_step hN (jn_rnd (k := 0) hN h k)
theorem jn_all (hN1 : 1 ≤ N) (hN : N ≤ 16) : ∀ r, Jn N Q least r 0 (rallK N Q least r)
  | 0 => jn_start hN1
  | r + 1 => by
    rw [rallK_next]
    exact jn_round (jn_rnd (k := 0) hN (jn_all hN1 hN r) N)
theorem left_ge (hN : N ≤ 16) (h : ∀ x s, R x = some s → x < N) : 16 - N ≤ left R := by
  unfold left
  have e : List.range 16 = List.range N ++ (List.range (16 - N)).map (fun x => N + x) := by
    rw [← List.range_add, show N + (16 - N) = 16 by omega]
  rw [e, List.countP_append]
  have : ((List.range (16 - N)).map (fun x => N + x)).countP (fun i => (R i).isNone) = 16 - N := by
    rw [List.countP_eq_length.2, List.length_map, List.length_range]
    intro x hx
    obtain ⟨y, _, rfl⟩ := List.mem_map.1 hx
    cases hR : R (N + y) with
    | none => rfl
    | some s => have := h _ _ hR; omega
  omega
theorem rall_fin (hN1 : 1 ≤ N) (hN : N ≤ 16) : Fin_ N Q least (rallK N Q least N) ∧ ∀ x s, rallK N Q least N x = some s → s ≤ 15 := by
  have h := jn_all (Q := Q) (least := least) hN1 hN N
  have hl := left_ge hN h.inN
  refine ⟨⟨h.root, h.inN, h.only, h.up, fun x s hx => h.done x s hx (by have := h.small x s hx; omega)⟩, fun x s hx => by have := h.small x s hx; omega⟩
/-! ### Parents by qualities -/
def candR (N : Nat) (Q : Nat → Nat → Int) (least : Int) (R : Rk) (n : Nat) : List Nat := (near N Q n least).filter (isC R n)
def selQ (N : Nat) (Q : Nat → Nat → Int) (least : Int) (R : Rk) (n : Nat) (q : Nat) : List Nat := (candR N Q least R n).filter fun b => decide (qual N Q n b = ((255 - q : Nat) : Int))
def selAll (N : Nat) (Q : Nat → Nat → Int) (least : Int) (R : Rk) (n k : Nat) : List Nat := (List.range k).flatMap (selQ N Q least R n)
theorem near_asc (N : Nat) (Q : Nat → Nat → Int) (a least : Int) : (near N Q a least).Pairwise (· < ·) := nr_sorted N
theorem sel_pair (n : Nat) : (selAll N Q least R n 255).Pairwise fun x y => ltQ N Q n x y = true := by
  unfold selAll
  rw [List.pairwise_flatMap]
  refine ⟨fun q _ => ?_, ?_⟩
  · unfold selQ candR
    refine List.Pairwise.imp_of_mem ?_ (((near_asc N Q n least).filter _).filter _)
    intro x y hx hy hxy
    have h1 := (List.mem_filter.1 hx).2
    have h2 := (List.mem_filter.1 hy).2
    rw [decide_eq_true_eq] at h1 h2
    unfold ltQ
    rw [h1, h2, decide_eq_true_eq]
    exact .inr ⟨rfl, hxy⟩
  · refine List.Pairwise.imp_of_mem ?_ List.pairwise_lt_range
    intro r s hr hs hrs x hx y hy
    have h1 := (List.mem_filter.1 hx).2
    have h2 := (List.mem_filter.1 hy).2
    rw [decide_eq_true_eq] at h1 h2
    rw [List.mem_range] at hr hs
    unfold ltQ
    rw [h1, h2, decide_eq_true_eq]
    left
    omega
theorem qual_bd (hF : Fine N Q) (a b : Nat) : 0 ≤ qual N Q a b ∧ qual N Q a b ≤ 255 := by
  unfold qual
  split
  · have h1 := hF.2.2 (a : Int).toNat (b : Int).toNat
    have h2 := hF.2.2 (b : Int).toNat (a : Int).toNat
    omega
  · omega
theorem mem_sel (hF : Fine N Q) (n x : Nat) : x ∈ selAll N Q least R n 255 ↔ x ∈ candR N Q least R n := by
  unfold selAll
  rw [List.mem_flatMap]
  constructor
  · rintro ⟨q, _, h⟩
    exact (List.mem_filter.1 h).1
  · intro h
    have h1 := (mem_near.1 (List.mem_filter.1 h).1).2.1
    have h2 := qual_bd hF n x
    refine ⟨255 - (qual N Q n x).toNat, ?_, List.mem_filter.2 ⟨h, ?_⟩⟩
    · rw [List.mem_range]; omega
    · rw [decide_eq_true_eq]; omega
theorem ltQ_irr (n x : Nat) : ltQ N Q n x x = false := by
  unfold ltQ
  rw [decide_eq_false_iff_not]
  omega
theorem sel_sorted (hF : Fine N Q) (n : Nat) : selAll N Q least R n 255 = (candR N Q least R n).mergeSort fun x y => !ltQ N Q n y x := by
  have hnd : (selAll N Q least R n 255).Nodup := (sel_pair n).imp (fun {x y} h e => by rw [e, ltQ_irr] at h; cases h)
  have hnd2 : (candR N Q least R n).Nodup := ((near_asc N Q n least).filter _).imp (fun {x y} h e => by omega)
  have hp : (selAll N Q least R n 255).Perm (candR N Q least R n) := by
    rw [List.perm_iff_count]
    intro x
    have := mem_sel (least := least) (R := R) hF n x
    by_cases hx : x ∈ candR N Q least R n
    · rw [hnd.count, if_pos (this.2 hx), hnd2.count, if_pos hx]
    · rw [hnd.count, if_neg (fun h => hx (this.1 h)), hnd2.count, if_neg hx]
  have hs := List.pairwise_mergeSort (le := fun x y => !ltQ N Q n y x) (fun a b c h1 h2 => by
      unfold ltQ at *
      simp at h1 h2 ⊢
      omega) (fun a b => by
      unfold ltQ
      simp
      omega) (candR N Q least R n)
  refine List.Perm.eq_of_pairwise (le := fun x y => ltQ N Q n y x = false) (fun a b _ _ h1 h2 => ?_) ?_ ?_ (hp.trans (List.mergeSort_perm _ _).symm)
  · unfold ltQ at h1 h2
    rw [decide_eq_false_iff_not] at h1 h2
    omega
  · refine (sel_pair n).imp (fun {x y} h => ?_)
    unfold ltQ at h ⊢
    rw [decide_eq_true_eq] at h
    rw [decide_eq_false_iff_not]
    omega
  · refine hs.imp (fun {x y} h => ?_)
    simpa using h
theorem par_sel (hF : Fine N Q) (n : Nat) : (selAll N Q least R n 255).take 2 = par N Q least R n := by
  rw [sel_sorted hF]
  rfl
end
end Go.Proofs.YtahcplddonipcaaGreat.Tr
set_option maxRecDepth 100000
namespace Go.Proofs.YtahcplddonipcaaGreat.Tr
set_option linter.unusedVariables false
open Go.RowKit Lb Tp

section
variable {N : Nat} {Q : Nat → Nat → Int} {least : Int} {R : Rk} {n : Nat}
theorem take2 (l : List Nat) (b : Nat) : (l ++ [b]).take 2 = if (l.take 2).length < 2 then l.take 2 ++ [b] else l.take 2 := by
  rcases l with _ | ⟨x, _ | ⟨y, l⟩⟩ <;> simp
/-- Who is chosen so far: all of better quality than 255 - k, and of that quality those among the first j. -/
def selJ (N : Nat) (Q : Nat → Nat → Int) (least : Int) (R : Rk) (n k j : Nat) : List Nat := (((near N Q n least).take j).filter (isC R n)).filter fun b => decide (qual N Q n b = ((255 - k : Nat) : Int))
def selP (N : Nat) (Q : Nat → Nat → Int) (least : Int) (R : Rk) (n k j : Nat) : List Nat := (selAll N Q least R n k ++ selJ N Q least R n k j).take 2
theorem selP_len (k j : Nat) : (selP N Q least R n k j).length ≤ 2 := by
  unfold selP
  rw [List.length_take]
  omega
theorem selP_row (k : Nat) : selP N Q least R n (k + 1) 0 = selP N Q least R n k (near N Q n least).length := by
  unfold selP selAll selJ selQ candR
  rw [List.range_succ, List.flatMap_append, List.take_length]
  simp
theorem selP_zero : selP N Q least R n 0 0 = [] := by
  unfold selP selAll selJ
  simp
theorem selP_end (hF : Fine N Q) : selP N Q least R n 255 0 = par N Q least R n := by
  rw [← par_sel hF]
  unfold selP selJ
  simp
theorem selP_next {k j : Nat} (hj : j < (near N Q n least).length) : selP N Q least R n k (j + 1) = if (isC R n ((near N Q n least).getD j 0) && decide (qual N Q n ((near N Q n least).getD j 0 : Nat) = ((255 - k : Nat) : Int))) = true then (if (selP N Q least R n k j).length < 2 then selP N Q least R n k j ++ [(near N Q n least).getD j 0] else selP N Q least R n k j) else selP N Q least R n k j := by
  have e : (near N Q n least).take (j + 1) = (near N Q n least).take j ++ [(near N Q n least).getD j 0] := by
    rw [List.take_add_one, List.getD_eq_getElem?_getD, List.getElem?_eq_getElem hj]
    rfl
  unfold selP selJ
  rw [e, List.filter_append, List.filter_append, List.filter_cons, List.filter_nil]
  generalize (near N Q n least).getD j 0 = b
  cases h1 : isC R n b
  · simp
  · rw [if_pos rfl, List.filter_cons, List.filter_nil, Bool.true_and]
    cases h2 : decide (qual N Q n b = ((255 - k : Nat) : Int))
    · simp
    · rw [if_pos rfl, if_pos rfl, ← List.append_assoc, take2]
end
theorem mine_below {w w' : World} {base n : Nat} {e : TypeId} {v : Value} {V : Nat → Value} (h : Mine w base e v n V) (j : RowKit.Below w.heap.size w w') : Mine w' base e v n V :=
  h.kept fun b _ => by
    by_cases hb : b < w.heap.size
    · exact .inl (j.block b hb)
    · exact .inr (fun e => hb (h.lt b e).2)
/-- A row that lies in another block than a slice's. -/
def Nl (w : World) (A : Option Addr) (l : List Nat) (v : Value) : Prop := Row w A l.length (ln l) ∧ ∀ b q, A.map Addr.block = some b → v.ownBlock = some q → 0 < l.length → b ≠ q
theorem Nl.grown {w w' : World} {A : Option Addr} {l : List Nat} {v v' : Value} (h : Nl w A l v) (hg : w.grownBy w' v.ownBlock) (ho : ∀ q, v'.ownBlock = some q → v.ownBlock = some q ∨ w.heap.size ≤ q) : Nl w' A l v' := by
  refine ⟨fun hn => ?_, fun b q hA hv hn => ?_⟩
  · obtain ⟨b, off, e1, e2, e3⟩ := h.1 hn
    have hb := hg.block b e2 (fun e => h.2 b b (by rw [e1]; rfl) e.symm hn rfl)
    refine ⟨b, off, e1, Nat.lt_of_lt_of_le e2 hg.size, fun i hi => ?_⟩
    have h6 := e3 i hi
    unfold World.cell? at h6 ⊢
    rw [← h6, hb]
  · rcases ho q hv with h2 | h2
    · exact h.2 b q hA h2 hn
    · have := row_lt h.1 hn b hA
      omega
theorem Nl.alloc {w : World} {A : Option Addr} {l : List Nat} {v : Value} (h : Nl w A l v) (o : Obj) : Nl (w.alloc o) A l v := ⟨h.1.below ((Below.refl _ _).alloc (Nat.le_refl _) o), h.2⟩
theorem Nl.drewN {w : World} {A : Option Addr} {l : List Nat} {v : Value} (h : Nl w A l v) (m : Nat) : Nl (w.drewN m) A l v := h
set_option maxHeartbeats 8000000 in
theorem rpars_any (g t N : Nat) (Q : Nat → Nat → Int) (R : Rk) (PV : Nat → Value) (n r : Nat) (least : Int) (w : World) (hF : Fine N Q) (hn : n < 16) (hR : R n = some (r + 1)) (hnear : ∀ b, b ∈ near N Q n least → ∃ s, R b = some s) (hs : ∀ x s, R x = some s → s ≤ 15) (hT : RTb w t R PV) (hg : Gr w g 87 N Q) :
    Calls Tryz.prog 34 #[.pointer (some ⟨g, 0, none⟩), .pointer (some ⟨t, 0, none⟩), .int .i64 (n : Int), .int .i64 least] w fun e w' => ∃ A c, e = .returned (.slice A (par N Q least R n).length c) ∧ Rl w' w.heap.size A c (par N Q least R n) ∧ RowKit.Below w.heap.size w w' := by
  obtain ⟨i0, hi0, hz0, hz1, hz2⟩ := info_parts infoT
  have hN := hF.2.1
  have HG := Lib.hid hg
  have HT := Lib.hid hT
  have hr15 := hs n _ hR
  obtain ⟨z, hz, hz1', hz15⟩ : ∃ z : Int, ((r + 1 : Nat) : Int) = z ∧ 1 ≤ z ∧ z ≤ 15 := ⟨_, rfl, by omega, by omega⟩
  have hrn : rI R n = z := by unfold rI; rw [hR]; exact hz
  have HZ := Lib.hid hz
  have HRN := Lib.hid hrn
  have HNEAR : Hid (∀ b, b ∈ near N Q n least → ∃ s, R b = some s ∧ s ≤ 15) := Lib.hid (fun b hb => by
    obtain ⟨s, h⟩ := hnear b hb
    exact ⟨s, h, hs b s h⟩)
  have HRn := Lib.hid hR
  have HF := Lib.hid hF
  clear hg hT hrn hR hnear hs hz hr15
  go_enter Tryz.func34, Tryz.ntmps34
  go_wp2_with fail
  go_loopw [9, 10] (fun v q wr => ∃ m k : Nat, q = .int .i64 m ∧ m + k = 255 ∧ Mine wr w.heap.size 3 v (selP N Q least R n k 0).length (ln (selP N Q least R n k 0)) ∧ RowKit.Below w.heap.size w wr) (fun _ q _ => (intOf q).toNat)
  case atStart => exact ⟨255, 0, rfl, by omega, by rw [selP_zero]; exact Mine.nil _ _ _ _, Below.refl _ _⟩
  case round =>
    obtain ⟨m, k, rfl, hmk, hv, bb⟩ := hrel
    by_cases hm0 : m = 0
    · subst hm0
      obtain rfl : k = 255 := by omega
      rw [selP_end HF.out] at hv
      obtain ⟨A5, c5, rfl, h5⟩ := Rl.of hv
      go_wp2_with fail
      go_ret
      exact ⟨A5, c5, rfl, h5, bb⟩
    · have g1 : 1 ≤ (m : Int) := by omega
      have e1 : IntKind.i64.wrap ((m : Int) - 1) = ((m - 1 : Nat) : Int) := by rw [IntWalk.i64_in _ (by omega)]; omega
      have hgr : Gr wr g 87 N Q := below_blk bb HG.out HG.out.lt
      go_wp2_with fail
      refine (rnear g 87 N Q n least _ hgr hN).mono ?_
      rintro e w1 ⟨vn, rfl, hvn, b1⟩
      have hv1 := mine_below hv b1
      have hlt1 := hv.lt
      have bb1 := bb.trans (b1.mono bb.size)
      obtain ⟨A, cN, rfl, hl0⟩ := Rl.of hvn
      have hnl : Nl w1 A (near N Q n least) _ := ⟨hl0.row, fun b q hA hq hn0 => by
        have h1 := hl0.lo hn0 b hA
        have h2 := (hlt1 q hq).2
        omega⟩
      have hcN := hl0.cap
      have hlN := hl0.le
      have hlen : (near N Q n least).length ≤ N := nr_len N Q n least N
      clear hl0 hvn hv bb b1 hgr hlt1
      clear wr
      obtain ⟨L, hL⟩ : ∃ q, (near N Q n least).length = q := ⟨_, rfl⟩
      rw [hL] at hlen hlN ⊢
      have HL := Lib.hid hL
      unfold maxLen at hcN
      have hL63 : (L : Int) ≤ 9223372036854775807 := by omega
      clear hL
      go_wp2_with fail
      go_loopw [9, 22] (fun v i wz => ∃ j : Nat, i = .int .i64 j ∧ j ≤ L ∧ Mine wz w.heap.size 3 v (selP N Q least R n k j).length (ln (selP N Q least R n k j)) ∧ Nl wz A (near N Q n least) v ∧ RowKit.Below w.heap.size w wz) (fun _ i _ => L - (intOf i).toNat)
      case atStart => exact ⟨0, rfl, by omega, hv1, hnl, bb1⟩
      case round =>
        clear hv1 hnl bb1
        obtain ⟨j, rfl, hj, hv, hnl, b2⟩ := hrel
        by_cases hlt : j < L
        · have hjl : j < (near N Q n least).length := by rw [HL.out]; exact hlt
          obtain ⟨bo, off, rfl, hbo, d0⟩ := row_ln hnl.1 (Below.refl _ _) hjl
          have hp := near_lt (N := N) (Q := Q) (least := least) (n := n) hjl
          have hmem : (near N Q n least).getD j 0 ∈ near N Q n least := by
            rw [List.getD_eq_getElem?_getD, List.getElem?_eq_getElem hjl]
            exact List.getElem_mem hjl
          have hnx := selP_next (N := N) (Q := Q) (least := least) (R := R) (n := n) (k := k) hjl
          obtain ⟨p, hpp⟩ : ∃ p, (near N Q n least).getD j 0 = p := ⟨_, rfl⟩
          rw [hpp] at d0 hp hnx hmem
          obtain ⟨s, hRp, hs15⟩ := HNEAR.out p hmem
          have hp16 : p < 16 := by omega
          have hT3 := HT.out.below b2 HT.out.lt
          have t1 := hT3.rank hp16
          have t2 := hT3.rank hn
          rw [HRN.out] at t2
          have hrp : rI R p = (s : Int) := by unfold rI; rw [hRp]
          rw [hrp] at t1
          have hC : isC R n p = decide ((s : Int) = z - 1) := by
            unfold isC rkI
            rw [hRp, HRn.out, ← HZ.out]
            rfl
          have hgr : Gr wr g 87 N Q := below_blk b2 HG.out HG.out.lt
          have hq : ∀ a, Calls Tryz.prog 58 #[.pointer (some ⟨g, 0, none⟩), .int .i64 (n : Int), .int .i64 (p : Int)] (wr.drewN a) _ := fun a => quiet_some (rquality g 87 N Q n p (wr.drewN a) (Blk.drewN hgr a) hN)
          obtain ⟨y, hy⟩ : ∃ y, qual N Q n p = y := ⟨_, rfl⟩
          rw [hy] at hq hnx
          have hsl := selP_len (N := N) (Q := Q) (least := least) (R := R) (n := n) k j
          have em : ((255 - k : Nat) : Int) = (m : Int) := by omega
          rw [hC, em] at hnx
          have HNX := Lib.hid hnx
          obtain ⟨av, cv, rfl, hlv1, hlv2, hrv⟩ := hv.row
          obtain ⟨ls, hls⟩ : ∃ q, (selP N Q least R n k j).length = q := ⟨_, rfl⟩
          rw [hls] at hsl hlv1 hnl
          have HLS := Lib.hid hls
          have HV := Lib.hid hv
          have e2 : IntKind.i64.wrap (z - 1) = z - 1 := IntWalk.i64_in _ (by omega)
          have g2 : (p : Int) < 16 := by omega
          have g3 : (n : Int) < 16 := by omega
          have hs0 := b2.size
          rw [hls]
          clear hnx hpp hmem hRp hT3 hrp hC hgr hy em hls hv hrv hjl
          by_cases h1 : (s : Int) = z - 1
          · have g4 : ((s : Int) == z - 1) = true := by simpa using h1
            by_cases h2 : y = (m : Int)
            · have g5 : (y == (m : Int)) = true := by simpa using h2
              by_cases h3 : ls < 2
              · have g6 : (ls : Int) < 2 := by omega
                have HY : Hid (selP N Q least R n k (j + 1) = selP N Q least R n k j ++ [p]) := Lib.hid (by rw [HNX.out, HLS.out, if_pos (by rw [decide_eq_true h1, decide_eq_true h2]; rfl), if_pos h3])
                clear h1 h2 h3
                go_upto_region 8 with (fail)
                go_quiet (first | (go_at_call 58; exact hq _))
                generalize hw2 : World.drewN _ _ = w2 at *
                have hv2 := mine_drew HV.out hw2
                have hn2 : Nl w2 _ _ _ := hw2 ▸ hnl.drewN _
                have b3 : RowKit.Below w.heap.size w w2 := by rw [← hw2]; exact below_drewN b2 _
                clear hw2 hnl b2 d0 t1 t2 hq HV
                have hs2 := b3.size
                rw [HLS.out] at hv2
                go_wp2_with (at_builtin; go_must (refine wp_app_at rfl (.tmp 53) (.tmp 55) _ rfl w.heap.size 3 i0 _ 8 Tryz.underlying29 hi0 hz0 hz1 hz2 rfl _ ls (ln (selP N Q least R n k j)) rfl (hv2.alloc _) _ 1 _ (fun _ => .int .i64 (p : Int)) rfl (row_new _ _ _ _ (fun i hi => by obtain rfl : i = 0 := (by omega); rfl)) (fun _ _ => rfl) ?c1 ?c2 ?c3 ?_))
                case c1 => unfold maxLen; omega
                case c2 => omega
                case c3 => first | omega | (simp; omega)
                intro v' w5 hv5 hg5 ho5
                have b5 : RowKit.Below w.heap.size w w5 := (b3.alloc hs2 _).grown hg5 (by simp; omega) (fun q hq => (hv2.lt q hq).1)
                have hn5 := (hn2.alloc _).grown hg5 (fun q hq => by
                  rcases ho5 with e | e
                  · exact .inl (by rw [← e]; exact hq)
                  · rw [e] at hq
                    injection hq with hq
                    exact .inr (by simp; omega))
                have hv6 : Mine w5 w.heap.size 3 v' (selP N Q least R n k (j + 1)).length (ln (selP N Q least R n k (j + 1))) := by
                  rw [HY.out, List.length_append, HLS.out]
                  exact hv5.ext (fun q hq => by
                    have := ln_snoc (selP N Q least R n k j) p q (by rw [HLS.out]; exact hq)
                    rw [HLS.out] at this
                    exact this)
                clear hv2 hv5 b3 hn2
                go_wp2_with fail
                exact ⟨⟨j + 1, by simp [intOf], by omega, hv6, hn5, b5⟩, by simp [intOf]; omega⟩
              · have g6 : decide ((ls : Int) < 2) = false := by simp; omega
                have HY : Hid (selP N Q least R n k (j + 1) = selP N Q least R n k j) := Lib.hid (by rw [HNX.out, HLS.out, if_neg h3]; split <;> rfl)
                clear h1 h2 h3
                go_upto_region 8 with (fail)
                go_quiet (first | (go_at_call 58; exact hq _))
                generalize hw2 : World.drewN _ _ = w2 at *
                have hv2 := mine_drew HV.out hw2
                have hn2 : Nl w2 _ _ _ := hw2 ▸ hnl.drewN _
                have b3 : RowKit.Below w.heap.size w w2 := by rw [← hw2]; exact below_drewN b2 _
                clear hw2 hnl b2 d0 t1 t2 hq HV
                rw [HLS.out] at hv2
                go_wp2_with fail
                exact ⟨⟨j + 1, by simp [intOf], by omega, by rw [HY.out, HLS.out]; exact hv2, hn2, b3⟩, by simp [intOf]; omega⟩
            · have g5 : (y == (m : Int)) = false := by simpa using h2
              have HY : Hid (selP N Q least R n k (j + 1) = selP N Q least R n k j) := Lib.hid (by rw [HNX.out, if_neg (by rw [decide_eq_false h2, Bool.and_false]; decide)])
              clear h1 h2
              go_upto_region 8 with (fail)
              go_quiet (first | (go_at_call 58; exact hq _))
              generalize hw2 : World.drewN _ _ = w2 at *
              have hv2 := mine_drew HV.out hw2
              have hn2 : Nl w2 _ _ _ := hw2 ▸ hnl.drewN _
              have b3 : RowKit.Below w.heap.size w w2 := by rw [← hw2]; exact below_drewN b2 _
              clear hw2 hnl b2 d0 t1 t2 hq HV
              rw [HLS.out] at hv2
              go_wp2_with fail
              exact ⟨⟨j + 1, by simp [intOf], by omega, by rw [HY.out, HLS.out]; exact hv2, hn2, b3⟩, by simp [intOf]; omega⟩
          · have g4 : ((s : Int) == z - 1) = false := by simpa using h1
            have HY : Hid (selP N Q least R n k (j + 1) = selP N Q least R n k j) := Lib.hid (by rw [HNX.out, decide_eq_false h1]; simp)
            clear h1
            go_upto_region 8 with (fail)
            go_quiet (first | (go_at_call 58; exact hq _))
            generalize hw2 : World.drewN _ _ = w2 at *
            have hv2 := mine_drew HV.out hw2
            have hn2 : Nl w2 _ _ _ := hw2 ▸ hnl.drewN _
            have b3 : RowKit.Below w.heap.size w w2 := by rw [← hw2]; exact below_drewN b2 _
            clear hw2 hnl b2 d0 t1 t2 hq HV
            rw [HLS.out] at hv2
            go_wp2_with fail
            exact ⟨⟨j + 1, by simp [intOf], by omega, by rw [HY.out, HLS.out]; exact hv2, hn2, b3⟩, by simp [intOf]; omega⟩
        · obtain rfl : j = L := by omega
          have g4 : decide ((j : Int) < (j : Int)) = false := by simp
          have hrw : selP N Q least R n (k + 1) 0 = selP N Q least R n k j := by rw [selP_row, HL.out]
          have HRW := Lib.hid hrw
          clear hrw
          go_wp2_with fail
          exact ⟨⟨m - 1, k + 1, by simp, by omega, by rw [HRW.out]; exact hv, b2⟩, by simp [intOf]; omega⟩
end Go.Proofs.YtahcplddonipcaaGreat.Tr
set_option maxRecDepth 100000
namespace Go.Proofs.YtahcplddonipcaaGreat.Tr
set_option linter.unusedVariables false
open Go.RowKit Lb Tp

def rtz : Array Value := (List.replicate 16 (Value.int .i64 0) ++ List.replicate 16 (Value.slice none 0 0)).toArray
theorem rtz_built : Tryz.prog.built 82 [] = some rtz := by kernel_rfl
theorem rtz_tree (w : World) : RTb (w.alloc (.cells rtz 82)) w.heap.size (fun x => if x < 0 then none else some 0) (fun _ => .slice none 0 0) := Blk.of (Own.new w 82 rtz) (by decide) (fun i hi => by
  unfold rtz rtv rI
  rw [List.getElem?_toArray, List.getElem?_append, List.length_replicate]
  by_cases h : i < 16
  · rw [if_pos h, if_pos h, List.getElem?_replicate, if_pos h]
    rfl
  · rw [if_neg h, if_neg h, List.getElem?_replicate, if_pos (by omega)])
def oI (s : Option Nat) : Int := match s with
  | some r => (r : Int)
  | none => -1
theorem RTb.put {w : World} {t b : Nat} {R : Rk} {P : Nat → Value} (h : RTb w t R P) (hb : b < 16) (s : Option Nat) : RTb (w.setCell ⟨t, b, none⟩ (.int .i64 (oI s))) t (fun j => if j = b then s else R j) P := by
  unfold RTb at h ⊢
  refine (Blk.put h b (.int .i64 (oI s))).ext (fun i hi => ?_)
  unfold rtv rI
  dsimp only
  by_cases h1 : i = b
  · subst h1
    rw [if_pos rfl, if_pos hb, if_pos rfl]
    rfl
  · rw [if_neg h1]
    by_cases h2 : i < 16
    · rw [if_pos h2, if_pos h2, if_neg h1]
    · rw [if_neg h2, if_neg h2]
theorem RTb.putP {w : World} {t b : Nat} {R : Rk} {P : Nat → Value} (h : RTb w t R P) (hb : b < 16) (v : Value) : RTb (w.setCell ⟨t, 16 + b, none⟩ v) t R (fun j => if j = b then v else P j) := by
  unfold RTb at h ⊢
  refine (Blk.put h (16 + b) v).ext (fun i hi => ?_)
  unfold rtv
  dsimp only
  by_cases h1 : i = 16 + b
  · subst h1
    rw [if_pos rfl, if_neg (by omega), if_pos (by omega)]
  · rw [if_neg h1]
    by_cases h2 : i < 16
    · rw [if_pos h2, if_pos h2]
    · rw [if_neg h2, if_neg h2, if_neg (by omega)]
theorem RTb.ext {w : World} {t : Nat} {R S : Rk} {P : Nat → Value} (h : RTb w t R P) (e : ∀ x, x < 16 → R x = S x) : RTb w t S P := by
  unfold RTb at h ⊢
  refine Blk.ext h (fun i hi => ?_)
  unfold rtv rI
  by_cases h2 : i < 16
  · rw [if_pos h2, if_pos h2, e i h2]
  · rw [if_neg h2, if_neg h2]
set_option maxHeartbeats 8000000 in
theorem rbuild_any (g N : Nat) (Q : Nat → Nat → Int) (least : Int) (w : World) (hF : Fine N Q) (hg : Gr w g 87 N Q) :
    Calls Tryz.prog 10 #[.pointer (some ⟨g, 0, none⟩), .int .i64 least] w fun r w' => ∃ t R, r = .returned (.pointer (some ⟨t, 0, none⟩)) ∧ w.heap.size ≤ t ∧ RTre w' t R (parT N Q least R) ∧ Fin_ N Q least R ∧ (∀ x s, R x = some s → s ≤ 15) ∧ RowKit.Below w.heap.size w w' := by
  have hN1 := hF.1
  have hN := hF.2.1
  have hfin := rall_fin (Q := Q) (least := least) hN1 hN
  have HFIN := Lib.hid hfin
  have HF := Lib.hid hF
  have HTZ := Lib.hid rtz_built
  have hT0 := rtz_tree w
  have b0 := (Below.refl w.heap.size w).alloc (Nat.le_refl _) (.cells rtz 82)
  obtain ⟨t, ht⟩ : ∃ q, w.heap.size = q := ⟨_, rfl⟩
  have hgt : g < t := ht ▸ hg.lt
  have HG := Lib.hid hg
  rw [ht] at hT0 b0
  have HW := Lib.hid ht
  clear hg hF hfin
  go_enter Tryz.func10, Tryz.ntmps10
  go_upto_region 2 with (refine wpList_built rtz rfl rfl HTZ.out ?_)
  clear ht HTZ
  generalize w.alloc (.cells rtz 82) = w0 at *
  go_wp2_with fail
  go_loopw [14] (fun i wr => ∃ k : Nat, i = .int .i64 k ∧ k ≤ 16 ∧ RTb wr t (fun x => if x < k then none else some 0) (fun _ => .slice none 0 0) ∧ RowKit.Below t w wr) (fun i _ => 16 - (intOf i).toNat)
  case atStart => exact ⟨0, rfl, by omega, hT0, b0⟩
  case round =>
    clear hT0 b0
    clear w0
    obtain ⟨k, rfl, hk, hT, bb⟩ := hrel
    by_cases hlt : k < 16
    · have g1 : (k : Int) < 16 := by omega
      have c1 := hT.rank hlt
      have f1 : wr.frozen? ⟨t, k, none⟩ = false := Blk.free hT k
      have hT2 : RTb (wr.setCell ⟨t, k, none⟩ (.int .i64 (-1))) t (fun x => if x < k + 1 then none else some 0) (fun _ => .slice none 0 0) := (hT.put hlt none).ext (fun x _ => by
        by_cases h1 : x = k
        · subst h1
          rw [if_pos rfl, if_pos (by omega)]
        · rw [if_neg h1]
          by_cases h2 : x < k
          · rw [if_pos h2, if_pos (by omega)]
          · rw [if_neg h2, if_neg (by omega)])
      have b2 := (Just.set t wr k (.int .i64 (-1))).below bb (Nat.le_refl t) (Nat.le_of_lt hT.lt)
      clear hT bb
      go_wp2_with fail
      exact ⟨⟨k + 1, by simp [intOf], by omega, hT2, b2⟩, by simp [intOf]; omega⟩
    · have hk16 : k = 16 := by omega
      have HK := Lib.hid hk16
      have g1 : decide ((k : Int) < 16) = false := by simp; omega
      clear hk hlt hk16
      -- <A
      have c1 := hT.rank (x := 0) (by decide)
      have f1 : wr.frozen? ⟨t, 0, none⟩ = false := Blk.free hT 0
      have hT2 : RTb (wr.setCell ⟨t, 0, none⟩ (.int .i64 0)) t (rallK N Q least 0) (fun _ => .slice none 0 0) := (hT.put (by decide : 0 < 16) (some 0)).ext (fun x hx => by
        show _ = R0 x
        unfold R0
        by_cases h1 : x = 0
        · rw [if_pos h1, if_pos h1]
        · rw [if_neg h1, if_neg h1, if_pos (by rw [HK.out]; exact hx)])
      have b2 := (Just.set t wr 0 (.int .i64 0)).below bb (Nat.le_refl t) (Nat.le_of_lt hT.lt)
      have n1 := Gr.n (Q := Q) (N := N) (t := 87) (below_blk b2 HG.out hgt)
      clear hT bb
      go_upto_region 8 with (fail)
      generalize wr.setCell ⟨t, 0, none⟩ (.int .i64 0) = w1 at *
      clear c1 f1
      clear wr
      go_wp2_with fail
      clear n1
      go_loopw [31] (fun i wr => ∃ r : Nat, i = .int .i64 r ∧ r ≤ N ∧ RTb wr t (rallK N Q least r) (fun _ => .slice none 0 0) ∧ RowKit.Below t w wr) (fun i _ => N - (intOf i).toNat)
      case atStart => exact ⟨0, rfl, by omega, hT2, b2⟩
      case round =>
        clear hT2 b2
        clear w1
        obtain ⟨r, rfl, hr, hT, bb⟩ := hrel
        by_cases hrN : r < N
        · have g1 : (r : Int) < (N : Int) := by omega
          have n1 := Gr.n (Q := Q) (N := N) (t := 87) (below_blk bb HG.out hgt)
          go_wp2_with fail
          clear n1
          have hT0 : RTb wr t (rndK N Q least r (rallK N Q least r) 0) (fun _ => .slice none 0 0) := hT
          go_loopw [38] (fun i wr => ∃ k : Nat, i = .int .i64 k ∧ k ≤ N ∧ RTb wr t (rndK N Q least r (rallK N Q least r) k) (fun _ => .slice none 0 0) ∧ RowKit.Below t w wr) (fun i _ => N - (intOf i).toNat)
          case atStart => exact ⟨0, rfl, by omega, hT0, bb⟩
          case round =>
            clear hT0 hT bb
            obtain ⟨k, rfl, hk, hT, bb⟩ := hrel
            by_cases hkN : k < N
            · -- <B
              have g2 : (k : Int) < (N : Int) := by omega
              have hk16 : k < 16 := by omega
              have g3 : (k : Int) < 16 := by omega
              have c1 := hT.rank hk16
              have hnx := rndK_next (N := N) (Q := Q) (least := least) r (rallK N Q least r) k
              obtain ⟨Rr, hRr⟩ : ∃ q, rndK N Q least r (rallK N Q least r) k = q := ⟨_, rfl⟩
              rw [hRr] at hT hnx c1
              have HNX := Lib.hid hnx
              clear hnx hRr
              by_cases hRk : Rr k = some r
              · have hx : rI Rr k = (r : Int) := by unfold rI; rw [hRk]
                rw [hx] at c1
                have HV : Hid (rndK N Q least r (rallK N Q least r) (k + 1) = (visits r (Rr, []) (near N Q k least)).1) := Lib.hid (by rw [HNX.out]; unfold rin; rw [if_pos hRk])
                have hgr := (below_blk bb HG.out hgt : Gr _ g 87 N Q)
                clear hRk hx
                go_wp2_with fail
                refine (rnear g 87 N Q k least _ hgr hN).mono ?_
                rintro e w5 ⟨vn, rfl, hvn, b5⟩
                obtain ⟨A, cN, rfl, hl⟩ := Rl.of hvn
                have hT3 : RTb w5 t _ _ := hT.below b5 hT.lt
                have bb3 := bb.trans (b5.mono (Nat.le_of_lt hT.lt))
                have hl3 : Rl w5 (t + 1) A cN (near N Q k least) := hl.mono hT.lt
                have hcN := hl.cap
                have hlN := hl.le
                have HNL := Lib.hid (fun j (hj : j < (near N Q k least).length) => near_lt hj)
                have hT0 : RTb w5 t (visits r (Rr, []) ((near N Q k least).take 0)).1 (fun _ => .slice none 0 0) := hT3
                obtain ⟨L, hL⟩ : ∃ L, (near N Q k least).length = L := ⟨_, rfl⟩
                have HL := Lib.hid hL
                rw [hL] at hlN ⊢
                unfold maxLen at hcN
                have hL63 : (L : Int) ≤ 9223372036854775807 := by omega
                clear hvn hl hL hT hgr bb b5 c1 hT3
                clear wr
                go_wp2_with fail
                go_loopw [54] (fun i wr => ∃ j : Nat, i = .int .i64 j ∧ j ≤ L ∧ RTb wr t (visits r (Rr, []) ((near N Q k least).take j)).1 (fun _ => .slice none 0 0) ∧ Rl wr (t + 1) A cN (near N Q k least) ∧ RowKit.Below t w wr) (fun i _ => L - (intOf i).toNat)
                case atStart => exact ⟨0, rfl, by omega, hT0, hl3, bb3⟩
                case round =>
                  clear hT0 hl3 bb3
                  clear w5
                  obtain ⟨j, rfl, hj, hT, hl, bb⟩ := hrel
                  by_cases hjL : j < L
                  · -- <C
                    have hj2 : j < (near N Q k least).length := by rw [HL.out]; exact hjL
                    obtain ⟨bo, off, hAe, hbo, d0⟩ := row_ln hl.row (Below.refl _ _) hj2
                    have hbN := HNL.out j hj2
                    have htk : (near N Q k least).take (j + 1) = (near N Q k least).take j ++ [(near N Q k least).getD j 0] := by
                      rw [List.take_add_one, List.getD_eq_getElem?_getD, List.getElem?_eq_getElem hj2]
                      rfl
                    have hvs := visits_snoc r (Rr, []) ((near N Q k least).take j) ((near N Q k least).getD j 0)
                    rw [← htk] at hvs
                    obtain ⟨b, hb⟩ : ∃ b, (near N Q k least).getD j 0 = b := ⟨_, rfl⟩
                    rw [hb] at d0 hbN hvs
                    obtain ⟨s, hs⟩ : ∃ s, visits r (Rr, []) ((near N Q k least).take j) = s := ⟨_, rfl⟩
                    rw [hs] at hT hvs
                    obtain ⟨R1, f1⟩ := s
                    dsimp only at hT
                    have HVS := Lib.hid hvs
                    have hb16 : b < 16 := by omega
                    have g4 : (b : Int) < 16 := by omega
                    have c1 := hT.rank hb16
                    have e1 : IntKind.i64.wrap ((r : Int) + 1) = (r : Int) + 1 := IntWalk.i64_in _ (by omega)
                    have HL2 := Lib.hid hl
                    subst hAe
                    clear htk hvs hb hs hj2 hl
                    cases hRb : R1 b with
                    | some q =>
                      have hx : rI R1 b = (q : Int) := by unfold rI; rw [hRb]
                      rw [hx] at c1
                      have hv2 : Hid ((visits r (Rr, []) ((near N Q k least).take (j + 1))).1 = R1) := Lib.hid (by rw [HVS.out, visit_some hRb])
                      clear hRb hx
                      go_wp2_with fail
                      exact ⟨⟨j + 1, by simp [intOf], by omega, by rw [hv2.out]; exact hT, HL2.out, bb⟩, by simp [intOf]; omega⟩
                    | none =>
                      have hx : rI R1 b = -1 := by unfold rI; rw [hRb]
                      rw [hx] at c1
                      have hv2 : Hid ((visits r (Rr, []) ((near N Q k least).take (j + 1))).1 = fun x => if x = b then some (r + 1) else R1 x) := Lib.hid (by rw [HVS.out, visit_none hRb])
                      have f3 : wr.frozen? ⟨t, b, none⟩ = false := Blk.free hT _
                      have hT6 : RTb (wr.setCell ⟨t, b, none⟩ (.int .i64 ((r : Int) + 1))) t _ _ := hT.put hb16 (some (r + 1))
                      have j6 := Just.set t wr b (.int .i64 ((r : Int) + 1))
                      have b6 := j6.below bb (Nat.le_refl t) (Nat.le_of_lt hT.lt)
                      have hl6 := HL2.out.just j6 (by omega)
                      clear hRb hx hT bb HL2 j6
                      go_wp2_with fail
                      exact ⟨⟨j + 1, by simp [intOf], by omega, by rw [hv2.out]; exact hT6, hl6, b6⟩, by simp [intOf]; omega⟩
                    -- C>
                  · obtain rfl : j = L := by omega
                    have g5 : decide ((j : Int) < (j : Int)) = false := by simp
                    have htk : (near N Q k least).take j = near N Q k least := by rw [← HL.out, List.take_length]
                    rw [htk, ← HV.out] at hT
                    clear htk
                    go_wp2_with fail
                    exact ⟨⟨k + 1, by simp [intOf], by omega, hT, bb⟩, by simp [intOf]; omega⟩
              · have HV : Hid (rndK N Q least r (rallK N Q least r) (k + 1) = Rr) := Lib.hid (by rw [HNX.out]; unfold rin; rw [if_neg hRk])
                obtain ⟨x, hx⟩ : ∃ x, rI Rr k = x := ⟨_, rfl⟩
                rw [hx] at c1
                have g4 : (x != (r : Int)) = true := by
                  unfold rI at hx
                  cases hR : Rr k with
                  | none => rw [hR] at hx; dsimp only at hx; simp; omega
                  | some s =>
                    rw [hR] at hx hRk
                    dsimp only at hx
                    have : s ≠ r := fun e => hRk (by rw [e])
                    simp
                    omega
                clear hRk hx
                go_wp2_with fail
                exact ⟨⟨k + 1, by simp [intOf], by omega, by rw [HV.out]; exact hT, bb⟩, by simp [intOf]; omega⟩
              -- B>
            · obtain rfl : k = N := by omega
              have g5 : decide ((k : Int) < (k : Int)) = false := by simp
              rw [← rallK_next] at hT
              go_wp2_with fail
              exact ⟨⟨r + 1, by simp [intOf], by omega, hT, bb⟩, by simp [intOf]; omega⟩
        · obtain rfl : r = N := by omega
          -- <D
          have g5 : decide ((r : Int) < (r : Int)) = false := by simp
          have n1 := Gr.n (Q := Q) (N := r) (t := 87) (below_blk bb HG.out hgt)
          obtain ⟨R, hR⟩ : ∃ R, rallK r Q least r = R := ⟨_, rfl⟩
          rw [hR] at HFIN hT
          have hTz : RTb wr t R (fun x => .slice none (parK r Q least R 0 x).length 0) := hT
          have hRz : Hid (∀ x, x < 16 → Rl wr (t + 1) none 0 (parK r Q least R 0 x)) := Lib.hid (fun x _ => Rl.nil wr (t + 1))
          clear hR hT
          go_wp2_with fail
          clear n1 g5
          go_loopw [79] (fun i wr => ∃ (k : Nat) (A : Nat → Option Addr) (K : Nat → Nat), i = .int .i64 k ∧ k ≤ r ∧ RTb wr t R (fun x => .slice (A x) (parK r Q least R k x).length (K x)) ∧ Hid (∀ x, x < 16 → Rl wr (t + 1) (A x) (K x) (parK r Q least R k x)) ∧ RowKit.Below t w wr) (fun i _ => r - (intOf i).toNat)
          case atStart => exact ⟨0, fun _ => none, fun _ => 0, rfl, by omega, hTz, hRz, bb⟩
          case round =>
            clear hTz hRz bb
            obtain ⟨k, A, K, rfl, hk, hT, HR, bb⟩ := hrel
            by_cases hlt : k < r
            · have g1 : (k : Int) < (r : Int) := by omega
              have hk16 : k < 16 := by omega
              have g3 : (k : Int) < 16 := by omega
              have c1 := hT.rank hk16
              by_cases hp : ∃ s, R k = some (s + 1)
              · obtain ⟨s, hRk⟩ := hp
                have hx : rI R k = (s : Int) + 1 := by unfold rI; rw [hRk]; rfl
                obtain ⟨x, hx2, hx3⟩ : ∃ x : Int, (s : Int) + 1 = x ∧ 0 < x := ⟨_, rfl, by omega⟩
                rw [hx, hx2] at c1
                have hgr : Gr wr.drew g 87 r Q := Blk.drewN (below_blk bb HG.out hgt) 1
                have hTd : RTb wr.drew t R (fun x => .slice (A x) (parK r Q least R k x).length (K x)) := Blk.drewN hT 1
                have PC := rpars_any g t r Q R _ k s least wr.drew HF.out hk16 hRk (fun b hb => by
                  obtain ⟨u, hu, _⟩ := HFIN.out.1.near k _ hRk b hb
                  exact ⟨u, hu⟩) HFIN.out.2 hTd hgr
                have hpe : par r Q least R k = parT r Q least R k := by unfold parT; rw [hRk]; rfl
                rw [hpe] at PC
                have c0 := c1
                have hlw := hTd.lt
                have bd : RowKit.Below t w wr.drew := below_drewN bb 1
                obtain ⟨pl, hpl⟩ : ∃ pl, parT r Q least R k = pl := ⟨_, rfl⟩
                rw [hpl] at PC
                have HP : Hid (∀ x, parK r Q least R (k + 1) x = if x = k then pl else parK r Q least R k x) := Lib.hid (fun x => by rw [parK_next, hpl])
                have s0 : (fun w' : World => w'.cell? ⟨t, k, none⟩ = some (.int .i64 x)) wr.drew := c0
                have HTd := Lib.hid hTd
                have HPC := Lib.hid PC
                have HX : Hid (rI R k = x) := Lib.hid (hx.trans hx2)
                clear hRk hpe hpl hgr PC hT hTd c0 hx hx2
                go_upto_region 27 with (fail)
                clear c1
                go_region_held3 (fun w' : World => w'.cell? ⟨t, k, none⟩ = some (.int .i64 x)) (with_reducible first | exact s0 | exact s1 | exact s2) ((go_at_call 34; refine HPC.out.mono ?_; rintro q5 w5 ⟨A5, c5, rfl, hr5, b5⟩; have hT5 : RTb w5 t R _ := below_blk b5 HTd.out hlw; have s1 : (fun w' : World => w'.cell? ⟨t, k, none⟩ = some (.int .i64 x)) w5 := keep_cell b5 s0; have c5' := hT5.par hk16; have f5 := Blk.free hT5 (16 + k); have s2 : (fun w' : World => w'.cell? ⟨t, k, none⟩ = some (.int .i64 x)) (w5.setCell ⟨t, 16 + k, none⟩ (.slice A5 pl.length c5)) := by (have hq := (hT5.putP hk16 (.slice A5 pl.length c5)).rank hk16; rw [HX.out] at hq; exact hq)))
                all_goals
                  have b6 := bd.trans (b5.mono (Nat.le_of_lt hlw))
                  have hT6 := hT5.putP hk16 (.slice A5 pl.length c5)
                  have j6 := Just.set t w5 (16 + k) (.slice A5 pl.length c5)
                  have b7 := j6.below b6 (Nat.le_refl t) (Nat.le_of_lt hT5.lt)
                  have hT7 : RTb (w5.setCell ⟨t, 16 + k, none⟩ (.slice A5 pl.length c5)) t R (fun x => .slice (if x = k then A5 else A x) (parK r Q least R (k + 1) x).length (if x = k then c5 else K x)) := by
                    refine Blk.ext hT6 (fun i hi => ?_)
                    unfold rtv
                    by_cases h1 : i < 16
                    · rw [if_pos h1, if_pos h1]
                    · rw [if_neg h1, if_neg h1]
                      dsimp only
                      rw [HP.out]
                      by_cases h3 : i - 16 = k
                      · simp only [if_pos h3]
                      · simp only [if_neg h3]
                  have HR7 : Hid (∀ x, x < 16 → Rl (w5.setCell ⟨t, 16 + k, none⟩ (.slice A5 pl.length c5)) (t + 1) (if x = k then A5 else A x) (if x = k then c5 else K x) (parK r Q least R (k + 1) x)) := Lib.hid (fun x hx => by
                    rw [HP.out]
                    by_cases h3 : x = k
                    · simp only [if_pos h3]
                      exact (hr5.mono hlw).just j6 (by omega)
                    · simp only [if_neg h3]
                      have hold : Rl wr.drew (t + 1) (A x) (K x) (parK r Q least R k x) := by
                        have := HR.out x hx
                        exact ⟨this.le, this.cap, this.row, this.lo⟩
                      exact (hold.below b5).just j6 (by omega))
                  clear hT5 hT6 j6 hr5 b5 s1 s2 c5' f5 b6
                  go_wp2_with fail
                  exact ⟨⟨k + 1, _, _, by simp [intOf], by omega, hT7, HR7, b7⟩, by simp [intOf]; omega⟩
              · -- <F
                have hpe : parT r Q least R k = [] := by
                  cases hq : parT r Q least R k with
                  | nil => rfl
                  | cons p l =>
                    obtain ⟨s, h1, _⟩ := mem_parT HFIN.out.1 (n := k) (x := p) (by rw [hq]; simp)
                    exact absurd ⟨s, h1⟩ hp
                obtain ⟨x, hx⟩ : ∃ x, rI R k = x := ⟨_, rfl⟩
                rw [hx] at c1
                have g4 : x ≤ 0 := by
                  unfold rI at hx
                  cases hR : R k with
                  | none => rw [hR] at hx; dsimp only at hx; omega
                  | some s =>
                    cases s with
                    | zero => rw [hR] at hx; dsimp only at hx; omega
                    | succ s => exact absurd ⟨s, hR⟩ hp
                have HP : Hid (∀ x, parK r Q least R (k + 1) x = parK r Q least R k x) := Lib.hid (fun x => by
                  rw [parK_next]
                  by_cases h : x = k
                  · subst h
                    rw [if_pos rfl, hpe]
                    unfold parK
                    rw [if_neg (by omega)]
                  · rw [if_neg h])
                have hT2 : RTb wr t R (fun x => .slice (A x) (parK r Q least R (k + 1) x).length (K x)) := by
                  simp only [HP.out]
                  exact hT
                have HR2 : Hid (∀ x, x < 16 → Rl wr (t + 1) (A x) (K x) (parK r Q least R (k + 1) x)) := Lib.hid (fun x hx => by rw [HP.out]; exact HR.out x hx)
                clear hp hx hT hpe
                go_wp2_with fail
                exact ⟨⟨k + 1, A, K, by simp [intOf], by omega, hT2, HR2, bb⟩, by simp [intOf]; omega⟩
                -- F>
            · obtain rfl : k = r := by omega
              have g5 : decide ((k : Int) < (k : Int)) = false := by simp
              have hpk : ∀ x, parK k Q least R k x = parT k Q least R x := fun x => by
                unfold parK
                by_cases h : x < k
                · rw [if_pos h]
                · rw [if_neg h]
                  unfold parT
                  cases hx : R x with
                  | none => rfl
                  | some s => have := HFIN.out.1.inN x s hx; omega
              have hT7 : RTb wr t R (fun x => .slice (A x) (parT k Q least R x).length (K x)) := by
                have := hT
                simp only [hpk] at this
                exact this
              have HP := Lib.hid hpk
              clear hpk hT
              go_wp2_with fail
              go_ret
              refine ⟨t, R, rfl, by rw [HW.out]; exact Nat.le_refl _, ⟨A, K, hT7, fun x hx => by rw [← HP.out]; exact HR.out x hx⟩, HFIN.out.1, HFIN.out.2, by rw [HW.out]; exact bb⟩
          -- D>
      -- A>
end Go.Proofs.YtahcplddonipcaaGreat.Tr
