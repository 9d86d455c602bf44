/-
  Package tree (chapter 21): Parents, Path.
-/
import Derived.Test.YthdgnnjnkeljmaaTrBuild
import Derived.Ground.NamesProg
import Derived.Ground.Names2Prog
import Derived.Shelf.Slices.Clone
set_option maxRecDepth 100000
namespace Go.Proofs
set_option linter.unusedVariables false
open Go.Shelf
def Try.laysClone_ren : Go.Shelf.Ren := ⟨fun | 15 => 40 | n => n, fun | 22 => 33 | 3 => 3 | 4 => 4 | n => n, fun | n => n⟩
theorem Try.laysClone : Go.Proofs.Lays2.n15 Try.prog Try.laysClone_ren := {
  mixed := by kernel_rfl
  f15 := Try.func40.trans (congrArg some (by kernel_rfl))
  t3 := Try.underlying3
  a3 := Try.isAgg3
  z3 := Try.sizeOf3
  v3 := Try.zeroValue3
  t4 := Try.underlying4
  a4 := Try.isAgg4
  z4 := Try.sizeOf4
  v4 := Try.zeroValue4
  t22 := Try.underlying33
  a22 := Try.isAgg33
  z22 := Try.sizeOf33
  v22 := Try.zeroValue33
  i3 := by kernel_rfl }
end Go.Proofs
namespace Go.Proofs.Ythdgnnjnkeljmaa.Tr
set_option linter.unusedVariables false
open Go.RowKit Lb Tp Go.Sort Go.Shelf

theorem ln_ints (l : List Nat) : (List.range l.length).map (ln l) = (l.map Int.ofNat).map (Value.int .i64) := by
  apply List.ext_getElem
  · simp
  · intro i h1 h2
    simp at h1
    simp [ln, List.getD, h1]
/-- A copy: the same nodes, in a new block or none; nil of nil. -/
theorem clone_any (a : Option Addr) (c : Nat) (l : List Nat) (w : World) (hc : l.length ≤ 1000000) (hR : Row w a l.length (ln l)) :
    Calls Try.prog 40 #[.slice a l.length c] w fun r w' => ∃ v, r = .returned v ∧ Mine w' w.heap.size 3 v l.length (ln l) ∧ RowKit.Below w.heap.size w w' := by
  cases a with
  | none =>
    refine (Any.slices_Clone_int_nil Try.laysClone l.length c w).mono ?_
    rintro r w' ⟨rfl, rfl⟩
    have h0 : l.length = 0 := by
      rcases Nat.eq_zero_or_pos l.length with h | h
      · exact h
      · obtain ⟨_, _, e, _⟩ := hR h
        cases e
    refine ⟨.slice none 0 0, rfl, ?_, Below.refl _ _⟩
    rw [h0]
    exact Mine.nil _ _ _ _
  | some p =>
    by_cases h0 : l.length = 0
    · rw [h0]
      refine (Any.slices_Clone_int_zero Try.laysClone p c w).mono ?_
      rintro r w' ⟨v, rfl, hown, hne, hb⟩
      exact ⟨v, rfl, hown, hb⟩
    · obtain ⟨b, off, hp, hbl, hcs⟩ := hR (by omega)
      injection hp with hp
      subst hp
      have hlen : l.length = (l.map Int.ofNat).length := by simp
      refine (Any.slices_Clone_int Try.laysClone b off l.length c (l.map Int.ofNat) w (by simp) (by omega) (fun j hj => ?_)).mono ?_
      · have := hcs j (by simpa using hj)
        rw [this]
        have hj2 : j < l.length := by simpa using hj
        unfold ln
        simp [List.getD, hj2]
      · rintro r w' ⟨v, rfl, hown, hne, hb⟩
        rw [hlen, List.take_length, ← hlen] at hown
        refine ⟨v, rfl, ?_, hb⟩
        unfold Mine
        rw [ln_ints]
        exact hown
def parsT (R : Rk) (P : Nat → List Nat) (x : Int) : List Nat := if hasT R x = true then P x.toNat else []
theorem parents_any (t : Nat) (R : Rk) (P : Nat → List Nat) (x : Int) (w : World) (h : Tre w t R P) (hP : ∀ n, (P n).length ≤ 1000) :
    Calls Try.prog 16 #[.pointer (some ⟨t, 0, none⟩), .int .i64 x] w fun r w' => ∃ A c, r = .returned (.slice A (parsT R P x).length c) ∧ Rl w' w.heap.size A c (parsT R P x) ∧ RowKit.Below w.heap.size w w' := by
  obtain ⟨A, K, hT, hR⟩ := h
  cases hx : hasT R x
  · have HX := Lib.hid hx
    have HD : Hid (parsT R P x = []) := Lib.hid (by unfold parsT; rw [hx]; rfl)
    clear hx
    go_enter Try.func16, Try.ntmps16
    go_wp2_with fail
    refine (has_any t R _ x _ hT).mono ?_
    rintro r w' ⟨rfl, rfl⟩
    rw [HX.out]
    go_wp2_with fail
    go_ret
    exact ⟨none, 0, by rw [HD.out]; rfl, by rw [HD.out]; exact Rl.nil _ _, Below.refl _ _⟩
  · have HX := Lib.hid hx
    obtain ⟨k, r0, rfl, hk, hr⟩ := hasT_yes hx
    have HD : Hid (parsT R P (k : Int) = P k) := Lib.hid (by unfold parsT; rw [hx]; rfl)
    have c := hT.par hk
    have PC := clone_any (A k) (K k) (P k) w (by have := hP k; omega) (hR k hk).row
    obtain ⟨l, hl⟩ : ∃ q, P k = q := ⟨_, rfl⟩
    rw [hl] at c PC HD
    have g1 : (k : Int) < 16 := by omega
    clear hx hr hl
    go_enter Try.func16, Try.ntmps16
    go_wp2_with fail
    refine (has_any t R _ (k : Int) _ hT).mono ?_
    rintro r w' ⟨rfl, rfl⟩
    rw [HX.out]
    go_wp2_with fail
    refine PC.mono ?_
    rintro r w5 ⟨v, rfl, hv, b5⟩
    obtain ⟨A5, c5, rfl, h5⟩ := Rl.of hv
    go_wp2_with fail
    go_ret
    exact ⟨A5, c5, by rw [HD.out]; rfl, by rw [HD.out]; exact h5, b5⟩
theorem parents_nil (x : Int) (w : World) :
    Calls Try.prog 16 #[.pointer none, .int .i64 x] w fun r w' => r = .returned (.slice none 0 0) ∧ w = w' := by
  go_enter Try.func16, Try.ntmps16
  go_wp2_with fail
  refine (has_nil x _).mono ?_
  rintro r w' ⟨rfl, rfl⟩
  go_wp2_with fail
  go_ret
  exact ⟨rfl, rfl⟩
/-- The forefathers by first parents. -/
def anc (P : Nat → List Nat) (n : Nat) : Nat → Nat
  | 0 => n
  | k + 1 => (P (anc P n k)).headD 0
def pathT (R : Rk) (P : Nat → List Nat) (n : Nat) : List Nat := match R n with
  | some r => (List.range (r + 1)).map fun j => anc P n (r - j)
  | none => []
/-- Each but the root has a first parent, of the rank ahead of its own. -/
structure Firsts (R : Rk) (P : Nat → List Nat) : Prop where
  only : ∀ x, R x = some 0 → x = 0
  first : ∀ n r, R n = some (r + 1) → ∃ p l, P n = p :: l ∧ R p = some r ∧ p < 16
  small : ∀ n r, R n = some r → r ≤ 15
theorem anc_rank {R : Rk} {P : Nat → List Nat} (h : Firsts R P) {n r : Nat} (hn : n < 16) (hr : R n = some r) : ∀ k, k ≤ r → R (anc P n k) = some (r - k) ∧ anc P n k < 16
  | 0, _ => ⟨hr, hn⟩
  | k + 1, hk => by
    obtain ⟨h1, _⟩ := anc_rank h hn hr k (by omega)
    rw [show r - k = (r - (k + 1)) + 1 by omega] at h1
    obtain ⟨p, l, e1, e2, e3⟩ := h.first _ _ h1
    unfold anc
    rw [e1]
    exact ⟨e2, e3⟩
def pathsT (R : Rk) (P : Nat → List Nat) (x : Int) : List Nat := if hasT R x = true then pathT R P x.toNat else []
set_option maxHeartbeats 2000000 in
theorem path_any (t : Nat) (R : Rk) (P : Nat → List Nat) (x : Int) (w : World) (h : Tre w t R P) (hF : Firsts R P) :
    Calls Try.prog 20 #[.pointer (some ⟨t, 0, none⟩), .int .i64 x] w fun r w' => ∃ A c, r = .returned (.slice A (pathsT R P x).length c) ∧ Rl w' w.heap.size A c (pathsT R P x) ∧ RowKit.Below w.heap.size w w' := by
  obtain ⟨A, K, hT, hR⟩ := h
  cases hx : hasT R x
  · have HX := Lib.hid hx
    have HD : Hid (pathsT R P x = []) := Lib.hid (by unfold pathsT; rw [hx]; rfl)
    clear hx
    go_enter Try.func20, Try.ntmps20
    go_wp2_with fail
    refine (has_any t R _ x _ hT).mono ?_
    rintro r w' ⟨rfl, rfl⟩
    rw [HX.out]
    go_wp2_with fail
    go_ret
    exact ⟨none, 0, by rw [HD.out]; rfl, by rw [HD.out]; exact Rl.nil _ _, Below.refl _ _⟩
  · have HX := Lib.hid hx
    obtain ⟨n, r0, rfl, hn, hr⟩ := hasT_yes hx
    have hr15 := hF.small n r0 hr
    have HD : Hid (pathsT R P (n : Int) = (List.range (r0 + 1)).map fun j => anc P n (r0 - j)) := Lib.hid (by
      unfold pathsT pathT
      rw [hx, if_pos rfl, show ((n : Int)).toNat = n by omega, hr])
    have c := hT.rank hn
    have hrk : rkI R n = (r0 : Int) := by unfold rkI; rw [hr]; rfl
    rw [hrk] at c
    have hanc := fun k hk => anc_rank hF hn hr k hk
    have hlast : anc P n r0 = 0 := hF.only _ (by have := (hanc r0 (Nat.le_refl _)).1; rw [Nat.sub_self] at this; exact this)
    have HANC := Lib.hid hanc
    have HLAST := Lib.hid hlast
    have HR := Lib.hid hR
    have g1 : (n : Int) < 16 := by omega
    have e1 : IntKind.i64.wrap ((r0 : Int) + 1) = ((r0 + 1 : Nat) : Int) := by rw [IntWalk.i64_in _ (by omega)]; omega
    obtain ⟨m, hm⟩ : ∃ m, r0 + 1 = m := ⟨_, rfl⟩
    rw [hm] at e1
    have hm16 : m ≤ 16 := by omega
    obtain ⟨i0, hi0, hz0, hz1, hz2⟩ := info_parts infoT
    have hmk : ∀ w : World, (Instr.makeSlice 33 (.int .i64 (m : Int)) (.int .i64 (m : Int))).run Try.prog w = .ok (.slice (some ⟨w.heap.size, 0, none⟩) m m) (w.alloc (.cells (madeCells #[.int .i64 0] m) 3)) := by
      intro w
      have := run_make w 33 3 i0 (.int .i64 0) Try.underlying33 hi0 hz0 .i64 .i64 (m : Int) (m : Int) (by omega) (by omega) (by rw [hz2]; omega) (by omega)
      rw [this, hz1]
      simp [Value.cells]
    have HCS : Hid (madeCells #[Value.int .i64 0] m = (List.replicate m (Value.int .i64 0)).toArray) := Lib.hid (by
      apply Array.toList_inj.1
      simpa using toList_madeCells_one (Value.int .i64 0) m)
    have e2 : IntKind.i64.wrap ((m : Int) - 1) = (r0 : Int) := by rw [IntWalk.i64_in _ (by omega)]; omega
    have HM := Lib.hid hm
    have hT1 := hT
    clear hx hr hrk hanc hlast hR hm
    go_enter Try.func20, Try.ntmps20
    go_wp2_with fail
    refine (has_any t R _ (n : Int) _ hT1).mono ?_
    rintro r w' ⟨rfl, rfl⟩
    rw [HX.out]
    have o1 : Blk (w.alloc (.cells (madeCells #[.int .i64 0] m) 3)) w.heap.size 3 m (fun j => if r0 - 0 < j then .int .i64 ((anc P n (r0 - j) : Nat) : Int) else .int .i64 0) := Blk.ext (Blk.same (Own.new _ _ _) HCS.out) (fun i hi => by rw [if_neg (by have := HM.out; omega)])
    have b1 := (Below.refl w.heap.size w).alloc (Nat.le_refl _) (.cells (madeCells #[.int .i64 0] m) 3)
    go_wp2_with fail
    generalize w.alloc (.cells (madeCells #[.int .i64 0] m) 3) = w1 at *
    obtain ⟨g, hg⟩ : ∃ g, w.heap.size = g := ⟨_, rfl⟩
    have HG := Lib.hid hg
    have htg : t < g := by rw [← hg]; exact Blk.lt hT
    rw [hg] at o1 b1 ⊢
    have HTw := Lib.hid hT
    clear hg hmk HCS hT hT1 c
    go_loopw [6, 1] (fun i nd wr => ∃ k i1 : Nat, i = .int .i64 i1 ∧ nd = .int .i64 ((anc P n k : Nat) : Int) ∧ k + i1 = r0 ∧ Blk wr g 3 m (fun j => if i1 < j then .int .i64 ((anc P n (r0 - j) : Nat) : Int) else .int .i64 0) ∧ RowKit.Below g w wr) (fun i _ _ => (intOf i).toNat)
    case atStart => exact ⟨0, r0, rfl, rfl, by omega, o1, b1⟩
    case round =>
      clear o1 b1
      obtain ⟨k, i1, rfl, rfl, hk, ob, bb⟩ := hrel
      by_cases hlt : 0 < i1
      · obtain ⟨hrk, h16⟩ := HANC.out k (by omega)
        obtain ⟨p, l, hP, _, _⟩ := hF.first _ (i1 - 1) (by rw [hrk]; congr 1; omega)
        have hnx : anc P n (k + 1) = p := by unfold anc; rw [hP]; rfl
        obtain ⟨a, ha⟩ : ∃ a, anc P n k = a := ⟨_, rfl⟩
        rw [ha] at hP h16 ⊢
        have hTw := below_blk bb HTw.out htg
        have c2 := Tb.par hTw h16
        rw [hP] at c2
        have hra := (HR.out a h16)
        rw [hP] at hra
        obtain ⟨bo, off, hAe, hbo, d0⟩ := row_ln (hra.row.below (HG.out ▸ bb)) (Below.refl _ _) (k := 0) (by simp)
        have d0 : wr.cell? ⟨bo, off, none⟩ = some (.int .i64 (p : Int)) := d0
        obtain ⟨cA, hcA⟩ : ∃ q, K a = q := ⟨_, rfl⟩
        obtain ⟨ll, hll⟩ : ∃ q, (p :: l).length = q := ⟨_, rfl⟩
        have hlp : 0 < ll := by rw [← hll]; simp
        rw [hAe, hcA, hll] at c2
        have c3 : wr.cell? ⟨g, i1, none⟩ = some (.int .i64 0) := by
          have := Blk.cell ob (i := i1) (by have := HM.out; omega)
          rwa [if_neg (by omega)] at this
        have f3 : wr.frozen? ⟨g, i1, none⟩ = false := ob.free i1
        have ob2 : Blk (wr.setCell ⟨g, i1, none⟩ (.int .i64 (a : Int))) g 3 m (fun j => if i1 - 1 < j then .int .i64 ((anc P n (r0 - j) : Nat) : Int) else .int .i64 0) := (ob.put i1 (.int .i64 (a : Int))).ext (fun j hj => by
          by_cases h1 : j = i1
          · rw [if_pos h1, if_pos (by omega), h1, show r0 - i1 = k by omega, ha]
          · rw [if_neg h1]
            by_cases h2 : i1 < j
            · rw [if_pos h2, if_pos (by omega)]
            · rw [if_neg h2, if_neg (by omega)])
        have b2 := (Just.set g wr i1 (.int .i64 (a : Int))).below bb (Nat.le_refl g) (Nat.le_of_lt ob.lt)
        have hg2 : bo ≠ g := by
          have := row_lt (HR.out a h16).row
          rw [hP] at this
          have := this (by simp) bo (by rw [hAe]; rfl)
          have := HG.out
          omega
        have e5 : IntKind.i64.wrap ((i1 : Int) - 1) = ((i1 - 1 : Nat) : Int) := by rw [IntWalk.i64_in _ (by omega)]; omega
        have g5 : (a : Int) < 16 := by omega
        have g6 : (i1 : Int) < (m : Int) := by have := HM.out; omega
        have hgt0 : t ≠ g := by omega
        have c2' : (wr.setCell ⟨g, i1, none⟩ (.int .i64 (a : Int))).cell? ⟨t, a * 3 + 2, none⟩ = some (.slice (some ⟨bo, off, none⟩) ll cA) := (World.cell?_of_block (a := ⟨t, a * 3 + 2, none⟩) ((Just.set g wr i1 (.int .i64 (a : Int))).block t (lt_of_cell c2) hgt0)).trans c2
        have d0' : (wr.setCell ⟨g, i1, none⟩ (.int .i64 (a : Int))).cell? ⟨bo, off, none⟩ = some (.int .i64 (p : Int)) := (World.cell?_of_block (a := ⟨bo, off, none⟩) ((Just.set g wr i1 (.int .i64 (a : Int))).block bo (lt_of_cell d0) hg2)).trans d0
        have HNX := Lib.hid hnx
        clear hra hTw hP hrk ob bb hnx hAe hcA hll hbo ha c2 d0
        go_upto_region 8 with (fail)
        generalize wr.setCell ⟨g, i1, none⟩ (.int .i64 (a : Int)) = w5 at *
        go_wp2_with fail
        exact ⟨⟨k + 1, i1 - 1, rfl, by rw [HNX.out], by omega, ob2, b2⟩, by simp [intOf]; omega⟩
      · obtain rfl : i1 = 0 := by omega
        obtain rfl : k = r0 := by omega
        go_wp2_with fail
        go_ret
        refine ⟨some ⟨g, 0, none⟩, m, by rw [HD.out, List.length_map, List.length_range, HM.out]; rfl, ?_, ?_⟩
        · rw [HD.out]
          refine ⟨by rw [List.length_map, List.length_range, HM.out]; exact Nat.le_refl _, by unfold maxLen; omega, fun _ => ⟨g, 0, rfl, ob.lt, fun i hi => ?_⟩, fun _ q e => ?_⟩
          · rw [List.length_map, List.length_range, HM.out] at hi
            rw [Nat.zero_add, ob.cell hi]
            unfold ln
            rw [List.getD_eq_getElem?_getD, List.getElem?_map, List.getElem?_range (by rw [HM.out]; exact hi)]
            by_cases h0 : i = 0
            · subst h0
              rw [if_neg (by omega)]
              simp [HLAST.out]
            · rw [if_pos (by omega)]
              rfl
          · have e : g = q := by simpa using e
            rw [HG.out]
            omega
        · rw [HG.out]
          exact bb
end Go.Proofs.Ythdgnnjnkeljmaa.Tr
