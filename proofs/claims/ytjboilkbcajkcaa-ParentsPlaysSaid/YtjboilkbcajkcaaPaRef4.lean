/-
  Package parents: the reference's Old.
-/
import Derived.Test.YtjboilkbcajkcaaPaRef2
import Derived.Test.YtjboilkbcajkcaaVar
set_option maxRecDepth 100000
namespace Go.Proofs.Ytjboilkbcajkcaa.Pa
set_option linter.unusedVariables false
open Go.RowKit Lb Go.Shelf

/-- Does it go? -/
def goes (c : Cl) (p : P) : Bool := decide (0 ≤ c.now) && decide (max c.loss 1 ≤ c.now - p.h)
/-- Who is gone among the first k. -/
def gon (c : Cl) (l : List P) (k i : Nat) : Bool := (l.take k).any fun p => goes c p && p.n == (i : Int)
theorem gon_zero (c : Cl) (l : List P) (i : Nat) : gon c l 0 i = false := by unfold gon; rw [List.take_zero]; rfl
theorem gon_succ (c : Cl) (l : List P) (k i : Nat) (hk : k < l.length) : gon c l (k + 1) i = (gon c l k i || (goes c (at_ l k) && (at_ l k).n == (i : Int))) := by
  unfold gon
  rw [List.take_succ_eq_append_getElem hk, List.any_append]
  congr 1
  unfold at_
  rw [List.getD_eq_getElem?_getD, List.getElem?_eq_getElem hk]
  simp
/-- The nodes below k that are gone. -/
def outs (G : Nat → Bool) (k : Nat) : List Int := ((List.range k).filter G).map fun (i : Nat) => (i : Int)
theorem outs_succ (G : Nat → Bool) (k : Nat) : outs G (k + 1) = outs G k ++ if G k = true then [(k : Int)] else [] := by
  unfold outs
  rw [List.range_succ, List.filter_append, List.map_append]
  congr 1
  cases h : G k <;> simp [h]
theorem outs_len (G : Nat → Bool) (k : Nat) : (outs G k).length ≤ k := by
  unfold outs
  rw [List.length_map]
  exact Nat.le_trans (List.length_filter_le _ _) (by simp)
theorem oldL_is (c : Cl) (l : List P) : kept (goes c) l l.length = oldL c l := by
  unfold oldL goes
  split
  · rename_i h
    rw [kept_all _ _ _ (fun j hj => by rw [decide_eq_false (by omega), Bool.false_and]) (Nat.le_refl _), List.take_length]
  · rename_i h
    unfold kept
    congr 1
    funext x
    rw [decide_eq_true (by omega : 0 ≤ c.now)]
    show (!(true && decide (max c.loss 1 ≤ c.now - x.h))) = !(decide (x.h ≤ c.now - max c.loss 1))
    rw [Bool.true_and]
    congr 1
    apply decide_eq_decide.2
    omega
def In16 (l : List P) : Prop := ∀ x, x ∈ l → 0 ≤ x.n ∧ x.n < 16 ∧ 0 ≤ x.h ∧ x.h ≤ 9223372036854775807
theorem oldN_is {me rk : Int} {c : Cl} {l : List P} (hi : Inv me rk l) (h16 : In16 l) : outs (gon c l l.length) 16 = oldN c l := by
  unfold oldN
  by_cases h : c.now < 0
  · rw [if_pos h]
    unfold outs
    rw [List.map_eq_nil_iff, List.filter_eq_nil_iff]
    intro i _
    unfold gon goes
    rw [decide_eq_false (by omega)]
    simp
  · rw [if_neg h]
    have hm : ∀ z, z ∈ goN (c.now - max c.loss 1) l ↔ ∃ p, p ∈ l ∧ p.h ≤ c.now - max c.loss 1 ∧ p.n = z := fun z => by
      unfold goN goP kept
      rw [List.mem_map]
      constructor
      · rintro ⟨p, hp, e⟩
        have h1 := List.mem_filter.1 hp
        rw [List.take_length] at h1
        exact ⟨p, h1.1, by have := h1.2; simp at this; omega, e⟩
      · rintro ⟨p, hp, h2, e⟩
        exact ⟨p, List.mem_filter.2 ⟨by rw [List.take_length]; exact hp, by simp; omega⟩, e⟩
    have hnd : (goN (c.now - max c.loss 1) l).Nodup := by
      unfold goN goP
      exact hi.once.sublist ((kept_sub _ _ _).map _)
    refine List.Perm.eq_of_pairwise (le := fun a b => a ≤ b) (fun a b _ _ h1 h2 => by omega) ?_ ?_ ?_
    · unfold outs
      rw [List.pairwise_map]
      refine List.Pairwise.filter _ ?_
      exact (List.pairwise_lt_range (n := 16)).imp (fun hab => by omega)
    · unfold srtd
      have := List.pairwise_mergeSort (le := fun (x y : Int) => decide (x ≤ y)) (fun a b c h1 h2 => by simp at *; omega) (fun a b => by simp; omega) (goN (c.now - max c.loss 1) l)
      exact this.imp (fun hab => by simpa using hab)
    · refine (?_ : (outs (gon c l l.length) 16).Perm (goN (c.now - max c.loss 1) l)).trans (List.mergeSort_perm _ _).symm
      rw [List.perm_ext_iff_of_nodup _ hnd]
      · intro z
        rw [hm]
        unfold outs
        rw [List.mem_map]
        constructor
        · rintro ⟨i, hi2, rfl⟩
          have h1 := (List.mem_filter.1 hi2).2
          unfold gon goes at h1
          rw [List.take_length, List.any_eq_true] at h1
          obtain ⟨p, hp, h2⟩ := h1
          simp at h2
          exact ⟨p, hp, by omega, by omega⟩
        · rintro ⟨p, hp, h2, rfl⟩
          have hb := h16 p hp
          refine ⟨p.n.toNat, List.mem_filter.2 ⟨by simp; omega, ?_⟩, by omega⟩
          unfold gon goes
          rw [List.take_length, List.any_eq_true]
          refine ⟨p, hp, ?_⟩
          rw [decide_eq_true (by omega), decide_eq_true (by omega), Bool.true_and, Bool.true_and]
          simp
          omega
      · unfold outs
        have h1 : ((List.range 16).filter (gon c l l.length)).Nodup := List.nodup_range.sublist List.filter_sublist
        exact List.pairwise_map.2 (h1.imp (fun hab => by omega))
theorem index_b (Q : Nat → Bool) (k : Nat) (hk : k < 16) (w : World) : (Instr.index 59 (.agg #[.bool (Q 0), .bool (Q 1), .bool (Q 2), .bool (Q 3), .bool (Q 4), .bool (Q 5), .bool (Q 6), .bool (Q 7), .bool (Q 8), .bool (Q 9), .bool (Q 10), .bool (Q 11), .bool (Q 12), .bool (Q 13), .bool (Q 14), .bool (Q 15)]) (.int .i64 (k : Int))).run Try.prog w = .ok (.bool (Q k)) w := by
  rcases (show k = 0 ∨ k = 1 ∨ k = 2 ∨ k = 3 ∨ k = 4 ∨ k = 5 ∨ k = 6 ∨ k = 7 ∨ k = 8 ∨ k = 9 ∨ k = 10 ∨ k = 11 ∨ k = 12 ∨ k = 13 ∨ k = 14 ∨ k = 15 by omega) with rfl | rfl | rfl | rfl | rfl | rfl | rfl | rfl | rfl | rfl | rfl | rfl | rfl | rfl | rfl | rfl <;> kernel_rfl
theorem mn_low {w : World} {base base' n : Nat} {e : TypeId} {v : Value} {V : Nat → Value} (h : Mine w base e v n V) (hb : base' ≤ base) : Mine w base' e v n V := by
  obtain ⟨h1, h2⟩ := h
  refine ⟨h1, ?_⟩
  rcases h2 with h2 | ⟨g, cap, cur, hv, hg, r⟩
  · exact .inl h2
  · exact .inr ⟨g, cap, cur, hv, Nat.le_trans hb hg, r⟩
theorem size_rp' (w : World) : (Go.sizeOf 61).run Try.prog w = .ok 3 w := by kernel_rfl
def ROldPost (base b : Nat) (me rk : Int) (c : Cl) (l : List P) (w : World) (r : Ending) (w' : World) : Prop :=
  ∃ gv v', r = .returned gv ∧ Mine w' w.heap.size 3 gv (oldN c l).length (zval (oldN c l)) ∧ Rs w' base b me rk (oldL c l) v' ∧ Just b w w'
set_option maxHeartbeats 2000000 in
theorem rold_any (base b : Nat) (me rk : Int) (c : Cl) (l : List P) (v : Value) (w : World) (t : Rs w base b me rk l v) (hi : Inv me rk l) (h16 : In16 l) (hc : c.ok) :
    Calls Try.prog 14 #[.pointer (some ⟨b, 0, none⟩), .int .i64 c.now, .int .i64 c.loss] w (ROldPost base b me rk c l w) := by
  have c2 : w.cell? ⟨b, 2, none⟩ = some v := t.own.cell 2
  obtain ⟨A, cc, rfl, hc1, hc2, hR⟩ := t.row.row
  have HR := Lib.hid hR
  have HO := Lib.hid t.own
  have hlt := t.own.lt
  have hlow := t.low
  have hN := Lib.hid (oldN_is (c := c) hi h16)
  have hL := Lib.hid (oldL_is c l)
  have h3 := hi.three
  have H16 := Lib.hid h16
  unfold maxLen at hc2
  obtain ⟨m, hm⟩ : ∃ m, l.length = m := ⟨_, rfl⟩
  have HM := Lib.hid hm
  rw [hm] at c2 hc1 h3 HR HO hN hL
  obtain ⟨i0, hi0, hz0, hz1, hz2⟩ := info_parts infoR
  obtain ⟨I0, hI0, hZ0, hZ1, hZ2⟩ := info_parts infoI
  obtain ⟨hc3, hc4⟩ := hc
  clear t hR hm hi h16
  go_enter Try.func14, Try.ntmps14
  go_upto_region 1 with (fail)
  refine wp_zero_var (z := #[.bool false, .bool false, .bool false, .bool false, .bool false, .bool false, .bool false, .bool false, .bool false, .bool false, .bool false, .bool false, .bool false, .bool false, .bool false, .bool false]) rfl rfl rfl rfl rfl rfl rfl (by kernel_rfl) (by kernel_rfl) (by kernel_rfl) rfl rfl ?_
  have b0 := (Below.refl w.heap.size w).alloc (Nat.le_refl _) (.cells #[.bool false, .bool false, .bool false, .bool false, .bool false, .bool false, .bool false, .bool false, .bool false, .bool false, .bool false, .bool false, .bool false, .bool false, .bool false, .bool false] 59)
  have oG : Blk (w.alloc (.cells #[.bool false, .bool false, .bool false, .bool false, .bool false, .bool false, .bool false, .bool false, .bool false, .bool false, .bool false, .bool false, .bool false, .bool false, .bool false, .bool false] 59)) w.heap.size 59 16 (fun i => .bool (gon c l 0 i)) := Blk.of (Own.new w _ _) rfl (fun i hi => by
    rw [gon_zero]
    rcases (show i = 0 ∨ i = 1 ∨ i = 2 ∨ i = 3 ∨ i = 4 ∨ i = 5 ∨ i = 6 ∨ i = 7 ∨ i = 8 ∨ i = 9 ∨ i = 10 ∨ i = 11 ∨ i = 12 ∨ i = 13 ∨ i = 14 ∨ i = 15 by omega) with rfl | rfl | rfl | rfl | rfl | rfl | rfl | rfl | rfl | rfl | rfl | rfl | rfl | rfl | rfl | rfl <;> rfl)
  have c2 : (w.alloc (.cells #[.bool false, .bool false, .bool false, .bool false, .bool false, .bool false, .bool false, .bool false, .bool false, .bool false, .bool false, .bool false, .bool false, .bool false, .bool false, .bool false] 59)).cell? ⟨b, 2, none⟩ = some (.slice A m cc) := (below_own b0 HO.out hlt).cell 2
  obtain ⟨gb, hgb⟩ : ∃ g, w.heap.size = g := ⟨_, rfl⟩
  have HGB := Lib.hid hgb
  rw [hgb] at oG b0 hlt ⊢
  generalize w.alloc (.cells #[.bool false, .bool false, .bool false, .bool false, .bool false, .bool false, .bool false, .bool false, .bool false, .bool false, .bool false, .bool false, .bool false, .bool false, .bool false, .bool false] 59) = w1 at *
  clear hgb
  go_wp2_with fail
  go_loopw [20, 8] (fun i u wr => ∃ k : Nat, i = .int .i64 k ∧ k ≤ m ∧ MineK wr (gb + 1) 61 3 u (kept (goes c) l k).length (pv (kept (goes c) l k)) ∧ Blk wr gb 59 16 (fun i => .bool (gon c l k i)) ∧ Below gb w wr) (fun i _ _ => m - (intOf i).toNat)
  case atStart => exact ⟨0, rfl, by omega, MineK.nil _ _ _ _ _, oG, b0⟩
  case round =>
    clear b0 oG c2
    obtain ⟨k, rfl, hk, hW, hG, b1⟩ := hrel
    by_cases hlt2 : k < m
    · have b1' : Below w.heap.size w wr := by rw [HGB.out]; exact b1
      obtain ⟨bo, off, rfl, hbo, d0, d1, d2⟩ := prow HR.out b1' hlt2
      have hxm := at_mem (show k < l.length by rw [HM.out]; exact hlt2)
      have hx := H16.out _ hxm
      have hks := kept_succ (goes c) l k (by rw [HM.out]; exact hlt2)
      have hkg := fun i => gon_succ c l k i (by rw [HM.out]; exact hlt2)
      obtain ⟨y, hy⟩ : ∃ y, at_ l k = y := ⟨_, rfl⟩
      rw [hy] at d0 d1 d2 hx hks hkg
      obtain ⟨N, hN'⟩ : ∃ N : Nat, y.n = (N : Int) := ⟨y.n.toNat, by omega⟩
      have hN16 : N < 16 := by omega
      rw [hN'] at d0
      have HNN := Lib.hid hN'
      have hkl := kept_len (goes c) l k
      obtain ⟨S, hS⟩ : ∃ S, kept (goes c) l k = S := ⟨_, rfl⟩
      rw [hS] at hW hks hkl
      obtain ⟨sn, hsn⟩ : ∃ n, S.length = n := ⟨_, rfl⟩
      have HSN := Lib.hid hsn
      rw [hsn] at hW hkl
      have HKS := Lib.hid hks
      have HKG := Lib.hid hkg
      have ob := Own.new wr 61 #[.int .i64 (N : Int), .int .i64 y.r, .int .i64 y.h]
      have b2 := b1.alloc (by have := b1.size; have := HGB.out; omega) (.cells #[.int .i64 (N : Int), .int .i64 y.r, .int .i64 y.h] 61)
      have hW2 := hW.alloc (.cells #[.int .i64 (N : Int), .int .i64 y.r, .int .i64 y.h] 61)
      have hG2 := hG.alloc (.cells #[.int .i64 (N : Int), .int .i64 y.r, .int .i64 y.h] 61)
      have hbs := hG.lt
      clear hy hS hsn hW hG hxm hks hkg hN'
      obtain ⟨a4, c4, rfl, hc4', hd4, _⟩ := hW2.row
      go_upto_region 6 with (fail)
      have hsz : wr.heap.size < (wr.alloc (.cells #[.int .i64 (N : Int), .int .i64 y.r, .int .i64 y.h] 61)).heap.size := by simp
      generalize wr.alloc (.cells #[.int .i64 (N : Int), .int .i64 y.r, .int .i64 y.h] 61) = w4 at *
      obtain ⟨g, hg⟩ : ∃ g, wr.heap.size = g := ⟨_, rfl⟩
      rw [hg] at ob hsz hbs ⊢
      clear hg d0 d1 d2
      have d0 : w4.cell? ⟨g, 0, none⟩ = some (.int .i64 (N : Int)) := ob.cell 0
      have d1 : w4.cell? ⟨g, 1, none⟩ = some (.int .i64 y.r) := ob.cell 1
      have d2 : w4.cell? ⟨g, 2, none⟩ = some (.int .i64 y.h) := ob.cell 2
      by_cases e1 : 0 ≤ c.now
      · have g1 : decide (0 ≤ c.now) = true := by simpa using e1
        have hsub : IntKind.i64.wrap (c.now - y.h) = c.now - y.h := IntWalk.i64_in _ (by omega)
        obtain ⟨mx, hmx⟩ : ∃ x, max c.loss 1 = x := ⟨_, rfl⟩
        by_cases e2 : mx ≤ c.now - y.h
        · have g2 : decide (mx ≤ c.now - y.h) = true := by simpa using e2
          have hgo : goes c y = true := by unfold goes; rw [hmx, g1, g2]; rfl
          have HKK : Hid (kept (goes c) l (k + 1) = S) := Lib.hid (by rw [HKS.out, if_pos hgo, List.append_nil])
          have HPG := Lib.hid ((hG2.put N (.bool true)).ext (U := fun i => .bool (gon c l (k + 1) i)) (fun i _ => by
            rw [HKG.out i, hgo, Bool.true_and, HNN.out]
            by_cases e : i = N
            · subst e; simp
            · rw [if_neg e]
              have : ((N : Int) == (i : Int)) = false := by simp; omega
              rw [this, Bool.or_false]))
          have HBP := Lib.hid ((Just.set gb w4 N (.bool true)).below b2 (Nat.le_refl _) (by have := b2.size; have := HGB.out; omega))
          have HWP := Lib.hid (hW2.kept (w' := w4.setCell ⟨gb, N, none⟩ (.bool true)) (fun q hq => .inl (Below.heap_setCell _ _ _ _ (by show q ≠ gb; omega))))
          have cN := hG2.cell hN16
          have fN := hG2.free N
          have nN : (N : Int) < 16 := by omega
          clear hgo hW2 hG2 b2 ob e1 e2 HKG
          go_wp2_with fail
          exact ⟨⟨k + 1, by simp, by omega, by rw [HKK.out, HSN.out]; exact HWP.out, HPG.out, HBP.out⟩, by simp [intOf]; omega⟩
        · have g2 : decide (mx ≤ c.now - y.h) = false := by simpa using e2
          have hgo : goes c y = false := by unfold goes; rw [hmx, g1, g2]; rfl
          have HKK : Hid (kept (goes c) l (k + 1) = S ++ [y]) := Lib.hid (by rw [HKS.out, if_neg (by rw [hgo]; decide)])
          have HPG := Lib.hid (hG2.ext (U := fun i => .bool (gon c l (k + 1) i)) (fun i _ => by rw [HKG.out i, hgo, Bool.false_and, Bool.or_false]))
          have HNM : Hid (sn + 1 ≤ maxLen) := Lib.hid (by unfold maxLen; omega)
          have HR1 := Lib.hid (by have := pv_one_row w4 y; rw [HNN.out] at this; exact this)
          have b3 := b2.alloc (by have := b2.size; have := HGB.out; omega) (.cells #[.int .i64 (N : Int), .int .i64 y.r, .int .i64 y.h] 61)
          have hbs3 : gb + 1 ≤ (w4.alloc (.cells #[.int .i64 (N : Int), .int .i64 y.r, .int .i64 y.h] 61)).heap.size := by simp; omega
          clear hgo b2 ob HKG
          go_wp2_with (at_builtin; go_must (refine wp_appK rfl (.tmp 38) (.tmp 40) _ rfl (gb + 1) 61 i0 _ 3 24 Try.underlying39 hi0 hz0 hz1 hz2 rfl (by decide) _ sn (pv S) rfl (hW2.alloc _) _ 1 _ (pv [y]) rfl HR1.out (fun i _ => pv_one _ i) HNM.out ?c2 hbs3 ?_))
          case c2 => omega
          intro v7 w7 m7 q7 l7
          have b7 := b3.grown q7 (by omega) (fun q e => by have := (hW2.lt q e).1; omega)
          have HG7 := Lib.hid (show Blk w7 gb 59 16 (fun i => .bool (gon c l (k + 1) i)) from grown_own q7 (HPG.out.alloc _) (fun e => by have := (hW2.lt _ e).1; omega))
          have HW7 : Hid (MineK w7 (gb + 1) 61 3 v7 (kept (goes c) l (k + 1)).length (pv (kept (goes c) l (k + 1)))) := Lib.hid (by
            rw [HKK.out, List.length_append, HSN.out]
            exact m7.ext (fun i _ => by have := pv_app S [y] i; rw [HSN.out] at this; exact this))
          clear m7 q7 l7 hW2 hG2 HPG
          go_wp2_with fail
          exact ⟨⟨k + 1, by simp, by omega, HW7.out, HG7.out, b7⟩, by simp [intOf]; omega⟩
      · have g1 : decide (0 ≤ c.now) = false := by simpa using e1
        have hgo : goes c y = false := by unfold goes; rw [g1]; rfl
        have HKK : Hid (kept (goes c) l (k + 1) = S ++ [y]) := Lib.hid (by rw [HKS.out, if_neg (by rw [hgo]; decide)])
        have HPG := Lib.hid (hG2.ext (U := fun i => .bool (gon c l (k + 1) i)) (fun i _ => by rw [HKG.out i, hgo, Bool.false_and, Bool.or_false]))
        have HNM : Hid (sn + 1 ≤ maxLen) := Lib.hid (by unfold maxLen; omega)
        have HR1 := Lib.hid (by have := pv_one_row w4 y; rw [HNN.out] at this; exact this)
        have b3 := b2.alloc (by have := b2.size; have := HGB.out; omega) (.cells #[.int .i64 (N : Int), .int .i64 y.r, .int .i64 y.h] 61)
        have hbs3 : gb + 1 ≤ (w4.alloc (.cells #[.int .i64 (N : Int), .int .i64 y.r, .int .i64 y.h] 61)).heap.size := by simp; omega
        clear hgo b2 ob HKG
        go_wp2_with (at_builtin; go_must (refine wp_appK rfl (.tmp 38) (.tmp 40) _ rfl (gb + 1) 61 i0 _ 3 24 Try.underlying39 hi0 hz0 hz1 hz2 rfl (by decide) _ sn (pv S) rfl (hW2.alloc _) _ 1 _ (pv [y]) rfl HR1.out (fun i _ => pv_one _ i) HNM.out ?c2 hbs3 ?_))
        case c2 => omega
        intro v7 w7 m7 q7 l7
        have b7 := b3.grown q7 (by omega) (fun q e => by have := (hW2.lt q e).1; omega)
        have HG7 := Lib.hid (show Blk w7 gb 59 16 (fun i => .bool (gon c l (k + 1) i)) from grown_own q7 (HPG.out.alloc _) (fun e => by have := (hW2.lt _ e).1; omega))
        have HW7 : Hid (MineK w7 (gb + 1) 61 3 v7 (kept (goes c) l (k + 1)).length (pv (kept (goes c) l (k + 1)))) := Lib.hid (by
          rw [HKK.out, List.length_append, HSN.out]
          exact m7.ext (fun i _ => by have := pv_app S [y] i; rw [HSN.out] at this; exact this))
        clear m7 q7 l7 hW2 hG2 HPG
        go_wp2_with fail
        exact ⟨⟨k + 1, by simp, by omega, HW7.out, HG7.out, b7⟩, by simp [intOf]; omega⟩
    · obtain rfl : m = k := by omega
      rw [hL.out] at hW
      obtain ⟨a5, c5, rfl, _, _, _⟩ := hW.row
      have b1' : Below w.heap.size w wr := by rw [HGB.out]; exact b1
      have o5 := below_own b1' HO.out (by have := HGB.out; omega)
      have f2 := o5.free 2
      have r2 : wr.cell? ⟨b, 2, none⟩ = some (.slice A m cc) := o5.cell 2
      have hbg : b < gb := hlt
      have hlen : (oldL c l).length ≤ 100 := by rw [← hL.out, ← HM.out]; have := kept_len (goes c) l l.length; have := HM.out; omega
      have h5 : Rs (wr.setCell ⟨b, 2, none⟩ (.slice a5 (oldL c l).length c5)) base b me rk (oldL c l) (.slice a5 (oldL c l).length c5) := ⟨o5.put 2 _, rrow_put (mk_low hW (by omega)) (fun e => by have := (hW.lt b e).1; omega) 2 _, hlen, hlow⟩
      have j5 : Just b w (wr.setCell ⟨b, 2, none⟩ (.slice a5 (oldL c l).length c5)) := (show Just b w wr from ⟨b1'.os, b1'.tape, b1'.output, b1'.size, fun q hq _ => b1'.block q hq⟩).put 2 _
      have G5 : Blk (wr.setCell ⟨b, 2, none⟩ (.slice a5 (oldL c l).length c5)) gb 59 16 (fun i => .bool (gon c l m i)) := (Just.set b wr 2 _).blk hG (by omega)
      have H5 := Lib.hid h5
      have J5 := Lib.hid j5
      clear hW hG b1 b1' h5 j5 hlen o5
      go_upto_region 11 with (fail)
      generalize wr.setCell ⟨b, 2, none⟩ (.slice a5 (oldL c l).length c5) = w6 at *
      obtain ⟨G, hGG⟩ : ∃ G : Nat → Bool, (fun i => gon c l m i) = G := ⟨_, rfl⟩
      have G6 : Blk w6 gb 59 16 (fun i => .bool (G i)) := by rw [← hGG]; exact G5
      have HGG : Hid (outs G 16 = oldN c l) := Lib.hid (by rw [← hGG]; exact hN.out)
      clear G5 hGG f2 r2
      obtain ⟨cs, hcs⟩ : ∃ cs : List Value, cs = (List.range 16).map (fun i => Value.bool (G i)) := ⟨_, rfl⟩
      have HL : Hid (cs.length = 16) := Lib.hid (by rw [hcs]; simp)
      have HCS := Lib.hid hcs
      have hr : Hid (w6.rangeAt gb 0 cs) := Lib.hid (fun j v hv => by
        rw [hcs] at hv
        have hj : j < 16 := by
          have := (List.getElem?_eq_some_iff.1 hv).1
          simpa using this
        rw [Nat.zero_add, G6.cell hj]
        simpa [hj] using hv)
      have hs6 : w.heap.size ≤ w6.heap.size := J5.out.size
      clear hcs
      go_upto_region 12 with (fail)
      go_wp2_with (refine wpList_load_mid rfl 59 _ rfl gb 0 rfl cs _ hr.out Try.underlying59 rfl (by rw [HL.out]; kernel_rfl) ?_)
      go_wp2_with fail
      go_loopw [48, 11] (fun i u wz => ∃ k : Nat, i = .int .i64 k ∧ k ≤ 16 ∧ Mine wz w6.heap.size 3 u (outs G k).length (zval (outs G k)) ∧ Below w6.heap.size w6 wz) (fun i _ _ => 16 - (intOf i).toNat)
      case atStart => exact ⟨0, rfl, by omega, Mine.nil _ _ _ _, Below.refl _ _⟩
      case round =>
        clear hr G6
        obtain ⟨j, rfl, hj, hW, bb⟩ := hrel
        have hbz := bb.size
        by_cases hjt : j < 16
        · have g2 : (j : Int) < 16 := by omega
          obtain ⟨z, hz⟩ : ∃ z, G j = z := ⟨_, rfl⟩
          have hix : ∀ wz : World, (Instr.index 59 (.agg cs.toArray) (.int .i64 (j : Int))).run Try.prog wz = .ok (.bool z) wz := fun wz => by
            rw [HCS.out, ← hz]
            exact index_b G j hjt wz
          have hos := outs_succ G j
          have hol := outs_len G j
          rw [hz] at hos
          obtain ⟨S, hS⟩ : ∃ S, outs G j = S := ⟨_, rfl⟩
          rw [hS] at hW hos hol
          obtain ⟨sn, hsn⟩ : ∃ n, S.length = n := ⟨_, rfl⟩
          have HSN := Lib.hid hsn
          rw [hsn] at hW hol
          have HOS := Lib.hid hos
          clear hS hsn hos hz
          obtain ⟨a4, c4, rfl, hc4', hd4, _⟩ := hW.row
          cases z
          · have HW7 : Hid (Mine wr w6.heap.size 3 (.slice a4 sn c4) (outs G (j + 1)).length (zval (outs G (j + 1)))) := Lib.hid (by
              rw [HOS.out, if_neg (by decide), List.append_nil, HSN.out]; exact hW)
            clear hW
            go_wp2_with fail
            exact ⟨⟨j + 1, by simp, by omega, HW7.out, bb⟩, by simp [intOf]; omega⟩
          · have HR1 := Lib.hid (row_new (n := 1) (V := fun _ => .int .i64 (j : Int)) wr #[.int .i64 (j : Int)] 3 (0, 0) (fun i hi => by obtain rfl : i = 0 := (by omega); rfl))
            have b3 := bb.alloc hbz (.cells #[.int .i64 (j : Int)] 3)
            have hbs3 : w6.heap.size ≤ (wr.alloc (.cells #[.int .i64 (j : Int)] 3)).heap.size := by simp; omega
            go_wp2_with (at_builtin; go_must (refine wp_app rfl (.tmp 53) (.tmp 55) _ rfl w6.heap.size 3 I0 _ 8 Try.underlying31 hI0 hZ0 hZ1 hZ2 rfl _ sn (zval S) rfl (hW.alloc _) _ 1 _ (fun _ => .int .i64 (j : Int)) rfl HR1.out (fun _ _ => rfl) ?c1 ?c2 hbs3 ?_))
            case c1 => unfold maxLen; omega
            case c2 => omega
            intro v9 w9 m9 q9
            have hgw : ∀ q, (Value.slice a4 sn c4).ownBlock = some q → w6.heap.size ≤ q := fun q e => (hW.lt q e).1
            have HW9 : Hid (Mine w9 w6.heap.size 3 v9 (outs G (j + 1)).length (zval (outs G (j + 1)))) := Lib.hid (by
              rw [HOS.out, if_pos trivial, List.length_append, HSN.out]
              exact m9.ext (fun i hi => by
                unfold zval
                rw [List.getD_eq_getElem?_getD, List.getD_eq_getElem?_getD]
                by_cases h : i < sn
                · rw [if_pos h, List.getElem?_append_left (by rw [HSN.out]; exact h)]
                · obtain rfl : i = sn := by omega
                  rw [if_neg h, List.getElem?_append_right (by rw [HSN.out]; exact Nat.le_refl _), HSN.out]
                  simp))
            have b9 : Below w6.heap.size w6 w9 := b3.grown q9 hbs3 hgw
            clear m9 q9 hgw hW b3
            go_wp2_with fail
            exact ⟨⟨j + 1, by simp, by omega, HW9.out, b9⟩, by simp [intOf]; omega⟩
        · obtain rfl : j = 16 := by omega
          rw [HGG.out] at hW
          obtain ⟨a9, c9, rfl, _, _, _⟩ := hW.row
          have HQ := Lib.hid hW
          clear hW
          go_wp2_with fail
          go_ret
          exact ⟨_, _, rfl, mn_low HQ.out hs6, H5.out.below bb, J5.out.trans ⟨bb.os, bb.tape, bb.output, bb.size, fun q hq _ => bb.block q hq⟩⟩
end Go.Proofs.Ytjboilkbcajkcaa.Pa
