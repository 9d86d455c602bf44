/-
  Package queue: Put, Take, Move: what they leave alone.
-/
import Derived.Test.YtmabdegabeopbaaQueueMove
import Derived.Test.YtmabdegabeopbaaTurn
import Derived.Deep.RegionLaw
set_option maxRecDepth 100000
namespace Go.Proofs.Ytmabdegabeopbaa.Qu
set_option linter.unusedVariables false
open Go.RowKit Lb
set_option maxHeartbeats 4000000 in
theorem putT (base b : Nat) (most lost : Int) (l : List It) (v : Value) (to : Int) (a : Option Addr) (n c : Nat) (Z : Nat → Int) (w : World) (h : Que w base b most lost l v) (hm : (l.length : Int) < most) (hl : l.length ≤ 1000) (hn : n ≤ c) (hn2 : n ≤ 100000) (hR : Row w a n (fun i => .int .u8 (Z i))) (ha : a = none → n = 0) :
    Calls Try.prog 10 #[.pointer (some ⟨b, 0, none⟩), .int .i64 to, .slice a n c] w fun r w' => r = .returned (.bool true) ∧ ∃ v' u, Que w' base b most lost (l ++ [⟨to, u, n, Z⟩]) v' ∧ Turn w w' b v v' := by
  have hrow := h.row
  have hbs := Lib.hid h.bytes
  obtain ⟨a', c', rfl, h3, h4, hRow⟩ := h.row.row
  unfold maxLen at h4
  obtain ⟨i0, hi0, hz0, hz1, hz2⟩ := info_parts infoI
  have c0 := h.c0
  have c2 := h.c2
  have ho := h.own
  have hlow := h.low
  have hok := Lib.hid h.ok
  have g0 : decide (most ≤ (l.length : Int)) = false := by simp; omega
  have hbl := ho.lt
  have hb0 : base ≤ w.heap.size := by omega
  have ht : (53 : TypeId) ≠ 56 := by decide
  have hv2 : ∀ q, (Value.slice a' l.length c').ownBlock = some q → q ≠ b := fun q e => mine_ne h.row h.own e
  clear h
  go_enter Try.func10, Try.ntmps10
  go_wp2_with fail
  go_quiet (fail)
  generalize hw1 : w.drewN _ = w1 at *
  have m1 : MineK w1 base 56 2 (.slice a' l.length c') l.length (iv l) := by rw [← hw1]; exact hrow.drewN _
  have o1 : Own w1 b 53 #[.int .i64 most, .int .i64 lost, .slice a' l.length c'] := by rw [← hw1]; exact ho.drewN _
  have r1 : Row w1 a n (fun i => .int .u8 (Z i)) := by rw [← hw1]; exact hR.drewN _
  have z1 : w1.heap.size = w.heap.size := by rw [← hw1]; rfl
  have b1 : Below w.heap.size w w1 := by rw [← hw1]; exact below_drewN (Below.refl _ _) _
  have B1 : Hid (∀ x ∈ l, Bs w1 x.v x.n x.Z) := Lib.hid (by rw [← hw1]; exact hbs.out)
  clear hw1 hrow ho hR c0 c2 hbs hRow
  go_wp2_with fail
  have s0 : w1.drew.cell? ⟨b, 2, none⟩ = some (.slice a' l.length c') := o1.cell 2
  have f0 : w1.frozen? ⟨b, 2, none⟩ = false := o1.free 2
  have s00 : w1.cell? ⟨b, 2, none⟩ = some (.slice a' l.length c') := o1.cell 2
  go_region_law (first
    | (refine step_appK rfl (.tmp 32) (.tmp 37) 51 rfl base 56 i0 _ 2 32 Try.underlying51 hi0 hz0 hz1 hz2 rfl (by decide) _ l.length (iv l) (by rfl) (m5.alloc _) _ 1 _ (iv [⟨to, .slice a5 n c5, n, Z⟩]) (by rfl) (row_new _ _ _ _ (fun i hi => by rcases (show i = 0 ∨ i = 1 by omega) with rfl | rfl <;> rfl)) (fun i hi => iv_one (fun x hx => by simp at hx; subst hx; exact bs_one hB5) i) (by unfold maxLen; omega) (by omega) (by have := b5.size; simp at this; simp; omega) ?_; intro v6 w6 m6 g6 l6; obtain ⟨a6, c6, rfl, hc6, hd6, hR6⟩ := m6.row; have o6 := grown_own g6 (Own.alloc o5 _) (by intro e; exact hv2 _ e rfl); have s3 : w6.cell? ⟨b, 2, none⟩ = some (.slice a' l.length c') := o6.cell 2; have f6 : w6.frozen? ⟨b, 2, none⟩ = false := o6.free 2)
    | (go_simp; go_at_call 22; refine (clone_any a n c Z _ hn (by omega) (r1.drewN 1) ha).mono ?_; rintro q w5 ⟨v5, rfl, hB5, b5⟩; obtain ⟨a5, c5, rfl, hc5, hd5, hR5, hn5⟩ := hB5.row; have o5 := below_own b5 (o1.drewN 1) o1.lt; have s1 : w5.cell? ⟨b, 2, none⟩ = some (.slice a' l.length c') := o5.cell 2; have m5 := (m1.drewN 1).below b5; have s2 : (w5.alloc (.cells #[.int .i64 to, .slice a5 n c5] 56)).cell? ⟨b, 2, none⟩ = some (.slice a' l.length c') := (Own.alloc o5 _).cell 2))
  all_goals
    go_wp2_with fail
    go_ret
    have m7 : MineK w6 base 56 2 (.slice a6 (l.length + 1) c6) (l ++ [(⟨to, .slice a5 n c5, n, Z⟩ : It)]).length (iv (l ++ [(⟨to, .slice a5 n c5, n, Z⟩ : It)])) := by
      rw [List.length_append]
      exact m6.ext (fun q hq => iv_snoc l _ q hq)
    have hgr : ∀ q, (Value.slice a' l.length c').ownBlock = some q → ∃ cs, Own (w5.alloc (.cells #[.int .i64 to, .slice a5 n c5] 56)) q 56 cs := fun q e => (mine_at (m5.alloc _) e).2
    have hb1 : base ≤ (w1.drewN 1).heap.size := by show base ≤ w1.heap.size; rw [z1]; exact hb0
    have hb5 : base ≤ w5.heap.size := Nat.le_trans hb1 b5.size
    have j5 : Below w.heap.size w (w5.alloc (.cells #[.int .i64 to, .slice a5 n c5] 56)) := ((below_drewN b1 1).trans (b5.mono (by show w.heap.size ≤ w1.heap.size; rw [z1]; exact Nat.le_refl _))).alloc (by have := b5.size; have : (w1.drewN 1).heap.size = w.heap.size := z1; omega) _
    have jj := (Turn.of_below j5 b (.slice a' l.length c')).trans (Turn.of_grown g6 l6 b)
    refine ⟨rfl, _, .slice a5 n c5, ⟨?_, mine_set m7 o6 2 _, fun x hx => ?_, hlow⟩, jj.put 2 _⟩
    · exact o6.put 2 _
    · have hx2 : Bs w6 x.v x.n x.Z := by
        rw [List.mem_append, List.mem_singleton] at hx
        rcases hx with hx | rfl
        · exact ((((show Bs (w1.drewN 1) x.v x.n x.Z from B1.out x hx).below b5).below ((Below.refl _ _).alloc (Nat.le_refl _) _)).grown g6 hgr)
        · exact (hB5.below ((Below.refl _ _).alloc (Nat.le_refl _) _)).grown g6 hgr
      exact hx2.just (Just.set b w6 2 _) o6 (by decide)
theorem takeT (base b : Nat) (most lost : Int) (l : List It) (v : Value) (i : Nat) (w : World) (h : Que w base b most lost l v) (hi : i < l.length) (hl : l.length ≤ 1000) :
    Calls Try.prog 13 #[.pointer (some ⟨b, 0, none⟩), .int .i64 i] w fun r w' => ∃ v', r = .returned (.tuple #[(l.getD i default).v, .bool true]) ∧ Que w' base b most lost (l.eraseIdx i) v' ∧ Bs w' (l.getD i default).v (l.getD i default).n (l.getD i default).Z ∧ Turn w w' b v v' := by
  have HD : Hid (hasB l.length i = true) := Lib.hid (by unfold hasB; rw [decide_eq_true_eq]; omega)
  obtain ⟨g, c, rfl, h1, h2, k0, k1, _⟩ := h.at_ hi
  have c2 := h.c2
  have hok := h.ok
  have hx := h.bytes _ (getD_mem hi)
  unfold maxLen at h2
  generalize l.getD i default = x at *
  obtain ⟨to, xv, xn, Z⟩ := x
  dsimp only at *
  have hlow := h.low
  have hbase : base ≤ w.heap.size := by have := h.own.lt; omega
  have hgm := mine_at h.row rfl
  have hgb := mine_ne h.row h.own rfl
  obtain ⟨a5, c5, rfl, hc5, hd5, hR5, hn5⟩ := hx.row
  go_enter Try.func13, Try.ntmps13
  go_wp2_with fail
  refine (has_any base b most lost l _ i _ h).mono ?_
  rintro r w' ⟨rfl, rfl⟩
  rw [HD.out]
  go_wp2_with fail
  refine (delete_any base g l.length c i (i + 1) (iv l) _ h.row hi rfl (iv_one hok)).mono ?_
  rintro r w4 ⟨rfl, m4, j4⟩
  have o4 := j4.own h.own hgb.symm
  obtain ⟨_, gcs, hgo⟩ := hgm
  have hb4 : Hid (∀ x ∈ l, Bs w4 x.v x.n x.Z) := Lib.hid fun x hx => (h.bytes x hx).just j4 hgo (by decide)
  have hx4 := hx.just j4 hgo (by decide)
  have b4 := j4.below (Below.refl base w) (by assumption) hbase
  have f2 : w4.frozen? ⟨b, 2, none⟩ = false := o4.free 2
  have c4 : w4.cell? ⟨b, 2, none⟩ = some (.slice (some ⟨g, 0, none⟩) l.length c) := o4.cell 2
  clear c2 k0 k1
  go_wp2_with fail
  refine bodyPost_ret (results_tmp2 rfl _ _ _) rfl ?_
  have m5 : MineK w4 base 56 2 (.slice (some ⟨g, 0, none⟩) (l.length - 1) c) (l.eraseIdx i).length (iv (l.eraseIdx i)) := by
    rw [List.length_eraseIdx, if_pos hi]
    exact m4.ext (fun j hj => iv_del l hi hj)
  refine ⟨_, rfl, ⟨o4.put 2 _, mine_set m5 o4 2 _, fun x hx => ?_, hlow⟩, hx4.just (Just.set b w4 2 _) o4 (by decide), (Turn.of_row (b := b) (v := .slice (some ⟨g, 0, none⟩) l.length c) (v' := .slice (some ⟨g, 0, none⟩) (l.length - 1) c) j4 rfl (fun q e => e)).put 2 _⟩
  exact (hb4.out x (List.mem_of_mem_eraseIdx hx)).just (Just.set b w4 2 _) o4 (by decide)
set_option maxHeartbeats 2000000 in
theorem moveT (base b : Nat) (most lost : Int) (l : List It) (v : Value) (x y : Int) (w : World) (h : Que w base b most lost l v) (hl : l.length ≤ 1000) :
    Calls Try.prog 15 #[.pointer (some ⟨b, 0, none⟩), .int .i64 x, .int .i64 y] w fun r w' => r = .returned (.int .i64 (cnt x l l.length : Nat)) ∧ Que w' base b most lost (l.map (mv x y)) v ∧ Turn w w' b v v := by
  have hlow := h.low
  have hbase : base ≤ w.heap.size := by have := h.own.lt; omega
  obtain ⟨n, hn⟩ : ∃ n, l.length = n := ⟨_, rfl⟩
  have HN := Lib.hid hn
  have hB := Lib.hid h.bytes
  have m0 : MineK w base 56 2 v n (mvv x y l 0) := by
    have := h.row
    rw [hn] at this
    exact this.ext (fun j hj => (mvv_zero x y l j).symm)
  have o0 := h.own
  have c2 := h.c2
  obtain ⟨a, c, rfl, h1, h2, hR⟩ := h.row.row
  unfold maxLen at h2
  rw [hn] at hl h1 c2 m0 ⊢
  rw [hn] at o0
  clear hR hn h
  go_enter Try.func15, Try.ntmps15
  go_wp2_with fail
  go_loopw [16, 7] (fun i s wr => ∃ k : Nat, i = .int .i64 k ∧ s = .int .i64 (cnt x l k : Nat) ∧ k ≤ n ∧ MineK wr base 56 2 (.slice a n c) n (mvv x y l k) ∧ Own wr b 53 #[.int .i64 most, .int .i64 lost, .slice a n c] ∧ Hid (∀ t ∈ l, Bs wr t.v t.n t.Z) ∧ Turn w wr b (.slice a n c) (.slice a n c)) (fun i _ _ => n - (intOf i).toNat)
  case atStart => exact ⟨0, rfl, rfl, by omega, m0, o0, hB, Turn.of_below (Below.refl _ _) _ _⟩
  case round =>
    clear m0 o0 hB c2
    obtain ⟨k, rfl, rfl, hk, m1, o1, hB, bb⟩ := hrel
    have hcl := cnt_le x l k
    by_cases hlt : k < n
    · obtain ⟨g, c', cs, hv, hgb, ho, hnc, hcm, hsz, hcv⟩ := m1.block (by omega)
      injection hv with hv1 _ hv2
      subst hv1 hv2
      have c2 : wr.cell? ⟨b, 2, none⟩ = some (.slice (some ⟨g, 0, none⟩) n c) := o1.cell 2
      have hgne : g ≠ b := fun e => by
        subst e
        exact absurd (own_type ho o1) (by decide)
      obtain ⟨t, ht⟩ : ∃ t, (l.getD k default).to = t := ⟨_, rfl⟩
      have hc0 : wr.cell? ⟨g, k * 2, none⟩ = some (.int .i64 t) := by
        rw [ho.cell, hcv _ (by omega)]
        unfold mvv
        rw [if_neg (by omega), (iv_at l k).1, ht]
      have hf0 : wr.frozen? ⟨g, k * 2, none⟩ = false := ho.free _
      by_cases hx : t = x
      · have HC : Hid ((cnt x l (k + 1) : Int) = (cnt x l k : Int) + 1) := Lib.hid (by
          show ((cnt x l k + if (l.getD k default).to = x then 1 else 0 : Nat) : Int) = _
          rw [if_pos (by rw [ht]; exact hx)]; rfl)
        have HM := Lib.hid ((mineK_put1 m1 (by omega) (k * 2) (.int .i64 y)).ext (U := mvv x y l (k + 1)) (fun j hj => by
          rw [mvv_step, if_pos (show (l.getD k default).to = x by rw [ht]; exact hx)]))
        have HO := Lib.hid (o1.apart (p := ⟨g, k * 2, none⟩) hgne.symm (.int .i64 y))
        have HB : Hid (∀ t ∈ l, Bs (wr.setCell ⟨g, k * 2, none⟩ (.int .i64 y)) t.v t.n t.Z) := Lib.hid (fun t ht => (hB.out t ht).just (Just.set g wr (k * 2) _) ho (by decide))
        have HBB := Lib.hid (bb.trans (Turn.of_row (b := b) (v := .slice (some ⟨g, 0, none⟩) n c) (v' := .slice (some ⟨g, 0, none⟩) n c) (Just.set g wr (k * 2) (.int .i64 y)) rfl (fun q e => e)))
        subst hx
        generalize cnt t l k = N at *
        clear ht m1 ho hcv hB
        go_wp2_with fail
        exact ⟨⟨k + 1, by simp [intOf], by rw [HC.out], by omega, HM.out, HO.out, HB, HBB.out⟩, by simp [intOf]; omega⟩
      · have HC : Hid ((cnt x l (k + 1) : Int) = (cnt x l k : Int)) := Lib.hid (by
          show ((cnt x l k + if (l.getD k default).to = x then 1 else 0 : Nat) : Int) = _
          rw [if_neg (by rw [ht]; exact hx)]; rfl)
        have HM := Lib.hid (m1.ext (U := mvv x y l (k + 1)) (fun j hj => by
          rw [mvv_step, if_neg (show ¬ (l.getD k default).to = x by rw [ht]; exact hx)]
          split
          · rename_i hj2
            subst hj2
            unfold mvv
            rw [if_neg (by omega), (iv_at l k).1]
          · rfl))
        have hx2 : (t == x) = false := by simpa using hx
        generalize cnt x l k = N at *
        clear hx ht m1 ho hcv
        go_wp2_with fail
        exact ⟨⟨k + 1, by simp [intOf], by rw [HC.out], by omega, HM.out, o1, hB, bb⟩, by simp [intOf]; omega⟩
    · have hkn : k = n := by omega
      subst hkn
      go_wp2_with fail
      go_ret
      refine ⟨rfl, ⟨?_, ?_, fun t ht => ?_, hlow⟩, bb⟩
      · exact o1
      · rw [List.length_map]
        have m2 := m1
        rw [← HN.out] at m2 ⊢
        exact m2.ext (fun j hj => mvv_all x y l j hj)
      · obtain ⟨t', ht', rfl⟩ := List.mem_map.1 ht
        obtain ⟨e1, e2, e3⟩ := mv_v x y t'
        rw [e1, e2, e3]
        exact hB.out t' ht'
end Go.Proofs.Ytmabdegabeopbaa.Qu
