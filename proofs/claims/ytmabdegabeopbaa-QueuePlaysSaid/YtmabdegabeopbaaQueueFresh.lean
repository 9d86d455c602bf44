/-
  Package queue: what Put keeps and what At tells lies in memory of its own.
-/
import Derived.Test.YtmabdegabeopbaaQueueLaws
import Derived.Deep.RegionLaw
set_option maxRecDepth 100000
namespace Go.Proofs.Ytmabdegabeopbaa.Qu
set_option linter.unusedVariables false
open Go.RowKit Lb Go.Shelf

theorem clone_new (a : Option Addr) (n c : Nat) (Z : Nat → Int) (w : World) (hn : n ≤ c) (hc : n ≤ 140737488355328) (hR : Row w a n (fun i => .int .u8 (Z i))) (ha : a = none → n = 0) :
    Calls Try.prog 22 #[.slice a n c] w fun r w' => ∃ v, r = .returned v ∧ Bs w' v n Z ∧ Below w.heap.size w w' ∧ ∀ q, v.ownBlock = some q → w.heap.size ≤ q := by
  have hmap : ((List.range n).map Z).map (Value.int .u8) = (List.range n).map (fun i => .int .u8 (Z i)) := by rw [List.map_map]; rfl
  cases a with
  | none =>
    have hcon := Any.bytes_Clone_nil cloneL n c w
    refine Calls.mono hcon ?_
    rintro r w' ⟨rfl, rfl⟩
    exact ⟨_, rfl, .inl ⟨rfl, ha rfl⟩, Below.refl _ _, fun q e => by cases e⟩
  | some p =>
    have hcon := Any.bytes_Clone_at cloneL p n c ((List.range n).map Z) w (by simp) hc (fun i hi => by
      obtain ⟨b, off, hp, _, h3⟩ := hR.at_ hi
      injection hp with hp
      subst hp
      rw [Addr.add_lit, h3]
      simp [hi])
    refine Calls.mono hcon ?_
    rintro r w' ⟨v, rfl, hown, hne, hb⟩
    rw [hmap] at hown
    have hfr : ∀ q, v.ownBlock = some q → w.heap.size ≤ q := fun q e => by
      obtain ⟨_, h2⟩ := hown
      rcases h2 with ⟨hv, _⟩ | ⟨g, cap, cur, hv, hg, _⟩
      · exact absurd hv hne
      · subst hv
        have e : some g = some q := e
        injection e with e
        omega
    refine ⟨v, rfl, ?_, hb, hfr⟩
    obtain ⟨_, h2⟩ := hown
    rcases h2 with ⟨hv, _⟩ | ⟨g, cap, cur, hv, hg, hh, hc, hm, hs, ht⟩
    · exact absurd hv hne
    · refine .inr ⟨g, 0, cap, cur, hv, hh, hc, hm, fun i hi => ?_⟩
      have e1 := congrArg (fun l : List Value => l[i]?) ht
      simp only [Nat.mul_one, List.getElem?_take, if_pos hi, Array.getElem?_toList] at e1
      rw [Nat.zero_add, e1]
      simp [hi]
set_option maxHeartbeats 4000000 in
theorem put_new (base b : Nat) (most lost : Int) (l : List It) (v : Value) (to : Int) (a : Option Addr) (n c : Nat) (Z : Nat → Int) (w : World) (h : Que w base b most lost l v) (hm : (l.length : Int) < most) (hl : l.length ≤ 1000) (hn : n ≤ c) (hn2 : n ≤ 100000) (hR : Row w a n (fun i => .int .u8 (Z i))) (ha : a = none → n = 0) :
    Calls Try.prog 10 #[.pointer (some ⟨b, 0, none⟩), .int .i64 to, .slice a n c] w fun r w' => r = .returned (.bool true) ∧ ∃ v' u, Que w' base b most lost (l ++ [⟨to, u, n, Z⟩]) v' ∧ Below base w w' ∧ (∀ q, u.ownBlock = some q → w.heap.size ≤ q) ∧ ∀ x m Y, Bs w x m Y → Bs w' x m Y := by
  have hrow := h.row
  have hbs := Lib.hid h.bytes
  obtain ⟨a', c', rfl, h3, h4, hRow⟩ := h.row.row
  unfold maxLen at h4
  obtain ⟨i0, hi0, hz0, hz1, hz2⟩ := info_parts infoI
  have c0 := h.c0
  have c2 := h.c2
  have ho := h.own
  have hlow := h.low
  have hok := Lib.hid h.ok
  have g0 : decide (most ≤ (l.length : Int)) = false := by simp; omega
  have hbl := ho.lt
  have hb0 : base ≤ w.heap.size := by omega
  have ht : (53 : TypeId) ≠ 56 := by decide
  have hv2 : ∀ q, (Value.slice a' l.length c').ownBlock = some q → q ≠ b := fun q e => mine_ne h.row h.own e
  clear h
  go_enter Try.func10, Try.ntmps10
  go_wp2_with fail
  go_quiet (fail)
  generalize hw1 : w.drewN _ = w1 at *
  have m1 : MineK w1 base 56 2 (.slice a' l.length c') l.length (iv l) := by rw [← hw1]; exact hrow.drewN _
  have o1 : Own w1 b 53 #[.int .i64 most, .int .i64 lost, .slice a' l.length c'] := by rw [← hw1]; exact ho.drewN _
  have r1 : Row w1 a n (fun i => .int .u8 (Z i)) := by rw [← hw1]; exact hR.drewN _
  have z1 : w1.heap.size = w.heap.size := by rw [← hw1]; rfl
  have b1 : Below base w w1 := by rw [← hw1]; exact below_drewN (Below.refl _ _) _
  have K1 : Hid (∀ x m Y, Bs w x m Y → Bs w1 x m Y) := Lib.hid (by rw [← hw1]; exact fun x m Y h => h)
  have B1 : Hid (∀ x ∈ l, Bs w1 x.v x.n x.Z) := Lib.hid (by rw [← hw1]; exact hbs.out)
  clear hw1 hrow ho hR c0 c2 hbs hRow
  go_wp2_with fail
  have s0 : w1.drew.cell? ⟨b, 2, none⟩ = some (.slice a' l.length c') := o1.cell 2
  have f0 : w1.frozen? ⟨b, 2, none⟩ = false := o1.free 2
  have s00 : w1.cell? ⟨b, 2, none⟩ = some (.slice a' l.length c') := o1.cell 2
  go_region_law (first
    | (refine step_appK rfl (.tmp 32) (.tmp 37) 51 rfl base 56 i0 _ 2 32 Try.underlying51 hi0 hz0 hz1 hz2 rfl (by decide) _ l.length (iv l) (by rfl) (m5.alloc _) _ 1 _ (iv [⟨to, .slice a5 n c5, n, Z⟩]) (by rfl) (row_new _ _ _ _ (fun i hi => by rcases (show i = 0 ∨ i = 1 by omega) with rfl | rfl <;> rfl)) (fun i hi => iv_one (fun x hx => by simp at hx; subst hx; exact bs_one hB5) i) (by unfold maxLen; omega) (by omega) (by have := b5.size; simp at this; simp; omega) ?_; intro v6 w6 m6 g6 l6; obtain ⟨a6, c6, rfl, hc6, hd6, hR6⟩ := m6.row; have o6 := grown_own g6 (Own.alloc o5 _) (by intro e; exact hv2 _ e rfl); have s3 : w6.cell? ⟨b, 2, none⟩ = some (.slice a' l.length c') := o6.cell 2; have f6 : w6.frozen? ⟨b, 2, none⟩ = false := o6.free 2)
    | (go_simp; go_at_call 22; refine (clone_new a n c Z _ hn (by omega) (r1.drewN 1) ha).mono ?_; rintro q w5 ⟨v5, rfl, hB5, b5, hfr5⟩; obtain ⟨a5, c5, rfl, hc5, hd5, hR5, hn5⟩ := hB5.row; have o5 := below_own b5 (o1.drewN 1) o1.lt; have s1 : w5.cell? ⟨b, 2, none⟩ = some (.slice a' l.length c') := o5.cell 2; have m5 := (m1.drewN 1).below b5; have s2 : (w5.alloc (.cells #[.int .i64 to, .slice a5 n c5] 56)).cell? ⟨b, 2, none⟩ = some (.slice a' l.length c') := (Own.alloc o5 _).cell 2))
  all_goals
    go_wp2_with fail
    go_ret
    have m7 : MineK w6 base 56 2 (.slice a6 (l.length + 1) c6) (l ++ [(⟨to, .slice a5 n c5, n, Z⟩ : It)]).length (iv (l ++ [(⟨to, .slice a5 n c5, n, Z⟩ : It)])) := by
      rw [List.length_append]
      exact m6.ext (fun q hq => iv_snoc l _ q hq)
    have hgr : ∀ q, (Value.slice a' l.length c').ownBlock = some q → ∃ cs, Own (w5.alloc (.cells #[.int .i64 to, .slice a5 n c5] 56)) q 56 cs := fun q e => (mine_at (m5.alloc _) e).2
    have hb1 : base ≤ (w1.drewN 1).heap.size := by show base ≤ w1.heap.size; rw [z1]; exact hb0
    have hb5 : base ≤ w5.heap.size := Nat.le_trans hb1 b5.size
    have bb : Below base w w6 := (((below_drewN b1 1).trans (b5.mono hb1)).alloc hb5 _).grown g6 (by simp; omega) (fun q hq => (mine_at m5 hq).1)
    refine ⟨rfl, _, .slice a5 n c5, ⟨?_, mine_set m7 o6 2 _, fun x hx => ?_, hlow⟩, ?_⟩
    · exact o6.put 2 _
    · have hx2 : Bs w6 x.v x.n x.Z := by
        rw [List.mem_append, List.mem_singleton] at hx
        rcases hx with hx | rfl
        · exact ((((show Bs (w1.drewN 1) x.v x.n x.Z from B1.out x hx).below b5).below ((Below.refl _ _).alloc (Nat.le_refl _) _)).grown g6 hgr)
        · exact (hB5.below ((Below.refl _ _).alloc (Nat.le_refl _) _)).grown g6 hgr
      exact hx2.just (Just.set b w6 2 _) o6 (by decide)
    · exact ⟨(Just.set b w6 2 _).below bb hlow (by have := bb.size; omega), fun q e => by
        have h5 : w1.heap.size ≤ q := hfr5 q e
        omega, fun x m Y hx => by
        have hx2 : Bs w6 x m Y := (((show Bs (w1.drewN 1) x m Y from K1.out x m Y hx).below b5).below ((Below.refl _ _).alloc (Nat.le_refl _) _)).grown g6 hgr
        exact hx2.just (Just.set b w6 2 _) o6 (by decide)⟩
theorem at_new (base b : Nat) (most lost : Int) (l : List It) (v : Value) (i : Nat) (w : World) (h : Que w base b most lost l v) (hi : i < l.length) (hn : (l.getD i default).n ≤ 100000) :
    Calls Try.prog 12 #[.pointer (some ⟨b, 0, none⟩), .int .i64 i] w fun r w' => ∃ u, r = .returned (.tuple #[u, .bool true]) ∧ Bs w' u (l.getD i default).n (l.getD i default).Z ∧ Below w.heap.size w w' ∧ ∀ q, u.ownBlock = some q → w.heap.size ≤ q := by
  have HD : Hid (hasB l.length i = true) := Lib.hid (by unfold hasB; rw [decide_eq_true_eq]; omega)
  obtain ⟨g, c, rfl, h1, h2, k0, k1, _⟩ := h.at_ hi
  have c2 := h.c2
  have hb := h.bytes _ (getD_mem hi)
  unfold maxLen at h2
  generalize l.getD i default = x at *
  obtain ⟨to, xv, xn, Z⟩ := x
  dsimp only at *
  obtain ⟨a5, c5, rfl, hc5, hd5, hR5, hn5⟩ := hb.row
  go_enter Try.func12, Try.ntmps12
  go_wp2_with fail
  refine (has_any base b most lost l _ i _ h).mono ?_
  rintro r w' ⟨rfl, rfl⟩
  rw [HD.out]
  go_wp2_with fail
  refine (clone_new a5 xn c5 Z _ hc5 (by omega) hR5 (fun e => (hn5 e).1)).mono ?_
  rintro r w4 ⟨v4, rfl, hB, b4, hf4⟩
  go_wp2_with fail
  refine bodyPost_ret (results_tmp2 rfl _ _ _) rfl ?_
  exact ⟨v4, rfl, hB, b4, hf4⟩
theorem Bs.lt {w : World} {v : Value} {n q : Nat} {Z : Nat → Int} (h : Bs w v n Z) (e : v.ownBlock = some q) : q < w.heap.size := by
  rcases h with ⟨hv, _⟩ | ⟨g, off, c, cs, hv, ho, _⟩
  · subst hv
    cases e
  · subst hv
    have e : some g = some q := e
    injection e with e
    subst e
    exact ho.lt
/-- Bytes stay what they are where another block turns. -/
theorem Bs.other {w w' : World} {v : Value} {n b : Nat} {Z : Nat → Int} (h : Bs w v n Z) (j : Just b w w') (hb : ∀ q, v.ownBlock = some q → q ≠ b) : Bs w' v n Z := by
  rcases h with h | ⟨g, off, c, cs', hv, ho', r⟩
  · exact .inl h
  · exact .inr ⟨g, off, c, cs', hv, j.own ho' (hb g (by rw [hv]; rfl)), r⟩
/-- The queue stays what it is where a block of bytes turns that is none of its own. -/
theorem Que.other {w w' : World} {base b g : Nat} {most lost : Int} {l : List It} {v : Value} {cs : Array Value} (h : Que w base b most lost l v) (j : Just g w w') (ho : Own w g 5 cs) (hb : ∀ x ∈ l, ∀ q, x.v.ownBlock = some q → q ≠ g) : Que w' base b most lost l v where
  own := j.own h.own (fun e => by subst e; exact absurd (own_type h.own ho) (by decide))
  row := h.row.kept (fun q _ => by
    by_cases hq : q = g
    · subst hq
      exact .inr fun e => by
        obtain ⟨_, cs', h'⟩ := mine_at h.row e
        exact absurd (own_type h' ho) (by decide)
    · by_cases hl : q < w.heap.size
      · exact .inl (j.block q hl hq)
      · exact .inr fun e => hl (h.row.lt q e).2)
  bytes x hx := (h.bytes x hx).other j (hb x hx)
  low := h.low
theorem Bs.put {w : World} {g off n c : Nat} {Z : Nat → Int} (h : Bs w (.slice (some ⟨g, off, none⟩) n c) n Z) {i : Nat} (hi : i < n) (z : Int) : Bs (w.setCell ⟨g, off + i, none⟩ (.int .u8 z)) (.slice (some ⟨g, off, none⟩) n c) n (fun j => if j = i then z else Z j) := by
  rcases h with ⟨h, h0⟩ | ⟨g', off', c', cs, hv, ho, h1, h2, h3⟩
  · omega
  · injection hv with e1 _ e2
    injection e1 with e1
    injection e1 with e1 e3
    subst e1 e2 e3
    refine .inr ⟨g, off, c, _, rfl, ho.put _ _, h1, h2, fun j hj => ?_⟩
    have hjs : off + j < cs.size := by
      have := h3 j hj
      by_cases hlt : off + j < cs.size
      · exact hlt
      · rw [Array.getElem?_eq_none (by omega)] at this
        cases this
    rw [Array.getElem?_setIfInBounds]
    by_cases e : i = j
    · subst e
      rw [if_pos rfl, if_pos hjs]
      simp
    · rw [if_neg (by omega), h3 j hj]
      simp [show ¬ j = i from fun e' => e e'.symm]
theorem Bs.at_ {w : World} {a : Option Addr} {n c : Nat} {Z : Nat → Int} (h : Bs w (.slice a n c) n Z) {i : Nat} (hi : i < n) : ∃ g off cs, a = some ⟨g, off, none⟩ ∧ Own w g 5 cs ∧ cs[off + i]? = some (.int .u8 (Z i)) := by
  rcases h with ⟨h, h0⟩ | ⟨g', off', c', cs, hv, ho, h1, h2, h3⟩
  · omega
  · injection hv with e1 _ e2
    exact ⟨g', off', cs, e1, ho, h3 i hi⟩
theorem bs_of_mine {w : World} {base : Nat} {v : Value} {n : Nat} {Z : Nat → Int} (h : Mine w base 5 v n (fun i => .int .u8 (Z i))) : Bs w v n Z := by
  obtain ⟨_, h2⟩ := h
  rcases h2 with ⟨hv, hn⟩ | ⟨g, cap, cur, hv, hg, hh, hc, hm, hs, ht⟩
  · exact .inl ⟨hv, hn⟩
  · refine .inr ⟨g, 0, cap, cur, hv, hh, hc, hm, fun i hi => ?_⟩
    have e1 := congrArg (fun l : List Value => l[i]?) ht
    simp only [Nat.mul_one, List.getElem?_take, if_pos hi, Array.getElem?_toList] at e1
    rw [Nat.zero_add, e1]
    simp [hi]
end Go.Proofs.Ytmabdegabeopbaa.Qu
