/-
  Package queue: Put.
-/
import Derived.Test.YtmabdegabeopbaaQueueDel
import Derived.Deep.RegionLaw
set_option maxRecDepth 100000
namespace Go.Proofs.Ytmabdegabeopbaa.Qu
set_option linter.unusedVariables false
open Go.RowKit Lb

theorem iv_snoc (l : List It) (x : It) (q : Nat) (h : q < (l.length + 1) * 2) : (if q < l.length * 2 then iv l q else iv [x] (q - l.length * 2)) = iv (l ++ [x]) q := by
  unfold iv
  by_cases h1 : q < l.length * 2
  · rw [if_pos h1, List.getD_eq_getElem?_getD, List.getD_eq_getElem?_getD, List.getElem?_append_left (by omega)]
  · have e1 : q / 2 = l.length := by omega
    have e2 : (q - l.length * 2) / 2 = 0 := by omega
    have e3 : (q - l.length * 2) % 2 = q % 2 := by omega
    rw [if_neg h1, e1, e2, e3]
    simp
def itemOk (l : List It) : Prop := ∀ x ∈ l, x.v.oneCell' = true
theorem bs_one {w : World} {v : Value} {n : Nat} {Z : Nat → Int} (h : Bs w v n Z) : v.oneCell' = true := by
  rcases h with ⟨rfl, _⟩ | ⟨g, off, c, cs, rfl, _⟩ <;> rfl
theorem iv_one {l : List It} (h : itemOk l) (j : Nat) : (iv l j).oneCell' = true := by
  unfold iv
  split
  · rfl
  · by_cases hj : j / 2 < l.length
    · rw [List.getD_eq_getElem?_getD, List.getElem?_eq_getElem hj]
      exact h _ (List.getElem_mem hj)
    · rw [List.getD_eq_getElem?_getD, List.getElem?_eq_none (by omega)]
      rfl
theorem Que.ok {w : World} {base b : Nat} {most lost : Int} {l : List It} {v : Value} (h : Que w base b most lost l v) : itemOk l := fun x hx => bs_one (h.bytes x hx)
theorem own_type {w : World} {b : Nat} {t t' : TypeId} {cs cs' : Array Value} (h : Own w b t cs) (h' : Own w b t' cs') : t = t' := by
  unfold Own at h h'
  rw [h] at h'
  injection h' with e
  injection e
theorem mine_at {w : World} {base n q : Nat} {v : Value} {V : Nat → Value} (h : MineK w base 56 2 v n V) (e : v.ownBlock = some q) : base ≤ q ∧ ∃ cs, Own w q 56 cs := by
  obtain ⟨_, h2⟩ := h
  rcases h2 with ⟨hv, _⟩ | ⟨g, cap, cur, hv, hg, hh, _⟩
  · subst hv
    cases e
  · subst hv
    have e : some g = some q := e
    injection e with e
    subst e
    exact ⟨hg, cur, hh⟩
theorem mine_ne {w : World} {base n q b : Nat} {v : Value} {V : Nat → Value} {cs : Array Value} (h : MineK w base 56 2 v n V) (ho : Own w b 53 cs) (e : v.ownBlock = some q) : q ≠ b := by
  rintro rfl
  obtain ⟨_, cs', h'⟩ := mine_at h e
  exact absurd (own_type ho h') (by decide)
theorem mine_set {w : World} {base n b : Nat} {v : Value} {V : Nat → Value} {cs : Array Value} (h : MineK w base 56 2 v n V) (ho : Own w b 53 cs) (i : Nat) (u : Value) : MineK (w.setCell ⟨b, i, none⟩ u) base 56 2 v n V :=
  h.kept fun q hq => by
    by_cases hb : q = b
    · exact .inr fun e => mine_ne h ho e hb
    · exact .inl (Below.heap_setCell _ _ _ _ hb)
theorem Bs.grown {w w' : World} {v : Value} {n : Nat} {Z : Nat → Int} {row : Option Nat} (h : Bs w v n Z) (g : w.grownBy w' row) (hr : ∀ q, row = some q → ∃ cs, Own w q 56 cs) : Bs w' v n Z := by
  rcases h with h | ⟨p, off, c, cs', hv, ho', r⟩
  · exact .inl h
  · refine .inr ⟨p, off, c, cs', hv, (g.block p ho'.lt (fun e => ?_)).trans ho', r⟩
    obtain ⟨cs, hcs⟩ := hr p e.symm
    exact absurd (own_type ho' hcs) (by decide)
theorem put_nil (to : Int) (u : Value) (w : World) : Calls Try.prog 10 #[.pointer none, .int .i64 to, u] w fun r w' => r = .returned (.bool false) ∧ w = w' := by
  go_enter Try.func10, Try.ntmps10
  go_wp2_with fail
  go_ret
  exact ⟨rfl, rfl⟩
set_option maxHeartbeats 1000000 in
theorem put_full (base b : Nat) (most lost : Int) (l : List It) (v : Value) (to : Int) (u : Value) (w : World) (h : Que w base b most lost l v) (hm : most ≤ (l.length : Int)) (h0 : 0 ≤ lost) (h1 : lost ≤ 1000000) :
    Calls Try.prog 10 #[.pointer (some ⟨b, 0, none⟩), .int .i64 to, u] w fun r w' => r = .returned (.bool false) ∧ Que w' base b most (min (lost + 1) 1000000) l v ∧ Just b w w' := by
  obtain ⟨a, c, rfl, h3, h4, _⟩ := h.row.row
  unfold maxLen at h4
  have c0 := h.c0
  have c1 := h.c1
  have c2 := h.c2
  have f1 : w.frozen? ⟨b, 1, none⟩ = false := h.own.free 1
  go_enter Try.func10, Try.ntmps10
  go_wp2_with fail
  go_quiet (fail)
  go_wp2_with fail
  go_ret
  have j := ((Just.refl b w).drewN nq).put 1 (.int .i64 (min (lost + 1) 1000000))
  refine ⟨rfl, ⟨?_, ?_, fun x hx => (h.bytes x hx).just j h.own (by decide), h.low⟩, j⟩
  · have := (Own.drewN h.own nq).put 1 (.int .i64 (min (lost + 1) 1000000))
    exact this
  · exact mine_set (h.row.drewN nq) (h.own.drewN nq) 1 _
set_option maxHeartbeats 4000000 in
theorem put_room (base b : Nat) (most lost : Int) (l : List It) (v : Value) (to : Int) (a : Option Addr) (n c : Nat) (Z : Nat → Int) (w : World) (h : Que w base b most lost l v) (hm : (l.length : Int) < most) (hl : l.length ≤ 1000) (hn : n ≤ c) (hn2 : n ≤ 100000) (hR : Row w a n (fun i => .int .u8 (Z i))) (ha : a = none → n = 0) :
    Calls Try.prog 10 #[.pointer (some ⟨b, 0, none⟩), .int .i64 to, .slice a n c] w fun r w' => r = .returned (.bool true) ∧ ∃ v' u, Que w' base b most lost (l ++ [⟨to, u, n, Z⟩]) v' ∧ Below base w w' := by
  have hrow := h.row
  have hbs := Lib.hid h.bytes
  obtain ⟨a', c', rfl, h3, h4, hRow⟩ := h.row.row
  unfold maxLen at h4
  obtain ⟨i0, hi0, hz0, hz1, hz2⟩ := info_parts infoI
  have c0 := h.c0
  have c2 := h.c2
  have ho := h.own
  have hlow := h.low
  have hok := Lib.hid h.ok
  have g0 : decide (most ≤ (l.length : Int)) = false := by simp; omega
  have hbl := ho.lt
  have hb0 : base ≤ w.heap.size := by omega
  have ht : (53 : TypeId) ≠ 56 := by decide
  have hv2 : ∀ q, (Value.slice a' l.length c').ownBlock = some q → q ≠ b := fun q e => mine_ne h.row h.own e
  clear h
  go_enter Try.func10, Try.ntmps10
  go_wp2_with fail
  go_quiet (fail)
  generalize hw1 : w.drewN _ = w1 at *
  have m1 : MineK w1 base 56 2 (.slice a' l.length c') l.length (iv l) := by rw [← hw1]; exact hrow.drewN _
  have o1 : Own w1 b 53 #[.int .i64 most, .int .i64 lost, .slice a' l.length c'] := by rw [← hw1]; exact ho.drewN _
  have r1 : Row w1 a n (fun i => .int .u8 (Z i)) := by rw [← hw1]; exact hR.drewN _
  have z1 : w1.heap.size = w.heap.size := by rw [← hw1]; rfl
  have b1 : Below base w w1 := by rw [← hw1]; exact below_drewN (Below.refl _ _) _
  have B1 : Hid (∀ x ∈ l, Bs w1 x.v x.n x.Z) := Lib.hid (by rw [← hw1]; exact hbs.out)
  clear hw1 hrow ho hR c0 c2 hbs hRow
  go_wp2_with fail
  have s0 : w1.drew.cell? ⟨b, 2, none⟩ = some (.slice a' l.length c') := o1.cell 2
  have f0 : w1.frozen? ⟨b, 2, none⟩ = false := o1.free 2
  have s00 : w1.cell? ⟨b, 2, none⟩ = some (.slice a' l.length c') := o1.cell 2
  go_region_law (first
    | (refine step_appK rfl (.tmp 32) (.tmp 37) 51 rfl base 56 i0 _ 2 32 Try.underlying51 hi0 hz0 hz1 hz2 rfl (by decide) _ l.length (iv l) (by rfl) (m5.alloc _) _ 1 _ (iv [⟨to, .slice a5 n c5, n, Z⟩]) (by rfl) (row_new _ _ _ _ (fun i hi => by rcases (show i = 0 ∨ i = 1 by omega) with rfl | rfl <;> rfl)) (fun i hi => iv_one (fun x hx => by simp at hx; subst hx; exact bs_one hB5) i) (by unfold maxLen; omega) (by omega) (by have := b5.size; simp at this; simp; omega) ?_; intro v6 w6 m6 g6 l6; obtain ⟨a6, c6, rfl, hc6, hd6, hR6⟩ := m6.row; have o6 := grown_own g6 (Own.alloc o5 _) (by intro e; exact hv2 _ e rfl); have s3 : w6.cell? ⟨b, 2, none⟩ = some (.slice a' l.length c') := o6.cell 2; have f6 : w6.frozen? ⟨b, 2, none⟩ = false := o6.free 2)
    | (go_simp; go_at_call 22; refine (clone_any a n c Z _ hn (by omega) (r1.drewN 1) ha).mono ?_; rintro q w5 ⟨v5, rfl, hB5, b5⟩; obtain ⟨a5, c5, rfl, hc5, hd5, hR5, hn5⟩ := hB5.row; have o5 := below_own b5 (o1.drewN 1) o1.lt; have s1 : w5.cell? ⟨b, 2, none⟩ = some (.slice a' l.length c') := o5.cell 2; have m5 := (m1.drewN 1).below b5; have s2 : (w5.alloc (.cells #[.int .i64 to, .slice a5 n c5] 56)).cell? ⟨b, 2, none⟩ = some (.slice a' l.length c') := (Own.alloc o5 _).cell 2))
  all_goals
    go_wp2_with fail
    go_ret
    have m7 : MineK w6 base 56 2 (.slice a6 (l.length + 1) c6) (l ++ [(⟨to, .slice a5 n c5, n, Z⟩ : It)]).length (iv (l ++ [(⟨to, .slice a5 n c5, n, Z⟩ : It)])) := by
      rw [List.length_append]
      exact m6.ext (fun q hq => iv_snoc l _ q hq)
    have hgr : ∀ q, (Value.slice a' l.length c').ownBlock = some q → ∃ cs, Own (w5.alloc (.cells #[.int .i64 to, .slice a5 n c5] 56)) q 56 cs := fun q e => (mine_at (m5.alloc _) e).2
    have hb1 : base ≤ (w1.drewN 1).heap.size := by show base ≤ w1.heap.size; rw [z1]; exact hb0
    have hb5 : base ≤ w5.heap.size := Nat.le_trans hb1 b5.size
    have bb : Below base w w6 := (((below_drewN b1 1).trans (b5.mono hb1)).alloc hb5 _).grown g6 (by simp; omega) (fun q hq => (mine_at m5 hq).1)
    refine ⟨rfl, _, .slice a5 n c5, ⟨?_, mine_set m7 o6 2 _, fun x hx => ?_, hlow⟩, ?_⟩
    · exact o6.put 2 _
    · have hx2 : Bs w6 x.v x.n x.Z := by
        rw [List.mem_append, List.mem_singleton] at hx
        rcases hx with hx | rfl
        · exact ((((show Bs (w1.drewN 1) x.v x.n x.Z from B1.out x hx).below b5).below ((Below.refl _ _).alloc (Nat.le_refl _) _)).grown g6 hgr)
        · exact (hB5.below ((Below.refl _ _).alloc (Nat.le_refl _) _)).grown g6 hgr
      exact hx2.just (Just.set b w6 2 _) o6 (by decide)
    · exact (Just.set b w6 2 _).below bb hlow (by have := bb.size; omega)
end Go.Proofs.Ytmabdegabeopbaa.Qu
