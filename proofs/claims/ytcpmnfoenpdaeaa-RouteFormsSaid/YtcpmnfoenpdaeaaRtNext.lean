/-
  Package route: a packet with one hop less, in memory of its own.
-/
import Derived.Test.YtcpmnfoenpdaeaaRtLib
import Derived.Test.YtcpmnfoenpdaeaaRowOut
import Derived.Deep.RegionHeld3
import Derived.Deep.Strs
import Derived.Deep.Cut
import Derived.Deep.CutRange
set_option maxRecDepth 100000
namespace Go.Proofs.Ytcpmnfoenpdaeaa.Rt
set_option linter.unusedVariables false
open Go.RowKit Lb Go.Shelf

theorem infoP : (Try.prog.info? 25).map (fun i => (i.zero, i.size)) = some (some (.agg #[.int .i64 0, .int .i64 0, .int .i64 0, .int .i64 0, .slice none 0 0, .slice none 0 0]), 6) := by kernel_rfl
theorem mine_low {w : World} {B B0 n : Nat} {e : TypeId} {v : Value} {V : Nat → Value} (h : Mine w B e v n V) (hb : B0 ≤ B) : Mine w B0 e v n V := by
  obtain ⟨h1, h2⟩ := h
  refine ⟨h1, ?_⟩
  rcases h2 with h2 | ⟨g, cap, cur, hv, hg, r⟩
  · exact .inl h2
  · exact .inr ⟨g, cap, cur, hv, by omega, r⟩
theorem mine_apart {w : World} {B B' n n' : Nat} {e e' : TypeId} {v v' : Value} {V V' : Nat → Value} (h : Mine w B e v n V) (k : Mine w B' e' v' n' V') (hne : e ≠ e') (q : Nat) (hq : v.ownBlock = some q) : v'.ownBlock ≠ some q := fun hq' => by
  obtain ⟨_, h2⟩ := h
  obtain ⟨_, k2⟩ := k
  rcases h2 with ⟨rfl, _⟩ | ⟨g, cap, cur, rfl, _, hh, _⟩
  · cases hq
  · rcases k2 with ⟨rfl, _⟩ | ⟨g', cap', cur', rfl, _, hh', _⟩
    · cases hq'
    · have e1 : some g = some q := hq
      have e2 : some g' = some q := hq'
      injection e1 with e1
      injection e2 with e2
      subst e1 e2
      rw [hh] at hh'
      injection hh' with hh'
      injection hh' with _ h3 _
      exact hne h3
theorem mine_not {w : World} {B n g : Nat} {e t : TypeId} {v : Value} {V : Nat → Value} {cs : Array Value} (h : Mine w B e v n V) (k : Lb.Own w g t cs) (hne : e ≠ t) : v.ownBlock ≠ some g := fun hq => by
  obtain ⟨_, h2⟩ := h
  rcases h2 with ⟨rfl, _⟩ | ⟨g', cap, cur, rfl, _, hh, _⟩
  · cases hq
  · have e1 : some g' = some g := hq
    injection e1 with e1
    subst e1
    unfold Lb.Own at k
    rw [hh] at k
    injection k with k
    injection k with _ h3 _
    exact hne h3
/-- A packet whose rows are all its own. -/
structure Pk.Own (w : World) (base : Nat) (p : Pk) (a : Option Addr) (c : Nat) (b : Option Addr) (d : Nat) : Prop where
  path : Mine w base 3 (.slice a p.path.length c) p.path.length (zval p.path)
  data : Mine w base 5 (.slice b p.data.length d) p.data.length (bval p.data)
theorem Pk.Own.at_ {w : World} {base : Nat} {p : Pk} {a : Option Addr} {c : Nat} {b : Option Addr} {d : Nat} (h : p.Own w base a c b d) : p.At w a c b d := by
  obtain ⟨a', c', e1, h1, h2, h3⟩ := h.path.row
  injection e1 with e1 _ e2
  subst e1 e2
  obtain ⟨b', d', e1, g1, g2, g3⟩ := h.data.row
  injection e1 with e1 _ e2
  subst e1 e2
  refine ⟨h1, h2, h3, fun e => ?_, g1, g2, g3, fun e => ?_⟩
  · by_cases h0 : p.path.length = 0
    · exact h0
    · obtain ⟨_, _, h4, _⟩ := h3 (by omega)
      rw [e] at h4
      cases h4
  · by_cases h0 : p.data.length = 0
    · exact h0
    · obtain ⟨_, _, h4, _⟩ := g3 (by omega)
      rw [e] at h4
      cases h4
theorem Pk.Own.below {w w' : World} {base : Nat} {p : Pk} {a : Option Addr} {c : Nat} {b : Option Addr} {d : Nat} (h : p.Own w base a c b d) (j : Below w.heap.size w w') : p.Own w' base a c b d :=
  ⟨h.path.kept (fun q _ => if hl : q < w.heap.size then .inl (j.block q hl) else .inr (fun e => hl (h.path.lt q e).2)), h.data.kept (fun q _ => if hl : q < w.heap.size then .inl (j.block q hl) else .inr (fun e => hl (h.data.lt q e).2))⟩
theorem Pk.Own.put {w : World} {base g : Nat} {p : Pk} {a : Option Addr} {c : Nat} {b : Option Addr} {d : Nat} (h : p.Own w base a c b d) (hg : g < base) (i : Nat) (u : Value) : p.Own (w.setCell ⟨g, i, none⟩ u) base a c b d :=
  ⟨h.path.other (fun e => by have := (h.path.lt _ e).1; simp at this; omega) u, h.data.other (fun e => by have := (h.data.lt _ e).1; simp at this; omega) u⟩
theorem Pk.Own.low {w : World} {B B0 : Nat} {p : Pk} {a : Option Addr} {c : Nat} {b : Option Addr} {d : Nat} (h : p.Own w B a c b d) (hb : B0 ≤ B) : p.Own w B0 a c b d := ⟨mine_low h.path hb, mine_low h.data hb⟩
theorem Pk.Own.setRow {w : World} {base g : Nat} {p : Pk} {a : Option Addr} {c : Nat} {b : Option Addr} {d : Nat} (h : p.Own w base a c b d) (hg : g < base) (cs : Array Value) : p.Own (w.setRow g cs) base a c b d := by
  have J := Just.setRow g w cs
  exact ⟨h.path.kept (fun q hq => if hl : q < w.heap.size then .inl (J.block q hl (by omega)) else .inr (fun e => hl (h.path.lt q e).2)), h.data.kept (fun q hq => if hl : q < w.heap.size then .inl (J.block q hl (by omega)) else .inr (fun e => hl (h.data.lt q e).2))⟩
theorem cells6 (p : Pk) (a : Option Addr) (c : Nat) (b : Option Addr) (d : Nat) : (p.vals a c b d).all (·.oneCell') = true := by
  rw [Array.all_eq_true]
  intro i hi
  have h6 : i < 6 := hi
  rcases (show i = 0 ∨ i = 1 ∨ i = 2 ∨ i = 3 ∨ i = 4 ∨ i = 5 by omega) with rfl | rfl | rfl | rfl | rfl | rfl <;> rfl
def lessP (p : Pk) : Pk := { p with life := p.life - 1 }
def NextPost (base : Nat) (p : Pk) (w : World) (r : Ending) (w' : World) : Prop :=
  ∃ a c b d, r = .returned (.agg ((lessP p).vals a c b d)) ∧ (lessP p).Own w' base a c b d ∧ Below base w w'
set_option maxHeartbeats 1000000 in
theorem next_any (p : Pk) (a : Option Addr) (c : Nat) (b : Option Addr) (d : Nat) (w : World) (h : p.At w a c b d) (hl : 1 ≤ p.life ∧ p.life ≤ 15) (hp : p.path.length ≤ 1000) (hd : p.data.length ≤ 1000) :
    Calls Try.prog 34 #[.agg (p.vals a c b d)] w (NextPost w.heap.size p w) := by
  have o1 : Lb.Own ((w.alloc (.cells (p.vals a c b d) 25)).alloc (.cells #[.int .i64 0, .int .i64 0, .int .i64 0, .int .i64 0, .slice none 0 0, .slice none 0 0] 25)) w.heap.size 25 (p.vals a c b d) := (Own.new w _ _).alloc _
  have o2 : Lb.Own ((w.alloc (.cells (p.vals a c b d) 25)).alloc (.cells #[.int .i64 0, .int .i64 0, .int .i64 0, .int .i64 0, .slice none 0 0, .slice none 0 0] 25)) (w.heap.size + 1) 25 #[.int .i64 0, .int .i64 0, .int .i64 0, .int .i64 0, .slice none 0 0, .slice none 0 0] := by
    have := Own.new (w.alloc (.cells (p.vals a c b d) 25)) 25 #[.int .i64 0, .int .i64 0, .int .i64 0, .int .i64 0, .slice none 0 0, .slice none 0 0]
    rwa [show (w.alloc (.cells (p.vals a c b d) 25)).heap.size = w.heap.size + 1 by simp] at this
  have b0 := ((Below.refl w.heap.size w).alloc (Nat.le_refl _) (.cells (p.vals a c b d) 25)).alloc (by simp) (.cells #[.int .i64 0, .int .i64 0, .int .i64 0, .int .i64 0, .slice none 0 0, .slice none 0 0] 25)
  have h1 := h.below b0
  have hsz : ((w.alloc (.cells (p.vals a c b d) 25)).alloc (.cells #[.int .i64 0, .int .i64 0, .int .i64 0, .int .i64 0, .slice none 0 0, .slice none 0 0] 25)).heap.size = w.heap.size + 2 := by simp
  obtain ⟨pf, pt, pn, pl, pp, pd⟩ := p
  unfold Pk.vals at *
  simp only at *
  go_enter Try.func34, Try.ntmps34
  go_upto_region 1 with (fail)
  generalize (w.alloc (.cells #[.int .i64 pf, .int .i64 pt, .int .i64 pn, .int .i64 pl, .slice a pp.length c, .slice b pd.length d] 25)).alloc (.cells #[.int .i64 0, .int .i64 0, .int .i64 0, .int .i64 0, .slice none 0 0, .slice none 0 0] 25) = w1 at *
  have c3 : w1.cell? ⟨w.heap.size, 3, none⟩ = some (.int .i64 pl) := o1.cell 3
  have f3 : w1.frozen? ⟨w.heap.size, 3, none⟩ = false := o1.free 3
  have o3 := o1.put 3 (.int .i64 (pl - 1))
  have z3 := o2.apart (p := ⟨w.heap.size, 3, none⟩) (by simp) (.int .i64 (pl - 1))
  have j3 := Just.set w.heap.size w1 3 (.int .i64 (pl - 1))
  go_upto_region 2 with (fail)
  have b3 := j3.below b0 (Nat.le_refl _) b0.size
  have hs3 : (w1.setCell ⟨w.heap.size, 3, none⟩ (.int .i64 (pl - 1))).heap.size = w.heap.size + 2 := by simp [World.setCell, hsz]
  generalize w1.setCell ⟨w.heap.size, 3, none⟩ (.int .i64 (pl - 1)) = w2 at *
  clear o1 o2 c3 f3 j3 b0 h1 hsz
  have h2 := h.below b3
  have c4 : w2.cell? ⟨w.heap.size, 4, none⟩ = some (.slice a pp.length c) := o3.cell 4
  go_wp2_with fail
  refine (cloneI_any a c pp w2 (by omega) h2.prow h2.pnil).mono ?_
  rintro r w4 ⟨v4, rfl, m4, b4⟩
  obtain ⟨a4, n4, rfl, hn4, hx4, hR4⟩ := m4.row
  have o4 := below_own b4 o3 (by omega)
  have z4 := below_own b4 z3 (by omega)
  have k4 : w4.cell? ⟨w.heap.size, 4, none⟩ = some (.slice a pp.length c) := o4.cell 4
  have f4 : w4.frozen? ⟨w.heap.size, 4, none⟩ = false := o4.free 4
  go_upto_region 3 with (fail)
  have o5 := o4.put 4 (.slice a4 pp.length n4)
  have z5 := z4.apart (p := ⟨w.heap.size, 4, none⟩) (by simp) (.slice a4 pp.length n4)
  have b5 := (Just.set w.heap.size w4 4 (.slice a4 pp.length n4)).below (b3.trans (b4.mono b3.size)) (Nat.le_refl _) (b3.trans (b4.mono b3.size)).size
  have m5 := (mine_low m4 (show w.heap.size + 2 ≤ w2.heap.size by omega)).other (p := ⟨w.heap.size, 4, none⟩) (fun e => by have := (m4.lt _ e).1; simp at this; omega) (.slice a4 pp.length n4)
  have hs5 : w.heap.size + 2 ≤ (w4.setCell ⟨w.heap.size, 4, none⟩ (.slice a4 pp.length n4)).heap.size := by have := b4.size; simp [World.setCell]; omega
  generalize w4.setCell ⟨w.heap.size, 4, none⟩ (.slice a4 pp.length n4) = w5 at *
  clear o3 o4 z3 z4 b3 b4 m4 hR4 k4 f4 c4 h2 hs3
  have h5 := h.below b5
  have c5 : w5.cell? ⟨w.heap.size, 5, none⟩ = some (.slice b pd.length d) := o5.cell 5
  go_wp2_with fail
  refine (cloneB_any b d pd w5 (by omega) h5.drow h5.dnil).mono ?_
  rintro r w6 ⟨v6, rfl, m6, b6⟩
  obtain ⟨a6, n6, rfl, hn6, hx6, hR6⟩ := m6.row
  have o6 := below_own b6 o5 (by omega)
  have z6 := below_own b6 z5 (by omega)
  have k6 : w6.cell? ⟨w.heap.size, 5, none⟩ = some (.slice b pd.length d) := o6.cell 5
  have f6 : w6.frozen? ⟨w.heap.size, 5, none⟩ = false := o6.free 5
  go_upto_region 4 with (fail)
  have o7 := o6.put 5 (.slice a6 pd.length n6)
  have z7 := z6.apart (p := ⟨w.heap.size, 5, none⟩) (by simp) (.slice a6 pd.length n6)
  have b7 := (Just.set w.heap.size w6 5 (.slice a6 pd.length n6)).below (b5.trans (b6.mono (by omega))) (Nat.le_refl _) (b5.trans (b6.mono (by omega))).size
  have m5b := m5.kept (w' := w6) (fun q _ => if hl : q < w5.heap.size then .inl (b6.block q hl) else .inr (fun e => hl (m5.lt q e).2))
  have m7 := m5b.other (p := ⟨w.heap.size, 5, none⟩) (fun e => by have := (m5b.lt _ e).1; simp at this; omega) (.slice a6 pd.length n6)
  have n7 := (mine_low m6 (show w.heap.size + 2 ≤ w5.heap.size by omega)).other (p := ⟨w.heap.size, 5, none⟩) (fun e => by have := (m6.lt _ e).1; simp at this; omega) (.slice a6 pd.length n6)
  generalize w6.setCell ⟨w.heap.size, 5, none⟩ (.slice a6 pd.length n6) = w7 at *
  clear o5 o6 z5 z6 b5 b6 m5 m5b m6 hR6 k6 f6 c5 h5
  have o8 : Lb.Own w7 w.heap.size 25 ((lessP ⟨pf, pt, pn, pl, pp, pd⟩).vals a4 n4 a6 n6) := o7
  refine wp_row_out rfl rfl rfl rfl rfl o8 Try.underlying25 rfl (by kernel_rfl) rfl rfl z7 (by kernel_rfl) rfl (cells6 _ _ _ _ _) ?_
  go_wp2_with fail
  have q8 : (lessP ⟨pf, pt, pn, pl, pp, pd⟩).Own (w7.setRow (w.heap.size + 1) ((lessP ⟨pf, pt, pn, pl, pp, pd⟩).vals a4 n4 a6 n6)) w.heap.size a4 n4 a6 n6 := by
    have J := Just.setRow (w.heap.size + 1) w7 ((lessP ⟨pf, pt, pn, pl, pp, pd⟩).vals a4 n4 a6 n6)
    refine ⟨mine_low (m7.kept (fun q hq => ?_)) (show w.heap.size ≤ w.heap.size + 2 by omega), mine_low (n7.kept (fun q hq => ?_)) (show w.heap.size ≤ w.heap.size + 2 by omega)⟩
    · by_cases hl : q < w7.heap.size
      · exact .inl (J.block q hl (by omega))
      · exact .inr (fun e => hl (m7.lt q e).2)
    · by_cases hl : q < w7.heap.size
      · exact .inl (J.block q hl (by omega))
      · exact .inr (fun e => hl (n7.lt q e).2)
  exact bodyPost_ret (results_cell_row rfl _ _ (w.heap.size + 1) 25 _ (0, 0) _ rfl (z7.setRow _) Try.underlying25 rfl (by kernel_rfl)) rfl ⟨a4, n4, a6, n6, rfl, q8, (Just.setRow _ _ _).below b7 (by omega) b7.size⟩
end Go.Proofs.Ytcpmnfoenpdaeaa.Rt
