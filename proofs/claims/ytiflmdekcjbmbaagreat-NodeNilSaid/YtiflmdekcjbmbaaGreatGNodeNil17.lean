/-
  A node (chapter 24): a fresh one.
-/
import Derived.Test.YtiflmdekcjbmbaaGreatGNodeNil14
import Derived.Test.YtiflmdekcjbmbaaGreatGNodeNil16
set_option maxRecDepth 100000
namespace Go.Proofs.YtiflmdekcjbmbaaGreat.Nd
set_option linter.unusedVariables false
set_option linter.unusedSimpArgs false
open Go.RowKit Lb

def l43 (c : Cfg) (ha : Option Addr) (hc : Nat) (id : Int) (ck qb ub db gb : Nat) : List Value := [.int .i64 id, .int .i64 c.nodes, .slice none 0 0, .slice ha c.hops.length hc, .int .i64 c.guard, .int .i64 c.err, .int .i64 c.keep, .int .i64 c.loss, .int .i64 c.queue, .int .i64 c.life, ptr ck, ptr qb, .int .i64 0, ptr ub, ptr db, ptr gb, .int .i64 0, .int .i64 (-1), .bool false, .int .i64 0, .int .i64 0, .int .i64 0, .int .i64 0, .slice none 0 0, .slice none 0 0, .slice none 0 0, .slice none 0 0, .slice none 0 0, .slice none 0 0, .slice none 0 0, .slice none 0 0, .slice none 0 0, .slice none 0 0, .slice none 0 0, .slice none 0 0, .slice none 0 0, .slice none 0 0, .slice none 0 0, .slice none 0 0, .bool false, .pointer none, .pointer none, .int .i64 0]
/-- A state in which nothing happened yet. -/
def fresh0 (c : Cfg) (id : Int) (t : Bool) : Ns := ⟨id, c, 0, 0, 0, [], 0, 0, fun _ => 0, fun _ => 0, fun _ => 0, fun _ => 0, fun _ => 0, fun _ => 0, 0, -1, false, 0, 0, 0, 0, fun _ => [], t, 0, [], 0, 0⟩
def hm0 (ha : Option Addr) (hc ck qb ub db gb sb : Nat) : Hm := ⟨ha, hc, ck, qb, .slice none 0 0, ub, db, gb, sb, .slice none 0 0, 0, fun _ => .slice none 0 0⟩
theorem l43_nd (c : Cfg) (ha : Option Addr) (hc : Nat) (id : Int) (ck qb ub db gb sb : Nat) (i : Nat) (hi : i < 43) : (l43 c ha hc id ck qb ub db gb).getD i undef = ndV (fresh0 c id false) (hm0 ha hc ck qb ub db gb sb) i := by
  unfold ndV
  by_cases h1 : i < 23
  · rw [if_pos h1]
    rcases idx23 i h1 with rfl | rfl | rfl | rfl | rfl | rfl | rfl | rfl | rfl | rfl | rfl | rfl | rfl | rfl | rfl | rfl | rfl | rfl | rfl | rfl | rfl | rfl | rfl <;> rfl
  · by_cases h2 : i < 39
    · rw [if_neg h1, if_pos h2]
      obtain ⟨j, rfl⟩ : ∃ j, i = 23 + j := ⟨i - 23, by omega⟩
      rcases (show j = 0 ∨ j = 1 ∨ j = 2 ∨ j = 3 ∨ j = 4 ∨ j = 5 ∨ j = 6 ∨ j = 7 ∨ j = 8 ∨ j = 9 ∨ j = 10 ∨ j = 11 ∨ j = 12 ∨ j = 13 ∨ j = 14 ∨ j = 15 by omega) with rfl | rfl | rfl | rfl | rfl | rfl | rfl | rfl | rfl | rfl | rfl | rfl | rfl | rfl | rfl | rfl <;> rfl
    · rw [if_neg h1, if_neg h2]
      obtain ⟨j, rfl⟩ : ∃ j, i = 39 + j := ⟨i - 39, by omega⟩
      rw [Nat.add_sub_cancel_left]
      rcases idx4 j (by omega) with rfl | rfl | rfl | rfl <;> rfl
theorem nd_one {s : Ns} {h : Hm} (hp : ∀ k, k < 16 → (h.pv k).oneCell' = true) (i : Nat) (hi : i < 43) : (ndV s h i).oneCell' = true := by
  unfold ndV
  by_cases h1 : i < 23
  · rw [if_pos h1]
    rcases idx23 i h1 with rfl | rfl | rfl | rfl | rfl | rfl | rfl | rfl | rfl | rfl | rfl | rfl | rfl | rfl | rfl | rfl | rfl | rfl | rfl | rfl | rfl | rfl | rfl <;> rfl
  · by_cases h2 : i < 39
    · rw [if_neg h1, if_pos h2]
      exact hp _ (by omega)
    · rw [if_neg h1, if_neg h2]
      obtain ⟨j, rfl⟩ : ∃ j, i = 39 + j := ⟨i - 39, by omega⟩
      rw [Nat.add_sub_cancel_left]
      rcases idx4 j (by omega) with rfl | rfl | rfl | rfl
      · rfl
      · show (if s.inT then ptr h.sb else .pointer none).oneCell' = true
        split <;> rfl
      · show (if s.hasK then ptr h.kb else .pointer none).oneCell' = true
        split <;> rfl
      · rfl
theorem nd_all {s : Ns} {h : Hm} (hp : ∀ k, k < 16 → (h.pv k).oneCell' = true) : (Array.ofFn (n := 43) fun i => ndV s h i).all (·.oneCell') = true := by
  rw [Array.all_eq_true]
  intro i hi
  rw [Array.getElem_ofFn]
  exact nd_one hp i (by simpa using hi)
theorem l43_one (c : Cfg) (ha : Option Addr) (hc : Nat) (id : Int) (ck qb ub db gb : Nat) : (l43 c ha hc id ck qb ub db gb).toArray.all (·.oneCell') = true := by
  refine all_oneCell_toArray (fun v hv => ?_)
  obtain ⟨i, hi, rfl⟩ := List.getElem_of_mem hv
  have hi43 : i < 43 := hi
  have e : (l43 c ha hc id ck qb ub db gb)[i]'hi = ndV (fresh0 c id false) (hm0 ha hc ck qb ub db gb 0) i := by
    rw [← l43_nd c ha hc id ck qb ub db gb 0 i hi43, List.getD_eq_getElem?_getD, List.getElem?_eq_getElem hi]
    rfl
  exact (congrArg Value.oneCell' e).trans (nd_one (fun k _ => rfl) i hi43)
section
variable {v : World}
def pCk (x : Value) (s : Gh v) : Prop := ∃ b, x = ptr b ∧ v.heap.size ≤ b ∧ Ck.Clk s.toW b 0 0 0
def pQu (q : Int) (x : Value) (s : Gh v) : Prop := ∃ b, x = ptr b ∧ v.heap.size ≤ b ∧ Qu.Que s.toW b b q 0 [] (.slice none 0 0)
def pW1 (x : Value) (s : Gh v) : Prop := ∃ b, x = ptr b ∧ v.heap.size ≤ b ∧ Dp.Win s.toW b (fun _ => 0) (fun _ => 0) ∧ s.g 6 = some b
def pW2 (x : Value) (s : Gh v) : Prop := ∃ b a, x = ptr b ∧ v.heap.size ≤ b ∧ Dp.Win s.toW b (fun _ => 0) (fun _ => 0) ∧ s.g 6 = some a ∧ s.g 7 = some b ∧ a < b
def pW3 (x : Value) (s : Gh v) : Prop := ∃ b a, x = ptr b ∧ v.heap.size ≤ b ∧ Dp.Win s.toW b (fun _ => 0) (fun _ => 0) ∧ s.g 7 = some a ∧ a < b
structure Five (lo : Nat) (w : World) (q : Int) (ck qb ub db gb : Nat) : Prop where
  clk : Ck.Clk w ck 0 0 0
  que : Qu.Que w qb qb q 0 [] (.slice none 0 0)
  up : Dp.Win w ub (fun _ => 0) (fun _ => 0)
  dn : Dp.Win w db (fun _ => 0) (fun _ => 0)
  gt : Dp.Win w gb (fun _ => 0) (fun _ => 0)
  ap : ub ≠ db ∧ ub ≠ gb ∧ db ≠ gb
  lo : lo ≤ ck ∧ lo ≤ qb ∧ lo ≤ ub ∧ lo ≤ db ∧ lo ≤ gb
theorem Five.below {lo : Nat} {w w' : World} {q : Int} {ck qb ub db gb : Nat} (h : Five lo w q ck qb ub db gb) (j : Below w.heap.size w w') : Five lo w' q ck qb ub db gb :=
  ⟨below_own j h.clk h.clk.lt, h.que.below j, below_blk j h.up h.up.lt, below_blk j h.dn h.dn.lt, below_blk j h.gt h.gt.lt, h.ap, h.lo⟩
theorem Five.just {lo b n : Nat} {V : Nat → Value} {w w' : World} {q : Int} {ck qb ub db gb : Nat} (h : Five lo w q ck qb ub db gb) (j : Just b w w') (o : Blk w b 92 n V) : Five lo w' q ck qb ub db gb := by
  have t := Tn.of_just j o
  exact ⟨t.own h.clk (by decide), t.que h.que (by decide) (by decide) (by decide), t.own h.up (by decide), t.own h.dn (by decide), t.own h.gt (by decide), h.ap, h.lo⟩
def pB (c : Cfg) (ha : Option Addr) (hc : Nat) (id : Int) (x : Value) (s : Gh v) : Prop := ∃ ck qb ub db gb, x = .agg (l43 c ha hc id ck qb ub db gb).toArray ∧ Five v.heap.size s.toW c.queue ck qb ub db gb
def pA (x : Value) (s : Gh v) : Prop := ∃ b, x = ptr b ∧ v.heap.size ≤ b ∧ Own s.toW b 92 #[.int .i64 0, .int .i64 0, .slice none 0 0, .slice none 0 0, .int .i64 0, .int .i64 0, .int .i64 0, .int .i64 0, .int .i64 0, .int .i64 0, .pointer none, .pointer none, .int .i64 0, .pointer none, .pointer none, .pointer none, .int .i64 0, .int .i64 0, .bool false, .int .i64 0, .int .i64 0, .int .i64 0, .int .i64 0, .slice none 0 0, .slice none 0 0, .slice none 0 0, .slice none 0 0, .slice none 0 0, .slice none 0 0, .slice none 0 0, .slice none 0 0, .slice none 0 0, .slice none 0 0, .slice none 0 0, .slice none 0 0, .slice none 0 0, .slice none 0 0, .slice none 0 0, .slice none 0 0, .bool false, .pointer none, .pointer none, .int .i64 0]
theorem p_stab (c : Cfg) (ha : Option Addr) (hc : Nat) (id q : Int) (u1 u2 u3 u4 : Value) (l : List Oper) (h67 : freeB l gK 6 7 = false) (h78 : freeB l gK 7 8 = false) :
    ∀ (i j : Nat) (T : Ty (Gh v)), ([.is u1, .is u2, .of pCk, .is u3, .is u4, .of (pQu q), .of pW1, .of pW2, .of pW3, .of (pB c ha hc id), .of pA] : List (Ty (Gh v)))[j]? = some T → freeB l gK i j = true → ∀ x (s s' : Gh v), Gh.R i s s' → T.holds x s → T.holds x s' := by
  intro i j T hT hf x s s' r hx
  have hij : i ≠ j := by
    intro e
    subst e
    unfold freeB at hf
    simp at hf
  have hj : j < 11 := by simpa using (List.getElem?_eq_some_iff.1 hT).1
  rcases (show j = 0 ∨ j = 1 ∨ j = 2 ∨ j = 3 ∨ j = 4 ∨ j = 5 ∨ j = 6 ∨ j = 7 ∨ j = 8 ∨ j = 9 ∨ j = 10 by omega) with rfl | rfl | rfl | rfl | rfl | rfl | rfl | rfl | rfl | rfl | rfl <;> (simp only [List.getElem?_cons_succ, List.getElem?_cons_zero, Option.some.injEq] at hT; subst hT)
  · exact hx
  · exact hx
  · obtain ⟨b, e, h1, h2⟩ := hx
    exact ⟨b, e, h1, below_own r.bel h2 h2.lt⟩
  · exact hx
  · exact hx
  · obtain ⟨b, e, h1, h2⟩ := hx
    exact ⟨b, e, h1, h2.below r.bel⟩
  · obtain ⟨b, e, h1, h2, h3⟩ := hx
    exact ⟨b, e, h1, below_blk r.bel h2 h2.lt, (r.g 6 (fun q => hij q.symm)).trans h3⟩
  · obtain ⟨b, a, e, h1, h2, h3, h4, h5⟩ := hx
    have h6 : i ≠ 6 := fun q => by subst q; rw [h67] at hf; cases hf
    exact ⟨b, a, e, h1, below_blk r.bel h2 h2.lt, (r.g 6 (fun q => h6 q.symm)).trans h3, (r.g 7 (fun q => hij q.symm)).trans h4, h5⟩
  · obtain ⟨b, a, e, h1, h2, h3, h4⟩ := hx
    have h6 : i ≠ 7 := fun q => by subst q; rw [h78] at hf; cases hf
    exact ⟨b, a, e, h1, below_blk r.bel h2 h2.lt, (r.g 7 (fun q => h6 q.symm)).trans h3, h4⟩
  · obtain ⟨ck, qb, ub, db, gb, e, h⟩ := hx
    exact ⟨ck, qb, ub, db, gb, e, h.below r.bel⟩
  · obtain ⟨b, e, h1, h2⟩ := hx
    exact ⟨b, e, h1, below_own r.bel h2 h2.lt⟩
end
theorem z43_blk {w : World} {b : Nat} (o : Own w b 92 #[.int .i64 0, .int .i64 0, .slice none 0 0, .slice none 0 0, .int .i64 0, .int .i64 0, .int .i64 0, .int .i64 0, .int .i64 0, .int .i64 0, .pointer none, .pointer none, .int .i64 0, .pointer none, .pointer none, .pointer none, .int .i64 0, .int .i64 0, .bool false, .int .i64 0, .int .i64 0, .int .i64 0, .int .i64 0, .slice none 0 0, .slice none 0 0, .slice none 0 0, .slice none 0 0, .slice none 0 0, .slice none 0 0, .slice none 0 0, .slice none 0 0, .slice none 0 0, .slice none 0 0, .slice none 0 0, .slice none 0 0, .slice none 0 0, .slice none 0 0, .slice none 0 0, .slice none 0 0, .bool false, .pointer none, .pointer none, .int .i64 0]) : Blk w b 92 43 (fun i => (#[.int .i64 0, .int .i64 0, .slice none 0 0, .slice none 0 0, .int .i64 0, .int .i64 0, .int .i64 0, .int .i64 0, .int .i64 0, .int .i64 0, .pointer none, .pointer none, .int .i64 0, .pointer none, .pointer none, .pointer none, .int .i64 0, .int .i64 0, .bool false, .int .i64 0, .int .i64 0, .int .i64 0, .int .i64 0, .slice none 0 0, .slice none 0 0, .slice none 0 0, .slice none 0 0, .slice none 0 0, .slice none 0 0, .slice none 0 0, .slice none 0 0, .slice none 0 0, .slice none 0 0, .slice none 0 0, .slice none 0 0, .slice none 0 0, .slice none 0 0, .slice none 0 0, .slice none 0 0, .bool false, .pointer none, .pointer none, .int .i64 0] : Array Value).getD i undef) := Blk.of o rfl (fun i hi => by
  rw [Array.getElem?_eq_getElem (by simpa using hi), Array.getD_eq_getD_getElem?, Array.getElem?_eq_getElem (by simpa using hi)]
  rfl)
theorem nd_size (s : Ns) (h : Hm) : (Tryz.prog.info? 92).map (·.size) = some (Array.ofFn (n := 43) fun i => ndV s h i).size := by
  have : (Array.ofFn (n := 43) fun i => ndV s h i).size = 43 := Array.size_ofFn
  have e : (Tryz.prog.info? 92).map (·.size) = some 43 := by kernel_rfl
  rw [this]
  exact e
theorem nd_size2 (s : Ns) (h : Hm) : (#[.int .i64 0, .int .i64 0, .slice none 0 0, .slice none 0 0, .int .i64 0, .int .i64 0, .int .i64 0, .int .i64 0, .int .i64 0, .int .i64 0, .pointer none, .pointer none, .int .i64 0, .pointer none, .pointer none, .pointer none, .int .i64 0, .int .i64 0, .bool false, .int .i64 0, .int .i64 0, .int .i64 0, .int .i64 0, .slice none 0 0, .slice none 0 0, .slice none 0 0, .slice none 0 0, .slice none 0 0, .slice none 0 0, .slice none 0 0, .slice none 0 0, .slice none 0 0, .slice none 0 0, .slice none 0 0, .slice none 0 0, .slice none 0 0, .slice none 0 0, .slice none 0 0, .slice none 0 0, .bool false, .pointer none, .pointer none, .int .i64 0] : Array Value).size = (Array.ofFn (n := 43) fun i => ndV s h i).size := by
  have : (Array.ofFn (n := 43) fun i => ndV s h i).size = 43 := Array.size_ofFn
  rw [this]
  rfl
/-- What fresh tells. -/
structure Fresh (lo : Nat) (w : World) (c : Cfg) (ha : Option Addr) (hc : Nat) (id : Int) (ck qb ub db gb sb : Nat) : Prop where
  five : Five lo w c.queue ck qb ub db gb
  set : (id == 0) = true → Pa.St w sb sb 0 0 [] (.slice none 0 0) ∧ lo ≤ sb
theorem Fresh.below {lo : Nat} {w w' : World} {c : Cfg} {ha : Option Addr} {hc : Nat} {id : Int} {ck qb ub db gb sb : Nat} (h : Fresh lo w c ha hc id ck qb ub db gb sb) (j : Below w.heap.size w w') : Fresh lo w' c ha hc id ck qb ub db gb sb :=
  ⟨h.five.below j, fun e => ⟨(h.set e).1.below j, (h.set e).2⟩⟩
def FreshPost (c : Cfg) (ha : Option Addr) (hc : Nat) (id : Int) (w : World) (r : Ending) (w' : World) : Prop := ∃ ck qb ub db gb sb, r = .returned (.agg (Array.ofFn (n := 43) fun i => ndV (fresh0 c id (id == 0)) (hm0 ha hc ck qb ub db gb sb) i)) ∧ Fresh w.heap.size w' c ha hc id ck qb ub db gb sb ∧ Below w.heap.size w w'
set_option maxHeartbeats 4000000 in
theorem fresh_any (c : Cfg) (ha : Option Addr) (hc : Nat) (id : Int) (w : World) (hq : 1 ≤ c.queue ∧ c.queue ≤ 32) :
    Calls Tryz.prog 47 #[.agg #[.int .i64 c.nodes, .slice none 0 0, .slice ha c.hops.length hc, .int .i64 c.guard, .int .i64 c.err, .int .i64 c.keep, .int .i64 c.loss, .int .i64 c.queue, .int .i64 c.life], .int .i64 id] w (FreshPost c ha hc id w) := by
  have o1 : Own ((w.alloc (.cells #[.int .i64 c.nodes, .slice none 0 0, .slice ha c.hops.length hc, .int .i64 c.guard, .int .i64 c.err, .int .i64 c.keep, .int .i64 c.loss, .int .i64 c.queue, .int .i64 c.life] 25)).alloc (.cells #[.int .i64 0, .int .i64 0, .slice none 0 0, .slice none 0 0, .int .i64 0, .int .i64 0, .int .i64 0, .int .i64 0, .int .i64 0, .int .i64 0, .pointer none, .pointer none, .int .i64 0, .pointer none, .pointer none, .pointer none, .int .i64 0, .int .i64 0, .bool false, .int .i64 0, .int .i64 0, .int .i64 0, .int .i64 0, .slice none 0 0, .slice none 0 0, .slice none 0 0, .slice none 0 0, .slice none 0 0, .slice none 0 0, .slice none 0 0, .slice none 0 0, .slice none 0 0, .slice none 0 0, .slice none 0 0, .slice none 0 0, .slice none 0 0, .slice none 0 0, .slice none 0 0, .slice none 0 0, .bool false, .pointer none, .pointer none, .int .i64 0] 92)) w.heap.size 25 #[.int .i64 c.nodes, .slice none 0 0, .slice ha c.hops.length hc, .int .i64 c.guard, .int .i64 c.err, .int .i64 c.keep, .int .i64 c.loss, .int .i64 c.queue, .int .i64 c.life] := (Own.new w _ _).alloc _
  have b0 := ((Below.refl w.heap.size w).alloc (Nat.le_refl _) (.cells #[.int .i64 c.nodes, .slice none 0 0, .slice ha c.hops.length hc, .int .i64 c.guard, .int .i64 c.err, .int .i64 c.keep, .int .i64 c.loss, .int .i64 c.queue, .int .i64 c.life] 25)).alloc (by simp) (.cells #[.int .i64 0, .int .i64 0, .slice none 0 0, .slice none 0 0, .int .i64 0, .int .i64 0, .int .i64 0, .int .i64 0, .int .i64 0, .int .i64 0, .pointer none, .pointer none, .int .i64 0, .pointer none, .pointer none, .pointer none, .int .i64 0, .int .i64 0, .bool false, .int .i64 0, .int .i64 0, .int .i64 0, .int .i64 0, .slice none 0 0, .slice none 0 0, .slice none 0 0, .slice none 0 0, .slice none 0 0, .slice none 0 0, .slice none 0 0, .slice none 0 0, .slice none 0 0, .slice none 0 0, .slice none 0 0, .slice none 0 0, .slice none 0 0, .slice none 0 0, .slice none 0 0, .slice none 0 0, .bool false, .pointer none, .pointer none, .int .i64 0] 92)
  have oR : Own ((w.alloc (.cells #[.int .i64 c.nodes, .slice none 0 0, .slice ha c.hops.length hc, .int .i64 c.guard, .int .i64 c.err, .int .i64 c.keep, .int .i64 c.loss, .int .i64 c.queue, .int .i64 c.life] 25)).alloc (.cells #[.int .i64 0, .int .i64 0, .slice none 0 0, .slice none 0 0, .int .i64 0, .int .i64 0, .int .i64 0, .int .i64 0, .int .i64 0, .int .i64 0, .pointer none, .pointer none, .int .i64 0, .pointer none, .pointer none, .pointer none, .int .i64 0, .int .i64 0, .bool false, .int .i64 0, .int .i64 0, .int .i64 0, .int .i64 0, .slice none 0 0, .slice none 0 0, .slice none 0 0, .slice none 0 0, .slice none 0 0, .slice none 0 0, .slice none 0 0, .slice none 0 0, .slice none 0 0, .slice none 0 0, .slice none 0 0, .slice none 0 0, .slice none 0 0, .slice none 0 0, .slice none 0 0, .slice none 0 0, .bool false, .pointer none, .pointer none, .int .i64 0] 92)) (w.heap.size + 1) 92 #[.int .i64 0, .int .i64 0, .slice none 0 0, .slice none 0 0, .int .i64 0, .int .i64 0, .int .i64 0, .int .i64 0, .int .i64 0, .int .i64 0, .pointer none, .pointer none, .int .i64 0, .pointer none, .pointer none, .pointer none, .int .i64 0, .int .i64 0, .bool false, .int .i64 0, .int .i64 0, .int .i64 0, .int .i64 0, .slice none 0 0, .slice none 0 0, .slice none 0 0, .slice none 0 0, .slice none 0 0, .slice none 0 0, .slice none 0 0, .slice none 0 0, .slice none 0 0, .slice none 0 0, .slice none 0 0, .slice none 0 0, .slice none 0 0, .slice none 0 0, .slice none 0 0, .slice none 0 0, .bool false, .pointer none, .pointer none, .int .i64 0] := by
    have := Own.new (w.alloc (.cells #[.int .i64 c.nodes, .slice none 0 0, .slice ha c.hops.length hc, .int .i64 c.guard, .int .i64 c.err, .int .i64 c.keep, .int .i64 c.loss, .int .i64 c.queue, .int .i64 c.life] 25)) 92 #[.int .i64 0, .int .i64 0, .slice none 0 0, .slice none 0 0, .int .i64 0, .int .i64 0, .int .i64 0, .int .i64 0, .int .i64 0, .int .i64 0, .pointer none, .pointer none, .int .i64 0, .pointer none, .pointer none, .pointer none, .int .i64 0, .int .i64 0, .bool false, .int .i64 0, .int .i64 0, .int .i64 0, .int .i64 0, .slice none 0 0, .slice none 0 0, .slice none 0 0, .slice none 0 0, .slice none 0 0, .slice none 0 0, .slice none 0 0, .slice none 0 0, .slice none 0 0, .slice none 0 0, .slice none 0 0, .slice none 0 0, .slice none 0 0, .slice none 0 0, .slice none 0 0, .slice none 0 0, .bool false, .pointer none, .pointer none, .int .i64 0]
    rwa [show (w.alloc (.cells #[.int .i64 c.nodes, .slice none 0 0, .slice ha c.hops.length hc, .int .i64 c.guard, .int .i64 c.err, .int .i64 c.keep, .int .i64 c.loss, .int .i64 c.queue, .int .i64 c.life] 25)).heap.size = w.heap.size + 1 by simp] at this
  go_enter Tryz.func47, Tryz.ntmps47
  go_upto_region 1 with (fail)
  have HB0 := Lib.hid b0
  have hs0 : w.heap.size ≤ ((w.alloc (.cells #[.int .i64 c.nodes, .slice none 0 0, .slice ha c.hops.length hc, .int .i64 c.guard, .int .i64 c.err, .int .i64 c.keep, .int .i64 c.loss, .int .i64 c.queue, .int .i64 c.life] 25)).alloc (.cells #[.int .i64 0, .int .i64 0, .slice none 0 0, .slice none 0 0, .int .i64 0, .int .i64 0, .int .i64 0, .int .i64 0, .int .i64 0, .int .i64 0, .pointer none, .pointer none, .int .i64 0, .pointer none, .pointer none, .pointer none, .int .i64 0, .int .i64 0, .bool false, .int .i64 0, .int .i64 0, .int .i64 0, .int .i64 0, .slice none 0 0, .slice none 0 0, .slice none 0 0, .slice none 0 0, .slice none 0 0, .slice none 0 0, .slice none 0 0, .slice none 0 0, .slice none 0 0, .slice none 0 0, .slice none 0 0, .slice none 0 0, .slice none 0 0, .slice none 0 0, .slice none 0 0, .slice none 0 0, .bool false, .pointer none, .pointer none, .int .i64 0] 92)).heap.size := b0.size
  obtain ⟨xb, hxb⟩ : ∃ q, w.heap.size = q := ⟨_, rfl⟩
  have HXB := Lib.hid hxb
  rw [hxb] at o1 oR hs0 ⊢
  clear b0 hxb
  generalize (w.alloc (.cells #[.int .i64 c.nodes, .slice none 0 0, .slice ha c.hops.length hc, .int .i64 c.guard, .int .i64 c.err, .int .i64 c.keep, .int .i64 c.loss, .int .i64 c.queue, .int .i64 c.life] 25)).alloc (.cells #[.int .i64 0, .int .i64 0, .slice none 0 0, .slice none 0 0, .int .i64 0, .int .i64 0, .int .i64 0, .int .i64 0, .int .i64 0, .int .i64 0, .pointer none, .pointer none, .int .i64 0, .pointer none, .pointer none, .pointer none, .int .i64 0, .int .i64 0, .bool false, .int .i64 0, .int .i64 0, .int .i64 0, .int .i64 0, .slice none 0 0, .slice none 0 0, .slice none 0 0, .slice none 0 0, .slice none 0 0, .slice none 0 0, .slice none 0 0, .slice none 0 0, .slice none 0 0, .slice none 0 0, .slice none 0 0, .slice none 0 0, .slice none 0 0, .slice none 0 0, .slice none 0 0, .slice none 0 0, .bool false, .pointer none, .pointer none, .int .i64 0] 92) = w0 at *
  have oz : ∀ z : Gh w0, Own z.toW xb 25 #[.int .i64 c.nodes, .slice none 0 0, .slice ha c.hops.length hc, .int .i64 c.guard, .int .i64 c.err, .int .i64 c.keep, .int .i64 c.loss, .int .i64 c.queue, .int .i64 c.life] := fun z => below_own z.ok o1 o1.lt
  have c0 : ∀ z : Gh w0, z.toW.cell? ⟨xb, 0, none⟩ = some (.int .i64 c.nodes) := fun z => (oz z).cell 0
  have c1 : ∀ z : Gh w0, z.toW.cell? ⟨xb, 1, none⟩ = some (.slice none 0 0) := fun z => (oz z).cell 1
  have c2 : ∀ z : Gh w0, z.toW.cell? ⟨xb, 2, none⟩ = some (.slice ha c.hops.length hc) := fun z => (oz z).cell 2
  have c3 : ∀ z : Gh w0, z.toW.cell? ⟨xb, 3, none⟩ = some (.int .i64 c.guard) := fun z => (oz z).cell 3
  have c4 : ∀ z : Gh w0, z.toW.cell? ⟨xb, 4, none⟩ = some (.int .i64 c.err) := fun z => (oz z).cell 4
  have c5 : ∀ z : Gh w0, z.toW.cell? ⟨xb, 5, none⟩ = some (.int .i64 c.keep) := fun z => (oz z).cell 5
  have c6 : ∀ z : Gh w0, z.toW.cell? ⟨xb, 6, none⟩ = some (.int .i64 c.loss) := fun z => (oz z).cell 6
  have c7 : ∀ z : Gh w0, z.toW.cell? ⟨xb, 7, none⟩ = some (.int .i64 c.queue) := fun z => (oz z).cell 7
  have c8 : ∀ z : Gh w0, z.toW.cell? ⟨xb, 8, none⟩ = some (.int .i64 c.life) := fun z => (oz z).cell 8
  clear oz
  have hmin : min (max c.queue 1) 32 = c.queue := by omega
  have PQ : Hid (∀ z : Gh w0, Calls Tryz.prog 119 #[.int .i64 c.queue] z.toW fun r w' => r = .returned (.pointer (some ⟨z.toW.heap.size, 0, none⟩)) ∧ Qu.Que w' z.toW.heap.size z.toW.heap.size c.queue 0 [] (.slice none 0 0) ∧ Below z.toW.heap.size z.toW w' ∧ z.toW.heap.size < w'.heap.size) := Lib.hid (fun z => by
    have := Qu.new_any c.queue z.toW
    rw [hmin] at this
    exact this)
  clear hmin
  apply wp_tail_start
  case hl => repeat (first | exact Snoc.one _ | apply Snoc.cons)
  refine wp_region_ghost w0 (Below.refl _ _) [.is (.int .i64 id), .is (.agg #[.int .i64 c.nodes, .slice none 0 0, .slice ha c.hops.length hc, .int .i64 c.guard, .int .i64 c.err, .int .i64 c.keep, .int .i64 c.loss, .int .i64 c.queue, .int .i64 c.life]), .of pCk, .is (.pointer (some ⟨xb, 7, none⟩)), .is (.int .i64 c.queue), .of (pQu c.queue), .of pW1, .of pW2, .of pW3, .of (pB c ha hc id), .of pA] (by kernel_rfl) (by kernel_rfl) (by kernel_rfl) rfl (p_stab _ _ _ _ _ _ _ _ _ _ (by kernel_rfl) (by kernel_rfl)) ?_
  iterate 2
    refine gh_is (by rfl) (fun z hz K Q hK => ?_) ?_
    · go_big_op
      exact hK _ _ rfl rfl
    simp only [Act.put, List.setIfInBounds_toArray, List.set_cons_zero, List.set_cons_succ]
  refine gh_of (by rfl) (fun z hz K Q hK => ?_) (fun x2 => ?_)
  · go_big_op
    refine (Ck.new_any _).mono ?_
    rintro r w' ⟨rfl, h1, b1, _⟩
    exact hK _ _ ⟨_, z.to w' b1, rfl, rfl, z.to_R _ w' b1, _, rfl, z.ok.size, h1⟩
  simp only [Act.put, List.setIfInBounds_toArray, List.set_cons_zero, List.set_cons_succ]
  iterate 2
    refine gh_is (by rfl) (fun z hz K Q hK => ?_) ?_
    · go_big_op
      exact hK _ _ rfl rfl
    simp only [Act.put, List.setIfInBounds_toArray, List.set_cons_zero, List.set_cons_succ]
  refine gh_of (by rfl) (fun z hz K Q hK => ?_) (fun x5 => ?_)
  · go_big_op
    refine (PQ.out z).mono ?_
    rintro r w' ⟨rfl, h1, b1, _⟩
    exact hK _ _ ⟨_, z.to w' b1, rfl, rfl, z.to_R _ w' b1, _, rfl, z.ok.size, h1⟩
  simp only [Act.put, List.setIfInBounds_toArray, List.set_cons_zero, List.set_cons_succ]
  refine gh_of (by rfl) (fun z hz K Q hK => ?_) (fun x6 => ?_)
  · go_big_op
    refine (Dp.new_any _).mono ?_
    rintro r w' ⟨rfl, h1, b1, _⟩
    exact hK _ _ ⟨_, z.name w' b1 6 z.toW.heap.size, rfl, rfl, z.name_R w' b1 6 _, _, rfl, z.ok.size, h1, z.name_at w' b1 6 _⟩
  simp only [Act.put, List.setIfInBounds_toArray, List.set_cons_zero, List.set_cons_succ]
  refine gh_of (by rfl) (fun z hz K Q hK => ?_) (fun x7 => ?_)
  · obtain ⟨d1, rfl, e1, e2, e3⟩ := gfact hz 6 pW1 x6 (by kernel_rfl) (by kernel_rfl)
    have hl := e2.lt
    go_big_op
    refine (Dp.new_any _).mono ?_
    rintro r w' ⟨rfl, h1, b1, _⟩
    exact hK _ _ ⟨_, z.name w' b1 7 z.toW.heap.size, rfl, rfl, z.name_R w' b1 7 _, _, d1, rfl, z.ok.size, h1, (z.name_ne w' b1 _ (by decide)).trans e3, z.name_at w' b1 7 _, hl⟩
  simp only [Act.put, List.setIfInBounds_toArray, List.set_cons_zero, List.set_cons_succ]
  refine gh_of (by rfl) (fun z hz K Q hK => ?_) (fun x8 => ?_)
  · obtain ⟨d2, d1, rfl, e1, e2, e3, e4, e5⟩ := gfact hz 7 pW2 x7 (by kernel_rfl) (by kernel_rfl)
    have hl := e2.lt
    go_big_op
    refine (Dp.new_any _).mono ?_
    rintro r w' ⟨rfl, h1, b1, _⟩
    exact hK _ _ ⟨_, z.to w' b1, rfl, rfl, z.to_R _ w' b1, _, d2, rfl, z.ok.size, h1, e4, hl⟩
  simp only [Act.put, List.setIfInBounds_toArray, List.set_cons_zero, List.set_cons_succ]
  refine gh_of (by rfl) (fun z hz K Q hK => ?_) (fun x9 => ?_)
  · obtain ⟨ck, rfl, f1, f2⟩ := gfact hz 2 pCk x2 (by kernel_rfl) (by kernel_rfl)
    obtain ⟨qb, rfl, g1, g2⟩ := gfact hz 5 (pQu c.queue) x5 (by kernel_rfl) (by kernel_rfl)
    obtain ⟨d1, rfl, e1, e2, e3⟩ := gfact hz 6 pW1 x6 (by kernel_rfl) (by kernel_rfl)
    obtain ⟨d2, a1, rfl, h1, h2, h3, h4, h5⟩ := gfact hz 7 pW2 x7 (by kernel_rfl) (by kernel_rfl)
    obtain ⟨d3, a2, rfl, k1, k2, k3, k4⟩ := gfact hz 8 pW3 x8 (by kernel_rfl) (by kernel_rfl)
    have q1 : d1 = a1 := by rw [e3] at h3; injection h3
    have q2 : d2 = a2 := by rw [h4] at k3; injection k3
    subst q1 q2
    have HF : Hid (Five w0.heap.size z.toW c.queue ck qb d1 d2 d3) := Lib.hid ⟨f2, g2, e2, h2, k2, ⟨by omega, by omega, by omega⟩, f1, g1, e1, h1, k1⟩
    clear f1 f2 g1 g2 e1 e2 e3 h1 h2 h3 h4 h5 k1 k2 k3 k4
    unfold ptr
    go_big_op
    exact hK _ _ ⟨_, z, rfl, rfl, Gh.R.refl _ z, ck, qb, d1, d2, d3, rfl, HF.out⟩
  simp only [Act.put, List.setIfInBounds_toArray, List.set_cons_zero, List.set_cons_succ]
  refine gh_of (by rfl) (fun z hz K Q hK => ?_) (fun x10 => ?_)
  · have bz := (Below.refl z.toW.heap.size z.toW).alloc (Nat.le_refl _) (.cells #[.int .i64 0, .int .i64 0, .slice none 0 0, .slice none 0 0, .int .i64 0, .int .i64 0, .int .i64 0, .int .i64 0, .int .i64 0, .int .i64 0, .pointer none, .pointer none, .int .i64 0, .pointer none, .pointer none, .pointer none, .int .i64 0, .int .i64 0, .bool false, .int .i64 0, .int .i64 0, .int .i64 0, .int .i64 0, .slice none 0 0, .slice none 0 0, .slice none 0 0, .slice none 0 0, .slice none 0 0, .slice none 0 0, .slice none 0 0, .slice none 0 0, .slice none 0 0, .slice none 0 0, .slice none 0 0, .slice none 0 0, .slice none 0 0, .slice none 0 0, .slice none 0 0, .slice none 0 0, .bool false, .pointer none, .pointer none, .int .i64 0] 92)
    have oz := Own.new z.toW 92 #[.int .i64 0, .int .i64 0, .slice none 0 0, .slice none 0 0, .int .i64 0, .int .i64 0, .int .i64 0, .int .i64 0, .int .i64 0, .int .i64 0, .pointer none, .pointer none, .int .i64 0, .pointer none, .pointer none, .pointer none, .int .i64 0, .int .i64 0, .bool false, .int .i64 0, .int .i64 0, .int .i64 0, .int .i64 0, .slice none 0 0, .slice none 0 0, .slice none 0 0, .slice none 0 0, .slice none 0 0, .slice none 0 0, .slice none 0 0, .slice none 0 0, .slice none 0 0, .slice none 0 0, .slice none 0 0, .slice none 0 0, .slice none 0 0, .slice none 0 0, .slice none 0 0, .slice none 0 0, .bool false, .pointer none, .pointer none, .int .i64 0]
    go_big_op
    exact hK _ _ ⟨_, z.to _ bz, rfl, rfl, z.to_R _ _ bz, _, rfl, z.ok.size, oz⟩
  simp only [Act.put, List.setIfInBounds_toArray, List.set_cons_zero, List.set_cons_succ]
  intro z hz
  obtain ⟨ck, qb, ub, db, gb, rfl, hF⟩ : pB c ha hc id x9 z := hz 9 (.of (pB c ha hc id)) x9 (by kernel_rfl)
  obtain ⟨nb, rfl, hn, oN⟩ : pA x10 z := hz 10 (.of pA) x10 (by kernel_rfl)
  rw [if_pos (by rfl)]
  have hth : z.toW.there nb 0 43 := fun j hj => ⟨by
    rw [Nat.zero_add, oN.cell, Array.getElem?_eq_getElem (by simpa using hj)]
    rfl, oN.free _⟩
  have jN := just_cells nb (l43 c ha hc id ck qb ub db gb) 0 z.toW
  have oB : Blk z.toW nb 92 43 (fun i => (#[.int .i64 0, .int .i64 0, .slice none 0 0, .slice none 0 0, .int .i64 0, .int .i64 0, .int .i64 0, .int .i64 0, .int .i64 0, .int .i64 0, .pointer none, .pointer none, .int .i64 0, .pointer none, .pointer none, .pointer none, .int .i64 0, .int .i64 0, .bool false, .int .i64 0, .int .i64 0, .int .i64 0, .int .i64 0, .slice none 0 0, .slice none 0 0, .slice none 0 0, .slice none 0 0, .slice none 0 0, .slice none 0 0, .slice none 0 0, .slice none 0 0, .slice none 0 0, .slice none 0 0, .slice none 0 0, .slice none 0 0, .slice none 0 0, .slice none 0 0, .slice none 0 0, .slice none 0 0, .bool false, .pointer none, .pointer none, .int .i64 0] : Array Value).getD i undef) := Blk.of oN rfl (fun i hi => by
    rw [Array.getElem?_eq_getElem (by simpa using hi), Array.getD_eq_getD_getElem?, Array.getElem?_eq_getElem (by simpa using hi)]
    rfl)
  have oC : Blk (z.toW.setCells nb 0 (l43 c ha hc id ck qb ub db gb)) nb 92 43 (ndV (fresh0 c id false) (hm0 ha hc ck qb ub db gb 0)) := (blk_cells _ 0 z.toW _ oB).ext (fun i hi => by
    rw [if_pos ⟨Nat.zero_le _, by show i < 0 + 43; omega⟩, Nat.sub_zero, l43_nd c ha hc id ck qb ub db gb 0 i hi])
  have F2 := hF.just jN oB
  have bel2 := jN.below z.ok hn z.ok.size
  have hx1 : xb + 1 ≠ nb := by have := oR.lt; omega
  have oR2 := jN.own (below_own z.ok oR oR.lt) hx1
  have hlr := oR.lt
  refine wp_store_mid 92 (.tmp 5) (.tmp 15) rfl nb 0 (l43 c ha hc id ck qb ub db gb).toArray rfl rfl hth (by kernel_rfl) (l43_one c ha hc id ck qb ub db gb) ?_
  rw [List.toList_toArray]
  clear hth oB jN hF oN PQ hz
  generalize z.toW.setCells nb 0 (l43 c ha hc id ck qb ub db gb) = w1 at *
  clear c0 c1 c2 c3 c4 c5 c6 c7 c8 o1 oR
  clear z
  simp only [Act.put, ptr]
  have hw : w.heap.size ≤ w0.heap.size := by rw [HXB.out]; exact hs0
  by_cases h0 : id = 0
  rotate_left 1
  · have g0 : (id == 0) = false := by simpa using h0
    have G0 := Lib.hid g0
    clear h0
    go_upto_region 4 with (fail)
    refine wp_row_out rfl rfl rfl rfl rfl oC Tryz.underlying92 rfl (nd_size _ _) rfl rfl oR2 (nd_size _ _) (nd_size2 _ _) (nd_all (fun k _ => rfl)) ?_
    go_wp2_with fail
    have jR := Just.setRow (xb + 1) w1 (Array.ofFn (n := 43) fun i => ndV (fresh0 c id false) (hm0 ha hc ck qb ub db gb 0) i)
    have bb : Below w.heap.size w (w1.setRow (xb + 1) (Array.ofFn (n := 43) fun i => ndV (fresh0 c id false) (hm0 ha hc ck qb ub db gb 0) i)) := jR.below (HB0.out.trans (bel2.mono hw)) (by have := HXB.out; omega) (by have := bel2.size; omega)
    have F3 := F2.just jR (z43_blk oR2)
    refine bodyPost_ret (results_cell_row rfl _ _ (xb + 1) 92 _ (0, 0) _ rfl (oR2.setRow _) Tryz.underlying92 rfl (nd_size _ _)) rfl ?_
    refine ⟨ck, qb, ub, db, gb, 0, by rw [G0.out], ⟨⟨F3.clk, F3.que, F3.up, F3.dn, F3.gt, F3.ap, by have := F3.lo; omega⟩, fun e => by rw [G0.out] at e; cases e⟩, bb⟩
  · subst h0
    have g0 : ((0 : Int) == 0) = true := by decide
    go_wp2_with fail
    refine (Pa.new_yes 0 0 w1 (by decide) (by decide)).mono ?_
    rintro r w2 ⟨rfl, hS, b2⟩
    have F3 := F2.below b2
    have oC3 := below_blk b2 oC oC.lt
    have oR3 := below_own b2 oR2 oR2.lt
    have hsn := hS.own.lt
    have e39 : w2.cell? ⟨nb, 39, none⟩ = some (.bool false) := oC3.cell (by decide)
    have e40 : w2.cell? ⟨nb, 40, none⟩ = some (.pointer none) := oC3.cell (by decide)
    have f39 : w2.frozen? ⟨nb, 39, none⟩ = false := oC3.free 39
    have f40 : w2.frozen? ⟨nb, 40, none⟩ = false := oC3.free 40
    obtain ⟨sb, hsb⟩ : ∃ q, w1.heap.size = q := ⟨_, rfl⟩
    have hlb : w0.heap.size ≤ sb := by rw [← hsb]; exact bel2.size
    have bel3 := bel2.trans (b2.mono bel2.size)
    rw [hsb] at hS ⊢
    have oC4 : Blk ((w2.setCell ⟨nb, 39, none⟩ (.bool true)).setCell ⟨nb, 40, none⟩ (ptr sb)) nb 92 43 (ndV (fresh0 c 0 true) (hm0 ha hc ck qb ub db gb sb)) := by
      refine ((oC3.put 39 _).put 40 _).ext (fun i hi => ?_)
      unfold ndV
      by_cases h1 : i < 23
      · rw [if_neg (by omega), if_neg (by omega), if_pos h1, if_pos h1]
        rfl
      · by_cases h2 : i < 39
        · rw [if_neg (by omega), if_neg (by omega), if_neg h1, if_pos h2, if_neg h1, if_pos h2]
          rfl
        · rcases (show i = 39 ∨ i = 40 ∨ i = 41 ∨ i = 42 by omega) with rfl | rfl | rfl | rfl <;> rfl
    have jP := (Just.set nb w2 39 (.bool true)).put 40 (ptr sb)
    have F4 := F3.just jP oC3
    have oR4 := jP.own oR3 hx1
    have S4 : Pa.St ((w2.setCell ⟨nb, 39, none⟩ (.bool true)).setCell ⟨nb, 40, none⟩ (ptr sb)) sb sb 0 0 [] (.slice none 0 0) := (Tn.of_just jP oC3).st hS (by decide) (by decide)
    have bel4 := jP.below bel3 hn bel3.size
    clear F2 F3 oC oC3 oR2 oR3 hS b2 bel2 bel3 hsn jP hsb
    go_upto_region 4 with (fail)
    simp only [ptr] at oC4 F4 oR4 S4 bel4
    generalize (w2.setCell ⟨nb, 39, none⟩ (.bool true)).setCell ⟨nb, 40, none⟩ (.pointer (some ⟨sb, 0, none⟩)) = w4 at *
    refine wp_row_out rfl rfl rfl rfl rfl oC4 Tryz.underlying92 rfl (nd_size _ _) rfl rfl oR4 (nd_size _ _) (nd_size2 _ _) (nd_all (fun k _ => rfl)) ?_
    go_wp2_with fail
    have jR := Just.setRow (xb + 1) w4 (Array.ofFn (n := 43) fun i => ndV (fresh0 c 0 true) (hm0 ha hc ck qb ub db gb sb) i)
    have bb : Below w.heap.size w (w4.setRow (xb + 1) (Array.ofFn (n := 43) fun i => ndV (fresh0 c 0 true) (hm0 ha hc ck qb ub db gb sb) i)) := jR.below (HB0.out.trans (bel4.mono hw)) (by have := HXB.out; omega) (by have := bel4.size; omega)
    have F5 := F4.just jR (z43_blk oR4)
    have S5 := (Tn.of_just jR (z43_blk oR4)).st S4 (by decide) (by decide)
    refine bodyPost_ret (results_cell_row rfl _ _ (xb + 1) 92 _ (0, 0) _ rfl (oR4.setRow _) Tryz.underlying92 rfl (nd_size _ _)) rfl ?_
    exact ⟨ck, qb, ub, db, gb, sb, rfl, ⟨⟨F5.clk, F5.que, F5.up, F5.dn, F5.gt, F5.ap, by have := F5.lo; omega⟩, fun _ => ⟨S5, by omega⟩⟩, bb⟩
end Go.Proofs.YtiflmdekcjbmbaaGreat.Nd
