/-
  A node (chapter 24): a fresh one. A node (chapter 24): New.
-/
import Derived.Test.YtiflmdekcjbmbaaGNodeSends08
import Derived.Test.YtiflmdekcjbmbaaGNodeSends04
import Derived.Test.YtiflmdekcjbmbaaGNodeSends03
set_option maxRecDepth 100000
namespace Go.Proofs.Ytiflmdekcjbmbaa.Nd
set_option linter.unusedVariables false
set_option linter.unusedSimpArgs false
open Go.RowKit Lb

def l43 (c : Cfg) (ha : Option Addr) (hc : Nat) (id : Int) (ck qb ub db gb : Nat) : List Value := [.int .i64 id, .int .i64 c.nodes, .slice none 0 0, .slice ha c.hops.length hc, .int .i64 c.guard, .int .i64 c.err, .int .i64 c.keep, .int .i64 c.loss, .int .i64 c.queue, .int .i64 c.life, ptr ck, ptr qb, .int .i64 0, ptr ub, ptr db, ptr gb, .int .i64 0, .int .i64 (-1), .bool false, .int .i64 0, .int .i64 0, .int .i64 0, .int .i64 0, .slice none 0 0, .slice none 0 0, .slice none 0 0, .slice none 0 0, .slice none 0 0, .slice none 0 0, .slice none 0 0, .slice none 0 0, .slice none 0 0, .slice none 0 0, .slice none 0 0, .slice none 0 0, .slice none 0 0, .slice none 0 0, .slice none 0 0, .slice none 0 0, .bool false, .pointer none, .pointer none, .int .i64 0]
/-- A state in which nothing happened yet. -/
def fresh0 (c : Cfg) (id : Int) (t : Bool) : Ns := ⟨id, c, 0, 0, 0, [], 0, 0, fun _ => 0, fun _ => 0, fun _ => 0, fun _ => 0, fun _ => 0, fun _ => 0, 0, -1, false, 0, 0, 0, 0, fun _ => [], t, 0, [], 0, 0⟩
def hm0 (ha : Option Addr) (hc ck qb ub db gb sb : Nat) : Hm := ⟨ha, hc, ck, qb, .slice none 0 0, ub, db, gb, sb, .slice none 0 0, 0, fun _ => .slice none 0 0⟩
theorem l43_nd (c : Cfg) (ha : Option Addr) (hc : Nat) (id : Int) (ck qb ub db gb sb : Nat) (i : Nat) (hi : i < 43) : (l43 c ha hc id ck qb ub db gb).getD i undef = ndV (fresh0 c id false) (hm0 ha hc ck qb ub db gb sb) i := by
  unfold ndV
  by_cases h1 : i < 23
  · rw [if_pos h1]
    rcases idx23 i h1 with rfl | rfl | rfl | rfl | rfl | rfl | rfl | rfl | rfl | rfl | rfl | rfl | rfl | rfl | rfl | rfl | rfl | rfl | rfl | rfl | rfl | rfl | rfl <;> rfl
  · by_cases h2 : i < 39
    · rw [if_neg h1, if_pos h2]
      obtain ⟨j, rfl⟩ : ∃ j, i = 23 + j := ⟨i - 23, by omega⟩
      rcases (show j = 0 ∨ j = 1 ∨ j = 2 ∨ j = 3 ∨ j = 4 ∨ j = 5 ∨ j = 6 ∨ j = 7 ∨ j = 8 ∨ j = 9 ∨ j = 10 ∨ j = 11 ∨ j = 12 ∨ j = 13 ∨ j = 14 ∨ j = 15 by omega) with rfl | rfl | rfl | rfl | rfl | rfl | rfl | rfl | rfl | rfl | rfl | rfl | rfl | rfl | rfl | rfl <;> rfl
    · rw [if_neg h1, if_neg h2]
      obtain ⟨j, rfl⟩ : ∃ j, i = 39 + j := ⟨i - 39, by omega⟩
      rw [Nat.add_sub_cancel_left]
      rcases idx4 j (by omega) with rfl | rfl | rfl | rfl <;> rfl
theorem nd_one {s : Ns} {h : Hm} (hp : ∀ k, k < 16 → (h.pv k).oneCell' = true) (i : Nat) (hi : i < 43) : (ndV s h i).oneCell' = true := by
  unfold ndV
  by_cases h1 : i < 23
  · rw [if_pos h1]
    rcases idx23 i h1 with rfl | rfl | rfl | rfl | rfl | rfl | rfl | rfl | rfl | rfl | rfl | rfl | rfl | rfl | rfl | rfl | rfl | rfl | rfl | rfl | rfl | rfl | rfl <;> rfl
  · by_cases h2 : i < 39
    · rw [if_neg h1, if_pos h2]
      exact hp _ (by omega)
    · rw [if_neg h1, if_neg h2]
      obtain ⟨j, rfl⟩ : ∃ j, i = 39 + j := ⟨i - 39, by omega⟩
      rw [Nat.add_sub_cancel_left]
      rcases idx4 j (by omega) with rfl | rfl | rfl | rfl
      · rfl
      · show (if s.inT then ptr h.sb else .pointer none).oneCell' = true
        split <;> rfl
      · show (if s.hasK then ptr h.kb else .pointer none).oneCell' = true
        split <;> rfl
      · rfl
theorem nd_all {s : Ns} {h : Hm} (hp : ∀ k, k < 16 → (h.pv k).oneCell' = true) : (Array.ofFn (n := 43) fun i => ndV s h i).all (·.oneCell') = true := by
  rw [Array.all_eq_true]
  intro i hi
  rw [Array.getElem_ofFn]
  exact nd_one hp i (by simpa using hi)
theorem l43_one (c : Cfg) (ha : Option Addr) (hc : Nat) (id : Int) (ck qb ub db gb : Nat) : (l43 c ha hc id ck qb ub db gb).toArray.all (·.oneCell') = true := by
  refine all_oneCell_toArray (fun v hv => ?_)
  obtain ⟨i, hi, rfl⟩ := List.getElem_of_mem hv
  have hi43 : i < 43 := hi
  have e : (l43 c ha hc id ck qb ub db gb)[i]'hi = ndV (fresh0 c id false) (hm0 ha hc ck qb ub db gb 0) i := by
    rw [← l43_nd c ha hc id ck qb ub db gb 0 i hi43, List.getD_eq_getElem?_getD, List.getElem?_eq_getElem hi]
    rfl
  exact (congrArg Value.oneCell' e).trans (nd_one (fun k _ => rfl) i hi43)
section
variable {v : World}
def pCk (x : Value) (s : Gh v) : Prop := ∃ b, x = ptr b ∧ v.heap.size ≤ b ∧ Ck.Clk s.toW b 0 0 0
def pQu (q : Int) (x : Value) (s : Gh v) : Prop := ∃ b, x = ptr b ∧ v.heap.size ≤ b ∧ Qu.Que s.toW b b q 0 [] (.slice none 0 0)
def pW1 (x : Value) (s : Gh v) : Prop := ∃ b, x = ptr b ∧ v.heap.size ≤ b ∧ Dp.Win s.toW b (fun _ => 0) (fun _ => 0) ∧ s.g 6 = some b
def pW2 (x : Value) (s : Gh v) : Prop := ∃ b a, x = ptr b ∧ v.heap.size ≤ b ∧ Dp.Win s.toW b (fun _ => 0) (fun _ => 0) ∧ s.g 6 = some a ∧ s.g 7 = some b ∧ a < b
def pW3 (x : Value) (s : Gh v) : Prop := ∃ b a, x = ptr b ∧ v.heap.size ≤ b ∧ Dp.Win s.toW b (fun _ => 0) (fun _ => 0) ∧ s.g 7 = some a ∧ a < b
structure Five (lo : Nat) (w : World) (q : Int) (ck qb ub db gb : Nat) : Prop where
  clk : Ck.Clk w ck 0 0 0
  que : Qu.Que w qb qb q 0 [] (.slice none 0 0)
  up : Dp.Win w ub (fun _ => 0) (fun _ => 0)
  dn : Dp.Win w db (fun _ => 0) (fun _ => 0)
  gt : Dp.Win w gb (fun _ => 0) (fun _ => 0)
  ap : ub ≠ db ∧ ub ≠ gb ∧ db ≠ gb
  lo : lo ≤ ck ∧ lo ≤ qb ∧ lo ≤ ub ∧ lo ≤ db ∧ lo ≤ gb
theorem Five.below {lo : Nat} {w w' : World} {q : Int} {ck qb ub db gb : Nat} (h : Five lo w q ck qb ub db gb) (j : Below w.heap.size w w') : Five lo w' q ck qb ub db gb :=
  ⟨below_own j h.clk h.clk.lt, h.que.below j, below_blk j h.up h.up.lt, below_blk j h.dn h.dn.lt, below_blk j h.gt h.gt.lt, h.ap, h.lo⟩
theorem Five.just {lo b n : Nat} {V : Nat → Value} {w w' : World} {q : Int} {ck qb ub db gb : Nat} (h : Five lo w q ck qb ub db gb) (j : Just b w w') (o : Blk w b 65 n V) : Five lo w' q ck qb ub db gb := by
  have t := Tn.of_just j o
  exact ⟨t.own h.clk (by decide), t.que h.que (by decide) (by decide) (by decide), t.own h.up (by decide), t.own h.dn (by decide), t.own h.gt (by decide), h.ap, h.lo⟩
def pB (c : Cfg) (ha : Option Addr) (hc : Nat) (id : Int) (x : Value) (s : Gh v) : Prop := ∃ ck qb ub db gb, x = .agg (l43 c ha hc id ck qb ub db gb).toArray ∧ Five v.heap.size s.toW c.queue ck qb ub db gb
def pA (x : Value) (s : Gh v) : Prop := ∃ b, x = ptr b ∧ v.heap.size ≤ b ∧ Own s.toW b 65 #[.int .i64 0, .int .i64 0, .slice none 0 0, .slice none 0 0, .int .i64 0, .int .i64 0, .int .i64 0, .int .i64 0, .int .i64 0, .int .i64 0, .pointer none, .pointer none, .int .i64 0, .pointer none, .pointer none, .pointer none, .int .i64 0, .int .i64 0, .bool false, .int .i64 0, .int .i64 0, .int .i64 0, .int .i64 0, .slice none 0 0, .slice none 0 0, .slice none 0 0, .slice none 0 0, .slice none 0 0, .slice none 0 0, .slice none 0 0, .slice none 0 0, .slice none 0 0, .slice none 0 0, .slice none 0 0, .slice none 0 0, .slice none 0 0, .slice none 0 0, .slice none 0 0, .slice none 0 0, .bool false, .pointer none, .pointer none, .int .i64 0]
theorem p_stab (c : Cfg) (ha : Option Addr) (hc : Nat) (id q : Int) (u1 u2 u3 u4 : Value) (l : List Oper) (h67 : freeB l gK 6 7 = false) (h78 : freeB l gK 7 8 = false) :
    ∀ (i j : Nat) (T : Ty (Gh v)), ([.is u1, .is u2, .of pCk, .is u3, .is u4, .of (pQu q), .of pW1, .of pW2, .of pW3, .of (pB c ha hc id), .of pA] : List (Ty (Gh v)))[j]? = some T → freeB l gK i j = true → ∀ x (s s' : Gh v), Gh.R i s s' → T.holds x s → T.holds x s' := by
  intro i j T hT hf x s s' r hx
  have hij : i ≠ j := by
    intro e
    subst e
    unfold freeB at hf
    simp at hf
  have hj : j < 11 := by simpa using (List.getElem?_eq_some_iff.1 hT).1
  rcases (show j = 0 ∨ j = 1 ∨ j = 2 ∨ j = 3 ∨ j = 4 ∨ j = 5 ∨ j = 6 ∨ j = 7 ∨ j = 8 ∨ j = 9 ∨ j = 10 by omega) with rfl | rfl | rfl | rfl | rfl | rfl | rfl | rfl | rfl | rfl | rfl <;> (simp only [List.getElem?_cons_succ, List.getElem?_cons_zero, Option.some.injEq] at hT; subst hT)
  · exact hx
  · exact hx
  · obtain ⟨b, e, h1, h2⟩ := hx
    exact ⟨b, e, h1, below_own r.bel h2 h2.lt⟩
  · exact hx
  · exact hx
  · obtain ⟨b, e, h1, h2⟩ := hx
    exact ⟨b, e, h1, h2.below r.bel⟩
  · obtain ⟨b, e, h1, h2, h3⟩ := hx
    exact ⟨b, e, h1, below_blk r.bel h2 h2.lt, (r.g 6 (fun q => hij q.symm)).trans h3⟩
  · obtain ⟨b, a, e, h1, h2, h3, h4, h5⟩ := hx
    have h6 : i ≠ 6 := fun q => by subst q; rw [h67] at hf; cases hf
    exact ⟨b, a, e, h1, below_blk r.bel h2 h2.lt, (r.g 6 (fun q => h6 q.symm)).trans h3, (r.g 7 (fun q => hij q.symm)).trans h4, h5⟩
  · obtain ⟨b, a, e, h1, h2, h3, h4⟩ := hx
    have h6 : i ≠ 7 := fun q => by subst q; rw [h78] at hf; cases hf
    exact ⟨b, a, e, h1, below_blk r.bel h2 h2.lt, (r.g 7 (fun q => h6 q.symm)).trans h3, h4⟩
  · obtain ⟨ck, qb, ub, db, gb, e, h⟩ := hx
    exact ⟨ck, qb, ub, db, gb, e, h.below r.bel⟩
  · obtain ⟨b, e, h1, h2⟩ := hx
    exact ⟨b, e, h1, below_own r.bel h2 h2.lt⟩
end
theorem z43_blk {w : World} {b : Nat} (o : Own w b 65 #[.int .i64 0, .int .i64 0, .slice none 0 0, .slice none 0 0, .int .i64 0, .int .i64 0, .int .i64 0, .int .i64 0, .int .i64 0, .int .i64 0, .pointer none, .pointer none, .int .i64 0, .pointer none, .pointer none, .pointer none, .int .i64 0, .int .i64 0, .bool false, .int .i64 0, .int .i64 0, .int .i64 0, .int .i64 0, .slice none 0 0, .slice none 0 0, .slice none 0 0, .slice none 0 0, .slice none 0 0, .slice none 0 0, .slice none 0 0, .slice none 0 0, .slice none 0 0, .slice none 0 0, .slice none 0 0, .slice none 0 0, .slice none 0 0, .slice none 0 0, .slice none 0 0, .slice none 0 0, .bool false, .pointer none, .pointer none, .int .i64 0]) : Blk w b 65 43 (fun i => (#[.int .i64 0, .int .i64 0, .slice none 0 0, .slice none 0 0, .int .i64 0, .int .i64 0, .int .i64 0, .int .i64 0, .int .i64 0, .int .i64 0, .pointer none, .pointer none, .int .i64 0, .pointer none, .pointer none, .pointer none, .int .i64 0, .int .i64 0, .bool false, .int .i64 0, .int .i64 0, .int .i64 0, .int .i64 0, .slice none 0 0, .slice none 0 0, .slice none 0 0, .slice none 0 0, .slice none 0 0, .slice none 0 0, .slice none 0 0, .slice none 0 0, .slice none 0 0, .slice none 0 0, .slice none 0 0, .slice none 0 0, .slice none 0 0, .slice none 0 0, .slice none 0 0, .slice none 0 0, .bool false, .pointer none, .pointer none, .int .i64 0] : Array Value).getD i undef) := Blk.of o rfl (fun i hi => by
  rw [Array.getElem?_eq_getElem (by simpa using hi), Array.getD_eq_getD_getElem?, Array.getElem?_eq_getElem (by simpa using hi)]
  rfl)
theorem nd_size (s : Ns) (h : Hm) : (Try.prog.info? 65).map (·.size) = some (Array.ofFn (n := 43) fun i => ndV s h i).size := by
  have : (Array.ofFn (n := 43) fun i => ndV s h i).size = 43 := Array.size_ofFn
  have e : (Try.prog.info? 65).map (·.size) = some 43 := by kernel_rfl
  rw [this]
  exact e
theorem nd_size2 (s : Ns) (h : Hm) : (#[.int .i64 0, .int .i64 0, .slice none 0 0, .slice none 0 0, .int .i64 0, .int .i64 0, .int .i64 0, .int .i64 0, .int .i64 0, .int .i64 0, .pointer none, .pointer none, .int .i64 0, .pointer none, .pointer none, .pointer none, .int .i64 0, .int .i64 0, .bool false, .int .i64 0, .int .i64 0, .int .i64 0, .int .i64 0, .slice none 0 0, .slice none 0 0, .slice none 0 0, .slice none 0 0, .slice none 0 0, .slice none 0 0, .slice none 0 0, .slice none 0 0, .slice none 0 0, .slice none 0 0, .slice none 0 0, .slice none 0 0, .slice none 0 0, .slice none 0 0, .slice none 0 0, .slice none 0 0, .bool false, .pointer none, .pointer none, .int .i64 0] : Array Value).size = (Array.ofFn (n := 43) fun i => ndV s h i).size := by
  have : (Array.ofFn (n := 43) fun i => ndV s h i).size = 43 := Array.size_ofFn
  rw [this]
  rfl
/-- What fresh tells. -/
structure Fresh (lo : Nat) (w : World) (c : Cfg) (ha : Option Addr) (hc : Nat) (id : Int) (ck qb ub db gb sb : Nat) : Prop where
  five : Five lo w c.queue ck qb ub db gb
  set : (id == 0) = true → Pa.St w sb sb 0 0 [] (.slice none 0 0) ∧ lo ≤ sb
theorem Fresh.below {lo : Nat} {w w' : World} {c : Cfg} {ha : Option Addr} {hc : Nat} {id : Int} {ck qb ub db gb sb : Nat} (h : Fresh lo w c ha hc id ck qb ub db gb sb) (j : Below w.heap.size w w') : Fresh lo w' c ha hc id ck qb ub db gb sb :=
  ⟨h.five.below j, fun e => ⟨(h.set e).1.below j, (h.set e).2⟩⟩
def FreshPost (c : Cfg) (ha : Option Addr) (hc : Nat) (id : Int) (w : World) (r : Ending) (w' : World) : Prop := ∃ ck qb ub db gb sb, r = .returned (.agg (Array.ofFn (n := 43) fun i => ndV (fresh0 c id (id == 0)) (hm0 ha hc ck qb ub db gb sb) i)) ∧ Fresh w.heap.size w' c ha hc id ck qb ub db gb sb ∧ Below w.heap.size w w'
set_option maxHeartbeats 4000000 in
theorem fresh_any (c : Cfg) (ha : Option Addr) (hc : Nat) (id : Int) (w : World) (hq : 1 ≤ c.queue ∧ c.queue ≤ 32) :
    Calls Try.prog 16 #[.agg #[.int .i64 c.nodes, .slice none 0 0, .slice ha c.hops.length hc, .int .i64 c.guard, .int .i64 c.err, .int .i64 c.keep, .int .i64 c.loss, .int .i64 c.queue, .int .i64 c.life], .int .i64 id] w (FreshPost c ha hc id w) := by
  have o1 : Own ((w.alloc (.cells #[.int .i64 c.nodes, .slice none 0 0, .slice ha c.hops.length hc, .int .i64 c.guard, .int .i64 c.err, .int .i64 c.keep, .int .i64 c.loss, .int .i64 c.queue, .int .i64 c.life] 28)).alloc (.cells #[.int .i64 0, .int .i64 0, .slice none 0 0, .slice none 0 0, .int .i64 0, .int .i64 0, .int .i64 0, .int .i64 0, .int .i64 0, .int .i64 0, .pointer none, .pointer none, .int .i64 0, .pointer none, .pointer none, .pointer none, .int .i64 0, .int .i64 0, .bool false, .int .i64 0, .int .i64 0, .int .i64 0, .int .i64 0, .slice none 0 0, .slice none 0 0, .slice none 0 0, .slice none 0 0, .slice none 0 0, .slice none 0 0, .slice none 0 0, .slice none 0 0, .slice none 0 0, .slice none 0 0, .slice none 0 0, .slice none 0 0, .slice none 0 0, .slice none 0 0, .slice none 0 0, .slice none 0 0, .bool false, .pointer none, .pointer none, .int .i64 0] 65)) w.heap.size 28 #[.int .i64 c.nodes, .slice none 0 0, .slice ha c.hops.length hc, .int .i64 c.guard, .int .i64 c.err, .int .i64 c.keep, .int .i64 c.loss, .int .i64 c.queue, .int .i64 c.life] := (Own.new w _ _).alloc _
  have b0 := ((Below.refl w.heap.size w).alloc (Nat.le_refl _) (.cells #[.int .i64 c.nodes, .slice none 0 0, .slice ha c.hops.length hc, .int .i64 c.guard, .int .i64 c.err, .int .i64 c.keep, .int .i64 c.loss, .int .i64 c.queue, .int .i64 c.life] 28)).alloc (by simp) (.cells #[.int .i64 0, .int .i64 0, .slice none 0 0, .slice none 0 0, .int .i64 0, .int .i64 0, .int .i64 0, .int .i64 0, .int .i64 0, .int .i64 0, .pointer none, .pointer none, .int .i64 0, .pointer none, .pointer none, .pointer none, .int .i64 0, .int .i64 0, .bool false, .int .i64 0, .int .i64 0, .int .i64 0, .int .i64 0, .slice none 0 0, .slice none 0 0, .slice none 0 0, .slice none 0 0, .slice none 0 0, .slice none 0 0, .slice none 0 0, .slice none 0 0, .slice none 0 0, .slice none 0 0, .slice none 0 0, .slice none 0 0, .slice none 0 0, .slice none 0 0, .slice none 0 0, .slice none 0 0, .bool false, .pointer none, .pointer none, .int .i64 0] 65)
  have oR : Own ((w.alloc (.cells #[.int .i64 c.nodes, .slice none 0 0, .slice ha c.hops.length hc, .int .i64 c.guard, .int .i64 c.err, .int .i64 c.keep, .int .i64 c.loss, .int .i64 c.queue, .int .i64 c.life] 28)).alloc (.cells #[.int .i64 0, .int .i64 0, .slice none 0 0, .slice none 0 0, .int .i64 0, .int .i64 0, .int .i64 0, .int .i64 0, .int .i64 0, .int .i64 0, .pointer none, .pointer none, .int .i64 0, .pointer none, .pointer none, .pointer none, .int .i64 0, .int .i64 0, .bool false, .int .i64 0, .int .i64 0, .int .i64 0, .int .i64 0, .slice none 0 0, .slice none 0 0, .slice none 0 0, .slice none 0 0, .slice none 0 0, .slice none 0 0, .slice none 0 0, .slice none 0 0, .slice none 0 0, .slice none 0 0, .slice none 0 0, .slice none 0 0, .slice none 0 0, .slice none 0 0, .slice none 0 0, .slice none 0 0, .bool false, .pointer none, .pointer none, .int .i64 0] 65)) (w.heap.size + 1) 65 #[.int .i64 0, .int .i64 0, .slice none 0 0, .slice none 0 0, .int .i64 0, .int .i64 0, .int .i64 0, .int .i64 0, .int .i64 0, .int .i64 0, .pointer none, .pointer none, .int .i64 0, .pointer none, .pointer none, .pointer none, .int .i64 0, .int .i64 0, .bool false, .int .i64 0, .int .i64 0, .int .i64 0, .int .i64 0, .slice none 0 0, .slice none 0 0, .slice none 0 0, .slice none 0 0, .slice none 0 0, .slice none 0 0, .slice none 0 0, .slice none 0 0, .slice none 0 0, .slice none 0 0, .slice none 0 0, .slice none 0 0, .slice none 0 0, .slice none 0 0, .slice none 0 0, .slice none 0 0, .bool false, .pointer none, .pointer none, .int .i64 0] := by
    have := Own.new (w.alloc (.cells #[.int .i64 c.nodes, .slice none 0 0, .slice ha c.hops.length hc, .int .i64 c.guard, .int .i64 c.err, .int .i64 c.keep, .int .i64 c.loss, .int .i64 c.queue, .int .i64 c.life] 28)) 65 #[.int .i64 0, .int .i64 0, .slice none 0 0, .slice none 0 0, .int .i64 0, .int .i64 0, .int .i64 0, .int .i64 0, .int .i64 0, .int .i64 0, .pointer none, .pointer none, .int .i64 0, .pointer none, .pointer none, .pointer none, .int .i64 0, .int .i64 0, .bool false, .int .i64 0, .int .i64 0, .int .i64 0, .int .i64 0, .slice none 0 0, .slice none 0 0, .slice none 0 0, .slice none 0 0, .slice none 0 0, .slice none 0 0, .slice none 0 0, .slice none 0 0, .slice none 0 0, .slice none 0 0, .slice none 0 0, .slice none 0 0, .slice none 0 0, .slice none 0 0, .slice none 0 0, .slice none 0 0, .bool false, .pointer none, .pointer none, .int .i64 0]
    rwa [show (w.alloc (.cells #[.int .i64 c.nodes, .slice none 0 0, .slice ha c.hops.length hc, .int .i64 c.guard, .int .i64 c.err, .int .i64 c.keep, .int .i64 c.loss, .int .i64 c.queue, .int .i64 c.life] 28)).heap.size = w.heap.size + 1 by simp] at this
  go_enter Try.func16, Try.ntmps16
  go_upto_region 1 with (fail)
  have HB0 := Lib.hid b0
  have hs0 : w.heap.size ≤ ((w.alloc (.cells #[.int .i64 c.nodes, .slice none 0 0, .slice ha c.hops.length hc, .int .i64 c.guard, .int .i64 c.err, .int .i64 c.keep, .int .i64 c.loss, .int .i64 c.queue, .int .i64 c.life] 28)).alloc (.cells #[.int .i64 0, .int .i64 0, .slice none 0 0, .slice none 0 0, .int .i64 0, .int .i64 0, .int .i64 0, .int .i64 0, .int .i64 0, .int .i64 0, .pointer none, .pointer none, .int .i64 0, .pointer none, .pointer none, .pointer none, .int .i64 0, .int .i64 0, .bool false, .int .i64 0, .int .i64 0, .int .i64 0, .int .i64 0, .slice none 0 0, .slice none 0 0, .slice none 0 0, .slice none 0 0, .slice none 0 0, .slice none 0 0, .slice none 0 0, .slice none 0 0, .slice none 0 0, .slice none 0 0, .slice none 0 0, .slice none 0 0, .slice none 0 0, .slice none 0 0, .slice none 0 0, .slice none 0 0, .bool false, .pointer none, .pointer none, .int .i64 0] 65)).heap.size := b0.size
  obtain ⟨xb, hxb⟩ : ∃ q, w.heap.size = q := ⟨_, rfl⟩
  have HXB := Lib.hid hxb
  rw [hxb] at o1 oR hs0 ⊢
  clear b0 hxb
  generalize (w.alloc (.cells #[.int .i64 c.nodes, .slice none 0 0, .slice ha c.hops.length hc, .int .i64 c.guard, .int .i64 c.err, .int .i64 c.keep, .int .i64 c.loss, .int .i64 c.queue, .int .i64 c.life] 28)).alloc (.cells #[.int .i64 0, .int .i64 0, .slice none 0 0, .slice none 0 0, .int .i64 0, .int .i64 0, .int .i64 0, .int .i64 0, .int .i64 0, .int .i64 0, .pointer none, .pointer none, .int .i64 0, .pointer none, .pointer none, .pointer none, .int .i64 0, .int .i64 0, .bool false, .int .i64 0, .int .i64 0, .int .i64 0, .int .i64 0, .slice none 0 0, .slice none 0 0, .slice none 0 0, .slice none 0 0, .slice none 0 0, .slice none 0 0, .slice none 0 0, .slice none 0 0, .slice none 0 0, .slice none 0 0, .slice none 0 0, .slice none 0 0, .slice none 0 0, .slice none 0 0, .slice none 0 0, .slice none 0 0, .bool false, .pointer none, .pointer none, .int .i64 0] 65) = w0 at *
  have oz : ∀ z : Gh w0, Own z.toW xb 28 #[.int .i64 c.nodes, .slice none 0 0, .slice ha c.hops.length hc, .int .i64 c.guard, .int .i64 c.err, .int .i64 c.keep, .int .i64 c.loss, .int .i64 c.queue, .int .i64 c.life] := fun z => below_own z.ok o1 o1.lt
  have c0 : ∀ z : Gh w0, z.toW.cell? ⟨xb, 0, none⟩ = some (.int .i64 c.nodes) := fun z => (oz z).cell 0
  have c1 : ∀ z : Gh w0, z.toW.cell? ⟨xb, 1, none⟩ = some (.slice none 0 0) := fun z => (oz z).cell 1
  have c2 : ∀ z : Gh w0, z.toW.cell? ⟨xb, 2, none⟩ = some (.slice ha c.hops.length hc) := fun z => (oz z).cell 2
  have c3 : ∀ z : Gh w0, z.toW.cell? ⟨xb, 3, none⟩ = some (.int .i64 c.guard) := fun z => (oz z).cell 3
  have c4 : ∀ z : Gh w0, z.toW.cell? ⟨xb, 4, none⟩ = some (.int .i64 c.err) := fun z => (oz z).cell 4
  have c5 : ∀ z : Gh w0, z.toW.cell? ⟨xb, 5, none⟩ = some (.int .i64 c.keep) := fun z => (oz z).cell 5
  have c6 : ∀ z : Gh w0, z.toW.cell? ⟨xb, 6, none⟩ = some (.int .i64 c.loss) := fun z => (oz z).cell 6
  have c7 : ∀ z : Gh w0, z.toW.cell? ⟨xb, 7, none⟩ = some (.int .i64 c.queue) := fun z => (oz z).cell 7
  have c8 : ∀ z : Gh w0, z.toW.cell? ⟨xb, 8, none⟩ = some (.int .i64 c.life) := fun z => (oz z).cell 8
  clear oz
  have hmin : min (max c.queue 1) 32 = c.queue := by omega
  have PQ : Hid (∀ z : Gh w0, Calls Try.prog 36 #[.int .i64 c.queue] z.toW fun r w' => r = .returned (.pointer (some ⟨z.toW.heap.size, 0, none⟩)) ∧ Qu.Que w' z.toW.heap.size z.toW.heap.size c.queue 0 [] (.slice none 0 0) ∧ Below z.toW.heap.size z.toW w' ∧ z.toW.heap.size < w'.heap.size) := Lib.hid (fun z => by
    have := Qu.new_any c.queue z.toW
    rw [hmin] at this
    exact this)
  clear hmin
  apply wp_tail_start
  case hl => repeat (first | exact Snoc.one _ | apply Snoc.cons)
  refine wp_region_ghost w0 (Below.refl _ _) [.is (.int .i64 id), .is (.agg #[.int .i64 c.nodes, .slice none 0 0, .slice ha c.hops.length hc, .int .i64 c.guard, .int .i64 c.err, .int .i64 c.keep, .int .i64 c.loss, .int .i64 c.queue, .int .i64 c.life]), .of pCk, .is (.pointer (some ⟨xb, 7, none⟩)), .is (.int .i64 c.queue), .of (pQu c.queue), .of pW1, .of pW2, .of pW3, .of (pB c ha hc id), .of pA] (by kernel_rfl) (by kernel_rfl) (by kernel_rfl) rfl (p_stab _ _ _ _ _ _ _ _ _ _ (by kernel_rfl) (by kernel_rfl)) ?_
  iterate 2
    refine gh_is (by rfl) (fun z hz K Q hK => ?_) ?_
    · go_big_op
      exact hK _ _ rfl rfl
    simp only [Act.put, List.setIfInBounds_toArray, List.set_cons_zero, List.set_cons_succ]
  refine gh_of (by rfl) (fun z hz K Q hK => ?_) (fun x2 => ?_)
  · go_big_op
    refine (Ck.new_any _).mono ?_
    rintro r w' ⟨rfl, h1, b1, _⟩
    exact hK _ _ ⟨_, z.to w' b1, rfl, rfl, z.to_R _ w' b1, _, rfl, z.ok.size, h1⟩
  simp only [Act.put, List.setIfInBounds_toArray, List.set_cons_zero, List.set_cons_succ]
  iterate 2
    refine gh_is (by rfl) (fun z hz K Q hK => ?_) ?_
    · go_big_op
      exact hK _ _ rfl rfl
    simp only [Act.put, List.setIfInBounds_toArray, List.set_cons_zero, List.set_cons_succ]
  refine gh_of (by rfl) (fun z hz K Q hK => ?_) (fun x5 => ?_)
  · go_big_op
    refine (PQ.out z).mono ?_
    rintro r w' ⟨rfl, h1, b1, _⟩
    exact hK _ _ ⟨_, z.to w' b1, rfl, rfl, z.to_R _ w' b1, _, rfl, z.ok.size, h1⟩
  simp only [Act.put, List.setIfInBounds_toArray, List.set_cons_zero, List.set_cons_succ]
  refine gh_of (by rfl) (fun z hz K Q hK => ?_) (fun x6 => ?_)
  · go_big_op
    refine (Dp.new_any _).mono ?_
    rintro r w' ⟨rfl, h1, b1, _⟩
    exact hK _ _ ⟨_, z.name w' b1 6 z.toW.heap.size, rfl, rfl, z.name_R w' b1 6 _, _, rfl, z.ok.size, h1, z.name_at w' b1 6 _⟩
  simp only [Act.put, List.setIfInBounds_toArray, List.set_cons_zero, List.set_cons_succ]
  refine gh_of (by rfl) (fun z hz K Q hK => ?_) (fun x7 => ?_)
  · obtain ⟨d1, rfl, e1, e2, e3⟩ := gfact hz 6 pW1 x6 (by kernel_rfl) (by kernel_rfl)
    have hl := e2.lt
    go_big_op
    refine (Dp.new_any _).mono ?_
    rintro r w' ⟨rfl, h1, b1, _⟩
    exact hK _ _ ⟨_, z.name w' b1 7 z.toW.heap.size, rfl, rfl, z.name_R w' b1 7 _, _, d1, rfl, z.ok.size, h1, (z.name_ne w' b1 _ (by decide)).trans e3, z.name_at w' b1 7 _, hl⟩
  simp only [Act.put, List.setIfInBounds_toArray, List.set_cons_zero, List.set_cons_succ]
  refine gh_of (by rfl) (fun z hz K Q hK => ?_) (fun x8 => ?_)
  · obtain ⟨d2, d1, rfl, e1, e2, e3, e4, e5⟩ := gfact hz 7 pW2 x7 (by kernel_rfl) (by kernel_rfl)
    have hl := e2.lt
    go_big_op
    refine (Dp.new_any _).mono ?_
    rintro r w' ⟨rfl, h1, b1, _⟩
    exact hK _ _ ⟨_, z.to w' b1, rfl, rfl, z.to_R _ w' b1, _, d2, rfl, z.ok.size, h1, e4, hl⟩
  simp only [Act.put, List.setIfInBounds_toArray, List.set_cons_zero, List.set_cons_succ]
  refine gh_of (by rfl) (fun z hz K Q hK => ?_) (fun x9 => ?_)
  · obtain ⟨ck, rfl, f1, f2⟩ := gfact hz 2 pCk x2 (by kernel_rfl) (by kernel_rfl)
    obtain ⟨qb, rfl, g1, g2⟩ := gfact hz 5 (pQu c.queue) x5 (by kernel_rfl) (by kernel_rfl)
    obtain ⟨d1, rfl, e1, e2, e3⟩ := gfact hz 6 pW1 x6 (by kernel_rfl) (by kernel_rfl)
    obtain ⟨d2, a1, rfl, h1, h2, h3, h4, h5⟩ := gfact hz 7 pW2 x7 (by kernel_rfl) (by kernel_rfl)
    obtain ⟨d3, a2, rfl, k1, k2, k3, k4⟩ := gfact hz 8 pW3 x8 (by kernel_rfl) (by kernel_rfl)
    have q1 : d1 = a1 := by rw [e3] at h3; injection h3
    have q2 : d2 = a2 := by rw [h4] at k3; injection k3
    subst q1 q2
    have HF : Hid (Five w0.heap.size z.toW c.queue ck qb d1 d2 d3) := Lib.hid ⟨f2, g2, e2, h2, k2, ⟨by omega, by omega, by omega⟩, f1, g1, e1, h1, k1⟩
    clear f1 f2 g1 g2 e1 e2 e3 h1 h2 h3 h4 h5 k1 k2 k3 k4
    unfold ptr
    go_big_op
    exact hK _ _ ⟨_, z, rfl, rfl, Gh.R.refl _ z, ck, qb, d1, d2, d3, rfl, HF.out⟩
  simp only [Act.put, List.setIfInBounds_toArray, List.set_cons_zero, List.set_cons_succ]
  refine gh_of (by rfl) (fun z hz K Q hK => ?_) (fun x10 => ?_)
  · have bz := (Below.refl z.toW.heap.size z.toW).alloc (Nat.le_refl _) (.cells #[.int .i64 0, .int .i64 0, .slice none 0 0, .slice none 0 0, .int .i64 0, .int .i64 0, .int .i64 0, .int .i64 0, .int .i64 0, .int .i64 0, .pointer none, .pointer none, .int .i64 0, .pointer none, .pointer none, .pointer none, .int .i64 0, .int .i64 0, .bool false, .int .i64 0, .int .i64 0, .int .i64 0, .int .i64 0, .slice none 0 0, .slice none 0 0, .slice none 0 0, .slice none 0 0, .slice none 0 0, .slice none 0 0, .slice none 0 0, .slice none 0 0, .slice none 0 0, .slice none 0 0, .slice none 0 0, .slice none 0 0, .slice none 0 0, .slice none 0 0, .slice none 0 0, .slice none 0 0, .bool false, .pointer none, .pointer none, .int .i64 0] 65)
    have oz := Own.new z.toW 65 #[.int .i64 0, .int .i64 0, .slice none 0 0, .slice none 0 0, .int .i64 0, .int .i64 0, .int .i64 0, .int .i64 0, .int .i64 0, .int .i64 0, .pointer none, .pointer none, .int .i64 0, .pointer none, .pointer none, .pointer none, .int .i64 0, .int .i64 0, .bool false, .int .i64 0, .int .i64 0, .int .i64 0, .int .i64 0, .slice none 0 0, .slice none 0 0, .slice none 0 0, .slice none 0 0, .slice none 0 0, .slice none 0 0, .slice none 0 0, .slice none 0 0, .slice none 0 0, .slice none 0 0, .slice none 0 0, .slice none 0 0, .slice none 0 0, .slice none 0 0, .slice none 0 0, .slice none 0 0, .bool false, .pointer none, .pointer none, .int .i64 0]
    go_big_op
    exact hK _ _ ⟨_, z.to _ bz, rfl, rfl, z.to_R _ _ bz, _, rfl, z.ok.size, oz⟩
  simp only [Act.put, List.setIfInBounds_toArray, List.set_cons_zero, List.set_cons_succ]
  intro z hz
  obtain ⟨ck, qb, ub, db, gb, rfl, hF⟩ : pB c ha hc id x9 z := hz 9 (.of (pB c ha hc id)) x9 (by kernel_rfl)
  obtain ⟨nb, rfl, hn, oN⟩ : pA x10 z := hz 10 (.of pA) x10 (by kernel_rfl)
  rw [if_pos (by rfl)]
  have hth : z.toW.there nb 0 43 := fun j hj => ⟨by
    rw [Nat.zero_add, oN.cell, Array.getElem?_eq_getElem (by simpa using hj)]
    rfl, oN.free _⟩
  have jN := just_cells nb (l43 c ha hc id ck qb ub db gb) 0 z.toW
  have oB : Blk z.toW nb 65 43 (fun i => (#[.int .i64 0, .int .i64 0, .slice none 0 0, .slice none 0 0, .int .i64 0, .int .i64 0, .int .i64 0, .int .i64 0, .int .i64 0, .int .i64 0, .pointer none, .pointer none, .int .i64 0, .pointer none, .pointer none, .pointer none, .int .i64 0, .int .i64 0, .bool false, .int .i64 0, .int .i64 0, .int .i64 0, .int .i64 0, .slice none 0 0, .slice none 0 0, .slice none 0 0, .slice none 0 0, .slice none 0 0, .slice none 0 0, .slice none 0 0, .slice none 0 0, .slice none 0 0, .slice none 0 0, .slice none 0 0, .slice none 0 0, .slice none 0 0, .slice none 0 0, .slice none 0 0, .slice none 0 0, .bool false, .pointer none, .pointer none, .int .i64 0] : Array Value).getD i undef) := Blk.of oN rfl (fun i hi => by
    rw [Array.getElem?_eq_getElem (by simpa using hi), Array.getD_eq_getD_getElem?, Array.getElem?_eq_getElem (by simpa using hi)]
    rfl)
  have oC : Blk (z.toW.setCells nb 0 (l43 c ha hc id ck qb ub db gb)) nb 65 43 (ndV (fresh0 c id false) (hm0 ha hc ck qb ub db gb 0)) := (blk_cells _ 0 z.toW _ oB).ext (fun i hi => by
    rw [if_pos ⟨Nat.zero_le _, by show i < 0 + 43; omega⟩, Nat.sub_zero, l43_nd c ha hc id ck qb ub db gb 0 i hi])
  have F2 := hF.just jN oB
  have bel2 := jN.below z.ok hn z.ok.size
  have hx1 : xb + 1 ≠ nb := by have := oR.lt; omega
  have oR2 := jN.own (below_own z.ok oR oR.lt) hx1
  have hlr := oR.lt
  refine wp_store_mid 65 (.tmp 5) (.tmp 15) rfl nb 0 (l43 c ha hc id ck qb ub db gb).toArray rfl rfl hth (by kernel_rfl) (l43_one c ha hc id ck qb ub db gb) ?_
  rw [List.toList_toArray]
  clear hth oB jN hF oN PQ hz
  generalize z.toW.setCells nb 0 (l43 c ha hc id ck qb ub db gb) = w1 at *
  clear c0 c1 c2 c3 c4 c5 c6 c7 c8 o1 oR
  clear z
  simp only [Act.put, ptr]
  have hw : w.heap.size ≤ w0.heap.size := by rw [HXB.out]; exact hs0
  by_cases h0 : id = 0
  rotate_left 1
  · have g0 : (id == 0) = false := by simpa using h0
    have G0 := Lib.hid g0
    clear h0
    go_upto_region 4 with (fail)
    refine wp_row_out rfl rfl rfl rfl rfl oC Try.underlying65 rfl (nd_size _ _) rfl rfl oR2 (nd_size _ _) (nd_size2 _ _) (nd_all (fun k _ => rfl)) ?_
    go_wp2_with fail
    have jR := Just.setRow (xb + 1) w1 (Array.ofFn (n := 43) fun i => ndV (fresh0 c id false) (hm0 ha hc ck qb ub db gb 0) i)
    have bb : Below w.heap.size w (w1.setRow (xb + 1) (Array.ofFn (n := 43) fun i => ndV (fresh0 c id false) (hm0 ha hc ck qb ub db gb 0) i)) := jR.below (HB0.out.trans (bel2.mono hw)) (by have := HXB.out; omega) (by have := bel2.size; omega)
    have F3 := F2.just jR (z43_blk oR2)
    refine bodyPost_ret (results_cell_row rfl _ _ (xb + 1) 65 _ (0, 0) _ rfl (oR2.setRow _) Try.underlying65 rfl (nd_size _ _)) rfl ?_
    refine ⟨ck, qb, ub, db, gb, 0, by rw [G0.out], ⟨⟨F3.clk, F3.que, F3.up, F3.dn, F3.gt, F3.ap, by have := F3.lo; omega⟩, fun e => by rw [G0.out] at e; cases e⟩, bb⟩
  · subst h0
    have g0 : ((0 : Int) == 0) = true := by decide
    go_wp2_with fail
    refine (Pa.new_yes 0 0 w1 (by decide) (by decide)).mono ?_
    rintro r w2 ⟨rfl, hS, b2⟩
    have F3 := F2.below b2
    have oC3 := below_blk b2 oC oC.lt
    have oR3 := below_own b2 oR2 oR2.lt
    have hsn := hS.own.lt
    have e39 : w2.cell? ⟨nb, 39, none⟩ = some (.bool false) := oC3.cell (by decide)
    have e40 : w2.cell? ⟨nb, 40, none⟩ = some (.pointer none) := oC3.cell (by decide)
    have f39 : w2.frozen? ⟨nb, 39, none⟩ = false := oC3.free 39
    have f40 : w2.frozen? ⟨nb, 40, none⟩ = false := oC3.free 40
    obtain ⟨sb, hsb⟩ : ∃ q, w1.heap.size = q := ⟨_, rfl⟩
    have hlb : w0.heap.size ≤ sb := by rw [← hsb]; exact bel2.size
    have bel3 := bel2.trans (b2.mono bel2.size)
    rw [hsb] at hS ⊢
    have oC4 : Blk ((w2.setCell ⟨nb, 39, none⟩ (.bool true)).setCell ⟨nb, 40, none⟩ (ptr sb)) nb 65 43 (ndV (fresh0 c 0 true) (hm0 ha hc ck qb ub db gb sb)) := by
      refine ((oC3.put 39 _).put 40 _).ext (fun i hi => ?_)
      unfold ndV
      by_cases h1 : i < 23
      · rw [if_neg (by omega), if_neg (by omega), if_pos h1, if_pos h1]
        rfl
      · by_cases h2 : i < 39
        · rw [if_neg (by omega), if_neg (by omega), if_neg h1, if_pos h2, if_neg h1, if_pos h2]
          rfl
        · rcases (show i = 39 ∨ i = 40 ∨ i = 41 ∨ i = 42 by omega) with rfl | rfl | rfl | rfl <;> rfl
    have jP := (Just.set nb w2 39 (.bool true)).put 40 (ptr sb)
    have F4 := F3.just jP oC3
    have oR4 := jP.own oR3 hx1
    have S4 : Pa.St ((w2.setCell ⟨nb, 39, none⟩ (.bool true)).setCell ⟨nb, 40, none⟩ (ptr sb)) sb sb 0 0 [] (.slice none 0 0) := (Tn.of_just jP oC3).st hS (by decide) (by decide)
    have bel4 := jP.below bel3 hn bel3.size
    clear F2 F3 oC oC3 oR2 oR3 hS b2 bel2 bel3 hsn jP hsb
    go_upto_region 4 with (fail)
    simp only [ptr] at oC4 F4 oR4 S4 bel4
    generalize (w2.setCell ⟨nb, 39, none⟩ (.bool true)).setCell ⟨nb, 40, none⟩ (.pointer (some ⟨sb, 0, none⟩)) = w4 at *
    refine wp_row_out rfl rfl rfl rfl rfl oC4 Try.underlying65 rfl (nd_size _ _) rfl rfl oR4 (nd_size _ _) (nd_size2 _ _) (nd_all (fun k _ => rfl)) ?_
    go_wp2_with fail
    have jR := Just.setRow (xb + 1) w4 (Array.ofFn (n := 43) fun i => ndV (fresh0 c 0 true) (hm0 ha hc ck qb ub db gb sb) i)
    have bb : Below w.heap.size w (w4.setRow (xb + 1) (Array.ofFn (n := 43) fun i => ndV (fresh0 c 0 true) (hm0 ha hc ck qb ub db gb sb) i)) := jR.below (HB0.out.trans (bel4.mono hw)) (by have := HXB.out; omega) (by have := bel4.size; omega)
    have F5 := F4.just jR (z43_blk oR4)
    have S5 := (Tn.of_just jR (z43_blk oR4)).st S4 (by decide) (by decide)
    refine bodyPost_ret (results_cell_row rfl _ _ (xb + 1) 65 _ (0, 0) _ rfl (oR4.setRow _) Try.underlying65 rfl (nd_size _ _)) rfl ?_
    exact ⟨ck, qb, ub, db, gb, sb, rfl, ⟨⟨F5.clk, F5.que, F5.up, F5.dn, F5.gt, F5.ap, by have := F5.lo; omega⟩, fun _ => ⟨S5, by omega⟩⟩, bb⟩
end Go.Proofs.Ytiflmdekcjbmbaa.Nd
set_option maxRecDepth 100000
namespace Go.Proofs.Ytiflmdekcjbmbaa.Nd
set_option linter.unusedVariables false
set_option linter.unusedSimpArgs false
open Go.RowKit Lb

/-- Where a new node lies. -/
def hm1 (ha : Option Addr) (hc ck qb ub db gb sb b : Nat) (id : Int) : Hm := ⟨ha, hc, ck, qb, .slice none 0 0, ub, db, gb, if (id == 0) = true then sb else b, .slice none 0 0, b, fun _ => .slice none 0 0⟩
theorem nd_hm1 (c : Cfg) (ha : Option Addr) (hc ck qb ub db gb sb b : Nat) (id : Int) (i : Nat) (hi : i < 43) : ndV (fresh0 c id (id == 0)) (hm0 ha hc ck qb ub db gb sb) i = ndV (fresh0 c id (id == 0)) (hm1 ha hc ck qb ub db gb sb b id) i := by
  unfold ndV
  by_cases h1 : i < 23
  · rw [if_pos h1, if_pos h1]
    rfl
  · by_cases h2 : i < 39
    · rw [if_neg h1, if_pos h2, if_neg h1, if_pos h2]
      rfl
    · rw [if_neg h1, if_neg h2, if_neg h1, if_neg h2]
      by_cases h0 : id = 0
      · subst h0
        rcases (show i = 39 ∨ i = 40 ∨ i = 41 ∨ i = 42 by omega) with rfl | rfl | rfl | rfl <;> rfl
      · have g : (id == 0) = false := by simpa using h0
        unfold tailV Ns.hasK fresh0
        dsimp only
        rw [g]
        rcases (show i = 39 ∨ i = 40 ∨ i = 41 ∨ i = 42 by omega) with rfl | rfl | rfl | rfl <;> rfl
theorem hasK0 (c : Cfg) (id : Int) : (fresh0 c id (id == 0)).hasK = false := by
  unfold Ns.hasK fresh0
  dsimp only
  cases h : (id == 0)
  · rfl
  · have : id = 0 := by simpa using h
    subst this
    rfl
/-- New: a node, or none. -/
def newB (x : Cx) (id : Int) : Bool := mayQ x && inB id 0 (x.nodes - 1)
def NewPost (x : Cx) (id : Int) (w : World) (r : Ending) (w' : World) : Prop :=
  if newB x id = true then ∃ b h, r = .returned (.pointer (some ⟨b, 0, none⟩)) ∧ Nd w' b (fresh0 x.cfg id (id == 0)) h ∧ (∀ q, h.ex b q → w.heap.size ≤ q) ∧ Below w.heap.size w w' else r = .returned (.pointer none) ∧ Below w.heap.size w w'
theorem mayQ_parts {x : Cx} (h : mayQ x = true) : (2 ≤ x.nodes ∧ x.nodes ≤ 16) ∧ x.hops.length ≤ 16 ∧ (1 ≤ x.queue ∧ x.queue ≤ 32) := by
  unfold mayQ at h
  simp only [Bool.and_eq_true] at h
  obtain ⟨h1, _, h3, _, _, _, _, h8, _⟩ := h
  unfold inB at h1 h8
  rw [decide_eq_true_eq] at h1 h8
  unfold Hp.mayB at h3
  simp only [Bool.and_eq_true, decide_eq_true_eq] at h3
  exact ⟨h1, h3.1.2, h8⟩
set_option maxHeartbeats 4000000 in
theorem newn_any (x : Cx) (id : Int) (w : World) (h : x.At w) : Calls Try.prog 7 #[.agg #[.int .i64 x.nodes, .slice x.na x.nn x.nc, .slice x.ha x.hops.length x.hc, .int .i64 x.guard, .int .i64 x.err, .int .i64 x.keep, .int .i64 x.loss, .int .i64 x.queue, .int .i64 x.life], .int .i64 id] w (NewPost x id w) := by
  have b0 := (Below.refl w.heap.size w).alloc (Nat.le_refl _) (.cells #[.int .i64 x.nodes, .slice x.na x.nn x.nc, .slice x.ha x.hops.length x.hc, .int .i64 x.guard, .int .i64 x.err, .int .i64 x.keep, .int .i64 x.loss, .int .i64 x.queue, .int .i64 x.life] 28)
  have H := h.below b0
  have PM := may_any x (w.alloc (.cells #[.int .i64 x.nodes, .slice x.na x.nn x.nc, .slice x.ha x.hops.length x.hc, .int .i64 x.guard, .int .i64 x.err, .int .i64 x.keep, .int .i64 x.loss, .int .i64 x.queue, .int .i64 x.life] 28)) H
  have oB := Own.new w 28 #[.int .i64 x.nodes, .slice x.na x.nn x.nc, .slice x.ha x.hops.length x.hc, .int .i64 x.guard, .int .i64 x.err, .int .i64 x.keep, .int .i64 x.loss, .int .i64 x.queue, .int .i64 x.life]
  go_enter Try.func7, Try.ntmps7
  go_upto_region 1 with (fail)
  obtain ⟨xb, hxb⟩ : ∃ q, w.heap.size = q := ⟨_, rfl⟩
  have HB0 := Lib.hid b0
  have HXB := Lib.hid hxb
  have hsz : (w.alloc (.cells #[.int .i64 x.nodes, .slice x.na x.nn x.nc, .slice x.ha x.hops.length x.hc, .int .i64 x.guard, .int .i64 x.err, .int .i64 x.keep, .int .i64 x.loss, .int .i64 x.queue, .int .i64 x.life] 28)).heap.size = xb + 1 := by rw [← hxb]; simp
  rw [hxb] at oB ⊢
  clear b0 hxb
  generalize w.alloc (.cells #[.int .i64 x.nodes, .slice x.na x.nn x.nc, .slice x.ha x.hops.length x.hc, .int .i64 x.guard, .int .i64 x.err, .int .i64 x.keep, .int .i64 x.loss, .int .i64 x.queue, .int .i64 x.life] 28) = wx at *
  have c0 : wx.cell? ⟨xb, 0, none⟩ = some (.int .i64 x.nodes) := oB.cell 0
  have c1 : wx.cell? ⟨xb, 1, none⟩ = some (.slice x.na x.nn x.nc) := oB.cell 1
  have c2 : wx.cell? ⟨xb, 2, none⟩ = some (.slice x.ha x.hops.length x.hc) := oB.cell 2
  have c3 : wx.cell? ⟨xb, 3, none⟩ = some (.int .i64 x.guard) := oB.cell 3
  have c4 : wx.cell? ⟨xb, 4, none⟩ = some (.int .i64 x.err) := oB.cell 4
  have c5 : wx.cell? ⟨xb, 5, none⟩ = some (.int .i64 x.keep) := oB.cell 5
  have c6 : wx.cell? ⟨xb, 6, none⟩ = some (.int .i64 x.loss) := oB.cell 6
  have c7 : wx.cell? ⟨xb, 7, none⟩ = some (.int .i64 x.queue) := oB.cell 7
  have c8 : wx.cell? ⟨xb, 8, none⟩ = some (.int .i64 x.life) := oB.cell 8
  go_wp2_with fail
  refine PM.mono ?_
  rintro r w1 ⟨rfl, b1⟩
  have bb1 : Below xb w w1 := by rw [← HXB.out]; exact HB0.out.trans (b1.mono (by rw [HXB.out]; omega))
  cases hm : mayQ x
  · have HN : Hid (newB x id = false) := Lib.hid (by unfold newB; rw [hm]; rfl)
    clear hm PM c0 c1 c2 c3 c4 c5 c6 c7 c8
    go_wp2_with fail
    go_ret
    unfold NewPost
    rw [if_neg (by rw [HN.out]; decide)]
    exact ⟨rfl, by rw [HXB.out]; exact bb1⟩
  obtain ⟨hN, hH, hQ⟩ := mayQ_parts hm
  have e1 : IntKind.i64.wrap (x.nodes - 1) = x.nodes - 1 := IntWalk.i64_in _ (by omega)
  have o1 := below_own b1 oB oB.lt
  have H1 := H.below b1
  have d0 : w1.cell? ⟨xb, 0, none⟩ = some (.int .i64 x.nodes) := o1.cell 0
  clear c0 c1 c2 c3 c4 c5 c6 c7 c8 PM oB H
  go_wp2_with fail
  refine (isIn_any id 0 (x.nodes - 1) w1).mono ?_
  rintro r w' ⟨rfl, rfl⟩
  cases hi : inB id 0 (x.nodes - 1)
  · have HN : Hid (newB x id = false) := Lib.hid (by unfold newB; rw [hi, Bool.and_false])
    clear hi d0 e1
    go_wp2_with fail
    go_ret
    unfold NewPost
    rw [if_neg (by rw [HN.out]; decide)]
    exact ⟨rfl, by rw [HXB.out]; exact bb1⟩
  have HN : Hid (newB x id = true) := Lib.hid (by unfold newB; rw [hm, hi]; rfl)
  have HM := Lib.hid hm
  have d1 : w1.cell? ⟨xb, 1, none⟩ = some (.slice x.na x.nn x.nc) := o1.cell 1
  have f1 : w1.frozen? ⟨xb, 1, none⟩ = false := o1.free 1
  clear hi d0 e1 hm
  have o2 := o1.put 1 (.slice none 0 0)
  have j2 := Just.set xb w1 1 (.slice none 0 0)
  have b2 : Below xb w (w1.setCell ⟨xb, 1, none⟩ (.slice none 0 0)) := j2.below bb1 (Nat.le_refl _) (by have := bb1.size; have := HXB.out; omega)
  have H2 : Row (w1.setCell ⟨xb, 1, none⟩ (.slice none 0 0)) x.ha x.hops.length (Rt.zval x.hops) := h.hops.below (by rw [HXB.out]; exact b2)
  go_upto_region 4 with (fail)
  generalize w1.setCell ⟨xb, 1, none⟩ (.slice none 0 0) = w2 at *
  clear o1 j2 d1 f1 H1 b1 bb1
  have d2 : w2.cell? ⟨xb, 2, none⟩ = some (.slice x.ha x.hops.length x.hc) := o2.cell 2
  go_wp2_with fail
  refine (Rt.cloneI_any x.ha x.hc x.hops w2 (by omega) H2 h.hnil).mono ?_
  rintro r w3 ⟨v3, rfl, m3, b3⟩
  obtain ⟨a5, c5, rfl, k1, k2, k3⟩ := m3.row
  have o3 := below_own b3 o2 o2.lt
  have e2 : w3.cell? ⟨xb, 2, none⟩ = some (.slice x.ha x.hops.length x.hc) := o3.cell 2
  have f2 : w3.frozen? ⟨xb, 2, none⟩ = false := o3.free 2
  have o4 := o3.put 2 (.slice a5 x.hops.length c5)
  have j4 := Just.set xb w3 2 (.slice a5 x.hops.length c5)
  have hxl := o2.lt
  have b23 : Below xb w w3 := b2.trans (b3.mono (by omega))
  have b4 : Below xb w (w3.setCell ⟨xb, 2, none⟩ (.slice a5 x.hops.length c5)) := j4.below b23 (Nat.le_refl _) (by have := b3.size; omega)
  have m4 : Mine (w3.setCell ⟨xb, 2, none⟩ (.slice a5 x.hops.length c5)) w2.heap.size 3 (.slice a5 x.hops.length c5) x.hops.length (zv x.hops) := (m3.just j4 hxl).ext (fun _ _ => rfl)
  clear d2 H2 m3 k3 o3 b2 b3 b23 o2 j4
  go_upto_region 5 with (fail)
  generalize w3.setCell ⟨xb, 2, none⟩ (.slice a5 x.hops.length c5) = w4 at *
  clear e2 f2
  have o4' : Own w4 xb 28 #[.int .i64 x.nodes, .slice none 0 0, .slice a5 x.hops.length c5, .int .i64 x.guard, .int .i64 x.err, .int .i64 x.keep, .int .i64 x.loss, .int .i64 x.queue, .int .i64 x.life] := o4
  have c0 : w4.cell? ⟨xb, 0, none⟩ = some (.int .i64 x.nodes) := o4'.cell 0
  have c1 : w4.cell? ⟨xb, 1, none⟩ = some (.slice none 0 0) := o4'.cell 1
  have c2 : w4.cell? ⟨xb, 2, none⟩ = some (.slice a5 x.hops.length c5) := o4'.cell 2
  have c3 : w4.cell? ⟨xb, 3, none⟩ = some (.int .i64 x.guard) := o4'.cell 3
  have c4 : w4.cell? ⟨xb, 4, none⟩ = some (.int .i64 x.err) := o4'.cell 4
  have c6 : w4.cell? ⟨xb, 5, none⟩ = some (.int .i64 x.keep) := o4'.cell 5
  have c7 : w4.cell? ⟨xb, 6, none⟩ = some (.int .i64 x.loss) := o4'.cell 6
  have c8 : w4.cell? ⟨xb, 7, none⟩ = some (.int .i64 x.queue) := o4'.cell 7
  have c9 : w4.cell? ⟨xb, 8, none⟩ = some (.int .i64 x.life) := o4'.cell 8
  have PF := fresh_any x.cfg a5 c5 id w4 hQ
  go_wp2_with fail
  refine PF.mono ?_
  rintro r w5 ⟨ck, qb, ub, db, gb, sb, rfl, hF, b5⟩
  have m5 := (Tn.of_below b5).mine m4 (by simp)
  have b45 : Below xb w w5 := b4.trans (b5.mono (by have := b4.size; have := HXB.out; omega))
  have hw45 := b5.size
  have hw4 : xb ≤ w4.heap.size := by have := b4.size; have := HXB.out; omega
  clear PF c0 c1 c2 c3 c4 c6 c7 c8 c9 o4 o4' m4 b5
  have hcs : (Try.prog.info? 65).map (fun i => (i.zero, i.size)) = some (some (.agg #[.int .i64 0, .int .i64 0, .slice none 0 0, .slice none 0 0, .int .i64 0, .int .i64 0, .int .i64 0, .int .i64 0, .int .i64 0, .int .i64 0, .pointer none, .pointer none, .int .i64 0, .pointer none, .pointer none, .pointer none, .int .i64 0, .int .i64 0, .bool false, .int .i64 0, .int .i64 0, .int .i64 0, .int .i64 0, .slice none 0 0, .slice none 0 0, .slice none 0 0, .slice none 0 0, .slice none 0 0, .slice none 0 0, .slice none 0 0, .slice none 0 0, .slice none 0 0, .slice none 0 0, .slice none 0 0, .slice none 0 0, .slice none 0 0, .slice none 0 0, .slice none 0 0, .slice none 0 0, .bool false, .pointer none, .pointer none, .int .i64 0]), (#[.int .i64 0, .int .i64 0, .slice none 0 0, .slice none 0 0, .int .i64 0, .int .i64 0, .int .i64 0, .int .i64 0, .int .i64 0, .int .i64 0, .pointer none, .pointer none, .int .i64 0, .pointer none, .pointer none, .pointer none, .int .i64 0, .int .i64 0, .bool false, .int .i64 0, .int .i64 0, .int .i64 0, .int .i64 0, .slice none 0 0, .slice none 0 0, .slice none 0 0, .slice none 0 0, .slice none 0 0, .slice none 0 0, .slice none 0 0, .slice none 0 0, .slice none 0 0, .slice none 0 0, .slice none 0 0, .slice none 0 0, .slice none 0 0, .slice none 0 0, .slice none 0 0, .slice none 0 0, .bool false, .pointer none, .pointer none, .int .i64 0] : Array Value).size) := by kernel_rfl
  go_wp2_with (refine wpList_alloc_store (zs := #[.int .i64 0, .int .i64 0, .slice none 0 0, .slice none 0 0, .int .i64 0, .int .i64 0, .int .i64 0, .int .i64 0, .int .i64 0, .int .i64 0, .pointer none, .pointer none, .int .i64 0, .pointer none, .pointer none, .pointer none, .int .i64 0, .int .i64 0, .bool false, .int .i64 0, .int .i64 0, .int .i64 0, .int .i64 0, .slice none 0 0, .slice none 0 0, .slice none 0 0, .slice none 0 0, .slice none 0 0, .slice none 0 0, .slice none 0 0, .slice none 0 0, .slice none 0 0, .slice none 0 0, .slice none 0 0, .slice none 0 0, .slice none 0 0, .slice none 0 0, .slice none 0 0, .slice none 0 0, .bool false, .pointer none, .pointer none, .int .i64 0]) _ rfl rfl rfl rfl hcs rfl rfl (nd_size _ _) (nd_size2 _ _) (nd_all (fun k _ => rfl)) ?_)
  have b6 := (Below.refl w5.heap.size w5).alloc (Nat.le_refl _) (.cells (Array.ofFn (n := 43) fun i => ndV (fresh0 x.cfg id (id == 0)) (hm0 a5 c5 ck qb ub db gb sb) i) 65)
  have o6 : Blk (w5.alloc (.cells (Array.ofFn (n := 43) fun i => ndV (fresh0 x.cfg id (id == 0)) (hm0 a5 c5 ck qb ub db gb sb) i) 65)) w5.heap.size 65 43 (ndV (fresh0 x.cfg id (id == 0)) (hm0 a5 c5 ck qb ub db gb sb)) := Own.new w5 65 _
  have F6 := hF.below b6
  have m6 := (Tn.of_below b6).mine m5 (by simp)
  have hw5 : w4.heap.size ≤ w5.heap.size := hw45
  clear hcs hF m5
  go_wp2_with fail
  go_ret
  unfold NewPost
  rw [if_pos HN.out]
  refine ⟨w5.heap.size, hm1 a5 c5 ck qb ub db gb sb w5.heap.size id, rfl, ⟨o6.ext (nd_hm1 _ _ _ _ _ _ _ _ _ _ _), mn_low m6 (Nat.zero_le _), F6.five.clk, ⟨[], ⟨F6.five.que.own, MineK.nil _ _ _ _ _, (fun y hy => by cases hy), Nat.zero_le _⟩, rfl⟩, F6.five.up, F6.five.dn, F6.five.gt, F6.five.ap, fun e => ?_, fun e => ?_, fun k _ => Mine.nil _ _ _ _⟩, fun q hq => ?_, ?_⟩
  · have e : (id == 0) = true := e
    obtain ⟨hs, _⟩ := F6.set e
    have : id = 0 := by simpa using e
    subst this
    exact ⟨hs.own, MineK.nil _ _ _ _ _, hs.srt, hs.few, Nat.zero_le _⟩
  · rw [hasK0] at e
    cases e
  · rw [HXB.out]
    have hlo := F6.five.lo
    rcases hq with rfl | rfl | rfl | e | rfl | rfl | rfl | rfl | e | rfl
    · omega
    · exact Nat.le_trans hw4 hlo.1
    · exact Nat.le_trans hw4 hlo.2.1
    · cases e
    · exact Nat.le_trans hw4 hlo.2.2.1
    · exact Nat.le_trans hw4 hlo.2.2.2.1
    · exact Nat.le_trans hw4 hlo.2.2.2.2
    · show xb ≤ (if (id == 0) = true then sb else w5.heap.size)
      split
      · rename_i e
        exact Nat.le_trans hw4 (F6.set e).2
      · omega
    · cases e
    · show xb ≤ w5.heap.size
      omega
  · rw [HXB.out]
    exact b45.trans (b6.mono (by omega))
end Go.Proofs.Ytiflmdekcjbmbaa.Nd
