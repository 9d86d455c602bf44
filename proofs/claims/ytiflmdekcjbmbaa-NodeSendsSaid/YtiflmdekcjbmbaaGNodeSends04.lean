/-
  Many cells stored at once in the middle of a block that is known whole; a row's load in a region whose operations but the last ones only read. A step that turns one block and one row of its own, and makes new memory: what it leaves alone. A slice's beginning and its rest, as run equations that hold in every world, whatever is empty. Slices of structs: copy, and what slices.Insert makes of a row. A whole row that is loaded and stored, or that a function hands back out of a variable of its own. Results, the first of which lies in a variable of its own, a whole row. A region that draws its order and appends to slices of its own making: rows that stand, rows that grow. A slice whose elements have k cells each, whatever lies in them: its cells, and each element as it reads.
-/
import Derived.Test.YtiflmdekcjbmbaaGNodeSends01
import Derived.Deep.MidRow
import Derived.StillTailTactics
import Derived.Laws.Slices
import Derived.Lib.AppendZerosOnto
import Derived.Lib.Overlaps
import Derived.Laws.Externs
import Derived.Lib.SliceRun
import Derived.Deep.RegionLaw
import Derived.Lib.Hide
import Derived.Deep.WholeRow
import Derived.Test.YtiflmdekcjbmbaaGNodeSends03
set_option maxRecDepth 100000
namespace Go.Proofs.Ytiflmdekcjbmbaa.Lb
set_option linter.unusedVariables false
set_option linter.unusedSimpArgs false
open Go.RowKit

def putL (V : Nat → Value) : Nat → List Value → Nat → Value
  | _, [] => V
  | o, v :: vs => putL (fun j => if j = o then v else V j) (o + 1) vs
theorem putL_at : ∀ (vs : List Value) (V : Nat → Value) (o j : Nat), putL V o vs j = if o ≤ j ∧ j < o + vs.length then vs.getD (j - o) undef else V j
  | [], V, o, j => by
    unfold putL
    rw [if_neg (by simp)]
  | v :: vs, V, o, j => by
    unfold putL
    rw [putL_at vs]
    by_cases h1 : o + 1 ≤ j ∧ j < o + 1 + vs.length
    · rw [if_pos h1, if_pos ⟨by omega, by simp only [List.length_cons]; omega⟩, show j - o = (j - (o + 1)) + 1 by omega]
      rfl
    · rw [if_neg h1]
      by_cases h2 : j = o
      · subst h2
        rw [if_pos rfl, if_pos ⟨Nat.le_refl _, by simp⟩]
        simp
      · rw [if_neg h2, if_neg (by simp only [List.length_cons]; omega)]
theorem Blk.puts {b : Nat} {t : TypeId} {n : Nat} : ∀ (vs : List Value) {w : World} {V : Nat → Value} (o : Nat), Blk w b t n V → Blk (w.setCells b o vs) b t n (putL V o vs)
  | [], _, _, _, h => h
  | v :: vs, _, _, o, h => Blk.puts vs (o + 1) (Blk.put h o v)
theorem Just.puts (b : Nat) : ∀ (vs : List Value) (w : World) (o : Nat), Just b w (w.setCells b o vs)
  | [], w, _ => Just.refl b w
  | v :: vs, w, o => (Just.set b w o v).trans (Just.puts b vs _ (o + 1))
theorem Blk.apart {w : World} {b : Nat} {t : TypeId} {n : Nat} {V : Nat → Value} (h : Blk w b t n V) {p : Addr} (hp : b ≠ p.block) (u : Value) : Blk (w.setCell p u) b t n V := Own.apart h hp u
theorem Blk.there {w : World} {b : Nat} {t : TypeId} {n : Nat} {V : Nat → Value} (h : Blk w b t n V) {o m : Nat} (hm : o + m ≤ n) : w.there b o m := fun j hj =>
  ⟨by rw [h.cell (by omega)]; rfl, h.free _⟩
theorem ofn_cells (F : Nat → Value) (n : Nat) (h : ∀ i, (F i).oneCell' = true) : (Array.ofFn (n := n) fun i => F i).all (·.oneCell') = true := by
  rw [Array.all_eq_true]
  intro i hi
  simp only [Array.getElem_ofFn]
  exact h _

theorem still_load {P : Program} {ops : Array Oper} {w : World} {o : Oper} {a : Act} {rest : List Oper} {Q : Act → Prop} {x : Operand} {ty : TypeId} {g : Nat} {t : TypeId} {cs : Array Value} {fr : Nat × Nat} {d : TypeDesc}
    (hgd : o.guard = none) (ho : o.op = .load ty x) (hx : a.eval x = .pointer (some ⟨g, 0, none⟩)) (hg : w.heap[g]? = some (.cells cs t fr))
    (hu : P.underlying ty = some d) (hd : (match d with | .struct _ | .array _ _ => true | _ => false) = true) (hi : (P.info? ty).map (·.size) = some cs.size)
    (h : wpStill P ops w Q rest (a.put o.dst (.agg cs))) : wpStill P ops w Q (o :: rest) a := by
  have hw : Region.wanted o (yielded ops a.tmps) = true := by simp [Region.wanted, hgd]
  unfold wpStill
  rw [if_pos hw]
  have hrun : (execOp a.eval o).run P w = .ok (.value (.agg cs)) w := by
    unfold execOp
    simp only [ho, hx, Instr.loadAt, Instr.sureAddr, Sem.run_bind, Sem.run_pure, Result.andThen_ok, run_loadVar_row w g t ty cs fr d hg hu hd hi]
  unfold Oper.still
  rw [hrun, Oper.stillUpon_value]
  exact h
end Go.Proofs.Ytiflmdekcjbmbaa.Lb
namespace Go.Proofs.Ytiflmdekcjbmbaa.Lb
set_option linter.unusedVariables false
set_option linter.unusedSimpArgs false
open Go.RowKit

/-- From w to w' nothing has turned but block b, the block of v, and what is new; v' lies there. -/
structure Turn (w w' : World) (b : Nat) (v v' : Value) : Prop where
  os : w'.os = w.os
  tape : w'.tape = w.tape
  output : w'.output = w.output
  size : w.heap.size ≤ w'.heap.size
  keep : ∀ q, q < w.heap.size → q ≠ b → v.ownBlock ≠ some q → w'.heap[q]? = w.heap[q]?
  own : ∀ q, v'.ownBlock = some q → v.ownBlock = some q ∨ w.heap.size ≤ q
theorem Turn.of_below {w w' : World} (h : Below w.heap.size w w') (b : Nat) (v : Value) : Turn w w' b v v := ⟨h.os, h.tape, h.output, h.size, fun q hq _ _ => h.block q hq, fun _ e => .inl e⟩
theorem Turn.of_grown {w w' : World} {v v' : Value} (h : w.grownBy w' v.ownBlock) (ho : v'.ownBlock = v.ownBlock ∨ v'.ownBlock = some w.heap.size) (b : Nat) : Turn w w' b v v' :=
  ⟨h.os, h.tape, h.output, h.size, fun q hq _ hv => h.block q hq (fun e => hv e.symm), fun q e => by
    rcases ho with ho | ho
    · exact .inl (ho ▸ e)
    · rw [ho] at e; injection e with e; exact .inr (by omega)⟩
theorem Turn.of_just {w w' : World} {b : Nat} (h : Just b w w') (v : Value) : Turn w w' b v v := ⟨h.os, h.tape, h.output, h.size, fun q hq hb _ => h.block q hq hb, fun _ e => .inl e⟩
/-- The row's block alone has turned. -/
theorem Turn.of_row {w w' : World} {b g : Nat} {v v' : Value} (h : Just g w w') (hv : v.ownBlock = some g) (hv' : ∀ q, v'.ownBlock = some q → v.ownBlock = some q) : Turn w w' b v v' :=
  ⟨h.os, h.tape, h.output, h.size, fun q hq _ hx => h.block q hq (fun e => hx (e ▸ hv)), fun q e => .inl (hv' q e)⟩
theorem Turn.trans {u v w : World} {b : Nat} {x y z : Value} (h : Turn u v b x y) (k : Turn v w b y z) : Turn u w b x z :=
  ⟨k.os.trans h.os, k.tape.trans h.tape, k.output.trans h.output, Nat.le_trans h.size k.size, fun q hq hb hx => (k.keep q (Nat.lt_of_lt_of_le hq h.size) hb (fun e => (h.own q e).elim hx (fun h' => by omega))).trans (h.keep q hq hb hx),
    fun q e => (k.own q e).elim (fun e' => h.own q e') (fun h' => .inr (Nat.le_trans h.size h'))⟩
theorem Turn.put {w w1 : World} {b : Nat} {v v1 : Value} (h : Turn w w1 b v v1) (i : Nat) (u : Value) : Turn w (w1.setCell ⟨b, i, none⟩ u) b v v1 := h.trans (Turn.of_just (Just.set b w1 i u) v1)
theorem Turn.below {w w' : World} {b base : Nat} {v v' : Value} (h : Turn w w' b v v') (hb : base ≤ b) (hv : ∀ q, v.ownBlock = some q → base ≤ q) (hs : base ≤ w.heap.size) : Below base w w' :=
  ⟨h.os, h.tape, h.output, h.size, fun q hq => h.keep q (by omega) (by omega) (fun e => by have := hv q e; omega)⟩
theorem Turn.box {w w' : World} {b q : Nat} {v v' : Value} {t : TypeId} {cs : Array Value} (j : Turn w w' b v v') (h : Own w q t cs) (hq : q ≠ b) (hv : v.ownBlock ≠ some q) : Own w' q t cs := (j.keep q h.lt hq hv).trans h
theorem own_ty {w : World} {b : Nat} {s t : TypeId} {cs ds : Array Value} (h : Own w b s cs) (g : Own w b t ds) : s = t := by
  unfold Own at h g
  rw [g] at h
  injection h with h
  injection h with _ h _
  exact h.symm
theorem mineK_own {w : World} {base s n : Nat} {e : TypeId} {v : Value} {V : Nat → Value} (h : MineK w base e s v n V) {q : Nat} (hq : v.ownBlock = some q) : ∃ cs, Own w q e cs := by
  obtain ⟨_, h2⟩ := h
  rcases h2 with ⟨hv, _⟩ | ⟨g, cap, cur, hv, _, hh, _⟩
  · subst hv; cases hq
  · subst hv
    have e : some g = some q := hq
    injection e with e
    subst e
    exact ⟨_, hh⟩
theorem mk_low {w : World} {base base' s n : Nat} {e : TypeId} {v : Value} {V : Nat → Value} (h : MineK w base e s v n V) (hb : base' ≤ base) : MineK w base' e s v n V := by
  obtain ⟨h1, h2⟩ := h
  refine ⟨h1, ?_⟩
  rcases h2 with h2 | ⟨g, cap, cur, hv, hg, r⟩
  · exact .inl h2
  · exact .inr ⟨g, cap, cur, hv, Nat.le_trans hb hg, r⟩
theorem mn_low {w : World} {base base' n : Nat} {e : TypeId} {v : Value} {V : Nat → Value} (h : Mine w base e v n V) (hb : base' ≤ base) : Mine w base' e v n V := by
  obtain ⟨h1, h2⟩ := h
  refine ⟨h1, ?_⟩
  rcases h2 with h2 | ⟨g, cap, cur, hv, hg, r⟩
  · exact .inl h2
  · exact .inr ⟨g, cap, cur, hv, Nat.le_trans hb hg, r⟩
/-- A block whose type is none of the two that turn is kept. -/
theorem Turn.ty {w w' : World} {b q base s n : Nat} {v v' : Value} {t e u : TypeId} {cs ds : Array Value} {V : Nat → Value} (j : Turn w w' b v v') (ho : Own w b t ds) (hr : MineK w base e s v n V) (h : Own w q u cs) (h1 : u ≠ t) (h2 : u ≠ e) : Own w' q u cs :=
  j.box h (fun e' => by subst e'; exact h1 (own_ty h ho)) (fun e' => by
    obtain ⟨cs', hc⟩ := mineK_own hr e'
    exact h2 (own_ty h hc))
end Go.Proofs.Ytiflmdekcjbmbaa.Lb
namespace Go.Proofs.Ytiflmdekcjbmbaa.Lb
set_option linter.unusedVariables false
set_option linter.unusedSimpArgs false
open Go.RowKit

/-- 's[:K]'. -/
theorem cut_to {P : Program} (t e : TypeId) (s : Nat) (ht : P.underlying t = some (.slice e)) (hz : ∀ w, (Go.sizeOf e).run P w = .ok s w) (A : Option Addr) (n c K : Nat) (hK : K ≤ c) (w : World) :
    (Instr.slice t (.slice A n c) none (some (.int .i64 (K : Int))) none).run P w = .ok (.slice A K c) w := by
  have ht' : P.underlying t = some (.slice (P.elem t)) := by simp [Program.elem, ht]
  have he : P.elem t = e := by simp [Program.elem, ht]
  rw [run_slice_h w t _ _ _ ht' .i64 _ (by omega) (by omega), he, hz]
  cases A with
  | none => simp [Result.andThen, sliced]
  | some a => simp [Result.andThen, sliced, Addr.add]
/-- 's[K:]': where it begins. -/
def cutA (A : Option Addr) (c K s : Nat) : Option Addr := if c = K then A else A.map (·.add (K * s))
theorem cut_from {P : Program} (t e : TypeId) (s : Nat) (ht : P.underlying t = some (.slice e)) (hz : ∀ w, (Go.sizeOf e).run P w = .ok s w) (A : Option Addr) (n c K : Nat) (hK : K ≤ n) (w : World) :
    (Instr.slice t (.slice A n c) (some (.int .i64 (K : Int))) none none).run P w = .ok (.slice (cutA A c K s) (n - K) (c - K)) w := by
  have ht' : P.underlying t = some (.slice (P.elem t)) := by simp [Program.elem, ht]
  have he : P.elem t = e := by simp [Program.elem, ht]
  rw [run_slice_l w t _ _ _ ht' .i64 _ (by omega) (by omega), he, hz]
  simp [Result.andThen, sliced, cutA]
theorem cut_row {w : World} {A : Option Addr} {n c K s : Nat} {V : Nat → Value} (h : Row w A (n * s) V) (hn : n ≤ c) : Row w (cutA A c K s) ((n - K) * s) (fun i => V (K * s + i)) := fun h0 => by
  have hs : 0 < s := Nat.pos_of_ne_zero (fun e => by subst e; simp at h0)
  have hK : K < n := by
    have := Nat.pos_of_mul_pos_right h0
    omega
  obtain ⟨b, off, rfl, h2, h3⟩ := h (Nat.mul_pos (by omega) hs)
  unfold cutA
  rw [if_neg (by omega)]
  have hm : K * s + (n - K) * s = n * s := by rw [← Nat.add_mul]; congr 1; omega
  refine ⟨b, off + K * s, ?_, h2, fun i hi => ?_⟩
  · show some ((⟨b, off, none⟩ : Addr).add (K * s)) = _
    unfold Addr.add
    split
    · rename_i e
      rw [e]
      rfl
    · rfl
  · rw [Nat.add_assoc]
    exact h3 _ (by omega)
end Go.Proofs.Ytiflmdekcjbmbaa.Lb
set_option maxRecDepth 100000
namespace Go.Proofs.Ytiflmdekcjbmbaa.Lb
set_option linter.unusedVariables false
set_option linter.unusedSimpArgs false
open Go.RowKit

theorem run_copyK {P : Program} (w : World) (dT sT ty elem : TypeId) (k b o dLen dCap : Nat) (a : Addr) (sLen sCap n : Nat) (cs : List Value)
    (hu : P.underlying dT = some (.slice elem)) (hs : (P.info? elem).map (·.size) = some k) (hn : Nat.min sLen dLen = n) (hl : cs.length = n * k)
    (hsrc : ∀ j v, cs[j]? = some v → w.cell? (a.add j) = some v) (hc : w.there b o cs.length) (h1 : ∀ v ∈ cs, v.oneCell' = true) :
    (Builtin.copy_ #[dT, sT] ty #[.slice (some ⟨b, o, none⟩) dLen dCap, .slice (some a) sLen sCap]).run P w = .ok (goInt n) (w.setCells b o cs) := by
  have hlc := run_loadCells_list (P := P) w a cs hsrc
  have hst := run_storeCells_cells (P := P) b o cs 0 w (by simpa using fun j hj => (hc j hj).1) (by simpa using fun j hj => (hc j hj).2) h1
  rw [hl] at hlc
  cases hq : P.info? elem with
  | none => simp [hq] at hs
  | some i =>
    have hi : i.size = k := by simpa [hq] using hs
    simp [Builtin.copy_, run_underlying hu, Builtin.lenOf, Builtin.firstCells, sizeOf, typeInfo, hq, hi, hn, hlc, hst]
theorem op_copy_is {P : Program} (w : World) {o : Oper} {a : Act} {K : Act → World → Prop} {Q : Exit → Act → World → Prop} (d s : Operand) (t t' : TypeId)
    (ho : o.op = .call { callee := .builtin .copy, args := #[d, s], argTypes := #[t, t'] }) (v u : Value) (hd : a.eval d = v) (hs : a.eval s = u) (v' : Value) (w' : World)
    (hr : (Builtin.copy_ #[t, t'] o.type #[v, u]).run P w = .ok v' w') (h : K (a.put o.dst v') w') : o.wp P a w K Q := by
  unfold Oper.wp execOp
  simp only [ho, resolve, invoke, builtin, Sem.run_bind, Sem.run_pure, Result.andThen_ok, List.map_toArray, List.map_cons, List.map_nil, hd, hs, hr]
  exact h
theorem wp_copy_is {P : Program} (w : World) {ops : Array Oper} {rest : List Oper} {o : Oper} {a : Act} {Q : Exit → Act → World → Prop} (hgd : o.guard = none) (d s : Operand) (t t' : TypeId)
    (ho : o.op = .call { callee := .builtin .copy, args := #[d, s], argTypes := #[t, t'] }) (v u : Value) (hd : a.eval d = v) (hs : a.eval s = u) (v' : Value) (w' : World)
    (hr : (Builtin.copy_ #[t, t'] o.type #[v, u]).run P w = .ok v' w') (h : wpList P ops Q rest (a.put o.dst v') w') : wpList P ops Q (o :: rest) a w :=
  wpList_plain hgd fun _ hK => op_copy_is w d s t t' ho v u hd hs v' w' hr (hK _ _ h)
theorem step_copy_is {P : Program} {w : World} {ops : Array Oper} {o : Oper} {a : Act} {K : Act → World → Prop} {Q : Exit → Act → World → Prop} {E : Prop} (hgd : o.guard = none) (d s : Operand) (t t' : TypeId)
    (ho : o.op = .call { callee := .builtin .copy, args := #[d, s], argTypes := #[t, t'] }) (v u : Value) (hd : a.eval d = v) (hs : a.eval s = u) (v' : Value) (w' : World)
    (hr : (Builtin.copy_ #[t, t'] o.type #[v, u]).run P w = .ok v' w') (h : K (a.put o.dst v') w') : if Region.wanted o (yielded ops a.tmps) = true then Oper.wp P o a w K Q else E := by
  have hw : Region.wanted o (yielded ops a.tmps) = true := by simp [Region.wanted, hgd]
  rw [if_pos hw]
  exact op_copy_is w d s t t' ho v u hd hs v' w' hr h
/-- One struct of k cells put in ahead of struct i. -/
def insK (k i : Nat) (V U : Nat → Value) (q : Nat) : Value := if q < i * k then V q else if q < i * k + k then U (q - i * k) else V (q - k)
theorem insK_end (k n : Nat) (V U : Nat → Value) : ∀ q, q < (n + 1) * k → (if q < n * k then V q else U (q - n * k)) = insK k n V U q := by
  intro q hq
  unfold insK
  rw [Nat.add_mul, Nat.one_mul] at hq
  by_cases h : q < n * k
  · rw [if_pos h, if_pos h]
  · rw [if_neg h, if_neg h, if_pos hq]
/-- Of n structs those that are kept by p, in their order: the cells. -/
def cellsOf {α : Type} (k : Nat) (enc : α → Nat → Value) (d : α) (l : List α) (q : Nat) : Value := enc (l.getD (q / k) d) (q % k)
theorem mineK_made {w : World} {base g c s : Nat} {e : TypeId} {n : Nat} {F V : Nat → Value} (h : Blk w g e (c * s) F) (hb : base ≤ g) (hm : c ≤ maxLen) (hn : n ≤ c) (hv : ∀ i, i < n * s → F i = V i) :
    MineK w base e s (.slice (some ⟨g, 0, none⟩) n c) n V :=
  MineK.made h hb (by simp) hm hn (fun j hj => by
    have hle : n * s ≤ c * s := Nat.mul_le_mul_right s hn
    have hj2 : j < c * s := by omega
    rw [Array.getElem?_eq_getElem (by simpa using hj2), Array.getElem_ofFn]
    exact congrArg some (hv j hj))
theorem blk_of {w : World} {g : Nat} {e : TypeId} {n : Nat} {cs : Array Value} (h : Own w g e cs) (hs : cs.size = n) : Blk w g e n (fun j => cs.getD j undef) :=
  Blk.of h hs (fun j hj => by
    rw [Array.getElem?_eq_getElem (by omega), Array.getD_eq_getD_getElem?, Array.getElem?_eq_getElem (by omega)]
    rfl)
theorem shape_blk {w : World} {g : Nat} {e : TypeId} {cs : Array Value} (h : Own w g e cs) : w.shape? g = some (e, cs.size) := by
  unfold Own at h
  simp [World.shape?, h]
theorem grown_setCells {w w1 : World} {row : Option Nat} {g : Nat} (h : w.grownBy w1 row) (hg : row = some g ∨ w.heap.size ≤ g) (o : Nat) (vs : List Value) : w.grownBy (w1.setCells g o vs) row := by
  have j := Just.puts g vs w1 o
  refine ⟨j.os.trans h.os, j.tape.trans h.tape, j.output.trans h.output, Nat.le_trans h.size j.size, fun q hq hr => ?_⟩
  refine (j.block q (Nat.lt_of_lt_of_le hq h.size) (fun e => ?_)).trans (h.block q hq hr)
  rcases hg with e1 | e1
  · subst e; exact hr e1.symm
  · omega
theorem grown_drew {w : World} (row : Option Nat) (n : Nat) : w.grownBy (w.drewN n) row := ⟨rfl, rfl, rfl, Nat.le_refl _, fun _ _ _ => rfl⟩
theorem grown_refl (w : World) (row : Option Nat) : w.grownBy w row := ⟨rfl, rfl, rfl, Nat.le_refl _, fun _ _ _ => rfl⟩
theorem grown_alloc {w w1 : World} {row : Option Nat} (h : w.grownBy w1 row) (o : Obj) : w.grownBy (w1.alloc o) row :=
  ⟨h.os, h.tape, h.output, Nat.le_trans h.size (by simp), fun q hq hr => (Below.heap_alloc w1 o q (Nat.lt_of_lt_of_le hq h.size)).trans (h.block q hq hr)⟩
theorem grown_drewN {w w1 : World} {row : Option Nat} (h : w.grownBy w1 row) (n : Nat) : w.grownBy (w1.drewN n) row := ⟨h.os, h.tape, h.output, h.size, h.block⟩
theorem grown_trans {w w1 w2 : World} {r s : Option Nat} (h : w.grownBy w1 r) (h2 : w1.grownBy w2 s) (hs : ∀ q, s = some q → r = some q ∨ w.heap.size ≤ q) : w.grownBy w2 r :=
  ⟨h2.os.trans h.os, h2.tape.trans h.tape, h2.output.trans h.output, Nat.le_trans h.size h2.size, fun q hq hr => by
    refine (h2.block q (Nat.lt_of_lt_of_le hq h.size) (fun e => ?_)).trans (h.block q hq hr)
    rcases hs q e.symm with e1 | e1
    · exact hr e1.symm
    · omega⟩
theorem below_grown {w w' : World} (h : Below w.heap.size w w') (row : Option Nat) : w.grownBy w' row := ⟨h.os, h.tape, h.output, h.size, fun q hq _ => h.block q hq⟩
end Go.Proofs.Ytiflmdekcjbmbaa.Lb
namespace Go.Proofs.Ytiflmdekcjbmbaa.Lb
set_option linter.unusedVariables false
set_option linter.unusedSimpArgs false
open Go.RowKit

theorem Own.setRow {w : World} {b : Nat} {t : TypeId} {cs : Array Value} (h : Own w b t cs) (ds : Array Value) : Own (w.setRow b ds) b t ds := setRow_heap w b cs ds t (0, 0) h
theorem Just.setRow (b : Nat) (w : World) (ds : Array Value) : Just b w (w.setRow b ds) :=
  ⟨rfl, rfl, rfl, by simp, fun k _ hk => setRow_other w b k ds hk⟩

/-- The last region of a function whose result lies in a variable: a row is loaded and stored there. -/
theorem wp_row_out {P : Program} {id : Nat} {t1 t2 : TypeId} {x y z : Operand} {o1 o2 : Oper} {a : Act} {w : World} {Q : Exit → Act → World → Prop} {g b : Nat} {ta tb : TypeId} {cs old : Array Value} {d : TypeDesc}
    (g1 : o1.guard = none) (h1 : o1.op = .load t1 x) (g2 : o2.guard = none) (h2 : o2.op = .store t2 y z)
    (hx : a.eval x = .pointer (some ⟨g, 0, none⟩)) (hg : Own w g ta cs) (hu : P.underlying t1 = some d) (hd : (match d with | .struct _ | .array _ _ => true | _ => false) = true) (hi : (P.info? t1).map (·.size) = some cs.size)
    (hy : (a.put o1.dst (.agg cs)).eval y = .pointer (some ⟨b, 0, none⟩)) (hz : (a.put o1.dst (.agg cs)).eval z = .agg cs) (hb : Own w b tb old) (hi2 : (P.info? t2).map (·.size) = some cs.size) (hs : old.size = cs.size)
    (h1c : cs.all (·.oneCell') = true)
    (h : Q .normal ((a.put o1.dst (.agg cs)).put o2.dst undef) (w.setRow b cs)) :
    (Code.region id #[o1, o2] false).wp P Q a w := by
  refine wp_region_lit (l := [o1, o2]) ?_
  refine wpList_load_row g1 t1 x h1 g hx ta cs (0, 0) d hg hu hd hi ?_
  refine wpList_store_row g2 t2 y z h2 b cs hy hz tb old hb hi2 hs h1c ?_
  exact h

/-- A row is built and stored: inside a region. -/
theorem wpList_build_store {P : Program} {ops : Array Oper} {rest : List Oper} {t : TypeId} {parts : Array (Nat × Operand)} {y z : Operand} {o1 o2 : Oper} {a : Act} {w : World} {Q : Exit → Act → World → Prop} {b : Nat} {tb : TypeId} (cs : Array Value) {old : Array Value}
    (g1 : o1.guard = none) (h1 : o1.op = .build t parts) (g2 : o2.guard = none) (h2 : o2.op = .store t y z)
    (hB0 : P.built t (parts.toList.map fun (i, x) => (i, a.eval x)) = some cs)
    (hy : (a.put o1.dst (.agg cs)).eval y = .pointer (some ⟨b, 0, none⟩)) (hz : (a.put o1.dst (.agg cs)).eval z = .agg cs) (hb : Own w b tb old) (hi2 : (P.info? t).map (·.size) = some cs.size) (hs : old.size = cs.size)
    (h1c : cs.all (·.oneCell') = true)
    (h : wpList P ops Q rest ((a.put o1.dst (.agg cs)).put o2.dst undef) (w.setRow b cs)) :
    wpList P ops Q (o1 :: o2 :: rest) a w := by
  have hB : P.built t (parts.map fun (i, x) => (i, a.eval x)).toList = some cs := by rw [Array.toList_map]; exact hB0
  refine wpList_build g1 t parts h1 (by rw [hB]; rfl) ?_
  rw [hB, Option.getD_some]
  exact wpList_store_row g2 t y z h2 b cs hy hz tb old hb hi2 hs h1c h
/-- A row is built. -/
theorem wpList_built {P : Program} {ops : Array Oper} {rest : List Oper} {t : TypeId} {parts : Array (Nat × Operand)} {o1 : Oper} {a : Act} {w : World} {Q : Exit → Act → World → Prop} (cs : Array Value)
    (g1 : o1.guard = none) (h1 : o1.op = .build t parts) (hB0 : P.built t (parts.toList.map fun (i, x) => (i, a.eval x)) = some cs)
    (h : wpList P ops Q rest (a.put o1.dst (.agg cs)) w) : wpList P ops Q (o1 :: rest) a w := by
  have hB : P.built t (parts.map fun (i, x) => (i, a.eval x)).toList = some cs := by rw [Array.toList_map]; exact hB0
  refine wpList_build g1 t parts h1 (by rw [hB]; rfl) ?_
  rw [hB, Option.getD_some]
  exact h
/-- A variable is made and a row stored there: inside a region. -/
theorem wpList_alloc_store {P : Program} {ops : Array Oper} {rest : List Oper} {t t2 : TypeId} {y z : Operand} {o1 o2 : Oper} {a : Act} {w : World} {Q : Exit → Act → World → Prop} {zs : Array Value} (cs : Array Value)
    (g1 : o1.guard = none) (h1 : o1.op = .alloc t) (g2 : o2.guard = none) (h2 : o2.op = .store t2 y z)
    (hi : (P.info? t).map (fun i => (i.zero, i.size)) = some (some (.agg zs), zs.size))
    (hy : (a.put o1.dst (.pointer (some ⟨w.heap.size, 0, none⟩))).eval y = .pointer (some ⟨w.heap.size, 0, none⟩)) (hz : (a.put o1.dst (.pointer (some ⟨w.heap.size, 0, none⟩))).eval z = .agg cs)
    (hi2 : (P.info? t2).map (·.size) = some cs.size) (hs : zs.size = cs.size) (h1c : cs.all (·.oneCell') = true)
    (h : wpList P ops Q rest ((a.put o1.dst (.pointer (some ⟨w.heap.size, 0, none⟩))).put o2.dst undef) (w.alloc (.cells cs t))) :
    wpList P ops Q (o1 :: o2 :: rest) a w := by
  obtain ⟨hz0, hs0⟩ := zero_of_info hi
  have hrun : (execOp a.eval o1).run P w = .ok (.value (.pointer (some ⟨w.heap.size, 0, none⟩))) (w.alloc (.cells zs t)) := by
    unfold execOp
    simp only [h1, Instr.alloc, Sem.run_bind, hz0, Result.andThen_ok]
    rfl
  refine wpList_plain g1 fun K hK => ?_
  unfold Oper.wp
  rw [hrun, Oper.upon_value]
  refine hK _ _ ?_
  refine wpList_store_row g2 t2 y z h2 w.heap.size cs hy hz t zs (heap_alloc_new w _) hi2 hs h1c ?_
  rw [World.setRow_alloc_new]
  exact h
end Go.Proofs.Ytiflmdekcjbmbaa.Lb
namespace Go.Proofs.Ytiflmdekcjbmbaa.Lb
set_option linter.unusedVariables false
set_option linter.unusedSimpArgs false
open Go.RowKit

theorem results_row_tmp2 {P : Program} {fn : Func} {p t u : Tmp} {ty : TypeId} (h : fn.results = #[.cell p ty, .tmp t, .tmp u]) (tmps : Array Value) (w : World) (g : Nat) (tg : TypeId) (cs : Array Value) (fr : Nat × Nat) (d : TypeDesc)
    (hp : tmps.getD p undef = .pointer (some ⟨g, 0, none⟩)) (hg : w.heap[g]? = some (.cells cs tg fr))
    (hu : P.underlying ty = some d) (hd : (match d with | .struct _ | .array _ _ => true | _ => false) = true) (hi : (P.info? ty).map (·.size) = some cs.size) :
    (results fn tmps).run P w = .ok (.tuple #[.agg cs, tmps.getD t undef, tmps.getD u undef]) w := by
  have hp' : tmps[p]?.getD undef = .pointer (some ⟨g, 0, none⟩) := by simpa using hp
  simp [results, h, hp', asAddr, run_loadVar_row w g tg ty cs fr d hg hu hd hi]
theorem results_row_tmp {P : Program} {fn : Func} {p t : Tmp} {ty : TypeId} (h : fn.results = #[.cell p ty, .tmp t]) (tmps : Array Value) (w : World) (g : Nat) (tg : TypeId) (cs : Array Value) (fr : Nat × Nat) (d : TypeDesc)
    (hp : tmps.getD p undef = .pointer (some ⟨g, 0, none⟩)) (hg : w.heap[g]? = some (.cells cs tg fr))
    (hu : P.underlying ty = some d) (hd : (match d with | .struct _ | .array _ _ => true | _ => false) = true) (hi : (P.info? ty).map (·.size) = some cs.size) :
    (results fn tmps).run P w = .ok (.tuple #[.agg cs, tmps.getD t undef]) w := by
  have hp' : tmps[p]?.getD undef = .pointer (some ⟨g, 0, none⟩) := by simpa using hp
  simp [results, h, hp', asAddr, run_loadVar_row w g tg ty cs fr d hg hu hd hi]
theorem run_row {P : Program} {w : World} {g : Nat} {t : TypeId} {cur cs : Array Value} (h : Own w g t cur) (hs : cur.size = cs.size) (h1 : cs.all (·.oneCell') = true) :
    (storeCells ⟨g, 0, none⟩ cs.toList).run P w = .ok () (w.setRow g cs) := by
  have h1' : ∀ v ∈ cs.toList, v.oneCell' = true := fun v hv => by
    obtain ⟨i, hi, e⟩ := List.getElem_of_mem hv
    rw [← e]
    exact (Array.all_eq_true.1 h1) i (by simpa using hi)
  have := run_storeCells_from (P := P) g t cs.toList 0 cur w h (by simp [hs]) h1'
  simpa using this
theorem cell_row {w : World} {g b o : Nat} (cs : Array Value) {v : Value} (h : w.cell? ⟨b, o, none⟩ = some v) (hb : b ≠ g) : (w.setRow g cs).cell? ⟨b, o, none⟩ = some v :=
  (World.cell?_of_block (a := ⟨b, o, none⟩) ((Just.setRow g w cs).block b (lt_of_cell h) hb)).trans h
end Go.Proofs.Ytiflmdekcjbmbaa.Lb
namespace Go.Proofs.Ytiflmdekcjbmbaa.Lb
set_option linter.unusedVariables false
set_option linter.unusedSimpArgs false
open Go.RowKit

/-- A world behind 'v': what was there is as it was; 'loose' says which blocks may still turn. -/
structure Gw (v : World) where
  toW : World
  ok : Below v.heap.size v toW
  loose : Nat → Prop
section
variable {v : World}
/-- Nothing that is there turns. -/
structure Gw.still (s s' : Gw v) : Prop where
  below : Below s.toW.heap.size s.toW s'.toW
  loose : ∀ k, k < s.toW.heap.size → (s'.loose k ↔ s.loose k)
/-- What is loose may turn. -/
structure Gw.grows (s s' : Gw v) : Prop where
  size : s.toW.heap.size ≤ s'.toW.heap.size
  block : ∀ k, k < s.toW.heap.size → ¬ s.loose k → s'.toW.heap[k]? = s.toW.heap[k]?
  loose : ∀ k, k < s.toW.heap.size → (s'.loose k → s.loose k)
theorem Gw.still.to {s s' : Gw v} (h : s.still s') : s.grows s' := ⟨h.below.size, fun k hk _ => h.below.block k hk, fun k hk => (h.loose k hk).1⟩
/-- The kinds. -/
inductive Kd (v : World) where
  | is (x : Value)
  | of (p : Value → Gw v → Prop) (h : ∀ x s s', Gw.grows s s' → p x s → p x s')
  | grow (p : Value → Gw v → Prop) (h : ∀ x s s', Gw.still s s' → p x s → p x s')
def Kd.ty : Kd v → Ty (Gw v)
  | .is x => .is x
  | .of p _ => .of p
  | .grow p _ => .of p
def Kd.grew : Kd v → Bool
  | .grow _ _ => true
  | _ => false
theorem Kd.still (k : Kd v) {x : Value} {s s' : Gw v} (h : s.still s') (hk : k.ty.holds x s) : k.ty.holds x s' := by
  cases k with
  | is u => exact hk
  | of p hp => exact hp x s s' h.to hk
  | grow p hp => exact hp x s s' h hk
theorem Kd.grows (k : Kd v) (hg : k.grew = false) {x : Value} {s s' : Gw v} (h : s.grows s') (hk : k.ty.holds x s) : k.ty.holds x s' := by
  cases k with
  | is u => exact hk
  | of p hp => exact hp x s s' h hk
  | grow p hp => cases hg
def gKill (l : List Oper) (Ks : List (Kd v)) (app : List Nat) (i j : Nat) : Bool := app.contains i && (match Ks[j]? with
  | some k => k.grew
  | none => false) && (match l[i]? with
  | some o => bindsOn o j
  | none => false)
def growB (l : List Oper) (Ks : List (Kd v)) (app : List Nat) : Bool :=
  app.all fun i => (List.range Ks.length).all fun j => match Ks[j]? with
    | some k => !k.grew || !freeB l (gKill l Ks app) i j
    | none => true
def gR (app : List Nat) (i : Nat) (s s' : Gw v) : Prop := if app.contains i then s.grows s' else s.still s'
theorem gKill_out (l : List Oper) (Ks : List (Kd v)) (app : List Nat) (i j : Nat) (h : l.length ≤ i) : gKill l Ks app i j = false := by
  unfold gKill
  rw [List.getElem?_eq_none h]
  simp
theorem gStab {l : List Oper} {Ks : List (Kd v)} {app : List Nat} (hg : growB l Ks app = true) (i j : Nat) (T : Ty (Gw v)) (hT : (Ks.map Kd.ty)[j]? = some T) (hf : freeB l (gKill l Ks app) i j = true) (x : Value) (s s' : Gw v) (hR : gR app i s s') (hx : T.holds x s) : T.holds x s' := by
  unfold growB at hg
  rw [List.getElem?_map] at hT
  obtain ⟨k, hk, rfl⟩ := Option.map_eq_some_iff.1 hT
  unfold gR at hR
  split at hR
  · rename_i hi
    have hj : j < Ks.length := (List.getElem?_eq_some_iff.1 hk).1
    have h1 := List.all_eq_true.1 (List.all_eq_true.1 hg i (by simpa using hi)) j (List.mem_range.2 hj)
    rw [hk] at h1
    dsimp only at h1
    rw [hf] at h1
    exact k.grows (by simpa using h1) hR hx
  · exact k.still hR hx
theorem wp_region_grow {P : Program} {l : List Oper} {a : Act} {id : Nat} {w : World} {Q : Exit → Act → World → Prop} (v : World) (hv : Below v.heap.size v w) (Ks : List (Kd v)) (app : List Nat) (hm : P.follows .mixedOrders = true) (hB : tyB l.toArray a.tmps.size = true) (hlen : Ks.length = l.length) (hg : growB l Ks app = true)
    (h : wpTy P l.toArray (gKill l Ks app) Gw.toW (gR app) (fun done a' => ∀ s : Gw v, (∀ (j : Nat) (T : Ty (Gw v)) x, done[j]? = some (T, x) → (∀ i, i < l.length → gKill l Ks app i j = false) → T.holds x s) → Q .normal a' s.toW) l (Ks.map Kd.ty) [] a) : (Code.region id l.toArray true).wp P Q a w := by
  refine wp_region_typedK Gw.toW (gR app) (gKill l Ks app) (Ks.map Kd.ty) ⟨w.drew, ⟨hv.os, hv.tape, hv.output, hv.size, hv.block⟩, fun _ => False⟩ hm hB (by simpa using hlen) rfl (gKill_out l Ks app) (fun i j T hT hf x s s' => gStab hg i j T hT hf x s s') h
/-- The same, with a last operation that may turn anything. -/
theorem wp_region_tail {P : Program} {l : List Oper} {o : Oper} {a : Act} {id : Nat} {w : World} {Q : Exit → Act → World → Prop} (v : World) (hv : Below v.heap.size v w) (Ks : List (Kd v)) (app : List Nat) (hm : P.follows .mixedOrders = true) (hB : tyB l.toArray a.tmps.size = true) (ht : tailB l o = true) (hlen : Ks.length = l.length) (hg : growB l Ks app = true)
    (h : wpTy P l.toArray (gKill l Ks app) Gw.toW (gR app) (fun done a' => ∀ s : Gw v, (∀ (j : Nat) (T : Ty (Gw v)) x, done[j]? = some (T, x) → (∀ i, i < l.length → gKill l Ks app i j = false) → T.holds x s) →
      if Region.wanted o (yielded (l ++ [o]).toArray a'.tmps) = true then Oper.wp P o a' s.toW (fun a2 w2 => Q .normal a2 w2) Q else Q .normal (a'.put o.dst undef) s.toW) l (Ks.map Kd.ty) [] a) : (Code.region id (l ++ [o]).toArray true).wp P Q a w :=
  wp_region_typedT Gw.toW (gR app) (gKill l Ks app) (Ks.map Kd.ty) ⟨w.drew, ⟨hv.os, hv.tape, hv.output, hv.size, hv.block⟩, fun _ => False⟩ hm hB ht (by simpa using hlen) rfl (gKill_out l Ks app) (fun i j T hT hf x s s' => gStab hg i j T hT hf x s s') h
inductive Snoc {α : Type} : List α → List α → α → Prop where
  | one (o : α) : Snoc [o] [] o
  | cons (x : α) {r l : List α} {o : α} (h : Snoc r l o) : Snoc (x :: r) (x :: l) o
theorem Snoc.eq {α : Type} {ll l : List α} {o : α} (h : Snoc ll l o) : ll = l ++ [o] := by
  induction h with
  | one o => rfl
  | cons x _ ih => rw [ih]; rfl
/-- The region written out, its last operation apart: 'apply wp_tail_start; case hl => repeat (first | exact Snoc.one _ | apply Snoc.cons)'. -/
theorem wp_tail_start {P : Program} {ll l : List Oper} {o : Oper} {a : Act} {id : Nat} {w : World} {Q : Exit → Act → World → Prop} (hl : Snoc ll l o) (h : (Code.region id (l ++ [o]).toArray true).wp P Q a w) : (Code.region id ll.toArray true).wp P Q a w := by
  obtain rfl := hl.eq
  exact h
/-- A row that stands. -/
def rowP (v : World) (n : Nat) (V : Nat → Value) (x : Value) (s : Gw v) : Prop := ∃ A c, x = .slice A n c ∧ n ≤ c ∧ c ≤ maxLen ∧ Row s.toW A n V ∧ (0 < n → ∀ p, A = some p → p.block < s.toW.heap.size ∧ ¬ s.loose p.block)
theorem rowP_grows (v : World) (n : Nat) (V : Nat → Value) (x : Value) (s s' : Gw v) (h : s.grows s') (hx : rowP v n V x s) : rowP v n V x s' := by
  obtain ⟨A, c, rfl, h1, h2, h3, h4⟩ := hx
  refine ⟨A, c, rfl, h1, h2, fun h0 => ?_, fun h0 p hp => ?_⟩
  · obtain ⟨b, off, rfl, hb, hc⟩ := h3 h0
    obtain ⟨h5, h6⟩ := h4 h0 _ rfl
    exact ⟨b, off, rfl, Nat.lt_of_lt_of_le hb h.size, fun i hi => (World.cell?_of_block (a := ⟨b, off + i, none⟩) (h.block b h5 h6)).trans (hc i hi)⟩
  · obtain ⟨h5, h6⟩ := h4 h0 p hp
    exact ⟨Nat.lt_of_lt_of_le h5 h.size, fun q => h6 (h.loose _ h5 q)⟩
def Kd.row (v : World) (n : Nat) (V : Nat → Value) : Kd v := .of (rowP v n V) (rowP_grows v n V)
/-- A value that holds a row that stands. -/
def viaP (v : World) (f : Value → Value) (n : Nat) (V : Nat → Value) (x : Value) (s : Gw v) : Prop := ∃ y, x = f y ∧ rowP v n V y s
def Kd.via (v : World) (f : Value → Value) (n : Nat) (V : Nat → Value) : Kd v := .of (viaP v f n V) (fun _ s s' h ⟨y, e, hy⟩ => ⟨y, e, rowP_grows v n V y s s' h hy⟩)
/-- A row, where nothing grows. -/
def rowS (v : World) (n : Nat) (V : Nat → Value) (x : Value) (s : Gw v) : Prop := ∃ A c, x = .slice A n c ∧ n ≤ c ∧ c ≤ maxLen ∧ Row s.toW A n V
theorem rowS_still (v : World) (n : Nat) (V : Nat → Value) (x : Value) (s s' : Gw v) (h : s.still s') (hx : rowS v n V x s) : rowS v n V x s' := by
  obtain ⟨A, c, rfl, h1, h2, h3⟩ := hx
  exact ⟨A, c, rfl, h1, h2, h3.below h.below⟩
def Kd.rows (v : World) (n : Nat) (V : Nat → Value) : Kd v := .grow (rowS v n V) (rowS_still v n V)
/-- A value that holds one. -/
def viaS (v : World) (f : Value → Value) (n : Nat) (V : Nat → Value) (x : Value) (s : Gw v) : Prop := ∃ y, x = f y ∧ rowS v n V y s
def Kd.vias (v : World) (f : Value → Value) (n : Nat) (V : Nat → Value) : Kd v := .grow (viaS v f n V) (fun _ s s' h ⟨y, e, hy⟩ => ⟨y, e, rowS_still v n V y s s' h hy⟩)
/-- A value that holds a row in memory from lo on. -/
def viaL (v : World) (lo : Nat) (f : Value → Value) (n : Nat) (V : Nat → Value) (x : Value) (s : Gw v) : Prop := ∃ A c, x = f (.slice A n c) ∧ n ≤ c ∧ c ≤ maxLen ∧ Row s.toW A n V ∧ ∀ p, A = some p → lo ≤ p.block
theorem viaL_still (v : World) (lo : Nat) (f : Value → Value) (n : Nat) (V : Nat → Value) (x : Value) (s s' : Gw v) (h : s.still s') (hx : viaL v lo f n V x s) : viaL v lo f n V x s' := by
  obtain ⟨A, c, rfl, h1, h2, h3, h4⟩ := hx
  exact ⟨A, c, rfl, h1, h2, h3.below h.below, h4⟩
def Kd.vial (v : World) (lo : Nat) (f : Value → Value) (n : Nat) (V : Nat → Value) : Kd v := .grow (viaL v lo f n V) (viaL_still v lo f n V)
/-- A row of one's own that may grow. -/
def growP (v : World) (e : TypeId) (n : Nat) (V : Nat → Value) (x : Value) (s : Gw v) : Prop := Mine s.toW v.heap.size e x n V ∧ ∀ b, x.ownBlock = some b → s.loose b
theorem growP_still (v : World) (e : TypeId) (n : Nat) (V : Nat → Value) (x : Value) (s s' : Gw v) (h : s.still s') (hx : growP v e n V x s) : growP v e n V x s' := by
  obtain ⟨h1, h2⟩ := hx
  refine ⟨h1.kept (fun b _ => by
    rcases Nat.lt_or_ge b s.toW.heap.size with hb | hb
    · exact .inl (h.below.block b hb)
    · exact .inr (fun e => by have := (h1.lt b e).2; omega)), fun b hb => ?_⟩
  have := (h1.lt b hb).2
  exact (h.loose b this).2 (h2 b hb)
def Kd.own (v : World) (e : TypeId) (n : Nat) (V : Nat → Value) : Kd v := .grow (growP v e n V) (growP_still v e n V)
theorem Gw.still.refl (s : Gw v) : s.still s := ⟨Below.refl _ _, fun _ _ => Iff.rfl⟩
/-- Behind what makes memory and turns nothing; what is new stands. -/
def Gw.to (s : Gw v) (w' : World) (h : Below s.toW.heap.size s.toW w') : Gw v := ⟨w', s.ok.trans (h.mono s.ok.size), fun k => k < s.toW.heap.size ∧ s.loose k⟩
theorem Gw.to_still (s : Gw v) (w' : World) (h : Below s.toW.heap.size s.toW w') : s.still (s.to w' h) := ⟨h, fun k hk => ⟨fun q => q.2, fun q => ⟨hk, q⟩⟩⟩
/-- The same; what is new may grow. -/
def Gw.new (s : Gw v) (w' : World) (h : Below s.toW.heap.size s.toW w') : Gw v := ⟨w', s.ok.trans (h.mono s.ok.size), fun k => s.toW.heap.size ≤ k ∨ s.loose k⟩
theorem Gw.new_still (s : Gw v) (w' : World) (h : Below s.toW.heap.size s.toW w') : s.still (s.new w' h) := ⟨h, fun k hk => ⟨fun q => q.elim (fun q => absurd q (by omega)) id, .inr⟩⟩
variable {P : Program} {ops : Array Oper} {Qf : Done (Gw v) → Act → Prop} {o : Oper} {l : List Oper} {Ks : List (Kd v)} {done : Done (Gw v)} {a : Act} {app : List Nat} {kill : Nat → Nat → Bool}
theorem gR_still {s s' : Gw v} {i : Nat} (h : s.still s') : gR app i s s' := by
  unfold gR
  split
  · exact h.to
  · exact h
theorem kd_is {u : Value} (hw : Region.wanted o (yielded ops a.tmps) = true)
    (h1 : ∀ s : Gw v, Facts kill ops.size o done s → ∀ (K : Act → World → Prop) (Q : Exit → Act → World → Prop), (∀ a' w', a' = a.put o.dst u → w' = s.toW → K a' w') → Oper.wp P o a s.toW K Q)
    (h2 : wpTy P ops kill Gw.toW (gR app) Qf l (Ks.map Kd.ty) (done ++ [(.is u, u)]) (a.put o.dst u)) : wpTy P ops kill Gw.toW (gR app) Qf (o :: l) ((Kd.is u :: Ks).map Kd.ty) done a :=
  ⟨fun s hs K Q hK => by rw [if_pos hw]; exact h1 s hs K Q (fun a' w' e1 e2 => by rw [e1, e2]; exact hK u s (gR_still (.refl s)) rfl), h2⟩
theorem kd_isc {u : Value} (hw : Region.wanted o (yielded ops a.tmps) = true)
    (h1 : ∀ s : Gw v, Facts kill ops.size o done s → ∀ (K : Act → World → Prop) (Q : Exit → Act → World → Prop), (∀ a' w', a' = a.put o.dst u → Below s.toW.heap.size s.toW w' → K a' w') → Oper.wp P o a s.toW K Q)
    (h2 : wpTy P ops kill Gw.toW (gR app) Qf l (Ks.map Kd.ty) (done ++ [(.is u, u)]) (a.put o.dst u)) : wpTy P ops kill Gw.toW (gR app) Qf (o :: l) ((Kd.is u :: Ks).map Kd.ty) done a :=
  ⟨fun s hs K Q hK => by rw [if_pos hw]; exact h1 s hs K Q (fun a' w' e1 e2 => by rw [e1]; exact hK u (s.to w' e2) (gR_still (s.to_still w' e2)) rfl), h2⟩
theorem kd_skip (hw : Region.wanted o (yielded ops a.tmps) = false)
    (h2 : wpTy P ops kill Gw.toW (gR app) Qf l (Ks.map Kd.ty) (done ++ [(.is undef, undef)]) (a.put o.dst undef)) : wpTy P ops kill Gw.toW (gR app) Qf (o :: l) ((Kd.is undef :: Ks).map Kd.ty) done a :=
  ⟨fun s hs K Q hK => by rw [if_neg (by rw [hw]; decide)]; exact hK undef s (gR_still (.refl s)) rfl, h2⟩
theorem kd_of {p : Value → Gw v → Prop} {hp} (hw : Region.wanted o (yielded ops a.tmps) = true)
    (h1 : ∀ s : Gw v, Facts kill ops.size o done s → ∀ (K : Act → World → Prop) (Q : Exit → Act → World → Prop), (∀ a' w', (∃ x s', a' = a.put o.dst x ∧ w' = s'.toW ∧ s.still s' ∧ p x s') → K a' w') → Oper.wp P o a s.toW K Q)
    (h2 : ∀ x, wpTy P ops kill Gw.toW (gR app) Qf l (Ks.map Kd.ty) (done ++ [(.of p, x)]) (a.put o.dst x)) : wpTy P ops kill Gw.toW (gR app) Qf (o :: l) ((Kd.of p hp :: Ks).map Kd.ty) done a :=
  ⟨fun s hs K Q hK => by rw [if_pos hw]; exact h1 s hs K Q (fun a' w' ⟨x, s', e1, e2, e3, e4⟩ => by rw [e1, e2]; exact hK x s' (gR_still e3) e4), h2⟩
theorem kd_grow {p : Value → Gw v → Prop} {hp} (hw : Region.wanted o (yielded ops a.tmps) = true)
    (h1 : ∀ s : Gw v, Facts kill ops.size o done s → ∀ (K : Act → World → Prop) (Q : Exit → Act → World → Prop), (∀ a' w', (∃ x s', a' = a.put o.dst x ∧ w' = s'.toW ∧ s.still s' ∧ p x s') → K a' w') → Oper.wp P o a s.toW K Q)
    (h2 : ∀ x, wpTy P ops kill Gw.toW (gR app) Qf l (Ks.map Kd.ty) (done ++ [(.of p, x)]) (a.put o.dst x)) : wpTy P ops kill Gw.toW (gR app) Qf (o :: l) ((Kd.grow p hp :: Ks).map Kd.ty) done a :=
  ⟨fun s hs K Q hK => by rw [if_pos hw]; exact h1 s hs K Q (fun a' w' ⟨x, s', e1, e2, e3, e4⟩ => by rw [e1, e2]; exact hK x s' (gR_still e3) e4), h2⟩
theorem fact_at {s : Gw v} {n : Nat} (hs : Facts kill n o done s) (j : Nat) (p : Value → Gw v → Prop) (x : Value) (h1 : done[j]? = some (.of p, x)) (h2 : bindsOn o j = true) (h3 : aliveB kill n done.length j = true) : p x s := hs j (.of p) x h1 h2 h3
theorem exec_free (ρ : Operand → Value) (o : Oper) : execOp ρ { o with guard := none } = execOp ρ o := by
  obtain ⟨dst, op, type, pos, after, guard⟩ := o
  cases op <;> rfl
theorem wp_free {w : World} {K : Act → World → Prop} {Q : Exit → Act → World → Prop} (h : Oper.wp P { o with guard := none } a w K Q) : Oper.wp P o a w K Q := by
  unfold Oper.wp at *
  rw [exec_free] at h
  exact h
/-- An append: what is loose may turn. -/
theorem kd_app {p : Value → Gw v → Prop} {hp} (happ : app.contains done.length = true) (hw : Region.wanted o (yielded ops a.tmps) = true)
    (h1 : ∀ s : Gw v, Facts kill ops.size o done s → ∀ (K : Act → World → Prop) (Q : Exit → Act → World → Prop), (∀ x s', s.grows s' → p x s' → K (a.put o.dst x) s'.toW) → if Region.wanted { o with guard := none } (yielded ops a.tmps) = true then Oper.wp P { o with guard := none } a s.toW K Q else False)
    (h2 : ∀ x, wpTy P ops kill Gw.toW (gR app) Qf l (Ks.map Kd.ty) (done ++ [(.of p, x)]) (a.put o.dst x)) : wpTy P ops kill Gw.toW (gR app) Qf (o :: l) ((Kd.grow p hp :: Ks).map Kd.ty) done a :=
  ⟨fun s hs K Q hK => by
    rw [if_pos hw]
    have := h1 s hs K Q (fun x s' e3 e4 => hK x s' (by unfold gR; rw [happ]; exact e3) e4)
    rw [if_pos (show Region.wanted { o with guard := none } (yielded ops a.tmps) = true from rfl)] at this
    exact wp_free this, h2⟩
/-- A value that is known, by what turns loose memory. -/
theorem kd_isa {u : Value} (happ : app.contains done.length = true) (hw : Region.wanted o (yielded ops a.tmps) = true)
    (h1 : ∀ s : Gw v, Facts kill ops.size o done s → ∀ (K : Act → World → Prop) (Q : Exit → Act → World → Prop), (∀ a' w', (∃ s' : Gw v, a' = a.put o.dst u ∧ w' = s'.toW ∧ s.grows s') → K a' w') → Oper.wp P o a s.toW K Q)
    (h2 : wpTy P ops kill Gw.toW (gR app) Qf l (Ks.map Kd.ty) (done ++ [(.is u, u)]) (a.put o.dst u)) : wpTy P ops kill Gw.toW (gR app) Qf (o :: l) ((Kd.is u :: Ks).map Kd.ty) done a :=
  ⟨fun s hs K Q hK => by
    rw [if_pos hw]
    exact h1 s hs K Q (fun a' w' ⟨s', e1, e2, e3⟩ => by rw [e1, e2]; exact hK u s' (by unfold gR; rw [happ]; exact e3) rfl), h2⟩
theorem kd_nil (h : Qf done a) : wpTy P ops kill Gw.toW (gR app) Qf [] (([] : List (Kd v)).map Kd.ty) done a := h
/-- Where an append leads. -/
theorem Gw.app_ok (s : Gw v) {x : Value} {w' : World} {e : TypeId} {n : Nat} {V : Nat → Value} (hx : Mine s.toW v.heap.size e x n V) (hg : s.toW.grownBy w' x.ownBlock) : Below v.heap.size v w' :=
  s.ok.grown hg s.ok.size (fun q hq => (hx.lt q hq).1)
theorem Gw.app_grows (s : Gw v) {x : Value} {w' : World} (hg : s.toW.grownBy w' x.ownBlock) (hs : s.toW.heap.size ≤ w'.heap.size) (hl : ∀ b, x.ownBlock = some b → s.loose b) (hok : Below v.heap.size v w') :
    s.grows ⟨w', hok, fun k => s.toW.heap.size ≤ k ∨ s.loose k⟩ :=
  ⟨hs, fun k hk hn => hg.block k hk (fun e => hn (hl k e.symm)), fun k hk q => q.elim (fun q => absurd q (by omega)) id⟩
end
end Go.Proofs.Ytiflmdekcjbmbaa.Lb
namespace Go.Proofs.Ytiflmdekcjbmbaa.Lb
set_option linter.unusedVariables false
set_option linter.unusedSimpArgs false
open Go.RowKit Go.ChangeShapes Go.WideShapes Go.ChangeAt Go.Deep
section
variable {H : Type} {enc : TypeId × Value → H} {P : Program} {w : World} {base : Nat}
theorem open_row_deep {t e : TypeId} {k : Nat} {v : Value} {d : DataW H} {p : List MemPlace} (ht : P.underlying t = some (.slice e))
    (hC : P.cellsOf e = k) (hpos : 0 < k) (hv : Value.okWide P w .any base t v) (h : DataW.Trod enc P w 0 (fun _ => true) true t v d p) :
    ∃ a n c V, v = .slice a n c ∧ n ≤ c ∧ c ≤ maxLen ∧ Row w a (n * k) V ∧ ∀ i, i < n → ∃ f y, DataW.trod enc P w 0 (fun _ => true) true f e ((List.range k).map fun j => V (i * k + j)) = some y := by
  obtain ⟨a0, len, cap, rfl⟩ := okWide_slice ht hv
  obtain ⟨fuel, hf⟩ := h
  rcases open_slice ht hf with ⟨hcs, _⟩ | ⟨x, l, c, m, n, D, Pl, hcs, _, hl, hm, hmm, _, hx⟩
  · simp [Value.cells] at hcs
    obtain ⟨rfl, rfl, rfl⟩ := hcs
    exact ⟨none, 0, 0, fun _ => undef, rfl, Nat.le_refl _, Nat.zero_le _, by rw [Nat.zero_mul]; exact Row.nil _ _ _, fun i hi => absurd hi (by omega)⟩
  · simp [Value.cells] at hcs
    obtain ⟨rfl, rfl, rfl⟩ := hcs
    simp only [if_true] at hmm
    subst hmm
    obtain ⟨b, off, spot⟩ := x
    obtain ⟨C, hCs⟩ := choose_fn (q := fun i cs' => w.cells? 0 ((⟨b, off, spot⟩ : Addr).add (i * P.cellsOf e)) (P.cellsOf e) = some cs' ∧ DataW.trod enc P w 0 (fun _ => true) true n e cs' = some (D i, Pl i)) ([] : List Value) (n := len)
      (fun i hi => hx i (by omega))
    rw [hC] at hCs
    have hcell : ∀ i, i < len → ∀ j, j < k → w.cell? (((⟨b, off, spot⟩ : Addr).add (i * k)).add j) = (C i)[j]? := fun i hi => (World.cells?_some (hCs i hi).1).2.2
    have hlen : ∀ i, i < len → (C i).length = k := fun i hi => (World.cells?_some (hCs i hi).1).2.1
    refine ⟨_, _, _, fun q => ((C (q / k))[q % k]?).getD undef, rfl, hl, hm, fun hn => ?_, fun i hi => ?_⟩
    · have hl0 : 0 < len := Nat.pos_of_mul_pos_right hn
      have h0 := hcell 0 hl0 0 hpos
      rw [List.getElem?_eq_getElem (by rw [hlen 0 hl0]; exact hpos)] at h0
      have hspot : spot = none := by simpa [Addr.add] using World.cell?_spot h0
      subst hspot
      refine ⟨b, off, rfl, by simpa [Addr.add] using lt_of_cell h0, fun q hq => ?_⟩
      have hi : q / k < len := Nat.div_lt_of_lt_mul (by rw [Nat.mul_comm]; exact hq)
      have hj : q % k < k := Nat.mod_lt _ hpos
      have h1 := hcell _ hi _ hj
      have he : (((⟨b, off, none⟩ : Addr).add (q / k * k)).add (q % k)) = ⟨b, off + q, none⟩ := by
        have hq' : q / k * k + q % k = q := Nat.div_add_mod' q k
        unfold Addr.add
        split <;> split <;> simp <;> omega
      rw [he] at h1
      have hjc : q % k < (C (q / k)).length := by rw [hlen _ hi]; exact hj
      rw [h1]
      simp only [List.getElem?_eq_getElem hjc, Option.getD_some]
    · have e1 : (List.range k).map (fun j => ((C ((i * k + j) / k))[(i * k + j) % k]?).getD undef) = C i := by
        apply List.ext_getElem?
        intro j
        by_cases hj : j < k
        · have e2 : (i * k + j) / k = i := by rw [Nat.add_comm, Nat.add_mul_div_right _ _ hpos, Nat.div_eq_of_lt hj, Nat.zero_add]
          have e3 : (i * k + j) % k = j := by rw [Nat.add_comm, Nat.add_mul_mod_self_right, Nat.mod_eq_of_lt hj]
          have hcj : j < (C i).length := by rw [hlen i hi]; exact hj
          rw [List.getElem?_map, List.getElem?_range hj]
          simp only [Option.map_some, e2, e3, List.getElem?_eq_getElem hcj, Option.getD_some]
        · rw [List.getElem?_eq_none (by simp; omega), List.getElem?_eq_none (by rw [hlen i hi]; omega)]
      rw [e1]
      exact ⟨n, _, (hCs i hi).2⟩
end
end Go.Proofs.Ytiflmdekcjbmbaa.Lb
