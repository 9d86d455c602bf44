/-
  Elder rows, cuts, turns, results that are rows, cells that are equal.
-/
import Derived.Test.YtahcplddonipcaaGreatOwnK
import Derived.Laws.Append
import Derived.Laws.AppendOwn
import Derived.Test.YtahcplddonipcaaGreatOwn
import Derived.Test.YtahcplddonipcaaGreatLib
import Derived.BigQuiet
import Derived.Deep.Quiet
import Derived.Deep.QuietTactic
import Derived.Test.YtahcplddonipcaaGreatRowOut
import Derived.Test.YtahcplddonipcaaGreatCeMath
import Derived.Laws.StructEq
import Derived.ChangeKeysEq
set_option linter.unusedSimpArgs false
set_option maxRecDepth 100000
namespace Go.Proofs.YtahcplddonipcaaGreat.Lb
set_option linter.unusedVariables false
open Go.RowKit

theorem run_appK_old {P : Program} {w : World} (t ty : TypeId) (base : Nat) (e : TypeId) (i : TypeInfo) (z : Value) (k bytes : Nat) (ht : P.underlying t = some (.slice e)) (hi : P.info? e = some i) (hz : i.zero = some z)
    (hsize : i.size = k) (hby : i.bytes = bytes) (hzs : z.cells.size = k) (hk : 0 < k)
    (v : Value) (n : Nat) (V : Nat → Value) (hown : MineK w base e k v n V)
    (A : Addr) (m c : Nat) (U : Nat → Value) (hm : 0 < m) (hr : Row w (some A) (m * k) U) (h1 : ∀ i, i < m * k → (U i).oneCell' = true)
    (h63 : n + m ≤ maxLen) (hbytes : (n + m) * bytes ≤ 140737488355328) (hbase : base ≤ w.heap.size) :
    ∃ v' w', (Builtin.append_ #[t, t] ty #[v, .slice (some A) m c]).run P w = .ok v' w' ∧ MineK w' base e k v' (n + m) (fun i => if i < n * k then V i else U (i - n * k)) ∧ w.grownBy w' v.ownBlock ∧ (v'.ownBlock = v.ownBlock ∨ v'.ownBlock = some w.heap.size) ∧ MineK w' base e k v n V := by
  obtain ⟨v', w', hrun, h2, h3, h4⟩ := run_appK (P := P) (w := w) t ty base e i z k bytes ht hi hz hsize hby hzs hk v n V hown (some A) m c U hr h1 h63 hbytes hbase
  refine ⟨v', w', hrun, h2, h3, h4, ?_⟩
  subst hsize
  have hnews : ∀ j u, ((List.range (m * i.size)).map U)[j]? = some u → w.cell? (A.add j) = some u := fun j u hu => by
    have hj : j < m * i.size := by
      have := (List.getElem?_eq_some_iff.1 hu).1
      simpa using this
    obtain ⟨b, off, h2, _, h3⟩ := hr (by omega)
    injection h2 with h2
    subst h2
    have hu' : u = U j := by simpa [hj] using hu.symm
    subst hu'
    have e1 := h3 j hj
    unfold Addr.add
    split
    · rename_i hj0
      subst hj0
      exact e1
    · exact e1
  have h1' : ∀ u ∈ (List.range (m * i.size)).map U, u.oneCell' = true := by
    intro u hu
    obtain ⟨q, hq, rfl⟩ := List.mem_map.1 hu
    exact h1 q (List.mem_range.1 hq)
  rcases id hown.2 with ⟨rfl, rfl⟩ | ⟨g, cap, cur, rfl, hbg, hg, hnc, hcm, hcs, htake⟩
  · exact MineK.nil _ _ _ _ _
  · by_cases hroom : n + m ≤ cap
    · have hfit : n * i.size + ((List.range (m * i.size)).map U).length ≤ cur.size := by
        rw [List.length_map, List.length_range, hcs, ← Nat.add_mul]
        exact Nat.mul_le_mul_right _ hroom
      have hr2 := run_append_room (P := P) w t ty e i ht hi g n cap cur hg A m c _ (by simp) hnews h1' hroom hfit
      rw [hrun] at hr2
      injection hr2 with e1 e2
      subst e1
      obtain ⟨b, c2, cs, hv, hb, ho, hn, hm2, hs, hc⟩ := h2.block (by omega)
      injection hv with hv1 _ hv3
      injection hv1 with hv1
      injection hv1 with hv1
      subst hv1
      subst hv3
      have hle : n * i.size ≤ (n + m) * i.size := Nat.mul_le_mul_right _ (by omega)
      exact MineK.made ho hb hs hm2 (by omega) (fun q hq => by
        rw [hc q (by omega)]
        exact congrArg some (if_pos hq))
    · have hr2 := run_append_grow (P := P) w t ty e i z ht hi hz ⟨g, 0, none⟩ n cap _ hown.1 (hown.cells (g := g) rfl) A m c _ (by simp) hnews (by omega) (by unfold maxLen at h63; omega) (growslice_fits (by omega) (by rw [hby]; exact hbytes))
      rw [hrun] at hr2
      injection hr2 with e1 e2
      rw [e2]
      exact World.ownsRow.alloc (w := w.drew) hown _
theorem op_appK_old {P : Program} {w : World} {o : Oper} {a : Act} {K : Act → World → Prop} {Q : Exit → Act → World → Prop} (s x : Operand) (t : TypeId)
    (ho : o.op = .call { callee := .builtin .append, args := #[s, x], argTypes := #[t, t] })
    (base : Nat) (e : TypeId) (i : TypeInfo) (z : Value) (k bytes : Nat) (ht : P.underlying t = some (.slice e)) (hi : P.info? e = some i) (hz : i.zero = some z)
    (hsize : i.size = k) (hby : i.bytes = bytes) (hzs : z.cells.size = k) (hk : 0 < k)
    (v : Value) (n : Nat) (V : Nat → Value) (hs : a.eval s = v) (hown : MineK w base e k v n V)
    (A : Addr) (m c : Nat) (U : Nat → Value) (hm : 0 < m) (hx : a.eval x = .slice (some A) m c) (hr : Row w (some A) (m * k) U) (h1 : ∀ i, i < m * k → (U i).oneCell' = true)
    (h63 : n + m ≤ maxLen) (hbytes : (n + m) * bytes ≤ 140737488355328) (hbase : base ≤ w.heap.size)
    (h : ∀ v' w', MineK w' base e k v' (n + m) (fun i => if i < n * k then V i else U (i - n * k)) → w.grownBy w' v.ownBlock → (v'.ownBlock = v.ownBlock ∨ v'.ownBlock = some w.heap.size) → MineK w' base e k v n V → K (a.put o.dst v') w') : o.wp P a w K Q := by
  obtain ⟨v', w', hr, h2, h3, h4, h5⟩ := run_appK_old (P := P) (w := w) t o.type base e i z k bytes ht hi hz hsize hby hzs hk v n V hown A m c U hm hr h1 h63 hbytes hbase
  unfold Oper.wp execOp
  simp only [ho, resolve, invoke, builtin, Sem.run_bind, Sem.run_pure, Result.andThen_ok, List.map_toArray, List.map_cons, List.map_nil, hs, hx, hr]
  exact h v' w' h2 h3 h4 h5
theorem step_appK_old {P : Program} {w : World} {ops : Array Oper} {o : Oper} {a : Act} {K : Act → World → Prop} {Q : Exit → Act → World → Prop} {E : Prop} (hgd : o.guard = none) (s x : Operand) (t : TypeId)
    (ho : o.op = .call { callee := .builtin .append, args := #[s, x], argTypes := #[t, t] })
    (base : Nat) (e : TypeId) (i : TypeInfo) (z : Value) (k bytes : Nat) (ht : P.underlying t = some (.slice e)) (hi : P.info? e = some i) (hz : i.zero = some z)
    (hsize : i.size = k) (hby : i.bytes = bytes) (hzs : z.cells.size = k) (hk : 0 < k)
    (v : Value) (n : Nat) (V : Nat → Value) (hs : a.eval s = v) (hown : MineK w base e k v n V)
    (A : Addr) (m c : Nat) (U : Nat → Value) (hm : 0 < m) (hx : a.eval x = .slice (some A) m c) (hr : Row w (some A) (m * k) U) (h1 : ∀ i, i < m * k → (U i).oneCell' = true)
    (h63 : n + m ≤ maxLen) (hbytes : (n + m) * bytes ≤ 140737488355328) (hbase : base ≤ w.heap.size)
    (h : ∀ v' w', MineK w' base e k v' (n + m) (fun i => if i < n * k then V i else U (i - n * k)) → w.grownBy w' v.ownBlock → (v'.ownBlock = v.ownBlock ∨ v'.ownBlock = some w.heap.size) → MineK w' base e k v n V → K (a.put o.dst v') w') :
    if Region.wanted o (yielded ops a.tmps) = true then Oper.wp P o a w K Q else E := by
  have hw : Region.wanted o (yielded ops a.tmps) = true := by simp [Region.wanted, hgd]
  rw [if_pos hw]
  exact op_appK_old s x t ho base e i z k bytes ht hi hz hsize hby hzs hk v n V hs hown A m c U hm hx hr h1 h63 hbytes hbase h
end Go.Proofs.YtahcplddonipcaaGreat.Lb
namespace Go.Proofs.YtahcplddonipcaaGreat.Lb
set_option linter.unusedVariables false
open Go.RowKit

/-- From w to w' nothing has turned but block b, the block of v, and what is new; v' lies there. -/
structure Turn (w w' : World) (b : Nat) (v v' : Value) : Prop where
  os : w'.os = w.os
  tape : w'.tape = w.tape
  output : w'.output = w.output
  size : w.heap.size ≤ w'.heap.size
  keep : ∀ q, q < w.heap.size → q ≠ b → v.ownBlock ≠ some q → w'.heap[q]? = w.heap[q]?
  own : ∀ q, v'.ownBlock = some q → v.ownBlock = some q ∨ w.heap.size ≤ q
theorem Turn.of_below {w w' : World} (h : Below w.heap.size w w') (b : Nat) (v : Value) : Turn w w' b v v := ⟨h.os, h.tape, h.output, h.size, fun q hq _ _ => h.block q hq, fun _ e => .inl e⟩
theorem Turn.of_grown {w w' : World} {v v' : Value} (h : w.grownBy w' v.ownBlock) (ho : v'.ownBlock = v.ownBlock ∨ v'.ownBlock = some w.heap.size) (b : Nat) : Turn w w' b v v' :=
  ⟨h.os, h.tape, h.output, h.size, fun q hq _ hv => h.block q hq (fun e => hv e.symm), fun q e => by
    rcases ho with ho | ho
    · exact .inl (ho ▸ e)
    · rw [ho] at e; injection e with e; exact .inr (by omega)⟩
theorem Turn.of_just {w w' : World} {b : Nat} (h : Just b w w') (v : Value) : Turn w w' b v v := ⟨h.os, h.tape, h.output, h.size, fun q hq hb _ => h.block q hq hb, fun _ e => .inl e⟩
/-- The row's block alone has turned. -/
theorem Turn.of_row {w w' : World} {b g : Nat} {v v' : Value} (h : Just g w w') (hv : v.ownBlock = some g) (hv' : ∀ q, v'.ownBlock = some q → v.ownBlock = some q) : Turn w w' b v v' :=
  ⟨h.os, h.tape, h.output, h.size, fun q hq _ hx => h.block q hq (fun e => hx (e ▸ hv)), fun q e => .inl (hv' q e)⟩
theorem Turn.trans {u v w : World} {b : Nat} {x y z : Value} (h : Turn u v b x y) (k : Turn v w b y z) : Turn u w b x z :=
  ⟨k.os.trans h.os, k.tape.trans h.tape, k.output.trans h.output, Nat.le_trans h.size k.size, fun q hq hb hx => (k.keep q (Nat.lt_of_lt_of_le hq h.size) hb (fun e => (h.own q e).elim hx (fun h' => by omega))).trans (h.keep q hq hb hx),
    fun q e => (k.own q e).elim (fun e' => h.own q e') (fun h' => .inr (Nat.le_trans h.size h'))⟩
theorem Turn.put {w w1 : World} {b : Nat} {v v1 : Value} (h : Turn w w1 b v v1) (i : Nat) (u : Value) : Turn w (w1.setCell ⟨b, i, none⟩ u) b v v1 := h.trans (Turn.of_just (Just.set b w1 i u) v1)
theorem Turn.below {w w' : World} {b base : Nat} {v v' : Value} (h : Turn w w' b v v') (hb : base ≤ b) (hv : ∀ q, v.ownBlock = some q → base ≤ q) (hs : base ≤ w.heap.size) : Below base w w' :=
  ⟨h.os, h.tape, h.output, h.size, fun q hq => h.keep q (by omega) (by omega) (fun e => by have := hv q e; omega)⟩
theorem Turn.box {w w' : World} {b q : Nat} {v v' : Value} {t : TypeId} {cs : Array Value} (j : Turn w w' b v v') (h : Own w q t cs) (hq : q ≠ b) (hv : v.ownBlock ≠ some q) : Own w' q t cs := (j.keep q h.lt hq hv).trans h
theorem own_ty {w : World} {b : Nat} {s t : TypeId} {cs ds : Array Value} (h : Own w b s cs) (g : Own w b t ds) : s = t := by
  unfold Own at h g
  rw [g] at h
  injection h with h
  injection h with _ h _
  exact h.symm
theorem mineK_own {w : World} {base s n : Nat} {e : TypeId} {v : Value} {V : Nat → Value} (h : MineK w base e s v n V) {q : Nat} (hq : v.ownBlock = some q) : ∃ cs, Own w q e cs := by
  obtain ⟨_, h2⟩ := h
  rcases h2 with ⟨hv, _⟩ | ⟨g, cap, cur, hv, _, hh, _⟩
  · subst hv; cases hq
  · subst hv
    have e : some g = some q := hq
    injection e with e
    subst e
    exact ⟨_, hh⟩
theorem mk_low {w : World} {base base' s n : Nat} {e : TypeId} {v : Value} {V : Nat → Value} (h : MineK w base e s v n V) (hb : base' ≤ base) : MineK w base' e s v n V := by
  obtain ⟨h1, h2⟩ := h
  refine ⟨h1, ?_⟩
  rcases h2 with h2 | ⟨g, cap, cur, hv, hg, r⟩
  · exact .inl h2
  · exact .inr ⟨g, cap, cur, hv, Nat.le_trans hb hg, r⟩
theorem mn_low {w : World} {base base' n : Nat} {e : TypeId} {v : Value} {V : Nat → Value} (h : Mine w base e v n V) (hb : base' ≤ base) : Mine w base' e v n V := by
  obtain ⟨h1, h2⟩ := h
  refine ⟨h1, ?_⟩
  rcases h2 with h2 | ⟨g, cap, cur, hv, hg, r⟩
  · exact .inl h2
  · exact .inr ⟨g, cap, cur, hv, Nat.le_trans hb hg, r⟩
/-- A block whose type is none of the two that turn is kept. -/
theorem Turn.ty {w w' : World} {b q base s n : Nat} {v v' : Value} {t e u : TypeId} {cs ds : Array Value} {V : Nat → Value} (j : Turn w w' b v v') (ho : Own w b t ds) (hr : MineK w base e s v n V) (h : Own w q u cs) (h1 : u ≠ t) (h2 : u ≠ e) : Own w' q u cs :=
  j.box h (fun e' => by subst e'; exact h1 (own_ty h ho)) (fun e' => by
    obtain ⟨cs', hc⟩ := mineK_own hr e'
    exact h2 (own_ty h hc))
end Go.Proofs.YtahcplddonipcaaGreat.Lb
namespace Go.Proofs.YtahcplddonipcaaGreat.Lb
set_option linter.unusedVariables false
open Go.RowKit
structure Ext (v : World) where
  toW : World
  ok : Below v.heap.size v toW
instance (v : World) : Nonempty (Ext v) := ⟨⟨v, Below.refl _ _⟩⟩
theorem wp_region_ext {P : Program} {id : Nat} {Q : Exit → Act → World → Prop} {a : Act} {w : World} {l : List Oper} (v : World) (hm : P.follows .mixedOrders = true) (hB : Region.lexB .any l.toArray = true) (hC : Below v.heap.size v w)
    (h : wpQuiet P l.toArray (fun w' => ∃ x : Ext v, w' = x.toW) (fun a' => ∀ w', (∃ x : Ext v, w' = x.toW) → Q .normal a' w') l a) : (Code.region id l.toArray true).wp P Q a w :=
  wp_region_quiet (C := fun w' => ∃ x : Ext v, w' = x.toW) hm hB ⟨⟨{ w with drawn := w.drawn + 1 }, ⟨hC.os, hC.tape, hC.output, hC.size, hC.block⟩⟩, rfl⟩ (by simpa using h)
theorem ext_same {P : Program} {f : FuncId} {args : Array Value} {v : World} (x : Ext v) {u : Value} (h : Calls P f args x.toW fun e w' => e = .returned u ∧ x.toW = w') : Calls P f args x.toW fun e w' => e = .returned u ∧ ∃ y : Ext v, w' = y.toW :=
  h.mono fun _ _ ⟨h1, h2⟩ => ⟨h1, x, h2.symm⟩
theorem ext_drew {P : Program} {f : FuncId} {args : Array Value} {v : World} (x : Ext v) {u : Value} (h : Calls P f args x.toW fun e w' => e = .returned u ∧ ∃ m, x.toW.drewN m = w') : Calls P f args x.toW fun e w' => e = .returned u ∧ ∃ y : Ext v, w' = y.toW :=
  h.mono fun _ _ ⟨h1, _, h2⟩ => ⟨h1, ⟨_, below_drewN x.ok _⟩, h2.symm⟩
theorem ext_below {P : Program} {f : FuncId} {args : Array Value} {v : World} (x : Ext v) {u : Value} (h : Calls P f args x.toW fun e w' => e = .returned u ∧ Below x.toW.heap.size x.toW w') : Calls P f args x.toW fun e w' => e = .returned u ∧ ∃ y : Ext v, w' = y.toW :=
  h.mono fun _ _ ⟨h1, h2⟩ => ⟨h1, ⟨_, x.ok.trans (h2.mono x.ok.size)⟩, rfl⟩
end Go.Proofs.YtahcplddonipcaaGreat.Lb
namespace Go.Proofs.YtahcplddonipcaaGreat.Lb
set_option linter.unusedVariables false
open Go.RowKit

theorem results_row_tmp2 {P : Program} {fn : Func} {p t u : Tmp} {ty : TypeId} (h : fn.results = #[.cell p ty, .tmp t, .tmp u]) (tmps : Array Value) (w : World) (g : Nat) (tg : TypeId) (cs : Array Value) (fr : Nat × Nat) (d : TypeDesc)
    (hp : tmps.getD p undef = .pointer (some ⟨g, 0, none⟩)) (hg : w.heap[g]? = some (.cells cs tg fr))
    (hu : P.underlying ty = some d) (hd : (match d with | .struct _ | .array _ _ => true | _ => false) = true) (hi : (P.info? ty).map (·.size) = some cs.size) :
    (results fn tmps).run P w = .ok (.tuple #[.agg cs, tmps.getD t undef, tmps.getD u undef]) w := by
  have hp' : tmps[p]?.getD undef = .pointer (some ⟨g, 0, none⟩) := by simpa using hp
  simp [results, h, hp', asAddr, run_loadVar_row w g tg ty cs fr d hg hu hd hi]
theorem results_row_tmp {P : Program} {fn : Func} {p t : Tmp} {ty : TypeId} (h : fn.results = #[.cell p ty, .tmp t]) (tmps : Array Value) (w : World) (g : Nat) (tg : TypeId) (cs : Array Value) (fr : Nat × Nat) (d : TypeDesc)
    (hp : tmps.getD p undef = .pointer (some ⟨g, 0, none⟩)) (hg : w.heap[g]? = some (.cells cs tg fr))
    (hu : P.underlying ty = some d) (hd : (match d with | .struct _ | .array _ _ => true | _ => false) = true) (hi : (P.info? ty).map (·.size) = some cs.size) :
    (results fn tmps).run P w = .ok (.tuple #[.agg cs, tmps.getD t undef]) w := by
  have hp' : tmps[p]?.getD undef = .pointer (some ⟨g, 0, none⟩) := by simpa using hp
  simp [results, h, hp', asAddr, run_loadVar_row w g tg ty cs fr d hg hu hd hi]
theorem run_row {P : Program} {w : World} {g : Nat} {t : TypeId} {cur cs : Array Value} (h : Own w g t cur) (hs : cur.size = cs.size) (h1 : cs.all (·.oneCell') = true) :
    (storeCells ⟨g, 0, none⟩ cs.toList).run P w = .ok () (w.setRow g cs) := by
  have h1' : ∀ v ∈ cs.toList, v.oneCell' = true := fun v hv => by
    obtain ⟨i, hi, e⟩ := List.getElem_of_mem hv
    rw [← e]
    exact (Array.all_eq_true.1 h1) i (by simpa using hi)
  have := run_storeCells_from (P := P) g t cs.toList 0 cur w h (by simp [hs]) h1'
  simpa using this
theorem cell_row {w : World} {g b o : Nat} (cs : Array Value) {v : Value} (h : w.cell? ⟨b, o, none⟩ = some v) (hb : b ≠ g) : (w.setRow g cs).cell? ⟨b, o, none⟩ = some v :=
  (World.cell?_of_block (a := ⟨b, o, none⟩) ((Just.setRow g w cs).block b (lt_of_cell h) hb)).trans h
end Go.Proofs.YtahcplddonipcaaGreat.Lb
set_option maxRecDepth 100000
namespace Go.Proofs.YtahcplddonipcaaGreat.Ce
set_option linter.unusedVariables false
open Go.RowKit Lb Cl
def eqC (x y : C) : Bool := x.f == y.f && (x.s == y.s && (x.c == y.c && (x.o == y.o && x.p == y.p)))
theorem eqC_is (x y : C) : eqC x y = true ↔ x = y := by
  obtain ⟨a, b, c, d, e⟩ := x
  obtain ⟨a', b', c', d', e'⟩ := y
  unfold eqC
  simp
theorem fields_c : (Tryz.prog.fieldsOf 50).toList.map (fun f => (f.name, f.type, f.offset)) = [("Frame", 3, 0), ("Slot", 3, 1), ("Chan", 3, 2), ("Opts", 3, 3), ("Peer", 3, 4)] := by kernel_rfl
theorem part_i (xs : Array Value) (o : Nat) (z : Int) (w : World) (h : xs[o]? = some (.int .i64 z)) : (part 3 xs o).run Tryz.prog w = .ok (.int .i64 z) w := run_part_plain w (by kernel_rfl) h
theorem five_of : ∀ l : List Field, l.length = 5 → ∃ a b c d e, l = [a, b, c, d, e]
  | [a, b, c, d, e], _ => ⟨a, b, c, d, e, rfl⟩
theorem equal_c (x y : C) (w : World) : (Op.equalIn 10000 50 (.agg x.vals) (.agg y.vals)).run Tryz.prog w = .ok (eqC x y) w := by
  have hf := fields_c
  rw [run_equalIn_agg w 9999 50 x.vals y.vals (by kernel_rfl) (by kernel_rfl)]
  generalize (Tryz.prog.fieldsOf 50).toList = L at *
  obtain ⟨f0, f1, f2, f3, f4, rfl⟩ := five_of L (by simpa using congrArg List.length hf)
  simp only [List.map_cons, List.map_nil, List.cons.injEq, Prod.mk.injEq, and_true] at hf
  obtain ⟨⟨n0, t0, o0⟩, ⟨n1, t1, o1⟩, ⟨n2, t2, o2⟩, ⟨n3, t3, o3⟩, ⟨n4, t4, o4⟩⟩ := hf
  have p0 : ∀ z : C, (part 3 z.vals 0).run Tryz.prog w = .ok (.int .i64 z.f) w := fun z => part_i _ _ _ _ rfl
  have p1 : ∀ z : C, (part 3 z.vals 1).run Tryz.prog w = .ok (.int .i64 z.s) w := fun z => part_i _ _ _ _ rfl
  have p2 : ∀ z : C, (part 3 z.vals 2).run Tryz.prog w = .ok (.int .i64 z.c) w := fun z => part_i _ _ _ _ rfl
  have p3 : ∀ z : C, (part 3 z.vals 3).run Tryz.prog w = .ok (.int .i64 z.o) w := fun z => part_i _ _ _ _ rfl
  have p4 : ∀ z : C, (part 3 z.vals 4).run Tryz.prog w = .ok (.int .i64 z.p) w := fun z => part_i _ _ _ _ rfl
  have q : ∀ a b : Int, (Op.equalIn 9999 3 (.int .i64 a) (.int .i64 b)).run Tryz.prog w = .ok (a == b) w := fun a b => run_equalIn_int w 9998 3 .i64 .i64 a b (by kernel_rfl)
  unfold eqC
  simp only [Op.eqFields, n0, n1, n2, n3, n4, t0, t1, t2, t3, t4, o0, o1, o2, o3, o4]
  rw [if_pos (by decide), if_pos (by decide), if_pos (by decide), if_pos (by decide), if_pos (by decide)]
  simp only [Sem.run_bind, p0, p1, p2, p3, p4, q, Result.andThen_ok, Sem.run_ite, Sem.run_pure]
  cases hb0 : x.f == y.f <;> cases hb1 : x.s == y.s <;> cases hb2 : x.c == y.c <;> cases hb3 : x.o == y.o <;> cases hb4 : x.p == y.p <;> simp
theorem eql_c (x y : C) (w : World) : (binOp .eql 50 (.agg #[.int .i64 x.f, .int .i64 x.s, .int .i64 x.c, .int .i64 x.o, .int .i64 x.p]) (.agg #[.int .i64 y.f, .int .i64 y.s, .int .i64 y.c, .int .i64 y.o, .int .i64 y.p])).run Tryz.prog w = .ok (.bool (eqC x y)) w := by
  rw [run_eql_struct]
  have := equal_c x y w
  unfold C.vals at this
  rw [this]
  rfl
theorem neq_c (x y : C) (w : World) : (binOp .neq 50 (.agg #[.int .i64 x.f, .int .i64 x.s, .int .i64 x.c, .int .i64 x.o, .int .i64 x.p]) (.agg #[.int .i64 y.f, .int .i64 y.s, .int .i64 y.c, .int .i64 y.o, .int .i64 y.p])).run Tryz.prog w = .ok (.bool (!eqC x y)) w := by
  rw [run_neq_struct]
  have := equal_c x y w
  unfold C.vals at this
  rw [this]
  rfl
end Go.Proofs.YtahcplddonipcaaGreat.Ce
