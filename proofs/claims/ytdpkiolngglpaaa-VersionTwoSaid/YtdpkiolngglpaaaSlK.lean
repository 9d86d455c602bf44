/-
  Slices of structs: copy, and what slices.Insert makes of a row.
-/
import Derived.Test.YtdpkiolngglpaaaOwnK
import Derived.Test.YtdpkiolngglpaaaMid
import Derived.Lib.AppendZerosOnto
import Derived.Lib.Overlaps
import Derived.Laws.Externs
import Derived.Lib.SliceRun
import Derived.Deep.RegionLaw
import Derived.Lib.Hide
set_option maxRecDepth 100000
namespace Go.Proofs.Ytdpkiolngglpaaa.Lb
set_option linter.unusedVariables false
set_option linter.unusedSimpArgs false
open Go.RowKit

theorem run_copyK {P : Program} (w : World) (dT sT ty elem : TypeId) (k b o dLen dCap : Nat) (a : Addr) (sLen sCap n : Nat) (cs : List Value)
    (hu : P.underlying dT = some (.slice elem)) (hs : (P.info? elem).map (·.size) = some k) (hn : Nat.min sLen dLen = n) (hl : cs.length = n * k)
    (hsrc : ∀ j v, cs[j]? = some v → w.cell? (a.add j) = some v) (hc : w.there b o cs.length) (h1 : ∀ v ∈ cs, v.oneCell' = true) :
    (Builtin.copy_ #[dT, sT] ty #[.slice (some ⟨b, o, none⟩) dLen dCap, .slice (some a) sLen sCap]).run P w = .ok (goInt n) (w.setCells b o cs) := by
  have hlc := run_loadCells_list (P := P) w a cs hsrc
  have hst := run_storeCells_cells (P := P) b o cs 0 w (by simpa using fun j hj => (hc j hj).1) (by simpa using fun j hj => (hc j hj).2) h1
  rw [hl] at hlc
  cases hq : P.info? elem with
  | none => simp [hq] at hs
  | some i =>
    have hi : i.size = k := by simpa [hq] using hs
    simp [Builtin.copy_, run_underlying hu, Builtin.lenOf, Builtin.firstCells, sizeOf, typeInfo, hq, hi, hn, hlc, hst]
theorem op_copy_is {P : Program} (w : World) {o : Oper} {a : Act} {K : Act → World → Prop} {Q : Exit → Act → World → Prop} (d s : Operand) (t t' : TypeId)
    (ho : o.op = .call { callee := .builtin .copy, args := #[d, s], argTypes := #[t, t'] }) (v u : Value) (hd : a.eval d = v) (hs : a.eval s = u) (v' : Value) (w' : World)
    (hr : (Builtin.copy_ #[t, t'] o.type #[v, u]).run P w = .ok v' w') (h : K (a.put o.dst v') w') : o.wp P a w K Q := by
  unfold Oper.wp execOp
  simp only [ho, resolve, invoke, builtin, Sem.run_bind, Sem.run_pure, Result.andThen_ok, List.map_toArray, List.map_cons, List.map_nil, hd, hs, hr]
  exact h
theorem wp_copy_is {P : Program} (w : World) {ops : Array Oper} {rest : List Oper} {o : Oper} {a : Act} {Q : Exit → Act → World → Prop} (hgd : o.guard = none) (d s : Operand) (t t' : TypeId)
    (ho : o.op = .call { callee := .builtin .copy, args := #[d, s], argTypes := #[t, t'] }) (v u : Value) (hd : a.eval d = v) (hs : a.eval s = u) (v' : Value) (w' : World)
    (hr : (Builtin.copy_ #[t, t'] o.type #[v, u]).run P w = .ok v' w') (h : wpList P ops Q rest (a.put o.dst v') w') : wpList P ops Q (o :: rest) a w :=
  wpList_plain hgd fun _ hK => op_copy_is w d s t t' ho v u hd hs v' w' hr (hK _ _ h)
theorem step_copy_is {P : Program} {w : World} {ops : Array Oper} {o : Oper} {a : Act} {K : Act → World → Prop} {Q : Exit → Act → World → Prop} {E : Prop} (hgd : o.guard = none) (d s : Operand) (t t' : TypeId)
    (ho : o.op = .call { callee := .builtin .copy, args := #[d, s], argTypes := #[t, t'] }) (v u : Value) (hd : a.eval d = v) (hs : a.eval s = u) (v' : Value) (w' : World)
    (hr : (Builtin.copy_ #[t, t'] o.type #[v, u]).run P w = .ok v' w') (h : K (a.put o.dst v') w') : if Region.wanted o (yielded ops a.tmps) = true then Oper.wp P o a w K Q else E := by
  have hw : Region.wanted o (yielded ops a.tmps) = true := by simp [Region.wanted, hgd]
  rw [if_pos hw]
  exact op_copy_is w d s t t' ho v u hd hs v' w' hr h
/-- One struct of k cells put in ahead of struct i. -/
def insK (k i : Nat) (V U : Nat → Value) (q : Nat) : Value := if q < i * k then V q else if q < i * k + k then U (q - i * k) else V (q - k)
theorem insK_end (k n : Nat) (V U : Nat → Value) : ∀ q, q < (n + 1) * k → (if q < n * k then V q else U (q - n * k)) = insK k n V U q := by
  intro q hq
  unfold insK
  rw [Nat.add_mul, Nat.one_mul] at hq
  by_cases h : q < n * k
  · rw [if_pos h, if_pos h]
  · rw [if_neg h, if_neg h, if_pos hq]
/-- Of n structs those that are kept by p, in their order: the cells. -/
def cellsOf {α : Type} (k : Nat) (enc : α → Nat → Value) (d : α) (l : List α) (q : Nat) : Value := enc (l.getD (q / k) d) (q % k)
theorem mineK_made {w : World} {base g c s : Nat} {e : TypeId} {n : Nat} {F V : Nat → Value} (h : Blk w g e (c * s) F) (hb : base ≤ g) (hm : c ≤ maxLen) (hn : n ≤ c) (hv : ∀ i, i < n * s → F i = V i) :
    MineK w base e s (.slice (some ⟨g, 0, none⟩) n c) n V :=
  MineK.made h hb (by simp) hm hn (fun j hj => by
    have hle : n * s ≤ c * s := Nat.mul_le_mul_right s hn
    have hj2 : j < c * s := by omega
    rw [Array.getElem?_eq_getElem (by simpa using hj2), Array.getElem_ofFn]
    exact congrArg some (hv j hj))
theorem blk_of {w : World} {g : Nat} {e : TypeId} {n : Nat} {cs : Array Value} (h : Own w g e cs) (hs : cs.size = n) : Blk w g e n (fun j => cs.getD j undef) :=
  Blk.of h hs (fun j hj => by
    rw [Array.getElem?_eq_getElem (by omega), Array.getD_eq_getD_getElem?, Array.getElem?_eq_getElem (by omega)]
    rfl)
theorem shape_blk {w : World} {g : Nat} {e : TypeId} {cs : Array Value} (h : Own w g e cs) : w.shape? g = some (e, cs.size) := by
  unfold Own at h
  simp [World.shape?, h]
theorem grown_setCells {w w1 : World} {row : Option Nat} {g : Nat} (h : w.grownBy w1 row) (hg : row = some g ∨ w.heap.size ≤ g) (o : Nat) (vs : List Value) : w.grownBy (w1.setCells g o vs) row := by
  have j := Just.puts g vs w1 o
  refine ⟨j.os.trans h.os, j.tape.trans h.tape, j.output.trans h.output, Nat.le_trans h.size j.size, fun q hq hr => ?_⟩
  refine (j.block q (Nat.lt_of_lt_of_le hq h.size) (fun e => ?_)).trans (h.block q hq hr)
  rcases hg with e1 | e1
  · subst e; exact hr e1.symm
  · omega
theorem grown_drew {w : World} (row : Option Nat) (n : Nat) : w.grownBy (w.drewN n) row := ⟨rfl, rfl, rfl, Nat.le_refl _, fun _ _ _ => rfl⟩
theorem grown_refl (w : World) (row : Option Nat) : w.grownBy w row := ⟨rfl, rfl, rfl, Nat.le_refl _, fun _ _ _ => rfl⟩
theorem grown_alloc {w w1 : World} {row : Option Nat} (h : w.grownBy w1 row) (o : Obj) : w.grownBy (w1.alloc o) row :=
  ⟨h.os, h.tape, h.output, Nat.le_trans h.size (by simp), fun q hq hr => (Below.heap_alloc w1 o q (Nat.lt_of_lt_of_le hq h.size)).trans (h.block q hq hr)⟩
theorem grown_drewN {w w1 : World} {row : Option Nat} (h : w.grownBy w1 row) (n : Nat) : w.grownBy (w1.drewN n) row := ⟨h.os, h.tape, h.output, h.size, h.block⟩
theorem grown_trans {w w1 w2 : World} {r s : Option Nat} (h : w.grownBy w1 r) (h2 : w1.grownBy w2 s) (hs : ∀ q, s = some q → r = some q ∨ w.heap.size ≤ q) : w.grownBy w2 r :=
  ⟨h2.os.trans h.os, h2.tape.trans h.tape, h2.output.trans h.output, Nat.le_trans h.size h2.size, fun q hq hr => by
    refine (h2.block q (Nat.lt_of_lt_of_le hq h.size) (fun e => ?_)).trans (h.block q hq hr)
    rcases hs q e.symm with e1 | e1
    · exact hr e1.symm
    · omega⟩
theorem below_grown {w w' : World} (h : Below w.heap.size w w') (row : Option Nat) : w.grownBy w' row := ⟨h.os, h.tape, h.output, h.size, fun q hq _ => h.block q hq⟩
end Go.Proofs.Ytdpkiolngglpaaa.Lb
