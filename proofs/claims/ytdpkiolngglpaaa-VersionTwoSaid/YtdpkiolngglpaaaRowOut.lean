/-
  A whole row that is loaded and stored, or that a function hands back out of a variable of its own.
-/
import Derived.Test.YtdpkiolngglpaaaBlk
import Derived.Deep.WholeRow
namespace Go.Proofs.Ytdpkiolngglpaaa.Lb
set_option linter.unusedVariables false
set_option linter.unusedSimpArgs false
open Go.RowKit

theorem Own.setRow {w : World} {b : Nat} {t : TypeId} {cs : Array Value} (h : Own w b t cs) (ds : Array Value) : Own (w.setRow b ds) b t ds := setRow_heap w b cs ds t (0, 0) h
theorem Just.setRow (b : Nat) (w : World) (ds : Array Value) : Just b w (w.setRow b ds) :=
  ⟨rfl, rfl, rfl, by simp, fun k _ hk => setRow_other w b k ds hk⟩

/-- The last region of a function whose result lies in a variable: a row is loaded and stored there. -/
theorem wp_row_out {P : Program} {id : Nat} {t1 t2 : TypeId} {x y z : Operand} {o1 o2 : Oper} {a : Act} {w : World} {Q : Exit → Act → World → Prop} {g b : Nat} {ta tb : TypeId} {cs old : Array Value} {d : TypeDesc}
    (g1 : o1.guard = none) (h1 : o1.op = .load t1 x) (g2 : o2.guard = none) (h2 : o2.op = .store t2 y z)
    (hx : a.eval x = .pointer (some ⟨g, 0, none⟩)) (hg : Own w g ta cs) (hu : P.underlying t1 = some d) (hd : (match d with | .struct _ | .array _ _ => true | _ => false) = true) (hi : (P.info? t1).map (·.size) = some cs.size)
    (hy : (a.put o1.dst (.agg cs)).eval y = .pointer (some ⟨b, 0, none⟩)) (hz : (a.put o1.dst (.agg cs)).eval z = .agg cs) (hb : Own w b tb old) (hi2 : (P.info? t2).map (·.size) = some cs.size) (hs : old.size = cs.size)
    (h1c : cs.all (·.oneCell') = true)
    (h : Q .normal ((a.put o1.dst (.agg cs)).put o2.dst undef) (w.setRow b cs)) :
    (Code.region id #[o1, o2] false).wp P Q a w := by
  refine wp_region_lit (l := [o1, o2]) ?_
  refine wpList_load_row g1 t1 x h1 g hx ta cs (0, 0) d hg hu hd hi ?_
  refine wpList_store_row g2 t2 y z h2 b cs hy hz tb old hb hi2 hs h1c ?_
  exact h

/-- A row is built and stored: inside a region. -/
theorem wpList_build_store {P : Program} {ops : Array Oper} {rest : List Oper} {t : TypeId} {parts : Array (Nat × Operand)} {y z : Operand} {o1 o2 : Oper} {a : Act} {w : World} {Q : Exit → Act → World → Prop} {b : Nat} {tb : TypeId} (cs : Array Value) {old : Array Value}
    (g1 : o1.guard = none) (h1 : o1.op = .build t parts) (g2 : o2.guard = none) (h2 : o2.op = .store t y z)
    (hB0 : P.built t (parts.toList.map fun (i, x) => (i, a.eval x)) = some cs)
    (hy : (a.put o1.dst (.agg cs)).eval y = .pointer (some ⟨b, 0, none⟩)) (hz : (a.put o1.dst (.agg cs)).eval z = .agg cs) (hb : Own w b tb old) (hi2 : (P.info? t).map (·.size) = some cs.size) (hs : old.size = cs.size)
    (h1c : cs.all (·.oneCell') = true)
    (h : wpList P ops Q rest ((a.put o1.dst (.agg cs)).put o2.dst undef) (w.setRow b cs)) :
    wpList P ops Q (o1 :: o2 :: rest) a w := by
  have hB : P.built t (parts.map fun (i, x) => (i, a.eval x)).toList = some cs := by rw [Array.toList_map]; exact hB0
  refine wpList_build g1 t parts h1 (by rw [hB]; rfl) ?_
  rw [hB, Option.getD_some]
  exact wpList_store_row g2 t y z h2 b cs hy hz tb old hb hi2 hs h1c h
/-- A row is built. -/
theorem wpList_built {P : Program} {ops : Array Oper} {rest : List Oper} {t : TypeId} {parts : Array (Nat × Operand)} {o1 : Oper} {a : Act} {w : World} {Q : Exit → Act → World → Prop} (cs : Array Value)
    (g1 : o1.guard = none) (h1 : o1.op = .build t parts) (hB0 : P.built t (parts.toList.map fun (i, x) => (i, a.eval x)) = some cs)
    (h : wpList P ops Q rest (a.put o1.dst (.agg cs)) w) : wpList P ops Q (o1 :: rest) a w := by
  have hB : P.built t (parts.map fun (i, x) => (i, a.eval x)).toList = some cs := by rw [Array.toList_map]; exact hB0
  refine wpList_build g1 t parts h1 (by rw [hB]; rfl) ?_
  rw [hB, Option.getD_some]
  exact h
/-- A variable is made and a row stored there: inside a region. -/
theorem wpList_alloc_store {P : Program} {ops : Array Oper} {rest : List Oper} {t t2 : TypeId} {y z : Operand} {o1 o2 : Oper} {a : Act} {w : World} {Q : Exit → Act → World → Prop} {zs : Array Value} (cs : Array Value)
    (g1 : o1.guard = none) (h1 : o1.op = .alloc t) (g2 : o2.guard = none) (h2 : o2.op = .store t2 y z)
    (hi : (P.info? t).map (fun i => (i.zero, i.size)) = some (some (.agg zs), zs.size))
    (hy : (a.put o1.dst (.pointer (some ⟨w.heap.size, 0, none⟩))).eval y = .pointer (some ⟨w.heap.size, 0, none⟩)) (hz : (a.put o1.dst (.pointer (some ⟨w.heap.size, 0, none⟩))).eval z = .agg cs)
    (hi2 : (P.info? t2).map (·.size) = some cs.size) (hs : zs.size = cs.size) (h1c : cs.all (·.oneCell') = true)
    (h : wpList P ops Q rest ((a.put o1.dst (.pointer (some ⟨w.heap.size, 0, none⟩))).put o2.dst undef) (w.alloc (.cells cs t))) :
    wpList P ops Q (o1 :: o2 :: rest) a w := by
  obtain ⟨hz0, hs0⟩ := zero_of_info hi
  have hrun : (execOp a.eval o1).run P w = .ok (.value (.pointer (some ⟨w.heap.size, 0, none⟩))) (w.alloc (.cells zs t)) := by
    unfold execOp
    simp only [h1, Instr.alloc, Sem.run_bind, hz0, Result.andThen_ok]
    rfl
  refine wpList_plain g1 fun K hK => ?_
  unfold Oper.wp
  rw [hrun, Oper.upon_value]
  refine hK _ _ ?_
  refine wpList_store_row g2 t2 y z h2 w.heap.size cs hy hz t zs (heap_alloc_new w _) hi2 hs h1c ?_
  rw [World.setRow_alloc_new]
  exact h
end Go.Proofs.Ytdpkiolngglpaaa.Lb
