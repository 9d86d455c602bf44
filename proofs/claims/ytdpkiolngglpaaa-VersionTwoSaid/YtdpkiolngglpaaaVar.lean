/-
  A variable that is an array, or a struct of arrays, and is made with its zero value: one region, at one stroke.
-/
import Derived.Test.YtdpkiolngglpaaaBlk
import Derived.Deep.WholeRow
import Derived.Deep.Cut
namespace Go.Proofs.Ytdpkiolngglpaaa.Lb
set_option linter.unusedVariables false
set_option linter.unusedSimpArgs false
open Go.RowKit

theorem wp_zero_var {P : Program} {id : Nat} {t : TypeId} {x y : Operand} {z : Array Value} {o1 o2 o3 : Oper} {a : Act} {w : World} {Q : Exit → Act → World → Prop}
    (g1 : o1.guard = none) (h1 : o1.op = .build t #[]) (g2 : o2.guard = none) (h2 : o2.op = .alloc t) (g3 : o3.guard = none) (h3 : o3.op = .store t x y) (d3 : o3.dst = none)
    (hB : P.built t [] = some z) (hi : (P.info? t).map (fun i => (i.zero, i.size)) = some (some (.agg z), z.size)) (h1c : z.all (·.oneCell') = true)
    (hx : ((a.put o1.dst (.agg z)).put o2.dst (.pointer (some ⟨w.heap.size, 0, none⟩))).eval x = .pointer (some ⟨w.heap.size, 0, none⟩))
    (hy : ((a.put o1.dst (.agg z)).put o2.dst (.pointer (some ⟨w.heap.size, 0, none⟩))).eval y = .agg z)
    (h : Q .normal (((a.put o1.dst (.agg z)).put o2.dst (.pointer (some ⟨w.heap.size, 0, none⟩))).put o3.dst undef) (w.alloc (.cells z t))) :
    (Code.region id #[o1, o2, o3] false).wp P Q a w := by
  obtain ⟨hz, hs⟩ := zero_of_info hi
  refine wp_region_lit (l := [o1, o2, o3]) ?_
  have hB' : P.built t ((#[] : Array (Nat × Operand)).map fun (i, x) => (i, a.eval x)).toList = some z := by simpa using hB
  refine wpList_build g1 t #[] h1 (by rw [hB']; rfl) ?_
  rw [hB', Option.getD_some]
  have hrun : (execOp (a.put o1.dst (.agg z)).eval o2).run P w = .ok (.value (.pointer (some ⟨w.heap.size, 0, none⟩))) (w.alloc (.cells z t)) := by
    unfold execOp
    simp only [h2, Instr.alloc, Sem.run_bind, hz, Result.andThen_ok]
    rfl
  refine wpList_plain g2 fun K hK => ?_
  unfold Oper.wp
  rw [hrun, Oper.upon_value]
  refine hK _ _ ?_
  refine wpList_store_row g3 t x y h3 w.heap.size z hx hy t z (heap_alloc_new w _) (by simpa using hs) rfl h1c ?_
  rw [World.setRow_alloc_new]
  exact h
end Go.Proofs.Ytdpkiolngglpaaa.Lb
