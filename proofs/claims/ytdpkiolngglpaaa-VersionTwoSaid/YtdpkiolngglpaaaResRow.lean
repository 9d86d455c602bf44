/-
  Results, the first of which lies in a variable of its own, a whole row.
-/
import Derived.Test.YtdpkiolngglpaaaRowOut
namespace Go.Proofs.Ytdpkiolngglpaaa.Lb
set_option linter.unusedVariables false
set_option linter.unusedSimpArgs false
open Go.RowKit

theorem results_row_tmp2 {P : Program} {fn : Func} {p t u : Tmp} {ty : TypeId} (h : fn.results = #[.cell p ty, .tmp t, .tmp u]) (tmps : Array Value) (w : World) (g : Nat) (tg : TypeId) (cs : Array Value) (fr : Nat × Nat) (d : TypeDesc)
    (hp : tmps.getD p undef = .pointer (some ⟨g, 0, none⟩)) (hg : w.heap[g]? = some (.cells cs tg fr))
    (hu : P.underlying ty = some d) (hd : (match d with | .struct _ | .array _ _ => true | _ => false) = true) (hi : (P.info? ty).map (·.size) = some cs.size) :
    (results fn tmps).run P w = .ok (.tuple #[.agg cs, tmps.getD t undef, tmps.getD u undef]) w := by
  have hp' : tmps[p]?.getD undef = .pointer (some ⟨g, 0, none⟩) := by simpa using hp
  simp [results, h, hp', asAddr, run_loadVar_row w g tg ty cs fr d hg hu hd hi]
theorem results_row_tmp {P : Program} {fn : Func} {p t : Tmp} {ty : TypeId} (h : fn.results = #[.cell p ty, .tmp t]) (tmps : Array Value) (w : World) (g : Nat) (tg : TypeId) (cs : Array Value) (fr : Nat × Nat) (d : TypeDesc)
    (hp : tmps.getD p undef = .pointer (some ⟨g, 0, none⟩)) (hg : w.heap[g]? = some (.cells cs tg fr))
    (hu : P.underlying ty = some d) (hd : (match d with | .struct _ | .array _ _ => true | _ => false) = true) (hi : (P.info? ty).map (·.size) = some cs.size) :
    (results fn tmps).run P w = .ok (.tuple #[.agg cs, tmps.getD t undef]) w := by
  have hp' : tmps[p]?.getD undef = .pointer (some ⟨g, 0, none⟩) := by simpa using hp
  simp [results, h, hp', asAddr, run_loadVar_row w g tg ty cs fr d hg hu hd hi]
theorem run_row {P : Program} {w : World} {g : Nat} {t : TypeId} {cur cs : Array Value} (h : Own w g t cur) (hs : cur.size = cs.size) (h1 : cs.all (·.oneCell') = true) :
    (storeCells ⟨g, 0, none⟩ cs.toList).run P w = .ok () (w.setRow g cs) := by
  have h1' : ∀ v ∈ cs.toList, v.oneCell' = true := fun v hv => by
    obtain ⟨i, hi, e⟩ := List.getElem_of_mem hv
    rw [← e]
    exact (Array.all_eq_true.1 h1) i (by simpa using hi)
  have := run_storeCells_from (P := P) g t cs.toList 0 cur w h (by simp [hs]) h1'
  simpa using this
theorem cell_row {w : World} {g b o : Nat} (cs : Array Value) {v : Value} (h : w.cell? ⟨b, o, none⟩ = some v) (hb : b ≠ g) : (w.setRow g cs).cell? ⟨b, o, none⟩ = some v :=
  (World.cell?_of_block (a := ⟨b, o, none⟩) ((Just.setRow g w cs).block b (lt_of_cell h) hb)).trans h
end Go.Proofs.Ytdpkiolngglpaaa.Lb
