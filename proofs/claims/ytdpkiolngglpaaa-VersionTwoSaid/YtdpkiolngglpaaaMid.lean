/-
  Many cells stored at once in the middle of a block that is known whole; a row's load in a region whose operations but the last ones only read.
-/
import Derived.Test.YtdpkiolngglpaaaBlk
import Derived.Deep.MidRow
import Derived.StillTailTactics
set_option maxRecDepth 100000
namespace Go.Proofs.Ytdpkiolngglpaaa.Lb
set_option linter.unusedVariables false
set_option linter.unusedSimpArgs false
open Go.RowKit

def putL (V : Nat → Value) : Nat → List Value → Nat → Value
  | _, [] => V
  | o, v :: vs => putL (fun j => if j = o then v else V j) (o + 1) vs
theorem putL_at : ∀ (vs : List Value) (V : Nat → Value) (o j : Nat), putL V o vs j = if o ≤ j ∧ j < o + vs.length then vs.getD (j - o) undef else V j
  | [], V, o, j => by
    unfold putL
    rw [if_neg (by simp)]
  | v :: vs, V, o, j => by
    unfold putL
    rw [putL_at vs]
    by_cases h1 : o + 1 ≤ j ∧ j < o + 1 + vs.length
    · rw [if_pos h1, if_pos ⟨by omega, by simp only [List.length_cons]; omega⟩, show j - o = (j - (o + 1)) + 1 by omega]
      rfl
    · rw [if_neg h1]
      by_cases h2 : j = o
      · subst h2
        rw [if_pos rfl, if_pos ⟨Nat.le_refl _, by simp⟩]
        simp
      · rw [if_neg h2, if_neg (by simp only [List.length_cons]; omega)]
theorem Blk.puts {b : Nat} {t : TypeId} {n : Nat} : ∀ (vs : List Value) {w : World} {V : Nat → Value} (o : Nat), Blk w b t n V → Blk (w.setCells b o vs) b t n (putL V o vs)
  | [], _, _, _, h => h
  | v :: vs, _, _, o, h => Blk.puts vs (o + 1) (Blk.put h o v)
theorem Just.puts (b : Nat) : ∀ (vs : List Value) (w : World) (o : Nat), Just b w (w.setCells b o vs)
  | [], w, _ => Just.refl b w
  | v :: vs, w, o => (Just.set b w o v).trans (Just.puts b vs _ (o + 1))
theorem Blk.apart {w : World} {b : Nat} {t : TypeId} {n : Nat} {V : Nat → Value} (h : Blk w b t n V) {p : Addr} (hp : b ≠ p.block) (u : Value) : Blk (w.setCell p u) b t n V := Own.apart h hp u
theorem Blk.there {w : World} {b : Nat} {t : TypeId} {n : Nat} {V : Nat → Value} (h : Blk w b t n V) {o m : Nat} (hm : o + m ≤ n) : w.there b o m := fun j hj =>
  ⟨by rw [h.cell (by omega)]; rfl, h.free _⟩
theorem ofn_cells (F : Nat → Value) (n : Nat) (h : ∀ i, (F i).oneCell' = true) : (Array.ofFn (n := n) fun i => F i).all (·.oneCell') = true := by
  rw [Array.all_eq_true]
  intro i hi
  simp only [Array.getElem_ofFn]
  exact h _

theorem still_load {P : Program} {ops : Array Oper} {w : World} {o : Oper} {a : Act} {rest : List Oper} {Q : Act → Prop} {x : Operand} {ty : TypeId} {g : Nat} {t : TypeId} {cs : Array Value} {fr : Nat × Nat} {d : TypeDesc}
    (hgd : o.guard = none) (ho : o.op = .load ty x) (hx : a.eval x = .pointer (some ⟨g, 0, none⟩)) (hg : w.heap[g]? = some (.cells cs t fr))
    (hu : P.underlying ty = some d) (hd : (match d with | .struct _ | .array _ _ => true | _ => false) = true) (hi : (P.info? ty).map (·.size) = some cs.size)
    (h : wpStill P ops w Q rest (a.put o.dst (.agg cs))) : wpStill P ops w Q (o :: rest) a := by
  have hw : Region.wanted o (yielded ops a.tmps) = true := by simp [Region.wanted, hgd]
  unfold wpStill
  rw [if_pos hw]
  have hrun : (execOp a.eval o).run P w = .ok (.value (.agg cs)) w := by
    unfold execOp
    simp only [ho, hx, Instr.loadAt, Instr.sureAddr, Sem.run_bind, Sem.run_pure, Result.andThen_ok, run_loadVar_row w g t ty cs fr d hg hu hd hi]
  unfold Oper.still
  rw [hrun, Oper.stillUpon_value]
  exact h
end Go.Proofs.Ytdpkiolngglpaaa.Lb
