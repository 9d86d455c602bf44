/-
  An append at a step of a region that draws its order: rows of one cell an element.
-/
import Derived.Test.YtcpmnfoenpdaeaaOwnK
set_option maxRecDepth 100000
namespace Go.Proofs.Ytcpmnfoenpdaeaa.Lb
set_option linter.unusedVariables false
open Go.RowKit

theorem step_app {P : Program} {w : World} {ops : Array Oper} {o : Oper} {a : Act} {K : Act → World → Prop} {Q : Exit → Act → World → Prop} {E : Prop} (hgd : o.guard = none) (s x : Operand) (t : TypeId)
    (ho : o.op = .call { callee := .builtin .append, args := #[s, x], argTypes := #[t, t] })
    (base : Nat) (e : TypeId) (i : TypeInfo) (z : Value) (bytes : Nat) (ht : P.underlying t = some (.slice e)) (hi : P.info? e = some i) (hz : i.zero = some z)
    (hsize : i.size = 1) (hby : i.bytes = bytes) (hzs : z.cells.size = 1)
    (v : Value) (n : Nat) (V : Nat → Value) (hs : a.eval s = v) (hown : Mine w base e v n V)
    (A : Option Addr) (m c : Nat) (U : Nat → Value) (hx : a.eval x = .slice A m c) (hr : Row w A m U) (h1 : ∀ i, i < m → (U i).oneCell' = true)
    (h63 : n + m ≤ maxLen) (hbytes : (n + m) * bytes ≤ 140737488355328) (hbase : base ≤ w.heap.size)
    (h : ∀ v' w', Mine w' base e v' (n + m) (fun i => if i < n then V i else U (i - n)) → w.grownBy w' v.ownBlock → (v'.ownBlock = v.ownBlock ∨ v'.ownBlock = some w.heap.size) → K (a.put o.dst v') w') :
    if Region.wanted o (yielded ops a.tmps) = true then Oper.wp P o a w K Q else E := by
  refine step_appK hgd s x t ho base e i z 1 bytes ht hi hz hsize hby hzs (by decide) v n V hs (by unfold MineK; rw [Nat.mul_one]; exact hown) A m c U hx (by rw [Nat.mul_one]; exact hr) (fun i hi => h1 i (by omega)) h63 hbytes hbase (fun v' w' h2 h3 h4 => h v' w' ?_ h3 h4)
  unfold MineK at h2
  simp only [Nat.mul_one] at h2
  exact h2
end Go.Proofs.Ytcpmnfoenpdaeaa.Lb
