/-
  Law arguments of stage 22: rows of a node and its cells; few.
-/
import Derived.Test.YtdpkiolngglpaaaCeMath
import Derived.Test.YtdpkiolngglpaaaReach
import Derived.Test.YtdpkiolngglpaaaRowRow
import Derived.Test.YtdpkiolngglpaaaOwn
import Derived.Deep.Cut
import Derived.Deep.CutRange
import Derived.BigRegion
import Derived.IntWalk
set_option maxRecDepth 100000
namespace Go.Proofs.Ytdpkiolngglpaaa.Al
set_option linter.unusedVariables false
set_option linter.unusedSimpArgs false
open Go.RowKit Go.ChangeShapes Go.WideShapes Go.ChangeAt Lb Cl Ce

/-- A node and its cells, with where these lie. -/
structure Rw where
  n : Int
  l : List C
  a : Option Addr
  c : Nat
structure Rws (w : World) (a : Option Addr) (n : Nat) (V : Nat → Value) (F : Nat → Rw) : Prop where
  row : Row w a (n * 2) V
  at_ : ∀ i, i < n → V (i * 2) = .int .i64 (F i).n ∧ V (i * 2 + 1) = .slice (F i).a (F i).l.length (F i).c
  ok : ∀ i, i < n → (F i).l.length ≤ (F i).c ∧ (F i).c * 40 ≤ 140737488351232 ∧ Row w (F i).a ((F i).l.length * 5) (lv (F i).l)
section
variable {H : Type} {enc : TypeId × Value → H} {w : World} {base : Nat}
theorem open_cellsF {v : Value} {y : DataW H × List MemPlace} {fuel : Nat} (hf : DataW.trod enc Try.prog w 0 (fun _ => true) true fuel 33 [v] = some y) :
    ∃ a l c, v = .slice a l.length c ∧ l.length ≤ c ∧ c ≤ maxLen ∧ Row w a (l.length * 5) (lv l) := by
  obtain ⟨a, n, c, V, rfl, h1, h2, h3, h4⟩ := open_cell_struct Try.underlying33 Try.underlying69 (by kernel_rfl) (by kernel_rfl) (by decide) hf
  obtain ⟨X0, e0⟩ := field_int (n := n) (m := 5) (j := 0) Try.underlying3 (fun i hi => h4 i hi 0 _ rfl)
  obtain ⟨X1, e1⟩ := field_int (n := n) (m := 5) (j := 1) Try.underlying3 (fun i hi => h4 i hi 1 _ rfl)
  obtain ⟨X2, e2⟩ := field_int (n := n) (m := 5) (j := 2) Try.underlying3 (fun i hi => h4 i hi 2 _ rfl)
  obtain ⟨X3, e3⟩ := field_int (n := n) (m := 5) (j := 3) Try.underlying3 (fun i hi => h4 i hi 3 _ rfl)
  obtain ⟨X4, e4⟩ := field_int (n := n) (m := 5) (j := 4) Try.underlying3 (fun i hi => h4 i hi 4 _ rfl)
  have hlen : ((List.range n).map fun k => (⟨X0 k, X1 k, X2 k, X3 k, X4 k⟩ : C)).length = n := by simp
  have hat : ∀ k, k < n → Ce.at_ ((List.range n).map fun k => (⟨X0 k, X1 k, X2 k, X3 k, X4 k⟩ : C)) k = ⟨X0 k, X1 k, X2 k, X3 k, X4 k⟩ := fun k hk => by
    unfold Ce.at_
    rw [List.getD_eq_getElem?_getD, List.getElem?_eq_getElem (by simpa using hk)]
    simp
  refine ⟨a, (List.range n).map fun k => (⟨X0 k, X1 k, X2 k, X3 k, X4 k⟩ : C), c, by rw [hlen], by rw [hlen]; exact h1, h2, fun h0 => ?_⟩
  rw [hlen] at h0
  obtain ⟨b, off, g1, g2, g3⟩ := h3 h0
  refine ⟨b, off, g1, g2, fun q hq => ?_⟩
  rw [hlen] at hq
  rw [g3 q hq]
  refine congrArg some ?_
  have hk : q / 5 < n := by omega
  have hq5 : q / 5 * 5 + q % 5 = q := by omega
  unfold lv cv
  rw [hat _ hk]
  rcases (show q % 5 = 0 ∨ q % 5 = 1 ∨ q % 5 = 2 ∨ q % 5 = 3 ∨ q % 5 = 4 by omega) with h | h | h | h | h
  · rw [h]; rw [h] at hq5; have := (e0 _ hk).1; rw [hq5] at this; rw [this]; rfl
  · rw [h]; rw [h] at hq5; have := (e1 _ hk).1; rw [hq5] at this; rw [this]; rfl
  · rw [h]; rw [h] at hq5; have := (e2 _ hk).1; rw [hq5] at this; rw [this]; rfl
  · rw [h]; rw [h] at hq5; have := (e3 _ hk).1; rw [hq5] at this; rw [this]; rfl
  · rw [h]; rw [h] at hq5; have := (e4 _ hk).1; rw [hq5] at this; rw [this]; rfl
theorem open_rows {v : Value} {d : DataW H} {p : List MemPlace} (hv : Value.okWide Try.prog w .any base 29 v)
    (h : DataW.Trod enc Try.prog w 0 (fun _ => true) true 29 v d p) (hw : ∀ x ∈ d.weights Try.prog 29, x ≤ 140737488351232) :
    ∃ a n c V F, v = .slice a n c ∧ n ≤ c ∧ c ≤ maxLen ∧ Rws w a n V F := by
  obtain ⟨a, n, c, V, rfl, hn, hm, hV, hf⟩ := open_row_struct Try.underlying29 Try.underlying67 (by kernel_rfl) (by kernel_rfl) (by decide) hv h
  obtain ⟨X0, e0⟩ := field_int (n := n) (m := 2) (j := 0) Try.underlying3 (fun i hi => hf i hi 0 _ rfl)
  obtain ⟨X, hX⟩ := choose_fn (n := n) (q := fun i (x : Rw) => V (i * 2 + 1) = .slice x.a x.l.length x.c ∧ x.l.length ≤ x.c ∧ x.c ≤ maxLen ∧ Row w x.a (x.l.length * 5) (lv x.l)) (⟨0, [], none, 0⟩ : Rw) (fun i hi => by
    obtain ⟨f, y, hy⟩ := hf i hi 1 _ rfl
    obtain ⟨a, l, c, h1, h2, h3, h4⟩ := open_cellsF hy
    exact ⟨⟨0, l, a, c⟩, h1, h2, h3, h4⟩)
  refine ⟨a, n, c, V, fun i => ⟨X0 i, (X i).l, (X i).a, (X i).c⟩, rfl, hn, hm, hV, fun i hi => ⟨(e0 i hi).1, (hX i hi).1⟩, fun i hi => ?_⟩
  have h6 := hX i hi
  have hr := field_reach Try.underlying29 Try.underlying67 (by kernel_rfl) (by kernel_rfl) h hw hV hi (j := 1) rfl Try.underlying33 h6.1
  rw [show Try.prog.bytesOf 69 = 40 by kernel_rfl] at hr
  exact ⟨h6.2.1, hr, h6.2.2.2⟩
end
/-- How many cells the first k rows have. -/
def sumR (F : Nat → Rw) : Nat → Nat
  | 0 => 0
  | k + 1 => sumR F k + (F k).l.length
end Go.Proofs.Ytdpkiolngglpaaa.Al
