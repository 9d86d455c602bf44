/-
  A slice of cells that comes in: each cell five integers.
-/
import Derived.Test.YtphiohdhgkpgnaaRowC
set_option maxRecDepth 100000
namespace Go.Proofs.Ytphiohdhgkpgnaa.Cl
set_option linter.unusedVariables false
open Go.RowKit Go.ChangeShapes Go.WideShapes Go.ChangeAt Go.Deep Lb

theorem open_cells {H : Type} {enc : TypeId × Value → H} {w : World} {base : Nat} {v : Value} {d : DataW H} {p : List MemPlace} (hv : Value.okWide Try.prog w .any base 26 v)
    (h : DataW.Trod enc Try.prog w 0 (fun _ => true) true 26 v d p) : ∃ a n c L, v = .slice a n c ∧ n ≤ c ∧ c ≤ maxLen ∧ Row w a (n * 5) (cv L) ∧ ∀ i, i < n → (-9223372036854775808 ≤ (L i).p ∧ (L i).p ≤ 9223372036854775807) := by
  obtain ⟨a, n, c, V, rfl, hn, hm, hV, hf⟩ := open_row_struct Try.underlying26 Try.underlying62 (by kernel_rfl) (by kernel_rfl) (by decide) hv h
  obtain ⟨X0, e0⟩ := field_int (n := n) (m := 5) (j := 0) Try.underlying3 (fun i hi => hf i hi 0 _ rfl)
  obtain ⟨X1, e1⟩ := field_int (n := n) (m := 5) (j := 1) Try.underlying3 (fun i hi => hf i hi 1 _ rfl)
  obtain ⟨X2, e2⟩ := field_int (n := n) (m := 5) (j := 2) Try.underlying3 (fun i hi => hf i hi 2 _ rfl)
  obtain ⟨X3, e3⟩ := field_int (n := n) (m := 5) (j := 3) Try.underlying3 (fun i hi => hf i hi 3 _ rfl)
  obtain ⟨X4, e4⟩ := field_int (n := n) (m := 5) (j := 4) Try.underlying3 (fun i hi => hf i hi 4 _ rfl)
  refine ⟨a, n, c, fun k => ⟨X0 k, X1 k, X2 k, X3 k, X4 k⟩, rfl, hn, hm, fun h0 => ?_, fun i hi => i64_bd (e4 i hi).2⟩
  obtain ⟨b, off, h1, h2, h3⟩ := hV h0
  refine ⟨b, off, h1, h2, fun q hq => (h3 q hq).trans (congrArg some ?_)⟩
  have hk : q / 5 < n := by have hq2 : q < n * 5 := hq; omega
  have hq5 : q / 5 * 5 + q % 5 = q := by omega
  unfold cv
  rcases (show q % 5 = 0 ∨ q % 5 = 1 ∨ q % 5 = 2 ∨ q % 5 = 3 ∨ q % 5 = 4 by omega) with h | h | h | h | h
  · rw [h]; rw [h] at hq5; have := (e0 _ hk).1; rw [hq5] at this; rw [this]; rfl
  · rw [h]; rw [h] at hq5; have := (e1 _ hk).1; rw [hq5] at this; rw [this]; rfl
  · rw [h]; rw [h] at hq5; have := (e2 _ hk).1; rw [hq5] at this; rw [this]; rfl
  · rw [h]; rw [h] at hq5; have := (e3 _ hk).1; rw [hq5] at this; rw [this]; rfl
  · rw [h]; rw [h] at hq5; have := (e4 _ hk).1; rw [hq5] at this; rw [this]; rfl
end Go.Proofs.Ytphiohdhgkpgnaa.Cl
