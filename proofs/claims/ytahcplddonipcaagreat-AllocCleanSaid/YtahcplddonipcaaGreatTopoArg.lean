/-
  Calls of a graph that come in: each a report's links, or whom to forget.
-/
import Derived.Test.YtahcplddonipcaaGreatRowRow
import Derived.Test.YtahcplddonipcaaGreatTopoMath
set_option maxRecDepth 100000
namespace Go.Proofs.YtahcplddonipcaaGreat.Tp
set_option linter.unusedVariables false
set_option linter.unusedSimpArgs false
open Go.RowKit Go.ChangeShapes Go.WideShapes Go.ChangeAt Go.Deep Lb

structure Cl where
  f : Bool
  me : Int
  a : Option Addr
  n : Nat
  c : Nat
  L : Nat → Lk
/-- The links of a call, as they lie. -/
def Cl.ok (w : World) (x : Cl) : Prop := x.n ≤ x.c ∧ x.c ≤ maxLen ∧ Row w x.a (x.n * 3) (lv x.L)

section
variable {H : Type} {enc : TypeId × Value → H} {w : World} {base : Nat}
theorem links_of {V : Nat → Value} {a : Option Addr} {n : Nat} (h : Row w a (n * 3) V)
    (hf : ∀ i, i < n → ∀ (j : Nat), j < 3 → ∃ f y, DataW.trod enc Tryz.prog w 0 (fun _ => true) true f 3 [V (i * 3 + j)] = some y) : ∃ L, Row w a (n * 3) (lv L) := by
  obtain ⟨X0, e0⟩ := field_int (n := n) (m := 3) (j := 0) Tryz.underlying3 (fun i hi => hf i hi 0 (by decide))
  obtain ⟨X1, e1⟩ := field_int (n := n) (m := 3) (j := 1) Tryz.underlying3 (fun i hi => hf i hi 1 (by decide))
  obtain ⟨X2, e2⟩ := field_int (n := n) (m := 3) (j := 2) Tryz.underlying3 (fun i hi => hf i hi 2 (by decide))
  refine ⟨fun k => ⟨X0 k, X1 k, X2 k⟩, fun h0 => ?_⟩
  obtain ⟨b, off, h1, h2, h3⟩ := h h0
  refine ⟨b, off, h1, h2, fun q hq => (h3 q hq).trans (congrArg some ?_)⟩
  have hk : q / 3 < n := by omega
  have hq3 : q / 3 * 3 + q % 3 = q := by omega
  unfold lv
  rcases (show q % 3 = 0 ∨ q % 3 = 1 ∨ q % 3 = 2 by omega) with h | h | h
  · rw [h]; rw [h] at hq3; have := (e0 _ hk).1; rw [hq3] at this; rw [this]; rfl
  · rw [h]; rw [h] at hq3; have := (e1 _ hk).1; rw [hq3] at this; rw [this]; rfl
  · rw [h]; rw [h] at hq3; have := (e2 _ hk).1; rw [hq3] at this; rw [this]; rfl
theorem open_links_cell {v : Value} (h : ∃ f y, DataW.trod enc Tryz.prog w 0 (fun _ => true) true f 58 [v] = some y) :
    ∃ a n c L, v = .slice a n c ∧ n ≤ c ∧ c ≤ maxLen ∧ Row w a (n * 3) (lv L) := by
  obtain ⟨f, y, hf⟩ := h
  obtain ⟨a, n, c, V, rfl, hn, hm, hV, hg⟩ := open_cell_struct Tryz.underlying58 Tryz.underlying103 (by kernel_rfl) (by kernel_rfl) (by decide) hf
  obtain ⟨L, hL⟩ := links_of (a := a) (n := n) (V := V) hV (fun i hi j hj => by
    rcases (show j = 0 ∨ j = 1 ∨ j = 2 by omega) with rfl | rfl | rfl
    · exact hg i hi 0 _ rfl
    · exact hg i hi 1 _ rfl
    · exact hg i hi 2 _ rfl)
  exact ⟨a, n, c, L, rfl, hn, hm, hL⟩
/-- A row of calls. -/
theorem open_calls {v : Value} {d : DataW H} {p : List MemPlace} (hv : Value.okWide Tryz.prog w .any base 22 v)
    (h : DataW.Trod enc Tryz.prog w 0 (fun _ => true) true 22 v d p) :
    ∃ a n c V, ∃ C : Nat → Cl, v = .slice a n c ∧ n ≤ c ∧ c ≤ maxLen ∧ Row w a (n * 3) V ∧ ∀ i, i < n → V (i * 3) = .bool (C i).f ∧ V (i * 3 + 1) = .int .i64 (C i).me ∧ V (i * 3 + 2) = .slice (C i).a (C i).n (C i).c ∧ (C i).ok w := by
  obtain ⟨a, n, c, V, rfl, hn, hm, hV, hf⟩ := open_row_struct Tryz.underlying22 Tryz.underlying60 (by kernel_rfl) (by kernel_rfl) (by decide) hv h
  obtain ⟨X0, e0⟩ := field_bool (n := n) (m := 3) (j := 0) Tryz.underlying4 (fun i hi => hf i hi 0 _ rfl)
  obtain ⟨X1, e1⟩ := field_int (n := n) (m := 3) (j := 1) Tryz.underlying3 (fun i hi => hf i hi 1 _ rfl)
  obtain ⟨X2, e2⟩ := choose_fn (q := fun i (x : Cl) => V (i * 3 + 2) = .slice x.a x.n x.c ∧ x.ok w) (⟨false, 0, none, 0, 0, fun _ => ⟨0, 0, 0⟩⟩ : Cl) (n := n) (fun i hi => by
    obtain ⟨a, n, c, L, h1, h2, h3, h4⟩ := open_links_cell (hf i hi 2 _ rfl)
    exact ⟨⟨false, 0, a, n, c, L⟩, h1, h2, h3, h4⟩)
  exact ⟨a, n, c, V, fun i => ⟨X0 i, X1 i, (X2 i).a, (X2 i).n, (X2 i).c, (X2 i).L⟩, rfl, hn, hm, hV, fun i hi => ⟨e0 i hi, (e1 i hi).1, (e2 i hi).1, (e2 i hi).2⟩⟩
end
end Go.Proofs.YtahcplddonipcaaGreat.Tp
