/-
  Package frame (chapter 7): frames that come in; which are light; a frame that every program must know.
-/
import Derived.Test.YtiflmdekcjbmbaaGreatGNodeWaits23
import Derived.Test.YtiflmdekcjbmbaaGreatGNodeWaits30
set_option maxRecDepth 100000
namespace Go.Proofs.YtiflmdekcjbmbaaGreat.Fm
set_option linter.unusedVariables false
set_option linter.unusedSimpArgs false
open Go.RowKit Go.ChangeShapes Go.WideShapes Go.ChangeAt Go.Deep Lb Bf Ie

section
variable {H : Type} {enc : TypeId × Value → H} {w : World} {base : Nat}
theorem open_cell_els {v : Value} {y : DataW H × List MemPlace} {fuel : Nat} (hf : DataW.trod enc Tryz.prog w 0 (fun _ => true) true fuel 34 [v] = some y) :
    ∃ L a c, v = .slice a L.length c ∧ Els w L a c := by
  obtain ⟨a, n, c, V, rfl, h1, h2, h3, h4⟩ := open_cell_struct Tryz.underlying34 Tryz.underlying59 (by kernel_rfl) (by kernel_rfl) (by decide) hf
  have hn5 : n * (5 : Nat) = n * 5 := rfl
  have key : ∃ f : Nat → EP, ∀ i, i < n → V (i * 5) = .int .i64 (f i).e.k ∧ V (i * 5 + 1) = .int .i64 (f i).e.asn ∧ V (i * 5 + 2) = .int .i64 (f i).e.rank ∧ V (i * 5 + 3) = .int .i64 (f i).e.ticks ∧
      V (i * 5 + 4) = .slice (f i).a (f i).e.list.length (f i).c ∧ (f i).e.At w (f i).a (f i).c := by
    refine choose_fn (q := fun i (x : EP) => V (i * 5) = .int .i64 x.e.k ∧ V (i * 5 + 1) = .int .i64 x.e.asn ∧ V (i * 5 + 2) = .int .i64 x.e.rank ∧ V (i * 5 + 3) = .int .i64 x.e.ticks ∧
      V (i * 5 + 4) = .slice x.a x.e.list.length x.c ∧ x.e.At w x.a x.c) ep0 (fun i hi => ?_)
    obtain ⟨f0, y0, k0⟩ := h4 i hi 0 _ rfl
    obtain ⟨f1, y1, k1⟩ := h4 i hi 1 _ rfl
    obtain ⟨f2, y2, k2⟩ := h4 i hi 2 _ rfl
    obtain ⟨f3, y3, k3⟩ := h4 i hi 3 _ rfl
    obtain ⟨f4, y4, k4⟩ := h4 i hi 4 _ rfl
    obtain ⟨z0, e0, _, _⟩ := DataW.trod_int Tryz.underlying3 k0
    obtain ⟨z1, e1, _, _⟩ := DataW.trod_int Tryz.underlying2 k1
    obtain ⟨z2, e2, _, _⟩ := DataW.trod_int Tryz.underlying3 k2
    obtain ⟨z3, e3, _, _⟩ := DataW.trod_int Tryz.underlying3 k3
    obtain ⟨b, m, e, Z, e4, g1, g2, g3, g4⟩ := open_cell Tryz.underlying23 Tryz.underlying3 (by kernel_rfl) k4
    obtain ⟨l4, hl4, hz4⟩ := list_of m Z
    have r4 := row_z g3 hl4 hz4
    refine ⟨⟨⟨z0, z1, z2, z3, l4⟩, b, e⟩, by simpa using e0, by simpa using e1, by simpa using e2, by simpa using e3, ?_, ⟨by rw [hl4]; exact g1, g2, r4, row_none r4⟩⟩
    simp only [hl4]
    exact e4
  obtain ⟨f, hfk⟩ := key
  have hlen : ((List.range n).map f).length = n := by simp
  have hget : ∀ i, i < n → ((List.range n).map f).getD i ep0 = f i := fun i hi => by simp [List.getD, hi]
  have hrow : Row w a (n * 5) (ev ((List.range n).map f)) := by
    intro h0
    obtain ⟨b, off, e1, e2, e3⟩ := h3 h0
    refine ⟨b, off, e1, e2, fun q hq => ?_⟩
    have hq' : q < n * 5 := hq
    rw [e3 q hq]
    have hi : q / 5 < n := by omega
    obtain ⟨g0, g1, g2, g3, g4, _⟩ := hfk (q / 5) hi
    have hg := hget (q / 5) hi
    have hm : q % 5 = 0 ∨ q % 5 = 1 ∨ q % 5 = 2 ∨ q % 5 = 3 ∨ q % 5 = 4 := by omega
    rcases hm with hm | hm | hm | hm | hm
    · rw [show q = q / 5 * 5 by omega, ev0, hg, g0]
    · rw [show q = q / 5 * 5 + 1 by omega, ev1, hg, g1]
    · rw [show q = q / 5 * 5 + 2 by omega, ev2, hg, g2]
    · rw [show q = q / 5 * 5 + 3 by omega, ev3, hg, g3]
    · rw [show q = q / 5 * 5 + 4 by omega, ev4, hg, g4]
  refine ⟨(List.range n).map f, a, c, by rw [hlen], ⟨by rw [hlen]; exact h1, h2, by rw [hlen]; exact hrow, fun k hk => ?_⟩⟩
  rw [hlen] at hk
  rw [hget k hk]
  exact (hfk k hk).2.2.2.2.2
end
def lightF (p : Fp) : Bool := lightB p.L && decide (p.data.length ≤ 200)
end Go.Proofs.YtiflmdekcjbmbaaGreat.Fm
