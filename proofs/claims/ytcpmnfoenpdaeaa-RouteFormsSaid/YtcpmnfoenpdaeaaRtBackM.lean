/-
  Package route: a way turned about is a way; what a packet's bytes tell is the packet.
-/
import Derived.Test.YtcpmnfoenpdaeaaRtDec2
set_option maxRecDepth 100000
namespace Go.Proofs.Ytcpmnfoenpdaeaa.Rt
set_option linter.unusedVariables false
open Go.RowKit Lb

theorem rev_at2 {l : List Int} {k : Nat} (h : k < l.length) : l.reverse.getD k 0 = l.getD (l.length - 1 - k) 0 := by
  rw [List.getD_eq_getElem?_getD, List.getD_eq_getElem?_getD, List.getElem?_reverse (by omega)]
theorem okP_rev {l : List Int} (h : okP l = true) : okP l.reverse = true := by
  obtain ⟨h1, h2⟩ := okP_out h
  refine okP_yes (by rw [List.length_reverse]; exact h1) (fun j hj => ?_)
  rw [List.length_reverse] at hj
  rw [rev_at2 hj]
  refine ⟨(h2 _ (by omega)).1, fun i hi => ?_⟩
  rw [rev_at2 (by omega)]
  exact fun e => (h2 (l.length - 1 - i) (by omega)).2 (l.length - 1 - j) (by omega) e.symm
theorem back_one {l : List Int} (h : okP l = true) : backL l = l.reverse := by unfold backL; rw [h]; rfl
theorem back_two {l : List Int} (h : okP l = true) : backL l.reverse = l := by rw [back_one (okP_rev h), List.reverse_reverse]
/-- What Decode makes of a packet's own bytes. -/
theorem dec_same {p P : Pk} {e : Int} (hp : mayK p = true) (h : (e = 0 ∧ mayK P = true ∧ encB P = encB p) ∨ (e ≠ 0 ∧ P = noP ∧ ∀ q, mayK q = true → encB q ≠ encB p)) : e = 0 ∧ P = p := by
  rcases h with ⟨h1, h2, h3⟩ | ⟨_, _, h3⟩
  · exact ⟨h1, sameB_eq (encB_inj h2 hp h3)⟩
  · exact absurd rfl (h3 p hp)
theorem bel_dr (w : World) : Below w.heap.size w w.drew := below_drewN (Below.refl _ _) 1
theorem bel_two {w W w' : World} (h : Below w.heap.size w W) (j : Below W.heap.size W w') : Below w.heap.size w w' := h.trans (j.mono h.size)
theorem six_of_own {w : World} {G : Nat} {a b c d e f : Value} (z : Lb.Own w G 25 #[a, b, c, d, e, f]) :
    w.cell? ⟨G, 0, none⟩ = some a ∧ w.cell? ⟨G, 1, none⟩ = some b ∧ w.cell? ⟨G, 2, none⟩ = some c ∧ w.cell? ⟨G, 3, none⟩ = some d ∧ w.cell? ⟨G, 4, none⟩ = some e ∧ w.cell? ⟨G, 5, none⟩ = some f :=
  ⟨z.cell 0, z.cell 1, z.cell 2, z.cell 3, z.cell 4, z.cell 5⟩
theorem twelve {w : World} {A G : Nat} {a b c d e f a' b' c' d' e' f' : Value} (z : Lb.Own w A 25 #[a, b, c, d, e, f]) (y : Lb.Own w G 25 #[a', b', c', d', e', f']) :
    w.cell? ⟨A, 0, none⟩ = some a ∧ w.cell? ⟨A, 1, none⟩ = some b ∧ w.cell? ⟨A, 2, none⟩ = some c ∧ w.cell? ⟨A, 3, none⟩ = some d ∧ w.cell? ⟨A, 4, none⟩ = some e ∧ w.cell? ⟨A, 5, none⟩ = some f ∧
    w.cell? ⟨G, 0, none⟩ = some a' ∧ w.cell? ⟨G, 1, none⟩ = some b' ∧ w.cell? ⟨G, 2, none⟩ = some c' ∧ w.cell? ⟨G, 3, none⟩ = some d' ∧ w.cell? ⟨G, 4, none⟩ = some e' ∧ w.cell? ⟨G, 5, none⟩ = some f' :=
  ⟨z.cell 0, z.cell 1, z.cell 2, z.cell 3, z.cell 4, z.cell 5, y.cell 0, y.cell 1, y.cell 2, y.cell 3, y.cell 4, y.cell 5⟩
end Go.Proofs.Ytcpmnfoenpdaeaa.Rt
