/-
  Package route: paths, bytes and packets that come in.
-/
import Derived.Test.YtcpmnfoenpdaeaaRtNext
import Derived.Deep.Strs
import Derived.Lib.SmallJoins
set_option maxRecDepth 100000
namespace Go.Proofs.Ytcpmnfoenpdaeaa.Rt
set_option linter.unusedVariables false
open Go.RowKit Go.ChangeShapes Go.WideShapes Go.ChangeAt Go.Deep Lb

section
variable {H : Type} {enc : TypeId × Value → H} {w : World} {base : Nat}
theorem list_of (n : Nat) (Z : Nat → Int) : ∃ l : List Int, l.length = n ∧ ∀ i, i < n → l.getD i 0 = Z i :=
  ⟨(List.range n).map Z, by simp, fun i hi => by simp [List.getD, hi]⟩
theorem row_z {w : World} {a : Option Addr} {n : Nat} {Z : Nat → Int} {l : List Int} (h : Row w a n (fun i => .int .i64 (Z i))) (hl : l.length = n) (hz : ∀ i, i < n → l.getD i 0 = Z i) : Row w a l.length (zval l) := by
  intro h0
  rw [hl] at h0 ⊢
  obtain ⟨b, off, h1, h2, h3⟩ := h h0
  exact ⟨b, off, h1, h2, fun i hi => by rw [h3 i hi]; unfold zval; rw [hz i hi]⟩
theorem row_b {w : World} {a : Option Addr} {n : Nat} {Z : Nat → Int} {l : List Int} (h : Row w a n (fun i => .int .u8 (Z i))) (hl : l.length = n) (hz : ∀ i, i < n → l.getD i 0 = Z i) : Row w a l.length (bval l) := by
  intro h0
  rw [hl] at h0 ⊢
  obtain ⟨b, off, h1, h2, h3⟩ := h h0
  exact ⟨b, off, h1, h2, fun i hi => by rw [h3 i hi]; unfold bval; rw [hz i hi]⟩
theorem row_none {w : World} {a : Option Addr} {n : Nat} {V : Nat → Value} (h : Row w a n V) : a = none → n = 0 := fun e => by
  by_cases h0 : n = 0
  · exact h0
  · obtain ⟨_, _, h1, _⟩ := h (by omega)
    rw [e] at h1
    cases h1
/-- A slice of numbers that comes in. -/
theorem open_ints {v : Value} {d : DataW H} {p : List MemPlace} (hv : Value.okWide Try.prog w .any base 22 v)
    (h : DataW.Trod enc Try.prog w 0 (fun _ => true) true 22 v d p) :
    ∃ a, ∃ l : List Int, ∃ c, v = .slice a l.length c ∧ l.length ≤ c ∧ c ≤ maxLen ∧ Row w a l.length (zval l) ∧ (a = none → l.length = 0) := by
  obtain ⟨a, n, c, Z, rfl, h1, h2, h3, _⟩ := open_row_int Try.underlying22 Try.underlying3 (by kernel_rfl) hv h
  obtain ⟨l, hl, hz⟩ := list_of n Z
  have hr := row_z h3 hl hz
  exact ⟨a, l, c, by rw [hl], by rw [hl]; exact h1, h2, hr, row_none hr⟩
/-- A slice of bytes that comes in. -/
theorem open_bytes {v : Value} {d : DataW H} {p : List MemPlace} (hv : Value.okWide Try.prog w .any base 23 v)
    (h : DataW.Trod enc Try.prog w 0 (fun _ => true) true 23 v d p) :
    ∃ a, ∃ l : List Int, ∃ c, v = .slice a l.length c ∧ l.length ≤ c ∧ c ≤ maxLen ∧ Row w a l.length (bval l) ∧ (a = none → l.length = 0) ∧ ∀ x, x ∈ l → 0 ≤ x ∧ x < 256 := by
  obtain ⟨a, n, c, Z, rfl, h1, h2, h3, h4⟩ := open_row_int Try.underlying23 Try.underlying5 (by kernel_rfl) hv h
  obtain ⟨l, hl, hz⟩ := list_of n Z
  have hr := row_b h3 hl hz
  refine ⟨a, l, c, by rw [hl], by rw [hl]; exact h1, h2, hr, row_none hr, fun x hx => ?_⟩
  obtain ⟨i, hi, e⟩ := List.getElem_of_mem hx
  have := u8_bd (h4 i)
  have e2 := hz i (by omega)
  rw [List.getD_eq_getElem?_getD, List.getElem?_eq_getElem hi] at e2
  simp only [Option.getD_some] at e2
  rw [← e, e2]
  exact this
theorem open_cell {P : Program} {t e : TypeId} {k : IntKind} {v : Value} {fuel : Nat} {y : DataW H × List MemPlace} (ht : P.underlying t = some (.slice e)) (he : P.underlying e = some (.int k)) (hc : P.cellsOf e = 1) (hf : DataW.trod enc P w 0 (fun _ => true) true fuel t [v] = some y) :
    ∃ a n c, ∃ Z : Nat → Int, v = .slice a n c ∧ n ≤ c ∧ c ≤ maxLen ∧ Row w a n (fun i => .int k (Z i)) ∧ ∀ i, (Lit.int k (Z i)).wf = true := by
  obtain ⟨dd, pp⟩ := y
  have key : ∃ a n c V, v = .slice a n c ∧ n ≤ c ∧ c ≤ maxLen ∧ Row w a n V ∧ ∀ i, i < n → ∃ f y, DataW.trod enc P w 0 (fun _ => true) true f e [V i] = some y := by
    rcases open_slice1 ht hc hf with ⟨hcs, _⟩ | ⟨x, l, c, m, n, V, D, Pl, hcs, _, hl, hm, hmm, _, hx⟩
    · simp at hcs
      subst hcs
      exact ⟨none, 0, 0, fun _ => undef, rfl, Nat.le_refl _, Nat.zero_le _, Row.nil _ _ _, fun i hi => absurd hi (by omega)⟩
    · simp at hcs
      subst hcs
      simp only [if_true] at hmm
      subst hmm
      obtain ⟨b, off, spot⟩ := x
      refine ⟨_, _, _, V, rfl, hl, hm, fun hn => ?_, fun i hi => ⟨_, _, (hx i (by omega)).2⟩⟩
      have h0 := (hx 0 (by omega)).1
      have hspot : spot = none := by simpa [Addr.add] using World.cell?_spot h0
      subst hspot
      refine ⟨b, off, rfl, ?_, fun i hi => ?_⟩
      · simpa [Addr.add] using lt_of_cell h0
      · have := (hx i (by omega)).1
        unfold Addr.add at this
        split at this
        · rename_i hi0
          subst hi0
          exact this
        · exact this
  obtain ⟨a, n, c, V, rfl, h1, h2, h3, h4⟩ := key
  obtain ⟨Z, hZ⟩ := choose_fn (q := fun i z => V i = .int k z ∧ (Lit.int k z).wf = true) (0 : Int) (fun i hi => by
    obtain ⟨f, y, hy⟩ := h4 i hi
    obtain ⟨z, hz, _, hw⟩ := DataW.trod_int he hy
    exact ⟨z, by simpa using hz, hw⟩)
  refine ⟨a, n, c, fun i => if i < n then Z i else 0, rfl, h1, h2, fun hn => ?_, fun i => ?_⟩
  · obtain ⟨b, off, e1, e2, e3⟩ := h3 hn
    exact ⟨b, off, e1, e2, fun i hi => by simp only [e3 i hi, (hZ i hi).1, if_pos hi]⟩
  · by_cases hi : i < n
    · simp only [if_pos hi]; exact (hZ i hi).2
    · simp only [if_neg hi]; cases k <;> decide
/-- What holds of a packet that comes in: its numbers are ints, its bytes bytes. -/
structure Pk.Wf (p : Pk) : Prop where
  f : (Lit.int .i64 p.f).wf = true
  t : (Lit.int .i64 p.t).wf = true
  n : (Lit.int .i64 p.n).wf = true
  life : (Lit.int .i64 p.life).wf = true
  path : ∀ x, x ∈ p.path → (Lit.int .i64 x).wf = true
  data : ∀ x, x ∈ p.data → 0 ≤ x ∧ x < 256
theorem mem_of {l : List Int} {n : Nat} {Z : Nat → Int} {q : Int → Prop} (hl : l.length = n) (hz : ∀ i, i < n → l.getD i 0 = Z i) (h : ∀ i, q (Z i)) : ∀ x, x ∈ l → q x := fun x hx => by
  obtain ⟨i, hi, e⟩ := List.getElem_of_mem hx
  have e2 := hz i (by omega)
  rw [List.getD_eq_getElem?_getD, List.getElem?_eq_getElem hi] at e2
  simp only [Option.getD_some] at e2
  rw [← e, e2]
  exact h i
theorem open_packet {v : Value} {d : DataW H} {pl : List MemPlace} (hv : Value.okWide Try.prog w .any base 25 v)
    (h : DataW.Trod enc Try.prog w 0 (fun _ => true) true 25 v d pl) :
    ∃ p : Pk, ∃ a c b e, v = .agg (p.vals a c b e) ∧ p.At w a c b e ∧ p.Wf := by
  have hC : Try.prog.cellsOf 25 = 6 := by kernel_rfl
  have hI : Try.prog.cellsOf 3 = 1 := by kernel_rfl
  have hS : Try.prog.cellsOf 22 = 1 := by kernel_rfl
  have hB : Try.prog.cellsOf 23 = 1 := by kernel_rfl
  obtain ⟨cs, rfl, hsz⟩ := okWide_struct Try.underlying25 hv
  rw [hC] at hsz
  obtain ⟨l⟩ := cs
  match l, hsz with
  | [x0, x1, x2, x3, x4, x5], _ =>
  obtain ⟨fuel, hf⟩ := h
  obtain ⟨xs, k, _, _, _, hlen, hfs⟩ := DataW.trod_struct Try.underlying25 hf
  match xs, hlen with
  | [y0, y1, y2, y3, y4, y5], _ =>
  obtain ⟨z0, e0, _, w0⟩ := DataW.trod_int Try.underlying3 (hfs 0 _ rfl)
  obtain ⟨z1, e1, _, w1⟩ := DataW.trod_int Try.underlying3 (hfs 1 _ rfl)
  obtain ⟨z2, e2, _, w2⟩ := DataW.trod_int Try.underlying3 (hfs 2 _ rfl)
  obtain ⟨z3, e3, _, w3⟩ := DataW.trod_int Try.underlying3 (hfs 3 _ rfl)
  have e4 := hfs 4 _ rfl
  have e5 := hfs 5 _ rfl
  simp [Value.cells, hI, hS, hB] at e0 e1 e2 e3 e4 e5
  subst e0 e1 e2 e3
  obtain ⟨a, n, c, Z, rfl, g1, g2, g3, g4⟩ := open_cell Try.underlying22 Try.underlying3 (by kernel_rfl) e4
  obtain ⟨b, m, e, Y, rfl, k1, k2, k3, k4⟩ := open_cell Try.underlying23 Try.underlying5 (by kernel_rfl) e5
  obtain ⟨l4, hl4, hz4⟩ := list_of n Z
  obtain ⟨l5, hl5, hz5⟩ := list_of m Y
  have r4 := row_z g3 hl4 hz4
  have r5 := row_b k3 hl5 hz5
  refine ⟨⟨z0, z1, z2, z3, l4, l5⟩, a, c, b, e, ?_, ⟨by rw [hl4]; exact g1, g2, r4, row_none r4, by rw [hl5]; exact k1, k2, r5, row_none r5⟩, ⟨w0, w1, w2, w3, mem_of hl4 hz4 g4, mem_of hl5 hz5 (fun i => u8_bd (k4 i))⟩⟩
  subst hl4 hl5
  rfl
end
end Go.Proofs.Ytcpmnfoenpdaeaa.Rt
