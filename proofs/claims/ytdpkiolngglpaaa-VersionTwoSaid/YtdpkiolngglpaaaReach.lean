/-
  How much a slice that lies in a struct of a row takes: the form's own reach.
-/
import Derived.Test.YtdpkiolngglpaaaSized
set_option maxRecDepth 100000
namespace Go.Proofs.Ytdpkiolngglpaaa.Lb
set_option linter.unusedVariables false
set_option linter.unusedSimpArgs false
open Go.RowKit Go.ChangeShapes Go.WideShapes Go.ChangeAt Go.Deep
section
variable {H : Type} {enc : TypeId × Value → H} {P : Program} {w : World}
theorem weightsAll_mem {e : TypeId} {x : Nat} : ∀ {l : List (DataW H)} {d : DataW H}, d ∈ l → x ∈ d.weights P e → x ∈ DataW.weightsAll P e l
  | [], _, h, _ => by simp at h
  | y :: r, d, h, hx => by
    simp only [DataW.weightsAll, List.mem_append]
    rcases List.mem_cons.1 h with rfl | h
    · exact .inl hx
    · exact .inr (weightsAll_mem h hx)
/-- All that a slice weighs. -/
theorem slice_weight {t e : TypeId} {fuel : Nat} {a : Option Addr} {n c : Nat} {y : DataW H × List MemPlace} (ht : P.underlying t = some (.slice e)) (h : DataW.trod enc P w 0 (fun _ => true) true fuel t [.slice a n c] = some y) : c = 0 ∨ c * P.bytesOf e ∈ y.1.weights P t := by
  rcases open_slice ht h with ⟨hcs, _⟩ | ⟨x, l, cp, m, n', D, Pl, hcs, _, hl, hm, hmm, hx, _⟩
  · simp at hcs
    exact .inl hcs.2.2
  · simp at hcs
    obtain ⟨_, rfl, rfl⟩ := hcs
    simp only [if_true] at hmm
    subst hmm
    right
    rw [hx]
    simp only [DataW.weights, ht, List.length_map, List.length_range, List.mem_cons]
    left
    rw [show n + (m - n) = m by omega]
/-- A slice that is a field of a struct of a row. -/
theorem field_reach {t e e2 : TypeId} {fs : Array Field} {a a2 : Option Addr} {n c n2 c2 R i j : Nat} {V : Nat → Value} {d : DataW H} {p : List MemPlace} {g : Field} (ht : P.underlying t = some (.slice e)) (he : P.underlying e = some (.struct fs)) (hone : oneCellFields P fs = true)
    (hC : P.cellsOf e = fs.size) (h : DataW.Trod enc P w 0 (fun _ => true) true t (.slice a n c) d p) (hw : ∀ x ∈ d.weights P t, x ≤ R) (hV : Row w a (n * fs.size) V) (hi : i < n) (hj : fs[j]? = some g) (hg : P.underlying g.type = some (.slice e2)) (hv : V (i * fs.size + j) = .slice a2 n2 c2) : c2 * P.bytesOf e2 ≤ R := by
  obtain ⟨fuel, hf⟩ := h
  have hjl : j < fs.size := (Array.getElem?_eq_some_iff.1 hj).1
  rcases open_slice ht hf with ⟨hcs, _⟩ | ⟨x, l, cp, m, n', D, Pl, hcs, _, hl, hm, hmm, hx, hs⟩
  · simp [Value.cells] at hcs
    omega
  · simp [Value.cells] at hcs
    obtain ⟨rfl, rfl, rfl⟩ := hcs
    obtain ⟨cs', h1, h2⟩ := hs i (by simp only [if_true] at hmm; omega)
    rw [hC] at h1
    obtain ⟨ys, k, _, hys, hcl, hyl, hgs⟩ := DataW.trod_struct he h2
    have h3 := hgs j g hj
    obtain ⟨ho, hk⟩ := hone_of hone j g hj
    have hjc : j < cs'.length := by rw [hcl, hC]; exact hjl
    have e1 : (cs'.drop j).take 1 = [cs'[j]] := by
      rw [List.drop_eq_getElem_cons hjc]
      rfl
    have hq : i * fs.size + j < n * fs.size := by
      have : (i + 1) * fs.size ≤ n * fs.size := Nat.mul_le_mul_right _ (by omega)
      rw [Nat.succ_mul] at this
      omega
    obtain ⟨b, off, hb, _, hcell⟩ := hV (by omega)
    injection hb with hb
    subst hb
    have h4 := (World.cells?_some h1).2.2 j hjl
    have e2' : (((⟨b, off, none⟩ : Addr).add (i * fs.size)).add j) = ⟨b, off + (i * fs.size + j), none⟩ := by
      unfold Addr.add
      split <;> split <;> simp <;> omega
    rw [e2', hcell _ hq, hv, List.getElem?_eq_getElem hjc] at h4
    injection h4 with h4
    rw [ho, hk, e1, ← h4, List.getElem?_eq_getElem (by omega)] at h3
    rcases slice_weight hg h3 with h0 | h0
    · subst h0
      simp
    · refine hw _ ?_
      have hd' := congrArg Prod.fst hx
      have hy' := congrArg Prod.fst hys
      dsimp only at hd' hy'
      rw [hd']
      simp only [DataW.weights, ht, List.mem_cons, List.mem_append]
      right
      left
      refine weightsAll_mem (List.mem_map.2 ⟨i, List.mem_range.2 hi, rfl⟩) ?_
      rw [hy']
      simp only [DataW.weights, he]
      exact DataW.weights_mem_each (j := j) (by rw [List.getElem?_map, Array.getElem?_toList, hj]; rfl) (by rw [List.getElem?_map, List.getElem?_eq_getElem (by omega)]; rfl) _ h0
end
end Go.Proofs.Ytdpkiolngglpaaa.Lb
