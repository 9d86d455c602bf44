/-
  A slice whose elements have k cells each, whatever lies in them: its cells, and each element as it reads.
-/
import Derived.Test.YtiflmdekcjbmbaaGreatGNodeWaits01
namespace Go.Proofs.YtiflmdekcjbmbaaGreat.Lb
set_option linter.unusedVariables false
set_option linter.unusedSimpArgs false
open Go.RowKit Go.ChangeShapes Go.WideShapes Go.ChangeAt Go.Deep
section
variable {H : Type} {enc : TypeId × Value → H} {P : Program} {w : World} {base : Nat}
theorem open_row_deep {t e : TypeId} {k : Nat} {v : Value} {d : DataW H} {p : List MemPlace} (ht : P.underlying t = some (.slice e))
    (hC : P.cellsOf e = k) (hpos : 0 < k) (hv : Value.okWide P w .any base t v) (h : DataW.Trod enc P w 0 (fun _ => true) true t v d p) :
    ∃ a n c V, v = .slice a n c ∧ n ≤ c ∧ c ≤ maxLen ∧ Row w a (n * k) V ∧ ∀ i, i < n → ∃ f y, DataW.trod enc P w 0 (fun _ => true) true f e ((List.range k).map fun j => V (i * k + j)) = some y := by
  obtain ⟨a0, len, cap, rfl⟩ := okWide_slice ht hv
  obtain ⟨fuel, hf⟩ := h
  rcases open_slice ht hf with ⟨hcs, _⟩ | ⟨x, l, c, m, n, D, Pl, hcs, _, hl, hm, hmm, _, hx⟩
  · simp [Value.cells] at hcs
    obtain ⟨rfl, rfl, rfl⟩ := hcs
    exact ⟨none, 0, 0, fun _ => undef, rfl, Nat.le_refl _, Nat.zero_le _, by rw [Nat.zero_mul]; exact Row.nil _ _ _, fun i hi => absurd hi (by omega)⟩
  · simp [Value.cells] at hcs
    obtain ⟨rfl, rfl, rfl⟩ := hcs
    simp only [if_true] at hmm
    subst hmm
    obtain ⟨b, off, spot⟩ := x
    obtain ⟨C, hCs⟩ := choose_fn (q := fun i cs' => w.cells? 0 ((⟨b, off, spot⟩ : Addr).add (i * P.cellsOf e)) (P.cellsOf e) = some cs' ∧ DataW.trod enc P w 0 (fun _ => true) true n e cs' = some (D i, Pl i)) ([] : List Value) (n := len)
      (fun i hi => hx i (by omega))
    rw [hC] at hCs
    have hcell : ∀ i, i < len → ∀ j, j < k → w.cell? (((⟨b, off, spot⟩ : Addr).add (i * k)).add j) = (C i)[j]? := fun i hi => (World.cells?_some (hCs i hi).1).2.2
    have hlen : ∀ i, i < len → (C i).length = k := fun i hi => (World.cells?_some (hCs i hi).1).2.1
    refine ⟨_, _, _, fun q => ((C (q / k))[q % k]?).getD undef, rfl, hl, hm, fun hn => ?_, fun i hi => ?_⟩
    · have hl0 : 0 < len := Nat.pos_of_mul_pos_right hn
      have h0 := hcell 0 hl0 0 hpos
      rw [List.getElem?_eq_getElem (by rw [hlen 0 hl0]; exact hpos)] at h0
      have hspot : spot = none := by simpa [Addr.add] using World.cell?_spot h0
      subst hspot
      refine ⟨b, off, rfl, by simpa [Addr.add] using lt_of_cell h0, fun q hq => ?_⟩
      have hi : q / k < len := Nat.div_lt_of_lt_mul (by rw [Nat.mul_comm]; exact hq)
      have hj : q % k < k := Nat.mod_lt _ hpos
      have h1 := hcell _ hi _ hj
      have he : (((⟨b, off, none⟩ : Addr).add (q / k * k)).add (q % k)) = ⟨b, off + q, none⟩ := by
        have hq' : q / k * k + q % k = q := Nat.div_add_mod' q k
        unfold Addr.add
        split <;> split <;> simp <;> omega
      rw [he] at h1
      have hjc : q % k < (C (q / k)).length := by rw [hlen _ hi]; exact hj
      rw [h1]
      simp only [List.getElem?_eq_getElem hjc, Option.getD_some]
    · have e1 : (List.range k).map (fun j => ((C ((i * k + j) / k))[(i * k + j) % k]?).getD undef) = C i := by
        apply List.ext_getElem?
        intro j
        by_cases hj : j < k
        · have e2 : (i * k + j) / k = i := by rw [Nat.add_comm, Nat.add_mul_div_right _ _ hpos, Nat.div_eq_of_lt hj, Nat.zero_add]
          have e3 : (i * k + j) % k = j := by rw [Nat.add_comm, Nat.add_mul_mod_self_right, Nat.mod_eq_of_lt hj]
          have hcj : j < (C i).length := by rw [hlen i hi]; exact hj
          rw [List.getElem?_map, List.getElem?_range hj]
          simp only [Option.map_some, e2, e3, List.getElem?_eq_getElem hcj, Option.getD_some]
        · rw [List.getElem?_eq_none (by simp; omega), List.getElem?_eq_none (by rw [hlen i hi]; omega)]
      rw [e1]
      exact ⟨n, _, (hCs i hi).2⟩
end
end Go.Proofs.YtiflmdekcjbmbaaGreat.Lb
