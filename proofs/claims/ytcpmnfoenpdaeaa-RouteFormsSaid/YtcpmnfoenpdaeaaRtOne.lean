/-
  Package route: a packet's bytes say which it is.
-/
import Derived.Test.YtcpmnfoenpdaeaaRtPair
set_option maxRecDepth 100000
namespace Go.Proofs.Ytcpmnfoenpdaeaa.Rt
set_option linter.unusedVariables false
open Go.RowKit Lb Go.Shelf Bf

theorem bytesK_inj {N M : Nat} (hN : N < 281474976710656) (hM : M < 281474976710656) (h : bytesK N 6 = bytesK M 6) : N = M := by
  have hb : ∀ t, t < 6 → (N >>> (8 * (6 - 1 - t))) % 256 = (M >>> (8 * (6 - 1 - t))) % 256 := fun t ht => by
    have := congrArg (fun l => l.getD t 0) h
    simp only [bytesK_at _ _ _ ht] at this
    omega
  have h0 := hb 0 (by omega)
  have h1 := hb 1 (by omega)
  have h2 := hb 2 (by omega)
  have h3 := hb 3 (by omega)
  have h4 := hb 4 (by omega)
  have h5 := hb 5 (by omega)
  simp only [Nat.shiftRight_eq_div_pow] at h0 h1 h2 h3 h4 h5
  simp only [Nat.reduceSub, Nat.reduceMul, Nat.reducePow] at h0 h1 h2 h3 h4 h5
  omega
theorem encH_inj {p q : Pk} (hp : mayK p = true) (hq : mayK q = true) (h : encH p = encH q) : p.f = q.f ∧ p.t = q.t ∧ p.n = q.n ∧ p.life = q.life ∧ p.path.length = q.path.length := by
  obtain ⟨a1, a2, _, a3, a4, _⟩ := mayK_all hp
  obtain ⟨b1, b2, _, b3, b4, _⟩ := mayK_all hq
  unfold encH at h
  have hl : ([p.f] ++ [p.t] ++ bytesK p.n.toNat 6 ++ [p.life]).length = ([q.f] ++ [q.t] ++ bytesK q.n.toNat 6 ++ [q.life]).length := by simp [bytesK_len]
  obtain ⟨h1, h2⟩ := List.append_inj h hl
  obtain ⟨h3, h4⟩ := List.append_inj h1 (by simp [bytesK_len])
  obtain ⟨h5, h6⟩ := List.append_inj h3 (by simp)
  simp at h2 h4 h5
  have h7 := bytesK_inj (by omega) (by omega) h6
  exact ⟨h5.1, h5.2, by omega, h4, by omega⟩
theorem encB_inj {p q : Pk} (hp : mayK p = true) (hq : mayK q = true) (h : encB p = encB q) : sameB p q = true := by
  unfold encB at h
  simp only [List.append_assoc] at h
  obtain ⟨h1, h2⟩ := List.append_inj h (by rw [encH_len, encH_len])
  obtain ⟨e1, e2, e3, e4, e5⟩ := encH_inj hp hq h1
  obtain ⟨h3, h4⟩ := List.append_inj h2 e5
  obtain ⟨h5, h6⟩ := List.append_inj h4 (by simp)
  unfold sameB
  simp [e1, e2, e3, e4, h3, h6]
theorem sameB_eq {p q : Pk} (h : sameB p q = true) : p = q := by
  unfold sameB at h
  simp at h
  obtain ⟨h1, h2, h3, h4, h5, h6⟩ := h
  cases p; cases q
  simp at *
  exact ⟨h1, h2, h3, h4, h5, h6⟩
theorem sameB_self (p : Pk) : sameB p p = true := by unfold sameB; simp
theorem encB_same {p q : Pk} (hp : mayK p = true) (hq : mayK q = true) : decide (encB p = encB q) = sameB p q := by
  cases h : sameB p q
  · rw [decide_eq_false_iff_not]
    intro e
    rw [encB_inj hp hq e] at h
    cases h
  · rw [decide_eq_true_eq, sameB_eq h]
theorem encB_bytes {p : Pk} (hp : mayK p = true) (hd : okD p.data) : okD (encB p) := by
  obtain ⟨a1, a2, _, a3, a4, a5, a6⟩ := mayK_all hp
  have h16 := (okP_out a5).1
  intro x hx
  unfold encB encH at hx
  simp only [List.mem_append, List.mem_singleton] at hx
  rcases hx with ((((((rfl | rfl) | hx) | rfl) | rfl) | hx) | rfl) | hx
  · omega
  · omega
  · unfold bytesK at hx
    obtain ⟨t, _, rfl⟩ := List.mem_map.1 hx
    have := Nat.mod_lt (p.n.toNat >>> (8 * (6 - 1 - t))) (show 0 < 256 by decide)
    omega
  · omega
  · omega
  · obtain ⟨i, hi, e⟩ := List.getElem_of_mem hx
    have := ndB_yes ((okP_out a5).2 i hi).1
    rw [List.getD_eq_getElem?_getD, List.getElem?_eq_getElem hi] at this
    simp only [Option.getD_some] at this
    omega
  · omega
  · exact hd x hx
end Go.Proofs.Ytcpmnfoenpdaeaa.Rt
