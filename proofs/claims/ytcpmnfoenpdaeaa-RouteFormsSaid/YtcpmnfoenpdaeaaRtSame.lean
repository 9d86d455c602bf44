/-
  Package route: two rows of numbers, alike or not; which packets are light; bytes as a text.
-/
import Derived.Test.YtcpmnfoenpdaeaaRtArg
set_option maxRecDepth 100000
namespace Go.Proofs.Ytcpmnfoenpdaeaa.Rt
set_option linter.unusedVariables false
open Go.RowKit Lb Go.Shelf

theorem list_eq {l m : List Int} (h : l.length = m.length) (hk : ∀ j, j < l.length → l.getD j 0 = m.getD j 0) : l = m := by
  apply List.ext_getElem h
  intro i h1 h2
  have := hk i h1
  rw [List.getD_eq_getElem?_getD, List.getD_eq_getElem?_getD, List.getElem?_eq_getElem h1, List.getElem?_eq_getElem h2] at this
  exact this
theorem same_any (a b : Option Addr) (c d : Nat) (l m : List Int) (w : World) (h1 : l.length ≤ c) (h2 : m.length ≤ d) (hc : c ≤ maxLen) (hd : d ≤ maxLen) (hX : Row w a l.length (zval l)) (hY : Row w b m.length (zval m)) :
    Calls Try.prog 21 #[.slice a l.length c, .slice b m.length d] w fun r w' => r = .returned (.bool (decide (l = m))) ∧ ∃ z, w.drewN z = w' := by
  unfold maxLen at hc hd
  by_cases hlm : l.length = m.length
  · have HLM := Lib.hid hlm
    obtain ⟨n, hn⟩ : ∃ n, l.length = n := ⟨_, rfl⟩
    have HN := Lib.hid hn
    have hm : m.length = n := by omega
    rw [hn] at hX h1 ⊢
    rw [hm] at hY h2 ⊢
    clear hn hm hlm
    go_enter Try.func21, Try.ntmps21
    go_wp2_with fail
    go_loopw [13] (fun i wr => ∃ (k z : Nat), i = .int .i64 k ∧ k ≤ n ∧ Hid (∀ j, j < k → l.getD j 0 = m.getD j 0) ∧ w.drewN z = wr) (fun i _ => n - (intOf i).toNat)
    case atStart => exact ⟨0, 0, rfl, by omega, Lib.hid (fun j hj => by omega), rfl⟩
    case round =>
      obtain ⟨k, z, rfl, hk, HE, rfl⟩ := hrel
      by_cases hlt : k < n
      · obtain ⟨p, o, rfl, _, x1⟩ := hX.at_ hlt
        obtain ⟨q, s, rfl, _, x2⟩ := hY.at_ hlt
        unfold zval at x1 x2
        obtain ⟨x, hx⟩ : ∃ x, l.getD k 0 = x := ⟨_, rfl⟩
        obtain ⟨y, hy⟩ : ∃ y, m.getD k 0 = y := ⟨_, rfl⟩
        rw [hx] at x1
        rw [hy] at x2
        have HX := Lib.hid hx
        have HY := Lib.hid hy
        clear hx hy
        by_cases hxy : x = y
        · have HE2 : Hid (∀ j, j < k + 1 → l.getD j 0 = m.getD j 0) := Lib.hid (fun j hj => by
            by_cases e : j = k
            · subst e; rw [HX.out, HY.out, hxy]
            · exact HE.out j (by omega))
          have g1 : (x != y) = false := by simpa using hxy
          have g2 : (x == y) = true := by simpa using hxy
          clear hxy
          go_wp2_with fail
          go_quiet (fail)
          go_wp2_with fail
          exact ⟨⟨k + 1, _, by go_num, by omega, HE2, rfl⟩, by simp [intOf]; omega⟩
        · have HD : Hid (decide (l = m) = false) := Lib.hid (by
            rw [decide_eq_false_iff_not]
            intro e
            exact hxy (by rw [← HX.out, ← HY.out, e]))
          have g1 : (x != y) = true := by simpa using hxy
          have g2 : (x == y) = false := by simpa using hxy
          clear hxy
          go_wp2_with fail
          go_quiet (fail)
          go_wp2_with fail
          go_ret
          exact ⟨by rw [HD.out]; rfl, _, (World.drewN_drewN _ _ _).symm⟩
      · obtain rfl : n = k := by omega
        have HD : Hid (decide (l = m) = true) := Lib.hid (by
          rw [decide_eq_true_eq]
          exact list_eq HLM.out (by rw [HN.out]; exact HE.out))
        go_wp2_with fail
        go_ret
        exact ⟨by rw [HD.out]; rfl, z, rfl⟩
  · have HD : Hid (decide (l = m) = false) := Lib.hid (by
      rw [decide_eq_false_iff_not]
      intro e
      exact hlm (by rw [e]))
    obtain ⟨n, hn⟩ : ∃ n, l.length = n := ⟨_, rfl⟩
    obtain ⟨k, hk⟩ : ∃ k, m.length = k := ⟨_, rfl⟩
    rw [hn, hk] at hlm ⊢
    have g1 : ((n : Int) == (k : Int)) = false := by simp; omega
    have g2 : ((n : Int) != (k : Int)) = true := by simp; omega
    clear hn hk hlm
    go_enter Try.func21, Try.ntmps21
    go_wp2_with fail
    go_ret
    exact ⟨by rw [HD.out]; rfl, 0, rfl⟩
def lightB (p : Pk) : Bool := decide (p.path.length ≤ 60 ∧ p.data.length ≤ 200)
theorem light_any (p : Pk) (a : Option Addr) (c : Nat) (b : Option Addr) (d : Nat) (w : World) :
    Calls Try.prog 9 #[.agg (p.vals a c b d)] w fun r w' => r = .returned (.bool (lightB p)) ∧ Below w.heap.size w w' := by
  have o0 := Own.new w 25 (p.vals a c b d)
  have b0 := (Below.refl w.heap.size w).alloc (Nat.le_refl _) (.cells (p.vals a c b d) 25)
  obtain ⟨pf, pt, pn, pl, pp, pd⟩ := p
  obtain ⟨m, hm⟩ : ∃ m, pd.length = m := ⟨_, rfl⟩
  obtain ⟨k, hk⟩ : ∃ k, pp.length = k := ⟨_, rfl⟩
  have hD : lightB ⟨pf, pt, pn, pl, pp, pd⟩ = decide (k ≤ 60 ∧ m ≤ 200) := by rw [← hm, ← hk]; rfl
  unfold Pk.vals at o0 b0 ⊢
  simp only at o0 b0 ⊢
  rw [hm, hk] at o0 b0 ⊢
  have c4 := o0.cell 4
  have c5 := o0.cell 5
  simp at c4 c5
  clear hm hk o0
  by_cases h1 : k ≤ 60
  · have g1 : decide (k ≤ 60) = true := by simpa using h1
    have g2 : decide ((k : Int) ≤ 60) = true := by simp; omega
    by_cases h2 : m ≤ 200
    · have g3 : decide (m ≤ 200) = true := by simpa using h2
      have g4 : decide ((m : Int) ≤ 200) = true := by simp; omega
      have HD : Hid (lightB ⟨pf, pt, pn, pl, pp, pd⟩ = true) := Lib.hid (by rw [hD]; simp; omega)
      clear hD h1 h2
      go_enter Try.func9, Try.ntmps9
      go_wp2_with fail
      go_ret
      exact ⟨by rw [HD.out]; rfl, b0⟩
    · have g3 : decide (m ≤ 200) = false := by simpa using h2
      have g4 : decide ((m : Int) ≤ 200) = false := by simp; omega
      have HD : Hid (lightB ⟨pf, pt, pn, pl, pp, pd⟩ = false) := Lib.hid (by rw [hD]; simp; omega)
      clear hD h1 h2
      go_enter Try.func9, Try.ntmps9
      go_wp2_with fail
      go_ret
      exact ⟨by rw [HD.out]; rfl, b0⟩
  · have g1 : decide (k ≤ 60) = false := by simpa using h1
    have g2 : decide ((k : Int) ≤ 60) = false := by simp; omega
    have HD : Hid (lightB ⟨pf, pt, pn, pl, pp, pd⟩ = false) := Lib.hid (by rw [hD]; simp; omega)
    clear hD h1
    go_enter Try.func9, Try.ntmps9
    go_wp2_with fail
    go_ret
    exact ⟨by rw [HD.out]; rfl, b0⟩
/-- Bytes as a text. -/
def bstr (l : List Int) : ByteArray := str (fun i => l.getD i 0) l.length
theorem conv_b {w : World} {a : Option Addr} {l : List Int} (c : Nat) (h : Row w a l.length (bval l)) : (convert 23 9 (.slice a l.length c)).run Try.prog w = .ok (.string (bstr l)) w :=
  conv_string Try.underlying23 Try.underlying5 Try.underlying9 h
end Go.Proofs.Ytcpmnfoenpdaeaa.Rt
