/-
  Law arguments of stage 22: rows of a node and its cells; few.
-/
import Derived.Test.YtahcplddonipcaaCeMath
import Derived.Test.YtahcplddonipcaaReach
import Derived.Test.YtahcplddonipcaaRowRow
import Derived.Test.YtahcplddonipcaaOwn
import Derived.Deep.Cut
import Derived.Deep.CutRange
import Derived.BigRegion
import Derived.IntWalk
set_option maxRecDepth 100000
namespace Go.Proofs.Ytahcplddonipcaa.Al
set_option linter.unusedVariables false
open Go.RowKit Go.ChangeShapes Go.WideShapes Go.ChangeAt Lb Cl Ce

/-- A node and its cells, with where these lie. -/
structure Rw where
  n : Int
  l : List C
  a : Option Addr
  c : Nat
structure Rws (w : World) (a : Option Addr) (n : Nat) (V : Nat → Value) (F : Nat → Rw) : Prop where
  row : Row w a (n * 2) V
  at_ : ∀ i, i < n → V (i * 2) = .int .i64 (F i).n ∧ V (i * 2 + 1) = .slice (F i).a (F i).l.length (F i).c
  ok : ∀ i, i < n → (F i).l.length ≤ (F i).c ∧ (F i).c * 40 ≤ 140737488351232 ∧ Row w (F i).a ((F i).l.length * 5) (lv (F i).l)
section
variable {H : Type} {enc : TypeId × Value → H} {w : World} {base : Nat}
theorem open_cellsF {v : Value} {y : DataW H × List MemPlace} {fuel : Nat} (hf : DataW.trod enc Try.prog w 0 (fun _ => true) true fuel 28 [v] = some y) :
    ∃ a l c, v = .slice a l.length c ∧ l.length ≤ c ∧ c ≤ maxLen ∧ Row w a (l.length * 5) (lv l) := by
  obtain ⟨a, n, c, V, rfl, h1, h2, h3, h4⟩ := open_cell_struct Try.underlying28 Try.underlying23 (by kernel_rfl) (by kernel_rfl) (by decide) hf
  obtain ⟨X0, e0⟩ := field_int (n := n) (m := 5) (j := 0) Try.underlying3 (fun i hi => h4 i hi 0 _ rfl)
  obtain ⟨X1, e1⟩ := field_int (n := n) (m := 5) (j := 1) Try.underlying3 (fun i hi => h4 i hi 1 _ rfl)
  obtain ⟨X2, e2⟩ := field_int (n := n) (m := 5) (j := 2) Try.underlying3 (fun i hi => h4 i hi 2 _ rfl)
  obtain ⟨X3, e3⟩ := field_int (n := n) (m := 5) (j := 3) Try.underlying3 (fun i hi => h4 i hi 3 _ rfl)
  obtain ⟨X4, e4⟩ := field_int (n := n) (m := 5) (j := 4) Try.underlying3 (fun i hi => h4 i hi 4 _ rfl)
  have hlen : ((List.range n).map fun k => (⟨X0 k, X1 k, X2 k, X3 k, X4 k⟩ : C)).length = n := by simp
  have hat : ∀ k, k < n → Ce.at_ ((List.range n).map fun k => (⟨X0 k, X1 k, X2 k, X3 k, X4 k⟩ : C)) k = ⟨X0 k, X1 k, X2 k, X3 k, X4 k⟩ := fun k hk => by
    unfold Ce.at_
    rw [List.getD_eq_getElem?_getD, List.getElem?_eq_getElem (by simpa using hk)]
    simp
  refine ⟨a, (List.range n).map fun k => (⟨X0 k, X1 k, X2 k, X3 k, X4 k⟩ : C), c, by rw [hlen], by rw [hlen]; exact h1, h2, fun h0 => ?_⟩
  rw [hlen] at h0
  obtain ⟨b, off, g1, g2, g3⟩ := h3 h0
  refine ⟨b, off, g1, g2, fun q hq => ?_⟩
  rw [hlen] at hq
  rw [g3 q hq]
  refine congrArg some ?_
  have hk : q / 5 < n := by omega
  have hq5 : q / 5 * 5 + q % 5 = q := by omega
  unfold lv cv
  rw [hat _ hk]
  rcases (show q % 5 = 0 ∨ q % 5 = 1 ∨ q % 5 = 2 ∨ q % 5 = 3 ∨ q % 5 = 4 by omega) with h | h | h | h | h
  · rw [h]; rw [h] at hq5; have := (e0 _ hk).1; rw [hq5] at this; rw [this]; rfl
  · rw [h]; rw [h] at hq5; have := (e1 _ hk).1; rw [hq5] at this; rw [this]; rfl
  · rw [h]; rw [h] at hq5; have := (e2 _ hk).1; rw [hq5] at this; rw [this]; rfl
  · rw [h]; rw [h] at hq5; have := (e3 _ hk).1; rw [hq5] at this; rw [this]; rfl
  · rw [h]; rw [h] at hq5; have := (e4 _ hk).1; rw [hq5] at this; rw [this]; rfl
theorem open_rows {v : Value} {d : DataW H} {p : List MemPlace} (hv : Value.okWide Try.prog w .any base 24 v)
    (h : DataW.Trod enc Try.prog w 0 (fun _ => true) true 24 v d p) (hw : ∀ x ∈ d.weights Try.prog 24, x ≤ 140737488351232) :
    ∃ a n c V F, v = .slice a n c ∧ n ≤ c ∧ c ≤ maxLen ∧ Rws w a n V F := by
  obtain ⟨a, n, c, V, rfl, hn, hm, hV, hf⟩ := open_row_struct Try.underlying24 Try.underlying39 (by kernel_rfl) (by kernel_rfl) (by decide) hv h
  obtain ⟨X0, e0⟩ := field_int (n := n) (m := 2) (j := 0) Try.underlying3 (fun i hi => hf i hi 0 _ rfl)
  obtain ⟨X, hX⟩ := choose_fn (n := n) (q := fun i (x : Rw) => V (i * 2 + 1) = .slice x.a x.l.length x.c ∧ x.l.length ≤ x.c ∧ x.c ≤ maxLen ∧ Row w x.a (x.l.length * 5) (lv x.l)) (⟨0, [], none, 0⟩ : Rw) (fun i hi => by
    obtain ⟨f, y, hy⟩ := hf i hi 1 _ rfl
    obtain ⟨a, l, c, h1, h2, h3, h4⟩ := open_cellsF hy
    exact ⟨⟨0, l, a, c⟩, h1, h2, h3, h4⟩)
  refine ⟨a, n, c, V, fun i => ⟨X0 i, (X i).l, (X i).a, (X i).c⟩, rfl, hn, hm, hV, fun i hi => ⟨(e0 i hi).1, (hX i hi).1⟩, fun i hi => ?_⟩
  have h6 := hX i hi
  have hr := field_reach Try.underlying24 Try.underlying39 (by kernel_rfl) (by kernel_rfl) h hw hV hi (j := 1) rfl Try.underlying28 h6.1
  rw [show Try.prog.bytesOf 23 = 40 by kernel_rfl] at hr
  exact ⟨h6.2.1, hr, h6.2.2.2⟩
end
/-- How many cells the first k rows have. -/
def sumR (F : Nat → Rw) : Nat → Nat
  | 0 => 0
  | k + 1 => sumR F k + (F k).l.length
theorem few_any (a : Option Addr) (n c : Nat) (V : Nat → Value) (F : Nat → Rw) (w : World) (hn : n ≤ c) (hc : c ≤ maxLen) (hF : Rws w a n V F) :
    Calls Try.prog 5 #[.slice a n c] w fun r w' => ∃ q : Bool, r = .returned (.bool q) ∧ (q = true → n ≤ 30 ∧ sumR F n ≤ 200) ∧ Below w.heap.size w w' := by
  unfold maxLen at hc
  have hcap : (n : Int) ≤ 9223372036854775807 := by omega
  have b0 := Below.refl w.heap.size w
  go_enter Try.func5, Try.ntmps5
  go_wp2_with fail
  go_loopw [8, 3] (fun i s wr => ∃ k : Nat, i = .int .i64 k ∧ s = .int .i64 (sumR F k : Nat) ∧ k ≤ n ∧ k ≤ 30 ∧ sumR F k ≤ 200 ∧ Below w.heap.size w wr) (fun i _ _ => n - (intOf i).toNat)
  case atStart => exact ⟨0, rfl, rfl, by omega, by omega, by simp [sumR], b0⟩
  case round =>
    clear b0
    obtain ⟨k, rfl, rfl, hk, hk1, hs, b1⟩ := hrel
    by_cases hlt : k < n
    · obtain ⟨bo, off, rfl, hbo, hcs⟩ := hF.row.at_struct b1 hlt (by decide)
      obtain ⟨e0, e1⟩ := hF.at_ k hlt
      obtain ⟨hm1, hm2, _⟩ := hF.ok k hlt
      have d0 := (hcs 0 (by decide)).trans (congrArg some e0)
      have d1 := (hcs 1 (by decide)).trans (congrArg some e1)
      rw [Nat.add_zero] at d0
      have hsum : sumR F (k + 1) = sumR F k + (F k).l.length := rfl
      obtain ⟨⟨qn, ql, qa, qc⟩, hq⟩ : ∃ q, F k = q := ⟨_, rfl⟩
      rw [hq] at d0 d1 hm1 hm2 hsum
      dsimp only at *
      obtain ⟨qm, hqm⟩ : ∃ q, ql.length = q := ⟨_, rfl⟩
      rw [hqm] at d1 hm1 hsum
      obtain ⟨S, hS⟩ : ∃ S, sumR F k = S := ⟨_, rfl⟩
      rw [hS] at hs hsum ⊢
      have HS := Lib.hid hsum
      clear hcs e0 e1 hq hqm hS hsum
      have ba := b1.alloc b1.size (.cells #[.int .i64 qn, .slice qa qm qc] 39)
      have ox := Own.new wr 39 #[.int .i64 qn, .slice qa qm qc]
      have c4 : (wr.alloc (.cells #[.int .i64 qn, .slice qa qm qc] 39)).cell? ⟨wr.heap.size, 1, none⟩ = some (.slice qa qm qc) := ox.cell 1
      go_upto_region 5 with (fail)
      generalize wr.alloc (.cells #[.int .i64 qn, .slice qa qm qc] 39) = wx at *
      have e1 : IntKind.i64.wrap ((S : Int) + (qm : Int)) = (S : Int) + (qm : Int) := IntWalk.i64_in _ (by omega)
      clear d0 d1 b1
      by_cases hg : 30 ≤ k
      · have g1 : decide ((30 : Int) ≤ (k : Int)) = true := by simp; omega
        have g2 : decide (30 ≤ k) = true := by simp; omega
        go_wp2_with fail
        go_ret
        exact ⟨false, rfl, (fun h => by cases h), ba⟩
      · have g1 : decide ((30 : Int) ≤ (k : Int)) = false := by simp; omega
        have g2 : decide (30 ≤ k) = false := by simp; omega
        by_cases hg3 : 200 < S + qm
        · have g3 : decide ((200 : Int) < (S : Int) + (qm : Int)) = true := by simp; omega
          go_wp2_with fail
          go_ret
          exact ⟨false, rfl, (fun h => by cases h), ba⟩
        · have g3 : decide ((200 : Int) < (S : Int) + (qm : Int)) = false := by simp; omega
          go_wp2_with fail
          exact ⟨⟨k + 1, by simp, by rw [HS.out]; simp, by omega, by omega, by rw [HS.out]; omega, ba⟩, by simp [intOf]; omega⟩
    · have hkn : k = n := by omega
      subst hkn
      have g4 : decide ((k : Int) < (k : Int)) = false := by simp
      go_wp2_with fail
      go_ret
      exact ⟨true, rfl, fun _ => ⟨hk1, hs⟩, b1⟩
end Go.Proofs.Ytahcplddonipcaa.Al
