/-
  The calls of chapter 23's laws: opened; few of them.
-/
import Derived.Test.YtdpkiolngglpaaaVeMap
set_option maxRecDepth 100000
namespace Go.Proofs.Ytdpkiolngglpaaa.Al
set_option linter.unusedVariables false
set_option linter.unusedSimpArgs false
open Go.RowKit Lb Cl Ce Mi Go.ChangeShapes Go.WideShapes Go.Deep

/-- A call: what it does, of whom, which version, and rows. -/
structure Kl where
  d : Int
  n : Int
  v : Int
  m : Nat
  a : Option Addr
  c : Nat
  V : Nat → Value
  F : Nat → Rw
structure Kls (w : World) (a : Option Addr) (n : Nat) (V : Nat → Value) (Q : Nat → Kl) : Prop where
  row : Row w a (n * 4) V
  at_ : ∀ i, i < n → V (i * 4) = .int .i64 (Q i).d ∧ V (i * 4 + 1) = .int .i64 (Q i).n ∧ V (i * 4 + 2) = .int .i64 (Q i).v ∧ V (i * 4 + 3) = .slice (Q i).a (Q i).m (Q i).c
  ok : ∀ i, i < n → (Q i).m ≤ (Q i).c ∧ (Q i).c ≤ maxLen ∧ RwM w (Q i).a (Q i).m (Q i).V (Q i).F
theorem Kls.below {w w' : World} {a : Option Addr} {n : Nat} {V : Nat → Value} {Q : Nat → Kl} (h : Kls w a n V Q) (b : Below w.heap.size w w') : Kls w' a n V Q :=
  ⟨h.row.below b, h.at_, fun i hi => ⟨(h.ok i hi).1, (h.ok i hi).2.1, (h.ok i hi).2.2.below b⟩⟩
section
variable {H : Type} {enc : TypeId × Value → H} {w : World} {base : Nat}
theorem open_rowsF {v : Value} {y : DataW H × List MemPlace} {fuel : Nat} (hf : DataW.trod enc Try.prog w 0 (fun _ => true) true fuel 29 [v] = some y) :
    ∃ a n c V F, v = .slice a n c ∧ n ≤ c ∧ c ≤ maxLen ∧ RwM w a n V F := by
  obtain ⟨a, n, c, V, rfl, hn, hm, hV, h4⟩ := open_cell_struct Try.underlying29 Try.underlying67 (by kernel_rfl) (by kernel_rfl) (by decide) hf
  obtain ⟨X0, e0⟩ := field_int (n := n) (m := 2) (j := 0) Try.underlying3 (fun i hi => h4 i hi 0 _ rfl)
  obtain ⟨X, hX⟩ := choose_fn (n := n) (q := fun i (x : Rw) => V (i * 2 + 1) = .slice x.a x.l.length x.c ∧ x.l.length ≤ x.c ∧ x.c ≤ maxLen ∧ Row w x.a (x.l.length * 5) (lv x.l)) (⟨0, [], none, 0⟩ : Rw) (fun i hi => by
    obtain ⟨f, y, hy⟩ := h4 i hi 1 _ rfl
    obtain ⟨a, l, c, h1, h2, h3, h4⟩ := open_cellsF hy
    exact ⟨⟨0, l, a, c⟩, h1, h2, h3, h4⟩)
  exact ⟨a, n, c, V, fun i => ⟨X0 i, (X i).l, (X i).a, (X i).c⟩, rfl, hn, hm, hV, fun i hi => ⟨(e0 i hi).1, (hX i hi).1⟩, fun i hi => (hX i hi).2⟩
theorem open_kls {v : Value} {d : DataW H} {p : List MemPlace} (hv : Value.okWide Try.prog w .any base 22 v)
    (h : DataW.Trod enc Try.prog w 0 (fun _ => true) true 22 v d p) :
    ∃ a n c V Q, v = .slice a n c ∧ n ≤ c ∧ c ≤ maxLen ∧ Kls w a n V Q := by
  obtain ⟨a, n, c, V, rfl, hn, hm, hV, hf⟩ := open_row_struct Try.underlying22 Try.underlying31 (by kernel_rfl) (by kernel_rfl) (by decide) hv h
  obtain ⟨X0, e0⟩ := field_int (n := n) (m := 4) (j := 0) Try.underlying3 (fun i hi => hf i hi 0 _ rfl)
  obtain ⟨X1, e1⟩ := field_int (n := n) (m := 4) (j := 1) Try.underlying3 (fun i hi => hf i hi 1 _ rfl)
  obtain ⟨X2, e2⟩ := field_int (n := n) (m := 4) (j := 2) Try.underlying3 (fun i hi => hf i hi 2 _ rfl)
  obtain ⟨X, hX⟩ := choose_fn (n := n) (q := fun i (x : Kl) => V (i * 4 + 3) = .slice x.a x.m x.c ∧ x.m ≤ x.c ∧ x.c ≤ maxLen ∧ RwM w x.a x.m x.V x.F) (⟨0, 0, 0, 0, none, 0, fun _ => undef, fun _ => ⟨0, [], none, 0⟩⟩ : Kl) (fun i hi => by
    obtain ⟨f, y, hy⟩ := hf i hi 3 _ rfl
    obtain ⟨a, n, c, V, F, h1, h2, h3, h4⟩ := open_rowsF hy
    exact ⟨⟨0, 0, 0, n, a, c, V, F⟩, h1, h2, h3, h4⟩)
  exact ⟨a, n, c, V, fun i => ⟨X0 i, X1 i, X2 i, (X i).m, (X i).a, (X i).c, (X i).V, (X i).F⟩, rfl, hn, hm, hV, fun i hi => ⟨(e0 i hi).1, (e1 i hi).1, (e2 i hi).1, (hX i hi).1⟩, fun i hi => (hX i hi).2⟩
end
set_option maxHeartbeats 2000000 in
theorem few23_any (a : Option Addr) (n c : Nat) (V : Nat → Value) (Q : Nat → Kl) (w : World) (hn : n ≤ c) (hc : c ≤ maxLen) (hQ : Kls w a n V Q) :
    Calls Try.prog 7 #[.slice a n c] w fun r w' => ∃ q : Bool, r = .returned (.bool q) ∧ (q = true → n ≤ 80) ∧ Below w.heap.size w w' := by
  unfold maxLen at hc
  have hcap : (n : Int) ≤ 9223372036854775807 := by omega
  have b0 := Below.refl w.heap.size w
  have HQ := Lib.hid hQ
  clear hQ
  go_enter Try.func7, Try.ntmps7
  go_wp2_with fail
  go_loopw [10, 3] (fun i s wr => ∃ (k : Nat) (z : Int), i = .int .i64 k ∧ s = .int .i64 z ∧ k ≤ n ∧ k ≤ 80 ∧ Below w.heap.size w wr) (fun i _ _ => n - (intOf i).toNat)
  case atStart => exact ⟨0, 0, rfl, rfl, by omega, by omega, b0⟩
  case round =>
    clear b0
    obtain ⟨k, z, rfl, rfl, hk, hk1, b1⟩ := hrel
    by_cases hlt : k < n
    · obtain ⟨bo, off, rfl, hbo, hcs⟩ := HQ.out.row.at_struct b1 hlt (by decide)
      obtain ⟨e0, e1, e2, e3⟩ := HQ.out.at_ k hlt
      obtain ⟨hm1, hm2, hm3⟩ := HQ.out.ok k hlt
      have d0 := (hcs 0 (by decide)).trans (congrArg some e0)
      have d1 := (hcs 1 (by decide)).trans (congrArg some e1)
      have d2 := (hcs 2 (by decide)).trans (congrArg some e2)
      have d3 := (hcs 3 (by decide)).trans (congrArg some e3)
      rw [Nat.add_zero] at d0
      obtain ⟨⟨qd, qn, qv, qm, qa, qc, qV, qF⟩, hq⟩ : ∃ q, Q k = q := ⟨_, rfl⟩
      rw [hq] at d0 d1 d2 d3 hm1 hm2 hm3
      dsimp only at *
      unfold maxLen at hm2
      have hm63 : (qm : Int) ≤ 9223372036854775807 := by omega
      clear hcs e0 e1 e2 e3 hq
      have ba := b1.alloc b1.size (.cells #[.int .i64 qd, .int .i64 qn, .int .i64 qv, .slice qa qm qc] 31)
      have ox := Own.new wr 31 #[.int .i64 qd, .int .i64 qn, .int .i64 qv, .slice qa qm qc]
      have c4 : (wr.alloc (.cells #[.int .i64 qd, .int .i64 qn, .int .i64 qv, .slice qa qm qc] 31)).cell? ⟨wr.heap.size, 3, none⟩ = some (.slice qa qm qc) := ox.cell 3
      go_upto_region 5 with (fail)
      generalize wr.alloc (.cells #[.int .i64 qd, .int .i64 qn, .int .i64 qv, .slice qa qm qc] 31) = wx at *
      clear d0 d1 d2 d3 b1 ox
      have HR := Lib.hid hm3
      clear hm3
      go_wp2_with fail
      clear c4
      go_loopw [18, 3] (fun i s wz => ∃ (j : Nat) (z : Int), i = .int .i64 j ∧ s = .int .i64 z ∧ j ≤ qm ∧ Below w.heap.size w wz) (fun i _ _ => qm - (intOf i).toNat)
      case atStart => exact ⟨0, z, rfl, rfl, by omega, ba⟩
      case round =>
        clear ba
        obtain ⟨j, z2, rfl, rfl, hj, b2⟩ := hrel
        by_cases hjq : j < qm
        · obtain ⟨bo2, off2, rfl, hbo2, hcs⟩ := HR.out.row.at_struct b2 hjq (by decide)
          obtain ⟨e0, e1⟩ := HR.out.at_ j hjq
          obtain ⟨hl1, hl2, _⟩ := HR.out.ok j hjq
          have d0 := (hcs 0 (by decide)).trans (congrArg some e0)
          have d1 := (hcs 1 (by decide)).trans (congrArg some e1)
          rw [Nat.add_zero] at d0
          obtain ⟨⟨rn, rl, ra, rc⟩, hr⟩ : ∃ q, qF j = q := ⟨_, rfl⟩
          rw [hr] at d0 d1 hl1 hl2
          dsimp only at *
          unfold maxLen at hl2
          obtain ⟨rm, hrm⟩ : ∃ q, rl.length = q := ⟨_, rfl⟩
          rw [hrm] at d1 hl1
          clear hcs e0 e1 hr hrm
          have b3 := b2.alloc b2.size (.cells #[.int .i64 rn, .slice ra rm rc] 67)
          have oy := Own.new wr 67 #[.int .i64 rn, .slice ra rm rc]
          have c5 : (wr.alloc (.cells #[.int .i64 rn, .slice ra rm rc] 67)).cell? ⟨wr.heap.size, 1, none⟩ = some (.slice ra rm rc) := oy.cell 1
          go_upto_region 8 with (fail)
          generalize wr.alloc (.cells #[.int .i64 rn, .slice ra rm rc] 67) = wy at *
          clear d0 d1 b2 oy
          go_wp2_with fail
          exact ⟨⟨j + 1, _, by simp, rfl, by omega, b3⟩, by simp [intOf]; omega⟩
        · have hjn : j = qm := by omega
          have g4 : decide ((j : Int) < (qm : Int)) = false := by simp; omega
          clear hjq
          by_cases hg : 80 ≤ k
          · have g1 : decide ((80 : Int) ≤ (k : Int)) = true := by simp; omega
            have g2 : decide (80 ≤ k) = true := by simp; omega
            go_wp2_with fail
            go_ret
            exact ⟨false, rfl, (fun h => by cases h), b2⟩
          · have g1 : decide ((80 : Int) ≤ (k : Int)) = false := by simp; omega
            have g2 : decide (80 ≤ k) = false := by simp; omega
            by_cases hg3 : 600 < z2
            · have g3 : decide ((600 : Int) < z2) = true := by simpa using hg3
              go_wp2_with fail
              go_ret
              exact ⟨false, rfl, (fun h => by cases h), b2⟩
            · have g3 : decide ((600 : Int) < z2) = false := by simpa using hg3
              go_wp2_with fail
              exact ⟨⟨k + 1, z2, by simp, rfl, by omega, by omega, b2⟩, by simp [intOf]; omega⟩
    · have hkn : k = n := by omega
      subst hkn
      have g4 : decide ((k : Int) < (k : Int)) = false := by simp
      go_wp2_with fail
      go_ret
      exact ⟨true, rfl, fun _ => hk1, b1⟩
end Go.Proofs.Ytdpkiolngglpaaa.Al
