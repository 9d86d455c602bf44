/-
  Package bits (chapter 3): a reader's Text at whole bytes: a row of its own.
-/
import Derived.Test.YtcpmnfoenpdaeaaBfRdJ
import Derived.Test.YtcpmnfoenpdaeaaSlK
import Derived.Test.YtcpmnfoenpdaeaaBlk
import Derived.Test.YtcpmnfoenpdaeaaMid
import Derived.Laws.MakeOwn
import Derived.Deep.RegionLaw
import Derived.Deep.Cut
import Derived.Deep.CutRange
set_option maxRecDepth 100000
namespace Go.Proofs.Ytcpmnfoenpdaeaa.Bf
set_option linter.unusedVariables false
open Go.RowKit Lb Go.Shelf

theorem Rd.alloc {w : World} {base b at_ n : Nat} {Z : Nat → Nat} {err : Int} {v : Value} (h : Rd w base b at_ n Z err v) (o : Obj) : Rd (w.alloc o) base b at_ n Z err v := ⟨h.own.alloc o, h.row.alloc o, h.lt, h.low⟩
/-- What else turns but the reader's block and its row leaves it. -/
theorem Rd.just {w w' : World} {base b g at_ n : Nat} {Z : Nat → Nat} {err : Int} {v : Value} (h : Rd w base b at_ n Z err v) (j : Just g w w') (h1 : g ≠ b) (h2 : v.ownBlock ≠ some g) : Rd w' base b at_ n Z err v :=
  ⟨j.own h.own h1.symm, h.row.kept (fun q _ => by
    by_cases e : q = g
    · exact .inr (by rw [e]; exact h2)
    · by_cases hl : q < w.heap.size
      · exact .inl (j.block q hl e)
      · exact .inr (fun e2 => hl (h.row.lt q e2).2)), h.lt, h.low⟩
theorem rd_form {w : World} {base b at_ n g c : Nat} {Z : Nat → Nat} {err : Int} (h : Rd w base b at_ n Z err (.slice (some ⟨g, 0, none⟩) n c)) : w.cell? ⟨b, 0, none⟩ = some (.slice (some ⟨g, 0, none⟩) n c) ∧ w.cell? ⟨b, 1, none⟩ = some (.int .i64 (at_ : Int)) ∧ w.frozen? ⟨b, 1, none⟩ = false ∧ g ≠ b ∧ n ≤ c ∧ c ≤ maxLen := by
  obtain ⟨a, c', e, h1, h2, _⟩ := h.row.row
  injection e with e1 e2 e3
  subst e3
  refine ⟨h.own.cell 0, h.own.cell 1, h.own.free 1, fun e => ?_, h1, h2⟩
  subst e
  exact absurd (own_type h.own (mine_at h.row).2.choose_spec) (by decide)
theorem Rd.to {w : World} {base b at_ n : Nat} {Z : Nat → Nat} {err : Int} {v : Value} (h : Rd w base b at_ n Z err v) (hv : v.ownBlock ≠ some b) (k : Nat) (u : Value) (hu : u = .int .i64 (k : Int)) : Rd (w.setCell ⟨b, 1, none⟩ u) base b k n Z err v := by
  subst hu
  exact ⟨h.own.put 1 _, h.row.other (p := ⟨b, 1, none⟩) hv _, h.lt, h.low⟩
theorem putL_all (V U : Nat → Value) (x : Nat) : ∀ i, i < x → putL V 0 ((List.range x).map U) i = U i := fun i hi => by
  rw [putL_at]
  simp [hi]
set_option maxHeartbeats 1000000 in
theorem textJ (base b j n x : Nat) (Z : Nat → Nat) (err : Int) (v : Value) (w : World) (h : Rd w base b (8 * j) n Z err v) (hx : 0 < x) (hl : j + x ≤ n) (hn : n ≤ 100000) :
    Calls Try.prog 47 #[.pointer (some ⟨b, 0, none⟩), .int .i64 (x : Nat)] w fun r w' => r = .returned (.slice (some ⟨w.heap.size, 0, none⟩) x x) ∧ Blk w' w.heap.size 5 x (fun i => .int .u8 (Z (j + i) : Nat)) ∧ Rd w' base b (8 * j + 8 * x) n Z err v ∧ Just b w w' := by
  obtain ⟨A, hA⟩ : ∃ A, 8 * j = A := ⟨_, rfl⟩
  rw [hA] at h ⊢
  have g1 : decide ((x : Int) ≤ 0) = false := by simp; omega
  have g1b : decide (x ≤ 0) = false := by simp; omega
  have g1c : decide (x = 0) = false := by simp; omega
  obtain ⟨D, hD⟩ : ∃ D, n - j = D := ⟨_, rfl⟩
  have hxD : x ≤ D := by omega
  have hLL : 8 * n - A = 8 * D := by omega
  have hLL2 : ((8 * D : Nat) : Int) = 8 * (D : Int) := by simp
  have e1 : (8 * (D : Int)) / 8 = (D : Int) := by omega
  have hDn : D ≤ 100000 := by omega
  have e2 : wrap64 (D : Int) = (D : Int) := IntWalk.wrap64_in _ ⟨by omega, by omega⟩
  have e3 : decide ((D : Int) < (x : Int)) = false := decide_eq_false (by omega)
  have e3b : decide (D < x) = false := decide_eq_false (by omega)
  have ea : (A : Int) % 8 = 0 := by omega
  have eb : (A : Int) / 8 = (j : Int) := by omega
  have e4b : A % 8 = 0 := by omega
  have ec : A ≤ 8 * n := by omega
  have ed : n ≤ 1000000 := by omega
  have hj5 : j < n := by omega
  have hn0 : 0 < n := by omega
  have hcast : ((A + 8 * x : Nat) : Int) = (A : Int) + (x : Int) * 8 := by omega
  have ex1 : -9223372036854775808 ≤ (x : Int) * 8 ∧ (x : Int) * 8 ≤ 9223372036854775807 := by omega
  have ex2 : -9223372036854775808 ≤ (A : Int) + (x : Int) * 8 ∧ (A : Int) + (x : Int) * 8 ≤ 9223372036854775807 := by omega
  have ex3 : -9223372036854775808 ≤ (j : Int) ∧ (j : Int) ≤ 9223372036854775807 := by omega
  have hmin : Nat.min D x = x := by show min D x = x; omega
  have hx0 : 0 + x ≤ x := by omega
  obtain ⟨i0, hi0, hz0, hz1, hz2⟩ := info_parts infoB
  have hmk : ∀ w : World, (Instr.makeSlice 23 (.int .i64 (x : Int)) (.int .i64 (x : Int))).run Try.prog w = .ok (.slice (some ⟨w.heap.size, 0, none⟩) x x) (w.alloc (.cells (madeCells #[.int .u8 0] x) 5)) := by
    intro w
    have := run_make w 23 5 i0 (.int .u8 0) Try.underlying23 hi0 hz0 .i64 .i64 (x : Int) (x : Int) (by omega) (by omega) (by rw [hz2]; omega) (by omega)
    rw [this, hz1]
    simp [Value.cells]
  have HCS : Hid (madeCells #[Value.int .u8 0] x = (List.replicate x (Value.int .u8 0)).toArray) := Lib.hid (by
    apply Array.toList_inj.1
    simpa using toList_madeCells_one (Value.int .u8 0) x)
  go_enter Try.func47, Try.ntmps47
  go_wp2_with fail
  refine (left_any base b A n Z err v _ h ec ed).mono ?_
  rintro r w1 ⟨rfl, m1, hw1⟩
  have h1 : Rd w1 base b A n Z err v := by rw [← hw1]; exact h.drewN m1
  have b1 : Just b w w1 := by rw [← hw1]; exact (Just.refl b w).drewN m1
  have hsz : w1.heap.size = w.heap.size := by rw [← hw1]; rfl
  clear hw1 h
  rw [hLL, hLL2]
  have k1 : w1.cell? ⟨b, 1, none⟩ = some (.int .i64 (A : Int)) := h1.own.cell 1
  have hbl := h1.own.lt
  have kk1 : (w1.alloc (.cells (madeCells #[.int .u8 0] x) 5)).cell? ⟨b, 1, none⟩ = some (.int .i64 (A : Int)) := (h1.alloc _).own.cell 1
  go_upto_region 8 with (fail)
  have o2 : Blk (w1.alloc (.cells (madeCells #[.int .u8 0] x) 5)) w1.heap.size 5 x (fun _ => .int .u8 0) := Blk.same (Own.new _ _ _) HCS.out
  have h2 := h1.alloc (.cells (madeCells #[.int .u8 0] x) 5)
  have J2 := b1.alloc (.cells (madeCells #[.int .u8 0] x) 5)
  obtain ⟨g0, c0, rfl⟩ := mine_form h1.row hn0
  have hg0 := (h1.row.lt g0 rfl).2
  clear h1 k1 kk1 hmk HCS b1
  rw [hsz] at o2 hbl hg0
  generalize hW2 : w1.alloc (.cells (madeCells #[.int .u8 0] x) 5) = w2 at *
  clear hW2 hsz
  obtain ⟨g, hg⟩ : ∃ g, w.heap.size = g := ⟨_, rfl⟩
  rw [hg] at o2 hbl hg0 ⊢
  have HG := Lib.hid hg
  clear hg
  have hgb : g ≠ b := fun e => by rw [e] at hbl; exact Nat.lt_irrefl _ hbl
  have hgg : g ≠ g0 := fun e => by rw [e] at hg0; exact Nat.lt_irrefl _ hg0
  obtain ⟨_, _, _, _, hn1, hc1⟩ := rd_form h2
  obtain ⟨cs, hcs⟩ : ∃ cs, (List.range x).map (fun i => Value.int .u8 (Z (j + i) : Nat)) = cs := ⟨_, rfl⟩
  have hcl : cs.length = x := by rw [← hcs]; simp
  have hsrc : ∀ q u, cs[q]? = some u → w2.drew.cell? ((⟨g0, j, none⟩ : Addr).add q) = some u := fun q u hu => by
    have hq : q < x := by
      have := (List.getElem?_eq_some_iff.1 hu).1
      rwa [hcl] at this
    rw [← hcs, List.getElem?_map, List.getElem?_range hq] at hu
    have h4 := (h2.row.at_ (Nat.lt_of_lt_of_le (Nat.add_lt_add_left hq j) hl)).2.2.1
    have hu2 : u = .int .u8 (Z (j + q) : Nat) := by injection hu with hu; exact hu.symm
    rw [hu2]
    by_cases h0 : q = 0
    · rw [h0] at h4 ⊢
      exact h4
    · show w2.cell? _ = _
      simpa [Addr.add, h0] using h4
  have hrun : ∀ ty, (Builtin.copy_ #[23, 23] ty #[.slice (some ⟨g, 0, none⟩) x x, .slice (some ⟨g0, j, none⟩) D (c0 - j)]).run Try.prog w2.drew = .ok (goInt x) (w2.drew.setCells g 0 cs) := fun ty =>
    run_copyK w2.drew 23 23 ty 5 1 g 0 x x ⟨g0, j, none⟩ D (c0 - j) x cs Try.underlying23 (by rw [hi0]; show some i0.size = some 1; rw [hz1]) hmin (by rw [hcl, Nat.mul_one]) hsrc (by rw [hcl]; exact Blk.there (o2.drewN 1) hx0) (fun u hu => by rw [← hcs] at hu; obtain ⟨q, _, rfl⟩ := List.mem_map.1 hu; rfl)
  have o3 : Blk (w2.drew.setCells g 0 cs) g 5 x (fun i => .int .u8 (Z (j + i) : Nat)) := (Blk.puts cs 0 (o2.drewN 1)).ext (fun i hi => by rw [← hcs]; exact putL_all _ (fun i => Value.int .u8 (Z (j + i) : Nat)) x i hi)
  have h3 : Rd (w2.drew.setCells g 0 cs) base b A n Z err (.slice (some ⟨g0, 0, none⟩) n c0) := (h2.drewN 1).just (Just.puts g cs w2.drew 0) hgb (fun e => by injection e with e; exact hgg e.symm)
  have JP := Just.puts g cs w2.drew 0
  have J3 : Just b w (w2.drew.setCells g 0 cs) := ⟨JP.os.trans J2.os, JP.tape.trans J2.tape, JP.output.trans J2.output, Nat.le_trans J2.size JP.size, fun k hk hb =>
    (JP.block k (Nat.lt_of_lt_of_le hk J2.size) (fun e => by rw [e, HG.out] at hk; exact Nat.lt_irrefl _ hk)).trans (J2.block k hk hb)⟩
  clear JP
  obtain ⟨k0, k1, f1, _, _, _⟩ := rd_form h2
  generalize hw3 : w2.drew.setCells g 0 cs = w3 at *
  obtain ⟨y0, y1, q1, hgb2, _, _⟩ := rd_form h3
  have e6 : IntKind.i64.wrap ((x : Int) * 8) = (x : Int) * 8 := IntWalk.i64_in _ ex1
  have e7 : IntKind.i64.wrap ((A : Int) + (x : Int) * 8) = (A : Int) + (x : Int) * 8 := IntWalk.i64_in _ ex2
  have e8 : wrap64 (j : Int) = (j : Int) := IntWalk.wrap64_in _ ex3
  have e8b : IntKind.i64.wrap (j : Int) = (j : Int) := IntWalk.i64_in _ ex3
  have e12 : (0 : Int) ≤ (j : Int) := Int.natCast_nonneg j
  have e9 : ¬ c0 = j := fun e => by rw [e] at hn1; exact Nat.not_lt.2 hn1 hj5
  have e10 : (j : Int) ≤ (n : Int) := Int.ofNat_le.2 (Nat.le_of_lt hj5)
  have e11 : j ≤ n := Nat.le_of_lt hj5
  have H3 := Lib.hid h3
  have O3 := Lib.hid o3
  have J3h := Lib.hid J3
  clear h2 h3 o2 o3 J2 J3 hw3 hsrc hcs hcl
  go_region_law (refine step_copy_is rfl (.tmp 32) (.tmp 42) 23 23 rfl (.slice (some ⟨g, 0, none⟩) x x) (.slice (some ⟨g0, j, none⟩) D (c0 - j)) (by simp [Act.eval, Act.put]) (by simp [Act.eval, Act.put]) _ _ (hrun _) ?_)
  all_goals
    go_wp2_with fail
    go_ret
    rw [HG.out]
    exact ⟨rfl, O3.out.apart (p := ⟨b, 1, none⟩) hgb _, H3.out.to (fun e => by injection e with e; exact hgb2 e) (A + 8 * x) _ (by rw [hcast]), J3h.out.put 1 _⟩
end Go.Proofs.Ytcpmnfoenpdaeaa.Bf
