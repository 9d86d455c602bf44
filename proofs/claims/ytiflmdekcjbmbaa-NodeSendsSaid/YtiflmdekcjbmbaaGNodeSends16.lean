/-
  A node (chapter 24): the meshes of the laws. A node (chapter 24): a node that there isn't; the element that each frame has. A node (chapter 24): the frame that node 0 sends when nothing waits. A node (chapter 24): Plan of node 0 when nothing waits.
-/
import Derived.Test.YtiflmdekcjbmbaaGNodeSends09
import Derived.Test.YtiflmdekcjbmbaaGNodeSends15
import Derived.Test.YtiflmdekcjbmbaaGNodeSends04
import Derived.Laws.Append
set_option maxRecDepth 100000
namespace Go.Proofs.Ytiflmdekcjbmbaa.Nd
set_option linter.unusedVariables false
set_option linter.unusedSimpArgs false
open Go.RowKit Lb

/-- A number, folded. -/
theorem um_ex (x m : Int) (h : 0 < m) (h2 : m < 1000) : ∃ k : Nat, wrap64 ((IntKind.u64.wrap x).tmod m) = (k : Int) ∧ (k : Int) < m := by
  rw [IntKind.wrap_u64, Int.tmod_eq_emod_of_nonneg (Int.emod_nonneg _ (by decide))]
  have h0 : 0 ≤ (x % 18446744073709551616) % m := Int.emod_nonneg _ (by omega)
  have h1 : (x % 18446744073709551616) % m < m := Int.emod_lt_of_pos _ (by omega)
  refine ⟨((x % 18446744073709551616) % m).toNat, ?_, by omega⟩
  rw [IntWalk.wrap64_in _ ⟨by omega, by omega⟩]
  omega
theorem infoU : (Try.prog.info? 51).map (fun i => (i.zero, i.size, i.bytes)) = some (some (.int .u64 0), 1, 8) := by kernel_rfl
/-- Nobody hears itself, nor who is none. -/
def Nok (n : Nat) (Z : Nat → Nat) : Prop := ∀ i, i < n → Z i < 2 ^ n ∧ (Z i).testBit i = false
def nrv (Z : Nat → Nat) (i : Nat) : Value := .int .u64 (Z i : Int)
theorem nok_put {n k j : Nat} {Z : Nat → Nat} (h : Nok n Z) (hk : k < n) (hj : j < n) (hkj : k ≠ j) : Nok n (fun i => if i = k then Z k ||| 1 <<< j else Z i) := by
  intro i hi
  by_cases e : i = k
  · subst e
    obtain ⟨h1, h2⟩ := h i hi
    have h3 : 1 <<< j < 2 ^ n := by
      rw [Nat.one_shiftLeft]
      exact Nat.pow_lt_pow_right (by decide) hj
    simp only [if_pos]
    refine ⟨Nat.or_lt_two_pow h1 h3, ?_⟩
    rw [Nat.testBit_or, h2, Nat.one_shiftLeft, Nat.testBit_two_pow]
    simp
    omega
  · simp only [if_neg e]
    exact h i hi
theorem nrB_yes {N : Nat} {Z : Nat → Nat} {n : Nat} (h : ∀ i, i < n → Z i < 2 ^ N ∧ (Z i).testBit i = false) : nrB N Z n = true := by
  induction n with
  | zero => rfl
  | succ n ih =>
    rw [nrB, ih (fun i hi => h i (by omega)), (h n (by omega)).2, decide_eq_true (h n (by omega)).1]
    rfl
theorem shl64 {s : Nat} (hs : s < 18446744073709551616) {j : Nat} (h1 : j < 64) : bits .or .u64 (s : Int) (IntKind.u64.wrap (2 ^ j)) = ((s ||| 1 <<< j : Nat) : Int) := by
  have q3 : (1 : Nat) <<< j < 18446744073709551616 := by
    rw [Nat.one_shiftLeft]
    exact Nat.lt_of_lt_of_le (Nat.pow_lt_pow_right (by decide) h1) (by decide)
  rw [← u64_or_nat _ _ hs q3]
  congr 1
  rw [Nat.one_shiftLeft] at q3 ⊢
  have e : ((2 ^ j : Nat) : Int) = 2 ^ j := Int.natCast_pow 2 j
  rw [← e, IntKind.wrap_u64]
  exact Int.emod_eq_of_lt (Int.natCast_nonneg _) (Int.ofNat_lt.2 q3)
def CfgPost (w : World) (r : Ending) (w' : World) : Prop := ∃ x : Cx, r = .returned (.agg #[.int .i64 x.nodes, .slice x.na x.nn x.nc, .slice x.ha x.hops.length x.hc, .int .i64 x.guard, .int .i64 x.err, .int .i64 x.keep, .int .i64 x.loss, .int .i64 x.queue, .int .i64 x.life]) ∧ x.At w' ∧ mayQ x = true ∧ x.hops = [11, 15, 20] ∧ Below w.heap.size w w'
/-- A number, folded. -/
def umN (x m : Int) : Int := wrap64 ((IntKind.u64.wrap x).tmod m)
/-- What the numbers make of it. -/
structure CfgIs (x : Cx) (x0 x2 x3 x4 x5 x6 : Int) : Prop where
  nodes : x.nodes = 2 + umN x0 7
  guard : x.guard = 300
  err : x.err = umN x6 6
  keep : x.keep = 1 + umN x2 30
  loss : x.loss = 2 * x.nodes + umN x3 60
  queue : x.queue = 1 + umN x4 8
  life : x.life = 1 + umN x5 15
def CfgMore (x0 x2 x3 x4 x5 x6 : Int) (w : World) (r : Ending) (w' : World) : Prop := ∃ x : Cx, r = .returned (.agg #[.int .i64 x.nodes, .slice x.na x.nn x.nc, .slice x.ha x.hops.length x.hc, .int .i64 x.guard, .int .i64 x.err, .int .i64 x.keep, .int .i64 x.loss, .int .i64 x.queue, .int .i64 x.life]) ∧ x.At w' ∧ mayQ x = true ∧ x.hops = [11, 15, 20] ∧ Below w.heap.size w w' ∧ CfgIs x x0 x2 x3 x4 x5 x6
structure Mc (W w : World) (rb nb hb xb n : Nat) (C : Array Value) (Z : Nat → Nat) : Prop where
  or : Own w rb 28 #[.int .i64 0, .slice none 0 0, .slice none 0 0, .int .i64 0, .int .i64 0, .int .i64 0, .int .i64 0, .int .i64 0, .int .i64 0]
  on : Blk w nb 51 n (nrv Z)
  oh : Own w hb 3 #[.int .i64 11, .int .i64 15, .int .i64 20]
  ox : Own w xb 28 C
  lo : W.heap.size ≤ rb ∧ rb < nb ∧ nb < hb ∧ hb < xb
  bel : Below W.heap.size W w
  ok : Nok n Z
theorem Mc.set {W w : World} {rb nb hb xb n k j : Nat} {C : Array Value} {Z : Nat → Nat} (h : Mc W w rb nb hb xb n C Z) (hk : k < n) (hj : j < n) (hkj : k ≠ j) :
    Mc W (w.setCell ⟨nb, k, none⟩ (.int .u64 ((Z k ||| 1 <<< j : Nat) : Int))) rb nb hb xb n C (fun i => if i = k then Z k ||| 1 <<< j else Z i) := by
  have jj := Just.set nb w k (.int .u64 ((Z k ||| 1 <<< j : Nat) : Int))
  have hl := h.lo
  refine ⟨jj.own h.or (by omega), (h.on.put k _).ext (fun i hi => ?_), jj.own h.oh (by omega), jj.own h.ox (by omega), h.lo, jj.below h.bel (by omega) h.bel.size, nok_put h.ok hk hj hkj⟩
  unfold nrv
  by_cases e : i = k
  · simp only [if_pos e]
  · simp only [if_neg e]
set_option maxHeartbeats 4000000 in
theorem config_more (x0 x1 x2 x3 x4 x5 x6 : Int) (w : World) : Calls Try.prog 6 #[.int .i64 x0, .int .i64 x1, .int .i64 x2, .int .i64 x3, .int .i64 x4, .int .i64 x5, .int .i64 x6] w (CfgMore x0 x2 x3 x4 x5 x6 w) := by
  obtain ⟨i0, hi0, hz0, hz1, hz2⟩ := info_parts infoU
  obtain ⟨k0, a0, l0⟩ := um_ex x0 7 (by decide) (by decide)
  obtain ⟨k1, a1, l1⟩ := um_ex x1 3 (by decide) (by decide)
  obtain ⟨k6, a6, l6⟩ := um_ex x6 6 (by decide) (by decide)
  obtain ⟨k2, a2, l2⟩ := um_ex x2 30 (by decide) (by decide)
  obtain ⟨k3, a3, l3⟩ := um_ex x3 60 (by decide) (by decide)
  obtain ⟨k4, a4, l4⟩ := um_ex x4 8 (by decide) (by decide)
  obtain ⟨k5, a5, l5⟩ := um_ex x5 15 (by decide) (by decide)
  obtain ⟨n, hn⟩ : ∃ n, 2 + k0 = n := ⟨_, rfl⟩
  have hnb : 2 ≤ n ∧ n ≤ 8 := by omega
  have e0 : IntKind.i64.wrap (2 + (k0 : Int)) = (n : Int) := by rw [IntWalk.i64_in _ (by omega)]; omega
  have e1 : IntKind.i64.wrap (1 + (k1 : Int)) = 1 + (k1 : Int) := IntWalk.i64_in _ (by omega)
  have e2 : IntKind.i64.wrap (1 + (k2 : Int)) = 1 + (k2 : Int) := IntWalk.i64_in _ (by omega)
  have e3 : IntKind.i64.wrap (2 * (n : Int)) = 2 * (n : Int) := IntWalk.i64_in _ (by omega)
  have e4 : IntKind.i64.wrap (1 + (k4 : Int)) = 1 + (k4 : Int) := IntWalk.i64_in _ (by omega)
  have e5 : IntKind.i64.wrap (1 + (k5 : Int)) = 1 + (k5 : Int) := IntWalk.i64_in _ (by omega)
  have e6 : IntKind.i64.wrap (2 * (n : Int) + (k3 : Int)) = 2 * (n : Int) + (k3 : Int) := IntWalk.i64_in _ (by omega)
  have hmk : ∀ w : World, (Instr.makeSlice 25 (.int .i64 (n : Int)) (.int .i64 (n : Int))).run Try.prog w = .ok (.slice (some ⟨w.heap.size, 0, none⟩) n n) (w.alloc (.cells (madeCells #[.int .u64 0] n) 51)) := by
    intro w
    have := run_make w 25 51 i0 (.int .u64 0) Try.underlying25 hi0 hz0 .i64 .i64 (n : Int) (n : Int) (by omega) (by omega) (by rw [hz2]; omega) (by omega)
    rw [this, hz1]
    simp [Value.cells]
  have HCS : Hid (madeCells #[Value.int .u64 0] n = (List.replicate n (Value.int .u64 0)).toArray) := Lib.hid (by
    apply Array.toList_inj.1
    simpa using toList_madeCells_one (Value.int .u64 0) n)
  have HA := Lib.hid (And.intro hn (And.intro a0 (And.intro a2 (And.intro a3 (And.intro a4 (And.intro a5 a6))))))
  clear hn
  go_enter Try.func6, Try.ntmps6
  go_upto_region 3 with (fail)
  have HK := Lib.hid (show k0 < 7 ∧ k2 < 30 ∧ k3 < 60 ∧ k4 < 8 ∧ k5 < 15 ∧ k6 < 6 by omega)
  go_wp2_with fail
  obtain ⟨C, hC⟩ : ∃ C : Array Value, #[.int .i64 (n : Int), .slice (some ⟨w.heap.size + 1, 0, none⟩) n n, .slice (some ⟨w.heap.size + 1 + 1, 0, none⟩) 3 3, .int .i64 300, .int .i64 (k6 : Int), .int .i64 (1 + (k2 : Int)), .int .i64 (2 * (n : Int) + (k3 : Int)), .int .i64 (1 + (k4 : Int)), .int .i64 (1 + (k5 : Int))] = C := ⟨_, rfl⟩
  obtain ⟨w9, h9⟩ : ∃ w9, (((w.alloc (.cells #[.int .i64 0, .slice none 0 0, .slice none 0 0, .int .i64 0, .int .i64 0, .int .i64 0, .int .i64 0, .int .i64 0, .int .i64 0] 28)).alloc (.cells (madeCells #[.int .u64 0] n) 51)).alloc (.cells #[.int .i64 11, .int .i64 15, .int .i64 20] 3)).alloc (.cells C 28) = w9 := ⟨_, rfl⟩
  have T0 : Mc w w9 w.heap.size (w.heap.size + 1) (w.heap.size + 1 + 1) (w.heap.size + 1 + 1 + 1) n C (fun _ => 0) := by
    rw [← h9]
    have o0 := Own.new w 28 #[.int .i64 0, .slice none 0 0, .slice none 0 0, .int .i64 0, .int .i64 0, .int .i64 0, .int .i64 0, .int .i64 0, .int .i64 0]
    have b0 := (Below.refl w.heap.size w).alloc (Nat.le_refl _) (.cells #[.int .i64 0, .slice none 0 0, .slice none 0 0, .int .i64 0, .int .i64 0, .int .i64 0, .int .i64 0, .int .i64 0, .int .i64 0] 28)
    have s0 : (w.alloc (.cells #[.int .i64 0, .slice none 0 0, .slice none 0 0, .int .i64 0, .int .i64 0, .int .i64 0, .int .i64 0, .int .i64 0, .int .i64 0] 28)).heap.size = w.heap.size + 1 := by simp
    generalize w.alloc (.cells #[.int .i64 0, .slice none 0 0, .slice none 0 0, .int .i64 0, .int .i64 0, .int .i64 0, .int .i64 0, .int .i64 0, .int .i64 0] 28) = v0 at *
    have o1 := Own.new v0 51 (madeCells #[.int .u64 0] n)
    have b1 := b0.alloc b0.size (.cells (madeCells #[.int .u64 0] n) 51)
    have o0 := o0.alloc (.cells (madeCells #[.int .u64 0] n) 51)
    have s1 : (v0.alloc (.cells (madeCells #[.int .u64 0] n) 51)).heap.size = w.heap.size + 1 + 1 := by simp [s0]
    rw [s0] at o1
    generalize v0.alloc (.cells (madeCells #[.int .u64 0] n) 51) = v1 at *
    have o2 := Own.new v1 3 #[.int .i64 11, .int .i64 15, .int .i64 20]
    have b2 := b1.alloc b1.size (.cells #[.int .i64 11, .int .i64 15, .int .i64 20] 3)
    have o0 := o0.alloc (.cells #[.int .i64 11, .int .i64 15, .int .i64 20] 3)
    have o1 := o1.alloc (.cells #[.int .i64 11, .int .i64 15, .int .i64 20] 3)
    have s2 : (v1.alloc (.cells #[.int .i64 11, .int .i64 15, .int .i64 20] 3)).heap.size = w.heap.size + 1 + 1 + 1 := by simp [s1]
    rw [s1] at o2
    generalize v1.alloc (.cells #[.int .i64 11, .int .i64 15, .int .i64 20] 3) = v2 at *
    have o3 := Own.new v2 28 C
    rw [s2] at o3
    exact ⟨o0.alloc _, (Blk.same (o1.alloc _) HCS.out).ext (fun _ _ => rfl), o2.alloc _, o3, by omega, b2.alloc b2.size _, fun i _ => ⟨Nat.two_pow_pos n, by simp⟩⟩
  have HC := Lib.hid hC
  rw [hC, h9]
  clear hC h9 hmk HCS a0 a1 a2 a3 a4 a5 a6 l0 l2 l3 l4 l5 l6 e0 e1 e2 e3 e4 e5 e6 hi0 hz0 hz1 hz2
  obtain ⟨rb, hrb⟩ : ∃ q, w.heap.size = q := ⟨_, rfl⟩
  have HRB := Lib.hid hrb
  rw [hrb] at T0 ⊢
  obtain ⟨nb, hnb'⟩ : ∃ q, rb + 1 = q := ⟨_, rfl⟩
  rw [hnb'] at T0 ⊢
  obtain ⟨hb, hhb⟩ : ∃ q, nb + 1 = q := ⟨_, rfl⟩
  rw [hhb] at T0 ⊢
  obtain ⟨xb, hxb⟩ : ∃ q, hb + 1 = q := ⟨_, rfl⟩
  rw [hxb] at T0 ⊢
  have HNB := Lib.hid (And.intro hnb' hhb)
  have hC1 : C[1]? = some (.slice (some ⟨nb, 0, none⟩) n n) := by rw [← HC.out, ← HNB.out.1, ← HRB.out]; rfl
  clear hrb hnb' hhb hxb
  go_loopw [62] (fun i wz => ∃ (k : Nat) (Z : Nat → Nat), i = .int .i64 k ∧ k ≤ n ∧ Mc w wz rb nb hb xb n C Z) (fun i _ => n - (intOf i).toNat)
  case atStart => exact ⟨0, _, rfl, Nat.zero_le _, T0⟩
  case round =>
    clear T0
    obtain ⟨k, Z, rfl, hk, T⟩ := hrel
    by_cases hlt : k < n
    · go_wp2_with fail
      go_loopw [66] (fun i wz => ∃ (j : Nat) (Z : Nat → Nat), i = .int .i64 j ∧ j ≤ n ∧ Mc w wz rb nb hb xb n C Z) (fun i _ => n - (intOf i).toNat)
      case atStart => exact ⟨0, _, rfl, Nat.zero_le _, T⟩
      case round =>
        clear T
        obtain ⟨j, Z, rfl, hj, T⟩ := hrel
        by_cases hlj : j < n
        · by_cases ekj : k = j
          · subst ekj
            have g1 : ((k : Int) != (k : Int)) = false := by simp
            have hlt' : (k : Int) < (n : Int) := by omega
            go_wp2_with fail
            exact ⟨⟨k + 1, Z, by simp, by omega, T⟩, by simp [intOf]; omega⟩
          have g1 : ((k : Int) != (j : Int)) = true := by simp; omega
          have hlj' : (j : Int) < (n : Int) := by omega
          have e1 : IntKind.i64.wrap ((k : Int) - (j : Int)) = (k : Int) - (j : Int) := IntWalk.i64_in _ (by omega)
          have e2 : IntKind.i64.wrap ((j : Int) - (k : Int)) = (j : Int) - (k : Int) := IntWalk.i64_in _ (by omega)
          cases g2 : decide ((k : Int) - (j : Int) ≤ 1 + (k1 : Int))
          · go_wp2_with fail
            exact ⟨⟨j + 1, Z, by simp, by omega, T⟩, by simp [intOf]; omega⟩
          cases g3 : decide ((j : Int) - (k : Int) ≤ 1 + (k1 : Int))
          · go_wp2_with fail
            exact ⟨⟨j + 1, Z, by simp, by omega, T⟩, by simp [intOf]; omega⟩
          have c1 : wr.cell? ⟨xb, 1, none⟩ = some (.slice (some ⟨nb, 0, none⟩) n n) := (T.ox.cell 1).trans hC1
          have c2 : wr.cell? ⟨nb, k, none⟩ = some (.int .u64 (Z k : Int)) := T.on.cell hlt
          have f2 : wr.frozen? ⟨nb, k, none⟩ = false := T.on.free k
          have hz : Z k < 18446744073709551616 := Nat.lt_of_lt_of_le (T.ok k hlt).1 (Nat.le_trans (Nat.pow_le_pow_right (by decide) (show n ≤ 64 by omega)) (by decide))
          have e3 := shl64 hz (show j < 64 by omega)
          have e4 : IntKind.u64.wrap (j : Int) = (j : Int) := by rw [IntKind.wrap_u64]; omega
          have T' := T.set hlt hlj ekj
          have hlt' : (k : Int) < (n : Int) := by omega
          clear hz T
          go_wp2_with fail
          exact ⟨⟨j + 1, _, by simp, by omega, T'⟩, by simp [intOf]; omega⟩
        · obtain rfl : n = j := by omega
          go_wp2_with fail
          exact ⟨⟨k + 1, Z, by simp, by omega, T⟩, by simp [intOf]; omega⟩
    · obtain rfl : n = k := by omega
      have hCC : C = #[.int .i64 (n : Int), .slice (some ⟨nb, 0, none⟩) n n, .slice (some ⟨hb, 0, none⟩) 3 3, .int .i64 300, .int .i64 (k6 : Int), .int .i64 (1 + (k2 : Int)), .int .i64 (2 * (n : Int) + (k3 : Int)), .int .i64 (1 + (k4 : Int)), .int .i64 (1 + (k5 : Int))] := by
        rw [← HC.out, ← HNB.out.2, ← HNB.out.1, ← HRB.out]
      have ox := T.ox
      rw [hCC] at ox
      clear hCC
      go_upto_region 14 with (fail)
      refine wp_row_out rfl rfl rfl rfl rfl ox Try.underlying28 rfl (by kernel_rfl) rfl rfl T.or (by kernel_rfl) rfl (by simp [Value.oneCell']) ?_
      have jR := Just.setRow rb wr #[.int .i64 (n : Int), .slice (some ⟨nb, 0, none⟩) n n, .slice (some ⟨hb, 0, none⟩) 3 3, .int .i64 300, .int .i64 (k6 : Int), .int .i64 (1 + (k2 : Int)), .int .i64 (2 * (n : Int) + (k3 : Int)), .int .i64 (1 + (k4 : Int)), .int .i64 (1 + (k5 : Int))]
      go_wp2_with fail
      refine bodyPost_ret (results_cell_row rfl _ _ rb 28 _ (0, 0) _ rfl (T.or.setRow _) Try.underlying28 rfl (by kernel_rfl)) rfl ?_
      have hl := T.lo
      have hk := HK.out
      have hon := jR.own T.on (by omega)
      have hoh := jR.own T.oh (by omega)
      refine ⟨⟨n, some ⟨nb, 0, none⟩, n, n, Z, some ⟨hb, 0, none⟩, [11, 15, 20], 3, 300, k6, 1 + (k2 : Int), 2 * (n : Int) + (k3 : Int), 1 + (k4 : Int), 1 + (k5 : Int)⟩, rfl, ⟨Nat.le_refl _, by unfold maxLen; dsimp only; omega, ?_, ?_, Nat.le_refl 3, by unfold maxLen; dsimp only; omega, ?_, fun e => by cases e⟩, ?_, rfl, ?_, ?_⟩
      · exact Row.own hon (fun i hi => by simp [nrv, hi])
      · exact fun i hi => Nat.lt_of_lt_of_le (T.ok i hi).1 (Nat.le_trans (Nat.pow_le_pow_right (by decide) (show n ≤ 64 by omega)) (by decide))
      · exact Row.own hoh (fun i hi => by rcases (show i = 0 ∨ i = 1 ∨ i = 2 by have : i < 3 := hi; omega) with rfl | rfl | rfl <;> rfl)
      · unfold mayQ nearQ inB
        dsimp only
        rw [Int.toNat_natCast, nrB_yes T.ok]
        have hH : Hp.mayB (fun i => ([11, 15, 20] : List Int).getD i 0) ([11, 15, 20] : List Int).length = true := by decide
        rw [hH]
        simp only [Bool.and_eq_true, decide_eq_true_eq, true_and, and_true]
        omega
      · rw [HRB.out]
        exact jR.below (by rw [← HRB.out]; exact T.bel) (by omega) (by rw [← HRB.out]; exact T.bel.size)
      · obtain ⟨i1, i2, i3, i4, i5, i6, i7⟩ := HA.out
        refine ⟨?_, rfl, i7.symm, ?_, ?_, ?_, ?_⟩
        · show (n : Int) = 2 + umN x0 7
          unfold umN
          rw [i2]
          omega
        · show 1 + (k2 : Int) = 1 + umN x2 30
          unfold umN
          rw [i3]
        · show 2 * (n : Int) + (k3 : Int) = 2 * (n : Int) + umN x3 60
          unfold umN
          rw [i4]
        · show 1 + (k4 : Int) = 1 + umN x4 8
          unfold umN
          rw [i5]
        · show 1 + (k5 : Int) = 1 + umN x5 15
          unfold umN
          rw [i6]
theorem config_any (x0 x1 x2 x3 x4 x5 x6 : Int) (w : World) : Calls Try.prog 6 #[.int .i64 x0, .int .i64 x1, .int .i64 x2, .int .i64 x3, .int .i64 x4, .int .i64 x5, .int .i64 x6] w (CfgPost w) :=
  (config_more x0 x1 x2 x3 x4 x5 x6 w).mono (fun _ _ ⟨x, h1, h2, h3, h4, h5, _⟩ => ⟨x, h1, h2, h3, h4, h5⟩)
end Go.Proofs.Ytiflmdekcjbmbaa.Nd
set_option maxRecDepth 100000
namespace Go.Proofs.Ytiflmdekcjbmbaa.Nd
set_option linter.unusedVariables false
set_option linter.unusedSimpArgs false
open Go.RowKit Lb

theorem plan_nil (asn : Int) (w : World) : Calls Try.prog 9 #[.pointer none, .int .i64 asn] w fun r w' => r = .returned (.tuple #[.int .i64 (-1), .slice none 0 0]) ∧ w = w' := by
  go_enter Try.func9, Try.ntmps9
  go_wp2_with fail
  refine (lives_nil w).mono ?_
  rintro r w' ⟨rfl, rfl⟩
  go_wp2_with fail
  go_ret2
  exact ⟨rfl, rfl⟩
theorem send_nil (asn tt : Int) (a : Option Addr) (n c : Nat) (w : World) : Calls Try.prog 8 #[.pointer none, .int .i64 asn, .int .i64 tt, .slice a n c] w fun r w' => r = .returned (.tuple #[.int .i64 0, .int .i64 1]) ∧ w = w' := by
  go_enter Try.func8, Try.ntmps8
  go_wp2_with fail
  refine (lives_nil w).mono ?_
  rintro r w' ⟨rfl, rfl⟩
  go_wp2_with fail
  go_ret2
  exact ⟨rfl, rfl⟩
theorem beat_any {w : World} {b : Nat} {s : Ns} {h : Hm} (n : Nd w b s h) (asn : Int) : Calls Try.prog 42 #[.pointer (some ⟨b, 0, none⟩), .int .i64 asn] w fun r w' => r = .returned (.agg #[.int .i64 1, .int .i64 asn, .int .i64 (rankN s), .int .i64 0, .slice none 0 0]) ∧ Below w.heap.size w w' := by
  have b0 := (Below.refl w.heap.size w).alloc (Nat.le_refl _) (.cells #[.int .i64 0, .int .i64 0, .int .i64 0, .int .i64 0, .slice none 0 0] 49)
  have o0 := Own.new w 49 #[.int .i64 0, .int .i64 0, .int .i64 0, .int .i64 0, .slice none 0 0]
  have PR := rank_any (n.below b0)
  obtain ⟨rk, hrk⟩ : ∃ q, rankN s = q := ⟨_, rfl⟩
  rw [hrk] at PR ⊢
  clear hrk n
  go_enter Try.func42, Try.ntmps42
  go_upto_region 1 with (fail)
  obtain ⟨xb, hxb⟩ : ∃ q, w.heap.size = q := ⟨_, rfl⟩
  have HB := Lib.hid b0
  have HXB := Lib.hid hxb
  rw [hxb] at o0 ⊢
  clear b0 hxb
  generalize w.alloc (.cells #[.int .i64 0, .int .i64 0, .int .i64 0, .int .i64 0, .slice none 0 0] 49) = wx at *
  go_wp2_with fail
  refine PR.mono ?_
  rintro r w' ⟨rfl, rfl⟩
  clear PR
  go_wp2_with (refine wpList_store_row rfl _ _ _ rfl xb #[.int .i64 1, .int .i64 asn, .int .i64 rk, .int .i64 0, .slice none 0 0] rfl rfl 49 _ o0 (by kernel_rfl) rfl (by simp [Value.oneCell']) ?_)
  have jR := Just.setRow xb wx #[.int .i64 1, .int .i64 asn, .int .i64 rk, .int .i64 0, .slice none 0 0]
  refine bodyPost_ret (results_cell_row rfl _ _ xb 49 _ (0, 0) _ rfl (o0.setRow _) Try.underlying49 rfl (by kernel_rfl)) rfl ?_
  exact ⟨rfl, jR.below HB.out (by rw [HXB.out]; exact Nat.le_refl _) (by have := HB.out.size; omega)⟩
end Go.Proofs.Ytiflmdekcjbmbaa.Nd
set_option maxRecDepth 100000
namespace Go.Proofs.Ytiflmdekcjbmbaa.Nd
set_option linter.unusedVariables false
set_option linter.unusedSimpArgs false
open Go.RowKit Lb Ie Fm

theorem infoIE : (Try.prog.info? 49).map (fun i => (i.zero, i.size, i.bytes)) = some (some (.agg #[.int .i64 0, .int .i64 0, .int .i64 0, .int .i64 0, .slice none 0 0]), 5, 56) := by kernel_rfl
/-- A full row of one element grows: it lies anew. -/
theorem app_full (ty : TypeId) (w : World) (g g2 : Nat) (A B : Array Value) (hA : Own w g 49 A) (hB : Own w g2 49 B) (sA : A.size = 5) (sB : B.size = 5) :
    ∃ c w', (Builtin.append_ #[32, 32] ty #[.slice (some ⟨g, 0, none⟩) 1 1, .slice (some ⟨g2, 0, none⟩) 1 1]).run Try.prog w = .ok (.slice (some ⟨w.heap.size, 0, none⟩) 2 c) w' ∧ 2 ≤ c ∧ c ≤ maxLen ∧ (∀ k, k < 10 → w'.cell? ⟨w.heap.size, k, none⟩ = (A ++ B)[k]?) ∧ w.heap.size < w'.heap.size ∧ Below w.heap.size w w' := by
  obtain ⟨i0, hi0, hz0, hz1, hz2⟩ := info_parts infoIE
  have h1 : ∀ (q : Nat) (X : Array Value), Own w q 49 X → ∀ j v, X.toList[j]? = some v → w.cell? ((⟨q, 0, none⟩ : Addr).add j) = some v := by
    intro q X hX j v e
    rw [show (⟨q, 0, none⟩ : Addr).add j = ⟨q, j, none⟩ by unfold Addr.add; simp; exact fun h => h.symm, hX.cell, ← e]
    simp
  have hr := run_append_grow (P := Try.prog) (w := w) 32 ty 49 i0 _ Try.underlying32 hi0 hz0 ⟨g, 0, none⟩ 1 1 A.toList (by simp [sA, hz1]) (h1 g A hA) ⟨g2, 0, none⟩ 1 1 B.toList (by simp [sB, hz1]) (h1 g2 B hB) (by decide) (by decide) (by rw [hz2]; decide)
  refine ⟨_, _, hr, grownCap_ge _ _ _ _, grownCap_le_maxLen _ _ _ _ (by unfold maxLen; decide), ?_, by simp, ?_⟩
  · intro k hk
    have o := Own.new w.drew 49 (A.toList.toArray ++ B.toList.toArray ++ Builtin.zeroCells (Value.agg #[.int .i64 0, .int .i64 0, .int .i64 0, .int .i64 0, .slice none 0 0]).cells (grownCap w (1 + 1) 1 49 - (1 + 1)))
    have e := o.cell k
    rw [show w.drew.heap.size = w.heap.size from rfl] at e
    rw [e, Array.getElem?_append_left (by simp [sA, sB]; exact hk)]
  · exact (show Below w.heap.size w w.drew from ⟨rfl, rfl, rfl, Nat.le_refl _, fun _ _ => rfl⟩).alloc (Nat.le_refl _) _
theorem op_app {P : Program} {w : World} {o : Oper} {a : Act} {K : Act → World → Prop} {Q : Exit → Act → World → Prop} (s x : Operand) (t : TypeId)
    (ho : o.op = .call { callee := .builtin .append, args := #[s, x], argTypes := #[t, t] }) (v u v' : Value) (w1 : World) (hs : a.eval s = v) (hx : a.eval x = u) (hr : (Builtin.append_ #[t, t] o.type #[v, u]).run P w = .ok v' w1) (h : K (a.put o.dst v') w1) : o.wp P a w K Q := by
  unfold Oper.wp execOp
  simp only [ho, resolve, invoke, builtin, Sem.run_bind, Sem.run_pure, Result.andThen_ok, List.map_toArray, List.map_cons, List.map_nil, hs, hx, hr]
  exact h
section
variable {v : World}
/-- A slice of one element, in a value. -/
def iS (v : World) (B : Array Value) (f : Value → Value) (x : Value) (s : Gw v) : Prop := ∃ g, x = f (.slice (some ⟨g, 0, none⟩) 1 1) ∧ v.heap.size ≤ g ∧ Own s.toW g 49 B
def kS (v : World) (B : Array Value) (f : Value → Value) : Kd v := .grow (iS v B f) (fun _ _ _ h ⟨g, e, h1, h2⟩ => ⟨g, e, h1, below_own h.below h2 h2.lt⟩)
/-- A new cell. -/
def iA (v : World) (t : TypeId) (Z : Array Value) (x : Value) (s : Gw v) : Prop := ∃ g, x = .pointer (some ⟨g, 0, none⟩) ∧ v.heap.size ≤ g ∧ Own s.toW g t Z
def kA (v : World) (t : TypeId) (Z : Array Value) : Kd v := .grow (iA v t Z) (fun _ _ _ h ⟨g, e, h1, h2⟩ => ⟨g, e, h1, below_own h.below h2 h2.lt⟩)
/-- A value that is known. -/
def iC (v : World) (c : Value) (x : Value) (_ : Gw v) : Prop := x = c
def kC (v : World) (c : Value) : Kd v := .grow (iC v c) (fun _ _ _ _ h => h)
/-- Two elements. -/
def iP (v : World) (B : Array Value) (x : Value) (s : Gw v) : Prop := ∃ g c, x = .slice (some ⟨g, 0, none⟩) 2 c ∧ 2 ≤ c ∧ c ≤ maxLen ∧ v.heap.size ≤ g ∧ g < s.toW.heap.size ∧ ∀ k, k < 10 → s.toW.cell? ⟨g, k, none⟩ = B[k]?
def kP (v : World) (B : Array Value) : Kd v := .grow (iP v B) (fun _ _ _ h ⟨g, c, e, h1, h2, h3, h4, h5⟩ => ⟨g, c, e, h1, h2, h3, Nat.lt_of_lt_of_le h4 h.below.size, fun k hk => (h.below.cell (p := ⟨g, k, none⟩) h4).trans (h5 k hk)⟩)
end
theorem mine_at {w : World} {base n c : Nat} {e : TypeId} {a : Option Addr} {V : Nat → Value} (h : Mine w base e (.slice a n c) n V) : n ≤ c ∧ c ≤ maxLen ∧ Row w a n V ∧ (a = none → n = 0) := by
  obtain ⟨a', c', e', h1, h2, h3⟩ := h.row
  injection e' with e1 e2 e3
  subst e1 e3
  refine ⟨h1, h2, h3, fun e => ?_⟩
  rcases Nat.eq_zero_or_pos n with h0 | h0
  · exact h0
  · obtain ⟨b, off, h4, _⟩ := h3 h0
    rw [e] at h4
    cases h4
/-- The frame of node 0, when nothing waits. -/
def nextF0 (s : Ns) (asn : Int) : Fr := ⟨3, 0, 64, s.seq, [⟨1, asn, rankN s, 0, []⟩, ⟨3, 0, 0, 0, s.c.hops⟩], []⟩
set_option maxHeartbeats 4000000 in
theorem next0_any {w : World} {b : Nat} {s : Ns} {h : Hm} (n : Nd w b s h) (f : Fit s) (h0 : s.id = 0) (hq : s.q = []) (asn : Int) :
    Calls Try.prog 25 #[.pointer (some ⟨b, 0, none⟩), .int .i64 asn] w fun r w' => ∃ p : Fp, r = .returned (.agg p.vals) ∧ p.At w' ∧ p.fr = nextF0 s asn ∧ Below w.heap.size w w' := by
  have b0 := (Below.refl w.heap.size w).alloc (Nat.le_refl _) (.cells #[.int .i64 0, .int .i64 0, .int .i64 0, .int .i64 0, .slice none 0 0, .slice none 0 0] 35)
  have o0 := Own.new w 35 #[.int .i64 0, .int .i64 0, .int .i64 0, .int .i64 0, .slice none 0 0, .slice none 0 0]
  have n0 := n.below b0
  have HNW := Lib.hid n
  have HR := Lib.hid (f.root h0)
  have HQ := Lib.hid hq
  have HI := Lib.hid h0
  have HF := Lib.hid f
  go_enter Try.func25, Try.ntmps25
  go_upto_region 1 with (fail)
  have HB := Lib.hid b0
  obtain ⟨xb, hxb⟩ : ∃ q, w.heap.size = q := ⟨_, rfl⟩
  have HXB := Lib.hid hxb
  rw [hxb] at o0 ⊢
  clear b0 hxb n f h0 hq
  generalize w.alloc (.cells #[.int .i64 0, .int .i64 0, .int .i64 0, .int .i64 0, .slice none 0 0, .slice none 0 0] 35) = w0 at *
  have c0 : ∀ z : Gw w0, z.toW.cell? ⟨b, 0, none⟩ = some (.int .i64 0) := fun z => by rw [(n0.below z.ok).c_id, HI.out]
  obtain ⟨sq, hsq⟩ : ∃ q, s.seq = q := ⟨_, rfl⟩
  obtain ⟨rk, hrk⟩ : ∃ q, rankN s = q := ⟨_, rfl⟩
  have HSQ := Lib.hid hsq
  have HRK := Lib.hid hrk
  have c1 : ∀ z : Gw w0, z.toW.cell? ⟨b, 16, none⟩ = some (.int .i64 sq) := fun z => by rw [(n0.below z.ok).c_seq, hsq]
  have PB : Hid (∀ z : Gw w0, Calls Try.prog 42 #[.pointer (some ⟨b, 0, none⟩), .int .i64 asn] z.toW fun r w' => r = .returned (.agg #[.int .i64 1, .int .i64 asn, .int .i64 rk, .int .i64 0, .slice none 0 0]) ∧ Below z.toW.heap.size z.toW w') := Lib.hid (fun z => by
    have := beat_any (n0.below z.ok) asn
    rw [hrk] at this
    exact this)
  clear hsq hrk
  have HN := Lib.hid n0
  clear n0
  apply wp_tail_start
  case hl => repeat (first | exact Snoc.one _ | apply Snoc.cons)
  refine wp_region_tail w0 (Below.refl _ _) [.is (.pointer (some ⟨b, 0, none⟩)), .is (.pointer (some ⟨b, 0, none⟩)), .is (.pointer (some ⟨b, 0, none⟩)), .is (.int .i64 0), .is (.pointer (some ⟨b, 0, none⟩)), .is (.pointer (some ⟨b, 0, none⟩)), .is (.pointer (some ⟨b, 16, none⟩)), .is (.int .i64 sq), .is (.pointer (some ⟨b, 0, none⟩)), .is (.int .i64 asn), kC w0 (.agg #[.int .i64 1, .int .i64 asn, .int .i64 rk, .int .i64 0, .slice none 0 0]), kS w0 #[.int .i64 1, .int .i64 asn, .int .i64 rk, .int .i64 0, .slice none 0 0] id, kS w0 #[.int .i64 1, .int .i64 asn, .int .i64 rk, .int .i64 0, .slice none 0 0] (fun y => .agg #[.int .i64 3, .int .i64 0, .int .i64 64, .int .i64 sq, y, .slice none 0 0]), kA w0 35 #[.int .i64 0, .int .i64 0, .int .i64 0, .int .i64 0, .slice none 0 0, .slice none 0 0]] [] (by kernel_rfl) (by kernel_rfl) (by kernel_rfl) rfl (by kernel_rfl) ?_
  iterate 10
    refine kd_is (by rfl) (fun z hz K Q hK => ?_) ?_
    · go_big_op
      exact hK _ _ rfl rfl
    simp only [Act.put, List.setIfInBounds_toArray, List.set_cons_zero, List.set_cons_succ]
  refine kd_grow (by rfl) (fun z hz K Q hK => ?_) (fun x10 => ?_)
  · go_big_op
    refine (PB.out z).mono ?_
    rintro r w' ⟨rfl, b7⟩
    exact hK _ _ ⟨_, z.to w' b7, rfl, rfl, z.to_still w' b7, rfl⟩
  simp only [Act.put, List.setIfInBounds_toArray, List.set_cons_zero, List.set_cons_succ]
  refine kd_grow (by rfl) (fun z hz K Q hK => ?_) (fun x11 => ?_)
  · obtain rfl : x10 = .agg #[.int .i64 1, .int .i64 asn, .int .i64 rk, .int .i64 0, .slice none 0 0] := fact_at hz 10 (iC w0 (.agg #[.int .i64 1, .int .i64 asn, .int .i64 rk, .int .i64 0, .slice none 0 0])) x10 (by kernel_rfl) (by kernel_rfl) (by kernel_rfl)
    have bz := (Below.refl z.toW.heap.size z.toW).alloc (Nat.le_refl _) (.cells #[.int .i64 1, .int .i64 asn, .int .i64 rk, .int .i64 0, .slice none 0 0] 49)
    have oz := Own.new z.toW 49 #[.int .i64 1, .int .i64 asn, .int .i64 rk, .int .i64 0, .slice none 0 0]
    go_big_op
    exact hK _ _ ⟨_, z.to _ bz, rfl, rfl, z.to_still _ bz, _, rfl, z.ok.size, oz⟩
  simp only [Act.put, List.setIfInBounds_toArray, List.set_cons_zero, List.set_cons_succ]
  refine kd_grow (by rfl) (fun z hz K Q hK => ?_) (fun x12 => ?_)
  · obtain ⟨g, rfl, g1, g2⟩ := fact_at hz 11 (iS w0 #[.int .i64 1, .int .i64 asn, .int .i64 rk, .int .i64 0, .slice none 0 0] id) x11 (by kernel_rfl) (by kernel_rfl) (by kernel_rfl)
    go_big_op
    exact hK _ _ ⟨_, z, rfl, rfl, Gw.still.refl z, _, rfl, g1, g2⟩
  simp only [Act.put, List.setIfInBounds_toArray, List.set_cons_zero, List.set_cons_succ]
  refine kd_grow (by rfl) (fun z hz K Q hK => ?_) (fun x13 => ?_)
  · have bz := (Below.refl z.toW.heap.size z.toW).alloc (Nat.le_refl _) (.cells #[.int .i64 0, .int .i64 0, .int .i64 0, .int .i64 0, .slice none 0 0, .slice none 0 0] 35)
    have oz := Own.new z.toW 35 #[.int .i64 0, .int .i64 0, .int .i64 0, .int .i64 0, .slice none 0 0, .slice none 0 0]
    go_big_op
    exact hK _ _ ⟨_, z.to _ bz, rfl, rfl, z.to_still _ bz, _, rfl, z.ok.size, oz⟩
  simp only [Act.put, List.setIfInBounds_toArray, List.set_cons_zero, List.set_cons_succ]
  refine kd_nil (fun z hz => ?_)
  obtain ⟨g, rfl, g1, g2⟩ : iS w0 #[.int .i64 1, .int .i64 asn, .int .i64 rk, .int .i64 0, .slice none 0 0] (fun y => .agg #[.int .i64 3, .int .i64 0, .int .i64 64, .int .i64 sq, y, .slice none 0 0]) x12 z := hz 12 (.of (iS w0 #[.int .i64 1, .int .i64 asn, .int .i64 rk, .int .i64 0, .slice none 0 0] (fun y => .agg #[.int .i64 3, .int .i64 0, .int .i64 64, .int .i64 sq, y, .slice none 0 0]))) x12 (by kernel_rfl) (fun _ _ => rfl)
  obtain ⟨fb, rfl, k1, k2⟩ : iA w0 35 #[.int .i64 0, .int .i64 0, .int .i64 0, .int .i64 0, .slice none 0 0, .slice none 0 0] x13 z := hz 13 (.of (iA w0 35 #[.int .i64 0, .int .i64 0, .int .i64 0, .int .i64 0, .slice none 0 0, .slice none 0 0])) x13 (by kernel_rfl) (fun _ _ => rfl)
  rw [if_pos (by rfl)]
  have hth : z.toW.there fb 0 6 := fun j hj => ⟨by
    rw [Nat.zero_add, k2.cell, Array.getElem?_eq_getElem (by simpa using hj)]
    rfl, k2.free _⟩
  have jN := just_cells fb [.int .i64 3, .int .i64 0, .int .i64 64, .int .i64 sq, .slice (some ⟨g, 0, none⟩) 1 1, .slice none 0 0] 0 z.toW
  have oC : Own (z.toW.setCells fb 0 [.int .i64 3, .int .i64 0, .int .i64 64, .int .i64 sq, .slice (some ⟨g, 0, none⟩) 1 1, .slice none 0 0]) fb 35 #[.int .i64 3, .int .i64 0, .int .i64 64, .int .i64 sq, .slice (some ⟨g, 0, none⟩) 1 1, .slice none 0 0] := (((((k2.put 0 _).put 1 _).put 2 _).put 3 _).put 4 _).put 5 _
  have hgf : g ≠ fb := fun e => by
    subst e
    have := own_tid g2 k2
    revert this
    decide
  have oG := jN.own g2 hgf
  have bel2 := jN.below z.ok k1 z.ok.size
  have hgl := g1
  have hxl := o0.lt
  have oR := jN.own (below_own z.ok o0 o0.lt) (show xb ≠ fb by omega)
  refine wp_store_mid 35 (.tmp 5) (.tmp 23) rfl fb 0 #[.int .i64 3, .int .i64 0, .int .i64 64, .int .i64 sq, .slice (some ⟨g, 0, none⟩) 1 1, .slice none 0 0] rfl rfl hth (by kernel_rfl) (by simp [Value.oneCell']) ?_
  rw [List.toList_toArray]
  clear hth jN g2 k2 hz PB c0 c1
  generalize z.toW.setCells fb 0 [.int .i64 3, .int .i64 0, .int .i64 64, .int .i64 sq, .slice (some ⟨g, 0, none⟩) 1 1, .slice none 0 0] = w2 at *
  have n2 := HN.out.below bel2
  have c40 : w2.cell? ⟨b, 40, none⟩ = some (.pointer (some ⟨h.sb, 0, none⟩)) := by rw [n2.c_sb, HR.out.1]; rfl
  have c11 := n2.c_qb
  have c0 : w2.cell? ⟨b, 0, none⟩ = some (.int .i64 0) := by rw [n2.c_id, HI.out]
  have PF : Calls Try.prog 20 #[.pointer (some ⟨h.sb, 0, none⟩)] w2 fun r w' => r = .returned (.tuple #[.int .i64 0, .bool false]) ∧ w2 = w' := by
    have := Pa.fst_any 0 h.sb s.id s.rk s.set h.sv w2 (n2.set HR.out.1)
    rw [HR.out.2.1] at this
    exact this
  have PA : Calls Try.prog 43 #[.pointer (some ⟨h.qb, 0, none⟩), .int .i64 0] w2 fun r w' => r = .returned (.tuple #[.slice none 0 0, .bool false]) ∧ w2 = w' := by
    obtain ⟨l, hl, hk⟩ := n2.que
    rw [HQ.out] at hk
    obtain rfl := List.map_eq_nil_iff.1 hk
    exact Qu.at_no 0 h.qb s.c.queue s.lost [] h.qv 0 w2 hl (by simp)
  have HN2 := Lib.hid n2
  clear n2
  go_wp2_with fail
  refine PF.mono ?_
  rintro r w' ⟨rfl, rfl⟩
  go_wp2_with fail
  refine PA.mono ?_
  rintro r w' ⟨rfl, rfl⟩
  clear PF PA c40 c11
  go_upto_region 14 with (fail)
  clear c0
  obtain ⟨ha, hha⟩ : ∃ q, h.ha = q := ⟨_, rfl⟩
  obtain ⟨hc, hhc⟩ : ∃ q, h.hc = q := ⟨_, rfl⟩
  obtain ⟨hl, hhl⟩ : ∃ q, s.c.hops.length = q := ⟨_, rfl⟩
  have d3 : ∀ z : Gw w2, z.toW.cell? ⟨b, 3, none⟩ = some (.slice ha hl hc) := fun z => by rw [(HN2.out.below z.ok).c_hops, hha, hhc, hhl]
  have d4 : ∀ z : Gw w2, z.toW.cell? ⟨fb, 4, none⟩ = some (.slice (some ⟨g, 0, none⟩) 1 1) := fun z => (below_own z.ok oC oC.lt).cell 4
  have f4 : ∀ z : Gw w2, z.toW.frozen? ⟨fb, 4, none⟩ = false := fun z => (below_own z.ok oC oC.lt).free 4
  have OG : Hid (∀ z : Gw w2, Own z.toW g 49 #[.int .i64 1, .int .i64 asn, .int .i64 rk, .int .i64 0, .slice none 0 0]) := Lib.hid (fun z => below_own z.ok oG oG.lt)
  have HH := Lib.hid (And.intro hha (And.intro hhc hhl))
  clear hha hhc hhl
  apply wp_tail_start
  case hl => repeat (first | exact Snoc.one _ | apply Snoc.cons)
  refine wp_region_tail w2 (Below.refl _ _) [.is (.pointer (some ⟨fb, 4, none⟩)), .is (.slice (some ⟨g, 0, none⟩) 1 1), .is (.pointer (some ⟨b, 0, none⟩)), .is (.pointer (some ⟨b, 0, none⟩)), .is (.pointer (some ⟨b, 1, none⟩)), .is (.pointer (some ⟨b, 3, none⟩)), .is (.slice ha hl hc), .is (.agg #[.int .i64 3, .int .i64 0, .int .i64 0, .int .i64 0, .slice ha hl hc]), kS w2 #[.int .i64 3, .int .i64 0, .int .i64 0, .int .i64 0, .slice ha hl hc] id, kP w2 #[.int .i64 1, .int .i64 asn, .int .i64 rk, .int .i64 0, .slice none 0 0, .int .i64 3, .int .i64 0, .int .i64 0, .int .i64 0, .slice ha hl hc], .is (.pointer (some ⟨fb, 4, none⟩))] [] (by kernel_rfl) (by kernel_rfl) (by kernel_rfl) rfl (by kernel_rfl) ?_
  iterate 8
    refine kd_is (by rfl) (fun z hz K Q hK => ?_) ?_
    · go_big_op
      exact hK _ _ rfl rfl
    simp only [Act.put, List.setIfInBounds_toArray, List.set_cons_zero, List.set_cons_succ]
  refine kd_grow (by rfl) (fun z hz K Q hK => ?_) (fun x8 => ?_)
  · have bz := (Below.refl z.toW.heap.size z.toW).alloc (Nat.le_refl _) (.cells #[.int .i64 3, .int .i64 0, .int .i64 0, .int .i64 0, .slice ha hl hc] 49)
    have oz := Own.new z.toW 49 #[.int .i64 3, .int .i64 0, .int .i64 0, .int .i64 0, .slice ha hl hc]
    go_big_op
    exact hK _ _ ⟨_, z.to _ bz, rfl, rfl, z.to_still _ bz, _, rfl, z.ok.size, oz⟩
  simp only [Act.put, List.setIfInBounds_toArray, List.set_cons_zero, List.set_cons_succ]
  refine kd_grow (by rfl) (fun z hz K Q hK => ?_) (fun x9 => ?_)
  · obtain ⟨g3, rfl, e1, e2⟩ := fact_at hz 8 (iS w2 #[.int .i64 3, .int .i64 0, .int .i64 0, .int .i64 0, .slice ha hl hc] id) x8 (by kernel_rfl) (by kernel_rfl) (by kernel_rfl)
    obtain ⟨cc, w', hr, q1, q2, q3, q4, q5⟩ := app_full 32 z.toW g g3 #[.int .i64 1, .int .i64 asn, .int .i64 rk, .int .i64 0, .slice none 0 0] #[.int .i64 3, .int .i64 0, .int .i64 0, .int .i64 0, .slice ha hl hc] (OG.out z) e2 rfl rfl
    have e12 : ((#[.int .i64 1, .int .i64 asn, .int .i64 rk, .int .i64 0, .slice none 0 0] : Array Value) ++ (#[.int .i64 3, .int .i64 0, .int .i64 0, .int .i64 0, .slice ha hl hc] : Array Value)) = #[.int .i64 1, .int .i64 asn, .int .i64 rk, .int .i64 0, .slice none 0 0, .int .i64 3, .int .i64 0, .int .i64 0, .int .i64 0, .slice ha hl hc] := by simp
    rw [e12] at q3
    refine op_app (.tmp 82) (.tmp 89) 32 rfl _ _ _ w' rfl rfl hr ?_
    exact hK _ _ ⟨_, z.to w' q5, rfl, rfl, z.to_still w' q5, _, _, rfl, q1, q2, z.ok.size, q4, q3⟩
  simp only [Act.put, List.setIfInBounds_toArray, List.set_cons_zero, List.set_cons_succ]
  iterate 1
    refine kd_is (by rfl) (fun z hz K Q hK => ?_) ?_
    · go_big_op
      exact hK _ _ rfl rfl
    simp only [Act.put, List.setIfInBounds_toArray, List.set_cons_zero, List.set_cons_succ]
  refine kd_nil (fun z hz => ?_)
  obtain ⟨gg, cc, rfl, q1, q2, q3, q4, q5⟩ : iP w2 #[.int .i64 1, .int .i64 asn, .int .i64 rk, .int .i64 0, .slice none 0 0, .int .i64 3, .int .i64 0, .int .i64 0, .int .i64 0, .slice ha hl hc] x9 z := hz 9 (.of (iP w2 #[.int .i64 1, .int .i64 asn, .int .i64 rk, .int .i64 0, .slice none 0 0, .int .i64 3, .int .i64 0, .int .i64 0, .int .i64 0, .slice ha hl hc])) x9 (by kernel_rfl) (fun _ _ => rfl)
  rw [if_pos (by rfl)]
  have hcl := oC.lt
  have oC3 := below_own z.ok oC hcl
  have oR3 := below_own z.ok oR oR.lt
  have d5 : z.toW.cell? ⟨fb, 4, none⟩ = some (.slice (some ⟨g, 0, none⟩) 1 1) := oC3.cell 4
  have f5 : z.toW.frozen? ⟨fb, 4, none⟩ = false := oC3.free 4
  have oC4 : Own (z.toW.setCell ⟨fb, 4, none⟩ (.slice (some ⟨gg, 0, none⟩) 2 cc)) fb 35 #[.int .i64 3, .int .i64 0, .int .i64 64, .int .i64 sq, .slice (some ⟨gg, 0, none⟩) 2 cc, .slice none 0 0] := oC3.put 4 _
  have j4 := Just.set fb z.toW 4 (.slice (some ⟨gg, 0, none⟩) 2 cc)
  have hgx := oR.lt
  have oR4 := j4.own oR3 (show xb ≠ fb by omega)
  have b24 : Below w0.heap.size w0 (z.toW.setCell ⟨fb, 4, none⟩ (.slice (some ⟨gg, 0, none⟩) 2 cc)) := j4.below (bel2.trans (z.ok.mono bel2.size)) k1 (bel2.trans (z.ok.mono bel2.size)).size
  have hgg : ∀ k, k < 10 → (z.toW.setCell ⟨fb, 4, none⟩ (.slice (some ⟨gg, 0, none⟩) 2 cc)).cell? ⟨gg, k, none⟩ = (#[.int .i64 1, .int .i64 asn, .int .i64 rk, .int .i64 0, .slice none 0 0, .int .i64 3, .int .i64 0, .int .i64 0, .int .i64 0, .slice ha hl hc] : Array Value)[k]? := fun k hk => by
    rw [← q5 k hk]
    have e := j4.block gg q4 (show gg ≠ fb by omega)
    simp only [World.cell?, e]
  have hgl2 : gg < (z.toW.setCell ⟨fb, 4, none⟩ (.slice (some ⟨gg, 0, none⟩) 2 cc)).heap.size := Nat.lt_of_lt_of_le q4 j4.size
  clear hz OG d3 d4 f4 q4 q5
  go_big_op
  clear d5 f5
  generalize z.toW.setCell ⟨fb, 4, none⟩ (.slice (some ⟨gg, 0, none⟩) 2 cc) = w4 at *
  go_upto_region 15 with (fail)
  refine wp_row_out rfl rfl rfl rfl rfl oC4 Try.underlying35 rfl (by kernel_rfl) rfl rfl oR4 (by kernel_rfl) rfl (by simp [Value.oneCell']) ?_
  have jR := Just.setRow xb w4 #[.int .i64 3, .int .i64 0, .int .i64 64, .int .i64 sq, .slice (some ⟨gg, 0, none⟩) 2 cc, .slice none 0 0]
  go_wp2_with fail
  refine bodyPost_ret (results_cell_row rfl _ _ xb 35 _ (0, 0) _ rfl (oR4.setRow _) Try.underlying35 rfl (by kernel_rfl)) rfl ?_
  have bel4 : Below xb w (w4.setRow xb #[.int .i64 3, .int .i64 0, .int .i64 64, .int .i64 sq, .slice (some ⟨gg, 0, none⟩) 2 cc, .slice none 0 0]) := jR.below (by rw [← HXB.out]; exact HB.out.trans (b24.mono HB.out.size)) (Nat.le_refl _) (by have := HB.out.size; have := b24.size; have := HXB.out; omega)
  have j5 : ∀ k, k < 10 → (w4.setRow xb #[.int .i64 3, .int .i64 0, .int .i64 64, .int .i64 sq, .slice (some ⟨gg, 0, none⟩) 2 cc, .slice none 0 0]).cell? ⟨gg, k, none⟩ = (#[.int .i64 1, .int .i64 asn, .int .i64 rk, .int .i64 0, .slice none 0 0, .int .i64 3, .int .i64 0, .int .i64 0, .int .i64 0, .slice ha hl hc] : Array Value)[k]? := fun k hk => by
    rw [← hgg k hk]
    have e := jR.block gg hgl2 (show gg ≠ xb by omega)
    simp only [World.cell?, e]
  obtain ⟨k1, k2, k3⟩ := HH.out
  subst k1 k2
  refine ⟨⟨3, 0, 64, sq, [⟨⟨1, asn, rk, 0, []⟩, none, 0⟩, ⟨⟨3, 0, 0, 0, s.c.hops⟩, h.ha, h.hc⟩], some ⟨gg, 0, none⟩, cc, [], none, 0⟩, rfl, ⟨⟨q1, q2, fun _ => ⟨gg, 0, rfl, Nat.lt_of_lt_of_le hgl2 jR.size, fun i hi => ?_⟩, fun k hk => ?_⟩, Nat.le_refl _, by unfold maxLen; dsimp only; omega, Row.nil _ _ _, fun j hj => by cases hj⟩, ?_, ?_⟩
  · rw [Nat.zero_add, j5 i hi]
    rcases (show i = 0 ∨ i = 1 ∨ i = 2 ∨ i = 3 ∨ i = 4 ∨ i = 5 ∨ i = 6 ∨ i = 7 ∨ i = 8 ∨ i = 9 by have : i < 10 := hi; omega) with rfl | rfl | rfl | rfl | rfl | rfl | rfl | rfl | rfl | rfl
    all_goals first | rfl | (rw [← k3]; rfl)
  · rcases (show k = 0 ∨ k = 1 by have : k < 2 := hk; omega) with rfl | rfl
    · exact ⟨Nat.le_refl _, Nat.zero_le _, Row.nil _ _ _, fun _ => rfl⟩
    · have mm : Mine (w4.setRow xb #[.int .i64 3, .int .i64 0, .int .i64 64, .int .i64 sq, .slice (some ⟨gg, 0, none⟩) 2 cc, .slice none 0 0]) 0 3 (.slice h.ha s.c.hops.length h.hc) s.c.hops.length (zv s.c.hops) := (HNW.out.below (by rw [HXB.out]; exact bel4)).hops
      obtain ⟨e1, e2, e3, e4⟩ := mine_at mm
      exact ⟨e1, e2, e3, e4⟩
  · unfold nextF0
    rw [HSQ.out, HRK.out]
    rfl
  · rw [HXB.out]
    exact bel4
end Go.Proofs.Ytiflmdekcjbmbaa.Nd
set_option maxRecDepth 100000
namespace Go.Proofs.Ytiflmdekcjbmbaa.Nd
set_option linter.unusedVariables false
set_option linter.unusedSimpArgs false
open Go.RowKit Lb Ie Fm

/-- What is heard of the frame that is sent. -/
def sentN (s : Ns) (o : Bool) (asn k d : Int) : Ns := { s with seq := (s.seq + 1) % 256, so := o, sa := asn, sk := k, sd := d, sq := s.seq }
def chanN (s : Ns) (asn : Int) : Int := Hp.chanB (fun i => s.c.hops.getD i 0) 0 s.c.hops.length asn 0
theorem fstE_isSome (asn rk : Int) (l : List El) : (fstE (⟨1, asn, rk, 0, []⟩ :: l) 1).isSome = true := by
  unfold fstE
  rw [List.find?_cons]
  rfl
theorem next_lists {s : Ns} {asn : Int} {p : Fp} (f : Fit s) (hp : p.fr = nextF0 s asn) : ∀ k, k < p.L.length → (p.L.getD k ep0).e.list.length ≤ 1000000 := by
  have h16 : s.c.hops.length ≤ 16 := by
    have := f.c.hops
    unfold Hp.mayB at this
    simp only [Bool.and_eq_true, decide_eq_true_eq] at this
    exact this.1.2
  intro k hk
  have e : els p.L = [⟨1, asn, rankN s, 0, []⟩, ⟨3, 0, 0, 0, s.c.hops⟩] := congrArg Fr.ies hp
  have h1 : (p.L.getD k ep0).e ∈ els p.L := by
    unfold els
    rw [List.getD_eq_getElem?_getD, List.getElem?_eq_getElem hk]
    exact List.mem_map_of_mem (List.getElem_mem hk)
  rw [e] at h1
  rcases List.mem_cons.1 h1 with h2 | h2
  · rw [h2]; exact Nat.zero_le _
  · rcases List.mem_cons.1 h2 with h3 | h3
    · rw [h3]; show s.c.hops.length ≤ _; omega
    · cases h3
theorem okTo_at {Z : Nat → Int} : ∀ {n : Nat}, Hp.okTo Z n = true → ∀ k, k < n → 0 ≤ Z k ∧ Z k < 32
  | 0, _, k, hk => absurd hk (Nat.not_lt_zero k)
  | n + 1, h, k, hk => by
    rw [Hp.okTo] at h
    simp only [Bool.and_eq_true, decide_eq_true_eq] at h
    by_cases e : k = n
    · subst e; exact ⟨h.2.1.1, h.2.1.2⟩
    · exact okTo_at h.1 k (by omega)
theorem may_next {s : Ns} {asn : Int} (f : Fit s) (ha : 0 ≤ asn ∧ asn < 1099511627776) : mayF (nextF0 s asn) = true := by
  have hr : 0 ≤ rankN s ∧ rankN s ≤ 255 := by
    unfold rankN
    split
    · exact f.rk
    · omega
  have hh := f.c.hops
  unfold Hp.mayB at hh
  simp only [Bool.and_eq_true, decide_eq_true_eq] at hh
  have h1 : mayE ⟨1, asn, rankN s, 0, []⟩ = true := by
    unfold mayE fitB octB
    rw [if_pos rfl, decide_eq_true ha, decide_eq_true hr]
    simp [own, sameE]
  have h2 : mayE ⟨3, 0, 0, 0, s.c.hops⟩ = true := by
    have h3 : listB s.c.hops = true := by
      unfold listB octsB
      rw [decide_eq_true hh.1.2, decide_eq_true (fun j hj => ?_)]
      · rfl
      · have := okTo_at hh.2 j hj
        omega
    unfold mayE fitB
    dsimp only
    rw [if_neg (by decide), if_neg (by decide), if_pos (.inl rfl), h3]
    simp [own, sameE]
  have hq := f.seq
  unfold mayF nextF0 mayL dstB kindB
  dsimp only
  rw [if_neg (by decide), if_pos rfl, fstE_isSome]
  simp only [List.all_cons, List.all_nil, h1, h2]
  rw [decide_eq_true hq.1, decide_eq_true (show s.seq ≤ 255 by omega)]
  rfl
theorem channel_hop {w : World} {b : Nat} {s : Ns} {h : Hm} (n : Nd w b s h) (f : Fit s) (asn : Int) :
    Calls Try.prog 24 #[.slice h.ha s.c.hops.length h.hc, .int .u32 0, .int .i64 asn, .int .i64 0] w fun r w' => r = .returned (.int .i64 (chanN s asn)) ∧ Below w.heap.size w w' := by
  obtain ⟨m1, m2, m3, _⟩ := mine_at n.hops
  exact Hp.channel_any h.ha s.c.hops.length h.hc (fun i => s.c.hops.getD i 0) 0 asn 0 w m1 m2 m3 (by decide)
set_option maxHeartbeats 4000000 in
theorem plan0_any {w : World} {b : Nat} {s : Ns} {h : Hm} (n : Nd w b s h) (f : Fit s) (h0 : s.id = 0) (hq : s.q = []) (asn : Int) (ha : 0 ≤ asn ∧ asn < 1099511627776) (hm : asn % s.c.nodes = 0) :
    Calls Try.prog 9 #[.pointer (some ⟨b, 0, none⟩), .int .i64 asn] w fun r w' => ∃ a c, r = .returned (.tuple #[.int .i64 (chanN s asn), .slice a (encF (nextF0 s asn)).length c]) ∧ (encF (nextF0 s asn)).length ≤ c ∧ c ≤ maxLen ∧ Row w' a (encF (nextF0 s asn)).length (bval (encF (nextF0 s asn))) ∧ Nd w' b (sentN s false asn 3 64) h ∧ Mv (h.ex b) (h.ex b) w w' := by
  have PA := isASN_any asn
  rw [show asnB asn = true from decide_eq_true ha] at PA
  have HN := Lib.hid n
  have HF := Lib.hid f
  have c1 := n.c_nodes
  have c3 := n.c_hops
  have c39 : w.cell? ⟨b, 39, none⟩ = some (.bool true) := by rw [n.c_inT, (f.root h0).1]
  have c0 : w.cell? ⟨b, 0, none⟩ = some (.int .i64 0) := by rw [n.c_id, h0]
  obtain ⟨nd, hnd⟩ : ∃ q, s.c.nodes = q := ⟨_, rfl⟩
  have hn16 := f.c.nodes
  rw [hnd] at c1 hm hn16
  have e1 : asn.tmod nd = 0 := by rw [Int.tmod_eq_emod_of_nonneg ha.1]; exact hm
  have H0 := Lib.hid (And.intro h0 hq)
  have HM := Lib.hid (may_next f ha)
  have hsq := f.seq
  clear n f h0 hq hm ha hnd
  go_enter Try.func9, Try.ntmps9
  go_wp2_with fail
  refine (lives_any HN.out).mono ?_
  rintro r w' ⟨rfl, rfl⟩
  go_wp2_with fail
  refine (PA _).mono ?_
  rintro r w' ⟨rfl, rfl⟩
  clear PA
  go_upto_region 3 with (fail)
  go_quiet (fail)
  have b1 := below_drewN (Below.refl w.heap.size w) nq
  have c39' : (w.drewN nq).cell? ⟨b, 39, none⟩ = some (.bool true) := c39
  have PC := channel_hop (HN.out.below b1) HF.out asn
  generalize w.drewN nq = w1 at *
  clear c0 c1 c3 c39
  obtain ⟨hl, hhl⟩ : ∃ q, s.c.hops.length = q := ⟨_, rfl⟩
  rw [hhl] at PC ⊢
  have HHL := Lib.hid hhl
  clear hhl
  go_wp2_with fail
  refine PC.mono ?_
  rintro r w2 ⟨rfl, b2⟩
  have bb2 := b1.trans (b2.mono b1.size)
  have c0 : w2.cell? ⟨b, 0, none⟩ = some (.int .i64 0) := by rw [(HN.out.below bb2).c_id, H0.out.1]
  clear PC c39' b1 b2
  clear w1
  obtain ⟨ch, hch⟩ : ∃ q, chanN s asn = q := ⟨_, rfl⟩
  have HCH := Lib.hid hch
  rw [hch]
  clear hch
  go_upto_region 8 with (fail)
  go_quiet (fail)
  have b3 := below_drewN bb2 nq
  have PX := next0_any (HN.out.below b3) HF.out H0.out.1 H0.out.2 asn
  generalize w2.drewN nq = w3 at *
  clear c0 bb2 e1
  clear w2
  go_wp2_with fail
  refine PX.mono ?_
  rintro r w4 ⟨p, rfl, hp, hf, b4⟩
  have bb4 := b3.trans (b4.mono b3.size)
  have hlist := next_lists HF.out hf
  have PE := fun w' (j : Below w4.heap.size w4 w') => encF_any p w' (hp.below j) hlist
  rw [hf] at PE
  have e0 : p.k = 3 := congrArg Fr.k hf
  have e1 : p.d = 64 := congrArg Fr.d hf
  have e2 : p.q = s.seq := congrArg Fr.q hf
  obtain ⟨pk, ps, pd, pq, pL, pa, pc, pdata, pb, pe⟩ := p
  dsimp only at e0 e1 e2
  subst e0 e1 e2
  obtain ⟨nl, hnl⟩ : ∃ q, pL.length = q := ⟨_, rfl⟩
  obtain ⟨nn, hnn⟩ : ∃ q, pdata.length = q := ⟨_, rfl⟩
  simp only [Fp.vals, hnl, hnn] at PE ⊢
  clear hp hf hlist hnl hnn PX b3 b4
  clear w3
  have o4 := Own.new w4 35 #[.int .i64 3, .int .i64 ps, .int .i64 64, .int .i64 s.seq, .slice pa nl pc, .slice pb nn pe]
  have b5 := (Below.refl w4.heap.size w4).alloc (Nat.le_refl _) (.cells #[.int .i64 3, .int .i64 ps, .int .i64 64, .int .i64 s.seq, .slice pa nl pc, .slice pb nn pe] 35)
  have PE' := PE _ b5
  have hlo := bb4.size
  have bb4s := bb4.size
  have bb5 := bb4.trans (b5.mono bb4.size)
  clear PE b5 bb4
  go_upto_region 11 with (fail)
  obtain ⟨tb, htb⟩ : ∃ q, w4.heap.size = q := ⟨_, rfl⟩
  rw [htb] at o4 hlo bb4s ⊢
  generalize w4.alloc (.cells #[.int .i64 3, .int .i64 ps, .int .i64 64, .int .i64 s.seq, .slice pa nl pc, .slice pb nn pe] 35) = w5 at *
  clear htb
  clear w4
  go_wp2_with (refine wpList_load_row rfl _ _ rfl tb rfl 35 #[.int .i64 3, .int .i64 ps, .int .i64 64, .int .i64 s.seq, .slice pa nl pc, .slice pb nn pe] (0, 0) _ o4 Try.underlying35 rfl (by kernel_rfl) ?_)
  refine PE'.mono ?_
  rintro r w6 hE
  unfold EncFPost at hE
  rw [if_pos HM.out] at hE
  obtain ⟨v, rfl, hv, b6⟩ := hE
  obtain ⟨va, vc, rfl, v1, v2, v3⟩ := hv.row
  have bb6 := bb5.trans (b6.mono bb5.size)
  have o6 := below_own b6 o4 o4.lt
  have n6 := HN.out.below bb6
  have hvb := hv.lt
  have d0 : w6.cell? ⟨tb, 0, none⟩ = some (.int .i64 3) := o6.cell 0
  have d2 : w6.cell? ⟨tb, 2, none⟩ = some (.int .i64 64) := o6.cell 2
  have d3 : w6.cell? ⟨tb, 3, none⟩ = some (.int .i64 s.seq) := o6.cell 3
  have c16 : w6.cell? ⟨b, 16, none⟩ = some (.int .i64 s.seq) := n6.c_seq
  have f16 : w6.frozen? ⟨b, 16, none⟩ = false := n6.own.free 16
  have w1 : wrap64 (s.seq + 1) = s.seq + 1 := IntWalk.wrap64_in _ (by omega)
  have w2 : (s.seq + 1).tmod 256 = (s.seq + 1) % 256 := Int.tmod_eq_emod_of_nonneg (by omega)
  have w3 : IntKind.i64.wrap (s.seq + 1) = s.seq + 1 := IntWalk.i64_in _ (by omega)
  have w4 : IntKind.i64.wrap ((s.seq + 1) % 256) = (s.seq + 1) % 256 := IntWalk.i64_in _ (by omega)
  have w5 : wrap64 ((s.seq + 1) % 256) = (s.seq + 1) % 256 := IntWalk.wrap64_in _ (by omega)
  have hbt : b ≠ tb := by
    have := HN.out.own.lt
    have := bb4s
    omega
  have r6 := n6.own
  have r7 := r6.put 16 (.int .i64 ((s.seq + 1) % 256))
  have j7 := Just.set b w6 16 (.int .i64 ((s.seq + 1) % 256))
  have hth : (w6.setCell ⟨b, 16, none⟩ (.int .i64 ((s.seq + 1) % 256))).there b 18 5 := fun j hj => ⟨by
    rw [r7.cell (show 18 + j < 43 by omega)]
    rfl, r7.free _⟩
  have o7 := j7.own o6 (fun e => hbt e.symm)
  have x0 : (w6.setCell ⟨b, 16, none⟩ (.int .i64 ((s.seq + 1) % 256))).cell? ⟨tb, 0, none⟩ = some (.int .i64 3) := o7.cell 0
  have x2 : (w6.setCell ⟨b, 16, none⟩ (.int .i64 ((s.seq + 1) % 256))).cell? ⟨tb, 2, none⟩ = some (.int .i64 64) := o7.cell 2
  have x3 : (w6.setCell ⟨b, 16, none⟩ (.int .i64 ((s.seq + 1) % 256))).cell? ⟨tb, 3, none⟩ = some (.int .i64 s.seq) := o7.cell 3
  have r8 := (((((r7.put 18 (.bool false)).put 19 (.int .i64 asn)).put 20 (.int .i64 3)).put 21 (.int .i64 64)).put 22 (.int .i64 s.seq))
  have j8 := j7.trans (just_cells b [.bool false, .int .i64 asn, .int .i64 3, .int .i64 64, .int .i64 s.seq] 18 (w6.setCell ⟨b, 16, none⟩ (.int .i64 ((s.seq + 1) % 256))))
  have R8 : Blk ((w6.setCell ⟨b, 16, none⟩ (.int .i64 ((s.seq + 1) % 256))).setCells b 18 [.bool false, .int .i64 asn, .int .i64 3, .int .i64 64, .int .i64 s.seq]) b 65 43 (ndV (sentN s false asn 3 64) h) := Blk.ext r8 (fun i hi => by
    unfold ndV
    by_cases h1 : i < 23
    · rw [if_pos h1, if_pos h1]
      rcases idx23 i h1 with rfl | rfl | rfl | rfl | rfl | rfl | rfl | rfl | rfl | rfl | rfl | rfl | rfl | rfl | rfl | rfl | rfl | rfl | rfl | rfl | rfl | rfl | rfl <;> rfl
    · rw [if_neg h1, if_neg h1, if_neg (by omega), if_neg (by omega), if_neg (by omega), if_neg (by omega), if_neg (by omega), if_neg (by omega)]
      by_cases h2 : i < 39
      · rw [if_pos h2, if_pos h2]
      · rw [if_neg h2, if_neg h2]
        rfl)
  have t8 := Tn.of_just j8 n6.own
  have n8 : Nd ((w6.setCell ⟨b, 16, none⟩ (.int .i64 ((s.seq + 1) % 256))).setCells b 18 [.bool false, .int .i64 asn, .int .i64 3, .int .i64 64, .int .i64 s.seq]) b (sentN s false asn 3 64) h :=
    n6.put j8 R8 ⟨rfl, rfl, rfl⟩ ⟨rfl, rfl, rfl, rfl⟩ ⟨rfl, rfl, rfl, rfl⟩ ⟨rfl, rfl, rfl⟩ ⟨rfl, rfl, rfl⟩ ⟨rfl, rfl, rfl⟩ (fun e => t8.st (n6.set e) (by decide) (by decide)) (fun e => t8.own (n6.kee e) (by decide)) (fun k hk => t8.mine (n6.path k hk) (by decide))
  have m8 : Mv (h.ex b) (h.ex b) w ((w6.setCell ⟨b, 16, none⟩ (.int .i64 ((s.seq + 1) % 256))).setCells b 18 [.bool false, .int .i64 asn, .int .i64 3, .int .i64 64, .int .i64 s.seq]) := (Mv.of_below bb6).trans (Mv.of_just j8 (.inl rfl))
  have V8 : Row ((w6.setCell ⟨b, 16, none⟩ (.int .i64 ((s.seq + 1) % 256))).setCells b 18 [.bool false, .int .i64 asn, .int .i64 3, .int .i64 64, .int .i64 s.seq]) va (encF (nextF0 s asn)).length (bval (encF (nextF0 s asn))) := (mine_at (t8.mine hv (by decide))).2.2.1
  have HK := Lib.hid (And.intro n8 (And.intro m8 V8))
  clear r6 r7 r8 j7 j8 R8 t8 n8 m8 V8 o6 o7 n6 hv v3 PE' bb5 bb6 b6
  obtain ⟨en, hen⟩ : ∃ q, encF (nextF0 s asn) = q := ⟨_, rfl⟩
  rw [hen] at HK v1 ⊢
  obtain ⟨el, hel⟩ : ∃ q, en.length = q := ⟨_, rfl⟩
  rw [hel] at HK v1 ⊢
  have HEN := Lib.hid hen
  have HEL := Lib.hid hel
  clear hen hel hvb
  go_wp2_with (refine wpList_store_mid rfl 60 _ _ rfl b 18 #[.bool false, .int .i64 asn, .int .i64 3, .int .i64 64, .int .i64 s.seq] rfl rfl hth (by kernel_rfl) (by simp [Value.oneCell']) ?_)
  go_ret2
  rw [HCH.out, HEN.out, HEL.out]
  exact ⟨va, vc, rfl, v1, v2, HK.out.2.2, HK.out.1, HK.out.2.1⟩
end Go.Proofs.Ytiflmdekcjbmbaa.Nd
