/-
  A node (chapter 24): the meshes of the laws. A node (chapter 24): a node that there isn't; the element that each frame has. A node (chapter 24): what a frame says to it (read); an event.
-/
import Derived.Test.YtiflmdekcjbmbaaGreatGNodeWaits14
import Derived.Test.YtiflmdekcjbmbaaGreatGNodeWaits23
import Derived.Test.YtiflmdekcjbmbaaGreatGNodeWaits20
import Derived.Test.YtiflmdekcjbmbaaGreatGNodeWaits05
set_option maxRecDepth 100000
namespace Go.Proofs.YtiflmdekcjbmbaaGreat.Nd
set_option linter.unusedVariables false
set_option linter.unusedSimpArgs false
open Go.RowKit Lb

/-- A number, folded. -/
theorem um_ex (x m : Int) (h : 0 < m) (h2 : m < 1000) : ∃ k : Nat, wrap64 ((IntKind.u64.wrap x).tmod m) = (k : Int) ∧ (k : Int) < m := by
  rw [IntKind.wrap_u64, Int.tmod_eq_emod_of_nonneg (Int.emod_nonneg _ (by decide))]
  have h0 : 0 ≤ (x % 18446744073709551616) % m := Int.emod_nonneg _ (by omega)
  have h1 : (x % 18446744073709551616) % m < m := Int.emod_lt_of_pos _ (by omega)
  refine ⟨((x % 18446744073709551616) % m).toNat, ?_, by omega⟩
  rw [IntWalk.wrap64_in _ ⟨by omega, by omega⟩]
  omega
theorem infoU : (Tryz.prog.info? 68).map (fun i => (i.zero, i.size, i.bytes)) = some (some (.int .u64 0), 1, 8) := by kernel_rfl
/-- Nobody hears itself, nor who is none. -/
def Nok (n : Nat) (Z : Nat → Nat) : Prop := ∀ i, i < n → Z i < 2 ^ n ∧ (Z i).testBit i = false
def nrv (Z : Nat → Nat) (i : Nat) : Value := .int .u64 (Z i : Int)
theorem nok_put {n k j : Nat} {Z : Nat → Nat} (h : Nok n Z) (hk : k < n) (hj : j < n) (hkj : k ≠ j) : Nok n (fun i => if i = k then Z k ||| 1 <<< j else Z i) := by
  intro i hi
  by_cases e : i = k
  · subst e
    obtain ⟨h1, h2⟩ := h i hi
    have h3 : 1 <<< j < 2 ^ n := by
      rw [Nat.one_shiftLeft]
      exact Nat.pow_lt_pow_right (by decide) hj
    simp only [if_pos]
    refine ⟨Nat.or_lt_two_pow h1 h3, ?_⟩
    rw [Nat.testBit_or, h2, Nat.one_shiftLeft, Nat.testBit_two_pow]
    simp
    omega
  · simp only [if_neg e]
    exact h i hi
theorem nrB_yes {N : Nat} {Z : Nat → Nat} {n : Nat} (h : ∀ i, i < n → Z i < 2 ^ N ∧ (Z i).testBit i = false) : nrB N Z n = true := by
  induction n with
  | zero => rfl
  | succ n ih =>
    rw [nrB, ih (fun i hi => h i (by omega)), (h n (by omega)).2, decide_eq_true (h n (by omega)).1]
    rfl
theorem shl64 {s : Nat} (hs : s < 18446744073709551616) {j : Nat} (h1 : j < 64) : bits .or .u64 (s : Int) (IntKind.u64.wrap (2 ^ j)) = ((s ||| 1 <<< j : Nat) : Int) := by
  have q3 : (1 : Nat) <<< j < 18446744073709551616 := by
    rw [Nat.one_shiftLeft]
    exact Nat.lt_of_lt_of_le (Nat.pow_lt_pow_right (by decide) h1) (by decide)
  rw [← u64_or_nat _ _ hs q3]
  congr 1
  rw [Nat.one_shiftLeft] at q3 ⊢
  have e : ((2 ^ j : Nat) : Int) = 2 ^ j := Int.natCast_pow 2 j
  rw [← e, IntKind.wrap_u64]
  exact Int.emod_eq_of_lt (Int.natCast_nonneg _) (Int.ofNat_lt.2 q3)
def CfgPost (w : World) (r : Ending) (w' : World) : Prop := ∃ x : Cx, r = .returned (.agg #[.int .i64 x.nodes, .slice x.na x.nn x.nc, .slice x.ha x.hops.length x.hc, .int .i64 x.guard, .int .i64 x.err, .int .i64 x.keep, .int .i64 x.loss, .int .i64 x.queue, .int .i64 x.life]) ∧ x.At w' ∧ mayQ x = true ∧ x.hops = [11, 15, 20] ∧ Below w.heap.size w w'
/-- A number, folded. -/
def umN (x m : Int) : Int := wrap64 ((IntKind.u64.wrap x).tmod m)
/-- What the numbers make of it. -/
structure CfgIs (x : Cx) (x0 x2 x3 x4 x5 x6 : Int) : Prop where
  nodes : x.nodes = 2 + umN x0 7
  guard : x.guard = 300
  err : x.err = umN x6 6
  keep : x.keep = 1 + umN x2 30
  loss : x.loss = 2 * x.nodes + umN x3 60
  queue : x.queue = 1 + umN x4 8
  life : x.life = 1 + umN x5 15
def CfgMore (x0 x2 x3 x4 x5 x6 : Int) (w : World) (r : Ending) (w' : World) : Prop := ∃ x : Cx, r = .returned (.agg #[.int .i64 x.nodes, .slice x.na x.nn x.nc, .slice x.ha x.hops.length x.hc, .int .i64 x.guard, .int .i64 x.err, .int .i64 x.keep, .int .i64 x.loss, .int .i64 x.queue, .int .i64 x.life]) ∧ x.At w' ∧ mayQ x = true ∧ x.hops = [11, 15, 20] ∧ Below w.heap.size w w' ∧ CfgIs x x0 x2 x3 x4 x5 x6
structure Mc (W w : World) (rb nb hb xb n : Nat) (C : Array Value) (Z : Nat → Nat) : Prop where
  or : Own w rb 25 #[.int .i64 0, .slice none 0 0, .slice none 0 0, .int .i64 0, .int .i64 0, .int .i64 0, .int .i64 0, .int .i64 0, .int .i64 0]
  on : Blk w nb 68 n (nrv Z)
  oh : Own w hb 3 #[.int .i64 11, .int .i64 15, .int .i64 20]
  ox : Own w xb 25 C
  lo : W.heap.size ≤ rb ∧ rb < nb ∧ nb < hb ∧ hb < xb
  bel : Below W.heap.size W w
  ok : Nok n Z
theorem Mc.set {W w : World} {rb nb hb xb n k j : Nat} {C : Array Value} {Z : Nat → Nat} (h : Mc W w rb nb hb xb n C Z) (hk : k < n) (hj : j < n) (hkj : k ≠ j) :
    Mc W (w.setCell ⟨nb, k, none⟩ (.int .u64 ((Z k ||| 1 <<< j : Nat) : Int))) rb nb hb xb n C (fun i => if i = k then Z k ||| 1 <<< j else Z i) := by
  have jj := Just.set nb w k (.int .u64 ((Z k ||| 1 <<< j : Nat) : Int))
  have hl := h.lo
  refine ⟨jj.own h.or (by omega), (h.on.put k _).ext (fun i hi => ?_), jj.own h.oh (by omega), jj.own h.ox (by omega), h.lo, jj.below h.bel (by omega) h.bel.size, nok_put h.ok hk hj hkj⟩
  unfold nrv
  by_cases e : i = k
  · simp only [if_pos e]
  · simp only [if_neg e]
set_option maxHeartbeats 4000000 in
theorem config_more (x0 x1 x2 x3 x4 x5 x6 : Int) (w : World) : Calls Tryz.prog 40 #[.int .i64 x0, .int .i64 x1, .int .i64 x2, .int .i64 x3, .int .i64 x4, .int .i64 x5, .int .i64 x6] w (CfgMore x0 x2 x3 x4 x5 x6 w) := by
  obtain ⟨i0, hi0, hz0, hz1, hz2⟩ := info_parts infoU
  obtain ⟨k0, a0, l0⟩ := um_ex x0 7 (by decide) (by decide)
  obtain ⟨k1, a1, l1⟩ := um_ex x1 3 (by decide) (by decide)
  obtain ⟨k6, a6, l6⟩ := um_ex x6 6 (by decide) (by decide)
  obtain ⟨k2, a2, l2⟩ := um_ex x2 30 (by decide) (by decide)
  obtain ⟨k3, a3, l3⟩ := um_ex x3 60 (by decide) (by decide)
  obtain ⟨k4, a4, l4⟩ := um_ex x4 8 (by decide) (by decide)
  obtain ⟨k5, a5, l5⟩ := um_ex x5 15 (by decide) (by decide)
  obtain ⟨n, hn⟩ : ∃ n, 2 + k0 = n := ⟨_, rfl⟩
  have hnb : 2 ≤ n ∧ n ≤ 8 := by omega
  have e0 : IntKind.i64.wrap (2 + (k0 : Int)) = (n : Int) := by rw [IntWalk.i64_in _ (by omega)]; omega
  have e1 : IntKind.i64.wrap (1 + (k1 : Int)) = 1 + (k1 : Int) := IntWalk.i64_in _ (by omega)
  have e2 : IntKind.i64.wrap (1 + (k2 : Int)) = 1 + (k2 : Int) := IntWalk.i64_in _ (by omega)
  have e3 : IntKind.i64.wrap (2 * (n : Int)) = 2 * (n : Int) := IntWalk.i64_in _ (by omega)
  have e4 : IntKind.i64.wrap (1 + (k4 : Int)) = 1 + (k4 : Int) := IntWalk.i64_in _ (by omega)
  have e5 : IntKind.i64.wrap (1 + (k5 : Int)) = 1 + (k5 : Int) := IntWalk.i64_in _ (by omega)
  have e6 : IntKind.i64.wrap (2 * (n : Int) + (k3 : Int)) = 2 * (n : Int) + (k3 : Int) := IntWalk.i64_in _ (by omega)
  have hmk : ∀ w : World, (Instr.makeSlice 22 (.int .i64 (n : Int)) (.int .i64 (n : Int))).run Tryz.prog w = .ok (.slice (some ⟨w.heap.size, 0, none⟩) n n) (w.alloc (.cells (madeCells #[.int .u64 0] n) 68)) := by
    intro w
    have := run_make w 22 68 i0 (.int .u64 0) Tryz.underlying22 hi0 hz0 .i64 .i64 (n : Int) (n : Int) (by omega) (by omega) (by rw [hz2]; omega) (by omega)
    rw [this, hz1]
    simp [Value.cells]
  have HCS : Hid (madeCells #[Value.int .u64 0] n = (List.replicate n (Value.int .u64 0)).toArray) := Lib.hid (by
    apply Array.toList_inj.1
    simpa using toList_madeCells_one (Value.int .u64 0) n)
  have HA := Lib.hid (And.intro hn (And.intro a0 (And.intro a2 (And.intro a3 (And.intro a4 (And.intro a5 a6))))))
  clear hn
  go_enter Tryz.func40, Tryz.ntmps40
  go_upto_region 3 with (fail)
  have HK := Lib.hid (show k0 < 7 ∧ k2 < 30 ∧ k3 < 60 ∧ k4 < 8 ∧ k5 < 15 ∧ k6 < 6 by omega)
  go_wp2_with fail
  obtain ⟨C, hC⟩ : ∃ C : Array Value, #[.int .i64 (n : Int), .slice (some ⟨w.heap.size + 1, 0, none⟩) n n, .slice (some ⟨w.heap.size + 1 + 1, 0, none⟩) 3 3, .int .i64 300, .int .i64 (k6 : Int), .int .i64 (1 + (k2 : Int)), .int .i64 (2 * (n : Int) + (k3 : Int)), .int .i64 (1 + (k4 : Int)), .int .i64 (1 + (k5 : Int))] = C := ⟨_, rfl⟩
  obtain ⟨w9, h9⟩ : ∃ w9, (((w.alloc (.cells #[.int .i64 0, .slice none 0 0, .slice none 0 0, .int .i64 0, .int .i64 0, .int .i64 0, .int .i64 0, .int .i64 0, .int .i64 0] 25)).alloc (.cells (madeCells #[.int .u64 0] n) 68)).alloc (.cells #[.int .i64 11, .int .i64 15, .int .i64 20] 3)).alloc (.cells C 25) = w9 := ⟨_, rfl⟩
  have T0 : Mc w w9 w.heap.size (w.heap.size + 1) (w.heap.size + 1 + 1) (w.heap.size + 1 + 1 + 1) n C (fun _ => 0) := by
    rw [← h9]
    have o0 := Own.new w 25 #[.int .i64 0, .slice none 0 0, .slice none 0 0, .int .i64 0, .int .i64 0, .int .i64 0, .int .i64 0, .int .i64 0, .int .i64 0]
    have b0 := (Below.refl w.heap.size w).alloc (Nat.le_refl _) (.cells #[.int .i64 0, .slice none 0 0, .slice none 0 0, .int .i64 0, .int .i64 0, .int .i64 0, .int .i64 0, .int .i64 0, .int .i64 0] 25)
    have s0 : (w.alloc (.cells #[.int .i64 0, .slice none 0 0, .slice none 0 0, .int .i64 0, .int .i64 0, .int .i64 0, .int .i64 0, .int .i64 0, .int .i64 0] 25)).heap.size = w.heap.size + 1 := by simp
    generalize w.alloc (.cells #[.int .i64 0, .slice none 0 0, .slice none 0 0, .int .i64 0, .int .i64 0, .int .i64 0, .int .i64 0, .int .i64 0, .int .i64 0] 25) = v0 at *
    have o1 := Own.new v0 68 (madeCells #[.int .u64 0] n)
    have b1 := b0.alloc b0.size (.cells (madeCells #[.int .u64 0] n) 68)
    have o0 := o0.alloc (.cells (madeCells #[.int .u64 0] n) 68)
    have s1 : (v0.alloc (.cells (madeCells #[.int .u64 0] n) 68)).heap.size = w.heap.size + 1 + 1 := by simp [s0]
    rw [s0] at o1
    generalize v0.alloc (.cells (madeCells #[.int .u64 0] n) 68) = v1 at *
    have o2 := Own.new v1 3 #[.int .i64 11, .int .i64 15, .int .i64 20]
    have b2 := b1.alloc b1.size (.cells #[.int .i64 11, .int .i64 15, .int .i64 20] 3)
    have o0 := o0.alloc (.cells #[.int .i64 11, .int .i64 15, .int .i64 20] 3)
    have o1 := o1.alloc (.cells #[.int .i64 11, .int .i64 15, .int .i64 20] 3)
    have s2 : (v1.alloc (.cells #[.int .i64 11, .int .i64 15, .int .i64 20] 3)).heap.size = w.heap.size + 1 + 1 + 1 := by simp [s1]
    rw [s1] at o2
    generalize v1.alloc (.cells #[.int .i64 11, .int .i64 15, .int .i64 20] 3) = v2 at *
    have o3 := Own.new v2 25 C
    rw [s2] at o3
    exact ⟨o0.alloc _, (Blk.same (o1.alloc _) HCS.out).ext (fun _ _ => rfl), o2.alloc _, o3, by omega, b2.alloc b2.size _, fun i _ => ⟨Nat.two_pow_pos n, by simp⟩⟩
  have HC := Lib.hid hC
  rw [hC, h9]
  clear hC h9 hmk HCS a0 a1 a2 a3 a4 a5 a6 l0 l2 l3 l4 l5 l6 e0 e1 e2 e3 e4 e5 e6 hi0 hz0 hz1 hz2
  obtain ⟨rb, hrb⟩ : ∃ q, w.heap.size = q := ⟨_, rfl⟩
  have HRB := Lib.hid hrb
  rw [hrb] at T0 ⊢
  obtain ⟨nb, hnb'⟩ : ∃ q, rb + 1 = q := ⟨_, rfl⟩
  rw [hnb'] at T0 ⊢
  obtain ⟨hb, hhb⟩ : ∃ q, nb + 1 = q := ⟨_, rfl⟩
  rw [hhb] at T0 ⊢
  obtain ⟨xb, hxb⟩ : ∃ q, hb + 1 = q := ⟨_, rfl⟩
  rw [hxb] at T0 ⊢
  have HNB := Lib.hid (And.intro hnb' hhb)
  have hC1 : C[1]? = some (.slice (some ⟨nb, 0, none⟩) n n) := by rw [← HC.out, ← HNB.out.1, ← HRB.out]; rfl
  clear hrb hnb' hhb hxb
  go_loopw [62] (fun i wz => ∃ (k : Nat) (Z : Nat → Nat), i = .int .i64 k ∧ k ≤ n ∧ Mc w wz rb nb hb xb n C Z) (fun i _ => n - (intOf i).toNat)
  case atStart => exact ⟨0, _, rfl, Nat.zero_le _, T0⟩
  case round =>
    clear T0
    obtain ⟨k, Z, rfl, hk, T⟩ := hrel
    by_cases hlt : k < n
    · go_wp2_with fail
      go_loopw [66] (fun i wz => ∃ (j : Nat) (Z : Nat → Nat), i = .int .i64 j ∧ j ≤ n ∧ Mc w wz rb nb hb xb n C Z) (fun i _ => n - (intOf i).toNat)
      case atStart => exact ⟨0, _, rfl, Nat.zero_le _, T⟩
      case round =>
        clear T
        obtain ⟨j, Z, rfl, hj, T⟩ := hrel
        by_cases hlj : j < n
        · by_cases ekj : k = j
          · subst ekj
            have g1 : ((k : Int) != (k : Int)) = false := by simp
            have hlt' : (k : Int) < (n : Int) := by omega
            go_wp2_with fail
            exact ⟨⟨k + 1, Z, by simp, by omega, T⟩, by simp [intOf]; omega⟩
          have g1 : ((k : Int) != (j : Int)) = true := by simp; omega
          have hlj' : (j : Int) < (n : Int) := by omega
          have e1 : IntKind.i64.wrap ((k : Int) - (j : Int)) = (k : Int) - (j : Int) := IntWalk.i64_in _ (by omega)
          have e2 : IntKind.i64.wrap ((j : Int) - (k : Int)) = (j : Int) - (k : Int) := IntWalk.i64_in _ (by omega)
          cases g2 : decide ((k : Int) - (j : Int) ≤ 1 + (k1 : Int))
          · go_wp2_with fail
            exact ⟨⟨j + 1, Z, by simp, by omega, T⟩, by simp [intOf]; omega⟩
          cases g3 : decide ((j : Int) - (k : Int) ≤ 1 + (k1 : Int))
          · go_wp2_with fail
            exact ⟨⟨j + 1, Z, by simp, by omega, T⟩, by simp [intOf]; omega⟩
          have c1 : wr.cell? ⟨xb, 1, none⟩ = some (.slice (some ⟨nb, 0, none⟩) n n) := (T.ox.cell 1).trans hC1
          have c2 : wr.cell? ⟨nb, k, none⟩ = some (.int .u64 (Z k : Int)) := T.on.cell hlt
          have f2 : wr.frozen? ⟨nb, k, none⟩ = false := T.on.free k
          have hz : Z k < 18446744073709551616 := Nat.lt_of_lt_of_le (T.ok k hlt).1 (Nat.le_trans (Nat.pow_le_pow_right (by decide) (show n ≤ 64 by omega)) (by decide))
          have e3 := shl64 hz (show j < 64 by omega)
          have e4 : IntKind.u64.wrap (j : Int) = (j : Int) := by rw [IntKind.wrap_u64]; omega
          have T' := T.set hlt hlj ekj
          have hlt' : (k : Int) < (n : Int) := by omega
          clear hz T
          go_wp2_with fail
          exact ⟨⟨j + 1, _, by simp, by omega, T'⟩, by simp [intOf]; omega⟩
        · obtain rfl : n = j := by omega
          go_wp2_with fail
          exact ⟨⟨k + 1, Z, by simp, by omega, T⟩, by simp [intOf]; omega⟩
    · obtain rfl : n = k := by omega
      have hCC : C = #[.int .i64 (n : Int), .slice (some ⟨nb, 0, none⟩) n n, .slice (some ⟨hb, 0, none⟩) 3 3, .int .i64 300, .int .i64 (k6 : Int), .int .i64 (1 + (k2 : Int)), .int .i64 (2 * (n : Int) + (k3 : Int)), .int .i64 (1 + (k4 : Int)), .int .i64 (1 + (k5 : Int))] := by
        rw [← HC.out, ← HNB.out.2, ← HNB.out.1, ← HRB.out]
      have ox := T.ox
      rw [hCC] at ox
      clear hCC
      go_upto_region 14 with (fail)
      refine wp_row_out rfl rfl rfl rfl rfl ox Tryz.underlying25 rfl (by kernel_rfl) rfl rfl T.or (by kernel_rfl) rfl (by simp [Value.oneCell']) ?_
      have jR := Just.setRow rb wr #[.int .i64 (n : Int), .slice (some ⟨nb, 0, none⟩) n n, .slice (some ⟨hb, 0, none⟩) 3 3, .int .i64 300, .int .i64 (k6 : Int), .int .i64 (1 + (k2 : Int)), .int .i64 (2 * (n : Int) + (k3 : Int)), .int .i64 (1 + (k4 : Int)), .int .i64 (1 + (k5 : Int))]
      go_wp2_with fail
      refine bodyPost_ret (results_cell_row rfl _ _ rb 25 _ (0, 0) _ rfl (T.or.setRow _) Tryz.underlying25 rfl (by kernel_rfl)) rfl ?_
      have hl := T.lo
      have hk := HK.out
      have hon := jR.own T.on (by omega)
      have hoh := jR.own T.oh (by omega)
      refine ⟨⟨n, some ⟨nb, 0, none⟩, n, n, Z, some ⟨hb, 0, none⟩, [11, 15, 20], 3, 300, k6, 1 + (k2 : Int), 2 * (n : Int) + (k3 : Int), 1 + (k4 : Int), 1 + (k5 : Int)⟩, rfl, ⟨Nat.le_refl _, by unfold maxLen; dsimp only; omega, ?_, ?_, Nat.le_refl 3, by unfold maxLen; dsimp only; omega, ?_, fun e => by cases e⟩, ?_, rfl, ?_, ?_⟩
      · exact Row.own hon (fun i hi => by simp [nrv, hi])
      · exact fun i hi => Nat.lt_of_lt_of_le (T.ok i hi).1 (Nat.le_trans (Nat.pow_le_pow_right (by decide) (show n ≤ 64 by omega)) (by decide))
      · exact Row.own hoh (fun i hi => by rcases (show i = 0 ∨ i = 1 ∨ i = 2 by have : i < 3 := hi; omega) with rfl | rfl | rfl <;> rfl)
      · unfold mayQ nearQ inB
        dsimp only
        rw [Int.toNat_natCast, nrB_yes T.ok]
        have hH : Hp.mayB (fun i => ([11, 15, 20] : List Int).getD i 0) ([11, 15, 20] : List Int).length = true := by decide
        rw [hH]
        simp only [Bool.and_eq_true, decide_eq_true_eq, true_and, and_true]
        omega
      · rw [HRB.out]
        exact jR.below (by rw [← HRB.out]; exact T.bel) (by omega) (by rw [← HRB.out]; exact T.bel.size)
      · obtain ⟨i1, i2, i3, i4, i5, i6, i7⟩ := HA.out
        refine ⟨?_, rfl, i7.symm, ?_, ?_, ?_, ?_⟩
        · show (n : Int) = 2 + umN x0 7
          unfold umN
          rw [i2]
          omega
        · show 1 + (k2 : Int) = 1 + umN x2 30
          unfold umN
          rw [i3]
        · show 2 * (n : Int) + (k3 : Int) = 2 * (n : Int) + umN x3 60
          unfold umN
          rw [i4]
        · show 1 + (k4 : Int) = 1 + umN x4 8
          unfold umN
          rw [i5]
        · show 1 + (k5 : Int) = 1 + umN x5 15
          unfold umN
          rw [i6]
theorem config_any (x0 x1 x2 x3 x4 x5 x6 : Int) (w : World) : Calls Tryz.prog 40 #[.int .i64 x0, .int .i64 x1, .int .i64 x2, .int .i64 x3, .int .i64 x4, .int .i64 x5, .int .i64 x6] w (CfgPost w) :=
  (config_more x0 x1 x2 x3 x4 x5 x6 w).mono (fun _ _ ⟨x, h1, h2, h3, h4, h5, _⟩ => ⟨x, h1, h2, h3, h4, h5⟩)
end Go.Proofs.YtiflmdekcjbmbaaGreat.Nd
set_option maxRecDepth 100000
namespace Go.Proofs.YtiflmdekcjbmbaaGreat.Nd
set_option linter.unusedVariables false
set_option linter.unusedSimpArgs false
open Go.RowKit Lb

theorem slot_nil (asn n : Int) (w : World) : Calls Tryz.prog 17 #[.pointer none, .int .i64 asn, .int .i64 n] w fun r w' => r = .returned (.tuple #[]) ∧ w = w' := by
  go_enter Tryz.func17, Tryz.ntmps17
  go_wp2_with fail
  refine (lives_nil w).mono ?_
  rintro r w' ⟨rfl, rfl⟩
  go_wp2_with fail
  refine bodyPost_ret (results_none rfl _ _ _) rfl ?_
  exact ⟨rfl, rfl⟩
theorem reboot_nil (w : World) : Calls Tryz.prog 30 #[.pointer none] w fun r w' => r = .returned (.tuple #[]) ∧ w = w' := by
  go_enter Tryz.func30, Tryz.ntmps30
  go_wp2_with fail
  refine (lives_nil w).mono ?_
  rintro r w' ⟨rfl, rfl⟩
  go_wp2_with fail
  refine bodyPost_ret (results_none rfl _ _ _) rfl ?_
  exact ⟨rfl, rfl⟩
theorem plan_nil (asn : Int) (w : World) : Calls Tryz.prog 19 #[.pointer none, .int .i64 asn] w fun r w' => r = .returned (.tuple #[.int .i64 (-1), .slice none 0 0]) ∧ w = w' := by
  go_enter Tryz.func19, Tryz.ntmps19
  go_wp2_with fail
  refine (lives_nil w).mono ?_
  rintro r w' ⟨rfl, rfl⟩
  go_wp2_with fail
  go_ret2
  exact ⟨rfl, rfl⟩
theorem hear_nil (asn m : Int) (a : Option Addr) (n c : Nat) (w : World) : Calls Tryz.prog 22 #[.pointer none, .int .i64 asn, .slice a n c, .int .i64 m] w fun r w' => r = .returned (.tuple #[.slice none 0 0, .slice none 0 0]) ∧ w = w' := by
  go_enter Tryz.func22, Tryz.ntmps22
  go_wp2_with fail
  refine (lives_nil w).mono ?_
  rintro r w' ⟨rfl, rfl⟩
  go_wp2_with fail
  go_ret2
  exact ⟨rfl, rfl⟩
theorem ack_nil (asn m : Int) (a : Option Addr) (n c : Nat) (w : World) : Calls Tryz.prog 24 #[.pointer none, .int .i64 asn, .slice a n c, .int .i64 m] w fun r w' => r = .returned (.slice none 0 0) ∧ w = w' := by
  go_enter Tryz.func24, Tryz.ntmps24
  go_wp2_with fail
  refine (synced_nil w).mono ?_
  rintro r w' ⟨rfl, rfl⟩
  go_wp2_with fail
  go_ret
  exact ⟨rfl, rfl⟩
theorem end_nil (asn : Int) (w : World) : Calls Tryz.prog 26 #[.pointer none, .int .i64 asn] w fun r w' => r = .returned (.slice none 0 0) ∧ w = w' := by
  go_enter Tryz.func26, Tryz.ntmps26
  go_wp2_with fail
  refine (synced_nil w).mono ?_
  rintro r w' ⟨rfl, rfl⟩
  go_wp2_with fail
  go_ret
  exact ⟨rfl, rfl⟩
theorem send_nil (asn tt : Int) (a : Option Addr) (n c : Nat) (w : World) : Calls Tryz.prog 28 #[.pointer none, .int .i64 asn, .int .i64 tt, .slice a n c] w fun r w' => r = .returned (.tuple #[.int .i64 0, .int .i64 1]) ∧ w = w' := by
  go_enter Tryz.func28, Tryz.ntmps28
  go_wp2_with fail
  refine (lives_nil w).mono ?_
  rintro r w' ⟨rfl, rfl⟩
  go_wp2_with fail
  go_ret2
  exact ⟨rfl, rfl⟩
theorem beat_any {w : World} {b : Nat} {s : Ns} {h : Hm} (n : Nd w b s h) (asn : Int) : Calls Tryz.prog 128 #[.pointer (some ⟨b, 0, none⟩), .int .i64 asn] w fun r w' => r = .returned (.agg #[.int .i64 1, .int .i64 asn, .int .i64 (rankN s), .int .i64 0, .slice none 0 0]) ∧ Below w.heap.size w w' := by
  have b0 := (Below.refl w.heap.size w).alloc (Nat.le_refl _) (.cells #[.int .i64 0, .int .i64 0, .int .i64 0, .int .i64 0, .slice none 0 0] 59)
  have o0 := Own.new w 59 #[.int .i64 0, .int .i64 0, .int .i64 0, .int .i64 0, .slice none 0 0]
  have PR := rank_any (n.below b0)
  obtain ⟨rk, hrk⟩ : ∃ q, rankN s = q := ⟨_, rfl⟩
  rw [hrk] at PR ⊢
  clear hrk n
  go_enter Tryz.func128, Tryz.ntmps128
  go_upto_region 1 with (fail)
  obtain ⟨xb, hxb⟩ : ∃ q, w.heap.size = q := ⟨_, rfl⟩
  have HB := Lib.hid b0
  have HXB := Lib.hid hxb
  rw [hxb] at o0 ⊢
  clear b0 hxb
  generalize w.alloc (.cells #[.int .i64 0, .int .i64 0, .int .i64 0, .int .i64 0, .slice none 0 0] 59) = wx at *
  go_wp2_with fail
  refine PR.mono ?_
  rintro r w' ⟨rfl, rfl⟩
  clear PR
  go_wp2_with (refine wpList_store_row rfl _ _ _ rfl xb #[.int .i64 1, .int .i64 asn, .int .i64 rk, .int .i64 0, .slice none 0 0] rfl rfl 59 _ o0 (by kernel_rfl) rfl (by simp [Value.oneCell']) ?_)
  have jR := Just.setRow xb wx #[.int .i64 1, .int .i64 asn, .int .i64 rk, .int .i64 0, .slice none 0 0]
  refine bodyPost_ret (results_cell_row rfl _ _ xb 59 _ (0, 0) _ rfl (o0.setRow _) Tryz.underlying59 rfl (by kernel_rfl)) rfl ?_
  exact ⟨rfl, jR.below HB.out (by rw [HXB.out]; exact Nat.le_refl _) (by have := HB.out.size; omega)⟩
end Go.Proofs.YtiflmdekcjbmbaaGreat.Nd
set_option maxRecDepth 100000
namespace Go.Proofs.YtiflmdekcjbmbaaGreat.Nd
set_option linter.unusedVariables false
set_option linter.unusedSimpArgs false
open Go.RowKit Lb Ie Fm

theorem errR {R : List Int} {e : Int} (h : decR R = .error e) : e = 2 ∨ e = 3 := by
  unfold decR at h
  match R, h with
  | m :: k :: s :: d :: q :: ne :: R6, h =>
    simp only at h
    split at h
    · injection h with h; exact .inr h.symm
    · cases hR : R6.drop ne.toNat with
      | nil => rw [hR] at h; injection h with h; exact .inr h.symm
      | cons nd R8 =>
        rw [hR] at h
        simp only at h
        split at h
        · injection h with h; exact .inr h.symm
        · split at h
          · injection h with h; exact .inr h.symm
          · cases hI : decI (R6.take ne.toNat) with
            | error x =>
              rw [hI] at h
              simp only at h
              injection h with h
              subst h
              exact decI_errs hI
            | ok l =>
              rw [hI] at h
              simp only at h
              split at h
              · cases h
              · injection h with h; exact .inr h.symm
  | [], h => injection h with h; exact .inr h.symm
  | [_], h => injection h with h; exact .inr h.symm
  | [_, _], h => injection h with h; exact .inr h.symm
  | [_, _, _], h => injection h with h; exact .inr h.symm
  | [_, _, _, _], h => injection h with h; exact .inr h.symm
  | [_, _, _, _, _], h => injection h with h; exact .inr h.symm
theorem errF {L : List Int} {e : Int} (h : decF L = .error e) : e ≠ 0 := by
  unfold decF at h
  split at h
  · injection h with h; omega
  · split at h
    · injection h with h; omega
    · have := errR h; omega
/-- What is decoded may be. -/
theorem decF_may {L : List Int} {f : Fr} (h : decF L = .ok f) : mayF f = true := by
  unfold decF at h
  split at h
  · cases h
  · split at h
    · cases h
    · unfold decR at h
      split at h
      · split at h
        · cases h
        · split at h
          · cases h
          · split at h
            · cases h
            · split at h
              · cases h
              · split at h
                · cases h
                · split at h
                  · rename_i hm
                    injection h with h
                    rw [← h]
                    exact hm
                  · cases h
      · cases h
theorem listsF {p : Fp} (h : mayF p.fr = true) : ∀ k, k < p.L.length → (p.L.getD k ep0).e.list.length ≤ 1000000 := fun k hk => by
  have hm := (mayF_out h).2.2.2.1
  unfold mayL at hm
  rw [Bool.and_eq_true, List.all_eq_true] at hm
  have h1 := hm.2 _ (List.getElem_mem (by show k < (els p.L).length; rw [els_len]; exact hk : k < p.fr.ies.length))
  have h2 : p.fr.ies[k]'(by show k < (els p.L).length; rw [els_len]; exact hk) = (p.L.getD k ep0).e := els_at hk rfl
  rw [h2] at h1
  exact may_small h1
/-- An event, without a packet. -/
def ev1 (k i x : Int) : Array Value := #[.int .i64 k, .int .i64 i, .int .i64 x, .int .i64 0, .int .i64 0, .int .i64 0, .int .i64 0, .int .i64 0, .slice none 0 0, .slice none 0 0]
theorem event_any {w : World} {b : Nat} {s : Ns} {h : Hm} (n : Nd w b s h) (k x : Int) : Calls Tryz.prog 75 #[.pointer (some ⟨b, 0, none⟩), .int .i64 k, .int .i64 x] w fun r w' => r = .returned (.agg (ev1 k s.id x)) ∧ Below w.heap.size w w' := by
  have b0 := (Below.refl w.heap.size w).alloc (Nat.le_refl _) (.cells #[.int .i64 0, .int .i64 0, .int .i64 0, .int .i64 0, .int .i64 0, .int .i64 0, .int .i64 0, .int .i64 0, .slice none 0 0, .slice none 0 0] 72)
  have o0 := Own.new w 72 #[.int .i64 0, .int .i64 0, .int .i64 0, .int .i64 0, .int .i64 0, .int .i64 0, .int .i64 0, .int .i64 0, .slice none 0 0, .slice none 0 0]
  have c := (n.below b0).c_id
  clear n
  go_enter Tryz.func75, Tryz.ntmps75
  go_upto_region 1 with (fail)
  obtain ⟨xb, hxb⟩ : ∃ q, w.heap.size = q := ⟨_, rfl⟩
  have HB := Lib.hid b0
  have HXB := Lib.hid hxb
  rw [hxb] at o0 ⊢
  clear b0 hxb
  generalize w.alloc (.cells #[.int .i64 0, .int .i64 0, .int .i64 0, .int .i64 0, .int .i64 0, .int .i64 0, .int .i64 0, .int .i64 0, .slice none 0 0, .slice none 0 0] 72) = wx at *
  go_wp2_with (refine wpList_store_row rfl _ _ _ rfl xb #[.int .i64 k, .int .i64 s.id, .int .i64 x, .int .i64 0, .int .i64 0, .int .i64 0, .int .i64 0, .int .i64 0, .slice none 0 0, .slice none 0 0] rfl rfl 72 _ o0 (by kernel_rfl) rfl (by simp [Value.oneCell']) ?_)
  have jR := Just.setRow xb wx #[.int .i64 k, .int .i64 s.id, .int .i64 x, .int .i64 0, .int .i64 0, .int .i64 0, .int .i64 0, .int .i64 0, .slice none 0 0, .slice none 0 0]
  refine bodyPost_ret (results_cell_row rfl _ _ xb 72 _ (0, 0) _ rfl (o0.setRow _) Tryz.underlying72 rfl (by kernel_rfl)) rfl ?_
  exact ⟨rfl, jR.below HB.out (by rw [HXB.out]; exact Nat.le_refl _) (by have := HB.out.size; omega)⟩
/-- What a frame of bytes says to it in a slot: the frame, and the rank of whose it is. -/
def readN (s : Ns) (asn : Int) (L : List Int) : Option (Fr × Int) :=
  if asnB asn then match decF L with
    | .error _ => none
    | .ok f => if inB f.s 0 (s.c.nodes - 1) && f.s != s.id then match fstE f.ies 1 with
        | none => none
        | some e => if e.asn = asn then some (f, e.rank) else none
      else none
  else none
theorem readN_out {s : Ns} {asn : Int} {L : List Int} {f : Fr} {rk : Int} (h : readN s asn L = some (f, rk)) : (0 ≤ asn ∧ asn < 1099511627776) ∧ decF L = .ok f ∧ (0 ≤ f.s ∧ f.s < s.c.nodes) ∧ f.s ≠ s.id ∧ ∃ e, fstE f.ies 1 = some e ∧ e.rank = rk ∧ e.asn = asn := by
  unfold readN at h
  split at h
  · rename_i ha
    unfold asnB at ha
    rw [decide_eq_true_eq] at ha
    cases hd : decF L with
    | error e => rw [hd] at h; cases h
    | ok g =>
      rw [hd] at h
      simp only at h
      split at h
      · rename_i hi
        rw [Bool.and_eq_true] at hi
        obtain ⟨h1, h2⟩ := hi
        unfold inB at h1
        rw [decide_eq_true_eq] at h1
        have h2 : g.s ≠ s.id := by simpa using h2
        cases he : fstE g.ies 1 with
        | none => rw [he] at h; cases h
        | some e =>
          rw [he] at h
          simp only at h
          split at h
          · rename_i h3
            injection h with h
            injection h with h4 h5
            subst h4
            exact ⟨ha, rfl, ⟨h1.1, by omega⟩, h2, e, he, h5, h3⟩
          · cases h
      · cases h
  · cases h
/-- The rank is one. -/
theorem readN_rank {s : Ns} {asn : Int} {L : List Int} {f : Fr} {rk : Int} (h : readN s asn L = some (f, rk)) : 0 ≤ rk ∧ rk ≤ 255 := by
  obtain ⟨_, hd, _, _, e, he, hr, _⟩ := readN_out h
  have hm := (mayF_out (decF_may hd)).2.2.2.1
  unfold mayL at hm
  rw [Bool.and_eq_true, List.all_eq_true] at hm
  unfold fstE at he
  have hk := List.find?_some he
  have h1 := hm.2 e (List.mem_of_find?_eq_some he)
  obtain ⟨k, a, r, t, l⟩ := e
  have hk : k = 1 := by simpa using hk
  subst hk
  rw [may1] at h1
  simp only [Bool.and_eq_true, decide_eq_true_eq] at h1
  have hr : r = rk := hr
  omega
def ReadPost (s : Ns) (asn : Int) (L : List Int) (w : World) (r : Ending) (w' : World) : Prop :=
  Below w.heap.size w w' ∧ match readN s asn L with
    | some (f, rk) => ∃ p : Fp, p.fr = f ∧ r = .returned (.tuple #[.agg p.vals, .int .i64 rk, .bool true]) ∧ p.At w' ∧ p.Low w.heap.size
    | none => r = .returned (.tuple #[.agg zF.vals, .int .i64 0, .bool false])
theorem builtF : Tryz.prog.built 37 [] = some (zF.vals) := by kernel_rfl
theorem zFv : zF.vals = #[.int .i64 0, .int .i64 0, .int .i64 0, .int .i64 0, .slice none 0 0, .slice none 0 0] := rfl
theorem zF1 : (zF.vals).all (·.oneCell') = true := by simp [zF, Fp.vals, Value.oneCell']
theorem els1 (p : Fp) : (p.vals).all (·.oneCell') = true := by
  obtain ⟨k, s, d, q, L, a, c, data, b, e⟩ := p
  simp [Fp.vals, Value.oneCell']
theorem isNone_read {s : Ns} {asn : Int} {L : List Int} {f : Fr} (ha : asnB asn = true) (hd : decF L = .ok f) (h : (inB f.s 0 (s.c.nodes - 1) && f.s != s.id) = false) : readN s asn L = none := by
  unfold readN
  rw [if_pos ha, hd]
  simp only [h]
  rfl
theorem isNone_find {s : Ns} {asn : Int} {L : List Int} {f : Fr} (ha : asnB asn = true) (hd : decF L = .ok f) (h : (fstE f.ies 1).isSome = false) : readN s asn L = none := by
  unfold readN
  rw [if_pos ha, hd]
  simp only
  split
  · cases he : fstE f.ies 1 with
    | none => rfl
    | some e => rw [he] at h; cases h
  · rfl
theorem isNone_asn {s : Ns} {asn : Int} {L : List Int} {f : Fr} {e : El} (ha : asnB asn = true) (hd : decF L = .ok f) (he : fstE f.ies 1 = some e) (h : e.asn ≠ asn) : readN s asn L = none := by
  unfold readN
  rw [if_pos ha, hd]
  simp only
  split
  · rw [he]
    simp only
    rw [if_neg h]
  · rfl
theorem isSome_read {s : Ns} {asn : Int} {L : List Int} {f : Fr} {e : El} (ha : asnB asn = true) (hd : decF L = .ok f) (h : (inB f.s 0 (s.c.nodes - 1) && f.s != s.id) = true) (he : fstE f.ies 1 = some e) (h2 : e.asn = asn) : readN s asn L = some (f, e.rank) := by
  unfold readN
  rw [if_pos ha, hd]
  simp only [h]
  rw [he]
  simp only [if_pos h2, if_true]
set_option maxHeartbeats 4000000 in
theorem read_any {w : World} {b : Nat} {s : Ns} {h : Hm} (n : Nd w b s h) (hn : 0 ≤ s.c.nodes ∧ s.c.nodes ≤ 1000) (asn : Int) (a : Option Addr) (c : Nat) (L : List Int) (hlc : L.length ≤ c) (hcm : c ≤ maxLen) (h5 : L.length ≤ 100000) (hR : Row w a L.length (bval L)) (hd : okD' L) :
    Calls Tryz.prog 73 #[.pointer (some ⟨b, 0, none⟩), .int .i64 asn, .slice a L.length c] w (ReadPost s asn L w) := by
  have b0 := (Below.refl w.heap.size w).alloc (Nat.le_refl _) (.cells #[.int .i64 0, .int .i64 0, .int .i64 0, .int .i64 0, .slice none 0 0, .slice none 0 0] 37)
  have o0 := Own.new w 37 #[.int .i64 0, .int .i64 0, .int .i64 0, .int .i64 0, .slice none 0 0, .slice none 0 0]
  have n0 := n.below b0
  have R0 := hR.below b0
  have PA := isASN_any asn
  have PD := decF_new a c L _ hlc hcm h5 R0 hd
  obtain ⟨nl, hnl⟩ : ∃ q, L.length = q := ⟨_, rfl⟩
  rw [hnl] at PD hlc h5 hR R0 ⊢
  clear n hlc hcm h5 hR R0 hnl
  go_enter Tryz.func73, Tryz.ntmps73
  go_upto_region 1 with (fail)
  have hsz : w.heap.size < (w.alloc (.cells #[.int .i64 0, .int .i64 0, .int .i64 0, .int .i64 0, .slice none 0 0, .slice none 0 0] 37)).heap.size := by simp
  obtain ⟨xb, hxb⟩ : ∃ q, w.heap.size = q := ⟨_, rfl⟩
  have HB := Lib.hid b0
  have HXB := Lib.hid hxb
  rw [hxb] at o0 hsz ⊢
  clear b0 hxb
  generalize w.alloc (.cells #[.int .i64 0, .int .i64 0, .int .i64 0, .int .i64 0, .slice none 0 0, .slice none 0 0] 37) = w0 at *
  go_wp2_with fail
  refine (PA _).mono ?_
  rintro r w' ⟨rfl, rfl⟩
  clear PA
  cases ha : asnB asn
  · have HN : Hid (readN s asn L = none) := Lib.hid (by unfold readN; rw [ha]; rfl)
    clear n0 PD hd ha
    go_wp2_with (refine wpList_build_store (zF.vals) rfl rfl rfl rfl builtF rfl rfl o0 (by kernel_rfl) rfl zF1 ?_)
    refine bodyPost_ret (results_row_tmp2 rfl _ _ xb 37 _ (0, 0) _ rfl (o0.setRow _) Tryz.underlying37 rfl (by kernel_rfl)) rfl ?_
    unfold ReadPost
    rw [HN.out]
    exact ⟨(Just.setRow _ _ _).below HB.out (by rw [HXB.out]; exact Nat.le_refl _) (by rw [HXB.out]; omega), rfl⟩
  have HA := Lib.hid ha
  clear ha
  go_wp2_with fail
  refine PD.mono ?_
  rintro r w1 hP
  clear PD
  unfold DecFNew at hP
  cases he : decF L with
  | error e =>
    rw [he] at hP
    obtain ⟨rfl, b1⟩ := hP
    have g1 : (e != 0) = true := by simpa using errF he
    rw [zFv]
    have HN : Hid (readN s asn L = none) := Lib.hid (by unfold readN; rw [if_pos HA.out, he])
    have o1 := below_own b1 o0 o0.lt
    have b2 := (Below.refl w1.heap.size w1).alloc (Nat.le_refl _) (.cells #[.int .i64 0, .int .i64 0, .int .i64 0, .int .i64 0, .slice none 0 0, .slice none 0 0] 37)
    have o2 := below_own b2 o1 o1.lt
    have bb2 : Below xb w (w1.alloc (.cells #[.int .i64 0, .int .i64 0, .int .i64 0, .int .i64 0, .slice none 0 0, .slice none 0 0] 37)) := by
      rw [← HXB.out]
      exact (HB.out.trans (b1.mono (by rw [HXB.out]; omega))).trans (b2.mono (by have := b1.size; rw [HXB.out]; omega))
    have hs2 : xb < (w1.alloc (.cells #[.int .i64 0, .int .i64 0, .int .i64 0, .int .i64 0, .slice none 0 0, .slice none 0 0] 37)).heap.size := o2.lt
    clear n0 hd he o0 o1 b1 b2
    go_upto_region 4 with (fail)
    generalize w1.alloc (.cells #[.int .i64 0, .int .i64 0, .int .i64 0, .int .i64 0, .slice none 0 0, .slice none 0 0] 37) = w2 at *
    go_quiet (fail)
    have o3 := o2.drewN nq
    have b3 := below_drewN bb2 nq
    generalize w2.drewN nq = w3 at *
    go_wp2_with (refine wpList_build_store (zF.vals) rfl rfl rfl rfl builtF rfl rfl o3 (by kernel_rfl) rfl zF1 ?_)
    refine bodyPost_ret (results_row_tmp2 rfl _ _ xb 37 _ (0, 0) _ rfl (o3.setRow _) Tryz.underlying37 rfl (by kernel_rfl)) rfl ?_
    unfold ReadPost
    rw [HN.out]
    have J := (Just.setRow xb w3 (zF.vals)).below b3 (Nat.le_refl _) (by have := b3.size; have := HXB.out; omega)
    exact ⟨by rw [HXB.out]; exact J, rfl⟩
  | ok f =>
    rw [he] at hP
    obtain ⟨p, hpf, rfl, hat, hlow, b1⟩ := hP
    have hm := decF_may he
    have hL := listsF (p := p) (by rw [hpf]; exact hm)
    have hsr := (mayF_out hm).1
    obtain ⟨pk, ps, pd, pq, pL, pa, pc, pdata, pb, pe⟩ := p
    have hps : ps = f.s := congrArg Fr.s hpf
    have hies : els pL = f.ies := congrArg Fr.ies hpf
    have HAT := Lib.hid hat
    have HPF := Lib.hid hpf
    have HEE := Lib.hid he
    simp only [Fp.vals]
    have HEL := Lib.hid hat.els
    have HLL := Lib.hid hL
    have h1 : Hid (Els w1 pL pa pc) := Lib.hid hat.els
    obtain ⟨ll, hll⟩ : ∃ q, pL.length = q := ⟨_, rfl⟩
    obtain ⟨dl, hdl⟩ : ∃ q, pdata.length = q := ⟨_, rfl⟩
    rw [hll, hdl]
    have b2 := (Below.refl w1.heap.size w1).alloc (Nat.le_refl _) (.cells #[.int .i64 pk, .int .i64 ps, .int .i64 pd, .int .i64 pq, .slice pa ll pc, .slice pb dl pe] 37)
    have o2 := Own.new w1 37 #[.int .i64 pk, .int .i64 ps, .int .i64 pd, .int .i64 pq, .slice pa ll pc, .slice pb dl pe]
    have o1 := below_own b1 o0 o0.lt
    have oX := below_own b2 o1 o1.lt
    have bb2 : Below xb w (w1.alloc (.cells #[.int .i64 pk, .int .i64 ps, .int .i64 pd, .int .i64 pq, .slice pa ll pc, .slice pb dl pe] 37)) := by
      rw [← HXB.out]
      exact (HB.out.trans (b1.mono (by rw [HXB.out]; omega))).trans (b2.mono (by have := b1.size; rw [HXB.out]; omega))
    have bb2' : Below w0.heap.size w0 (w1.alloc (.cells #[.int .i64 pk, .int .i64 ps, .int .i64 pd, .int .i64 pq, .slice pa ll pc, .slice pb dl pe] 37)) := b1.trans (b2.mono b1.size)
    have HA2 : Hid (Els (w1.alloc (.cells #[.int .i64 pk, .int .i64 ps, .int .i64 pd, .int .i64 pq, .slice pa ll pc, .slice pb dl pe] 37)) pL pa pc) := Lib.hid (hat.els.below b2)
    have HAT2 : Hid (Fp.At (w1.alloc (.cells #[.int .i64 pk, .int .i64 ps, .int .i64 pd, .int .i64 pq, .slice pa ll pc, .slice pb dl pe] 37)) ⟨pk, ps, pd, pq, pL, pa, pc, pdata, pb, pe⟩) := Lib.hid (hat.below b2)
    have hs1 := b1.size
    have HLOW := Lib.hid hlow
    have HSZ := Lib.hid hsz
    have HLLL := Lib.hid (And.intro hll hdl)
    have HIES := Lib.hid hies
    have HPS := Lib.hid hps
    clear hat hm hL h1 HEL HAT o0 o1 b2 b1 hlow hies hll hdl hpf he hps
    go_upto_region 4 with (fail)
    have hgt : xb < w1.heap.size := Nat.lt_of_lt_of_le hsz hs1
    obtain ⟨tb, htb⟩ : ∃ q, w1.heap.size = q := ⟨_, rfl⟩
    rw [htb] at o2 hgt ⊢
    generalize w1.alloc (.cells #[.int .i64 pk, .int .i64 ps, .int .i64 pd, .int .i64 pq, .slice pa ll pc, .slice pb dl pe] 37) = w2 at *
    clear htb hs1
    clear w1
    have n2 := n0.below bb2'
    have HN2 := Lib.hid n2
    have c0 : ∀ m, (w2.drewN m).cell? ⟨b, 0, none⟩ = some (.int .i64 s.id) := fun m => n2.c_id
    have d1 : ∀ m, (w2.drewN m).cell? ⟨tb, 1, none⟩ = some (.int .i64 ps) := fun m => o2.cell 1
    have c0' : w2.cell? ⟨b, 0, none⟩ = some (.int .i64 s.id) := n2.c_id
    have d1' : w2.cell? ⟨tb, 1, none⟩ = some (.int .i64 ps) := o2.cell 1
    obtain ⟨kb, hkb⟩ : ∃ q, inB ps 0 (s.c.nodes - 1) = q := ⟨_, rfl⟩
    have KN : Hid (∀ m, Calls Tryz.prog 102 #[.pointer (some ⟨b, 0, none⟩), .int .i64 ps] (w2.drewN m) fun r w' => r = .returned (.bool kb) ∧ w2.drewN m = w') := Lib.hid (fun m => by
      rw [← hkb]
      exact knows_any (n2.below (below_drewN (Below.refl _ _) m)) ps hn)
    have HKB := Lib.hid hkb
    obtain ⟨si, hsi⟩ : ∃ q, s.id = q := ⟨_, rfl⟩
    rw [hsi] at c0 c0'
    have HSI := Lib.hid hsi
    clear hkb hsi n0 n2 bb2'
    by_cases hq : (kb && ps != si) = true
    rotate_left 1
    · have HN : Hid (readN s asn L = none) := Lib.hid (isNone_read HA.out HEE.out (by rw [← HPS.out, HKB.out, HSI.out]; simpa using hq))
      have hcase : kb = false ∨ (kb = true ∧ (ps == si) = true) := by
        cases kb
        · exact .inl rfl
        · refine .inr ⟨rfl, ?_⟩
          simpa using hq
      clear hq
      rcases hcase with rfl | ⟨rfl, g2⟩
      all_goals
        go_quiet (first | (go_at_call 102; exact quiet_left (KN.out _)))
        have o3 := oX.drewN nq
        have b3 := below_drewN bb2 nq
        generalize w2.drewN nq = w3 at *
        go_wp2_with (refine wpList_build_store (zF.vals) rfl rfl rfl rfl builtF rfl rfl o3 (by kernel_rfl) rfl zF1 ?_)
        refine bodyPost_ret (results_row_tmp2 rfl _ _ xb 37 _ (0, 0) _ rfl (o3.setRow _) Tryz.underlying37 rfl (by kernel_rfl)) rfl ?_
        unfold ReadPost
        rw [HN.out]
        have J := (Just.setRow xb w3 (zF.vals)).below b3 (Nat.le_refl _) (by have := b3.size; have := HXB.out; omega)
        exact ⟨by rw [HXB.out]; exact J, rfl⟩
    have HQ : Hid ((inB f.s 0 (s.c.nodes - 1) && f.s != s.id) = true) := Lib.hid (by rw [← HPS.out, HKB.out, HSI.out]; exact hq)
    obtain ⟨rfl, g2⟩ : kb = true ∧ (ps == si) = false := by
      cases kb
      · cases hq
      · exact ⟨rfl, by simpa using hq⟩
    clear hq
    go_quiet (first | (go_at_call 102; exact quiet_left (KN.out _)))
    have o3 := o2.drewN nq
    have oX3 := oX.drewN nq
    have b3 := below_drewN bb2 nq
    have HE3 : Hid (Els (w2.drewN nq) pL pa pc) := Lib.hid (HA2.out.below (below_drewN (Below.refl _ _) nq))
    have HAT3 : Hid (Fp.At (w2.drewN nq) ⟨pk, ps, pd, pq, pL, pa, pc, pdata, pb, pe⟩) := Lib.hid (HAT2.out.below (below_drewN (Below.refl _ _) nq))
    clear o2 oX bb2 HA2 HAT2 c0 d1 c0' d1' KN g2
    generalize w2.drewN nq = w3 at *
    have c4 : w3.cell? ⟨tb, 4, none⟩ = some (.slice pa ll pc) := o3.cell 4
    have PF := find_any pL pa pc 1 w3 HE3.out HLL.out
    rw [HIES.out, HLLL.out.1] at PF
    go_wp2_with fail
    refine PF.mono ?_
    rintro r w4 ⟨fa, fc, rfl, hfe, b4⟩
    clear PF c4 hfe
    obtain ⟨fs, hfs⟩ : ∃ q, fstE f.ies 1 = q := ⟨_, rfl⟩
    have HFS := Lib.hid hfs
    obtain ⟨fe, hfo⟩ : ∃ q, foundE f.ies 1 = q := ⟨_, rfl⟩
    have HFO : Hid (fe = fs.getD ⟨0, 0, 0, 0, []⟩) := Lib.hid (by rw [← hfo, ← hfs]; rfl)
    rw [hfs, hfo]
    clear hfs hfo
    obtain ⟨ek, ea, er, et, el⟩ := fe
    simp only [El.vals]
    obtain ⟨en, hen⟩ : ∃ q, el.length = q := ⟨_, rfl⟩
    rw [hen]
    clear hen
    have o4 := below_own b4 o3 o3.lt
    have oX4 := below_own b4 oX3 oX3.lt
    have b5 := (Below.refl w4.heap.size w4).alloc (Nat.le_refl _) (.cells #[.int .i64 ek, .int .i64 ea, .int .i64 er, .int .i64 et, .slice fa en fc] 59)
    have o5 := Own.new w4 59 #[.int .i64 ek, .int .i64 ea, .int .i64 er, .int .i64 et, .slice fa en fc]
    have o5t := below_own b5 o4 o4.lt
    have o5X := below_own b5 oX4 oX4.lt
    have bb5 : Below xb w (w4.alloc (.cells #[.int .i64 ek, .int .i64 ea, .int .i64 er, .int .i64 et, .slice fa en fc] 59)) := (b3.trans (b4.mono (by have := b3.size; have := HXB.out; omega))).trans (b5.mono (by have := b4.size; have := b3.size; have := HXB.out; omega))
    have HAT5 : Hid (Fp.At (w4.alloc (.cells #[.int .i64 ek, .int .i64 ea, .int .i64 er, .int .i64 et, .slice fa en fc] 59)) ⟨pk, ps, pd, pq, pL, pa, pc, pdata, pb, pe⟩) := Lib.hid ((HAT3.out.below b4).below b5)
    clear o3 oX3 b3 o4 oX4 b5 b4 HAT3 HE3
    go_upto_region 7 with (fail)
    obtain ⟨gb, hgb⟩ : ∃ q, w4.heap.size = q := ⟨_, rfl⟩
    rw [hgb] at o5 ⊢
    generalize w4.alloc (.cells #[.int .i64 ek, .int .i64 ea, .int .i64 er, .int .i64 et, .slice fa en fc] 59) = w5 at *
    clear hgb
    clear w4
    have c1 : w5.cell? ⟨gb, 1, none⟩ = some (.int .i64 ea) := o5.cell 1
    cases fs with
    | none =>
      have HN : Hid (readN s asn L = none) := Lib.hid (isNone_find HA.out HEE.out (by rw [HFS.out]; rfl))
      simp only [Option.isSome_none]
      go_wp2_with (refine wpList_build_store (zF.vals) rfl rfl rfl rfl builtF rfl rfl o5X (by kernel_rfl) rfl zF1 ?_)
      refine bodyPost_ret (results_row_tmp2 rfl _ _ xb 37 _ (0, 0) _ rfl (o5X.setRow _) Tryz.underlying37 rfl (by kernel_rfl)) rfl ?_
      unfold ReadPost
      rw [HN.out]
      have J := (Just.setRow xb w5 (zF.vals)).below bb5 (Nat.le_refl _) (by have := bb5.size; have := HXB.out; omega)
      exact ⟨by rw [HXB.out]; exact J, rfl⟩
    | some e =>
      have HFE : Hid (e = ⟨ek, ea, er, et, el⟩) := Lib.hid HFO.out.symm
      simp only [Option.isSome_some]
      by_cases hasn : ea = asn
      rotate_left 1
      · have HN : Hid (readN s asn L = none) := Lib.hid (isNone_asn HA.out HEE.out HFS.out (by rw [HFE.out]; exact hasn))
        have g5 : (ea != asn) = true := by simpa using hasn
        clear hasn
        go_wp2_with (refine wpList_build_store (zF.vals) rfl rfl rfl rfl builtF rfl rfl o5X (by kernel_rfl) rfl zF1 ?_)
        refine bodyPost_ret (results_row_tmp2 rfl _ _ xb 37 _ (0, 0) _ rfl (o5X.setRow _) Tryz.underlying37 rfl (by kernel_rfl)) rfl ?_
        unfold ReadPost
        rw [HN.out]
        have J := (Just.setRow xb w5 (zF.vals)).below bb5 (Nat.le_refl _) (by have := bb5.size; have := HXB.out; omega)
        exact ⟨by rw [HXB.out]; exact J, rfl⟩
      · have HN : Hid (readN s asn L = some (f, er)) := Lib.hid (by
          have := isSome_read HA.out HEE.out HQ.out HFS.out (by rw [HFE.out]; exact hasn)
          rw [this, HFE.out])
        have g5 : (ea != asn) = false := by simpa using hasn
        clear hasn
        go_upto_region 9 with (fail)
        have c2 : w5.cell? ⟨gb, 2, none⟩ = some (.int .i64 er) := o5.cell 2
        have t0 : w5.cell? ⟨tb, 0, none⟩ = some (.int .i64 pk) := o5t.cell 0
        have t1 : w5.cell? ⟨tb, 1, none⟩ = some (.int .i64 ps) := o5t.cell 1
        have t2 : w5.cell? ⟨tb, 2, none⟩ = some (.int .i64 pd) := o5t.cell 2
        have t3 : w5.cell? ⟨tb, 3, none⟩ = some (.int .i64 pq) := o5t.cell 3
        have t4 : w5.cell? ⟨tb, 4, none⟩ = some (.slice pa ll pc) := o5t.cell 4
        have t5 : w5.cell? ⟨tb, 5, none⟩ = some (.slice pb dl pe) := o5t.cell 5
        have y0 : w5.cell? ⟨xb, 0, none⟩ = some (.int .i64 0) := o5X.cell 0
        have y1 : w5.cell? ⟨xb, 1, none⟩ = some (.int .i64 0) := o5X.cell 1
        have y2 : w5.cell? ⟨xb, 2, none⟩ = some (.int .i64 0) := o5X.cell 2
        have y3 : w5.cell? ⟨xb, 3, none⟩ = some (.int .i64 0) := o5X.cell 3
        have y4 : w5.cell? ⟨xb, 4, none⟩ = some (.slice none 0 0) := o5X.cell 4
        have y5 : w5.cell? ⟨xb, 5, none⟩ = some (.slice none 0 0) := o5X.cell 5
        have z0 : w5.frozen? ⟨xb, 0, none⟩ = false := o5X.free 0
        have z1 : w5.frozen? ⟨xb, 1, none⟩ = false := o5X.free 1
        have z2 : w5.frozen? ⟨xb, 2, none⟩ = false := o5X.free 2
        have z3 : w5.frozen? ⟨xb, 3, none⟩ = false := o5X.free 3
        have z4 : w5.frozen? ⟨xb, 4, none⟩ = false := o5X.free 4
        have z5 : w5.frozen? ⟨xb, 5, none⟩ = false := o5X.free 5
        have hgx : ¬ gb = xb := by
          intro e
          have := own_tid (e ▸ o5) o5X
          revert this
          decide
        have hxt : ¬ xb = tb := by omega
        have htx : ¬ tb = xb := by omega
        have hxg : ¬ xb = gb := fun e => hgx e.symm
        clear c1 g5
        go_region
        clear t0 t1 t2 t3 t4 t5 y0 y1 y2 y3 y4 y5 z0 z1 z2 z3 z4 z5 c2
        have J : Just xb w5 ((((((w5.setCell ⟨xb, 0, none⟩ (.int .i64 pk)).setCell ⟨xb, 1, none⟩ (.int .i64 ps)).setCell ⟨xb, 2, none⟩ (.int .i64 pd)).setCell ⟨xb, 3, none⟩ (.int .i64 pq)).setCell ⟨xb, 4, none⟩ (.slice pa ll pc)).setCell ⟨xb, 5, none⟩ (.slice pb dl pe)) := ((((((Just.refl xb w5).put 0 _).put 1 _).put 2 _).put 3 _).put 4 _).put 5 _
        have o7 : Own ((((((w5.setCell ⟨xb, 0, none⟩ (.int .i64 pk)).setCell ⟨xb, 1, none⟩ (.int .i64 ps)).setCell ⟨xb, 2, none⟩ (.int .i64 pd)).setCell ⟨xb, 3, none⟩ (.int .i64 pq)).setCell ⟨xb, 4, none⟩ (.slice pa ll pc)).setCell ⟨xb, 5, none⟩ (.slice pb dl pe)) xb 37 #[.int .i64 pk, .int .i64 ps, .int .i64 pd, .int .i64 pq, .slice pa ll pc, .slice pb dl pe] := (((((o5X.put 0 _).put 1 _).put 2 _).put 3 _).put 4 _).put 5 _
        have HR := Lib.hid (HAT5.out.apart HLOW.out HSZ.out J)
        have HB7 := Lib.hid (J.below bb5 (Nat.le_refl _) (by have := bb5.size; have := HXB.out; omega))
        clear J
        generalize ((((((w5.setCell ⟨xb, 0, none⟩ (.int .i64 pk)).setCell ⟨xb, 1, none⟩ (.int .i64 ps)).setCell ⟨xb, 2, none⟩ (.int .i64 pd)).setCell ⟨xb, 3, none⟩ (.int .i64 pq)).setCell ⟨xb, 4, none⟩ (.slice pa ll pc)).setCell ⟨xb, 5, none⟩ (.slice pb dl pe)) = w7 at *
        clear o5X o5 o5t bb5 HAT5
        clear w5
        go_wp2_with fail
        refine bodyPost_ret (results_row_tmp2 rfl _ _ xb 37 #[.int .i64 pk, .int .i64 ps, .int .i64 pd, .int .i64 pq, .slice pa ll pc, .slice pb dl pe] (0, 0) _ rfl o7 Tryz.underlying37 rfl (by kernel_rfl)) rfl ?_
        unfold ReadPost
        rw [HN.out]
        refine ⟨by rw [HXB.out]; exact below_drewN HB7.out 1, ⟨pk, ps, pd, pq, pL, pa, pc, pdata, pb, pe⟩, HPF.out, ?_, HR.out.below (below_drewN (Below.refl _ _) 1), ?_⟩
        · simp only [Fp.vals, HLLL.out.1, HLLL.out.2]
          rfl
        · have hl := HLOW.out
          have hz := HSZ.out
          rw [HXB.out]
          exact ⟨fun q e => by have := hl.la q e; omega, fun k hk q e1 e2 => by have := hl.le k hk q e1 e2; omega, fun q e => by have := hl.lb q e; omega⟩
end Go.Proofs.YtiflmdekcjbmbaaGreat.Nd
