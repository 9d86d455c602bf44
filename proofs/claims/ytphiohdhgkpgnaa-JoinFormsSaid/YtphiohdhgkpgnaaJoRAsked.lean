/-
  The reference of joining (chapter 18): Asked.
-/
import Derived.Test.YtphiohdhgkpgnaaJoRRd
import Derived.Deep.RegionHeld3
set_option maxRecDepth 100000
namespace Go.Proofs.Ytphiohdhgkpgnaa.Jo
set_option linter.unusedVariables false
open Go.RowKit Lb Go.Shelf Bf Se Cl

set_option maxHeartbeats 4000000 in
theorem rasked_any (a : Option Addr) (c : Nat) (l : List Int) (w : World) (hl : l.length ≤ 1000) (hR : Bs w a c l) (hB : okB l) :
    Calls Try.prog 15 #[.slice a l.length c] w fun r w' => r = .returned (.tuple #[.agg (askR l).vals, .int .i64 (askE l)]) ∧ Below w.heap.size w w' := by
  have ba := (Below.refl w.heap.size w).alloc (Nat.le_refl _) (.cells #[.int .i64 0, .int .i64 0, .int .u32 0, .int .u32 0, .int .u32 0] 25)
  have hle := hR.le
  have hcap := hR.cap
  have HB := Lib.hid hB
  unfold maxLen at hcap
  obtain ⟨n, hn⟩ : ∃ n, l.length = n := ⟨_, rfl⟩
  have HN := Lib.hid hn
  rw [hn] at hle hl ⊢
  have hn63 : (n : Int) ≤ 9223372036854775807 := by omega
  have hc63 : (c : Int) ≤ 9223372036854775807 := by omega
  have o2 := (Own.new w 25 #[.int .i64 0, .int .i64 0, .int .u32 0, .int .u32 0, .int .u32 0]).alloc (.cells #[.int .i64 0, .int .i64 0, .int .u32 0, .int .u32 0, .int .u32 0] 25)
  have o4 := Own.new (w.alloc (.cells #[.int .i64 0, .int .i64 0, .int .u32 0, .int .u32 0, .int .u32 0] 25)) 25 #[.int .i64 0, .int .i64 0, .int .u32 0, .int .u32 0, .int .u32 0]
  have hsz : (w.alloc (.cells #[.int .i64 0, .int .i64 0, .int .u32 0, .int .u32 0, .int .u32 0] 25)).heap.size = w.heap.size + 1 := by simp
  rw [hsz] at o4
  clear hsz
  have bb := ba.trans (((Below.refl _ (w.alloc (.cells #[.int .i64 0, .int .i64 0, .int .u32 0, .int .u32 0, .int .u32 0] 25))).alloc (Nat.le_refl _) (.cells #[.int .i64 0, .int .i64 0, .int .u32 0, .int .u32 0, .int .u32 0] 25)).mono ba.size)
  have hR1 := hR.below bb
  have HR0 := Lib.hid hR
  clear hn hB hR ba
  go_enter Try.func15, Try.ntmps15
  go_upto_region 2 with (fail)
  obtain ⟨g, hg⟩ : ∃ g, w.heap.size = g := ⟨_, rfl⟩
  have HG := Lib.hid hg
  rw [hg] at o2 o4 bb ⊢
  generalize (w.alloc (.cells #[.int .i64 0, .int .i64 0, .int .u32 0, .int .u32 0, .int .u32 0] 25)).alloc (.cells #[.int .i64 0, .int .i64 0, .int .u32 0, .int .u32 0, .int .u32 0] 25) = w1 at *
  clear hg
  have e0 : w1.cell? ⟨g + 1, 0, none⟩ = some (.int .i64 0) := o4.cell 0
  have e1 : w1.cell? ⟨g + 1, 1, none⟩ = some (.int .i64 0) := o4.cell 1
  have e2 : w1.cell? ⟨g + 1, 2, none⟩ = some (.int .u32 0) := o4.cell 2
  have e3 : w1.cell? ⟨g + 1, 3, none⟩ = some (.int .u32 0) := o4.cell 3
  have e4 : w1.cell? ⟨g + 1, 4, none⟩ = some (.int .u32 0) := o4.cell 4
  have k0 := o2.cell 0
  have k1 := o2.cell 1
  have k2 := o2.cell 2
  have k3 := o2.cell 3
  have k4 := o2.cell 4
  have f0 := o2.free 0
  have f1 := o2.free 1
  have f2 := o2.free 2
  have f3 := o2.free 3
  have f4 := o2.free 4
  have HO := Lib.hid (((((o2.put 0 (.int .i64 0)).put 1 (.int .i64 0)).put 2 (.int .u32 0)).put 3 (.int .u32 0)).put 4 (.int .u32 0))
  have HBB := Lib.hid (((((((Just.refl g w1).put 0 (.int .i64 0)).put 1 (.int .i64 0)).put 2 (.int .u32 0)).put 3 (.int .u32 0)).put 4 (.int .u32 0)).below bb (Nat.le_refl _) (by rw [← HG.out]; exact bb.size))
  have o2d : Lb.Own w1.drew g 25 #[.int .i64 0, .int .i64 0, .int .u32 0, .int .u32 0, .int .u32 0] := o2.drewN 1
  have bbd : Below g w w1.drew := below_drewN bb 1
  have HOd := Lib.hid (fun m : Nat => ((((((o2.drewN m).put 0 (.int .i64 0)).put 1 (.int .i64 0)).put 2 (.int .u32 0)).put 3 (.int .u32 0)).put 4 (.int .u32 0)))
  have HBBd := Lib.hid (fun m : Nat => (((((((Just.refl g (w1.drewN m)).put 0 (.int .i64 0)).put 1 (.int .i64 0)).put 2 (.int .u32 0)).put 3 (.int .u32 0)).put 4 (.int .u32 0)).below (below_drewN bb m) (Nat.le_refl _) (by rw [← HG.out]; exact bb.size)))
  have HO2 := Lib.hid o2
  have HB1 := Lib.hid bb
  have HR1 := Lib.hid hR1
  have HER : ∀ e, askE l = e → e ≠ 0 → Hid (askE l = e ∧ askR l = Rq.none) := fun e h1 h2 => Lib.hid ⟨h1, if_neg (by rw [h1]; exact h2)⟩
  have hrow := hR1.row
  rw [HN.out] at hrow
  clear o2 o4 bb hR1 o2d bbd
  by_cases h0 : n = 0
  · subst h0
    have HE := HER 2 (by unfold askE; rw [if_pos (by rw [HN.out]; decide)]) (by decide)
    clear HER
    go_wp2_with fail
    refine bodyPost_ret (results_row_tmp rfl _ _ g 25 _ (0, 0) _ rfl HO.out Try.underlying25 rfl (by kernel_rfl)) rfl ⟨?_, by rw [HG.out]; exact HBB.out⟩
    rw [HE.out.1, HE.out.2]
    rfl
  obtain ⟨rb, ro, rfl, hrl, hrc⟩ := hrow (by omega)
  have HRC := Lib.hid hrc
  have hp : 0 < n := by omega
  have hp' : (0 : Int) < (n : Int) := by omega
  have z0 : (n == 0) = false := by simp; omega
  have z0' : ((n : Int) == 0) = false := by simp; omega
  clear hrc hrow
  have x0 : w1.cell? ⟨rb, ro, none⟩ = some (.int .u8 (l.getD 0 0)) := HRC.out 0 (by omega)
  obtain ⟨l0, hl0⟩ : ∃ x, l.getD 0 0 = x := ⟨_, rfl⟩
  have HL0 := Lib.hid hl0
  rw [hl0] at x0
  clear hl0
  by_cases h74 : l0 = 74
  case neg =>
    have g1 : (l0 != 74) = true := by simpa using h74
    have HE := HER 3 (by unfold askE; rw [if_neg (by rw [HN.out]; omega), if_pos (by rw [HL0.out]; exact h74)]) (by decide)
    clear HER
    go_wp2_with fail
    refine bodyPost_ret (results_row_tmp rfl _ _ g 25 _ (0, 0) _ rfl HO.out Try.underlying25 rfl (by kernel_rfl)) rfl ⟨?_, by rw [HG.out]; exact HBB.out⟩
    rw [HE.out.1, HE.out.2]
    rfl
  have HC : ∀ x, (if l.length < 2 then 2 else if nodeB (l.getD 1 0) = false then 3 else ask2 (l.getD 1 0) (l.drop 2)) = x → askE l = x := fun x hx => by unfold askE; rw [if_neg (by rw [HN.out]; omega), if_neg (by rw [HL0.out, h74]; decide)]; exact hx
  subst h74
  clear HL0
  by_cases h1 : n = 1
  · subst h1
    have HE := HER 2 (HC _ (if_pos (by rw [HN.out]; decide))) (by decide)
    clear HER HC
    go_upto_region 6 with (fail)
    go_quiet (fail)
    go_wp2_with fail
    refine bodyPost_ret (results_row_tmp rfl _ _ g 25 _ (0, 0) _ rfl (HOd.out _) Try.underlying25 rfl (by kernel_rfl)) rfl ⟨?_, by rw [HG.out]; exact (HBBd.out _)⟩
    rw [HE.out.1, HE.out.2]
    rfl
  have x1 : w1.cell? ⟨rb, ro + 1, none⟩ = some (.int .u8 (l.getD 1 0)) := HRC.out 1 (by omega)
  have b1 := okB_at HB.out 1
  obtain ⟨l1, hl1⟩ : ∃ x, l.getD 1 0 = x := ⟨_, rfl⟩
  have HL1 := Lib.hid hl1
  rw [hl1] at x1 b1
  clear hl1
  obtain ⟨b10, b11⟩ := b1
  have d1 : decide (1 < n) = true := by simp; omega
  have d1' : decide ((1 : Int) < (n : Int)) = true := by simp; omega
  have z1 : (n == 0) = false := by simp; omega
  by_cases h16 : 16 ≤ l1
  · have g1 : decide (16 ≤ l1) = true := by simpa using h16
    have HE := HER 3 (HC _ (by rw [if_neg (by rw [HN.out]; omega), HL1.out, if_pos (by unfold nodeB; simp; omega)])) (by decide)
    clear HER HC
    go_upto_region 6 with (fail)
    go_quiet (fail)
    go_wp2_with fail
    refine bodyPost_ret (results_row_tmp rfl _ _ g 25 _ (0, 0) _ rfl (HOd.out _) Try.underlying25 rfl (by kernel_rfl)) rfl ⟨?_, by rw [HG.out]; exact (HBBd.out _)⟩
    rw [HE.out.1, HE.out.2]
    rfl
  have HC2 : ∀ x, ask2 l1 (l.drop 2) = x → askE l = x := fun x hx => HC x (by rw [if_neg (by rw [HN.out]; omega), HL1.out, if_neg (by unfold nodeB; simp; omega)]; exact hx)
  have g1 : decide (16 ≤ l1) = false := by simpa using h16
  clear HC
  by_cases h2 : n = 2
  · subst h2
    have HE := HER 2 (HC2 _ (by unfold ask2; rw [if_pos (by rw [List.length_drop, HN.out]; decide)])) (by decide)
    clear HER HC2
    go_upto_region 6 with (fail)
    go_quiet (fail)
    go_wp2_with fail
    refine bodyPost_ret (results_row_tmp rfl _ _ g 25 _ (0, 0) _ rfl (HOd.out _) Try.underlying25 rfl (by kernel_rfl)) rfl ⟨?_, by rw [HG.out]; exact (HBBd.out _)⟩
    rw [HE.out.1, HE.out.2]
    rfl
  have x2 : w1.cell? ⟨rb, ro + 2, none⟩ = some (.int .u8 (l.getD 2 0)) := HRC.out 2 (by omega)
  have b2 := okB_at HB.out 2
  obtain ⟨l2, hl2⟩ : ∃ x, l.getD 2 0 = x := ⟨_, rfl⟩
  have HL2 := Lib.hid hl2
  rw [hl2] at x2 b2
  have HD2 : Hid ((l.drop 2).getD 0 0 = l2) := Lib.hid (by rw [getD_drop]; exact hl2)
  clear hl2
  obtain ⟨b20, b21⟩ := b2
  have d2 : decide (2 < n) = true := by simp; omega
  have d2' : decide ((2 : Int) < (n : Int)) = true := by simp; omega
  have HC3 : ∀ x, (if otherB l2 l1 = false then 3 else if (l.drop 2).length < 13 then 2 else if (l.drop 2).length ≠ 13 then 3 else 0) = x → askE l = x := fun x hx => HC2 x (by unfold ask2; rw [if_neg (by rw [List.length_drop, HN.out]; omega), HD2.out]; exact hx)
  have hd2 : (l.drop 2).length = n - 2 := by rw [List.length_drop, HN.out]
  rw [hd2] at HC3
  clear HC2 hd2
  by_cases h26 : 16 ≤ l2
  · have g2 : decide (16 ≤ l2) = true := by simpa using h26
    have HE := HER 3 (HC3 _ (by rw [if_pos (by unfold otherB nodeB; simp; omega)])) (by decide)
    clear HER HC3
    go_upto_region 6 with (fail)
    go_quiet (fail)
    go_wp2_with fail
    refine bodyPost_ret (results_row_tmp rfl _ _ g 25 _ (0, 0) _ rfl (HOd.out _) Try.underlying25 rfl (by kernel_rfl)) rfl ⟨?_, by rw [HG.out]; exact (HBBd.out _)⟩
    rw [HE.out.1, HE.out.2]
    rfl
  have g2 : decide (16 ≤ l2) = false := by simpa using h26
  by_cases h21 : l2 = l1
  · have g3 : (l2 == l1) = true := by simpa using h21
    have HE := HER 3 (HC3 _ (by rw [if_pos (by unfold otherB; rw [h21]; simp)])) (by decide)
    clear HER HC3 h21
    go_upto_region 6 with (fail)
    go_quiet (fail)
    go_wp2_with fail
    refine bodyPost_ret (results_row_tmp rfl _ _ g 25 _ (0, 0) _ rfl (HOd.out _) Try.underlying25 rfl (by kernel_rfl)) rfl ⟨?_, by rw [HG.out]; exact (HBBd.out _)⟩
    rw [HE.out.1, HE.out.2]
    rfl
  have g3 : (l2 == l1) = false := by simpa using h21
  have HC4 : ∀ x, (if n - 2 < 13 then 2 else if n - 2 ≠ 13 then 3 else 0) = x → askE l = x := fun x hx => HC3 x (by rw [if_neg (by unfold otherB nodeB; simp; omega)]; exact hx)
  clear HC3 h21 h26 h16
  by_cases hlt : n < 15
  · have d3 : decide (n < 15) = true := by simpa using hlt
    have d3' : decide ((n : Int) < 15) = true := by simp; omega
    have HE := HER 2 (HC4 _ (if_pos (by omega))) (by decide)
    clear HER HC4
    go_upto_region 6 with (fail)
    go_quiet (fail)
    go_wp2_with fail
    refine bodyPost_ret (results_row_tmp rfl _ _ g 25 _ (0, 0) _ rfl (HOd.out _) Try.underlying25 rfl (by kernel_rfl)) rfl ⟨?_, by rw [HG.out]; exact (HBBd.out _)⟩
    rw [HE.out.1, HE.out.2]
    rfl
  have d3 : decide (n < 15) = false := by simpa using hlt
  have d3' : decide ((n : Int) < 15) = false := by simp; omega
  by_cases hgt : 15 < n
  · have d4 : decide (15 < n) = true := by simpa using hgt
    have d4' : decide ((15 : Int) < (n : Int)) = true := by simp; omega
    have HE := HER 3 (HC4 _ (by rw [if_neg (by omega), if_pos (by omega)])) (by decide)
    clear HER HC4
    go_upto_region 6 with (fail)
    go_quiet (fail)
    go_wp2_with fail
    refine bodyPost_ret (results_row_tmp rfl _ _ g 25 _ (0, 0) _ rfl (HOd.out _) Try.underlying25 rfl (by kernel_rfl)) rfl ⟨?_, by rw [HG.out]; exact (HBBd.out _)⟩
    rw [HE.out.1, HE.out.2]
    rfl
  obtain rfl : n = 15 := by omega
  have HE := Lib.hid (HC4 0 (by decide))
  clear HC4 HER
  go_upto_region 6 with (fail)
  go_quiet (fail)
  clear e0 e1 e2 e3 e4 k0 k1 k2 k3 k4 f0 f1 f2 f3 f4 d1 d1' d2 d2' d3 d3' g1 g2 g3 hgt hlt h1 h2 h0 hp hp' z0 z0' z1
  go_upto_region 13 with (fail)
  have hd3 : (l.drop 3).length = 12 := by rw [List.length_drop, HN.out]
  have bq := (below_drewN HB1.out nq).alloc (by show g ≤ w1.heap.size; rw [← HG.out]; exact HB1.out.size) (.cells #[.slice (some ⟨rb, ro + 3, none⟩) 12 (c - 3), .int .i64 0] 82)
  have o5 := (HO2.out.drewN nq).alloc (.cells #[.slice (some ⟨rb, ro + 3, none⟩) 12 (c - 3), .int .i64 0] 82)
  have n5 := Lb.Own.new (w1.drewN nq) 82 #[.slice (some ⟨rb, ro + 3, none⟩) 12 (c - 3), .int .i64 0]
  have bn := (Below.refl (w1.drewN nq).heap.size (w1.drewN nq)).alloc (Nat.le_refl _) (.cells #[.slice (some ⟨rb, ro + 3, none⟩) 12 (c - 3), .int .i64 0] 82)
  obtain ⟨q, hq⟩ : ∃ q, w1.heap.size = q := ⟨_, rfl⟩
  have hq' : (w1.drewN nq).heap.size = q := hq
  rw [hq'] at n5 bn
  have hrq : rb < q := by rw [← hq]; exact hrl
  have hgq : g ≠ q := fun e => by
    have := Own.lt HO2.out
    omega
  have hc5 : ∀ i, i < 15 → ((w1.drewN nq).alloc (.cells #[.slice (some ⟨rb, ro + 3, none⟩) 12 (c - 3), .int .i64 0] 82)).cell? ⟨rb, ro + i, none⟩ = some (bval l i) := fun i hi => (World.cell?_of_block (a := ⟨rb, ro + i, none⟩) (bn.block rb hrq)).trans (HRC.out i hi)
  rw [hq]
  generalize (w1.drewN nq).alloc (.cells #[.slice (some ⟨rb, ro + 3, none⟩) 12 (c - 3), .int .i64 0] 82) = w2 at *
  have r5 : Rdq w2 0 q (l.drop 3) 0 := ⟨some ⟨rb, ro + 3, none⟩, c - 3, by rw [hd3]; exact n5, by rw [hd3]; omega, by unfold maxLen; omega, by
    rw [hd3]
    refine fun _ => ⟨rb, ro + 3, rfl, Nat.lt_trans hrq n5.lt, fun i hi => ?_⟩
    rw [Nat.add_assoc, hc5 (3 + i) (by omega)]
    unfold bval
    rw [getD_drop], fun p hp _ => by injection hp with hp; subst hp; exact ⟨Nat.zero_le _, hrq⟩⟩
  have nP : ∀ (k k' : Nat), k + 4 = k' → k' ≤ 15 → ∀ wz, Rdq wz 0 q (l.drop k) 0 → Calls Try.prog 39 #[.pointer (some ⟨q, 0, none⟩), .int .i64 4] wz fun r w' => r = .returned (.int .u64 (n4 l k)) ∧ Rdq w' 0 q (l.drop k') 0 ∧ Just q wz w' := fun k k' hk1 hk wz h => by
    subst hk1
    have := num_ok 0 q (l.drop k) 4 wz h (okB_drop HB.out k) (by rw [List.length_drop, HN.out]; omega) (by omega)
    rw [numB_four (by rw [List.length_drop, HN.out]; omega), n4_drop, List.drop_drop] at this
    exact this
  have P1 := nP 3 7 rfl (by omega)
  have P2 := nP 7 11 rfl (by omega)
  have P3 := nP 11 15 rfl (by omega)
  have i1 := n4_in HB.out 3
  have i2 := n4_in HB.out 7
  have i3 := n4_in HB.out 11
  have hQ : askR l = ⟨l1, l2, n4 l 3, n4 l 7, n4 l 11⟩ := by
    unfold askR askR2
    rw [if_pos HE.out, HD2.out, HL1.out, n4_drop, n4_drop, n4_drop]
  obtain ⟨N1, hN1⟩ : ∃ x, n4 l 3 = x := ⟨_, rfl⟩
  obtain ⟨N2, hN2⟩ : ∃ x, n4 l 7 = x := ⟨_, rfl⟩
  obtain ⟨N3, hN3⟩ : ∃ x, n4 l 11 = x := ⟨_, rfl⟩
  rw [hN1] at P1 i1 hQ
  rw [hN2] at P2 i2 hQ
  rw [hN3] at P3 i3 hQ
  have HQ := Lib.hid hQ
  have u1 : IntKind.u32.wrap N1 = N1 := by unfold In32 at i1; rw [IntKind.wrap_u32]; omega
  have u2 : IntKind.u32.wrap N2 = N2 := by unfold In32 at i2; rw [IntKind.wrap_u32]; omega
  have u3 : IntKind.u32.wrap N3 = N3 := by unfold In32 at i3; rw [IntKind.wrap_u32]; omega
  have xx : w2.drew.cell? ⟨rb, ro + 1, none⟩ = some (.int .u8 l1) ∧ w2.drew.cell? ⟨rb, ro + 2, none⟩ = some (.int .u8 l2) := ⟨by rw [← HL1.out]; exact hc5 1 (by omega), by rw [← HL2.out]; exact hc5 2 (by omega)⟩
  have rA : Rdq w2.drew 0 q (l.drop 3) 0 := r5
  have oA : Lb.Own w2.drew g 25 #[.int .i64 0, .int .i64 0, .int .u32 0, .int .u32 0, .int .u32 0] := o5
  have lA : rb < w2.drew.heap.size := Nat.lt_trans hrq n5.lt
  have bA : Below g w w2.drew := below_drewN bq 1
  have sA : g ≤ w2.drew.heap.size := by
    have := bA.size
    rw [HG.out] at this
    exact this
  have hneq : rb ≠ q := Nat.ne_of_lt hrq
  have hrg : rb ≠ g := by
    obtain ⟨y1, y2, y3, y4, _⟩ := HR0.out.row (by rw [HN.out]; decide)
    injection y3 with y3
    injection y3 with y3
    rw [y3, ← HG.out]
    exact Nat.ne_of_lt y4
  have u4 : IntKind.i64.wrap l1 = l1 := by rw [IntKind.wrap_i64]; omega
  have u5 : IntKind.i64.wrap l2 = l2 := by rw [IntKind.wrap_i64]; omega
  have hgle : g ≤ q := by
    have := Own.lt HO2.out
    omega
  clear nP hN1 hN2 hN3 hQ i1 i2 i3 r5 o5 n5 bn bq hq hq' hc5 hd3 x0 x1 x2
  go_region_held3 (fun w' => w'.cell? ⟨rb, ro + 1, none⟩ = some (.int .u8 l1) ∧ w'.cell? ⟨rb, ro + 2, none⟩ = some (.int .u8 l2)) (with_reducible first | exact xx | exact yy | exact zz | exact ww | exact vv _ _ _ _ _) (first
    | (go_at_call 39; refine (P1 _ ?_).mono ?_; (with_reducible exact rA); rintro e w5 ⟨rfl, rB, jB⟩; have oB := jB.own oA hgq; have lB := Nat.lt_of_lt_of_le lA jB.size; have bB := jB.below bA hgle sA; have sB := Nat.le_trans sA jB.size; have yy : w5.cell? ⟨rb, ro + 1, none⟩ = some (.int .u8 l1) ∧ w5.cell? ⟨rb, ro + 2, none⟩ = some (.int .u8 l2) := ⟨(World.cell?_of_block (a := ⟨rb, ro + 1, none⟩) (jB.block rb lA hneq)).trans xx.1, (World.cell?_of_block (a := ⟨rb, ro + 2, none⟩) (jB.block rb lA hneq)).trans xx.2⟩)
    | (go_at_call 39; refine (P2 _ ?_).mono ?_; (with_reducible exact rB); rintro e w6 ⟨rfl, rC, jC⟩; have oC := jC.own oB hgq; have lC := Nat.lt_of_lt_of_le lB jC.size; have bC := jC.below bB hgle sB; have sC := Nat.le_trans sB jC.size; have zz : w6.cell? ⟨rb, ro + 1, none⟩ = some (.int .u8 l1) ∧ w6.cell? ⟨rb, ro + 2, none⟩ = some (.int .u8 l2) := ⟨(World.cell?_of_block (a := ⟨rb, ro + 1, none⟩) (jC.block rb lB hneq)).trans yy.1, (World.cell?_of_block (a := ⟨rb, ro + 2, none⟩) (jC.block rb lB hneq)).trans yy.2⟩)
    | (go_at_call 39; refine (P3 _ ?_).mono ?_; (with_reducible exact rC); rintro e w7 ⟨rfl, rD, jD⟩; have oD := jD.own oC hgq; have bD := jD.below bC hgle sC; have sD := Nat.le_trans sC jD.size; have ww : w7.cell? ⟨rb, ro + 1, none⟩ = some (.int .u8 l1) ∧ w7.cell? ⟨rb, ro + 2, none⟩ = some (.int .u8 l2) := ⟨(World.cell?_of_block (a := ⟨rb, ro + 1, none⟩) (jD.block rb lC hneq)).trans zz.1, (World.cell?_of_block (a := ⟨rb, ro + 2, none⟩) (jD.block rb lC hneq)).trans zz.2⟩; have lD := Nat.lt_of_lt_of_le lC jD.size; have vv : ∀ y0 y1 y2 y3 y4, (((((w7.setCell ⟨g, 0, none⟩ y0).setCell ⟨g, 1, none⟩ y1).setCell ⟨g, 2, none⟩ y2).setCell ⟨g, 3, none⟩ y3).setCell ⟨g, 4, none⟩ y4).cell? ⟨rb, ro + 1, none⟩ = some (.int .u8 l1) ∧ (((((w7.setCell ⟨g, 0, none⟩ y0).setCell ⟨g, 1, none⟩ y1).setCell ⟨g, 2, none⟩ y2).setCell ⟨g, 3, none⟩ y3).setCell ⟨g, 4, none⟩ y4).cell? ⟨rb, ro + 2, none⟩ = some (.int .u8 l2) := (fun y0 y1 y2 y3 y4 => ⟨(World.cell?_of_block (a := ⟨rb, ro + 1, none⟩) ((((((Just.refl g w7).put 0 y0).put 1 y1).put 2 y2).put 3 y3).put 4 y4 |>.block rb lD hrg)).trans ww.1, (World.cell?_of_block (a := ⟨rb, ro + 2, none⟩) ((((((Just.refl g w7).put 0 y0).put 1 y1).put 2 y2).put 3 y3).put 4 y4 |>.block rb lD hrg)).trans ww.2⟩); have k0 := oD.cell 0; have k1 := oD.cell 1; have k2 := oD.cell 2; have k3 := oD.cell 3; have k4 := oD.cell 4; have f0 := oD.free 0; have f1 := oD.free 1; have f2 := oD.free 2; have f3 := oD.free 3; have f4 := oD.free 4)
    | fail)
  have HOE := Lib.hid (((((oD.put 0 (.int .i64 l1)).put 1 (.int .i64 l2)).put 2 (.int .u32 N1)).put 3 (.int .u32 N2)).put 4 (.int .u32 N3))
  have HBE := Lib.hid (((((((Just.refl g w7).put 0 (.int .i64 l1)).put 1 (.int .i64 l2)).put 2 (.int .u32 N1)).put 3 (.int .u32 N2)).put 4 (.int .u32 N3)).below bD (Nat.le_refl _) sD)
  clear xx yy zz ww vv k0 k1 k2 k3 k4 f0 f1 f2 f3 f4
  go_wp2_with fail
  refine bodyPost_ret (results_row_tmp rfl _ _ g 25 _ (0, 0) _ rfl HOE.out Try.underlying25 rfl (by kernel_rfl)) rfl ⟨?_, by rw [HG.out]; exact HBE.out⟩
  rw [HQ.out, HE.out]
  rfl
end Go.Proofs.Ytphiohdhgkpgnaa.Jo
