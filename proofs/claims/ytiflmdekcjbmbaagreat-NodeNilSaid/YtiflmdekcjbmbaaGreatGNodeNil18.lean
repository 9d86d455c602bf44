/-
  A node (chapter 24): New. A node (chapter 24): the meshes of the laws. A node (chapter 24): a node that there isn't; the element that each frame has. Package bits (chapter 3): bits in bytes, and what a part of a number makes of the last byte.
-/
import Derived.Test.YtiflmdekcjbmbaaGreatGNodeNil17
import Derived.Test.YtiflmdekcjbmbaaGreatGNodeNil01
set_option maxRecDepth 100000
namespace Go.Proofs.YtiflmdekcjbmbaaGreat.Nd
set_option linter.unusedVariables false
set_option linter.unusedSimpArgs false
open Go.RowKit Lb

/-- Where a new node lies. -/
def hm1 (ha : Option Addr) (hc ck qb ub db gb sb b : Nat) (id : Int) : Hm := ⟨ha, hc, ck, qb, .slice none 0 0, ub, db, gb, if (id == 0) = true then sb else b, .slice none 0 0, b, fun _ => .slice none 0 0⟩
theorem nd_hm1 (c : Cfg) (ha : Option Addr) (hc ck qb ub db gb sb b : Nat) (id : Int) (i : Nat) (hi : i < 43) : ndV (fresh0 c id (id == 0)) (hm0 ha hc ck qb ub db gb sb) i = ndV (fresh0 c id (id == 0)) (hm1 ha hc ck qb ub db gb sb b id) i := by
  unfold ndV
  by_cases h1 : i < 23
  · rw [if_pos h1, if_pos h1]
    rfl
  · by_cases h2 : i < 39
    · rw [if_neg h1, if_pos h2, if_neg h1, if_pos h2]
      rfl
    · rw [if_neg h1, if_neg h2, if_neg h1, if_neg h2]
      by_cases h0 : id = 0
      · subst h0
        rcases (show i = 39 ∨ i = 40 ∨ i = 41 ∨ i = 42 by omega) with rfl | rfl | rfl | rfl <;> rfl
      · have g : (id == 0) = false := by simpa using h0
        unfold tailV Ns.hasK fresh0
        dsimp only
        rw [g]
        rcases (show i = 39 ∨ i = 40 ∨ i = 41 ∨ i = 42 by omega) with rfl | rfl | rfl | rfl <;> rfl
theorem hasK0 (c : Cfg) (id : Int) : (fresh0 c id (id == 0)).hasK = false := by
  unfold Ns.hasK fresh0
  dsimp only
  cases h : (id == 0)
  · rfl
  · have : id = 0 := by simpa using h
    subst this
    rfl
/-- New: a node, or none. -/
def newB (x : Cx) (id : Int) : Bool := mayQ x && inB id 0 (x.nodes - 1)
def NewPost (x : Cx) (id : Int) (w : World) (r : Ending) (w' : World) : Prop :=
  if newB x id = true then ∃ b h, r = .returned (.pointer (some ⟨b, 0, none⟩)) ∧ Nd w' b (fresh0 x.cfg id (id == 0)) h ∧ (∀ q, h.ex b q → w.heap.size ≤ q) ∧ Below w.heap.size w w' else r = .returned (.pointer none) ∧ Below w.heap.size w w'
theorem mayQ_parts {x : Cx} (h : mayQ x = true) : (2 ≤ x.nodes ∧ x.nodes ≤ 16) ∧ x.hops.length ≤ 16 ∧ (1 ≤ x.queue ∧ x.queue ≤ 32) := by
  unfold mayQ at h
  simp only [Bool.and_eq_true] at h
  obtain ⟨h1, _, h3, _, _, _, _, h8, _⟩ := h
  unfold inB at h1 h8
  rw [decide_eq_true_eq] at h1 h8
  unfold Hp.mayB at h3
  simp only [Bool.and_eq_true, decide_eq_true_eq] at h3
  exact ⟨h1, h3.1.2, h8⟩
set_option maxHeartbeats 4000000 in
theorem newn_any (x : Cx) (id : Int) (w : World) (h : x.At w) : Calls Tryz.prog 12 #[.agg #[.int .i64 x.nodes, .slice x.na x.nn x.nc, .slice x.ha x.hops.length x.hc, .int .i64 x.guard, .int .i64 x.err, .int .i64 x.keep, .int .i64 x.loss, .int .i64 x.queue, .int .i64 x.life], .int .i64 id] w (NewPost x id w) := by
  have b0 := (Below.refl w.heap.size w).alloc (Nat.le_refl _) (.cells #[.int .i64 x.nodes, .slice x.na x.nn x.nc, .slice x.ha x.hops.length x.hc, .int .i64 x.guard, .int .i64 x.err, .int .i64 x.keep, .int .i64 x.loss, .int .i64 x.queue, .int .i64 x.life] 25)
  have H := h.below b0
  have PM := may_any x (w.alloc (.cells #[.int .i64 x.nodes, .slice x.na x.nn x.nc, .slice x.ha x.hops.length x.hc, .int .i64 x.guard, .int .i64 x.err, .int .i64 x.keep, .int .i64 x.loss, .int .i64 x.queue, .int .i64 x.life] 25)) H
  have oB := Own.new w 25 #[.int .i64 x.nodes, .slice x.na x.nn x.nc, .slice x.ha x.hops.length x.hc, .int .i64 x.guard, .int .i64 x.err, .int .i64 x.keep, .int .i64 x.loss, .int .i64 x.queue, .int .i64 x.life]
  go_enter Tryz.func12, Tryz.ntmps12
  go_upto_region 1 with (fail)
  obtain ⟨xb, hxb⟩ : ∃ q, w.heap.size = q := ⟨_, rfl⟩
  have HB0 := Lib.hid b0
  have HXB := Lib.hid hxb
  have hsz : (w.alloc (.cells #[.int .i64 x.nodes, .slice x.na x.nn x.nc, .slice x.ha x.hops.length x.hc, .int .i64 x.guard, .int .i64 x.err, .int .i64 x.keep, .int .i64 x.loss, .int .i64 x.queue, .int .i64 x.life] 25)).heap.size = xb + 1 := by rw [← hxb]; simp
  rw [hxb] at oB ⊢
  clear b0 hxb
  generalize w.alloc (.cells #[.int .i64 x.nodes, .slice x.na x.nn x.nc, .slice x.ha x.hops.length x.hc, .int .i64 x.guard, .int .i64 x.err, .int .i64 x.keep, .int .i64 x.loss, .int .i64 x.queue, .int .i64 x.life] 25) = wx at *
  have c0 : wx.cell? ⟨xb, 0, none⟩ = some (.int .i64 x.nodes) := oB.cell 0
  have c1 : wx.cell? ⟨xb, 1, none⟩ = some (.slice x.na x.nn x.nc) := oB.cell 1
  have c2 : wx.cell? ⟨xb, 2, none⟩ = some (.slice x.ha x.hops.length x.hc) := oB.cell 2
  have c3 : wx.cell? ⟨xb, 3, none⟩ = some (.int .i64 x.guard) := oB.cell 3
  have c4 : wx.cell? ⟨xb, 4, none⟩ = some (.int .i64 x.err) := oB.cell 4
  have c5 : wx.cell? ⟨xb, 5, none⟩ = some (.int .i64 x.keep) := oB.cell 5
  have c6 : wx.cell? ⟨xb, 6, none⟩ = some (.int .i64 x.loss) := oB.cell 6
  have c7 : wx.cell? ⟨xb, 7, none⟩ = some (.int .i64 x.queue) := oB.cell 7
  have c8 : wx.cell? ⟨xb, 8, none⟩ = some (.int .i64 x.life) := oB.cell 8
  go_wp2_with fail
  refine PM.mono ?_
  rintro r w1 ⟨rfl, b1⟩
  have bb1 : Below xb w w1 := by rw [← HXB.out]; exact HB0.out.trans (b1.mono (by rw [HXB.out]; omega))
  cases hm : mayQ x
  · have HN : Hid (newB x id = false) := Lib.hid (by unfold newB; rw [hm]; rfl)
    clear hm PM c0 c1 c2 c3 c4 c5 c6 c7 c8
    go_wp2_with fail
    go_ret
    unfold NewPost
    rw [if_neg (by rw [HN.out]; decide)]
    exact ⟨rfl, by rw [HXB.out]; exact bb1⟩
  obtain ⟨hN, hH, hQ⟩ := mayQ_parts hm
  have e1 : IntKind.i64.wrap (x.nodes - 1) = x.nodes - 1 := IntWalk.i64_in _ (by omega)
  have o1 := below_own b1 oB oB.lt
  have H1 := H.below b1
  have d0 : w1.cell? ⟨xb, 0, none⟩ = some (.int .i64 x.nodes) := o1.cell 0
  clear c0 c1 c2 c3 c4 c5 c6 c7 c8 PM oB H
  go_wp2_with fail
  refine (isIn_any id 0 (x.nodes - 1) w1).mono ?_
  rintro r w' ⟨rfl, rfl⟩
  cases hi : inB id 0 (x.nodes - 1)
  · have HN : Hid (newB x id = false) := Lib.hid (by unfold newB; rw [hi, Bool.and_false])
    clear hi d0 e1
    go_wp2_with fail
    go_ret
    unfold NewPost
    rw [if_neg (by rw [HN.out]; decide)]
    exact ⟨rfl, by rw [HXB.out]; exact bb1⟩
  have HN : Hid (newB x id = true) := Lib.hid (by unfold newB; rw [hm, hi]; rfl)
  have HM := Lib.hid hm
  have d1 : w1.cell? ⟨xb, 1, none⟩ = some (.slice x.na x.nn x.nc) := o1.cell 1
  have f1 : w1.frozen? ⟨xb, 1, none⟩ = false := o1.free 1
  clear hi d0 e1 hm
  have o2 := o1.put 1 (.slice none 0 0)
  have j2 := Just.set xb w1 1 (.slice none 0 0)
  have b2 : Below xb w (w1.setCell ⟨xb, 1, none⟩ (.slice none 0 0)) := j2.below bb1 (Nat.le_refl _) (by have := bb1.size; have := HXB.out; omega)
  have H2 : Row (w1.setCell ⟨xb, 1, none⟩ (.slice none 0 0)) x.ha x.hops.length (Rt.zval x.hops) := h.hops.below (by rw [HXB.out]; exact b2)
  go_upto_region 4 with (fail)
  generalize w1.setCell ⟨xb, 1, none⟩ (.slice none 0 0) = w2 at *
  clear o1 j2 d1 f1 H1 b1 bb1
  have d2 : w2.cell? ⟨xb, 2, none⟩ = some (.slice x.ha x.hops.length x.hc) := o2.cell 2
  go_wp2_with fail
  refine (Rt.cloneI_any x.ha x.hc x.hops w2 (by omega) H2 h.hnil).mono ?_
  rintro r w3 ⟨v3, rfl, m3, b3⟩
  obtain ⟨a5, c5, rfl, k1, k2, k3⟩ := m3.row
  have o3 := below_own b3 o2 o2.lt
  have e2 : w3.cell? ⟨xb, 2, none⟩ = some (.slice x.ha x.hops.length x.hc) := o3.cell 2
  have f2 : w3.frozen? ⟨xb, 2, none⟩ = false := o3.free 2
  have o4 := o3.put 2 (.slice a5 x.hops.length c5)
  have j4 := Just.set xb w3 2 (.slice a5 x.hops.length c5)
  have hxl := o2.lt
  have b23 : Below xb w w3 := b2.trans (b3.mono (by omega))
  have b4 : Below xb w (w3.setCell ⟨xb, 2, none⟩ (.slice a5 x.hops.length c5)) := j4.below b23 (Nat.le_refl _) (by have := b3.size; omega)
  have m4 : Mine (w3.setCell ⟨xb, 2, none⟩ (.slice a5 x.hops.length c5)) w2.heap.size 3 (.slice a5 x.hops.length c5) x.hops.length (zv x.hops) := (m3.just j4 hxl).ext (fun _ _ => rfl)
  clear d2 H2 m3 k3 o3 b2 b3 b23 o2 j4
  go_upto_region 5 with (fail)
  generalize w3.setCell ⟨xb, 2, none⟩ (.slice a5 x.hops.length c5) = w4 at *
  clear e2 f2
  have o4' : Own w4 xb 25 #[.int .i64 x.nodes, .slice none 0 0, .slice a5 x.hops.length c5, .int .i64 x.guard, .int .i64 x.err, .int .i64 x.keep, .int .i64 x.loss, .int .i64 x.queue, .int .i64 x.life] := o4
  have c0 : w4.cell? ⟨xb, 0, none⟩ = some (.int .i64 x.nodes) := o4'.cell 0
  have c1 : w4.cell? ⟨xb, 1, none⟩ = some (.slice none 0 0) := o4'.cell 1
  have c2 : w4.cell? ⟨xb, 2, none⟩ = some (.slice a5 x.hops.length c5) := o4'.cell 2
  have c3 : w4.cell? ⟨xb, 3, none⟩ = some (.int .i64 x.guard) := o4'.cell 3
  have c4 : w4.cell? ⟨xb, 4, none⟩ = some (.int .i64 x.err) := o4'.cell 4
  have c6 : w4.cell? ⟨xb, 5, none⟩ = some (.int .i64 x.keep) := o4'.cell 5
  have c7 : w4.cell? ⟨xb, 6, none⟩ = some (.int .i64 x.loss) := o4'.cell 6
  have c8 : w4.cell? ⟨xb, 7, none⟩ = some (.int .i64 x.queue) := o4'.cell 7
  have c9 : w4.cell? ⟨xb, 8, none⟩ = some (.int .i64 x.life) := o4'.cell 8
  have PF := fresh_any x.cfg a5 c5 id w4 hQ
  go_wp2_with fail
  refine PF.mono ?_
  rintro r w5 ⟨ck, qb, ub, db, gb, sb, rfl, hF, b5⟩
  have m5 := (Tn.of_below b5).mine m4 (by simp)
  have b45 : Below xb w w5 := b4.trans (b5.mono (by have := b4.size; have := HXB.out; omega))
  have hw45 := b5.size
  have hw4 : xb ≤ w4.heap.size := by have := b4.size; have := HXB.out; omega
  clear PF c0 c1 c2 c3 c4 c6 c7 c8 c9 o4 o4' m4 b5
  have hcs : (Tryz.prog.info? 92).map (fun i => (i.zero, i.size)) = some (some (.agg #[.int .i64 0, .int .i64 0, .slice none 0 0, .slice none 0 0, .int .i64 0, .int .i64 0, .int .i64 0, .int .i64 0, .int .i64 0, .int .i64 0, .pointer none, .pointer none, .int .i64 0, .pointer none, .pointer none, .pointer none, .int .i64 0, .int .i64 0, .bool false, .int .i64 0, .int .i64 0, .int .i64 0, .int .i64 0, .slice none 0 0, .slice none 0 0, .slice none 0 0, .slice none 0 0, .slice none 0 0, .slice none 0 0, .slice none 0 0, .slice none 0 0, .slice none 0 0, .slice none 0 0, .slice none 0 0, .slice none 0 0, .slice none 0 0, .slice none 0 0, .slice none 0 0, .slice none 0 0, .bool false, .pointer none, .pointer none, .int .i64 0]), (#[.int .i64 0, .int .i64 0, .slice none 0 0, .slice none 0 0, .int .i64 0, .int .i64 0, .int .i64 0, .int .i64 0, .int .i64 0, .int .i64 0, .pointer none, .pointer none, .int .i64 0, .pointer none, .pointer none, .pointer none, .int .i64 0, .int .i64 0, .bool false, .int .i64 0, .int .i64 0, .int .i64 0, .int .i64 0, .slice none 0 0, .slice none 0 0, .slice none 0 0, .slice none 0 0, .slice none 0 0, .slice none 0 0, .slice none 0 0, .slice none 0 0, .slice none 0 0, .slice none 0 0, .slice none 0 0, .slice none 0 0, .slice none 0 0, .slice none 0 0, .slice none 0 0, .slice none 0 0, .bool false, .pointer none, .pointer none, .int .i64 0] : Array Value).size) := by kernel_rfl
  go_wp2_with (refine wpList_alloc_store (zs := #[.int .i64 0, .int .i64 0, .slice none 0 0, .slice none 0 0, .int .i64 0, .int .i64 0, .int .i64 0, .int .i64 0, .int .i64 0, .int .i64 0, .pointer none, .pointer none, .int .i64 0, .pointer none, .pointer none, .pointer none, .int .i64 0, .int .i64 0, .bool false, .int .i64 0, .int .i64 0, .int .i64 0, .int .i64 0, .slice none 0 0, .slice none 0 0, .slice none 0 0, .slice none 0 0, .slice none 0 0, .slice none 0 0, .slice none 0 0, .slice none 0 0, .slice none 0 0, .slice none 0 0, .slice none 0 0, .slice none 0 0, .slice none 0 0, .slice none 0 0, .slice none 0 0, .slice none 0 0, .bool false, .pointer none, .pointer none, .int .i64 0]) _ rfl rfl rfl rfl hcs rfl rfl (nd_size _ _) (nd_size2 _ _) (nd_all (fun k _ => rfl)) ?_)
  have b6 := (Below.refl w5.heap.size w5).alloc (Nat.le_refl _) (.cells (Array.ofFn (n := 43) fun i => ndV (fresh0 x.cfg id (id == 0)) (hm0 a5 c5 ck qb ub db gb sb) i) 92)
  have o6 : Blk (w5.alloc (.cells (Array.ofFn (n := 43) fun i => ndV (fresh0 x.cfg id (id == 0)) (hm0 a5 c5 ck qb ub db gb sb) i) 92)) w5.heap.size 92 43 (ndV (fresh0 x.cfg id (id == 0)) (hm0 a5 c5 ck qb ub db gb sb)) := Own.new w5 92 _
  have F6 := hF.below b6
  have m6 := (Tn.of_below b6).mine m5 (by simp)
  have hw5 : w4.heap.size ≤ w5.heap.size := hw45
  clear hcs hF m5
  go_wp2_with fail
  go_ret
  unfold NewPost
  rw [if_pos HN.out]
  refine ⟨w5.heap.size, hm1 a5 c5 ck qb ub db gb sb w5.heap.size id, rfl, ⟨o6.ext (nd_hm1 _ _ _ _ _ _ _ _ _ _ _), mn_low m6 (Nat.zero_le _), F6.five.clk, ⟨[], ⟨F6.five.que.own, MineK.nil _ _ _ _ _, (fun y hy => by cases hy), Nat.zero_le _⟩, rfl⟩, F6.five.up, F6.five.dn, F6.five.gt, F6.five.ap, fun e => ?_, fun e => ?_, fun k _ => Mine.nil _ _ _ _⟩, fun q hq => ?_, ?_⟩
  · have e : (id == 0) = true := e
    obtain ⟨hs, _⟩ := F6.set e
    have : id = 0 := by simpa using e
    subst this
    exact ⟨hs.own, MineK.nil _ _ _ _ _, hs.srt, hs.few, Nat.zero_le _⟩
  · rw [hasK0] at e
    cases e
  · rw [HXB.out]
    have hlo := F6.five.lo
    rcases hq with rfl | rfl | rfl | e | rfl | rfl | rfl | rfl | e | rfl
    · omega
    · exact Nat.le_trans hw4 hlo.1
    · exact Nat.le_trans hw4 hlo.2.1
    · cases e
    · exact Nat.le_trans hw4 hlo.2.2.1
    · exact Nat.le_trans hw4 hlo.2.2.2.1
    · exact Nat.le_trans hw4 hlo.2.2.2.2
    · show xb ≤ (if (id == 0) = true then sb else w5.heap.size)
      split
      · rename_i e
        exact Nat.le_trans hw4 (F6.set e).2
      · omega
    · cases e
    · show xb ≤ w5.heap.size
      omega
  · rw [HXB.out]
    exact b45.trans (b6.mono (by omega))
end Go.Proofs.YtiflmdekcjbmbaaGreat.Nd
set_option maxRecDepth 100000
namespace Go.Proofs.YtiflmdekcjbmbaaGreat.Nd
set_option linter.unusedVariables false
set_option linter.unusedSimpArgs false
open Go.RowKit Lb

/-- A number, folded. -/
theorem um_ex (x m : Int) (h : 0 < m) (h2 : m < 1000) : ∃ k : Nat, wrap64 ((IntKind.u64.wrap x).tmod m) = (k : Int) ∧ (k : Int) < m := by
  rw [IntKind.wrap_u64, Int.tmod_eq_emod_of_nonneg (Int.emod_nonneg _ (by decide))]
  have h0 : 0 ≤ (x % 18446744073709551616) % m := Int.emod_nonneg _ (by omega)
  have h1 : (x % 18446744073709551616) % m < m := Int.emod_lt_of_pos _ (by omega)
  refine ⟨((x % 18446744073709551616) % m).toNat, ?_, by omega⟩
  rw [IntWalk.wrap64_in _ ⟨by omega, by omega⟩]
  omega
theorem infoU : (Tryz.prog.info? 68).map (fun i => (i.zero, i.size, i.bytes)) = some (some (.int .u64 0), 1, 8) := by kernel_rfl
/-- Nobody hears itself, nor who is none. -/
def Nok (n : Nat) (Z : Nat → Nat) : Prop := ∀ i, i < n → Z i < 2 ^ n ∧ (Z i).testBit i = false
def nrv (Z : Nat → Nat) (i : Nat) : Value := .int .u64 (Z i : Int)
theorem nok_put {n k j : Nat} {Z : Nat → Nat} (h : Nok n Z) (hk : k < n) (hj : j < n) (hkj : k ≠ j) : Nok n (fun i => if i = k then Z k ||| 1 <<< j else Z i) := by
  intro i hi
  by_cases e : i = k
  · subst e
    obtain ⟨h1, h2⟩ := h i hi
    have h3 : 1 <<< j < 2 ^ n := by
      rw [Nat.one_shiftLeft]
      exact Nat.pow_lt_pow_right (by decide) hj
    simp only [if_pos]
    refine ⟨Nat.or_lt_two_pow h1 h3, ?_⟩
    rw [Nat.testBit_or, h2, Nat.one_shiftLeft, Nat.testBit_two_pow]
    simp
    omega
  · simp only [if_neg e]
    exact h i hi
theorem nrB_yes {N : Nat} {Z : Nat → Nat} {n : Nat} (h : ∀ i, i < n → Z i < 2 ^ N ∧ (Z i).testBit i = false) : nrB N Z n = true := by
  induction n with
  | zero => rfl
  | succ n ih =>
    rw [nrB, ih (fun i hi => h i (by omega)), (h n (by omega)).2, decide_eq_true (h n (by omega)).1]
    rfl
theorem shl64 {s : Nat} (hs : s < 18446744073709551616) {j : Nat} (h1 : j < 64) : bits .or .u64 (s : Int) (IntKind.u64.wrap (2 ^ j)) = ((s ||| 1 <<< j : Nat) : Int) := by
  have q3 : (1 : Nat) <<< j < 18446744073709551616 := by
    rw [Nat.one_shiftLeft]
    exact Nat.lt_of_lt_of_le (Nat.pow_lt_pow_right (by decide) h1) (by decide)
  rw [← u64_or_nat _ _ hs q3]
  congr 1
  rw [Nat.one_shiftLeft] at q3 ⊢
  have e : ((2 ^ j : Nat) : Int) = 2 ^ j := Int.natCast_pow 2 j
  rw [← e, IntKind.wrap_u64]
  exact Int.emod_eq_of_lt (Int.natCast_nonneg _) (Int.ofNat_lt.2 q3)
def CfgPost (w : World) (r : Ending) (w' : World) : Prop := ∃ x : Cx, r = .returned (.agg #[.int .i64 x.nodes, .slice x.na x.nn x.nc, .slice x.ha x.hops.length x.hc, .int .i64 x.guard, .int .i64 x.err, .int .i64 x.keep, .int .i64 x.loss, .int .i64 x.queue, .int .i64 x.life]) ∧ x.At w' ∧ mayQ x = true ∧ x.hops = [11, 15, 20] ∧ Below w.heap.size w w'
structure Mc (W w : World) (rb nb hb xb n : Nat) (C : Array Value) (Z : Nat → Nat) : Prop where
  or : Own w rb 25 #[.int .i64 0, .slice none 0 0, .slice none 0 0, .int .i64 0, .int .i64 0, .int .i64 0, .int .i64 0, .int .i64 0, .int .i64 0]
  on : Blk w nb 68 n (nrv Z)
  oh : Own w hb 3 #[.int .i64 11, .int .i64 15, .int .i64 20]
  ox : Own w xb 25 C
  lo : W.heap.size ≤ rb ∧ rb < nb ∧ nb < hb ∧ hb < xb
  bel : Below W.heap.size W w
  ok : Nok n Z
theorem Mc.set {W w : World} {rb nb hb xb n k j : Nat} {C : Array Value} {Z : Nat → Nat} (h : Mc W w rb nb hb xb n C Z) (hk : k < n) (hj : j < n) (hkj : k ≠ j) :
    Mc W (w.setCell ⟨nb, k, none⟩ (.int .u64 ((Z k ||| 1 <<< j : Nat) : Int))) rb nb hb xb n C (fun i => if i = k then Z k ||| 1 <<< j else Z i) := by
  have jj := Just.set nb w k (.int .u64 ((Z k ||| 1 <<< j : Nat) : Int))
  have hl := h.lo
  refine ⟨jj.own h.or (by omega), (h.on.put k _).ext (fun i hi => ?_), jj.own h.oh (by omega), jj.own h.ox (by omega), h.lo, jj.below h.bel (by omega) h.bel.size, nok_put h.ok hk hj hkj⟩
  unfold nrv
  by_cases e : i = k
  · simp only [if_pos e]
  · simp only [if_neg e]
set_option maxHeartbeats 4000000 in
theorem config_any (x0 x1 x2 x3 x4 x5 x6 : Int) (w : World) : Calls Tryz.prog 40 #[.int .i64 x0, .int .i64 x1, .int .i64 x2, .int .i64 x3, .int .i64 x4, .int .i64 x5, .int .i64 x6] w (CfgPost w) := by
  obtain ⟨i0, hi0, hz0, hz1, hz2⟩ := info_parts infoU
  obtain ⟨k0, a0, l0⟩ := um_ex x0 7 (by decide) (by decide)
  obtain ⟨k1, a1, l1⟩ := um_ex x1 3 (by decide) (by decide)
  obtain ⟨k6, a6, l6⟩ := um_ex x6 6 (by decide) (by decide)
  obtain ⟨k2, a2, l2⟩ := um_ex x2 30 (by decide) (by decide)
  obtain ⟨k3, a3, l3⟩ := um_ex x3 60 (by decide) (by decide)
  obtain ⟨k4, a4, l4⟩ := um_ex x4 8 (by decide) (by decide)
  obtain ⟨k5, a5, l5⟩ := um_ex x5 15 (by decide) (by decide)
  obtain ⟨n, hn⟩ : ∃ n, 2 + k0 = n := ⟨_, rfl⟩
  have hnb : 2 ≤ n ∧ n ≤ 8 := by omega
  have e0 : IntKind.i64.wrap (2 + (k0 : Int)) = (n : Int) := by rw [IntWalk.i64_in _ (by omega)]; omega
  have e1 : IntKind.i64.wrap (1 + (k1 : Int)) = 1 + (k1 : Int) := IntWalk.i64_in _ (by omega)
  have e2 : IntKind.i64.wrap (1 + (k2 : Int)) = 1 + (k2 : Int) := IntWalk.i64_in _ (by omega)
  have e3 : IntKind.i64.wrap (2 * (n : Int)) = 2 * (n : Int) := IntWalk.i64_in _ (by omega)
  have e4 : IntKind.i64.wrap (1 + (k4 : Int)) = 1 + (k4 : Int) := IntWalk.i64_in _ (by omega)
  have e5 : IntKind.i64.wrap (1 + (k5 : Int)) = 1 + (k5 : Int) := IntWalk.i64_in _ (by omega)
  have e6 : IntKind.i64.wrap (2 * (n : Int) + (k3 : Int)) = 2 * (n : Int) + (k3 : Int) := IntWalk.i64_in _ (by omega)
  have hmk : ∀ w : World, (Instr.makeSlice 22 (.int .i64 (n : Int)) (.int .i64 (n : Int))).run Tryz.prog w = .ok (.slice (some ⟨w.heap.size, 0, none⟩) n n) (w.alloc (.cells (madeCells #[.int .u64 0] n) 68)) := by
    intro w
    have := run_make w 22 68 i0 (.int .u64 0) Tryz.underlying22 hi0 hz0 .i64 .i64 (n : Int) (n : Int) (by omega) (by omega) (by rw [hz2]; omega) (by omega)
    rw [this, hz1]
    simp [Value.cells]
  have HCS : Hid (madeCells #[Value.int .u64 0] n = (List.replicate n (Value.int .u64 0)).toArray) := Lib.hid (by
    apply Array.toList_inj.1
    simpa using toList_madeCells_one (Value.int .u64 0) n)
  clear hn
  go_enter Tryz.func40, Tryz.ntmps40
  go_upto_region 3 with (fail)
  have HK := Lib.hid (show k0 < 7 ∧ k2 < 30 ∧ k3 < 60 ∧ k4 < 8 ∧ k5 < 15 ∧ k6 < 6 by omega)
  go_wp2_with fail
  obtain ⟨C, hC⟩ : ∃ C : Array Value, #[.int .i64 (n : Int), .slice (some ⟨w.heap.size + 1, 0, none⟩) n n, .slice (some ⟨w.heap.size + 1 + 1, 0, none⟩) 3 3, .int .i64 300, .int .i64 (k6 : Int), .int .i64 (1 + (k2 : Int)), .int .i64 (2 * (n : Int) + (k3 : Int)), .int .i64 (1 + (k4 : Int)), .int .i64 (1 + (k5 : Int))] = C := ⟨_, rfl⟩
  obtain ⟨w9, h9⟩ : ∃ w9, (((w.alloc (.cells #[.int .i64 0, .slice none 0 0, .slice none 0 0, .int .i64 0, .int .i64 0, .int .i64 0, .int .i64 0, .int .i64 0, .int .i64 0] 25)).alloc (.cells (madeCells #[.int .u64 0] n) 68)).alloc (.cells #[.int .i64 11, .int .i64 15, .int .i64 20] 3)).alloc (.cells C 25) = w9 := ⟨_, rfl⟩
  have T0 : Mc w w9 w.heap.size (w.heap.size + 1) (w.heap.size + 1 + 1) (w.heap.size + 1 + 1 + 1) n C (fun _ => 0) := by
    rw [← h9]
    have o0 := Own.new w 25 #[.int .i64 0, .slice none 0 0, .slice none 0 0, .int .i64 0, .int .i64 0, .int .i64 0, .int .i64 0, .int .i64 0, .int .i64 0]
    have b0 := (Below.refl w.heap.size w).alloc (Nat.le_refl _) (.cells #[.int .i64 0, .slice none 0 0, .slice none 0 0, .int .i64 0, .int .i64 0, .int .i64 0, .int .i64 0, .int .i64 0, .int .i64 0] 25)
    have s0 : (w.alloc (.cells #[.int .i64 0, .slice none 0 0, .slice none 0 0, .int .i64 0, .int .i64 0, .int .i64 0, .int .i64 0, .int .i64 0, .int .i64 0] 25)).heap.size = w.heap.size + 1 := by simp
    generalize w.alloc (.cells #[.int .i64 0, .slice none 0 0, .slice none 0 0, .int .i64 0, .int .i64 0, .int .i64 0, .int .i64 0, .int .i64 0, .int .i64 0] 25) = v0 at *
    have o1 := Own.new v0 68 (madeCells #[.int .u64 0] n)
    have b1 := b0.alloc b0.size (.cells (madeCells #[.int .u64 0] n) 68)
    have o0 := o0.alloc (.cells (madeCells #[.int .u64 0] n) 68)
    have s1 : (v0.alloc (.cells (madeCells #[.int .u64 0] n) 68)).heap.size = w.heap.size + 1 + 1 := by simp [s0]
    rw [s0] at o1
    generalize v0.alloc (.cells (madeCells #[.int .u64 0] n) 68) = v1 at *
    have o2 := Own.new v1 3 #[.int .i64 11, .int .i64 15, .int .i64 20]
    have b2 := b1.alloc b1.size (.cells #[.int .i64 11, .int .i64 15, .int .i64 20] 3)
    have o0 := o0.alloc (.cells #[.int .i64 11, .int .i64 15, .int .i64 20] 3)
    have o1 := o1.alloc (.cells #[.int .i64 11, .int .i64 15, .int .i64 20] 3)
    have s2 : (v1.alloc (.cells #[.int .i64 11, .int .i64 15, .int .i64 20] 3)).heap.size = w.heap.size + 1 + 1 + 1 := by simp [s1]
    rw [s1] at o2
    generalize v1.alloc (.cells #[.int .i64 11, .int .i64 15, .int .i64 20] 3) = v2 at *
    have o3 := Own.new v2 25 C
    rw [s2] at o3
    exact ⟨o0.alloc _, (Blk.same (o1.alloc _) HCS.out).ext (fun _ _ => rfl), o2.alloc _, o3, by omega, b2.alloc b2.size _, fun i _ => ⟨Nat.two_pow_pos n, by simp⟩⟩
  have HC := Lib.hid hC
  rw [hC, h9]
  clear hC h9 hmk HCS a0 a1 a2 a3 a4 a5 a6 l0 l2 l3 l4 l5 l6 e0 e1 e2 e3 e4 e5 e6 hi0 hz0 hz1 hz2
  obtain ⟨rb, hrb⟩ : ∃ q, w.heap.size = q := ⟨_, rfl⟩
  have HRB := Lib.hid hrb
  rw [hrb] at T0 ⊢
  obtain ⟨nb, hnb'⟩ : ∃ q, rb + 1 = q := ⟨_, rfl⟩
  rw [hnb'] at T0 ⊢
  obtain ⟨hb, hhb⟩ : ∃ q, nb + 1 = q := ⟨_, rfl⟩
  rw [hhb] at T0 ⊢
  obtain ⟨xb, hxb⟩ : ∃ q, hb + 1 = q := ⟨_, rfl⟩
  rw [hxb] at T0 ⊢
  have HNB := Lib.hid (And.intro hnb' hhb)
  have hC1 : C[1]? = some (.slice (some ⟨nb, 0, none⟩) n n) := by rw [← HC.out, ← HNB.out.1, ← HRB.out]; rfl
  clear hrb hnb' hhb hxb
  go_loopw [62] (fun i wz => ∃ (k : Nat) (Z : Nat → Nat), i = .int .i64 k ∧ k ≤ n ∧ Mc w wz rb nb hb xb n C Z) (fun i _ => n - (intOf i).toNat)
  case atStart => exact ⟨0, _, rfl, Nat.zero_le _, T0⟩
  case round =>
    clear T0
    obtain ⟨k, Z, rfl, hk, T⟩ := hrel
    by_cases hlt : k < n
    · go_wp2_with fail
      go_loopw [66] (fun i wz => ∃ (j : Nat) (Z : Nat → Nat), i = .int .i64 j ∧ j ≤ n ∧ Mc w wz rb nb hb xb n C Z) (fun i _ => n - (intOf i).toNat)
      case atStart => exact ⟨0, _, rfl, Nat.zero_le _, T⟩
      case round =>
        clear T
        obtain ⟨j, Z, rfl, hj, T⟩ := hrel
        by_cases hlj : j < n
        · by_cases ekj : k = j
          · subst ekj
            have g1 : ((k : Int) != (k : Int)) = false := by simp
            have hlt' : (k : Int) < (n : Int) := by omega
            go_wp2_with fail
            exact ⟨⟨k + 1, Z, by simp, by omega, T⟩, by simp [intOf]; omega⟩
          have g1 : ((k : Int) != (j : Int)) = true := by simp; omega
          have hlj' : (j : Int) < (n : Int) := by omega
          have e1 : IntKind.i64.wrap ((k : Int) - (j : Int)) = (k : Int) - (j : Int) := IntWalk.i64_in _ (by omega)
          have e2 : IntKind.i64.wrap ((j : Int) - (k : Int)) = (j : Int) - (k : Int) := IntWalk.i64_in _ (by omega)
          cases g2 : decide ((k : Int) - (j : Int) ≤ 1 + (k1 : Int))
          · go_wp2_with fail
            exact ⟨⟨j + 1, Z, by simp, by omega, T⟩, by simp [intOf]; omega⟩
          cases g3 : decide ((j : Int) - (k : Int) ≤ 1 + (k1 : Int))
          · go_wp2_with fail
            exact ⟨⟨j + 1, Z, by simp, by omega, T⟩, by simp [intOf]; omega⟩
          have c1 : wr.cell? ⟨xb, 1, none⟩ = some (.slice (some ⟨nb, 0, none⟩) n n) := (T.ox.cell 1).trans hC1
          have c2 : wr.cell? ⟨nb, k, none⟩ = some (.int .u64 (Z k : Int)) := T.on.cell hlt
          have f2 : wr.frozen? ⟨nb, k, none⟩ = false := T.on.free k
          have hz : Z k < 18446744073709551616 := Nat.lt_of_lt_of_le (T.ok k hlt).1 (Nat.le_trans (Nat.pow_le_pow_right (by decide) (show n ≤ 64 by omega)) (by decide))
          have e3 := shl64 hz (show j < 64 by omega)
          have e4 : IntKind.u64.wrap (j : Int) = (j : Int) := by rw [IntKind.wrap_u64]; omega
          have T' := T.set hlt hlj ekj
          have hlt' : (k : Int) < (n : Int) := by omega
          clear hz T
          go_wp2_with fail
          exact ⟨⟨j + 1, _, by simp, by omega, T'⟩, by simp [intOf]; omega⟩
        · obtain rfl : n = j := by omega
          go_wp2_with fail
          exact ⟨⟨k + 1, Z, by simp, by omega, T⟩, by simp [intOf]; omega⟩
    · obtain rfl : n = k := by omega
      have hCC : C = #[.int .i64 (n : Int), .slice (some ⟨nb, 0, none⟩) n n, .slice (some ⟨hb, 0, none⟩) 3 3, .int .i64 300, .int .i64 (k6 : Int), .int .i64 (1 + (k2 : Int)), .int .i64 (2 * (n : Int) + (k3 : Int)), .int .i64 (1 + (k4 : Int)), .int .i64 (1 + (k5 : Int))] := by
        rw [← HC.out, ← HNB.out.2, ← HNB.out.1, ← HRB.out]
      have ox := T.ox
      rw [hCC] at ox
      clear hCC
      go_upto_region 14 with (fail)
      refine wp_row_out rfl rfl rfl rfl rfl ox Tryz.underlying25 rfl (by kernel_rfl) rfl rfl T.or (by kernel_rfl) rfl (by simp [Value.oneCell']) ?_
      have jR := Just.setRow rb wr #[.int .i64 (n : Int), .slice (some ⟨nb, 0, none⟩) n n, .slice (some ⟨hb, 0, none⟩) 3 3, .int .i64 300, .int .i64 (k6 : Int), .int .i64 (1 + (k2 : Int)), .int .i64 (2 * (n : Int) + (k3 : Int)), .int .i64 (1 + (k4 : Int)), .int .i64 (1 + (k5 : Int))]
      go_wp2_with fail
      refine bodyPost_ret (results_cell_row rfl _ _ rb 25 _ (0, 0) _ rfl (T.or.setRow _) Tryz.underlying25 rfl (by kernel_rfl)) rfl ?_
      have hl := T.lo
      have hk := HK.out
      have hon := jR.own T.on (by omega)
      have hoh := jR.own T.oh (by omega)
      refine ⟨⟨n, some ⟨nb, 0, none⟩, n, n, Z, some ⟨hb, 0, none⟩, [11, 15, 20], 3, 300, k6, 1 + (k2 : Int), 2 * (n : Int) + (k3 : Int), 1 + (k4 : Int), 1 + (k5 : Int)⟩, rfl, ⟨Nat.le_refl _, by unfold maxLen; dsimp only; omega, ?_, ?_, Nat.le_refl 3, by unfold maxLen; dsimp only; omega, ?_, fun e => by cases e⟩, ?_, rfl, ?_⟩
      · exact Row.own hon (fun i hi => by simp [nrv, hi])
      · exact fun i hi => Nat.lt_of_lt_of_le (T.ok i hi).1 (Nat.le_trans (Nat.pow_le_pow_right (by decide) (show n ≤ 64 by omega)) (by decide))
      · exact Row.own hoh (fun i hi => by rcases (show i = 0 ∨ i = 1 ∨ i = 2 by have : i < 3 := hi; omega) with rfl | rfl | rfl <;> rfl)
      · unfold mayQ nearQ inB
        dsimp only
        rw [Int.toNat_natCast, nrB_yes T.ok]
        have hH : Hp.mayB (fun i => ([11, 15, 20] : List Int).getD i 0) ([11, 15, 20] : List Int).length = true := by decide
        rw [hH]
        simp only [Bool.and_eq_true, decide_eq_true_eq, true_and, and_true]
        omega
      · rw [HRB.out]
        exact jR.below (by rw [← HRB.out]; exact T.bel) (by omega) (by rw [← HRB.out]; exact T.bel.size)
end Go.Proofs.YtiflmdekcjbmbaaGreat.Nd
set_option maxRecDepth 100000
namespace Go.Proofs.YtiflmdekcjbmbaaGreat.Nd
set_option linter.unusedVariables false
set_option linter.unusedSimpArgs false
open Go.RowKit Lb

theorem slot_nil (asn n : Int) (w : World) : Calls Tryz.prog 17 #[.pointer none, .int .i64 asn, .int .i64 n] w fun r w' => r = .returned (.tuple #[]) ∧ w = w' := by
  go_enter Tryz.func17, Tryz.ntmps17
  go_wp2_with fail
  refine (lives_nil w).mono ?_
  rintro r w' ⟨rfl, rfl⟩
  go_wp2_with fail
  refine bodyPost_ret (results_none rfl _ _ _) rfl ?_
  exact ⟨rfl, rfl⟩
theorem reboot_nil (w : World) : Calls Tryz.prog 30 #[.pointer none] w fun r w' => r = .returned (.tuple #[]) ∧ w = w' := by
  go_enter Tryz.func30, Tryz.ntmps30
  go_wp2_with fail
  refine (lives_nil w).mono ?_
  rintro r w' ⟨rfl, rfl⟩
  go_wp2_with fail
  refine bodyPost_ret (results_none rfl _ _ _) rfl ?_
  exact ⟨rfl, rfl⟩
theorem plan_nil (asn : Int) (w : World) : Calls Tryz.prog 19 #[.pointer none, .int .i64 asn] w fun r w' => r = .returned (.tuple #[.int .i64 (-1), .slice none 0 0]) ∧ w = w' := by
  go_enter Tryz.func19, Tryz.ntmps19
  go_wp2_with fail
  refine (lives_nil w).mono ?_
  rintro r w' ⟨rfl, rfl⟩
  go_wp2_with fail
  go_ret2
  exact ⟨rfl, rfl⟩
theorem hear_nil (asn m : Int) (a : Option Addr) (n c : Nat) (w : World) : Calls Tryz.prog 22 #[.pointer none, .int .i64 asn, .slice a n c, .int .i64 m] w fun r w' => r = .returned (.tuple #[.slice none 0 0, .slice none 0 0]) ∧ w = w' := by
  go_enter Tryz.func22, Tryz.ntmps22
  go_wp2_with fail
  refine (lives_nil w).mono ?_
  rintro r w' ⟨rfl, rfl⟩
  go_wp2_with fail
  go_ret2
  exact ⟨rfl, rfl⟩
theorem ack_nil (asn m : Int) (a : Option Addr) (n c : Nat) (w : World) : Calls Tryz.prog 24 #[.pointer none, .int .i64 asn, .slice a n c, .int .i64 m] w fun r w' => r = .returned (.slice none 0 0) ∧ w = w' := by
  go_enter Tryz.func24, Tryz.ntmps24
  go_wp2_with fail
  refine (synced_nil w).mono ?_
  rintro r w' ⟨rfl, rfl⟩
  go_wp2_with fail
  go_ret
  exact ⟨rfl, rfl⟩
theorem end_nil (asn : Int) (w : World) : Calls Tryz.prog 26 #[.pointer none, .int .i64 asn] w fun r w' => r = .returned (.slice none 0 0) ∧ w = w' := by
  go_enter Tryz.func26, Tryz.ntmps26
  go_wp2_with fail
  refine (synced_nil w).mono ?_
  rintro r w' ⟨rfl, rfl⟩
  go_wp2_with fail
  go_ret
  exact ⟨rfl, rfl⟩
theorem send_nil (asn tt : Int) (a : Option Addr) (n c : Nat) (w : World) : Calls Tryz.prog 28 #[.pointer none, .int .i64 asn, .int .i64 tt, .slice a n c] w fun r w' => r = .returned (.tuple #[.int .i64 0, .int .i64 1]) ∧ w = w' := by
  go_enter Tryz.func28, Tryz.ntmps28
  go_wp2_with fail
  refine (lives_nil w).mono ?_
  rintro r w' ⟨rfl, rfl⟩
  go_wp2_with fail
  go_ret2
  exact ⟨rfl, rfl⟩
theorem beat_any {w : World} {b : Nat} {s : Ns} {h : Hm} (n : Nd w b s h) (asn : Int) : Calls Tryz.prog 128 #[.pointer (some ⟨b, 0, none⟩), .int .i64 asn] w fun r w' => r = .returned (.agg #[.int .i64 1, .int .i64 asn, .int .i64 (rankN s), .int .i64 0, .slice none 0 0]) ∧ Below w.heap.size w w' := by
  have b0 := (Below.refl w.heap.size w).alloc (Nat.le_refl _) (.cells #[.int .i64 0, .int .i64 0, .int .i64 0, .int .i64 0, .slice none 0 0] 59)
  have o0 := Own.new w 59 #[.int .i64 0, .int .i64 0, .int .i64 0, .int .i64 0, .slice none 0 0]
  have PR := rank_any (n.below b0)
  obtain ⟨rk, hrk⟩ : ∃ q, rankN s = q := ⟨_, rfl⟩
  rw [hrk] at PR ⊢
  clear hrk n
  go_enter Tryz.func128, Tryz.ntmps128
  go_upto_region 1 with (fail)
  obtain ⟨xb, hxb⟩ : ∃ q, w.heap.size = q := ⟨_, rfl⟩
  have HB := Lib.hid b0
  have HXB := Lib.hid hxb
  rw [hxb] at o0 ⊢
  clear b0 hxb
  generalize w.alloc (.cells #[.int .i64 0, .int .i64 0, .int .i64 0, .int .i64 0, .slice none 0 0] 59) = wx at *
  go_wp2_with fail
  refine PR.mono ?_
  rintro r w' ⟨rfl, rfl⟩
  clear PR
  go_wp2_with (refine wpList_store_row rfl _ _ _ rfl xb #[.int .i64 1, .int .i64 asn, .int .i64 rk, .int .i64 0, .slice none 0 0] rfl rfl 59 _ o0 (by kernel_rfl) rfl (by simp [Value.oneCell']) ?_)
  have jR := Just.setRow xb wx #[.int .i64 1, .int .i64 asn, .int .i64 rk, .int .i64 0, .slice none 0 0]
  refine bodyPost_ret (results_cell_row rfl _ _ xb 59 _ (0, 0) _ rfl (o0.setRow _) Tryz.underlying59 rfl (by kernel_rfl)) rfl ?_
  exact ⟨rfl, jR.below HB.out (by rw [HXB.out]; exact Nat.le_refl _) (by have := HB.out.size; omega)⟩
end Go.Proofs.YtiflmdekcjbmbaaGreat.Nd
set_option maxRecDepth 100000
namespace Go.Proofs.YtiflmdekcjbmbaaGreat.Bf
set_option linter.unusedVariables false
set_option linter.unusedSimpArgs false
open Go.RowKit Lb

/-- The first 'bits' bits of B stand in n bytes; what fills the last byte is 0. -/
structure Str (n bits : Nat) (Z : Nat → Nat) (B : Nat → Bool) : Prop where
  lt : ∀ k, k < n → Z k < 256
  bit : ∀ k, k < n → ∀ i, i < 8 → (Z k).testBit (7 - i) = (decide (8 * k + i < bits) && B (8 * k + i))
theorem Str.room {n bits : Nat} {Z : Nat → Nat} {B : Nat → Bool} (h : Str n bits Z B) (hb : bits ≤ 8 * n) : Str (n + 1) bits (fun k => if k < n then Z k else 0) B where
  lt k hk := by
    by_cases h1 : k < n
    · simpa [h1] using h.lt k h1
    · simp [h1]
  bit k hk i hi := by
    by_cases h1 : k < n
    · simpa [h1] using h.bit k h1 i hi
    · have : ¬ 8 * k + i < bits := by omega
      simp [h1, this]
theorem Str.ext {n bits : Nat} {Z Z' : Nat → Nat} {B B' : Nat → Bool} (h : Str n bits Z B) (hZ : ∀ k, k < n → Z k = Z' k) (hB : ∀ p, p < bits → B p = B' p) : Str n bits Z' B' where
  lt k hk := by rw [← hZ k hk]; exact h.lt k hk
  bit k hk i hi := by
    rw [← hZ k hk, h.bit k hk i hi]
    by_cases h1 : 8 * k + i < bits
    · rw [hB _ h1]
    · simp [h1]
def part (N w t : Nat) : Nat := (N >>> w) % 256 &&& (2 ^ t - 1)
theorem part_bit (N w t m : Nat) (ht : t ≤ 8) : (part N w t).testBit m = (decide (m < t) && N.testBit (w + m)) := by
  unfold part
  rw [Nat.testBit_and, Nat.testBit_two_pow_sub_one, show (256 : Nat) = 2 ^ 8 from rfl, Nat.testBit_mod_two_pow, Nat.testBit_shiftRight]
  by_cases h : m < t
  · have : m < 8 := by omega
    simp [h, this]
  · simp [h]
theorem part_lt (N w t : Nat) : part N w t < 256 := Nat.lt_of_le_of_lt Nat.and_le_left (Nat.mod_lt _ (by decide))
/-- The next t bits come in. -/
theorem Str.step {n bits t N w : Nat} {Z : Nat → Nat} {B : Nat → Bool} (h : Str n bits Z B) (h0 : bits < 8 * n) (h1 : 8 * n ≤ bits + 8) (ht : 1 ≤ t) (ht2 : t ≤ 8 * n - bits) (hB : ∀ p, bits ≤ p → p < bits + t → B p = N.testBit (w + (bits + t - 1 - p))) :
    Str n (bits + t) (fun k => if k = n - 1 then Z k ||| part N w t <<< (8 * n - bits - t) % 256 else Z k) B where
  lt k hk := by
    by_cases e : k = n - 1
    · rw [if_pos e]
      exact Nat.or_lt_two_pow (n := 8) (h.lt k hk) (Nat.mod_lt _ (by decide))
    · rw [if_neg e]
      exact h.lt k hk
  bit k hk i hi := by
    by_cases e : k = n - 1
    · rw [if_pos e, Nat.testBit_or, h.bit k hk i hi, show (256 : Nat) = 2 ^ 8 from rfl, Nat.testBit_mod_two_pow, Nat.testBit_shiftLeft, part_bit _ _ _ _ (by omega)]
      generalize hp : 8 * k + i = p
      have g0 : 7 - i < 8 := by omega
      by_cases p1 : p < bits
      · have : ¬ 7 - i - (8 * n - bits - t) < t := by omega
        have p2 : p < bits + t := by omega
        simp [p1, p2, this]
      · by_cases p2 : p < bits + t
        · have q1 : 7 - i ≥ 8 * n - bits - t := by omega
          have q2 : 7 - i - (8 * n - bits - t) < t := by omega
          rw [hB p (by omega) p2, show bits + t - 1 - p = 7 - i - (8 * n - bits - t) from by omega]
          simp [p1, p2, q1, q2, g0]
        · have q1 : ¬ 7 - i ≥ 8 * n - bits - t := by omega
          simp [p1, p2, q1]
    · rw [if_neg e, h.bit k hk i hi]
      have p1 : 8 * k + i < bits := by omega
      have p2 : 8 * k + i < bits + t := by omega
      simp [p1, p2]
theorem eq_byte {z y : Nat} (hz : z < 256) (hy : y < 256) (h : ∀ i, i < 8 → z.testBit (7 - i) = y.testBit (7 - i)) : z = y := by
  apply Nat.eq_of_testBit_eq
  intro j
  by_cases hj : j < 8
  · have := h (7 - j) (by omega)
    rw [show 7 - (7 - j) = j from by omega] at this
    exact this
  · rw [Nat.testBit_lt_two_pow (Nat.lt_of_lt_of_le (show z < 2 ^ 8 from hz) (Nat.pow_le_pow_right (by decide) (by omega))), Nat.testBit_lt_two_pow (Nat.lt_of_lt_of_le (show y < 2 ^ 8 from hy) (Nat.pow_le_pow_right (by decide) (by omega)))]
/-- What stands behind a number's width bits. -/
def app (B : Nat → Bool) (bits N w : Nat) (p : Nat) : Bool := if p < bits then B p else N.testBit (w - 1 - (p - bits))
end Go.Proofs.YtiflmdekcjbmbaaGreat.Bf
