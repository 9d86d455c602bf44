/-
  A node (chapter 24): May. A whole row that is loaded and stored, or that a function hands back out of a variable of its own. Results, the first of which lies in a variable of its own, a whole row.
-/
import Derived.Test.YtiflmdekcjbmbaaGreatGNodeNil13
import Derived.Test.YtiflmdekcjbmbaaGreatGNodeNil01
import Derived.Deep.WholeRow
set_option maxRecDepth 100000
namespace Go.Proofs.YtiflmdekcjbmbaaGreat.Nd
set_option linter.unusedVariables false
set_option linter.unusedSimpArgs false
open Go.RowKit Lb

theorem low_bit (N D : Nat) (hN : N < 18446744073709551616) : Go.bits .and .u64 ((N : Int) / 2 ^ D) 1 = (((if N.testBit D then 1 else 0 : Nat)) : Int) := by
  have e : ((N : Int) / 2 ^ D) = ((N / 2 ^ D : Nat) : Int) := by simp
  have hl : N / 2 ^ D < 18446744073709551616 := Nat.lt_of_le_of_lt (Nat.div_le_self _ _) hN
  have := u64_and_nat (N / 2 ^ D) 1 hl (by decide)
  rw [e, show (1 : Int) = ((1 : Nat) : Int) from rfl, this, Nat.and_one_is_mod, Nat.testBit_eq_decide_div_mod_eq]
  congr 1
  have : N / 2 ^ D % 2 < 2 := Nat.mod_lt _ (by decide)
  by_cases h : N / 2 ^ D % 2 = 1
  · simp [h]
  · simp [h]
    omega
theorem high_part (x n : Nat) : ((x : Int) / 2 ^ n != 0) = !decide (x < 2 ^ n) := by
  have e : ((x : Int) / 2 ^ n) = ((x / 2 ^ n : Nat) : Int) := by simp
  rw [e]
  by_cases h : x < 2 ^ n
  · rw [Nat.div_eq_of_lt h]; simp [h]
  · have : 0 < x / 2 ^ n := Nat.div_pos (by omega) (Nat.two_pow_pos n)
    rw [decide_eq_false h]
    simp
    omega
/-- Who hears whom may be: nobody hears itself, nor who is none. -/
def nrB (N : Nat) (Z : Nat → Nat) : Nat → Bool
  | 0 => true
  | k + 1 => nrB N Z k && (!(Z k).testBit k && decide (Z k < 2 ^ N))
theorem nrB_no {N : Nat} {Z : Nat → Nat} {n k : Nat} (hk : k < n) (h : (!(Z k).testBit k && decide (Z k < 2 ^ N)) = false) : nrB N Z n = false := by
  induction n with
  | zero => omega
  | succ n ih =>
    rw [nrB]
    by_cases e : k = n
    · subst e; rw [h]; simp
    · rw [ih (by omega)]; rfl
set_option maxHeartbeats 1000000 in
theorem near_any (N : Nat) (a : Option Addr) (n c : Nat) (Z : Nat → Nat) (w : World) (hN : 2 ≤ N ∧ N ≤ 16) (hn : n ≤ c) (hm : c ≤ maxLen) (hZ : Row w a n (fun i => .int .u64 (Z i : Int))) (hb : ∀ i, i < n → Z i < 18446744073709551616) :
    Calls Tryz.prog 49 #[.int .i64 (N : Nat), .slice a n c] w fun r w' => r = .returned (.bool (decide (n = N) && nrB N Z n)) ∧ w = w' := by
  unfold maxLen at hm
  have hn63 : (n : Int) ≤ 9223372036854775807 := by omega
  by_cases e : n = N
  rotate_left 1
  · have g : ((n : Int) != (N : Int)) = true := by simpa using fun h => e (by omega)
    have HD : Hid ((decide (n = N) && nrB N Z n) = false) := Lib.hid (by rw [decide_eq_false e]; rfl)
    clear e
    go_enter Tryz.func49, Tryz.ntmps49
    go_wp2_with fail
    go_ret
    exact ⟨by rw [HD.out]; rfl, rfl⟩
  subst e
  have g : ((n : Int) != (n : Int)) = false := by simp
  have HB := Lib.hid hb
  have HZ := Lib.hid hZ
  clear hb hZ
  go_enter Tryz.func49, Tryz.ntmps49
  go_wp2_with fail
  go_loopw [13] (fun i wz => ∃ k : Nat, i = .int .i64 k ∧ k ≤ n ∧ Hid (nrB n Z k = true) ∧ w = wz) (fun i _ => n - (intOf i).toNat)
  case atStart => exact ⟨0, rfl, Nat.zero_le _, Lib.hid rfl, rfl⟩
  case round =>
    obtain ⟨k, rfl, hk, HR, rfl⟩ := hrel
    by_cases hlt : k < n
    · obtain ⟨bo, off, rfl, _, c0⟩ := HZ.out.at_ hlt
      have hz := HB.out k hlt
      have hno := nrB_no (N := n) (Z := Z) hlt
      have hyes : nrB n Z (k + 1) = (nrB n Z k && (!(Z k).testBit k && decide (Z k < 2 ^ n))) := rfl
      obtain ⟨x, hx⟩ : ∃ x, Z k = x := ⟨_, rfl⟩
      rw [hx] at c0 hz hno hyes
      have e1 := low_bit x k hz
      have e2 := high_part x n
      clear hx hz
      cases h1 : x.testBit k
      · rw [h1] at e1 hno hyes
        have e1 : bits .and .u64 ((x : Int) / 2 ^ k) 1 = 0 := e1
        cases h2 : decide (x < 2 ^ n)
        · rw [h2] at e2 hno
          have e2 : ((x : Int) / 2 ^ n != 0) = true := e2
          have HD : Hid (nrB n Z n = false) := Lib.hid (hno rfl)
          clear hno hyes h1 h2
          go_wp2_with fail
          go_ret
          exact ⟨by rw [HD.out]; simp, rfl⟩
        · rw [h2] at e2 hyes
          have e2 : ((x : Int) / 2 ^ n != 0) = false := e2
          have HD : Hid (nrB n Z (k + 1) = true) := Lib.hid (by rw [hyes, HR.out]; rfl)
          clear hno hyes h1 h2
          go_wp2_with fail
          exact ⟨⟨k + 1, by simp, by omega, HD, by first | rfl | trivial⟩, by simp [intOf]; omega⟩
      · rw [h1] at e1 hno
        have e1 : bits .and .u64 ((x : Int) / 2 ^ k) 1 = 1 := e1
        have HD : Hid (nrB n Z n = false) := Lib.hid (hno rfl)
        clear hno hyes h1
        go_wp2_with fail
        go_ret
        exact ⟨by rw [HD.out]; simp, rfl⟩
    · obtain rfl : n = k := by omega
      go_wp2_with fail
      go_ret
      exact ⟨by rw [HR.out]; simp, rfl⟩
/-- A mesh as it is handed in. -/
structure Cx where
  nodes : Int
  na : Option Addr
  nn : Nat
  nc : Nat
  Z : Nat → Nat
  ha : Option Addr
  hops : List Int
  hc : Nat
  guard : Int
  err : Int
  keep : Int
  loss : Int
  queue : Int
  life : Int
structure Cx.At (w : World) (x : Cx) : Prop where
  n1 : x.nn ≤ x.nc
  n2 : x.nc ≤ maxLen
  near : Row w x.na x.nn (fun i => .int .u64 (x.Z i : Int))
  nb : ∀ i, i < x.nn → x.Z i < 18446744073709551616
  h1 : x.hops.length ≤ x.hc
  h2 : x.hc ≤ maxLen
  hops : Row w x.ha x.hops.length (zv x.hops)
  hnil : x.ha = none → x.hops.length = 0
theorem Cx.At.below {w w' : World} {x : Cx} (h : x.At w) (j : Below w.heap.size w w') : x.At w' := ⟨h.n1, h.n2, h.near.below j, h.nb, h.h1, h.h2, h.hops.below j, h.hnil⟩
def Cx.cfg (x : Cx) : Cfg := ⟨x.nodes, x.hops, x.guard, x.err, x.keep, x.loss, x.queue, x.life⟩
def nearQ (x : Cx) : Bool := decide ((x.nn : Int) = x.nodes) && nrB x.nodes.toNat x.Z x.nn
def mayQ (x : Cx) : Bool := inB x.nodes 2 16 && (nearQ x && (Hp.mayB (fun i => x.hops.getD i 0) x.hops.length && (inB x.guard 1 4000 && (inB x.err 0 1000 && (inB x.keep 1 10000 && (inB x.loss 1 10000 && (inB x.queue 1 32 && inB x.life 1 15)))))))
theorem nearQ_any (x : Cx) (w : World) (H : x.At w) (h0 : inB x.nodes 2 16 = true) (q : Bool) (e : nearQ x = q) : Calls Tryz.prog 49 #[.int .i64 x.nodes, .slice x.na x.nn x.nc] w fun r w' => r = .returned (.bool q) ∧ w = w' := by
  unfold inB at h0
  rw [decide_eq_true_eq] at h0
  obtain ⟨N, hN⟩ := Int.eq_ofNat_of_zero_le (show 0 ≤ x.nodes by omega)
  have := near_any N x.na x.nn x.nc x.Z w (by omega) H.n1 H.n2 H.near H.nb
  have e2 : (decide (x.nn = N) && nrB N x.Z x.nn) = q := by
    rw [← e]
    unfold nearQ
    rw [hN, Int.toNat_natCast]
    congr 1
    exact decide_eq_decide.2 ⟨fun h => by omega, fun h => by omega⟩
  rw [e2] at this
  rw [hN]
  exact this
set_option maxHeartbeats 8000000 in
theorem may_any (x : Cx) (w : World) (h : x.At w) :
    Calls Tryz.prog 14 #[.agg #[.int .i64 x.nodes, .slice x.na x.nn x.nc, .slice x.ha x.hops.length x.hc, .int .i64 x.guard, .int .i64 x.err, .int .i64 x.keep, .int .i64 x.loss, .int .i64 x.queue, .int .i64 x.life]] w fun r w' => r = .returned (.bool (mayQ x)) ∧ Below w.heap.size w w' := by
  have hb := (Below.refl w.heap.size w).alloc (Nat.le_refl _) (.cells #[.int .i64 x.nodes, .slice x.na x.nn x.nc, .slice x.ha x.hops.length x.hc, .int .i64 x.guard, .int .i64 x.err, .int .i64 x.keep, .int .i64 x.loss, .int .i64 x.queue, .int .i64 x.life] 25)
  have H := h.below hb
  have P0 := fun (q : Bool) (e : inB x.nodes 2 16 = q) => e ▸ isIn_any x.nodes 2 16 (w.alloc (.cells #[.int .i64 x.nodes, .slice x.na x.nn x.nc, .slice x.ha x.hops.length x.hc, .int .i64 x.guard, .int .i64 x.err, .int .i64 x.keep, .int .i64 x.loss, .int .i64 x.queue, .int .i64 x.life] 25))
  have P1 := fun (q : Bool) (h0 : inB x.nodes 2 16 = true) (e : nearQ x = q) => nearQ_any x (w.alloc (.cells #[.int .i64 x.nodes, .slice x.na x.nn x.nc, .slice x.ha x.hops.length x.hc, .int .i64 x.guard, .int .i64 x.err, .int .i64 x.keep, .int .i64 x.loss, .int .i64 x.queue, .int .i64 x.life] 25)) H h0 q e
  have P2 := fun (q : Bool) (e : Hp.mayB (fun i => x.hops.getD i 0) x.hops.length = q) => e ▸ Hp.may_any x.ha x.hops.length x.hc (fun i => x.hops.getD i 0) (w.alloc (.cells #[.int .i64 x.nodes, .slice x.na x.nn x.nc, .slice x.ha x.hops.length x.hc, .int .i64 x.guard, .int .i64 x.err, .int .i64 x.keep, .int .i64 x.loss, .int .i64 x.queue, .int .i64 x.life] 25)) H.h1 H.h2 H.hops
  have P3 := fun (q : Bool) (e : inB x.guard 1 4000 = q) => e ▸ isIn_any x.guard 1 4000 (w.alloc (.cells #[.int .i64 x.nodes, .slice x.na x.nn x.nc, .slice x.ha x.hops.length x.hc, .int .i64 x.guard, .int .i64 x.err, .int .i64 x.keep, .int .i64 x.loss, .int .i64 x.queue, .int .i64 x.life] 25))
  have P4 := fun (q : Bool) (e : inB x.err 0 1000 = q) => e ▸ isIn_any x.err 0 1000 (w.alloc (.cells #[.int .i64 x.nodes, .slice x.na x.nn x.nc, .slice x.ha x.hops.length x.hc, .int .i64 x.guard, .int .i64 x.err, .int .i64 x.keep, .int .i64 x.loss, .int .i64 x.queue, .int .i64 x.life] 25))
  have P5 := fun (q : Bool) (e : inB x.keep 1 10000 = q) => e ▸ isIn_any x.keep 1 10000 (w.alloc (.cells #[.int .i64 x.nodes, .slice x.na x.nn x.nc, .slice x.ha x.hops.length x.hc, .int .i64 x.guard, .int .i64 x.err, .int .i64 x.keep, .int .i64 x.loss, .int .i64 x.queue, .int .i64 x.life] 25))
  have P6 := fun (q : Bool) (e : inB x.loss 1 10000 = q) => e ▸ isIn_any x.loss 1 10000 (w.alloc (.cells #[.int .i64 x.nodes, .slice x.na x.nn x.nc, .slice x.ha x.hops.length x.hc, .int .i64 x.guard, .int .i64 x.err, .int .i64 x.keep, .int .i64 x.loss, .int .i64 x.queue, .int .i64 x.life] 25))
  have P7 := fun (q : Bool) (e : inB x.queue 1 32 = q) => e ▸ isIn_any x.queue 1 32 (w.alloc (.cells #[.int .i64 x.nodes, .slice x.na x.nn x.nc, .slice x.ha x.hops.length x.hc, .int .i64 x.guard, .int .i64 x.err, .int .i64 x.keep, .int .i64 x.loss, .int .i64 x.queue, .int .i64 x.life] 25))
  have P8 := fun (q : Bool) (e : inB x.life 1 15 = q) => e ▸ isIn_any x.life 1 15 (w.alloc (.cells #[.int .i64 x.nodes, .slice x.na x.nn x.nc, .slice x.ha x.hops.length x.hc, .int .i64 x.guard, .int .i64 x.err, .int .i64 x.keep, .int .i64 x.loss, .int .i64 x.queue, .int .i64 x.life] 25))
  have oB := Own.new w 25 #[.int .i64 x.nodes, .slice x.na x.nn x.nc, .slice x.ha x.hops.length x.hc, .int .i64 x.guard, .int .i64 x.err, .int .i64 x.keep, .int .i64 x.loss, .int .i64 x.queue, .int .i64 x.life]
  have HM : Hid (mayQ x = (inB x.nodes 2 16 && (nearQ x && (Hp.mayB (fun i => x.hops.getD i 0) x.hops.length && (inB x.guard 1 4000 && (inB x.err 0 1000 && (inB x.keep 1 10000 && (inB x.loss 1 10000 && (inB x.queue 1 32 && inB x.life 1 15))))))))) := Lib.hid rfl
  clear h H
  cases h0 : inB x.nodes 2 16
  · skip
    rw [h0] at HM
    go_enter Tryz.func14, Tryz.ntmps14
    go_upto_region 1 with (fail)
    obtain ⟨xb, hxb⟩ : ∃ q, w.heap.size = q := ⟨_, rfl⟩
    have HB := Lib.hid hb
    clear hb
    rw [hxb] at oB ⊢
    generalize w.alloc (.cells #[.int .i64 x.nodes, .slice x.na x.nn x.nc, .slice x.ha x.hops.length x.hc, .int .i64 x.guard, .int .i64 x.err, .int .i64 x.keep, .int .i64 x.loss, .int .i64 x.queue, .int .i64 x.life] 25) = wx at *
    have c0 : wx.cell? ⟨xb, 0, none⟩ = some (.int .i64 x.nodes) := oB.cell 0
    have c1 : wx.cell? ⟨xb, 1, none⟩ = some (.slice x.na x.nn x.nc) := oB.cell 1
    have c2 : wx.cell? ⟨xb, 2, none⟩ = some (.slice x.ha x.hops.length x.hc) := oB.cell 2
    have c3 : wx.cell? ⟨xb, 3, none⟩ = some (.int .i64 x.guard) := oB.cell 3
    have c4 : wx.cell? ⟨xb, 4, none⟩ = some (.int .i64 x.err) := oB.cell 4
    have c5 : wx.cell? ⟨xb, 5, none⟩ = some (.int .i64 x.keep) := oB.cell 5
    have c6 : wx.cell? ⟨xb, 6, none⟩ = some (.int .i64 x.loss) := oB.cell 6
    have c7 : wx.cell? ⟨xb, 7, none⟩ = some (.int .i64 x.queue) := oB.cell 7
    have c8 : wx.cell? ⟨xb, 8, none⟩ = some (.int .i64 x.life) := oB.cell 8
    clear oB hxb
    go_wp2_with fail
    refine (P0 _ h0).mono ?_
    rintro r w' ⟨rfl, rfl⟩
    go_wp2_with fail
    go_ret
    exact ⟨by rw [HM.out]; rfl, HB.out⟩
  cases h1 : nearQ x
  · skip
    rw [h0, h1] at HM
    go_enter Tryz.func14, Tryz.ntmps14
    go_upto_region 1 with (fail)
    obtain ⟨xb, hxb⟩ : ∃ q, w.heap.size = q := ⟨_, rfl⟩
    have HB := Lib.hid hb
    clear hb
    rw [hxb] at oB ⊢
    generalize w.alloc (.cells #[.int .i64 x.nodes, .slice x.na x.nn x.nc, .slice x.ha x.hops.length x.hc, .int .i64 x.guard, .int .i64 x.err, .int .i64 x.keep, .int .i64 x.loss, .int .i64 x.queue, .int .i64 x.life] 25) = wx at *
    have c0 : wx.cell? ⟨xb, 0, none⟩ = some (.int .i64 x.nodes) := oB.cell 0
    have c1 : wx.cell? ⟨xb, 1, none⟩ = some (.slice x.na x.nn x.nc) := oB.cell 1
    have c2 : wx.cell? ⟨xb, 2, none⟩ = some (.slice x.ha x.hops.length x.hc) := oB.cell 2
    have c3 : wx.cell? ⟨xb, 3, none⟩ = some (.int .i64 x.guard) := oB.cell 3
    have c4 : wx.cell? ⟨xb, 4, none⟩ = some (.int .i64 x.err) := oB.cell 4
    have c5 : wx.cell? ⟨xb, 5, none⟩ = some (.int .i64 x.keep) := oB.cell 5
    have c6 : wx.cell? ⟨xb, 6, none⟩ = some (.int .i64 x.loss) := oB.cell 6
    have c7 : wx.cell? ⟨xb, 7, none⟩ = some (.int .i64 x.queue) := oB.cell 7
    have c8 : wx.cell? ⟨xb, 8, none⟩ = some (.int .i64 x.life) := oB.cell 8
    clear oB hxb
    go_wp2_with fail
    refine (P0 _ h0).mono ?_
    rintro r w' ⟨rfl, rfl⟩
    go_wp2_with fail
    refine (P1 _ h0 h1).mono ?_
    rintro r w' ⟨rfl, rfl⟩
    go_wp2_with fail
    go_ret
    exact ⟨by rw [HM.out]; rfl, HB.out⟩
  cases h2 : Hp.mayB (fun i => x.hops.getD i 0) x.hops.length
  · skip
    rw [h0, h1, h2] at HM
    go_enter Tryz.func14, Tryz.ntmps14
    go_upto_region 1 with (fail)
    obtain ⟨xb, hxb⟩ : ∃ q, w.heap.size = q := ⟨_, rfl⟩
    have HB := Lib.hid hb
    clear hb
    rw [hxb] at oB ⊢
    generalize w.alloc (.cells #[.int .i64 x.nodes, .slice x.na x.nn x.nc, .slice x.ha x.hops.length x.hc, .int .i64 x.guard, .int .i64 x.err, .int .i64 x.keep, .int .i64 x.loss, .int .i64 x.queue, .int .i64 x.life] 25) = wx at *
    have c0 : wx.cell? ⟨xb, 0, none⟩ = some (.int .i64 x.nodes) := oB.cell 0
    have c1 : wx.cell? ⟨xb, 1, none⟩ = some (.slice x.na x.nn x.nc) := oB.cell 1
    have c2 : wx.cell? ⟨xb, 2, none⟩ = some (.slice x.ha x.hops.length x.hc) := oB.cell 2
    have c3 : wx.cell? ⟨xb, 3, none⟩ = some (.int .i64 x.guard) := oB.cell 3
    have c4 : wx.cell? ⟨xb, 4, none⟩ = some (.int .i64 x.err) := oB.cell 4
    have c5 : wx.cell? ⟨xb, 5, none⟩ = some (.int .i64 x.keep) := oB.cell 5
    have c6 : wx.cell? ⟨xb, 6, none⟩ = some (.int .i64 x.loss) := oB.cell 6
    have c7 : wx.cell? ⟨xb, 7, none⟩ = some (.int .i64 x.queue) := oB.cell 7
    have c8 : wx.cell? ⟨xb, 8, none⟩ = some (.int .i64 x.life) := oB.cell 8
    clear oB hxb
    go_wp2_with fail
    refine (P0 _ h0).mono ?_
    rintro r w' ⟨rfl, rfl⟩
    go_wp2_with fail
    refine (P1 _ h0 h1).mono ?_
    rintro r w' ⟨rfl, rfl⟩
    go_wp2_with fail
    refine (P2 _ h2).mono ?_
    rintro r w' ⟨rfl, rfl⟩
    go_wp2_with fail
    go_ret
    exact ⟨by rw [HM.out]; rfl, HB.out⟩
  cases h3 : inB x.guard 1 4000
  · skip
    rw [h0, h1, h2, h3] at HM
    go_enter Tryz.func14, Tryz.ntmps14
    go_upto_region 1 with (fail)
    obtain ⟨xb, hxb⟩ : ∃ q, w.heap.size = q := ⟨_, rfl⟩
    have HB := Lib.hid hb
    clear hb
    rw [hxb] at oB ⊢
    generalize w.alloc (.cells #[.int .i64 x.nodes, .slice x.na x.nn x.nc, .slice x.ha x.hops.length x.hc, .int .i64 x.guard, .int .i64 x.err, .int .i64 x.keep, .int .i64 x.loss, .int .i64 x.queue, .int .i64 x.life] 25) = wx at *
    have c0 : wx.cell? ⟨xb, 0, none⟩ = some (.int .i64 x.nodes) := oB.cell 0
    have c1 : wx.cell? ⟨xb, 1, none⟩ = some (.slice x.na x.nn x.nc) := oB.cell 1
    have c2 : wx.cell? ⟨xb, 2, none⟩ = some (.slice x.ha x.hops.length x.hc) := oB.cell 2
    have c3 : wx.cell? ⟨xb, 3, none⟩ = some (.int .i64 x.guard) := oB.cell 3
    have c4 : wx.cell? ⟨xb, 4, none⟩ = some (.int .i64 x.err) := oB.cell 4
    have c5 : wx.cell? ⟨xb, 5, none⟩ = some (.int .i64 x.keep) := oB.cell 5
    have c6 : wx.cell? ⟨xb, 6, none⟩ = some (.int .i64 x.loss) := oB.cell 6
    have c7 : wx.cell? ⟨xb, 7, none⟩ = some (.int .i64 x.queue) := oB.cell 7
    have c8 : wx.cell? ⟨xb, 8, none⟩ = some (.int .i64 x.life) := oB.cell 8
    clear oB hxb
    go_wp2_with fail
    refine (P0 _ h0).mono ?_
    rintro r w' ⟨rfl, rfl⟩
    go_wp2_with fail
    refine (P1 _ h0 h1).mono ?_
    rintro r w' ⟨rfl, rfl⟩
    go_wp2_with fail
    refine (P2 _ h2).mono ?_
    rintro r w' ⟨rfl, rfl⟩
    go_wp2_with fail
    refine (P3 _ h3).mono ?_
    rintro r w' ⟨rfl, rfl⟩
    go_wp2_with fail
    go_ret
    exact ⟨by rw [HM.out]; rfl, HB.out⟩
  cases h4 : inB x.err 0 1000
  · skip
    rw [h0, h1, h2, h3, h4] at HM
    go_enter Tryz.func14, Tryz.ntmps14
    go_upto_region 1 with (fail)
    obtain ⟨xb, hxb⟩ : ∃ q, w.heap.size = q := ⟨_, rfl⟩
    have HB := Lib.hid hb
    clear hb
    rw [hxb] at oB ⊢
    generalize w.alloc (.cells #[.int .i64 x.nodes, .slice x.na x.nn x.nc, .slice x.ha x.hops.length x.hc, .int .i64 x.guard, .int .i64 x.err, .int .i64 x.keep, .int .i64 x.loss, .int .i64 x.queue, .int .i64 x.life] 25) = wx at *
    have c0 : wx.cell? ⟨xb, 0, none⟩ = some (.int .i64 x.nodes) := oB.cell 0
    have c1 : wx.cell? ⟨xb, 1, none⟩ = some (.slice x.na x.nn x.nc) := oB.cell 1
    have c2 : wx.cell? ⟨xb, 2, none⟩ = some (.slice x.ha x.hops.length x.hc) := oB.cell 2
    have c3 : wx.cell? ⟨xb, 3, none⟩ = some (.int .i64 x.guard) := oB.cell 3
    have c4 : wx.cell? ⟨xb, 4, none⟩ = some (.int .i64 x.err) := oB.cell 4
    have c5 : wx.cell? ⟨xb, 5, none⟩ = some (.int .i64 x.keep) := oB.cell 5
    have c6 : wx.cell? ⟨xb, 6, none⟩ = some (.int .i64 x.loss) := oB.cell 6
    have c7 : wx.cell? ⟨xb, 7, none⟩ = some (.int .i64 x.queue) := oB.cell 7
    have c8 : wx.cell? ⟨xb, 8, none⟩ = some (.int .i64 x.life) := oB.cell 8
    clear oB hxb
    go_wp2_with fail
    refine (P0 _ h0).mono ?_
    rintro r w' ⟨rfl, rfl⟩
    go_wp2_with fail
    refine (P1 _ h0 h1).mono ?_
    rintro r w' ⟨rfl, rfl⟩
    go_wp2_with fail
    refine (P2 _ h2).mono ?_
    rintro r w' ⟨rfl, rfl⟩
    go_wp2_with fail
    refine (P3 _ h3).mono ?_
    rintro r w' ⟨rfl, rfl⟩
    go_wp2_with fail
    refine (P4 _ h4).mono ?_
    rintro r w' ⟨rfl, rfl⟩
    go_wp2_with fail
    go_ret
    exact ⟨by rw [HM.out]; rfl, HB.out⟩
  cases h5 : inB x.keep 1 10000
  · skip
    rw [h0, h1, h2, h3, h4, h5] at HM
    go_enter Tryz.func14, Tryz.ntmps14
    go_upto_region 1 with (fail)
    obtain ⟨xb, hxb⟩ : ∃ q, w.heap.size = q := ⟨_, rfl⟩
    have HB := Lib.hid hb
    clear hb
    rw [hxb] at oB ⊢
    generalize w.alloc (.cells #[.int .i64 x.nodes, .slice x.na x.nn x.nc, .slice x.ha x.hops.length x.hc, .int .i64 x.guard, .int .i64 x.err, .int .i64 x.keep, .int .i64 x.loss, .int .i64 x.queue, .int .i64 x.life] 25) = wx at *
    have c0 : wx.cell? ⟨xb, 0, none⟩ = some (.int .i64 x.nodes) := oB.cell 0
    have c1 : wx.cell? ⟨xb, 1, none⟩ = some (.slice x.na x.nn x.nc) := oB.cell 1
    have c2 : wx.cell? ⟨xb, 2, none⟩ = some (.slice x.ha x.hops.length x.hc) := oB.cell 2
    have c3 : wx.cell? ⟨xb, 3, none⟩ = some (.int .i64 x.guard) := oB.cell 3
    have c4 : wx.cell? ⟨xb, 4, none⟩ = some (.int .i64 x.err) := oB.cell 4
    have c5 : wx.cell? ⟨xb, 5, none⟩ = some (.int .i64 x.keep) := oB.cell 5
    have c6 : wx.cell? ⟨xb, 6, none⟩ = some (.int .i64 x.loss) := oB.cell 6
    have c7 : wx.cell? ⟨xb, 7, none⟩ = some (.int .i64 x.queue) := oB.cell 7
    have c8 : wx.cell? ⟨xb, 8, none⟩ = some (.int .i64 x.life) := oB.cell 8
    clear oB hxb
    go_wp2_with fail
    refine (P0 _ h0).mono ?_
    rintro r w' ⟨rfl, rfl⟩
    go_wp2_with fail
    refine (P1 _ h0 h1).mono ?_
    rintro r w' ⟨rfl, rfl⟩
    go_wp2_with fail
    refine (P2 _ h2).mono ?_
    rintro r w' ⟨rfl, rfl⟩
    go_wp2_with fail
    refine (P3 _ h3).mono ?_
    rintro r w' ⟨rfl, rfl⟩
    go_wp2_with fail
    refine (P4 _ h4).mono ?_
    rintro r w' ⟨rfl, rfl⟩
    go_wp2_with fail
    refine (P5 _ h5).mono ?_
    rintro r w' ⟨rfl, rfl⟩
    go_wp2_with fail
    go_ret
    exact ⟨by rw [HM.out]; rfl, HB.out⟩
  cases h6 : inB x.loss 1 10000
  · skip
    rw [h0, h1, h2, h3, h4, h5, h6] at HM
    go_enter Tryz.func14, Tryz.ntmps14
    go_upto_region 1 with (fail)
    obtain ⟨xb, hxb⟩ : ∃ q, w.heap.size = q := ⟨_, rfl⟩
    have HB := Lib.hid hb
    clear hb
    rw [hxb] at oB ⊢
    generalize w.alloc (.cells #[.int .i64 x.nodes, .slice x.na x.nn x.nc, .slice x.ha x.hops.length x.hc, .int .i64 x.guard, .int .i64 x.err, .int .i64 x.keep, .int .i64 x.loss, .int .i64 x.queue, .int .i64 x.life] 25) = wx at *
    have c0 : wx.cell? ⟨xb, 0, none⟩ = some (.int .i64 x.nodes) := oB.cell 0
    have c1 : wx.cell? ⟨xb, 1, none⟩ = some (.slice x.na x.nn x.nc) := oB.cell 1
    have c2 : wx.cell? ⟨xb, 2, none⟩ = some (.slice x.ha x.hops.length x.hc) := oB.cell 2
    have c3 : wx.cell? ⟨xb, 3, none⟩ = some (.int .i64 x.guard) := oB.cell 3
    have c4 : wx.cell? ⟨xb, 4, none⟩ = some (.int .i64 x.err) := oB.cell 4
    have c5 : wx.cell? ⟨xb, 5, none⟩ = some (.int .i64 x.keep) := oB.cell 5
    have c6 : wx.cell? ⟨xb, 6, none⟩ = some (.int .i64 x.loss) := oB.cell 6
    have c7 : wx.cell? ⟨xb, 7, none⟩ = some (.int .i64 x.queue) := oB.cell 7
    have c8 : wx.cell? ⟨xb, 8, none⟩ = some (.int .i64 x.life) := oB.cell 8
    clear oB hxb
    go_wp2_with fail
    refine (P0 _ h0).mono ?_
    rintro r w' ⟨rfl, rfl⟩
    go_wp2_with fail
    refine (P1 _ h0 h1).mono ?_
    rintro r w' ⟨rfl, rfl⟩
    go_wp2_with fail
    refine (P2 _ h2).mono ?_
    rintro r w' ⟨rfl, rfl⟩
    go_wp2_with fail
    refine (P3 _ h3).mono ?_
    rintro r w' ⟨rfl, rfl⟩
    go_wp2_with fail
    refine (P4 _ h4).mono ?_
    rintro r w' ⟨rfl, rfl⟩
    go_wp2_with fail
    refine (P5 _ h5).mono ?_
    rintro r w' ⟨rfl, rfl⟩
    go_wp2_with fail
    refine (P6 _ h6).mono ?_
    rintro r w' ⟨rfl, rfl⟩
    go_wp2_with fail
    go_ret
    exact ⟨by rw [HM.out]; rfl, HB.out⟩
  cases h7 : inB x.queue 1 32
  · skip
    rw [h0, h1, h2, h3, h4, h5, h6, h7] at HM
    go_enter Tryz.func14, Tryz.ntmps14
    go_upto_region 1 with (fail)
    obtain ⟨xb, hxb⟩ : ∃ q, w.heap.size = q := ⟨_, rfl⟩
    have HB := Lib.hid hb
    clear hb
    rw [hxb] at oB ⊢
    generalize w.alloc (.cells #[.int .i64 x.nodes, .slice x.na x.nn x.nc, .slice x.ha x.hops.length x.hc, .int .i64 x.guard, .int .i64 x.err, .int .i64 x.keep, .int .i64 x.loss, .int .i64 x.queue, .int .i64 x.life] 25) = wx at *
    have c0 : wx.cell? ⟨xb, 0, none⟩ = some (.int .i64 x.nodes) := oB.cell 0
    have c1 : wx.cell? ⟨xb, 1, none⟩ = some (.slice x.na x.nn x.nc) := oB.cell 1
    have c2 : wx.cell? ⟨xb, 2, none⟩ = some (.slice x.ha x.hops.length x.hc) := oB.cell 2
    have c3 : wx.cell? ⟨xb, 3, none⟩ = some (.int .i64 x.guard) := oB.cell 3
    have c4 : wx.cell? ⟨xb, 4, none⟩ = some (.int .i64 x.err) := oB.cell 4
    have c5 : wx.cell? ⟨xb, 5, none⟩ = some (.int .i64 x.keep) := oB.cell 5
    have c6 : wx.cell? ⟨xb, 6, none⟩ = some (.int .i64 x.loss) := oB.cell 6
    have c7 : wx.cell? ⟨xb, 7, none⟩ = some (.int .i64 x.queue) := oB.cell 7
    have c8 : wx.cell? ⟨xb, 8, none⟩ = some (.int .i64 x.life) := oB.cell 8
    clear oB hxb
    go_wp2_with fail
    refine (P0 _ h0).mono ?_
    rintro r w' ⟨rfl, rfl⟩
    go_wp2_with fail
    refine (P1 _ h0 h1).mono ?_
    rintro r w' ⟨rfl, rfl⟩
    go_wp2_with fail
    refine (P2 _ h2).mono ?_
    rintro r w' ⟨rfl, rfl⟩
    go_wp2_with fail
    refine (P3 _ h3).mono ?_
    rintro r w' ⟨rfl, rfl⟩
    go_wp2_with fail
    refine (P4 _ h4).mono ?_
    rintro r w' ⟨rfl, rfl⟩
    go_wp2_with fail
    refine (P5 _ h5).mono ?_
    rintro r w' ⟨rfl, rfl⟩
    go_wp2_with fail
    refine (P6 _ h6).mono ?_
    rintro r w' ⟨rfl, rfl⟩
    go_wp2_with fail
    refine (P7 _ h7).mono ?_
    rintro r w' ⟨rfl, rfl⟩
    go_wp2_with fail
    go_ret
    exact ⟨by rw [HM.out]; rfl, HB.out⟩
  cases h8 : inB x.life 1 15
  · skip
    rw [h0, h1, h2, h3, h4, h5, h6, h7, h8] at HM
    go_enter Tryz.func14, Tryz.ntmps14
    go_upto_region 1 with (fail)
    obtain ⟨xb, hxb⟩ : ∃ q, w.heap.size = q := ⟨_, rfl⟩
    have HB := Lib.hid hb
    clear hb
    rw [hxb] at oB ⊢
    generalize w.alloc (.cells #[.int .i64 x.nodes, .slice x.na x.nn x.nc, .slice x.ha x.hops.length x.hc, .int .i64 x.guard, .int .i64 x.err, .int .i64 x.keep, .int .i64 x.loss, .int .i64 x.queue, .int .i64 x.life] 25) = wx at *
    have c0 : wx.cell? ⟨xb, 0, none⟩ = some (.int .i64 x.nodes) := oB.cell 0
    have c1 : wx.cell? ⟨xb, 1, none⟩ = some (.slice x.na x.nn x.nc) := oB.cell 1
    have c2 : wx.cell? ⟨xb, 2, none⟩ = some (.slice x.ha x.hops.length x.hc) := oB.cell 2
    have c3 : wx.cell? ⟨xb, 3, none⟩ = some (.int .i64 x.guard) := oB.cell 3
    have c4 : wx.cell? ⟨xb, 4, none⟩ = some (.int .i64 x.err) := oB.cell 4
    have c5 : wx.cell? ⟨xb, 5, none⟩ = some (.int .i64 x.keep) := oB.cell 5
    have c6 : wx.cell? ⟨xb, 6, none⟩ = some (.int .i64 x.loss) := oB.cell 6
    have c7 : wx.cell? ⟨xb, 7, none⟩ = some (.int .i64 x.queue) := oB.cell 7
    have c8 : wx.cell? ⟨xb, 8, none⟩ = some (.int .i64 x.life) := oB.cell 8
    clear oB hxb
    go_wp2_with fail
    refine (P0 _ h0).mono ?_
    rintro r w' ⟨rfl, rfl⟩
    go_wp2_with fail
    refine (P1 _ h0 h1).mono ?_
    rintro r w' ⟨rfl, rfl⟩
    go_wp2_with fail
    refine (P2 _ h2).mono ?_
    rintro r w' ⟨rfl, rfl⟩
    go_wp2_with fail
    refine (P3 _ h3).mono ?_
    rintro r w' ⟨rfl, rfl⟩
    go_wp2_with fail
    refine (P4 _ h4).mono ?_
    rintro r w' ⟨rfl, rfl⟩
    go_wp2_with fail
    refine (P5 _ h5).mono ?_
    rintro r w' ⟨rfl, rfl⟩
    go_wp2_with fail
    refine (P6 _ h6).mono ?_
    rintro r w' ⟨rfl, rfl⟩
    go_wp2_with fail
    refine (P7 _ h7).mono ?_
    rintro r w' ⟨rfl, rfl⟩
    go_wp2_with fail
    refine (P8 _ h8).mono ?_
    rintro r w' ⟨rfl, rfl⟩
    go_wp2_with fail
    go_ret
    exact ⟨by rw [HM.out]; rfl, HB.out⟩
  · skip
    rw [h0, h1, h2, h3, h4, h5, h6, h7, h8] at HM
    go_enter Tryz.func14, Tryz.ntmps14
    go_upto_region 1 with (fail)
    obtain ⟨xb, hxb⟩ : ∃ q, w.heap.size = q := ⟨_, rfl⟩
    have HB := Lib.hid hb
    clear hb
    rw [hxb] at oB ⊢
    generalize w.alloc (.cells #[.int .i64 x.nodes, .slice x.na x.nn x.nc, .slice x.ha x.hops.length x.hc, .int .i64 x.guard, .int .i64 x.err, .int .i64 x.keep, .int .i64 x.loss, .int .i64 x.queue, .int .i64 x.life] 25) = wx at *
    have c0 : wx.cell? ⟨xb, 0, none⟩ = some (.int .i64 x.nodes) := oB.cell 0
    have c1 : wx.cell? ⟨xb, 1, none⟩ = some (.slice x.na x.nn x.nc) := oB.cell 1
    have c2 : wx.cell? ⟨xb, 2, none⟩ = some (.slice x.ha x.hops.length x.hc) := oB.cell 2
    have c3 : wx.cell? ⟨xb, 3, none⟩ = some (.int .i64 x.guard) := oB.cell 3
    have c4 : wx.cell? ⟨xb, 4, none⟩ = some (.int .i64 x.err) := oB.cell 4
    have c5 : wx.cell? ⟨xb, 5, none⟩ = some (.int .i64 x.keep) := oB.cell 5
    have c6 : wx.cell? ⟨xb, 6, none⟩ = some (.int .i64 x.loss) := oB.cell 6
    have c7 : wx.cell? ⟨xb, 7, none⟩ = some (.int .i64 x.queue) := oB.cell 7
    have c8 : wx.cell? ⟨xb, 8, none⟩ = some (.int .i64 x.life) := oB.cell 8
    clear oB hxb
    go_wp2_with fail
    refine (P0 _ h0).mono ?_
    rintro r w' ⟨rfl, rfl⟩
    go_wp2_with fail
    refine (P1 _ h0 h1).mono ?_
    rintro r w' ⟨rfl, rfl⟩
    go_wp2_with fail
    refine (P2 _ h2).mono ?_
    rintro r w' ⟨rfl, rfl⟩
    go_wp2_with fail
    refine (P3 _ h3).mono ?_
    rintro r w' ⟨rfl, rfl⟩
    go_wp2_with fail
    refine (P4 _ h4).mono ?_
    rintro r w' ⟨rfl, rfl⟩
    go_wp2_with fail
    refine (P5 _ h5).mono ?_
    rintro r w' ⟨rfl, rfl⟩
    go_wp2_with fail
    refine (P6 _ h6).mono ?_
    rintro r w' ⟨rfl, rfl⟩
    go_wp2_with fail
    refine (P7 _ h7).mono ?_
    rintro r w' ⟨rfl, rfl⟩
    go_wp2_with fail
    refine (P8 _ h8).mono ?_
    rintro r w' ⟨rfl, rfl⟩
    go_wp2_with fail
    go_ret
    exact ⟨by rw [HM.out]; rfl, HB.out⟩
end Go.Proofs.YtiflmdekcjbmbaaGreat.Nd
namespace Go.Proofs.YtiflmdekcjbmbaaGreat.Lb
set_option linter.unusedVariables false
set_option linter.unusedSimpArgs false
open Go.RowKit

theorem Own.setRow {w : World} {b : Nat} {t : TypeId} {cs : Array Value} (h : Own w b t cs) (ds : Array Value) : Own (w.setRow b ds) b t ds := setRow_heap w b cs ds t (0, 0) h
theorem Just.setRow (b : Nat) (w : World) (ds : Array Value) : Just b w (w.setRow b ds) :=
  ⟨rfl, rfl, rfl, by simp, fun k _ hk => setRow_other w b k ds hk⟩

/-- The last region of a function whose result lies in a variable: a row is loaded and stored there. -/
theorem wp_row_out {P : Program} {id : Nat} {t1 t2 : TypeId} {x y z : Operand} {o1 o2 : Oper} {a : Act} {w : World} {Q : Exit → Act → World → Prop} {g b : Nat} {ta tb : TypeId} {cs old : Array Value} {d : TypeDesc}
    (g1 : o1.guard = none) (h1 : o1.op = .load t1 x) (g2 : o2.guard = none) (h2 : o2.op = .store t2 y z)
    (hx : a.eval x = .pointer (some ⟨g, 0, none⟩)) (hg : Own w g ta cs) (hu : P.underlying t1 = some d) (hd : (match d with | .struct _ | .array _ _ => true | _ => false) = true) (hi : (P.info? t1).map (·.size) = some cs.size)
    (hy : (a.put o1.dst (.agg cs)).eval y = .pointer (some ⟨b, 0, none⟩)) (hz : (a.put o1.dst (.agg cs)).eval z = .agg cs) (hb : Own w b tb old) (hi2 : (P.info? t2).map (·.size) = some cs.size) (hs : old.size = cs.size)
    (h1c : cs.all (·.oneCell') = true)
    (h : Q .normal ((a.put o1.dst (.agg cs)).put o2.dst undef) (w.setRow b cs)) :
    (Code.region id #[o1, o2] false).wp P Q a w := by
  refine wp_region_lit (l := [o1, o2]) ?_
  refine wpList_load_row g1 t1 x h1 g hx ta cs (0, 0) d hg hu hd hi ?_
  refine wpList_store_row g2 t2 y z h2 b cs hy hz tb old hb hi2 hs h1c ?_
  exact h

/-- A row is built and stored: inside a region. -/
theorem wpList_build_store {P : Program} {ops : Array Oper} {rest : List Oper} {t : TypeId} {parts : Array (Nat × Operand)} {y z : Operand} {o1 o2 : Oper} {a : Act} {w : World} {Q : Exit → Act → World → Prop} {b : Nat} {tb : TypeId} (cs : Array Value) {old : Array Value}
    (g1 : o1.guard = none) (h1 : o1.op = .build t parts) (g2 : o2.guard = none) (h2 : o2.op = .store t y z)
    (hB0 : P.built t (parts.toList.map fun (i, x) => (i, a.eval x)) = some cs)
    (hy : (a.put o1.dst (.agg cs)).eval y = .pointer (some ⟨b, 0, none⟩)) (hz : (a.put o1.dst (.agg cs)).eval z = .agg cs) (hb : Own w b tb old) (hi2 : (P.info? t).map (·.size) = some cs.size) (hs : old.size = cs.size)
    (h1c : cs.all (·.oneCell') = true)
    (h : wpList P ops Q rest ((a.put o1.dst (.agg cs)).put o2.dst undef) (w.setRow b cs)) :
    wpList P ops Q (o1 :: o2 :: rest) a w := by
  have hB : P.built t (parts.map fun (i, x) => (i, a.eval x)).toList = some cs := by rw [Array.toList_map]; exact hB0
  refine wpList_build g1 t parts h1 (by rw [hB]; rfl) ?_
  rw [hB, Option.getD_some]
  exact wpList_store_row g2 t y z h2 b cs hy hz tb old hb hi2 hs h1c h
/-- A row is built. -/
theorem wpList_built {P : Program} {ops : Array Oper} {rest : List Oper} {t : TypeId} {parts : Array (Nat × Operand)} {o1 : Oper} {a : Act} {w : World} {Q : Exit → Act → World → Prop} (cs : Array Value)
    (g1 : o1.guard = none) (h1 : o1.op = .build t parts) (hB0 : P.built t (parts.toList.map fun (i, x) => (i, a.eval x)) = some cs)
    (h : wpList P ops Q rest (a.put o1.dst (.agg cs)) w) : wpList P ops Q (o1 :: rest) a w := by
  have hB : P.built t (parts.map fun (i, x) => (i, a.eval x)).toList = some cs := by rw [Array.toList_map]; exact hB0
  refine wpList_build g1 t parts h1 (by rw [hB]; rfl) ?_
  rw [hB, Option.getD_some]
  exact h
/-- A variable is made and a row stored there: inside a region. -/
theorem wpList_alloc_store {P : Program} {ops : Array Oper} {rest : List Oper} {t t2 : TypeId} {y z : Operand} {o1 o2 : Oper} {a : Act} {w : World} {Q : Exit → Act → World → Prop} {zs : Array Value} (cs : Array Value)
    (g1 : o1.guard = none) (h1 : o1.op = .alloc t) (g2 : o2.guard = none) (h2 : o2.op = .store t2 y z)
    (hi : (P.info? t).map (fun i => (i.zero, i.size)) = some (some (.agg zs), zs.size))
    (hy : (a.put o1.dst (.pointer (some ⟨w.heap.size, 0, none⟩))).eval y = .pointer (some ⟨w.heap.size, 0, none⟩)) (hz : (a.put o1.dst (.pointer (some ⟨w.heap.size, 0, none⟩))).eval z = .agg cs)
    (hi2 : (P.info? t2).map (·.size) = some cs.size) (hs : zs.size = cs.size) (h1c : cs.all (·.oneCell') = true)
    (h : wpList P ops Q rest ((a.put o1.dst (.pointer (some ⟨w.heap.size, 0, none⟩))).put o2.dst undef) (w.alloc (.cells cs t))) :
    wpList P ops Q (o1 :: o2 :: rest) a w := by
  obtain ⟨hz0, hs0⟩ := zero_of_info hi
  have hrun : (execOp a.eval o1).run P w = .ok (.value (.pointer (some ⟨w.heap.size, 0, none⟩))) (w.alloc (.cells zs t)) := by
    unfold execOp
    simp only [h1, Instr.alloc, Sem.run_bind, hz0, Result.andThen_ok]
    rfl
  refine wpList_plain g1 fun K hK => ?_
  unfold Oper.wp
  rw [hrun, Oper.upon_value]
  refine hK _ _ ?_
  refine wpList_store_row g2 t2 y z h2 w.heap.size cs hy hz t zs (heap_alloc_new w _) hi2 hs h1c ?_
  rw [World.setRow_alloc_new]
  exact h
end Go.Proofs.YtiflmdekcjbmbaaGreat.Lb
namespace Go.Proofs.YtiflmdekcjbmbaaGreat.Lb
set_option linter.unusedVariables false
set_option linter.unusedSimpArgs false
open Go.RowKit

theorem results_row_tmp2 {P : Program} {fn : Func} {p t u : Tmp} {ty : TypeId} (h : fn.results = #[.cell p ty, .tmp t, .tmp u]) (tmps : Array Value) (w : World) (g : Nat) (tg : TypeId) (cs : Array Value) (fr : Nat × Nat) (d : TypeDesc)
    (hp : tmps.getD p undef = .pointer (some ⟨g, 0, none⟩)) (hg : w.heap[g]? = some (.cells cs tg fr))
    (hu : P.underlying ty = some d) (hd : (match d with | .struct _ | .array _ _ => true | _ => false) = true) (hi : (P.info? ty).map (·.size) = some cs.size) :
    (results fn tmps).run P w = .ok (.tuple #[.agg cs, tmps.getD t undef, tmps.getD u undef]) w := by
  have hp' : tmps[p]?.getD undef = .pointer (some ⟨g, 0, none⟩) := by simpa using hp
  simp [results, h, hp', asAddr, run_loadVar_row w g tg ty cs fr d hg hu hd hi]
theorem results_row_tmp {P : Program} {fn : Func} {p t : Tmp} {ty : TypeId} (h : fn.results = #[.cell p ty, .tmp t]) (tmps : Array Value) (w : World) (g : Nat) (tg : TypeId) (cs : Array Value) (fr : Nat × Nat) (d : TypeDesc)
    (hp : tmps.getD p undef = .pointer (some ⟨g, 0, none⟩)) (hg : w.heap[g]? = some (.cells cs tg fr))
    (hu : P.underlying ty = some d) (hd : (match d with | .struct _ | .array _ _ => true | _ => false) = true) (hi : (P.info? ty).map (·.size) = some cs.size) :
    (results fn tmps).run P w = .ok (.tuple #[.agg cs, tmps.getD t undef]) w := by
  have hp' : tmps[p]?.getD undef = .pointer (some ⟨g, 0, none⟩) := by simpa using hp
  simp [results, h, hp', asAddr, run_loadVar_row w g tg ty cs fr d hg hu hd hi]
theorem run_row {P : Program} {w : World} {g : Nat} {t : TypeId} {cur cs : Array Value} (h : Own w g t cur) (hs : cur.size = cs.size) (h1 : cs.all (·.oneCell') = true) :
    (storeCells ⟨g, 0, none⟩ cs.toList).run P w = .ok () (w.setRow g cs) := by
  have h1' : ∀ v ∈ cs.toList, v.oneCell' = true := fun v hv => by
    obtain ⟨i, hi, e⟩ := List.getElem_of_mem hv
    rw [← e]
    exact (Array.all_eq_true.1 h1) i (by simpa using hi)
  have := run_storeCells_from (P := P) g t cs.toList 0 cur w h (by simp [hs]) h1'
  simpa using this
theorem cell_row {w : World} {g b o : Nat} (cs : Array Value) {v : Value} (h : w.cell? ⟨b, o, none⟩ = some v) (hb : b ≠ g) : (w.setRow g cs).cell? ⟨b, o, none⟩ = some v :=
  (World.cell?_of_block (a := ⟨b, o, none⟩) ((Just.setRow g w cs).block b (lt_of_cell h) hb)).trans h
end Go.Proofs.YtiflmdekcjbmbaaGreat.Lb
