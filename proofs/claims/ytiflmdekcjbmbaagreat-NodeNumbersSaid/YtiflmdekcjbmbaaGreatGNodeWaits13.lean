/-
  A node (chapter 24): May.
-/
import Derived.Test.YtiflmdekcjbmbaaGreatGNodeWaits12
set_option maxRecDepth 100000
namespace Go.Proofs.YtiflmdekcjbmbaaGreat.Nd
set_option linter.unusedVariables false
set_option linter.unusedSimpArgs false
open Go.RowKit Lb

theorem low_bit (N D : Nat) (hN : N < 18446744073709551616) : Go.bits .and .u64 ((N : Int) / 2 ^ D) 1 = (((if N.testBit D then 1 else 0 : Nat)) : Int) := by
  have e : ((N : Int) / 2 ^ D) = ((N / 2 ^ D : Nat) : Int) := by simp
  have hl : N / 2 ^ D < 18446744073709551616 := Nat.lt_of_le_of_lt (Nat.div_le_self _ _) hN
  have := u64_and_nat (N / 2 ^ D) 1 hl (by decide)
  rw [e, show (1 : Int) = ((1 : Nat) : Int) from rfl, this, Nat.and_one_is_mod, Nat.testBit_eq_decide_div_mod_eq]
  congr 1
  have : N / 2 ^ D % 2 < 2 := Nat.mod_lt _ (by decide)
  by_cases h : N / 2 ^ D % 2 = 1
  · simp [h]
  · simp [h]
    omega
theorem high_part (x n : Nat) : ((x : Int) / 2 ^ n != 0) = !decide (x < 2 ^ n) := by
  have e : ((x : Int) / 2 ^ n) = ((x / 2 ^ n : Nat) : Int) := by simp
  rw [e]
  by_cases h : x < 2 ^ n
  · rw [Nat.div_eq_of_lt h]; simp [h]
  · have : 0 < x / 2 ^ n := Nat.div_pos (by omega) (Nat.two_pow_pos n)
    rw [decide_eq_false h]
    simp
    omega
/-- Who hears whom may be: nobody hears itself, nor who is none. -/
def nrB (N : Nat) (Z : Nat → Nat) : Nat → Bool
  | 0 => true
  | k + 1 => nrB N Z k && (!(Z k).testBit k && decide (Z k < 2 ^ N))
theorem nrB_no {N : Nat} {Z : Nat → Nat} {n k : Nat} (hk : k < n) (h : (!(Z k).testBit k && decide (Z k < 2 ^ N)) = false) : nrB N Z n = false := by
  induction n with
  | zero => omega
  | succ n ih =>
    rw [nrB]
    by_cases e : k = n
    · subst e; rw [h]; simp
    · rw [ih (by omega)]; rfl
set_option maxHeartbeats 1000000 in
theorem near_any (N : Nat) (a : Option Addr) (n c : Nat) (Z : Nat → Nat) (w : World) (hN : 2 ≤ N ∧ N ≤ 16) (hn : n ≤ c) (hm : c ≤ maxLen) (hZ : Row w a n (fun i => .int .u64 (Z i : Int))) (hb : ∀ i, i < n → Z i < 18446744073709551616) :
    Calls Tryz.prog 49 #[.int .i64 (N : Nat), .slice a n c] w fun r w' => r = .returned (.bool (decide (n = N) && nrB N Z n)) ∧ w = w' := by
  unfold maxLen at hm
  have hn63 : (n : Int) ≤ 9223372036854775807 := by omega
  by_cases e : n = N
  rotate_left 1
  · have g : ((n : Int) != (N : Int)) = true := by simpa using fun h => e (by omega)
    have HD : Hid ((decide (n = N) && nrB N Z n) = false) := Lib.hid (by rw [decide_eq_false e]; rfl)
    clear e
    go_enter Tryz.func49, Tryz.ntmps49
    go_wp2_with fail
    go_ret
    exact ⟨by rw [HD.out]; rfl, rfl⟩
  subst e
  have g : ((n : Int) != (n : Int)) = false := by simp
  have HB := Lib.hid hb
  have HZ := Lib.hid hZ
  clear hb hZ
  go_enter Tryz.func49, Tryz.ntmps49
  go_wp2_with fail
  go_loopw [13] (fun i wz => ∃ k : Nat, i = .int .i64 k ∧ k ≤ n ∧ Hid (nrB n Z k = true) ∧ w = wz) (fun i _ => n - (intOf i).toNat)
  case atStart => exact ⟨0, rfl, Nat.zero_le _, Lib.hid rfl, rfl⟩
  case round =>
    obtain ⟨k, rfl, hk, HR, rfl⟩ := hrel
    by_cases hlt : k < n
    · obtain ⟨bo, off, rfl, _, c0⟩ := HZ.out.at_ hlt
      have hz := HB.out k hlt
      have hno := nrB_no (N := n) (Z := Z) hlt
      have hyes : nrB n Z (k + 1) = (nrB n Z k && (!(Z k).testBit k && decide (Z k < 2 ^ n))) := rfl
      obtain ⟨x, hx⟩ : ∃ x, Z k = x := ⟨_, rfl⟩
      rw [hx] at c0 hz hno hyes
      have e1 := low_bit x k hz
      have e2 := high_part x n
      clear hx hz
      cases h1 : x.testBit k
      · rw [h1] at e1 hno hyes
        have e1 : bits .and .u64 ((x : Int) / 2 ^ k) 1 = 0 := e1
        cases h2 : decide (x < 2 ^ n)
        · rw [h2] at e2 hno
          have e2 : ((x : Int) / 2 ^ n != 0) = true := e2
          have HD : Hid (nrB n Z n = false) := Lib.hid (hno rfl)
          clear hno hyes h1 h2
          go_wp2_with fail
          go_ret
          exact ⟨by rw [HD.out]; simp, rfl⟩
        · rw [h2] at e2 hyes
          have e2 : ((x : Int) / 2 ^ n != 0) = false := e2
          have HD : Hid (nrB n Z (k + 1) = true) := Lib.hid (by rw [hyes, HR.out]; rfl)
          clear hno hyes h1 h2
          go_wp2_with fail
          exact ⟨⟨k + 1, by simp, by omega, HD, by first | rfl | trivial⟩, by simp [intOf]; omega⟩
      · rw [h1] at e1 hno
        have e1 : bits .and .u64 ((x : Int) / 2 ^ k) 1 = 1 := e1
        have HD : Hid (nrB n Z n = false) := Lib.hid (hno rfl)
        clear hno hyes h1
        go_wp2_with fail
        go_ret
        exact ⟨by rw [HD.out]; simp, rfl⟩
    · obtain rfl : n = k := by omega
      go_wp2_with fail
      go_ret
      exact ⟨by rw [HR.out]; simp, rfl⟩
/-- A mesh as it is handed in. -/
structure Cx where
  nodes : Int
  na : Option Addr
  nn : Nat
  nc : Nat
  Z : Nat → Nat
  ha : Option Addr
  hops : List Int
  hc : Nat
  guard : Int
  err : Int
  keep : Int
  loss : Int
  queue : Int
  life : Int
structure Cx.At (w : World) (x : Cx) : Prop where
  n1 : x.nn ≤ x.nc
  n2 : x.nc ≤ maxLen
  near : Row w x.na x.nn (fun i => .int .u64 (x.Z i : Int))
  nb : ∀ i, i < x.nn → x.Z i < 18446744073709551616
  h1 : x.hops.length ≤ x.hc
  h2 : x.hc ≤ maxLen
  hops : Row w x.ha x.hops.length (zv x.hops)
  hnil : x.ha = none → x.hops.length = 0
theorem Cx.At.below {w w' : World} {x : Cx} (h : x.At w) (j : Below w.heap.size w w') : x.At w' := ⟨h.n1, h.n2, h.near.below j, h.nb, h.h1, h.h2, h.hops.below j, h.hnil⟩
def Cx.cfg (x : Cx) : Cfg := ⟨x.nodes, x.hops, x.guard, x.err, x.keep, x.loss, x.queue, x.life⟩
def nearQ (x : Cx) : Bool := decide ((x.nn : Int) = x.nodes) && nrB x.nodes.toNat x.Z x.nn
def mayQ (x : Cx) : Bool := inB x.nodes 2 16 && (nearQ x && (Hp.mayB (fun i => x.hops.getD i 0) x.hops.length && (inB x.guard 1 4000 && (inB x.err 0 1000 && (inB x.keep 1 10000 && (inB x.loss 1 10000 && (inB x.queue 1 32 && inB x.life 1 15)))))))
theorem nearQ_any (x : Cx) (w : World) (H : x.At w) (h0 : inB x.nodes 2 16 = true) (q : Bool) (e : nearQ x = q) : Calls Tryz.prog 49 #[.int .i64 x.nodes, .slice x.na x.nn x.nc] w fun r w' => r = .returned (.bool q) ∧ w = w' := by
  unfold inB at h0
  rw [decide_eq_true_eq] at h0
  obtain ⟨N, hN⟩ := Int.eq_ofNat_of_zero_le (show 0 ≤ x.nodes by omega)
  have := near_any N x.na x.nn x.nc x.Z w (by omega) H.n1 H.n2 H.near H.nb
  have e2 : (decide (x.nn = N) && nrB N x.Z x.nn) = q := by
    rw [← e]
    unfold nearQ
    rw [hN, Int.toNat_natCast]
    congr 1
    exact decide_eq_decide.2 ⟨fun h => by omega, fun h => by omega⟩
  rw [e2] at this
  rw [hN]
  exact this
set_option maxHeartbeats 8000000 in
theorem may_any (x : Cx) (w : World) (h : x.At w) :
    Calls Tryz.prog 14 #[.agg #[.int .i64 x.nodes, .slice x.na x.nn x.nc, .slice x.ha x.hops.length x.hc, .int .i64 x.guard, .int .i64 x.err, .int .i64 x.keep, .int .i64 x.loss, .int .i64 x.queue, .int .i64 x.life]] w fun r w' => r = .returned (.bool (mayQ x)) ∧ Below w.heap.size w w' := by
  have hb := (Below.refl w.heap.size w).alloc (Nat.le_refl _) (.cells #[.int .i64 x.nodes, .slice x.na x.nn x.nc, .slice x.ha x.hops.length x.hc, .int .i64 x.guard, .int .i64 x.err, .int .i64 x.keep, .int .i64 x.loss, .int .i64 x.queue, .int .i64 x.life] 25)
  have H := h.below hb
  have P0 := fun (q : Bool) (e : inB x.nodes 2 16 = q) => e ▸ isIn_any x.nodes 2 16 (w.alloc (.cells #[.int .i64 x.nodes, .slice x.na x.nn x.nc, .slice x.ha x.hops.length x.hc, .int .i64 x.guard, .int .i64 x.err, .int .i64 x.keep, .int .i64 x.loss, .int .i64 x.queue, .int .i64 x.life] 25))
  have P1 := fun (q : Bool) (h0 : inB x.nodes 2 16 = true) (e : nearQ x = q) => nearQ_any x (w.alloc (.cells #[.int .i64 x.nodes, .slice x.na x.nn x.nc, .slice x.ha x.hops.length x.hc, .int .i64 x.guard, .int .i64 x.err, .int .i64 x.keep, .int .i64 x.loss, .int .i64 x.queue, .int .i64 x.life] 25)) H h0 q e
  have P2 := fun (q : Bool) (e : Hp.mayB (fun i => x.hops.getD i 0) x.hops.length = q) => e ▸ Hp.may_any x.ha x.hops.length x.hc (fun i => x.hops.getD i 0) (w.alloc (.cells #[.int .i64 x.nodes, .slice x.na x.nn x.nc, .slice x.ha x.hops.length x.hc, .int .i64 x.guard, .int .i64 x.err, .int .i64 x.keep, .int .i64 x.loss, .int .i64 x.queue, .int .i64 x.life] 25)) H.h1 H.h2 H.hops
  have P3 := fun (q : Bool) (e : inB x.guard 1 4000 = q) => e ▸ isIn_any x.guard 1 4000 (w.alloc (.cells #[.int .i64 x.nodes, .slice x.na x.nn x.nc, .slice x.ha x.hops.length x.hc, .int .i64 x.guard, .int .i64 x.err, .int .i64 x.keep, .int .i64 x.loss, .int .i64 x.queue, .int .i64 x.life] 25))
  have P4 := fun (q : Bool) (e : inB x.err 0 1000 = q) => e ▸ isIn_any x.err 0 1000 (w.alloc (.cells #[.int .i64 x.nodes, .slice x.na x.nn x.nc, .slice x.ha x.hops.length x.hc, .int .i64 x.guard, .int .i64 x.err, .int .i64 x.keep, .int .i64 x.loss, .int .i64 x.queue, .int .i64 x.life] 25))
  have P5 := fun (q : Bool) (e : inB x.keep 1 10000 = q) => e ▸ isIn_any x.keep 1 10000 (w.alloc (.cells #[.int .i64 x.nodes, .slice x.na x.nn x.nc, .slice x.ha x.hops.length x.hc, .int .i64 x.guard, .int .i64 x.err, .int .i64 x.keep, .int .i64 x.loss, .int .i64 x.queue, .int .i64 x.life] 25))
  have P6 := fun (q : Bool) (e : inB x.loss 1 10000 = q) => e ▸ isIn_any x.loss 1 10000 (w.alloc (.cells #[.int .i64 x.nodes, .slice x.na x.nn x.nc, .slice x.ha x.hops.length x.hc, .int .i64 x.guard, .int .i64 x.err, .int .i64 x.keep, .int .i64 x.loss, .int .i64 x.queue, .int .i64 x.life] 25))
  have P7 := fun (q : Bool) (e : inB x.queue 1 32 = q) => e ▸ isIn_any x.queue 1 32 (w.alloc (.cells #[.int .i64 x.nodes, .slice x.na x.nn x.nc, .slice x.ha x.hops.length x.hc, .int .i64 x.guard, .int .i64 x.err, .int .i64 x.keep, .int .i64 x.loss, .int .i64 x.queue, .int .i64 x.life] 25))
  have P8 := fun (q : Bool) (e : inB x.life 1 15 = q) => e ▸ isIn_any x.life 1 15 (w.alloc (.cells #[.int .i64 x.nodes, .slice x.na x.nn x.nc, .slice x.ha x.hops.length x.hc, .int .i64 x.guard, .int .i64 x.err, .int .i64 x.keep, .int .i64 x.loss, .int .i64 x.queue, .int .i64 x.life] 25))
  have oB := Own.new w 25 #[.int .i64 x.nodes, .slice x.na x.nn x.nc, .slice x.ha x.hops.length x.hc, .int .i64 x.guard, .int .i64 x.err, .int .i64 x.keep, .int .i64 x.loss, .int .i64 x.queue, .int .i64 x.life]
  have HM : Hid (mayQ x = (inB x.nodes 2 16 && (nearQ x && (Hp.mayB (fun i => x.hops.getD i 0) x.hops.length && (inB x.guard 1 4000 && (inB x.err 0 1000 && (inB x.keep 1 10000 && (inB x.loss 1 10000 && (inB x.queue 1 32 && inB x.life 1 15))))))))) := Lib.hid rfl
  clear h H
  cases h0 : inB x.nodes 2 16
  · skip
    rw [h0] at HM
    go_enter Tryz.func14, Tryz.ntmps14
    go_upto_region 1 with (fail)
    obtain ⟨xb, hxb⟩ : ∃ q, w.heap.size = q := ⟨_, rfl⟩
    have HB := Lib.hid hb
    clear hb
    rw [hxb] at oB ⊢
    generalize w.alloc (.cells #[.int .i64 x.nodes, .slice x.na x.nn x.nc, .slice x.ha x.hops.length x.hc, .int .i64 x.guard, .int .i64 x.err, .int .i64 x.keep, .int .i64 x.loss, .int .i64 x.queue, .int .i64 x.life] 25) = wx at *
    have c0 : wx.cell? ⟨xb, 0, none⟩ = some (.int .i64 x.nodes) := oB.cell 0
    have c1 : wx.cell? ⟨xb, 1, none⟩ = some (.slice x.na x.nn x.nc) := oB.cell 1
    have c2 : wx.cell? ⟨xb, 2, none⟩ = some (.slice x.ha x.hops.length x.hc) := oB.cell 2
    have c3 : wx.cell? ⟨xb, 3, none⟩ = some (.int .i64 x.guard) := oB.cell 3
    have c4 : wx.cell? ⟨xb, 4, none⟩ = some (.int .i64 x.err) := oB.cell 4
    have c5 : wx.cell? ⟨xb, 5, none⟩ = some (.int .i64 x.keep) := oB.cell 5
    have c6 : wx.cell? ⟨xb, 6, none⟩ = some (.int .i64 x.loss) := oB.cell 6
    have c7 : wx.cell? ⟨xb, 7, none⟩ = some (.int .i64 x.queue) := oB.cell 7
    have c8 : wx.cell? ⟨xb, 8, none⟩ = some (.int .i64 x.life) := oB.cell 8
    clear oB hxb
    go_wp2_with fail
    refine (P0 _ h0).mono ?_
    rintro r w' ⟨rfl, rfl⟩
    go_wp2_with fail
    go_ret
    exact ⟨by rw [HM.out]; rfl, HB.out⟩
  cases h1 : nearQ x
  · skip
    rw [h0, h1] at HM
    go_enter Tryz.func14, Tryz.ntmps14
    go_upto_region 1 with (fail)
    obtain ⟨xb, hxb⟩ : ∃ q, w.heap.size = q := ⟨_, rfl⟩
    have HB := Lib.hid hb
    clear hb
    rw [hxb] at oB ⊢
    generalize w.alloc (.cells #[.int .i64 x.nodes, .slice x.na x.nn x.nc, .slice x.ha x.hops.length x.hc, .int .i64 x.guard, .int .i64 x.err, .int .i64 x.keep, .int .i64 x.loss, .int .i64 x.queue, .int .i64 x.life] 25) = wx at *
    have c0 : wx.cell? ⟨xb, 0, none⟩ = some (.int .i64 x.nodes) := oB.cell 0
    have c1 : wx.cell? ⟨xb, 1, none⟩ = some (.slice x.na x.nn x.nc) := oB.cell 1
    have c2 : wx.cell? ⟨xb, 2, none⟩ = some (.slice x.ha x.hops.length x.hc) := oB.cell 2
    have c3 : wx.cell? ⟨xb, 3, none⟩ = some (.int .i64 x.guard) := oB.cell 3
    have c4 : wx.cell? ⟨xb, 4, none⟩ = some (.int .i64 x.err) := oB.cell 4
    have c5 : wx.cell? ⟨xb, 5, none⟩ = some (.int .i64 x.keep) := oB.cell 5
    have c6 : wx.cell? ⟨xb, 6, none⟩ = some (.int .i64 x.loss) := oB.cell 6
    have c7 : wx.cell? ⟨xb, 7, none⟩ = some (.int .i64 x.queue) := oB.cell 7
    have c8 : wx.cell? ⟨xb, 8, none⟩ = some (.int .i64 x.life) := oB.cell 8
    clear oB hxb
    go_wp2_with fail
    refine (P0 _ h0).mono ?_
    rintro r w' ⟨rfl, rfl⟩
    go_wp2_with fail
    refine (P1 _ h0 h1).mono ?_
    rintro r w' ⟨rfl, rfl⟩
    go_wp2_with fail
    go_ret
    exact ⟨by rw [HM.out]; rfl, HB.out⟩
  cases h2 : Hp.mayB (fun i => x.hops.getD i 0) x.hops.length
  · skip
    rw [h0, h1, h2] at HM
    go_enter Tryz.func14, Tryz.ntmps14
    go_upto_region 1 with (fail)
    obtain ⟨xb, hxb⟩ : ∃ q, w.heap.size = q := ⟨_, rfl⟩
    have HB := Lib.hid hb
    clear hb
    rw [hxb] at oB ⊢
    generalize w.alloc (.cells #[.int .i64 x.nodes, .slice x.na x.nn x.nc, .slice x.ha x.hops.length x.hc, .int .i64 x.guard, .int .i64 x.err, .int .i64 x.keep, .int .i64 x.loss, .int .i64 x.queue, .int .i64 x.life] 25) = wx at *
    have c0 : wx.cell? ⟨xb, 0, none⟩ = some (.int .i64 x.nodes) := oB.cell 0
    have c1 : wx.cell? ⟨xb, 1, none⟩ = some (.slice x.na x.nn x.nc) := oB.cell 1
    have c2 : wx.cell? ⟨xb, 2, none⟩ = some (.slice x.ha x.hops.length x.hc) := oB.cell 2
    have c3 : wx.cell? ⟨xb, 3, none⟩ = some (.int .i64 x.guard) := oB.cell 3
    have c4 : wx.cell? ⟨xb, 4, none⟩ = some (.int .i64 x.err) := oB.cell 4
    have c5 : wx.cell? ⟨xb, 5, none⟩ = some (.int .i64 x.keep) := oB.cell 5
    have c6 : wx.cell? ⟨xb, 6, none⟩ = some (.int .i64 x.loss) := oB.cell 6
    have c7 : wx.cell? ⟨xb, 7, none⟩ = some (.int .i64 x.queue) := oB.cell 7
    have c8 : wx.cell? ⟨xb, 8, none⟩ = some (.int .i64 x.life) := oB.cell 8
    clear oB hxb
    go_wp2_with fail
    refine (P0 _ h0).mono ?_
    rintro r w' ⟨rfl, rfl⟩
    go_wp2_with fail
    refine (P1 _ h0 h1).mono ?_
    rintro r w' ⟨rfl, rfl⟩
    go_wp2_with fail
    refine (P2 _ h2).mono ?_
    rintro r w' ⟨rfl, rfl⟩
    go_wp2_with fail
    go_ret
    exact ⟨by rw [HM.out]; rfl, HB.out⟩
  cases h3 : inB x.guard 1 4000
  · skip
    rw [h0, h1, h2, h3] at HM
    go_enter Tryz.func14, Tryz.ntmps14
    go_upto_region 1 with (fail)
    obtain ⟨xb, hxb⟩ : ∃ q, w.heap.size = q := ⟨_, rfl⟩
    have HB := Lib.hid hb
    clear hb
    rw [hxb] at oB ⊢
    generalize w.alloc (.cells #[.int .i64 x.nodes, .slice x.na x.nn x.nc, .slice x.ha x.hops.length x.hc, .int .i64 x.guard, .int .i64 x.err, .int .i64 x.keep, .int .i64 x.loss, .int .i64 x.queue, .int .i64 x.life] 25) = wx at *
    have c0 : wx.cell? ⟨xb, 0, none⟩ = some (.int .i64 x.nodes) := oB.cell 0
    have c1 : wx.cell? ⟨xb, 1, none⟩ = some (.slice x.na x.nn x.nc) := oB.cell 1
    have c2 : wx.cell? ⟨xb, 2, none⟩ = some (.slice x.ha x.hops.length x.hc) := oB.cell 2
    have c3 : wx.cell? ⟨xb, 3, none⟩ = some (.int .i64 x.guard) := oB.cell 3
    have c4 : wx.cell? ⟨xb, 4, none⟩ = some (.int .i64 x.err) := oB.cell 4
    have c5 : wx.cell? ⟨xb, 5, none⟩ = some (.int .i64 x.keep) := oB.cell 5
    have c6 : wx.cell? ⟨xb, 6, none⟩ = some (.int .i64 x.loss) := oB.cell 6
    have c7 : wx.cell? ⟨xb, 7, none⟩ = some (.int .i64 x.queue) := oB.cell 7
    have c8 : wx.cell? ⟨xb, 8, none⟩ = some (.int .i64 x.life) := oB.cell 8
    clear oB hxb
    go_wp2_with fail
    refine (P0 _ h0).mono ?_
    rintro r w' ⟨rfl, rfl⟩
    go_wp2_with fail
    refine (P1 _ h0 h1).mono ?_
    rintro r w' ⟨rfl, rfl⟩
    go_wp2_with fail
    refine (P2 _ h2).mono ?_
    rintro r w' ⟨rfl, rfl⟩
    go_wp2_with fail
    refine (P3 _ h3).mono ?_
    rintro r w' ⟨rfl, rfl⟩
    go_wp2_with fail
    go_ret
    exact ⟨by rw [HM.out]; rfl, HB.out⟩
  cases h4 : inB x.err 0 1000
  · skip
    rw [h0, h1, h2, h3, h4] at HM
    go_enter Tryz.func14, Tryz.ntmps14
    go_upto_region 1 with (fail)
    obtain ⟨xb, hxb⟩ : ∃ q, w.heap.size = q := ⟨_, rfl⟩
    have HB := Lib.hid hb
    clear hb
    rw [hxb] at oB ⊢
    generalize w.alloc (.cells #[.int .i64 x.nodes, .slice x.na x.nn x.nc, .slice x.ha x.hops.length x.hc, .int .i64 x.guard, .int .i64 x.err, .int .i64 x.keep, .int .i64 x.loss, .int .i64 x.queue, .int .i64 x.life] 25) = wx at *
    have c0 : wx.cell? ⟨xb, 0, none⟩ = some (.int .i64 x.nodes) := oB.cell 0
    have c1 : wx.cell? ⟨xb, 1, none⟩ = some (.slice x.na x.nn x.nc) := oB.cell 1
    have c2 : wx.cell? ⟨xb, 2, none⟩ = some (.slice x.ha x.hops.length x.hc) := oB.cell 2
    have c3 : wx.cell? ⟨xb, 3, none⟩ = some (.int .i64 x.guard) := oB.cell 3
    have c4 : wx.cell? ⟨xb, 4, none⟩ = some (.int .i64 x.err) := oB.cell 4
    have c5 : wx.cell? ⟨xb, 5, none⟩ = some (.int .i64 x.keep) := oB.cell 5
    have c6 : wx.cell? ⟨xb, 6, none⟩ = some (.int .i64 x.loss) := oB.cell 6
    have c7 : wx.cell? ⟨xb, 7, none⟩ = some (.int .i64 x.queue) := oB.cell 7
    have c8 : wx.cell? ⟨xb, 8, none⟩ = some (.int .i64 x.life) := oB.cell 8
    clear oB hxb
    go_wp2_with fail
    refine (P0 _ h0).mono ?_
    rintro r w' ⟨rfl, rfl⟩
    go_wp2_with fail
    refine (P1 _ h0 h1).mono ?_
    rintro r w' ⟨rfl, rfl⟩
    go_wp2_with fail
    refine (P2 _ h2).mono ?_
    rintro r w' ⟨rfl, rfl⟩
    go_wp2_with fail
    refine (P3 _ h3).mono ?_
    rintro r w' ⟨rfl, rfl⟩
    go_wp2_with fail
    refine (P4 _ h4).mono ?_
    rintro r w' ⟨rfl, rfl⟩
    go_wp2_with fail
    go_ret
    exact ⟨by rw [HM.out]; rfl, HB.out⟩
  cases h5 : inB x.keep 1 10000
  · skip
    rw [h0, h1, h2, h3, h4, h5] at HM
    go_enter Tryz.func14, Tryz.ntmps14
    go_upto_region 1 with (fail)
    obtain ⟨xb, hxb⟩ : ∃ q, w.heap.size = q := ⟨_, rfl⟩
    have HB := Lib.hid hb
    clear hb
    rw [hxb] at oB ⊢
    generalize w.alloc (.cells #[.int .i64 x.nodes, .slice x.na x.nn x.nc, .slice x.ha x.hops.length x.hc, .int .i64 x.guard, .int .i64 x.err, .int .i64 x.keep, .int .i64 x.loss, .int .i64 x.queue, .int .i64 x.life] 25) = wx at *
    have c0 : wx.cell? ⟨xb, 0, none⟩ = some (.int .i64 x.nodes) := oB.cell 0
    have c1 : wx.cell? ⟨xb, 1, none⟩ = some (.slice x.na x.nn x.nc) := oB.cell 1
    have c2 : wx.cell? ⟨xb, 2, none⟩ = some (.slice x.ha x.hops.length x.hc) := oB.cell 2
    have c3 : wx.cell? ⟨xb, 3, none⟩ = some (.int .i64 x.guard) := oB.cell 3
    have c4 : wx.cell? ⟨xb, 4, none⟩ = some (.int .i64 x.err) := oB.cell 4
    have c5 : wx.cell? ⟨xb, 5, none⟩ = some (.int .i64 x.keep) := oB.cell 5
    have c6 : wx.cell? ⟨xb, 6, none⟩ = some (.int .i64 x.loss) := oB.cell 6
    have c7 : wx.cell? ⟨xb, 7, none⟩ = some (.int .i64 x.queue) := oB.cell 7
    have c8 : wx.cell? ⟨xb, 8, none⟩ = some (.int .i64 x.life) := oB.cell 8
    clear oB hxb
    go_wp2_with fail
    refine (P0 _ h0).mono ?_
    rintro r w' ⟨rfl, rfl⟩
    go_wp2_with fail
    refine (P1 _ h0 h1).mono ?_
    rintro r w' ⟨rfl, rfl⟩
    go_wp2_with fail
    refine (P2 _ h2).mono ?_
    rintro r w' ⟨rfl, rfl⟩
    go_wp2_with fail
    refine (P3 _ h3).mono ?_
    rintro r w' ⟨rfl, rfl⟩
    go_wp2_with fail
    refine (P4 _ h4).mono ?_
    rintro r w' ⟨rfl, rfl⟩
    go_wp2_with fail
    refine (P5 _ h5).mono ?_
    rintro r w' ⟨rfl, rfl⟩
    go_wp2_with fail
    go_ret
    exact ⟨by rw [HM.out]; rfl, HB.out⟩
  cases h6 : inB x.loss 1 10000
  · skip
    rw [h0, h1, h2, h3, h4, h5, h6] at HM
    go_enter Tryz.func14, Tryz.ntmps14
    go_upto_region 1 with (fail)
    obtain ⟨xb, hxb⟩ : ∃ q, w.heap.size = q := ⟨_, rfl⟩
    have HB := Lib.hid hb
    clear hb
    rw [hxb] at oB ⊢
    generalize w.alloc (.cells #[.int .i64 x.nodes, .slice x.na x.nn x.nc, .slice x.ha x.hops.length x.hc, .int .i64 x.guard, .int .i64 x.err, .int .i64 x.keep, .int .i64 x.loss, .int .i64 x.queue, .int .i64 x.life] 25) = wx at *
    have c0 : wx.cell? ⟨xb, 0, none⟩ = some (.int .i64 x.nodes) := oB.cell 0
    have c1 : wx.cell? ⟨xb, 1, none⟩ = some (.slice x.na x.nn x.nc) := oB.cell 1
    have c2 : wx.cell? ⟨xb, 2, none⟩ = some (.slice x.ha x.hops.length x.hc) := oB.cell 2
    have c3 : wx.cell? ⟨xb, 3, none⟩ = some (.int .i64 x.guard) := oB.cell 3
    have c4 : wx.cell? ⟨xb, 4, none⟩ = some (.int .i64 x.err) := oB.cell 4
    have c5 : wx.cell? ⟨xb, 5, none⟩ = some (.int .i64 x.keep) := oB.cell 5
    have c6 : wx.cell? ⟨xb, 6, none⟩ = some (.int .i64 x.loss) := oB.cell 6
    have c7 : wx.cell? ⟨xb, 7, none⟩ = some (.int .i64 x.queue) := oB.cell 7
    have c8 : wx.cell? ⟨xb, 8, none⟩ = some (.int .i64 x.life) := oB.cell 8
    clear oB hxb
    go_wp2_with fail
    refine (P0 _ h0).mono ?_
    rintro r w' ⟨rfl, rfl⟩
    go_wp2_with fail
    refine (P1 _ h0 h1).mono ?_
    rintro r w' ⟨rfl, rfl⟩
    go_wp2_with fail
    refine (P2 _ h2).mono ?_
    rintro r w' ⟨rfl, rfl⟩
    go_wp2_with fail
    refine (P3 _ h3).mono ?_
    rintro r w' ⟨rfl, rfl⟩
    go_wp2_with fail
    refine (P4 _ h4).mono ?_
    rintro r w' ⟨rfl, rfl⟩
    go_wp2_with fail
    refine (P5 _ h5).mono ?_
    rintro r w' ⟨rfl, rfl⟩
    go_wp2_with fail
    refine (P6 _ h6).mono ?_
    rintro r w' ⟨rfl, rfl⟩
    go_wp2_with fail
    go_ret
    exact ⟨by rw [HM.out]; rfl, HB.out⟩
  cases h7 : inB x.queue 1 32
  · skip
    rw [h0, h1, h2, h3, h4, h5, h6, h7] at HM
    go_enter Tryz.func14, Tryz.ntmps14
    go_upto_region 1 with (fail)
    obtain ⟨xb, hxb⟩ : ∃ q, w.heap.size = q := ⟨_, rfl⟩
    have HB := Lib.hid hb
    clear hb
    rw [hxb] at oB ⊢
    generalize w.alloc (.cells #[.int .i64 x.nodes, .slice x.na x.nn x.nc, .slice x.ha x.hops.length x.hc, .int .i64 x.guard, .int .i64 x.err, .int .i64 x.keep, .int .i64 x.loss, .int .i64 x.queue, .int .i64 x.life] 25) = wx at *
    have c0 : wx.cell? ⟨xb, 0, none⟩ = some (.int .i64 x.nodes) := oB.cell 0
    have c1 : wx.cell? ⟨xb, 1, none⟩ = some (.slice x.na x.nn x.nc) := oB.cell 1
    have c2 : wx.cell? ⟨xb, 2, none⟩ = some (.slice x.ha x.hops.length x.hc) := oB.cell 2
    have c3 : wx.cell? ⟨xb, 3, none⟩ = some (.int .i64 x.guard) := oB.cell 3
    have c4 : wx.cell? ⟨xb, 4, none⟩ = some (.int .i64 x.err) := oB.cell 4
    have c5 : wx.cell? ⟨xb, 5, none⟩ = some (.int .i64 x.keep) := oB.cell 5
    have c6 : wx.cell? ⟨xb, 6, none⟩ = some (.int .i64 x.loss) := oB.cell 6
    have c7 : wx.cell? ⟨xb, 7, none⟩ = some (.int .i64 x.queue) := oB.cell 7
    have c8 : wx.cell? ⟨xb, 8, none⟩ = some (.int .i64 x.life) := oB.cell 8
    clear oB hxb
    go_wp2_with fail
    refine (P0 _ h0).mono ?_
    rintro r w' ⟨rfl, rfl⟩
    go_wp2_with fail
    refine (P1 _ h0 h1).mono ?_
    rintro r w' ⟨rfl, rfl⟩
    go_wp2_with fail
    refine (P2 _ h2).mono ?_
    rintro r w' ⟨rfl, rfl⟩
    go_wp2_with fail
    refine (P3 _ h3).mono ?_
    rintro r w' ⟨rfl, rfl⟩
    go_wp2_with fail
    refine (P4 _ h4).mono ?_
    rintro r w' ⟨rfl, rfl⟩
    go_wp2_with fail
    refine (P5 _ h5).mono ?_
    rintro r w' ⟨rfl, rfl⟩
    go_wp2_with fail
    refine (P6 _ h6).mono ?_
    rintro r w' ⟨rfl, rfl⟩
    go_wp2_with fail
    refine (P7 _ h7).mono ?_
    rintro r w' ⟨rfl, rfl⟩
    go_wp2_with fail
    go_ret
    exact ⟨by rw [HM.out]; rfl, HB.out⟩
  cases h8 : inB x.life 1 15
  · skip
    rw [h0, h1, h2, h3, h4, h5, h6, h7, h8] at HM
    go_enter Tryz.func14, Tryz.ntmps14
    go_upto_region 1 with (fail)
    obtain ⟨xb, hxb⟩ : ∃ q, w.heap.size = q := ⟨_, rfl⟩
    have HB := Lib.hid hb
    clear hb
    rw [hxb] at oB ⊢
    generalize w.alloc (.cells #[.int .i64 x.nodes, .slice x.na x.nn x.nc, .slice x.ha x.hops.length x.hc, .int .i64 x.guard, .int .i64 x.err, .int .i64 x.keep, .int .i64 x.loss, .int .i64 x.queue, .int .i64 x.life] 25) = wx at *
    have c0 : wx.cell? ⟨xb, 0, none⟩ = some (.int .i64 x.nodes) := oB.cell 0
    have c1 : wx.cell? ⟨xb, 1, none⟩ = some (.slice x.na x.nn x.nc) := oB.cell 1
    have c2 : wx.cell? ⟨xb, 2, none⟩ = some (.slice x.ha x.hops.length x.hc) := oB.cell 2
    have c3 : wx.cell? ⟨xb, 3, none⟩ = some (.int .i64 x.guard) := oB.cell 3
    have c4 : wx.cell? ⟨xb, 4, none⟩ = some (.int .i64 x.err) := oB.cell 4
    have c5 : wx.cell? ⟨xb, 5, none⟩ = some (.int .i64 x.keep) := oB.cell 5
    have c6 : wx.cell? ⟨xb, 6, none⟩ = some (.int .i64 x.loss) := oB.cell 6
    have c7 : wx.cell? ⟨xb, 7, none⟩ = some (.int .i64 x.queue) := oB.cell 7
    have c8 : wx.cell? ⟨xb, 8, none⟩ = some (.int .i64 x.life) := oB.cell 8
    clear oB hxb
    go_wp2_with fail
    refine (P0 _ h0).mono ?_
    rintro r w' ⟨rfl, rfl⟩
    go_wp2_with fail
    refine (P1 _ h0 h1).mono ?_
    rintro r w' ⟨rfl, rfl⟩
    go_wp2_with fail
    refine (P2 _ h2).mono ?_
    rintro r w' ⟨rfl, rfl⟩
    go_wp2_with fail
    refine (P3 _ h3).mono ?_
    rintro r w' ⟨rfl, rfl⟩
    go_wp2_with fail
    refine (P4 _ h4).mono ?_
    rintro r w' ⟨rfl, rfl⟩
    go_wp2_with fail
    refine (P5 _ h5).mono ?_
    rintro r w' ⟨rfl, rfl⟩
    go_wp2_with fail
    refine (P6 _ h6).mono ?_
    rintro r w' ⟨rfl, rfl⟩
    go_wp2_with fail
    refine (P7 _ h7).mono ?_
    rintro r w' ⟨rfl, rfl⟩
    go_wp2_with fail
    refine (P8 _ h8).mono ?_
    rintro r w' ⟨rfl, rfl⟩
    go_wp2_with fail
    go_ret
    exact ⟨by rw [HM.out]; rfl, HB.out⟩
  · skip
    rw [h0, h1, h2, h3, h4, h5, h6, h7, h8] at HM
    go_enter Tryz.func14, Tryz.ntmps14
    go_upto_region 1 with (fail)
    obtain ⟨xb, hxb⟩ : ∃ q, w.heap.size = q := ⟨_, rfl⟩
    have HB := Lib.hid hb
    clear hb
    rw [hxb] at oB ⊢
    generalize w.alloc (.cells #[.int .i64 x.nodes, .slice x.na x.nn x.nc, .slice x.ha x.hops.length x.hc, .int .i64 x.guard, .int .i64 x.err, .int .i64 x.keep, .int .i64 x.loss, .int .i64 x.queue, .int .i64 x.life] 25) = wx at *
    have c0 : wx.cell? ⟨xb, 0, none⟩ = some (.int .i64 x.nodes) := oB.cell 0
    have c1 : wx.cell? ⟨xb, 1, none⟩ = some (.slice x.na x.nn x.nc) := oB.cell 1
    have c2 : wx.cell? ⟨xb, 2, none⟩ = some (.slice x.ha x.hops.length x.hc) := oB.cell 2
    have c3 : wx.cell? ⟨xb, 3, none⟩ = some (.int .i64 x.guard) := oB.cell 3
    have c4 : wx.cell? ⟨xb, 4, none⟩ = some (.int .i64 x.err) := oB.cell 4
    have c5 : wx.cell? ⟨xb, 5, none⟩ = some (.int .i64 x.keep) := oB.cell 5
    have c6 : wx.cell? ⟨xb, 6, none⟩ = some (.int .i64 x.loss) := oB.cell 6
    have c7 : wx.cell? ⟨xb, 7, none⟩ = some (.int .i64 x.queue) := oB.cell 7
    have c8 : wx.cell? ⟨xb, 8, none⟩ = some (.int .i64 x.life) := oB.cell 8
    clear oB hxb
    go_wp2_with fail
    refine (P0 _ h0).mono ?_
    rintro r w' ⟨rfl, rfl⟩
    go_wp2_with fail
    refine (P1 _ h0 h1).mono ?_
    rintro r w' ⟨rfl, rfl⟩
    go_wp2_with fail
    refine (P2 _ h2).mono ?_
    rintro r w' ⟨rfl, rfl⟩
    go_wp2_with fail
    refine (P3 _ h3).mono ?_
    rintro r w' ⟨rfl, rfl⟩
    go_wp2_with fail
    refine (P4 _ h4).mono ?_
    rintro r w' ⟨rfl, rfl⟩
    go_wp2_with fail
    refine (P5 _ h5).mono ?_
    rintro r w' ⟨rfl, rfl⟩
    go_wp2_with fail
    refine (P6 _ h6).mono ?_
    rintro r w' ⟨rfl, rfl⟩
    go_wp2_with fail
    refine (P7 _ h7).mono ?_
    rintro r w' ⟨rfl, rfl⟩
    go_wp2_with fail
    refine (P8 _ h8).mono ?_
    rintro r w' ⟨rfl, rfl⟩
    go_wp2_with fail
    go_ret
    exact ⟨by rw [HM.out]; rfl, HB.out⟩
end Go.Proofs.YtiflmdekcjbmbaaGreat.Nd
