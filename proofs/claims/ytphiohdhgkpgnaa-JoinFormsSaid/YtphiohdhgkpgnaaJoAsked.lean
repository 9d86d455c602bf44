/-
  Package join (chapter 18): Asked, Ask.
-/
import Derived.Test.YtphiohdhgkpgnaaJoRead
set_option maxRecDepth 100000
namespace Go.Proofs.Ytphiohdhgkpgnaa.Jo
set_option linter.unusedVariables false
open Go.RowKit Lb Go.Shelf Bf Se Cl

theorem cells5 (q1 q2 q3 q4 q5 : Int) : (#[Value.int .i64 q1, .int .i64 q2, .int .u32 q3, .int .u32 q4, .int .u32 q5] : Array Value).all (·.oneCell') = true := by simp [Value.oneCell']
theorem assert_ask (q1 q2 q3 q4 q5 : Int) (w : World) : (Instr.typeAssert (.iface 67 (.agg #[.int .i64 q1, .int .i64 q2, .int .u32 q3, .int .u32 q4, .int .u32 q5])) 76 67 true).run Try.prog w = .ok (.tuple #[.agg #[.int .i64 q1, .int .i64 q2, .int .u32 q3, .int .u32 q4, .int .u32 q5], .bool true]) w := by kernel_rfl
theorem assert_nil (w : World) : (Instr.typeAssert .nilIface 76 67 true).run Try.prog w = .ok (.tuple #[.agg #[.int .i64 0, .int .i64 0, .int .u32 0, .int .u32 0, .int .u32 0], .bool false]) w := by kernel_rfl
set_option maxHeartbeats 2000000 in
theorem asked_any (a : Option Addr) (c : Nat) (l : List Int) (w : World) (hl : l.length ≤ 1000) (hR : Bs w a c l) (hB : okB l) :
    Calls Try.prog 14 #[.slice a l.length c] w fun r w' => r = .returned (.tuple #[.agg (askR l).vals, .int .i64 (askE l)]) ∧ Below w.heap.size w w' := by
  have b0 := (Below.refl w.heap.size w).alloc (Nat.le_refl _) (.cells #[.int .i64 0, .int .i64 0, .int .u32 0, .int .u32 0, .int .u32 0] 25)
  have o0 := Own.new w 25 #[.int .i64 0, .int .i64 0, .int .u32 0, .int .u32 0, .int .u32 0]
  have PR := reada_any a c l _ hl (hR.below b0) hB
  unfold askV at PR
  have hr : askE l ≠ 0 → askR l = Rq.none := fun h => if_neg h
  have HRR := Lib.hid hr
  obtain ⟨q, hq⟩ : ∃ q, askR l = q := ⟨_, rfl⟩
  rw [hq] at PR
  have HQ := Lib.hid hq
  clear hq hr hR
  by_cases he : askE l = 0
  · rw [if_pos he] at PR
    have HE := Lib.hid he
    clear he
    obtain ⟨q1, q2, q3, q4, q5⟩ := q
    unfold Rq.vals at PR
    dsimp only at PR
    have hta := assert_ask q1 q2 q3 q4 q5
    go_enter Try.func14, Try.ntmps14
    go_upto_region 1 with (fail)
    obtain ⟨g, hg⟩ : ∃ g, w.heap.size = g := ⟨_, rfl⟩
    have HG := Lib.hid hg
    generalize w.alloc (.cells #[.int .i64 0, .int .i64 0, .int .u32 0, .int .u32 0, .int .u32 0] 25) = w1 at *
    rw [hg] at b0 o0 ⊢
    have hgl : g < w1.heap.size := o0.lt
    clear hg
    go_wp2_with fail
    refine PR.mono ?_
    rintro r w2 ⟨rfl, b2⟩
    have o2 := below_own b2 o0 hgl
    have b3 := b0.trans (b2.mono (Nat.le_of_lt hgl))
    have b2s := b2.size
    have b4s : g ≤ (w2.alloc (.cells #[.int .i64 q1, .int .i64 q2, .int .u32 q3, .int .u32 q4, .int .u32 q5] 67)).heap.size := by simp; omega
    clear b0 o0 b2 PR
    go_upto_region 3 with (fail)
    have o3 := o2.alloc (.cells #[.int .i64 q1, .int .i64 q2, .int .u32 q3, .int .u32 q4, .int .u32 q5] 67)
    have n3 := Own.new w2 67 #[.int .i64 q1, .int .i64 q2, .int .u32 q3, .int .u32 q4, .int .u32 q5]
    have b4 := b3.alloc (Nat.le_trans (Nat.le_of_lt hgl) b2s) (.cells #[.int .i64 q1, .int .i64 q2, .int .u32 q3, .int .u32 q4, .int .u32 q5] 67)
    generalize hq : w2.alloc (.cells #[.int .i64 q1, .int .i64 q2, .int .u32 q3, .int .u32 q4, .int .u32 q5] 67) = w3 at *
    obtain ⟨g2, hg2⟩ : ∃ g, w2.heap.size = g := ⟨_, rfl⟩
    rw [hg2] at n3 ⊢
    have c0 := n3.cell 0
    have c1 := n3.cell 1
    have c2 := n3.cell 2
    have c3 := n3.cell 3
    have c4 := n3.cell 4
    have k0 := o3.cell 0
    have k1 := o3.cell 1
    have k2 := o3.cell 2
    have k3 := o3.cell 3
    have k4 := o3.cell 4
    have f0 := o3.free 0
    have f1 := o3.free 1
    have f2 := o3.free 2
    have f3 := o3.free 3
    have f4 := o3.free 4
    have o4 := (((((o3.put 0 (.int .i64 q1)).put 1 (.int .i64 q2)).put 2 (.int .u32 q3)).put 3 (.int .u32 q4)).put 4 (.int .u32 q5))
    have b5 := ((((((Just.refl g w3).put 0 (.int .i64 q1)).put 1 (.int .i64 q2)).put 2 (.int .u32 q3)).put 3 (.int .u32 q4)).put 4 (.int .u32 q5)).below b4 (Nat.le_refl _) b4s
    have HO4 := Lib.hid o4
    have HB5 := Lib.hid b5
    clear hq hg2 o2 o3 n3 b3 b4 o4 b5
    go_wp2_with fail
    refine bodyPost_ret (results_row_tmp rfl _ _ g 25 _ (0, 0) _ rfl HO4.out Try.underlying25 rfl (by kernel_rfl)) rfl ⟨?_, by rw [HG.out]; exact HB5.out⟩
    rw [HQ.out, HE.out]
    rfl
  · rw [if_neg he] at PR
    obtain rfl := (HQ.out).symm.trans (HRR.out he)
    clear he
    obtain ⟨e, hee⟩ : ∃ e, askE l = e := ⟨_, rfl⟩
    rw [hee] at PR
    have HEE := Lib.hid hee
    clear hee
    have hta := assert_nil
    go_enter Try.func14, Try.ntmps14
    go_upto_region 1 with (fail)
    obtain ⟨g, hg⟩ : ∃ g, w.heap.size = g := ⟨_, rfl⟩
    have HG := Lib.hid hg
    generalize w.alloc (.cells #[.int .i64 0, .int .i64 0, .int .u32 0, .int .u32 0, .int .u32 0] 25) = w1 at *
    rw [hg] at b0 o0 ⊢
    have hgl : g < w1.heap.size := o0.lt
    clear hg
    go_wp2_with fail
    refine PR.mono ?_
    rintro r w2 ⟨rfl, b2⟩
    have o2 := below_own b2 o0 hgl
    have b3 := b0.trans (b2.mono (Nat.le_of_lt hgl))
    have b2s := b2.size
    have b4s : g ≤ (w2.alloc (.cells #[.int .i64 0, .int .i64 0, .int .u32 0, .int .u32 0, .int .u32 0] 67)).heap.size := by simp; omega
    clear b0 o0 b2 PR
    go_upto_region 3 with (fail)
    have o3 := o2.alloc (.cells #[.int .i64 0, .int .i64 0, .int .u32 0, .int .u32 0, .int .u32 0] 67)
    have n3 := Own.new w2 67 #[.int .i64 0, .int .i64 0, .int .u32 0, .int .u32 0, .int .u32 0]
    have b4 := b3.alloc (Nat.le_trans (Nat.le_of_lt hgl) b2s) (.cells #[.int .i64 0, .int .i64 0, .int .u32 0, .int .u32 0, .int .u32 0] 67)
    generalize hq : w2.alloc (.cells #[.int .i64 0, .int .i64 0, .int .u32 0, .int .u32 0, .int .u32 0] 67) = w3 at *
    obtain ⟨g2, hg2⟩ : ∃ g, w2.heap.size = g := ⟨_, rfl⟩
    rw [hg2] at n3 ⊢
    have c0 := n3.cell 0
    have c1 := n3.cell 1
    have c2 := n3.cell 2
    have c3 := n3.cell 3
    have c4 := n3.cell 4
    have k0 := o3.cell 0
    have k1 := o3.cell 1
    have k2 := o3.cell 2
    have k3 := o3.cell 3
    have k4 := o3.cell 4
    have f0 := o3.free 0
    have f1 := o3.free 1
    have f2 := o3.free 2
    have f3 := o3.free 3
    have f4 := o3.free 4
    have o4 := (((((o3.put 0 (.int .i64 0)).put 1 (.int .i64 0)).put 2 (.int .u32 0)).put 3 (.int .u32 0)).put 4 (.int .u32 0))
    have b5 := ((((((Just.refl g w3).put 0 (.int .i64 0)).put 1 (.int .i64 0)).put 2 (.int .u32 0)).put 3 (.int .u32 0)).put 4 (.int .u32 0)).below b4 (Nat.le_refl _) b4s
    have HO4 := Lib.hid o4
    have HB5 := Lib.hid b5
    clear hq hg2 o2 o3 n3 b3 b4 o4 b5
    go_wp2_with fail
    refine bodyPost_ret (results_row_tmp rfl _ _ g 25 _ (0, 0) _ rfl HO4.out Try.underlying25 rfl (by kernel_rfl)) rfl ⟨?_, by rw [HG.out]; exact HB5.out⟩
    rw [HQ.out, HEE.out]
    rfl
end Go.Proofs.Ytphiohdhgkpgnaa.Jo
