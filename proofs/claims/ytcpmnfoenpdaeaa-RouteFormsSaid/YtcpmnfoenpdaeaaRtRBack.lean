/-
  The reference of packets (chapter 19): Back.
-/
import Derived.Test.YtcpmnfoenpdaeaaRtUp
import Derived.Test.YtcpmnfoenpdaeaaRtBackM
set_option maxRecDepth 100000
namespace Go.Proofs.Ytcpmnfoenpdaeaa.Rt
set_option linter.unusedVariables false
open Go.RowKit Lb Go.Shelf Bf
theorem z_snoc2 (l : List Int) (x : Int) (q : Nat) (hq : q < l.length + 1) : (if q < l.length then zval l q else .int .i64 x) = zval (l ++ [x]) q := z_snoc l x q hq
set_option maxHeartbeats 1000000 in
theorem rback_any (a : Option Addr) (c : Nat) (l : List Int) (w : World) (hlc : l.length ≤ c) (hc : c ≤ maxLen) (hR : Row w a l.length (zval l)) :
    Calls Try.prog 23 #[.slice a l.length c] w fun r w' => ∃ v, r = .returned v ∧ Mine w' w.heap.size 3 v (backL l).length (zval (backL l)) ∧ Below w.heap.size w w' := by
  have PM := rpath_any a c l w hlc hc hR
  have H0 := Lib.hid hR
  unfold maxLen at hc
  obtain ⟨n, hn⟩ : ∃ n, l.length = n := ⟨_, rfl⟩
  have HN := Lib.hid hn
  have HBL := Lib.hid (fun h : okP l = false => (show backL l = [] from if_neg (by rw [h]; decide)))
  have HBR := Lib.hid (fun h : okP l = true => (show backL l = l.reverse from if_pos h))
  have HOK := Lib.hid (fun h => @okP_out l h)
  rw [hn] at PM hlc H0 ⊢
  have n1 : (n : Int) ≤ 9223372036854775807 := by omega
  have n2 : (c : Int) ≤ 9223372036854775807 := by omega
  obtain ⟨i0, hi0, hz0, hz1, hz2⟩ := info_parts infoI
  clear hR
  cases hm : okP l with
  | false =>
    rw [hm] at PM
    have HB := Lib.hid (HBL.out hm)
    clear hm hn
    go_enter Try.func23, Try.ntmps23
    go_wp2_with fail
    refine PM.mono ?_
    rintro r w2 ⟨rfl, rfl⟩
    go_wp2_with fail
    go_ret
    exact ⟨_, rfl, by rw [HB.out]; exact Mine.nil _ _ _ _, Below.refl _ _⟩
  | true =>
    rw [hm] at PM
    have HB := Lib.hid (HBR.out hm)
    have h16 := (HOK.out hm).1
    rw [hn] at h16
    clear hm hn
    have v1 : IntKind.i64.wrap ((n : Int) - 1) = (n : Int) - 1 := IntWalk.i64_in _ (by omega)
    go_enter Try.func23, Try.ntmps23
    go_wp2_with fail
    refine PM.mono ?_
    rintro r w2 ⟨rfl, rfl⟩
    clear PM
    go_wp2_with fail
    go_loopw [3, 4] (fun u i wr => ∃ (k : Nat) (v : Value), u = v ∧ k ≤ n ∧ i = .int .i64 ((n : Int) - 1 - (k : Int)) ∧ Mine wr w.heap.size 3 v k (zval (l.reverse.take k)) ∧ Below w.heap.size w wr) (fun _ i _ => (intOf i + 1).toNat)
    case atStart => exact ⟨0, _, rfl, Nat.zero_le _, by simp, Mine.nil _ _ _ _, Below.refl _ _⟩
    case round =>
      obtain ⟨k, v, rfl, hk, rfl, hv, bb⟩ := hrel
      by_cases hlt : k < n
      · have hs := bb.size
        obtain ⟨pb, po, rfl, _, hcs⟩ := (H0.out.below bb) (by omega)
        have d0 : wr.cell? ⟨pb, po + (n - 1 - k), none⟩ = some (.int .i64 (l.getD (n - 1 - k) 0)) := hcs (n - 1 - k) (by omega)
        have e1 : ((n : Int) - 1 - (k : Int)) = ((n - 1 - k : Nat) : Int) := by omega
        have HS : Hid (l.reverse.take (k + 1) = l.reverse.take k ++ [l.getD (n - 1 - k) 0]) := Lib.hid (by
          rw [tk_snoc (by rw [List.length_reverse, HN.out]; exact hlt), rev_at2 (by rw [HN.out]; exact hlt), HN.out])
        have HLK : Hid ((l.reverse.take k).length = k) := Lib.hid (by rw [List.length_take, List.length_reverse, HN.out]; omega)
        obtain ⟨x, hx⟩ : ∃ x, l.getD (n - 1 - k) 0 = x := ⟨_, rfl⟩
        rw [hx] at d0 HS
        obtain ⟨j, hj⟩ : ∃ j : Nat, n - 1 - k = j := ⟨_, rfl⟩
        rw [hj] at d0 e1
        have hjn : j < n := by omega
        have hm1 : Hid (k + 1 ≤ maxLen) := Lib.hid (by unfold maxLen; omega)
        have rw0 := Lib.hid (row_new (n := 1) (V := fun _ => .int .i64 x) wr #[.int .i64 x] 3 (0, 0) (fun i hi => by obtain rfl : i = 0 := (by omega); rfl))
        have hv2 := hv.alloc (.cells #[.int .i64 x] 3)
        have hs2 : w.heap.size ≤ (wr.alloc (.cells #[.int .i64 x] 3)).heap.size := by simp; omega
        have hk0 : Hid (((n : Int) - 1 - (k : Int)) = (j : Int)) := Lib.hid e1
        have g0 : decide ((0 : Int) ≤ (n : Int) - 1 - (k : Int)) = true := by simp; omega
        have v2 : IntKind.i64.wrap ((n : Int) - 1 - (k : Int) - 1) = (n : Int) - 1 - (k : Int) - 1 := IntWalk.i64_in _ (by omega)
        clear hcs hx hj hv v1
        go_wp2_with (at_builtin; go_must (refine wp_app rfl (.tmp 15) (.tmp 20) _ rfl w.heap.size 3 i0 _ 8 Try.underlying22 hi0 hz0 hz1 hz2 rfl _ k (zval (l.reverse.take k)) rfl hv2 _ 1 _ (fun _ => .int .i64 x) rfl rw0.out (fun _ _ => rfl) hm1.out ?c3 hs2 ?_))
        case c3 => omega
        intro v' w4 m4 g4
        have b4 := (bb.alloc hs (.cells #[.int .i64 x] 3)).grown g4 hs2 (fun q hq => (hv2.lt q hq).1)
        have m5 : Mine w4 w.heap.size 3 v' (k + 1) (zval (l.reverse.take (k + 1))) := m4.ext (fun q hq => by
          rw [HS.out]
          have := z_snoc2 (l.reverse.take k) x q (by rw [HLK.out]; exact hq)
          rw [HLK.out] at this
          exact this)
        clear m4 g4 hv2 hs2 rw0 d0
        go_wp2_with fail
        exact ⟨⟨k + 1, _, rfl, by omega, by simp; omega, m5, b4⟩, by simp [intOf]; omega⟩
      · obtain rfl : k = n := by omega
        have g0 : decide ((0 : Int) ≤ (k : Int) - 1 - (k : Int)) = false := decide_eq_false (by omega)
        rw [List.take_of_length_le (by rw [List.length_reverse, HN.out]; exact Nat.le_refl _)] at hv
        have HV := Lib.hid hv
        obtain ⟨va, vc, rfl, _, hvm, _⟩ := hv.row
        unfold maxLen at hvm
        have n5 : (vc : Int) ≤ 9223372036854775807 := by omega
        clear hv
        go_wp2_with fail
        go_ret
        exact ⟨_, rfl, by rw [HB.out, List.length_reverse, HN.out]; exact HV.out, bb⟩
end Go.Proofs.Ytcpmnfoenpdaeaa.Rt
