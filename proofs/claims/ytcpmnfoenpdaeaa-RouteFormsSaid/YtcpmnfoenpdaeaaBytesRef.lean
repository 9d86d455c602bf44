/-
  The reference's Bytes: the lowest k bytes of a number, the highest first, in a row of its own.
-/
import Derived.Test.YtcpmnfoenpdaeaaOwn
import Derived.Lib.Hide
set_option maxRecDepth 100000
namespace Go.Proofs.Ytcpmnfoenpdaeaa.Lb
set_option linter.unusedVariables false
open Go.RowKit

def octet (x : Int) (k i : Nat) : Int := x / 2 ^ (8 * (k - 1 - i)) % 256
theorem octet_in (x : Int) (k i : Nat) : 0 ≤ octet x k i ∧ octet x k i < 256 := ⟨Int.emod_nonneg _ (by decide), Int.emod_lt_of_pos _ (by decide)⟩

set_option maxHeartbeats 1000000 in
theorem bytes_any (x : Int) (k : Nat) (w : World) (x0 : 0 ≤ x) (hk : k ≤ 8) :
    Calls Try.prog 32 #[.int .u64 x, .int .i64 (k : Int)] w fun r w' => ∃ v, r = .returned v ∧ Mine w' w.heap.size 5 v k (fun i => .int .u8 (octet x k i)) ∧ Below w.heap.size w w' := by
  obtain ⟨i0, hi0, hz0, hz1, hz2⟩ := info_parts info8
  have hM : 9 ≤ maxLen := by unfold maxLen; omega
  have HM := Lib.hid hM
  clear hM
  go_enter Try.func32, Try.ntmps32
  go_wp2_with fail
  go_loopw [5, 6] (fun u i wr => ∃ (j : Nat) (v : Value), u = v ∧ j ≤ k ∧ i = .int .i64 ((k : Int) - 1 - (j : Int)) ∧ Mine wr w.heap.size 5 v j (fun q => .int .u8 (octet x k q)) ∧ Below w.heap.size w wr) (fun _ i _ => (intOf i + 1).toNat)
  case atStart => exact ⟨0, _, rfl, Nat.zero_le _, by simp, Mine.nil _ _ _ _, Below.refl _ _⟩
  case round =>
    obtain ⟨j, v, rfl, hj, rfl, hv, bb⟩ := hrel
    by_cases hlt : j < k
    · have hs := bb.size
      have hm : j + 1 ≤ maxLen := Nat.le_trans (by omega) HM.out
      have Hm := Lib.hid hm
      have ho : (x / 2 ^ (8 * (k - 1 - j)) % 256) = octet x k j := rfl
      have Ho := Lib.hid ho
      clear hm ho
      have e1 : 8 * ((k : Int) - 1 - (j : Int)) = ((8 * (k - 1 - j) : Nat) : Int) := by omega
      go_wp2_with (at_builtin; go_must (refine wp_app rfl (.tmp 13) (.tmp 20) _ rfl w.heap.size 5 i0 _ 1 Try.underlying23 hi0 hz0 hz1 hz2 rfl u5 j (fun q => .int .u8 (octet x k q)) rfl (hv.alloc _) _ 1 _ (fun _ => .int .u8 (octet x k j)) rfl (row_new _ _ _ _ (fun i hi => by obtain rfl : i = 0 := (by omega); exact congrArg (fun z => some (Value.int .u8 z)) Ho.out)) (fun _ _ => rfl) Hm.out ?c2 ?c3 ?_))
      case c2 => omega
      case c3 => simp; omega
      intro v' w2 hv2 hg
      have b2 : Below w.heap.size w w2 := (bb.alloc hs _).grown hg (by simp; omega) (fun q hq => (hv.lt q hq).1)
      have hv3 := hv2.ext (U := fun q => .int .u8 (octet x k q)) (fun q hq => by
        by_cases h : q < j
        · simp only [h, if_true]
        · obtain rfl : q = j := by omega
          simp only [h, if_false])
      clear hv hv2
      go_wp2_with fail
      go_roundw
      case rel => exact ⟨j + 1, _, rfl, by omega, by congr 1; omega, hv3, b2⟩
      case measure => simp [intOf]; omega
    · obtain rfl : j = k := by omega
      go_wp2_with fail
      go_ret
      exact ⟨_, rfl, hv, bb⟩
end Go.Proofs.Ytcpmnfoenpdaeaa.Lb
