/-
  Package bits: Bits, Bytes; a writer, a reader that there is not; bits that every program must know.
-/
import Derived.Test.YtcpmnfoenpdaeaaBfWalks
import Derived.Shelf.Bytes.SlClone
import Derived.Ground.SlbCloneProg
set_option maxRecDepth 100000
namespace Go.Proofs.Ytcpmnfoenpdaeaa.Bf
set_option linter.unusedVariables false
open Go.RowKit Lb Go.Shelf

theorem Wr.below {w w' : World} {base b bits n : Nat} {Z : Nat → Nat} {B : Nat → Bool} {v : Value} (h : Wr w base b bits n Z B v) (j : Below w.heap.size w w') : Wr w' base b bits n Z B v :=
  ⟨⟨below_own j h.own h.own.lt, h.row.kept (fun q hq => by
    by_cases hl : q < w.heap.size
    · exact .inl (j.block q hl)
    · exact .inr fun e => hl (h.row.lt q e).2), h.str, h.low⟩, h.le, h.lt⟩
def cloneL_ren : Go.Shelf.Ren := ⟨fun | 4 => 53 | n => n, fun | 22 => 23 | 4 => 4 | 5 => 5 | n => n, fun | n => n⟩
theorem cloneL : Go.Proofs.SlLaysK.n4 Try.prog cloneL_ren := {
  mixed := by kernel_rfl
  f4 := Try.func53.trans (congrArg some (by kernel_rfl))
  t4 := Try.underlying4
  a4 := Try.isAgg4
  z4 := Try.sizeOf4
  v4 := Try.zeroValue4
  t22 := Try.underlying23
  a22 := Try.isAgg23
  z22 := Try.sizeOf23
  v22 := Try.zeroValue23
  t5 := Try.underlying5
  i5 := by kernel_rfl }
/-- A copy: the same bytes, in a new block or none. -/
theorem clone_mine (a : Option Addr) (n c : Nat) (Z : Nat → Int) (w : World) (hc : n ≤ 140737488355328) (hR : Row w a n (fun i => .int .u8 (Z i))) (ha : a = none → n = 0) :
    Calls Try.prog 53 #[.slice a n c] w fun r w' => ∃ v, r = .returned v ∧ Mine w' w.heap.size 5 v n (fun i => .int .u8 (Z i)) ∧ Below w.heap.size w w' := by
  have hmap : ((List.range n).map Z).map (Value.int .u8) = (List.range n).map (fun i => .int .u8 (Z i)) := by rw [List.map_map]; rfl
  cases a with
  | none =>
    have hcon := Any.bytes_Clone_nil cloneL n c w
    refine Calls.mono hcon ?_
    rintro r w' ⟨rfl, rfl⟩
    obtain rfl := ha rfl
    exact ⟨.slice none 0 0, rfl, Mine.nil _ _ _ _, Below.refl _ _⟩
  | some p =>
    have hcon := Any.bytes_Clone_at cloneL p n c ((List.range n).map Z) w (by simp) hc (fun i hi => by
      obtain ⟨b, off, hp, _, h3⟩ := hR.at_ hi
      injection hp with hp
      subst hp
      rw [Addr.add_lit, h3]
      simp [hi])
    refine Calls.mono hcon ?_
    rintro r w' ⟨v, rfl, hown, hne, hb⟩
    rw [hmap] at hown
    exact ⟨v, rfl, hown, hb⟩
theorem clone_any (a : Option Addr) (n c : Nat) (Z : Nat → Int) (w : World) (hc : n ≤ 140737488355328) (hR : Row w a n (fun i => .int .u8 (Z i))) (ha : a = none → n = 0) :
    Calls Try.prog 53 #[.slice a n c] w fun r w' => ∃ a' c', r = .returned (.slice a' n c') ∧ n ≤ c' ∧ c' ≤ maxLen ∧ Row w' a' n (fun i => .int .u8 (Z i)) ∧ Below w.heap.size w w' := by
  refine (clone_mine a n c Z w hc hR ha).mono ?_
  rintro r w' ⟨v, rfl, hm, hb⟩
  obtain ⟨a', c', rfl, h1, h2, h3⟩ := Mine.row hm
  exact ⟨a', c', rfl, h1, h2, h3, hb⟩
theorem bytes_any (base b bits n : Nat) (Z : Nat → Nat) (B : Nat → Bool) (v : Value) (w : World) (h : Wr w base b bits n Z B v) (hb : bits ≤ 1000000) :
    Calls Try.prog 30 #[.pointer (some ⟨b, 0, none⟩)] w fun r w' => ∃ a c, r = .returned (.slice a n c) ∧ n ≤ c ∧ c ≤ maxLen ∧ Row w' a n (fun i => .int .u8 (Z i : Nat)) ∧ Below w.heap.size w w' := by
  have hlt := h.lt
  have hrow := h.row
  obtain ⟨a, c, rfl, h1, h2, hR⟩ := h.row.row
  have hn : a = none → n = 0 := fun e => by
    obtain ⟨_, h9⟩ := hrow
    rcases h9 with ⟨_, h0⟩ | ⟨g, cap, cur, hv, _⟩
    · exact h0
    · subst e
      cases hv
  have k0 : w.cell? ⟨b, 0, none⟩ = some (.slice a n c) := h.own.cell 0
  clear hrow h
  go_enter Try.func30, Try.ntmps30
  go_wp2_with fail
  refine (clone_any a n c (fun i => (Z i : Int)) _ (by omega) hR hn).mono ?_
  rintro r w4 ⟨a', c', rfl, h3, h4, hR4, b4⟩
  go_wp2_with fail
  go_ret
  exact ⟨a', c', rfl, h3, h4, hR4, b4⟩
theorem bytes_nil (w : World) : Calls Try.prog 30 #[.pointer none] w fun r w' => r = .returned (.slice none 0 0) ∧ w = w' := by
  go_enter Try.func30, Try.ntmps30
  go_wp2_with fail
  go_ret
  exact ⟨rfl, rfl⟩
theorem put_nil (x y : Int) (w : World) : Calls Try.prog 28 #[.pointer none, .int .u64 x, .int .i64 y] w fun r w' => r = .returned (.tuple #[]) ∧ w = w' := by
  go_enter Try.func28, Try.ntmps28
  go_wp2_with fail
  refine bodyPost_ret (results_none rfl _ _ _) rfl ?_
  exact ⟨rfl, rfl⟩
theorem text_nil (v : Value) (w : World) : Calls Try.prog 29 #[.pointer none, v] w fun r w' => r = .returned (.tuple #[]) ∧ w = w' := by
  go_enter Try.func29, Try.ntmps29
  go_wp2_with fail
  refine bodyPost_ret (results_none rfl _ _ _) rfl ?_
  exact ⟨rfl, rfl⟩
theorem take_nil (x : Int) (w : World) : Calls Try.prog 45 #[.pointer none, .int .i64 x] w fun r w' => r = .returned (.int .u64 0) ∧ w = w' := by
  go_enter Try.func45, Try.ntmps45
  go_wp2_with fail
  go_ret
  exact ⟨rfl, rfl⟩
theorem rtext_nil (x : Int) (w : World) : Calls Try.prog 47 #[.pointer none, .int .i64 x] w fun r w' => r = .returned (.slice none 0 0) ∧ w = w' := by
  go_enter Try.func47, Try.ntmps47
  go_wp2_with fail
  go_ret
  exact ⟨rfl, rfl⟩
theorem left_nil (w : World) : Calls Try.prog 54 #[.pointer none] w fun r w' => r = .returned (.int .i64 0) ∧ w = w' := by
  go_enter Try.func54, Try.ntmps54
  go_wp2_with fail
  go_ret
  exact ⟨rfl, rfl⟩
theorem end_nil (w : World) : Calls Try.prog 46 #[.pointer none] w fun r w' => r = .returned (.int .i64 1) ∧ w = w' := by
  go_enter Try.func46, Try.ntmps46
  go_wp2_with fail
  go_ret
  exact ⟨rfl, rfl⟩
end Go.Proofs.Ytcpmnfoenpdaeaa.Bf
