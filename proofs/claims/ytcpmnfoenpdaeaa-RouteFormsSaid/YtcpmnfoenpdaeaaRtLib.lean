/-
  Package route: slices.Clone at int, bytes.Clone, slices.Reverse at int, off the shelf; Back.
-/
import Derived.Test.YtcpmnfoenpdaeaaRtPath
import Derived.Ground.NamesProg
import Derived.Ground.Names2Prog
import Derived.Ground.SlbCloneProg
import Derived.Shelf.Slices.Clone
import Derived.Shelf.Slices.Reverse
import Derived.Shelf.Bytes.SlClone
import Derived.Lib.OwnBridge
set_option maxRecDepth 100000
namespace Go.Proofs
set_option linter.unusedVariables false
open Go.Shelf
def Try.laysClone_ren : Go.Shelf.Ren := ⟨fun | 15 => 41 | n => n, fun | 22 => 22 | 3 => 3 | 4 => 4 | n => n, fun | n => n⟩
theorem Try.laysClone : Go.Proofs.Lays2.n15 Try.prog Try.laysClone_ren := {
  mixed := by kernel_rfl
  f15 := Try.func41.trans (congrArg some (by kernel_rfl))
  t3 := Try.underlying3
  a3 := Try.isAgg3
  z3 := Try.sizeOf3
  v3 := Try.zeroValue3
  t4 := Try.underlying4
  a4 := Try.isAgg4
  z4 := Try.sizeOf4
  v4 := Try.zeroValue4
  t22 := Try.underlying22
  a22 := Try.isAgg22
  z22 := Try.sizeOf22
  v22 := Try.zeroValue22
  i3 := by kernel_rfl }
def Try.laysReverse_ren : Go.Shelf.Ren := ⟨fun | 112 => 42 | n => n, fun | 28 => 22 | 3 => 3 | 4 => 4 | 0 => 0 | n => n, fun | n => n⟩
theorem Try.laysReverse : Go.Proofs.Lays.n112 Try.prog Try.laysReverse_ren := {
  mixed := by kernel_rfl
  f112 := Try.func42.trans (congrArg some (by kernel_rfl))
  t0 := Try.underlying0
  a0 := Try.isAgg0
  z0 := Try.sizeOf0
  v0 := Try.zeroValue0
  t3 := Try.underlying3
  a3 := Try.isAgg3
  z3 := Try.sizeOf3
  v3 := Try.zeroValue3
  t4 := Try.underlying4
  a4 := Try.isAgg4
  z4 := Try.sizeOf4
  v4 := Try.zeroValue4
  t28 := Try.underlying22
  a28 := Try.isAgg22
  z28 := Try.sizeOf22
  v28 := Try.zeroValue22 }
def Try.laysCloneB_ren : Go.Shelf.Ren := ⟨fun | 4 => 53 | n => n, fun | 22 => 23 | 4 => 4 | 5 => 5 | n => n, fun | n => n⟩
theorem Try.laysCloneB : Go.Proofs.SlLaysK.n4 Try.prog Try.laysCloneB_ren := {
  mixed := by kernel_rfl
  f4 := Try.func53.trans (congrArg some (by kernel_rfl))
  t4 := Try.underlying4
  a4 := Try.isAgg4
  z4 := Try.sizeOf4
  v4 := Try.zeroValue4
  t22 := Try.underlying23
  a22 := Try.isAgg23
  z22 := Try.sizeOf23
  v22 := Try.zeroValue23
  t5 := Try.underlying5
  i5 := by kernel_rfl }
end Go.Proofs
namespace Go.Proofs.Ytcpmnfoenpdaeaa.Rt
set_option linter.unusedVariables false
open Go.RowKit Lb Go.Shelf Go.Sort

theorem zlist (zs : List Int) : (List.range zs.length).map (zval zs) = zs.map (Value.int .i64) := by
  apply List.ext_getElem
  · simp
  · intro i h1 h2
    simp at h1
    simp [zval, List.getD, h1]
theorem blist (zs : List Int) : (List.range zs.length).map (bval zs) = zs.map (Value.int .u8) := by
  apply List.ext_getElem
  · simp
  · intro i h1 h2
    simp at h1
    simp [bval, List.getD, h1]
theorem mine_z {w : World} {base : Nat} {v : Value} {zs : List Int} (h : w.ownsRow base 3 1 v zs.length (zs.map (Value.int .i64))) : Mine w base 3 v zs.length (zval zs) := by
  unfold Mine
  rw [zlist]
  exact h
theorem z_mine {w : World} {base : Nat} {v : Value} {zs : List Int} (h : Mine w base 3 v zs.length (zval zs)) : w.ownsRow base 3 1 v zs.length (zs.map (Value.int .i64)) := by
  unfold Mine at h
  rwa [zlist] at h
theorem mine_b {w : World} {base : Nat} {v : Value} {zs : List Int} (h : w.ownsRow base 5 1 v zs.length (zs.map (Value.int .u8))) : Mine w base 5 v zs.length (bval zs) := by
  unfold Mine
  rw [blist]
  exact h
/-- A copy: the same numbers, in a new block or none; nil of nil. -/
theorem cloneI_any (a : Option Addr) (c : Nat) (l : List Int) (w : World) (hc : l.length ≤ 1000000) (hR : Row w a l.length (zval l)) (ha : a = none → l.length = 0) :
    Calls Try.prog 41 #[.slice a l.length c] w fun r w' => ∃ v, r = .returned v ∧ Mine w' w.heap.size 3 v l.length (zval l) ∧ Below w.heap.size w w' := by
  cases a with
  | none =>
    refine (Any.slices_Clone_int_nil Try.laysClone l.length c w).mono ?_
    rintro r w' ⟨rfl, rfl⟩
    have h0 := ha rfl
    refine ⟨.slice none 0 0, rfl, ?_, Below.refl _ _⟩
    rw [h0]
    exact Mine.nil _ _ _ _
  | some p =>
    by_cases h0 : l.length = 0
    · rw [h0]
      refine (Any.slices_Clone_int_zero Try.laysClone p c w).mono ?_
      rintro r w' ⟨v, rfl, hown, hne, hb⟩
      exact ⟨v, rfl, hown, hb⟩
    · obtain ⟨b, off, hp, hbl, hcs⟩ := hR (by omega)
      injection hp with hp
      subst hp
      refine (Any.slices_Clone_int Try.laysClone b off l.length c l w (Nat.le_refl _) (by omega) (fun j hj => hcs j hj)).mono ?_
      rintro r w' ⟨v, rfl, hown, hne, hb⟩
      rw [List.take_length] at hown
      exact ⟨v, rfl, mine_z hown, hb⟩
theorem cloneB_any (a : Option Addr) (c : Nat) (l : List Int) (w : World) (hc : l.length ≤ 1000000) (hR : Row w a l.length (bval l)) (ha : a = none → l.length = 0) :
    Calls Try.prog 53 #[.slice a l.length c] w fun r w' => ∃ v, r = .returned v ∧ Mine w' w.heap.size 5 v l.length (bval l) ∧ Below w.heap.size w w' := by
  cases a with
  | none =>
    refine (Any.bytes_Clone_nil Try.laysCloneB l.length c w).mono ?_
    rintro r w' ⟨rfl, rfl⟩
    have h0 := ha rfl
    refine ⟨.slice none 0 0, rfl, ?_, Below.refl _ _⟩
    rw [h0]
    exact Mine.nil _ _ _ _
  | some p =>
    refine (Any.bytes_Clone_at Try.laysCloneB p l.length c l w rfl (by omega) (fun i hi => by
      obtain ⟨b, off, hp, _, h3⟩ := hR.at_ hi
      injection hp with hp
      subst hp
      rw [Addr.add_lit, h3]
      rfl)).mono ?_
    rintro r w' ⟨v, rfl, hown, hne, hb⟩
    exact ⟨v, rfl, mine_b hown, hb⟩
theorem rev_any (base : Nat) (v : Value) (l : List Int) (w : World) (h : Mine w base 3 v l.length (zval l)) :
    Calls Try.prog 42 #[v] w fun r w' => r = .returned (.tuple #[]) ∧ Mine w' base 3 v l.length (zval l.reverse) ∧ ∀ w0, Below base w0 w → Below base w0 w' := by
  have hr : (l.reverse).length = l.length := by simp
  by_cases hv : v = .slice none 0 0
  · subst hv
    have h0 : l.length = 0 := by
      obtain ⟨_, h2⟩ := h
      rcases h2 with ⟨_, h3⟩ | ⟨g, cap, cur, hv, _⟩
      · exact h3
      · injection hv with h4 _ _
        cases h4
    refine (Any.slices_Reverse_int_empty Try.laysReverse none 0 w).mono ?_
    rintro r w' ⟨rfl, rfl⟩
    refine ⟨rfl, ?_, fun w0 hb => hb⟩
    rw [h0]
    exact Mine.nil _ _ _ _
  · have hz := z_mine h
    obtain ⟨g, cap, rfl, hbg, _, _, hcm, hlen, hH⟩ := Lib.holds_of_ownsRow hz hv
    have hrev := Any.slices_Reverse_int Try.laysReverse g 0 cap l w hH (by unfold maxLen at hcm; omega)
    refine hrev.mono ?_
    rintro r w' ⟨rfl, q, rfl⟩
    have h1 := Lib.ownsRow_putRow (q := q) (ys := l.reverse) hz hr (Nat.le_refl _)
    rw [List.take_of_length_le (by omega), ← hr] at h1
    have h2 := mine_z h1
    rw [hr] at h2
    exact ⟨rfl, h2, fun w0 hb => Lib.below_putRow hb hbg⟩
def backL (l : List Int) : List Int := if okP l = true then l.reverse else []
theorem back_any (a : Option Addr) (c : Nat) (l : List Int) (w : World) (hlc : l.length ≤ c) (hc : c ≤ maxLen) (hR : Row w a l.length (zval l)) (ha : a = none → l.length = 0) :
    Calls Try.prog 22 #[.slice a l.length c] w fun r w' => ∃ v, r = .returned v ∧ Mine w' w.heap.size 3 v (backL l).length (zval (backL l)) ∧ Below w.heap.size w w' := by
  have hcl : l.length ≤ maxLen := Nat.le_trans hlc hc
  cases hm : okP l
  · have HM := Lib.hid hm
    have HD : Hid (backL l = []) := Lib.hid (by unfold backL; rw [hm]; rfl)
    clear hm
    go_enter Try.func22, Try.ntmps22
    go_wp2_with ((with_reducible refine (pathMay_any _ _ _ _ hcl hR).mono ?_); rintro r w' ⟨rfl, rfl⟩; rw [HM.out])
    go_ret
    refine ⟨.slice none 0 0, rfl, ?_, Below.refl _ _⟩
    rw [HD.out]
    exact Mine.nil _ _ _ _
  · have HM := Lib.hid hm
    have h16 := (okP_out hm).1
    have HD : Hid (backL l = l.reverse) := Lib.hid (by unfold backL; rw [hm]; rfl)
    clear hm
    go_enter Try.func22, Try.ntmps22
    go_wp2_with ((with_reducible refine (pathMay_any _ _ _ _ hcl hR).mono ?_); rintro r w' ⟨rfl, rfl⟩; rw [HM.out])
    refine (cloneI_any a c l _ (by omega) hR ha).mono ?_
    rintro r w1 ⟨v, rfl, hm1, b1⟩
    go_wp2_with fail
    refine (rev_any _ v l w1 hm1).mono ?_
    rintro r w2 ⟨rfl, hm2, b2⟩
    go_wp2_with fail
    go_ret
    refine ⟨v, rfl, ?_, b2 w b1⟩
    rw [HD.out]
    simpa using hm2
end Go.Proofs.Ytcpmnfoenpdaeaa.Rt
