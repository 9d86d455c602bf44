/-
  Package label (chapter 1): what its methods answer, by plain functions of a text's runes.
-/
import Derived.Test.YtafhekgfanpijaaLaEnc
import Derived.Lib.OthersKept
import Derived.Ground.MpProg
import Derived.Shelf.Pu.Clone
set_option maxRecDepth 100000
namespace Go.Proofs
set_option linter.unusedVariables false
open Go.Shelf
def Try.laysClone_ren : Go.Shelf.Ren := ⟨fun | 25 => 33 | n => n, fun | 9 => 9 | 3 => 3 | 4 => 4 | 37 => 36 | 0 => 0 | 47 => 48 | 5 => 5 | n => n, fun | n => n⟩
theorem Try.laysClone : Go.Proofs.LaysPu.n25 Try.prog Try.laysClone_ren := {
  mixed := by kernel_rfl
  f25 := Try.func33.trans (congrArg some (by kernel_rfl))
  t0 := Try.underlying0
  a0 := Try.isAgg0
  z0 := Try.sizeOf0
  v0 := Try.zeroValue0
  i0 := by kernel_rfl
  t3 := Try.underlying3
  a3 := Try.isAgg3
  z3 := Try.sizeOf3
  v3 := Try.zeroValue3
  i3 := by kernel_rfl
  t4 := Try.underlying4
  a4 := Try.isAgg4
  z4 := Try.sizeOf4
  v4 := Try.zeroValue4
  i4 := by kernel_rfl
  t5 := Try.underlying5
  a5 := Try.isAgg5
  z5 := Try.sizeOf5
  v5 := Try.zeroValue5
  i5 := by kernel_rfl
  t9 := Try.underlying9
  a9 := Try.isAgg9
  z9 := Try.sizeOf9
  v9 := Try.zeroValue9
  i9 := by kernel_rfl
  t37 := Try.underlying36
  a37 := Try.isAgg36
  z37 := Try.sizeOf36
  v37 := Try.zeroValue36
  i37 := by kernel_rfl
  t47 := Try.underlying48
  a47 := Try.isAgg48
  z47 := Try.sizeOf48
  v47 := Try.zeroValue48
  i47 := by kernel_rfl }
end Go.Proofs
namespace Go.Proofs.Ytafhekgfanpijaa.La
set_option linter.unusedVariables false
open Go.RowKit Lb Go.Shelf
set_option linter.unusedVariables false
theorem own : ownKnob Try.prog.godebug = none := by kernel_rfl
theorem laidOut : laidOutB Try.prog = true := by kernel_rfl

/-- The next rune, or the end. -/
theorem next_rune (l : List UInt8) (j : Nat) (wr : World) (k : Nat) (hit : wr.heap[k]? = some (.stringIter ⟨⟨l⟩⟩ (wid l j))) (hj : j ≤ (ru l).length) :
    (∃ c : Nat, j < (ru l).length ∧ (ru l)[j]? = some c ∧ c ≤ 1114111 ∧ wid l j < wid l (j + 1) ∧ wid l (j + 1) ≤ l.length ∧ (∀ ty, (Instr.next (.pointer (some ⟨k, 0, none⟩)) true ty).run Try.prog wr = .ok (.tuple #[.bool true, .int .i64 (wid l j), .int .i32 c]) (wr.iterAt k ⟨⟨l⟩⟩ (wid l (j + 1)))) ∧ (wr.iterAt k ⟨⟨l⟩⟩ (wid l (j + 1))).heap[k]? = some (.stringIter ⟨⟨l⟩⟩ (wid l (j + 1)))) ∨
    (j = (ru l).length ∧ wid l j = l.length ∧ ∀ ty, (Instr.next (.pointer (some ⟨k, 0, none⟩)) true ty).run Try.prog wr = .ok (.tuple #[.bool false]) wr) := by
  by_cases h : wid l j < l.length
  · obtain ⟨h1, h2⟩ := wid_next l j h
    have hp := (dec_pos (l.drop (wid l j))).1
    have hv := valid_dec (l.drop (wid l j))
    refine .inl ⟨(dec (l.drop (wid l j))).1, ?_, h2, ?_, by omega, wid_le _ _, fun ty => ?_, Lib.iterAt_heap wr k _ _ _ hit⟩
    · rw [ru_len]; exact wid_lt l j h
    · unfold validRune at hv
      rw [decide_eq_true_eq] at hv
      omega
    · have := Lib.run_next_any_at (P := Try.prog) wr k ⟨⟨l⟩⟩ (wid l j) ty hit h
      rw [decode_dec] at this
      rw [this, h1]
  · have h1 := wid_le j l
    refine .inr ⟨?_, by omega, fun ty => Lib.run_next_end_at wr k ⟨⟨l⟩⟩ (wid l j) ty hit (by show ¬ wid l j < l.length; exact h)⟩
    by_cases h2 : j < (ru l).length
    · exfalso
      rw [ru_len] at h2
      have h3 : (rs l).drop j = [] := by
        have := rs_drop j l
        rw [List.drop_eq_nil_of_le (by omega : l.length ≤ wid l j)] at this
        rw [← this]; rfl
      have := congrArg List.length h3
      rw [List.length_drop] at this
      simp at this
      omega
    · omega
theorem iter_start (w : World) (l : List UInt8) : (w.iter ⟨⟨l⟩⟩ 0).heap[w.heap.size]? = some (.stringIter ⟨⟨l⟩⟩ (wid l 0)) := World.iter_heap w _ 0
theorem iter_below (w : World) (l : List UInt8) : Below w.heap.size w (w.iter ⟨⟨l⟩⟩ 0) := (Below.refl _ w).alloc (Nat.le_refl _) _
theorem iter_pos {wr : World} {k : Nat} {s : ByteArray} {p : Nat} (h : wr.heap[k]? = some (.stringIter s p)) : wr.iterPos k = p := by
  simp [World.iterPos, h]

def smallB (x : Int) : Bool := decide ((97 ≤ x ∧ x ≤ 122) ∨ (945 ≤ x ∧ x ≤ 969 ∧ x ≠ 962))
def digitB (x : Int) : Bool := decide (48 ≤ x ∧ x ≤ 57)
def bigB (x : Int) : Bool := decide ((65 ≤ x ∧ x ≤ 90) ∨ (913 ≤ x ∧ x ≤ 937 ∧ x ≠ 930))
theorem small_yes {x : Int} (h : (97 ≤ x ∧ x ≤ 122) ∨ (945 ≤ x ∧ x ≤ 969 ∧ x ≠ 962)) : smallB x = true := by unfold smallB; rwa [decide_eq_true_eq]
theorem small_no {x : Int} (h : ¬ ((97 ≤ x ∧ x ≤ 122) ∨ (945 ≤ x ∧ x ≤ 969 ∧ x ≠ 962))) : smallB x = false := by unfold smallB; rwa [decide_eq_false_iff_not]
theorem big_yes {x : Int} (h : (65 ≤ x ∧ x ≤ 90) ∨ (913 ≤ x ∧ x ≤ 937 ∧ x ≠ 930)) : bigB x = true := by unfold bigB; rwa [decide_eq_true_eq]
theorem big_no {x : Int} (h : ¬ ((65 ≤ x ∧ x ≤ 90) ∨ (913 ≤ x ∧ x ≤ 937 ∧ x ≠ 930))) : bigB x = false := by unfold bigB; rwa [decide_eq_false_iff_not]
theorem isDigit_any (x : Int) (w : World) : Calls Try.prog 23 #[.int .i32 x] w fun r w' => r = .returned (.bool (digitB x)) ∧ w = w' := by
  have fin : ∀ b, digitB x = b → Calls Try.prog 23 #[.int .i32 x] w (fun r w' => r = .returned (.bool b) ∧ w = w') → Calls Try.prog 23 #[.int .i32 x] w fun r w' => r = .returned (.bool (digitB x)) ∧ w = w' := fun b h k => h ▸ k
  by_cases h0 : 48 ≤ x
  · by_cases h1 : x ≤ 57
    · refine fin true (by unfold digitB; rw [decide_eq_true_eq]; omega) ?_
      go_enter Try.func23, Try.ntmps23
      go_wp2_with fail
      go_ret
      exact ⟨rfl, rfl⟩
    · refine fin false (by unfold digitB; rw [decide_eq_false_iff_not]; omega) ?_
      have h2 : decide (x ≤ 57) = false := by simp; omega
      clear h1
      go_enter Try.func23, Try.ntmps23
      go_wp2_with fail
      go_ret
      exact ⟨rfl, rfl⟩
  · refine fin false (by unfold digitB; rw [decide_eq_false_iff_not]; omega) ?_
    have h2 : x < 48 := by omega
    clear h0
    go_enter Try.func23, Try.ntmps23
    go_wp2_with fail
    go_ret
    exact ⟨rfl, rfl⟩
theorem isSmall_any (x : Int) (w : World) : Calls Try.prog 22 #[.int .i32 x] w fun r w' => r = .returned (.bool (smallB x)) ∧ w = w' := by
  have fin : ∀ b, smallB x = b → Calls Try.prog 22 #[.int .i32 x] w (fun r w' => r = .returned (.bool b) ∧ w = w') → Calls Try.prog 22 #[.int .i32 x] w fun r w' => r = .returned (.bool (smallB x)) ∧ w = w' := fun b h k => h ▸ k
  by_cases h0 : x < 97
  · refine fin false (small_no (by omega)) ?_
    have h1 : x < 945 := by omega
    have h2 : decide (97 ≤ x) = false := by simp; omega
    have h3 : decide (945 ≤ x) = false := by simp; omega
    go_enter Try.func22, Try.ntmps22
    go_wp2_with fail
    go_ret
    exact ⟨rfl, rfl⟩
  by_cases h1 : x ≤ 122
  · refine fin true (small_yes (by omega)) ?_
    have h2 : 97 ≤ x := by omega
    clear h0
    go_enter Try.func22, Try.ntmps22
    go_wp2_with fail
    go_ret
    exact ⟨rfl, rfl⟩
  have h2 : 97 ≤ x := by omega
  have g3 : decide (x ≤ 122) = false := by simp; omega
  clear h0
  by_cases h4 : x < 945
  · refine fin false (small_no (by omega)) ?_
    have g4 : decide (945 ≤ x) = false := by simp; omega
    go_enter Try.func22, Try.ntmps22
    go_wp2_with fail
    go_ret
    exact ⟨rfl, rfl⟩
  have h5 : 945 ≤ x := by omega
  clear h4
  by_cases h6 : 969 < x
  · refine fin false (small_no (by omega)) ?_
    have g6 : decide (x ≤ 969) = false := by simp; omega
    go_enter Try.func22, Try.ntmps22
    go_wp2_with fail
    go_ret
    exact ⟨rfl, rfl⟩
  have h7 : x ≤ 969 := by omega
  clear h6
  by_cases h8 : x = 962
  · refine fin false (small_no (by omega)) ?_
    subst h8
    clear h1
    go_enter Try.func22, Try.ntmps22
    go_wp2_with fail
    go_ret
    exact ⟨rfl, rfl⟩
  · refine fin true (small_yes (by omega)) ?_
    have g8 : (x != 962) = true := by simp [h8]
    go_enter Try.func22, Try.ntmps22
    go_wp2_with fail
    go_ret
    exact ⟨rfl, rfl⟩
theorem isBig_any (x : Int) (w : World) : Calls Try.prog 24 #[.int .i32 x] w fun r w' => r = .returned (.bool (bigB x)) ∧ w = w' := by
  have fin : ∀ b, bigB x = b → Calls Try.prog 24 #[.int .i32 x] w (fun r w' => r = .returned (.bool b) ∧ w = w') → Calls Try.prog 24 #[.int .i32 x] w fun r w' => r = .returned (.bool (bigB x)) ∧ w = w' := fun b h k => h ▸ k
  by_cases h0 : x < 65
  · refine fin false (big_no (by omega)) ?_
    have h1 : x < 913 := by omega
    go_enter Try.func24, Try.ntmps24
    go_wp2_with fail
    go_ret
    exact ⟨rfl, rfl⟩
  by_cases h1 : x ≤ 90
  · refine fin true (big_yes (by omega)) ?_
    have h2 : 65 ≤ x := by omega
    clear h0
    go_enter Try.func24, Try.ntmps24
    go_wp2_with fail
    go_ret
    exact ⟨rfl, rfl⟩
  have h2 : 65 ≤ x := by omega
  have g3 : decide (x ≤ 90) = false := by simp; omega
  clear h0
  by_cases h4 : x < 913
  · refine fin false (big_no (by omega)) ?_
    have g4 : decide (913 ≤ x) = false := by simp; omega
    go_enter Try.func24, Try.ntmps24
    go_wp2_with fail
    go_ret
    exact ⟨rfl, rfl⟩
  have h5 : 913 ≤ x := by omega
  clear h4
  by_cases h6 : 937 < x
  · refine fin false (big_no (by omega)) ?_
    have g6 : decide (x ≤ 937) = false := by simp; omega
    go_enter Try.func24, Try.ntmps24
    go_wp2_with fail
    go_ret
    exact ⟨rfl, rfl⟩
  have h7 : x ≤ 937 := by omega
  clear h6
  by_cases h8 : x = 930
  · refine fin false (big_no (by omega)) ?_
    subst h8
    clear h1
    go_enter Try.func24, Try.ntmps24
    go_wp2_with fail
    go_ret
    exact ⟨rfl, rfl⟩
  · refine fin true (big_yes (by omega)) ?_
    have g8 : (x != 930) = true := by simp [h8]
    go_enter Try.func24, Try.ntmps24
    go_wp2_with fail
    go_ret
    exact ⟨rfl, rfl⟩

/-- Count: how many runes. -/
theorem count_any (l : List UInt8) (w : World) (hl : l.length ≤ 1048576) : Calls Try.prog 14 #[.string ⟨⟨l⟩⟩] w fun r w' => r = .returned (.int .i64 (ru l).length) ∧ Below w.heap.size w w' := by
  have hle : (ru l).length ≤ l.length := by rw [ru_len]; exact rs_le l
  obtain ⟨N, hN⟩ : ∃ N, (ru l).length = N := ⟨_, rfl⟩
  have HN := Lib.hid hN
  rw [hN] at hle ⊢
  clear hN
  go_enter Try.func14, Try.ntmps14
  go_wp2_with fail
  go_loopw [3] (fun n wr => ∃ j : Nat, n = .int .i64 j ∧ j ≤ N ∧ wr.heap[w.heap.size]? = some (.stringIter ⟨⟨l⟩⟩ (wid l j)) ∧ Below w.heap.size w wr) (fun _ wr => l.length - wr.iterPos w.heap.size)
  case atStart => exact ⟨0, rfl, Nat.zero_le _, iter_start w l, iter_below w l⟩
  case round =>
    obtain ⟨j, rfl, hj, hit, hb⟩ := hrel
    have hip := Lib.hid (iter_pos hit)
    rcases next_rune l j wr w.heap.size hit (by rw [HN.out]; exact hj) with ⟨c, hlt, hc, hcm, hw1, hw2, hnx, hit2⟩ | ⟨hend, hw, hnx⟩
    · rw [HN.out] at hlt
      have hb2 := Lib.below_iterAt hb (Nat.le_refl w.heap.size) ⟨⟨l⟩⟩ (wid l (j + 1))
      have HIP2 := Lib.hid (iter_pos hit2)
      have HW := Lib.hid (And.intro hw1 hw2)
      have HIT := Lib.hid hit2
      clear hc hw1 hw2 hit hit2
      go_wp2_with fail
      go_roundw
      case rel => exact ⟨j + 1, by simp, by omega, HIT.out, hb2⟩
      case measure =>
        rw [HIP2.out, hip.out]
        have := HW.out
        omega
    · rw [HN.out] at hend
      subst hend
      clear hit
      go_wp2_with fail
      go_ret
      exact ⟨rfl, hb⟩
end Go.Proofs.Ytafhekgfanpijaa.La
