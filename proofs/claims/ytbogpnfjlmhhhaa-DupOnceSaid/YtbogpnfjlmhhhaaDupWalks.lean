/-
  Contracts of package dup (chapter 12).
-/
import Derived.Test.YtbogpnfjlmhhhaaBlk
import Derived.Test.YtbogpnfjlmhhhaaBits
import Derived.Lib.Hide
set_option maxRecDepth 100000
namespace Go.Proofs.Ytbogpnfjlmhhhaa.Dp
set_option linter.unusedVariables false
open Go.RowKit Lb

/-- A window's cells: of node i the greatest number L i, and the row of bits S i. -/
def dv (L : Nat → Int) (S : Nat → Nat) (j : Nat) : Value := if j % 2 = 0 then .int .i64 (L (j / 2)) else .int .u64 (S (j / 2))
def Win (w : World) (b : Nat) (L : Nat → Int) (S : Nat → Nat) : Prop := Blk w b 52 32 (dv L S)
def upd {α : Type} (f : Nat → α) (i : Nat) (x : α) (j : Nat) : α := if j = i then x else f j
theorem dv_put (L : Nat → Int) (S : Nat → Nat) (i : Nat) (x : Int) (y : Nat) (j : Nat) : (if j = i * 2 + 1 then .int .u64 y else if j = i * 2 then .int .i64 x else dv L S j) = dv (upd L i x) (upd S i y) j := by
  unfold dv upd
  split
  · rename_i h; rw [if_neg (by omega), if_pos (by omega)]
  · split
    · rename_i h; rw [if_pos (by omega), if_pos (by omega)]
    · split
      · rw [if_neg (by omega)]
      · rw [if_neg (by omega)]

theorem dv_one (L : Nat → Int) (S : Nat → Nat) (i : Nat) (y : Nat) (j : Nat) : (if j = i * 2 + 1 then .int .u64 y else dv L S j) = dv L (upd S i y) j := by
  unfold dv upd
  split
  · rename_i h; rw [if_neg (by omega), if_pos (by omega)]
  · split
    · rfl
    · rw [if_neg (by omega)]

theorem new_any (w : World) :
    Calls Try.prog 8 #[] w fun r w' => r = .returned (.pointer (some ⟨w.heap.size, 0, none⟩)) ∧ Win w' w.heap.size (fun _ => 0) (fun _ => 0) ∧ Below w.heap.size w w' ∧ w.heap.size < w'.heap.size := by
  go_enter Try.func8, Try.ntmps8
  go_wp2
  go_ret
  refine ⟨rfl, Blk.of (Own.new _ _ _) (by simp) ?_, (Below.refl _ _).alloc (Nat.le_refl _) _, by simp⟩
  intro i hi
  unfold dv
  rcases (show i = 0 ∨ i = 1 ∨ i = 2 ∨ i = 3 ∨ i = 4 ∨ i = 5 ∨ i = 6 ∨ i = 7 ∨ i = 8 ∨ i = 9 ∨ i = 10 ∨ i = 11 ∨ i = 12 ∨ i = 13 ∨ i = 14 ∨ i = 15 ∨ i = 16 ∨ i = 17 ∨ i = 18 ∨ i = 19 ∨ i = 20 ∨ i = 21 ∨ i = 22 ∨ i = 23 ∨ i = 24 ∨ i = 25 ∨ i = 26 ∨ i = 27 ∨ i = 28 ∨ i = 29 ∨ i = 30 ∨ i = 31 by omega) with rfl | rfl | rfl | rfl | rfl | rfl | rfl | rfl | rfl | rfl | rfl | rfl | rfl | rfl | rfl | rfl | rfl | rfl | rfl | rfl | rfl | rfl | rfl | rfl | rfl | rfl | rfl | rfl | rfl | rfl | rfl | rfl <;> rfl

theorem isNode_yes (i : Nat) (w : World) (hi : i < 16) :
    Calls Try.prog 16 #[.int .i64 i] w fun r w' => r = .returned (.bool true) ∧ w = w' := by
  have hd : (i : Int) < 16 := by omega
  go_enter Try.func16, Try.ntmps16
  go_wp2_with fail
  go_ret
  exact ⟨rfl, rfl⟩
theorem isNode_no (n : Int) (w : World) (hn : ¬ (0 ≤ n ∧ n < 16)) :
    Calls Try.prog 16 #[.int .i64 n] w fun r w' => r = .returned (.bool false) ∧ w = w' := by
  by_cases h0 : 0 ≤ n
  · have hd : decide (n < 16) = false := by simp; omega
    clear hn
    go_enter Try.func16, Try.ntmps16
    go_wp2_with fail
    go_ret
    exact ⟨rfl, rfl⟩
  · clear hn
    have h0 : n < 0 := by omega
    go_enter Try.func16, Try.ntmps16
    go_wp2_with fail
    go_ret
    exact ⟨rfl, rfl⟩

theorem Win.c0 {w : World} {b i : Nat} {L : Nat → Int} {S : Nat → Nat} (h : Win w b L S) (hi : i < 16) : w.cell? ⟨b, i * 2, none⟩ = some (.int .i64 (L i)) := by
  rw [Blk.cell h (by omega)]; unfold dv; rw [if_pos (by omega)]; congr 3; omega
theorem Win.c1 {w : World} {b i : Nat} {L : Nat → Int} {S : Nat → Nat} (h : Win w b L S) (hi : i < 16) : w.cell? ⟨b, i * 2 + 1, none⟩ = some (.int .u64 (S i)) := by
  rw [Blk.cell h (by omega)]; unfold dv; rw [if_neg (by omega), show (i * 2 + 1) / 2 = i by omega]

theorem new_out (b : Nat) (L : Nat → Int) (S : Nat → Nat) (i n : Int) (w : World) (h : Win w b L S) (hi : ¬ (0 ≤ i ∧ i < 16 ∧ 0 ≤ n)) :
    Calls Try.prog 11 #[.pointer (some ⟨b, 0, none⟩), .int .i64 i, .int .i64 n] w fun r w' => r = .returned (.bool false) ∧ w = w' := by
  by_cases h0 : 0 ≤ i ∧ i < 16
  · have hn : n < 0 := by omega
    obtain ⟨k, rfl⟩ := Int.eq_ofNat_of_zero_le h0.1
    have hk : k < 16 := by omega
    clear hi h0
    go_enter Try.func11, Try.ntmps11
    go_wp2_with fail
    refine (isNode_yes _ _ hk).mono ?_
    rintro r w' ⟨rfl, rfl⟩
    go_wp2_with fail
    go_ret
    exact ⟨rfl, rfl⟩
  · clear hi
    go_enter Try.func11, Try.ntmps11
    go_wp2_with fail
    refine (isNode_no _ _ h0).mono ?_
    rintro r w' ⟨rfl, rfl⟩
    go_wp2_with fail
    go_ret
    exact ⟨rfl, rfl⟩

theorem new_fresh (b i : Nat) (L : Nat → Int) (S : Nat → Nat) (n : Int) (w : World) (h : Win w b L S) (hi : i < 16) (hn : 0 ≤ n) (hs : S i = 0) :
    Calls Try.prog 11 #[.pointer (some ⟨b, 0, none⟩), .int .i64 i, .int .i64 n] w fun r w' => r = .returned (.bool true) ∧ Win w' b (upd L i n) (upd S i 1) ∧ Just b w w' := by
  have c0 := Win.c0 h hi
  have c1 := Win.c1 h hi
  rw [hs] at c1
  have f0 : w.frozen? ⟨b, i * 2, none⟩ = false := Blk.free h _
  have f1 : w.frozen? ⟨b, i * 2 + 1, none⟩ = false := Blk.free h _
  clear hs
  go_enter Try.func11, Try.ntmps11
  go_wp2_with fail
  refine (isNode_yes _ _ hi).mono ?_
  rintro r w' ⟨rfl, rfl⟩
  go_wp2_with fail
  go_ret
  exact ⟨rfl, Blk.ext (Blk.put (Blk.put h _ _) _ _) (fun j _ => dv_put L S i n 1 j), (Just.set b w _ _).put _ _⟩

set_option maxHeartbeats 800000 in
theorem new_up (b i : Nat) (L : Nat → Int) (S : Nat → Nat) (n : Int) (w : World) (h : Win w b L S) (hi : i < 16) (hn : L i < n) (hl : 0 ≤ L i) (hm : n < 2 ^ 63) (hs : S i ≠ 0) (hs2 : S i < 18446744073709551616) :
    Calls Try.prog 11 #[.pointer (some ⟨b, 0, none⟩), .int .i64 i, .int .i64 n] w fun r w' => r = .returned (.bool true) ∧ Win w' b (upd L i n) (upd S i (S i <<< (n - L i).toNat % 2 ^ 64 ||| 1)) ∧ Just b w w' := by
  have c0 := Win.c0 h hi
  have c1 := Win.c1 h hi
  have f0 : w.frozen? ⟨b, i * 2, none⟩ = false := Blk.free h _
  have f1 : w.frozen? ⟨b, i * 2 + 1, none⟩ = false := Blk.free h _
  have hne : ((S i : Int) == 0) = false := by simp; exact hs
  have e1 : IntKind.i64.wrap (n - L i) = n - L i := IntWalk.i64_in _ (by omega)
  have e2 : IntKind.u64.wrap (n - L i) = n - L i := by rw [IntKind.wrap_u64]; omega
  have hd : 0 < n - L i := by omega
  have e3 : ∀ w, Sem.run Try.prog (Op.shift .shl .u64 (S i : Int) .u64 (n - L i)) w = .ok (.int .u64 ((S i <<< (n - L i).toNat % 2 ^ 64 : Nat) : Int)) w := run_shl _ _ _ rfl _ _ (by omega)
  have q1 : S i <<< (n - L i).toNat % 2 ^ 64 < 2 ^ 64 := Nat.mod_lt _ (by decide)
  have e4 : bits .or .u64 ((S i <<< (n - L i).toNat % 2 ^ 64 : Nat) : Int) 1 = ((S i <<< (n - L i).toNat % 2 ^ 64 ||| 1 : Nat) : Int) := u64_or_nat _ 1 q1 (by decide)
  generalize S i <<< (n - L i).toNat % 2 ^ 64 = u at *
  go_enter Try.func11, Try.ntmps11
  go_wp2_with fail
  refine (isNode_yes _ _ hi).mono ?_
  rintro r w' ⟨rfl, rfl⟩
  go_wp2_with fail
  go_region
  all_goals
    go_wp2_with fail
    go_ret
    exact ⟨rfl, Blk.ext (Blk.drewN (Blk.put (Blk.put h (i * 2) (.int .i64 n)) (i * 2 + 1) (.int .u64 ((u ||| 1 : Nat) : Int))) 1) (fun j _ => dv_put L S i n (u ||| 1) j), ((Just.set b w _ _).put _ _).drewN 1⟩

theorem new_old (b i : Nat) (L : Nat → Int) (S : Nat → Nat) (n : Int) (w : World) (h : Win w b L S) (hi : i < 16) (hn : 0 ≤ n) (hl : n + 64 ≤ L i) (hm : L i < 2 ^ 63) (hs : S i ≠ 0) :
    Calls Try.prog 11 #[.pointer (some ⟨b, 0, none⟩), .int .i64 i, .int .i64 n] w fun r w' => r = .returned (.bool false) ∧ ∃ m, w.drewN m = w' := by
  have c0 := Win.c0 h hi
  have c1 := Win.c1 h hi
  have hne : ((S i : Int) == 0) = false := by simp; exact hs
  have e1 : IntKind.i64.wrap (L i - n) = L i - n := IntWalk.i64_in _ (by omega)
  have hd : 64 ≤ L i - n := by omega
  have hd2 : ¬ L i < n := by omega
  go_enter Try.func11, Try.ntmps11
  go_wp2_with fail
  refine (isNode_yes _ _ hi).mono ?_
  rintro r w' ⟨rfl, rfl⟩
  go_wp2_with fail
  go_quiet (fail)
  go_wp2_with fail
  go_ret
  exact ⟨rfl, _, rfl⟩

theorem new_dup (b i : Nat) (L : Nat → Int) (S : Nat → Nat) (n : Int) (w : World) (h : Win w b L S) (hi : i < 16) (hn : 0 ≤ n) (hl : L i < n + 64) (hl2 : n ≤ L i) (hm : L i < 2 ^ 63) (hs : S i ≠ 0) (hs2 : S i < 18446744073709551616) (hb : (S i).testBit (L i - n).toNat = true) :
    Calls Try.prog 11 #[.pointer (some ⟨b, 0, none⟩), .int .i64 i, .int .i64 n] w fun r w' => r = .returned (.bool false) ∧ ∃ m, w.drewN m = w' := by
  have c0 := Win.c0 h hi
  have c1 := Win.c1 h hi
  have hne : ((S i : Int) == 0) = false := by simp; exact hs
  have e1 : IntKind.i64.wrap (L i - n) = L i - n := IntWalk.i64_in _ (by omega)
  have hd : decide (64 ≤ L i - n) = false := by simp; omega
  have hd2 : ¬ L i < n := by omega
  have q1 : S i >>> (L i - n).toNat < 18446744073709551616 := Nat.lt_of_le_of_lt (by rw [Nat.shiftRight_eq_div_pow]; exact Nat.div_le_self _ _) hs2
  have e4 : bits .and .u64 ((S i : Int) / 2 ^ (L i - n).toNat) 1 = 1 := by
    have := u64_and_nat _ 1 q1 (by decide)
    rw [shr_and_one, hb, Nat.shiftRight_eq_div_pow] at this
    simpa using this
  clear hb q1
  go_enter Try.func11, Try.ntmps11
  go_wp2_with fail
  refine (isNode_yes _ _ hi).mono ?_
  rintro r w' ⟨rfl, rfl⟩
  go_wp2_with fail
  go_quiet (fail)
  go_wp2_with fail
  go_ret
  exact ⟨rfl, _, rfl⟩

set_option maxHeartbeats 4000000 in
theorem new_late (b i : Nat) (L : Nat → Int) (S : Nat → Nat) (n : Int) (w : World) (h : Win w b L S) (hi : i < 16) (hn : 0 ≤ n) (hl : L i < n + 64) (hl2 : n ≤ L i) (hm : L i < 2 ^ 63) (hs : S i ≠ 0) (hs2 : S i < 18446744073709551616) (hb : (S i).testBit (L i - n).toNat = false) :
    Calls Try.prog 11 #[.pointer (some ⟨b, 0, none⟩), .int .i64 i, .int .i64 n] w fun r w' => r = .returned (.bool true) ∧ Win w' b L (upd S i (S i ||| 1 <<< (L i - n).toNat)) ∧ Just b w w' := by
  have c0 := Win.c0 h hi
  have c1 := Win.c1 h hi
  have f1 : w.frozen? ⟨b, i * 2 + 1, none⟩ = false := Blk.free h _
  have hne : ((S i : Int) == 0) = false := by simp; exact hs
  have e1 : IntKind.i64.wrap (L i - n) = L i - n := IntWalk.i64_in _ (by omega)
  have hd : decide (64 ≤ L i - n) = false := by simp; omega
  have hd2 : ¬ L i < n := by omega
  have q1 : S i >>> (L i - n).toNat < 18446744073709551616 := Nat.lt_of_le_of_lt (by rw [Nat.shiftRight_eq_div_pow]; exact Nat.div_le_self _ _) hs2
  have e4 : bits .and .u64 ((S i : Int) / 2 ^ (L i - n).toNat) 1 = 0 := by
    have := u64_and_nat _ 1 q1 (by decide)
    rw [shr_and_one, hb, Nat.shiftRight_eq_div_pow] at this
    simpa using this
  have q3 : (1 : Nat) <<< (L i - n).toNat < 18446744073709551616 := by
    rw [Nat.one_shiftLeft]
    exact Nat.lt_of_lt_of_le (Nat.pow_lt_pow_right (by decide) (show (L i - n).toNat < 64 by omega)) (by decide)
  have e6 : bits .or .u64 (S i : Int) (IntKind.u64.wrap (2 ^ (L i - n).toNat)) = ((S i ||| 1 <<< (L i - n).toNat : Nat) : Int) := by
    rw [← u64_or_nat _ _ hs2 q3]
    congr 1
    have := wrap_nat .u64 rfl (2 ^ (L i - n).toNat)
    rw [Nat.one_shiftLeft] at q3 ⊢
    rw [show 2 ^ IntKind.u64.bits = 18446744073709551616 from rfl, Nat.mod_eq_of_lt q3] at this
    rw [← this]
    simp
  clear hb q1
  go_enter Try.func11, Try.ntmps11
  go_wp2_with fail
  refine (isNode_yes _ _ hi).mono ?_
  rintro r w' ⟨rfl, rfl⟩
  go_wp2_with fail
  go_quiet (fail)
  go_wp2_with fail
  go_region
  all_goals
    go_wp2_with fail
    go_ret
    exact ⟨rfl, Blk.ext (Blk.put (Blk.drewN h _) (i * 2 + 1) (.int .u64 ((S i ||| 1 <<< (L i - n).toNat : Nat) : Int))) (fun j _ => dv_one L S i (S i ||| 1 <<< (L i - n).toNat) j), ((Just.refl b w).drewN _).put _ _⟩

theorem forget_out (b : Nat) (L : Nat → Int) (S : Nat → Nat) (i : Int) (w : World) (h : Win w b L S) (hi : ¬ (0 ≤ i ∧ i < 16)) :
    Calls Try.prog 9 #[.pointer (some ⟨b, 0, none⟩), .int .i64 i] w fun r w' => r = .returned (.tuple #[]) ∧ w = w' := by
  go_enter Try.func9, Try.ntmps9
  go_wp2_with fail
  refine (isNode_no _ _ hi).mono ?_
  rintro r w' ⟨rfl, rfl⟩
  go_wp2_with fail
  go_end0
  exact ⟨rfl, rfl⟩
theorem forget_in (b i : Nat) (L : Nat → Int) (S : Nat → Nat) (w : World) (h : Win w b L S) (hi : i < 16) :
    Calls Try.prog 9 #[.pointer (some ⟨b, 0, none⟩), .int .i64 i] w fun r w' => r = .returned (.tuple #[]) ∧ Win w' b (upd L i 0) (upd S i 0) ∧ Just b w w' := by
  have c0 := Win.c0 h hi
  have c1 := Win.c1 h hi
  have f0 : w.frozen? ⟨b, i * 2, none⟩ = false := Blk.free h _
  have f1 : w.frozen? ⟨b, i * 2 + 1, none⟩ = false := Blk.free h _
  go_enter Try.func9, Try.ntmps9
  go_wp2_with fail
  refine (isNode_yes _ _ hi).mono ?_
  rintro r w' ⟨rfl, rfl⟩
  go_wp2_with fail
  go_end0
  exact ⟨rfl, Blk.ext (Blk.put (Blk.put h _ _) _ _) (fun j _ => dv_put L S i 0 0 j), (Just.set b w _ _).put _ _⟩
theorem last_out (b : Nat) (L : Nat → Int) (S : Nat → Nat) (i : Int) (w : World) (h : Win w b L S) (hi : ¬ (0 ≤ i ∧ i < 16)) :
    Calls Try.prog 13 #[.pointer (some ⟨b, 0, none⟩), .int .i64 i] w fun r w' => r = .returned (.tuple #[.int .i64 0, .bool false]) ∧ w = w' := by
  go_enter Try.func13, Try.ntmps13
  go_wp2_with fail
  refine (isNode_no _ _ hi).mono ?_
  rintro r w' ⟨rfl, rfl⟩
  go_wp2_with fail
  refine bodyPost_ret (results_tmp2 rfl _ _ _) rfl ?_
  exact ⟨rfl, rfl⟩
theorem last_none (b i : Nat) (L : Nat → Int) (S : Nat → Nat) (w : World) (h : Win w b L S) (hi : i < 16) (hs : S i = 0) :
    Calls Try.prog 13 #[.pointer (some ⟨b, 0, none⟩), .int .i64 i] w fun r w' => r = .returned (.tuple #[.int .i64 0, .bool false]) ∧ w = w' := by
  have c0 := Win.c0 h hi
  have c1 := Win.c1 h hi
  rw [hs] at c1
  clear hs
  go_enter Try.func13, Try.ntmps13
  go_wp2_with fail
  refine (isNode_yes _ _ hi).mono ?_
  rintro r w' ⟨rfl, rfl⟩
  go_wp2_with fail
  refine bodyPost_ret (results_tmp2 rfl _ _ _) rfl ?_
  exact ⟨rfl, rfl⟩
theorem last_some (b i : Nat) (L : Nat → Int) (S : Nat → Nat) (w : World) (h : Win w b L S) (hi : i < 16) (hs : S i ≠ 0) :
    Calls Try.prog 13 #[.pointer (some ⟨b, 0, none⟩), .int .i64 i] w fun r w' => r = .returned (.tuple #[.int .i64 (L i), .bool true]) ∧ w = w' := by
  have c0 := Win.c0 h hi
  have c1 := Win.c1 h hi
  have hne : ((S i : Int) == 0) = false := by simp; exact hs
  clear hs
  go_enter Try.func13, Try.ntmps13
  go_wp2_with fail
  refine (isNode_yes _ _ hi).mono ?_
  rintro r w' ⟨rfl, rfl⟩
  go_wp2_with fail
  refine bodyPost_ret (results_tmp2 rfl _ _ _) rfl ?_
  exact ⟨rfl, rfl⟩
end Go.Proofs.Ytbogpnfjlmhhhaa.Dp
