/-
  The reference of packets (chapter 19): DecodePacket's memory.
-/
import Derived.Test.YtcpmnfoenpdaeaaRtRRd
set_option maxRecDepth 100000
namespace Go.Proofs.Ytcpmnfoenpdaeaa.Rq
set_option linter.unusedVariables false
open Go.RowKit Lb Go.Shelf Bf Rt

theorem rend_any (lo b : Nat) (l : List Int) (err : Int) (w : World) (h : Rdq w lo b l err) (he : err = 0 ∨ err = 2) :
    Calls Try.prog 51 #[.pointer (some ⟨b, 0, none⟩)] w fun r w' => r = .returned (.int .i64 (if err ≠ 0 then err else if 0 < l.length then 3 else 0)) ∧ w = w' := by
  obtain ⟨a, c, h1, h2, h3, h4, h5⟩ := h
  unfold maxLen at h3
  obtain ⟨len, hlen⟩ : ∃ len, l.length = len := ⟨_, rfl⟩
  rw [hlen] at h1 h2 ⊢
  have c0 : w.cell? ⟨b, 0, none⟩ = some (.slice a len c) := h1.cell 0
  have c1 : w.cell? ⟨b, 1, none⟩ = some (.int .i64 err) := h1.cell 1
  have hl63 : (len : Int) ≤ 9223372036854775807 := by omega
  clear h4 hlen h1
  rcases he with rfl | rfl
  · by_cases h0 : 0 < len
    · have e0 : decide ((0 : Int) < (len : Int)) = true := by simp; omega
      have e1 : decide (0 < len) = true := by simp; omega
      go_enter Try.func51, Try.ntmps51
      go_wp2_with fail
      go_ret
      exact ⟨rfl, rfl⟩
    · obtain rfl : len = 0 := by omega
      go_enter Try.func51, Try.ntmps51
      go_wp2_with fail
      go_ret
      exact ⟨rfl, rfl⟩
  · go_enter Try.func51, Try.ntmps51
    go_wp2_with fail
    go_ret
    exact ⟨rfl, rfl⟩

theorem se_two (l : List Int) (k : Nat) : Se l k = 0 ∨ Se l k = 2 := by
  unfold Se
  by_cases h : l.length < k
  · rw [if_pos h]; exact .inr rfl
  · rw [if_neg h]; exact .inl rfl
theorem se_no {l : List Int} {k : Nat} (h : l.length < k) : Se l k = 2 := if_pos h
theorem se_yes {l : List Int} {k : Nat} (h : k ≤ l.length) : Se l k = 0 := if_neg (by omega)
theorem sl_no {l : List Int} {k : Nat} (h : l.length < k) : Sl l k = [] := if_pos h
theorem sl_yes {l : List Int} {k : Nat} (h : k ≤ l.length) : Sl l k = l.drop k := if_neg (by omega)
theorem badQ_sl {l : List Int} {k n : Nat} (h : l.length < k ∨ l.length < k + n) : badQ (Sl l k) (Se l k) n := by
  by_cases h1 : l.length < k
  · exact .inl (by rw [se_no h1]; decide)
  · right
    rw [sl_len]
    omega
/-- The reader, k bytes on. -/
def Rdk (w : World) (b : Nat) (l : List Int) (k : Nat) : Prop := Rdq w 0 b (Sl l k) (Se l k)
theorem getD_out {l : List Int} {k : Nat} (h : l.length ≤ k) : l.getD k 0 = 0 := by
  rw [List.getD_eq_getElem?_getD, List.getElem?_eq_none h]
  rfl
theorem rdk_u8 (b : Nat) (l : List Int) (k : Nat) (w : World) (h : Rdk w b l k) (hB : okB l) :
    Calls Try.prog 48 #[.pointer (some ⟨b, 0, none⟩)] w fun r w' => r = .returned (.int .i64 (l.getD k 0)) ∧ Rdk w' b l (k + 1) ∧ Just b w w' := by
  unfold Rdk at *
  by_cases hs : l.length < k + 1
  · rw [getD_out (by omega), sl_no hs, se_no hs]
    exact ru8_bad 0 b _ _ w h (badQ_sl (.inr hs))
  · rw [se_yes (by omega), sl_yes (by omega)] at h
    rw [se_yes (by omega), sl_yes (by omega)]
    have e : l.drop k = l.getD k 0 :: l.drop (k + 1) := by
      rw [List.drop_eq_getElem_cons (show k < l.length by omega), List.getD_eq_getElem?_getD, List.getElem?_eq_getElem (show k < l.length by omega)]
      rfl
    rw [e] at h
    exact ru8_ok 0 b _ _ w h (by rw [← e]; exact okB_drop hB k)
theorem rdk_num (b : Nat) (l : List Int) (k n : Nat) (w : World) (h : Rdk w b l k) (hB : okB l) (hn : n ≤ 8) (h0 : 0 < n) :
    Calls Try.prog 49 #[.pointer (some ⟨b, 0, none⟩), .int .i64 (n : Int)] w fun r w' => r = .returned (.int .u64 (if l.length < k + n then 0 else numB ((l.drop k).take n))) ∧ Rdk w' b l (k + n) ∧ Just b w w' := by
  unfold Rdk at *
  by_cases hs : l.length < k + n
  · rw [if_pos hs, sl_no hs, se_no hs]
    exact num_bad 0 b _ _ n w h (badQ_sl (.inr hs)) (by omega)
  · rw [se_yes (by omega), sl_yes (by omega)] at h
    rw [if_neg hs, se_yes (by omega), sl_yes (by omega)]
    have := num_ok 0 b (l.drop k) n w h (okB_drop hB k) (by rw [List.length_drop]; omega) hn
    rw [List.drop_drop] at this
    exact this
theorem rdk_raw_bad (b : Nat) (l : List Int) (k n : Nat) (w : World) (h : Rdk w b l k) (hs : l.length < k ∨ l.length < k + n) (hn : n ≤ 100000) :
    Calls Try.prog 50 #[.pointer (some ⟨b, 0, none⟩), .int .i64 (n : Int)] w fun r w' => r = .returned (.slice none 0 0) ∧ Rdk w' b l (k + n) ∧ Just b w w' := by
  unfold Rdk at *
  rw [sl_no (by omega), se_no (by omega)]
  exact raw_bad 0 b _ _ n w h (badQ_sl hs) hn
theorem rdk_raw (b : Nat) (l : List Int) (k n : Nat) (w : World) (h : Rdk w b l k) (hs : k + n ≤ l.length) (hn : n ≤ 100000) :
    Calls Try.prog 50 #[.pointer (some ⟨b, 0, none⟩), .int .i64 (n : Int)] w fun r w' => ∃ a c, r = .returned (.slice a n c) ∧ n ≤ c ∧ c ≤ maxLen ∧ Mine w' w.heap.size 5 (.slice a n c) n (bval (l.drop k)) ∧ Rdk w' b l (k + n) ∧ Just b w w' := by
  unfold Rdk at *
  rw [se_yes (by omega), sl_yes (by omega)] at h
  rw [se_yes (by omega), sl_yes (by omega)]
  refine (raw_ok 0 b (l.drop k) n w h (by rw [List.length_drop]; omega) hn).mono ?_
  rintro r w' ⟨v, rfl, hm, h2, j⟩
  have hm2 := hm.ext (U := bval (l.drop k)) (fun i hi => by unfold bval; rw [tk_get hi])
  obtain ⟨a, c, rfl, h3, h4, h5⟩ := hm.row
  rw [List.drop_drop] at h2
  exact ⟨a, c, rfl, h3, h4, hm2, h2, j⟩
theorem rdk_end (b : Nat) (l : List Int) (k : Nat) (w : World) (h : Rdk w b l k) :
    Calls Try.prog 51 #[.pointer (some ⟨b, 0, none⟩)] w fun r w' => r = .returned (.int .i64 (if l.length < k then 2 else if l.length ≠ k then 3 else 0)) ∧ w = w' := by
  unfold Rdk at h
  have := rend_any 0 b _ _ w h (se_two l k)
  refine this.mono ?_
  rintro r w' ⟨rfl, e⟩
  refine ⟨?_, e⟩
  by_cases hs : l.length < k
  · rw [se_no hs, if_pos (by decide), if_pos hs]
  · rw [se_yes (by omega), if_neg (by decide), if_neg hs, sl_len]
    by_cases h2 : l.length = k
    · rw [if_neg (by omega), if_neg (by omega)]
    · rw [if_pos (by omega), if_pos h2]
def Z6 : Array Value := #[.int .i64 0, .int .i64 0, .int .i64 0, .int .i64 0, .slice none 0 0, .slice none 0 0]
/-- Given's memory, k bytes on. -/
structure GdS (l : List Int) (w : World) (h k : Nat) (W : World) : Prop where
  hs : w.heap.size = h
  o2 : Own W h 25 Z6
  o4 : Own W (h + 1) 25 Z6
  rd : Rdk W (h + 2) l k
  bb : Below h w W
section
variable {l : List Int} {w W W' : World} {h k : Nat}
theorem GdS.lt (S : GdS l w h k W) : h + 2 < W.heap.size := by
  obtain ⟨a, c, h1, _⟩ := S.rd
  exact h1.lt
theorem GdS.le (S : GdS l w h k W) : h ≤ W.heap.size := by have := S.lt; omega
theorem GdS.read (S : GdS l w h k W) {k' : Nat} (hr : Rdk W' (h + 2) l k') (j : Just (h + 2) W W') : GdS l w h k' W' :=
  ⟨S.hs, j.own S.o2 (by omega), j.own S.o4 (by omega), hr, j.below S.bb (by omega) S.le⟩
theorem Rdk.lt {b : Nat} (h : Rdk W b l k) : b < W.heap.size := by
  obtain ⟨a, c, h1, _⟩ := h
  exact h1.lt
/-- Blocks from h + 3 on may turn. -/
theorem GdS.high (S : GdS l w h k W) {B : Nat} (j : Below B W W') (hB : h + 2 < B) : GdS l w h k W' :=
  ⟨S.hs, below_own j S.o2 (by omega), below_own j S.o4 (by omega), Rdq.kept S.rd j hB, S.bb.trans (j.mono (by omega))⟩
theorem GdS.alloc (S : GdS l w h k W) (o : Obj) : GdS l w h k (W.alloc o) := S.high (B := W.heap.size) ((Below.refl _ _).alloc (Nat.le_refl _) o) S.lt
theorem GdS.err (S : GdS l w h k W) : W.cell? ⟨h + 2, 1, none⟩ = some (.int .i64 (Se l k)) := by
  obtain ⟨a, c, h1, _⟩ := S.rd
  exact h1.cell 1
theorem Rdk.err {b : Nat} (S : Rdk W b l k) : W.cell? ⟨b, 1, none⟩ = some (.int .i64 (Se l k)) := by
  obtain ⟨a, c, h1, _⟩ := S
  exact h1.cell 1
theorem GdS.setHigh (S : GdS l w h k W) {g : Nat} (hg : h + 2 < g) (i : Nat) (v : Value) : GdS l w h k (W.setCell ⟨g, i, none⟩ v) :=
  S.high (B := h + 3) ((Just.set g W i v).below (Below.refl (h + 3) W) (by omega) (by have := S.lt; omega)) (by omega)
theorem gds_start (a : Option Addr) (c : Nat) (l : List Int) (w : World) (hR : Bs w a c l) :
    GdS l w w.heap.size 0 (((w.alloc (.cells Z6 25)).alloc (.cells Z6 25)).alloc (.cells #[.slice a l.length c, .int .i64 0] 67)) := by
  have ba := (((Below.refl w.heap.size w).alloc (Nat.le_refl _) (.cells Z6 25)).alloc (by simp) (.cells Z6 25)).alloc (by simp; omega) (.cells #[.slice a l.length c, .int .i64 0] 67)
  have o3 := Own.new ((w.alloc (.cells Z6 25)).alloc (.cells Z6 25)) 67 #[.slice a l.length c, .int .i64 0]
  have o2 := Own.new (w.alloc (.cells Z6 25)) 25 Z6
  have e1 : (w.alloc (.cells Z6 25)).heap.size = w.heap.size + 1 := by simp
  have e2 : ((w.alloc (.cells Z6 25)).alloc (.cells Z6 25)).heap.size = w.heap.size + 2 := by simp
  have o1 := Own.new w 25 Z6
  rw [e1] at o2
  rw [e2] at o3
  refine ⟨rfl, (o1.alloc _).alloc _, o2.alloc _, ?_, ba⟩
  unfold Rdk
  rw [sl_zero, se_zero]
  refine ⟨a, c, o3, hR.le, hR.cap, (hR.below ba).row, fun p hp h0 => ⟨Nat.zero_le _, ?_⟩⟩
  obtain ⟨b1, o1', e3, e4, _⟩ := hR.row h0
  rw [hp] at e3
  injection e3 with e3
  rw [e3]
  show b1 < w.heap.size + 2
  omega
/-- The result stored: own, below. -/
theorem GdS.put (S : GdS l w h k W) (x0 x1 x2 x3 x4 x5 : Value) : Own ((((((W.setCell ⟨h, 0, none⟩ x0).setCell ⟨h, 1, none⟩ x1).setCell ⟨h, 2, none⟩ x2).setCell ⟨h, 3, none⟩ x3).setCell ⟨h, 4, none⟩ x4).setCell ⟨h, 5, none⟩ x5) h 25 #[x0, x1, x2, x3, x4, x5] ∧ Just h W ((((((W.setCell ⟨h, 0, none⟩ x0).setCell ⟨h, 1, none⟩ x1).setCell ⟨h, 2, none⟩ x2).setCell ⟨h, 3, none⟩ x3).setCell ⟨h, 4, none⟩ x4).setCell ⟨h, 5, none⟩ x5) :=
  ⟨(((((S.o2.put 0 x0).put 1 x1).put 2 x2).put 3 x3).put 4 x4).put 5 x5, ((((((Just.refl h W).put 0 x0).put 1 x1).put 2 x2).put 3 x3).put 4 x4).put 5 x5⟩
end
end Go.Proofs.Ytcpmnfoenpdaeaa.Rq
