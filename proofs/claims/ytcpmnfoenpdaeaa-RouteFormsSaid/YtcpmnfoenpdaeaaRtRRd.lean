/-
  The reference's reader of bytes (chapter 3), as packets are read.
-/
import Derived.Test.YtcpmnfoenpdaeaaRtDecF
import Derived.Test.YtcpmnfoenpdaeaaRtRUp
import Derived.Lib.Overlaps
set_option maxRecDepth 100000
namespace Go.Proofs.Ytcpmnfoenpdaeaa.Rq
set_option linter.unusedVariables false
open Go.RowKit Lb Go.Shelf Bf Rt



def okB (l : List Int) : Prop := ∀ x, x ∈ l → 0 ≤ x ∧ x < 256
theorem okB_drop {l : List Int} (h : okB l) (k : Nat) : okB (l.drop k) := fun x hx => h x (List.mem_of_mem_drop hx)
def numB (l : List Int) : Int := l.foldl (fun x c => x * 256 + c) 0
theorem numB_snoc (l : List Int) (c : Int) : numB (l ++ [c]) = numB l * 256 + c := by
  unfold numB
  rw [List.foldl_append]
  rfl
theorem tk_get {l : List Int} {s i : Nat} (h : i < s) : (l.take s).getD i 0 = l.getD i 0 := by
  rw [List.getD_eq_getElem?_getD, List.getD_eq_getElem?_getD, List.getElem?_take_of_lt h]
theorem row_none {w : World} {a : Option Addr} {n : Nat} {V : Nat → Value} (h : Row w a n V) : a = none → n = 0 := fun e => by
  by_cases h0 : n = 0
  · exact h0
  · obtain ⟨_, _, h1, _⟩ := h (by omega)
    rw [e] at h1
    cases h1
theorem row_keep {w w' : World} {a : Option Addr} {n : Nat} {V : Nat → Value} (h : Row w a n V) (hk : ∀ p, a = some p → 0 < n → w'.heap[p.block]? = w.heap[p.block]?) : Row w' a n V := fun h0 => by
  obtain ⟨q, off, e, hq, hc⟩ := h h0
  have hb := hk _ e h0
  dsimp only at hb
  refine ⟨q, off, e, ?_, fun i hi => (World.cell?_of_block (a := ⟨q, off + i, none⟩) hb).trans (hc i hi)⟩
  rcases Nat.lt_or_ge q w'.heap.size with h2 | h2
  · exact h2
  · rw [Array.getElem?_eq_none h2, Array.getElem?_eq_getElem hq] at hb
    cases hb
/-- A reader: what is left, the error that was met. -/
def Rdq (w : World) (lo b : Nat) (l : List Int) (err : Int) : Prop :=
  ∃ a c, Own w b 67 #[.slice a l.length c, .int .i64 err] ∧ l.length ≤ c ∧ c ≤ maxLen ∧ Row w a l.length (bval l) ∧ ∀ p, a = some p → 0 < l.length → lo ≤ p.block ∧ p.block < b
theorem Rdq.kept {w w' : World} {lo b H : Nat} {l : List Int} {err : Int} (h : Rdq w lo b l err) (k : Below H w w') (hb : b < H) : Rdq w' lo b l err := by
  obtain ⟨a, c, h1, h2, h3, h4, h5⟩ := h
  exact ⟨a, c, below_own k h1 hb, h2, h3, row_keep h4 (fun p e h0 => k.block _ (Nat.lt_trans (h5 p e h0).2 hb)), h5⟩
theorem Rdq.just {w w' : World} {lo b g : Nat} {l : List Int} {err : Int} (h : Rdq w lo b l err) (j : Just g w w') (hg : g < lo) (hb : g ≠ b) : Rdq w' lo b l err := by
  obtain ⟨a, c, h1, h2, h3, h4, h5⟩ := h
  exact ⟨a, c, j.own h1 (fun e => hb e.symm), h2, h3, row_keep h4 (fun p e h0 => j.block _ (Nat.lt_trans (h5 p e h0).2 h1.lt) (by have := (h5 p e h0).1; omega)), h5⟩
theorem Rdq.lt {w : World} {lo b : Nat} {l : List Int} {err : Int} (h : Rdq w lo b l err) : b < w.heap.size := by
  obtain ⟨a, c, h1, _⟩ := h
  exact h1.lt
def badQ (l : List Int) (err : Int) (n : Nat) : Prop := err ≠ 0 ∨ l.length < n
theorem rq_put {w : World} {lo b len n c : Nat} {l : List Int} {a' : Option Addr} {v : Value} (h1 : Lb.Own w b 67 #[v, .int .i64 0]) (hl : l.length = len) (hc : len - n ≤ c) (hm : c ≤ maxLen) (hr : Row w a' (len - n) (bval (l.drop n))) (hp : ∀ p, a' = some p → 0 < len - n → lo ≤ p.block ∧ p.block < b) : Rdq (w.setCell ⟨b, 0, none⟩ (.slice a' (len - n) c)) lo b (l.drop n) 0 := by
  have e : (l.drop n).length = len - n := by rw [List.length_drop, hl]
  refine ⟨a', c, ?_, by rw [e]; exact hc, hm, ?_, by rw [e]; exact hp⟩
  · rw [e]; exact h1.put 0 _
  · rw [e]
    exact row_keep hr (fun p e h0 => (Just.set b w 0 _).block p.block (Nat.lt_trans (hp p e h0).2 h1.lt) (Nat.ne_of_lt (hp p e h0).2))
theorem row_add {w : World} {p : Addr} {len n : Nat} {l : List Int} (h : Row w (some p) len (bval l)) (hn : n ≤ len) : Row w (some (p.add n)) (len - n) (bval (l.drop n)) := by
  intro h0
  obtain ⟨b, off, e, h1, h2⟩ := h (by omega)
  injection e with e
  subst e
  refine ⟨b, off + n, by rw [Addr.add_lit], h1, fun i hi => ?_⟩
  rw [Nat.add_assoc, h2 (n + i) (by omega)]
  unfold bval
  rw [lft_get]
theorem raw_bad (lo b : Nat) (l : List Int) (err : Int) (n : Nat) (w : World) (h : Rdq w lo b l err) (hb : badQ l err n) (hn : n ≤ 100000) :
    Calls Try.prog 50 #[.pointer (some ⟨b, 0, none⟩), .int .i64 (n : Int)] w fun r w' => r = .returned (.slice none 0 0) ∧ Rdq w' lo b [] 2 ∧ Just b w w' := by
  obtain ⟨a, c, h1, h2, h3, h4, h5⟩ := h
  unfold maxLen at h3
  obtain ⟨len, hlen⟩ : ∃ len, l.length = len := ⟨_, rfl⟩
  unfold badQ at hb
  rw [hlen] at hb h1 h2
  have c0 : w.cell? ⟨b, 0, none⟩ = some (.slice a len c) := h1.cell 0
  have c1 : w.cell? ⟨b, 1, none⟩ = some (.int .i64 err) := h1.cell 1
  have f0 := h1.free 0
  have f1 := h1.free 1
  have hq : Rdq ((w.setCell ⟨b, 1, none⟩ (.int .i64 2)).setCell ⟨b, 0, none⟩ (.slice none 0 0)) lo b [] 2 := ⟨none, 0, (h1.put 1 _).put 0 _, Nat.le_refl _, Nat.zero_le _, Row.nil _ _ _, fun p e _ => by cases e⟩
  have hj : Just b w ((w.setCell ⟨b, 1, none⟩ (.int .i64 2)).setCell ⟨b, 0, none⟩ (.slice none 0 0)) := (Just.set b w 1 _).put 0 _
  have g0 : max (0 : Int) (n : Int) = (n : Int) := by omega
  clear hlen
  by_cases he : err = 0
  · have hl : len < n := by omega
    have g1 : (err != 0) = false := by simpa using he
    have g2 : decide (len < n) = true := by simpa using hl
    have g3 : decide ((len : Int) < (n : Int)) = true := by simp; omega
    clear hb he hl
    go_enter Try.func50, Try.ntmps50
    go_wp2_with fail
    go_ret
    exact ⟨rfl, hq, hj⟩
  · have g1 : (err != 0) = true := by simpa using he
    clear hb he
    go_enter Try.func50, Try.ntmps50
    go_wp2_with fail
    go_ret
    exact ⟨rfl, hq, hj⟩
set_option maxHeartbeats 1000000 in
theorem raw_ok (lo b : Nat) (l : List Int) (n : Nat) (w : World) (h : Rdq w lo b l 0) (hl : n ≤ l.length) (hn : n ≤ 100000) :
    Calls Try.prog 50 #[.pointer (some ⟨b, 0, none⟩), .int .i64 (n : Int)] w fun r w' => ∃ v, r = .returned v ∧ Mine w' w.heap.size 5 v n (bval (l.take n)) ∧ Rdq w' lo b (l.drop n) 0 ∧ Just b w w' := by
  obtain ⟨a, c, h1, h2, h3, h4, h5⟩ := h
  unfold maxLen at h3
  obtain ⟨len, hlen⟩ : ∃ len, l.length = len := ⟨_, rfl⟩
  have HLEN := Lib.hid hlen
  rw [hlen] at h1 h2 hl h4 h5
  have c0 : w.cell? ⟨b, 0, none⟩ = some (.slice a len c) := h1.cell 0
  have c1 : w.cell? ⟨b, 1, none⟩ = some (.int .i64 0) := h1.cell 1
  have f0 := h1.free 0
  have g0 : max (0 : Int) (n : Int) = (n : Int) := by omega
  have g2 : decide (len < n) = false := by simpa using hl
  have g3 : decide ((len : Int) < (n : Int)) = false := by simp; omega
  obtain ⟨i0, hi0, hz0, hz1, hz2⟩ := info_parts info8
  have HNM : Hid (0 + n ≤ maxLen) := Lib.hid (by unfold maxLen; omega)
  have HR : Hid (Row w a n (bval l)) := Lib.hid (h4.cut hl)
  have HB : Hid (b < w.heap.size) := Lib.hid h1.lt
  clear hlen
  go_enter Try.func50, Try.ntmps50
  go_wp2_with (at_builtin; go_must (refine wp_app rfl (.const (.slice none 0 0)) (.tmp 33) _ rfl w.heap.size 5 i0 _ 1 Try.underlying23 hi0 hz0 hz1 hz2 rfl (.slice none 0 0) 0 (bval []) rfl (Mine.nil _ _ _ _) _ n _ (bval l) rfl HR.out (fun _ _ => rfl) HNM.out ?c2 (Nat.le_refl _) ?_))
  case c2 => omega
  intro v5 w5 m5 g5
  have b5 := (Below.refl w.heap.size w).grown g5 (Nat.le_refl _) (fun q e => by cases e)
  have o5 := below_own b5 h1 h1.lt
  have k0 : w5.cell? ⟨b, 0, none⟩ = some (.slice a len c) := o5.cell 0
  have p0 := o5.free 0
  have M5 : Hid (Mine w5 w.heap.size 5 v5 n (bval (l.take n))) := Lib.hid (by
    exact m5.ext (U := bval (l.take n)) (fun i hi => by
      show bval l i = _
      unfold bval
      rw [tk_get hi]))
  clear m5 g5 HNM HR c0 c1 f0 h1
  have hr5 := h4.below b5
  have HJ : Hid (∀ u, Just b w (w5.setCell ⟨b, 0, none⟩ u)) := Lib.hid (fun u => (show Just b w w5 from ⟨b5.os, b5.tape, b5.output, b5.size, fun k hk _ => b5.block k hk⟩).put 0 u)
  cases a with
  | none =>
    have h0 := row_none h4 rfl
    have HQ : Hid (Rdq (w5.setCell ⟨b, 0, none⟩ (.slice none (len - n) (c - n))) lo b (l.drop n) 0) := Lib.hid (rq_put o5 HLEN.out (by omega) (by unfold maxLen; omega) (by rw [show len - n = 0 by omega]; exact Row.nil _ _ _) (fun p e _ => by cases e))
    clear h0 hr5 h4
    go_wp2_with fail
    go_ret
    exact ⟨v5, rfl, M5.out.just (Just.set b w5 0 _) (HB.out), HQ.out, HJ.out _⟩
  | some p =>
    have hp : 0 < len → lo ≤ p.block ∧ p.block < b := h5 p rfl
    by_cases hc : n = c
    · subst hc
      have HQ : Hid (Rdq (w5.setCell ⟨b, 0, none⟩ (.slice (some p) 0 0)) lo b (l.drop n) 0) := Lib.hid (by
        have := rq_put (lo := lo) (n := n) (c := 0) (a' := some p) o5 HLEN.out (by omega) (Nat.zero_le _) (by rw [show len - n = 0 by omega]; exact Row.nil _ _ _) (fun q e h0 => absurd h0 (by omega))
        rwa [show len - n = 0 by omega] at this)
      clear hr5 h4
      obtain ⟨pb, po, ps⟩ := p
      go_wp2_with fail
      go_ret
      exact ⟨v5, rfl, M5.out.just (Just.set b w5 0 _) (HB.out), HQ.out, HJ.out _⟩
    · have HQ : Hid (Rdq (w5.setCell ⟨b, 0, none⟩ (.slice (some (p.add n)) (len - n) (c - n))) lo b (l.drop n) 0) := Lib.hid (rq_put o5 HLEN.out (by omega) (by unfold maxLen; omega) (row_add hr5 hl) (fun q e h0 => by injection e with e; rw [← e]; unfold Addr.add; split <;> exact hp (by omega)))
      clear hr5 h4
      obtain ⟨pb, po, ps⟩ := p
      go_wp2_with fail
      go_ret
      exact ⟨v5, rfl, M5.out.just (Just.set b w5 0 _) (HB.out), HQ.out, HJ.out _⟩
theorem num_bad (lo b : Nat) (l : List Int) (err : Int) (n : Nat) (w : World) (h : Rdq w lo b l err) (hb : badQ l err n) (hn : n ≤ 100000) :
    Calls Try.prog 49 #[.pointer (some ⟨b, 0, none⟩), .int .i64 (n : Int)] w fun r w' => r = .returned (.int .u64 0) ∧ Rdq w' lo b [] 2 ∧ Just b w w' := by
  go_enter Try.func49, Try.ntmps49
  go_wp2_with fail
  refine (raw_bad lo b l err n w h hb hn).mono ?_
  rintro r w2 ⟨rfl, h2, j2⟩
  go_wp2_with fail
  go_loopw [5, 12] (fun x i wr => x = .int .u64 0 ∧ i = .int .i64 0 ∧ w2 = wr) (fun _ _ _ => 0)
  case atStart => exact ⟨rfl, rfl, rfl⟩
  case round =>
    obtain ⟨rfl, rfl, rfl⟩ := hrel
    go_wp2_with fail
    go_ret
    exact ⟨rfl, h2, j2⟩
theorem numB_step {l : List Int} {k : Nat} {X c : Nat} (hX : numB (l.take k) = (X : Int)) (hk : k < l.length) (hc : l.getD k 0 = (c : Int)) : numB (l.take (k + 1)) = ((X * 256 + c : Nat) : Int) := by
  rw [tk_snoc hk, numB_snoc, hX, hc]
  push_cast
  rfl
theorem or_low (X c : Nat) (hc : c < 256) : X * 256 ||| c = X * 256 + c := by
  have := Nat.two_pow_add_eq_or_of_lt (i := 8) (b := c) hc X
  rw [Nat.mul_comm X 256]
  exact this.symm
set_option maxHeartbeats 1000000 in
theorem num_ok (lo b : Nat) (l : List Int) (n : Nat) (w : World) (h : Rdq w lo b l 0) (hd : okB l) (hl : n ≤ l.length) (hn : n ≤ 8) :
    Calls Try.prog 49 #[.pointer (some ⟨b, 0, none⟩), .int .i64 (n : Int)] w fun r w' => r = .returned (.int .u64 (numB (l.take n))) ∧ Rdq w' lo b (l.drop n) 0 ∧ Just b w w' := by
  have HD := Lib.hid hd
  have HL := Lib.hid hl
  go_enter Try.func49, Try.ntmps49
  go_wp2_with fail
  refine (raw_ok lo b l n w h hl (by omega)).mono ?_
  rintro r w2 ⟨v, rfl, hV, h2, j2⟩
  obtain ⟨a, c, rfl, l1, l2, hR⟩ := hV.row
  unfold maxLen at l2
  clear hd hl hV h
  go_wp2_with fail
  go_loopw [5, 12] (fun x i wr => ∃ (k X : Nat), x = .int .u64 (X : Int) ∧ i = .int .i64 k ∧ k ≤ n ∧ Hid (numB (l.take k) = (X : Int)) ∧ X < 256 ^ k ∧ w2 = wr) (fun _ i _ => n - (intOf i).toNat)
  case atStart => exact ⟨0, 0, rfl, rfl, by omega, Lib.hid rfl, by decide, rfl⟩
  case round =>
    obtain ⟨k, X, rfl, rfl, hk, HX, hXb, rfl⟩ := hrel
    by_cases hlt : k < n
    · obtain ⟨p, o, rfl, _, x1⟩ := hR.at_ hlt
      unfold bval at x1
      rw [tk_get hlt] at x1
      have hcb : 0 ≤ l.getD k 0 ∧ l.getD k 0 < 256 := by
        have := HL.out
        rw [List.getD_eq_getElem?_getD, List.getElem?_eq_getElem (by omega)]
        exact HD.out _ (List.getElem_mem _)
      obtain ⟨c0, hc0⟩ : ∃ c0 : Nat, l.getD k 0 = (c0 : Int) := ⟨(l.getD k 0).toNat, by omega⟩
      rw [hc0] at x1 hcb
      have hX8 : X < 72057594037927936 := Nat.lt_of_lt_of_le hXb (show 256 ^ k ≤ 256 ^ 7 from Nat.pow_le_pow_right (by decide) (by omega))
      have HS := Lib.hid (numB_step HX.out (by have := HL.out; omega) hc0)
      have hb1 : X * 256 + c0 < 256 ^ (k + 1) := by
        rw [Nat.pow_succ]
        omega
      have HB := Lib.hid hb1
      have e9 : bits .or .u64 ((X : Int) * 256) (c0 : Int) = ((X * 256 + c0 : Nat) : Int) := by
        have := u64_or_nat (X * 256) c0 (by omega) (by omega)
        rw [or_low X c0 (by omega)] at this
        rw [← this]
        push_cast
        rfl
      clear hc0 hb1 hXb
      go_wp2_with fail
      exact ⟨⟨k + 1, X * 256 + c0, by simp, by simp, by omega, HS, HB.out, by first | trivial | rfl⟩, by simp [intOf]; omega⟩
    · obtain rfl : n = k := by omega
      go_wp2_with fail
      go_ret
      exact ⟨by rw [HX.out]; rfl, h2, j2⟩
theorem ru8_bad (lo b : Nat) (l : List Int) (err : Int) (w : World) (h : Rdq w lo b l err) (hb : badQ l err 1) :
    Calls Try.prog 48 #[.pointer (some ⟨b, 0, none⟩)] w fun r w' => r = .returned (.int .i64 0) ∧ Rdq w' lo b [] 2 ∧ Just b w w' := by
  go_enter Try.func48, Try.ntmps48
  go_wp2_with fail
  refine (num_bad lo b l err 1 w h hb (by omega)).mono ?_
  rintro r w2 ⟨rfl, h2, j2⟩
  go_wp2_with fail
  go_ret
  exact ⟨rfl, h2, j2⟩
theorem ru8_ok (lo b : Nat) (x : Int) (l : List Int) (w : World) (h : Rdq w lo b (x :: l) 0) (hd : okB (x :: l)) :
    Calls Try.prog 48 #[.pointer (some ⟨b, 0, none⟩)] w fun r w' => r = .returned (.int .i64 x) ∧ Rdq w' lo b l 0 ∧ Just b w w' := by
  have hx := hd x (by simp)
  have hn := num_ok lo b (x :: l) 1 w h hd (by simp) (by omega)
  have e : numB ((x :: l).take 1) = x := by simp [numB]
  rw [e] at hn
  have HN := Lib.hid hn
  clear hn e
  go_enter Try.func48, Try.ntmps48
  go_wp2_with fail
  refine HN.out.mono ?_
  rintro r w2 ⟨rfl, h2, j2⟩
  go_wp2_with fail
  go_ret
  exact ⟨rfl, h2, j2⟩
end Go.Proofs.Ytcpmnfoenpdaeaa.Rq
