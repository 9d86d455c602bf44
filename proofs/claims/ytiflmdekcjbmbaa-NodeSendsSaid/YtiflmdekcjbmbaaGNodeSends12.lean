/-
  Package ie (chapter 6): an element's bytes are put. Package ie (chapter 6): rows of elements; Encode: their bytes. The reference's bytes of elements. Package ie (chapter 6): elements out of bytes, plain. Package ie (chapter 6): a byte and whether it is there; which sizes fit; a list read. Package ie (chapter 6): slices.Clone at int, off the shelf. Package ie (chapter 6) and the reference: the first element of a kind.
-/
import Derived.Test.YtiflmdekcjbmbaaGNodeSends11
import Derived.Test.YtiflmdekcjbmbaaGNodeSends03
import Derived.Test.YtiflmdekcjbmbaaGNodeSends07
import Derived.Deep.RegionHeld3
import Derived.Deep.CutBlock
import Derived.Test.YtiflmdekcjbmbaaGNodeSends10
import Derived.Ground.Names2Prog
import Derived.Shelf.Slices.Clone
import Derived.Lib.OwnBridge
set_option maxRecDepth 100000
namespace Go.Proofs.Ytiflmdekcjbmbaa.Ie
set_option linter.unusedVariables false
set_option linter.unusedSimpArgs false
open Go.RowKit Lb Go.Shelf Bf

theorem u64_id {x : Int} (h : 0 ≤ x ∧ x < 18446744073709551616) : IntKind.u64.wrap x = x := by
  rw [IntKind.wrap_u64]
  omega
theorem u64_eq (x : Int) : IntKind.u64.wrap x = ((u64 x : Nat) : Int) := by
  rw [IntKind.wrap_u64]
  unfold u64
  omega
theorem put1_any (base b : Nat) (l : List Int) (v : Value) (x : Int) (w : World) (h : Wb w base b l v) (hx : 0 ≤ x ∧ x < 256) (hl : l.length ≤ 100000) :
    Calls Try.prog 48 #[.pointer (some ⟨b, 0, none⟩), .int .u64 x, .int .i64 8] w fun r w' => r = .returned (.tuple #[]) ∧ ∃ v', Wb w' base b (l ++ [x]) v' ∧ Below base w w' ∧ Lone w w' b v v' := by
  obtain ⟨N, rfl⟩ : ∃ N : Nat, x = (N : Int) := ⟨x.toNat, by omega⟩
  have := putk_any base b l v N 1 w h (by omega) (by omega) hl
  rw [bytesK_one N (by omega)] at this
  exact this
theorem put5_any (base b : Nat) (l : List Int) (v : Value) (x : Int) (w : World) (h : Wb w base b l v) (hx : 0 ≤ x ∧ x < 1099511627776) (hl : l.length ≤ 100000) :
    Calls Try.prog 48 #[.pointer (some ⟨b, 0, none⟩), .int .u64 x, .int .i64 40] w fun r w' => r = .returned (.tuple #[]) ∧ ∃ v', Wb w' base b (l ++ bytesK x.toNat 5) v' ∧ Below base w w' ∧ Lone w w' b v v' := by
  obtain ⟨N, rfl⟩ : ∃ N : Nat, x = (N : Int) := ⟨x.toNat, by omega⟩
  exact putk_any base b l v N 5 w h (by omega) (by omega) hl
theorem put2_any (base b : Nat) (l : List Int) (v : Value) (x : Int) (w : World) (h : Wb w base b l v) (hl : l.length ≤ 100000) :
    Calls Try.prog 48 #[.pointer (some ⟨b, 0, none⟩), .int .u64 ((u64 x : Nat) : Int), .int .i64 16] w fun r w' => r = .returned (.tuple #[]) ∧ ∃ v', Wb w' base b (l ++ bytesK (u64 x) 2) v' ∧ Below base w w' ∧ Lone w w' b v v' :=
  putk_any base b l v (u64 x) 2 w h (u64_lt x) (by omega) hl
theorem tk_snoc {l : List Int} {k : Nat} (hk : k < l.length) : l.take (k + 1) = l.take k ++ [l.getD k 0] := by
  rw [List.take_succ_eq_append_getElem hk, List.getD_eq_getElem?_getD, List.getElem?_eq_getElem hk]
  rfl
theorem Wb.far {w : World} {base b : Nat} {l : List Int} {v : Value} (h : Wb w base b l v) : b < w.heap.size ∧ base ≤ b ∧ ∀ q, v.ownBlock = some q → q < w.heap.size := by
  obtain ⟨Z, B, h1, _⟩ := h
  exact ⟨h1.own.lt, h1.low, fun q e => (h1.row.lt q e).2⟩
/-- What is new is left alone by whoever puts later. -/
theorem lone_own {w w1 : World} {b g : Nat} {v v1 : Value} {t : TypeId} {cs : Array Value} (h : Lone w w1 b v v1) (hg : Lb.Own w g t cs) (h1 : g ≠ b) (h2 : v.ownBlock ≠ some g) : Lb.Own w1 g t cs := (h.keep g hg.lt h1 h2).trans hg
theorem lone_far {w w1 : World} {b g : Nat} {v v1 : Value} (h : Lone w w1 b v v1) (h2 : v.ownBlock ≠ some g) (hg : g < w.heap.size) : v1.ownBlock ≠ some g := fun e => by
  rcases h.own g e with e | e
  · exact h2 e
  · omega
set_option maxHeartbeats 2000000 in
theorem putl_any (base b : Nat) (l m : List Int) (v : Value) (a : Option Addr) (c : Nat) (w : World) (h : Wb w base b l v) (hl : l.length ≤ 1000) (hm : listB m = true) (hR : ∀ w', Below base w w' → Row w' a m.length (zval m)) :
    Calls Try.prog 78 #[.pointer (some ⟨b, 0, none⟩), .slice a m.length c] w fun r w' => r = .returned (.tuple #[]) ∧ ∃ v', Wb w' base b (l ++ [(m.length : Int)] ++ m) v' ∧ Below base w w' := by
  unfold listB octsB at hm
  rw [Bool.and_eq_true, decide_eq_true_eq, decide_eq_true_eq] at hm
  obtain ⟨hoc, h16⟩ := hm
  have HOC := Lib.hid hoc
  clear hoc
  obtain ⟨n, hn⟩ : ∃ n, m.length = n := ⟨_, rfl⟩
  have HN := Lib.hid hn
  rw [hn] at hR h16 ⊢
  have HR := Lib.hid hR
  clear hn hR
  have hsz : base ≤ w.heap.size := by have := Wb.far h; omega
  have u1 : IntKind.u64.wrap (n : Int) = (n : Int) := u64_id (by omega)
  go_enter Try.func78, Try.ntmps78
  go_wp2_with fail
  refine (put1_any base b l v (n : Int) w h (by omega) (by omega)).mono ?_
  rintro r x1 ⟨rfl, v1, hW, bb, lo⟩
  clear h u1 lo
  go_wp2_with fail
  go_loopw [13] (fun i wr => ∃ (k : Nat) (v : Value), i = .int .i64 k ∧ k ≤ n ∧ Wb wr base b (l ++ [(n : Int)] ++ m.take k) v ∧ Below base w wr) (fun i _ => n - (intOf i).toNat)
  case atStart => exact ⟨0, v1, rfl, by omega, by rw [List.take_zero, List.append_nil]; exact hW, bb⟩
  case round =>
    clear hW bb
    obtain ⟨k, v2, rfl, hk, hW, b2⟩ := hrel
    have htl : (m.take k).length ≤ k := List.length_take_le _ _
    by_cases hlt : k < n
    · obtain ⟨pb, po, rfl, hpb, cx⟩ := (HR.out wr b2).at_ hlt
      unfold zval at cx
      have hx := HOC.out k (by rw [HN.out]; exact hlt)
      have hsn := tk_snoc (l := m) (k := k) (by rw [HN.out]; exact hlt)
      obtain ⟨x, hxx⟩ : ∃ x, m.getD k 0 = x := ⟨_, rfl⟩
      rw [hxx] at cx hx hsn
      have HSN := Lib.hid hsn
      have u1 : IntKind.u64.wrap x = x := u64_id (by omega)
      clear hsn hxx
      go_wp2_with fail
      refine (put1_any base b (l ++ [(n : Int)] ++ m.take k) v2 x wr hW (by omega) (by rw [List.length_append, List.length_append]; simp only [List.length_cons, List.length_nil]; omega)).mono ?_
      rintro r x6 ⟨rfl, v6, hW6, b6, lo⟩
      have b7 := b2.trans b6
      clear u1 b6 lo
      go_wp2_with fail
      exact ⟨⟨k + 1, v6, by simp, by omega, by rw [HSN.out, ← List.append_assoc]; exact hW6, b7⟩, by simp [intOf]; omega⟩
    · obtain rfl : n = k := by omega
      have htk : m.take n = m := List.take_of_length_le (by rw [HN.out]; exact Nat.le_refl _)
      rw [htk] at hW
      clear htk
      go_wp2_with fail
      refine bodyPost_end (results_none rfl _ _ _) rfl ?_
      exact ⟨rfl, v2, hW, b2⟩
set_option maxHeartbeats 4000000 in
theorem iput1 (base b : Nat) (l : List Int) (v : Value) (x y : Int) (w : World) (h : Wb w base b l v) (hl : l.length ≤ 1000) (hx : s1B x y = true) :
    Calls Try.prog 67 #[.pointer (some ⟨b, 0, none⟩), .int .i64 1, v1 x y] w fun r w' => r = .returned (.tuple #[]) ∧ ∃ v', Wb w' base b (l ++ ([1] ++ [6] ++ bytesK x.toNat 5 ++ [y])) v' ∧ Below base w w' := by
  unfold s1B octB at hx
  rw [Bool.and_eq_true, decide_eq_true_eq, decide_eq_true_eq] at hx
  obtain ⟨hx1, hx2⟩ := hx
  obtain ⟨out, hout⟩ : ∃ out, l ++ ([1] ++ [6] ++ bytesK x.toNat 5 ++ [y]) = out := ⟨_, rfl⟩
  rw [hout]
  have HO := Lib.hid hout
  clear hout
  have q11 := t11
  have q12 := t12
  have q13 := t13
  have q14 := t14
  unfold v1
  obtain ⟨f1, f2, f3⟩ := Wb.far h
  have u0 : IntKind.u64.wrap 1 = 1 := by decide
  have u1 : IntKind.u64.wrap x = x := u64_id (by omega)
  have u2 : IntKind.u64.wrap y = y := u64_id (by omega)
  go_enter Try.func67, Try.ntmps67
  go_wp2_with fail
  refine (put1_any base b l v 1 w h (by omega) (by omega)).mono ?_
  rintro r x1 ⟨rfl, w1, hW, bb, lo⟩
  obtain ⟨g1, g2, g3⟩ := Wb.far hW
  have o1 := Own.new x1 144 #[.int .i64 x, .int .i64 y]
  have hW1 := hW.below ((Below.refl x1.heap.size x1).alloc (Nat.le_refl _) (.cells #[.int .i64 x, .int .i64 y] 144))
  have b1 := bb.alloc (by omega) (.cells #[.int .i64 x, .int .i64 y] 144)
  have hne : x1.heap.size ≠ b := by omega
  have hno : w1.ownBlock ≠ some x1.heap.size := fun e => by have := g3 _ e; omega
  clear h hW bb lo u0
  go_upto_region 3 with (fail)
  generalize x1.alloc (.cells #[.int .i64 x, .int .i64 y] 144) = x2 at *
  generalize x1.heap.size = g at *
  go_wp2_with fail
  refine (put1_any base b _ w1 6 x2 hW1 (by omega) (by simp; omega)).mono ?_
  rintro r x3 ⟨rfl, w3, hW3, bb, lo⟩
  have hno3 := lone_far lo hno o1.lt
  have o3 := lone_own lo o1 hne hno
  have b3 := b1.trans bb
  have c0 : x3.cell? ⟨g, 0, none⟩ = some (.int .i64 x) := o3.cell 0
  clear hW1 b1 o1 hno bb lo
  go_wp2_with fail
  refine (put5_any base b _ w3 x x3 hW3 hx1 (by simp; omega)).mono ?_
  rintro r x4 ⟨rfl, w4, hW4, bb, lo⟩
  have hno4 := lone_far lo hno3 o3.lt
  have o4 := lone_own lo o3 hne hno3
  have b4 := b3.trans bb
  have c1 : x4.cell? ⟨g, 1, none⟩ = some (.int .i64 y) := o4.cell 1
  clear hW3 b3 o3 hno3 bb lo c0
  go_wp2_with fail
  refine (put1_any base b _ w4 y x4 hW4 (by omega) (by simp [bytesK_len]; omega)).mono ?_
  rintro r x5 ⟨rfl, w5, hW5, bb, lo⟩
  have b5 := b4.trans bb
  clear hW4 b4 bb lo c1
  have hs5 : base ≤ x5.heap.size := by have := Wb.far hW5; omega
  go_wp2_with fail
  refine bodyPost_end (results_none rfl _ _ _) rfl ?_
  refine ⟨rfl, w5, ?_, ?_⟩
  · have e : out = l ++ [1] ++ [6] ++ bytesK x.toNat 5 ++ [y] := by rw [← HO.out]; simp
    rw [e]
    exact hW5.below (((((Below.refl x5.heap.size x5).alloc (Nat.le_refl _) (.cells #[.int .i64 0] 146)).alloc (by simp) (.cells #[.slice none 0 0] 148))).alloc (by simp; try omega) (.cells #[.slice none 0 0] 149))
  · exact ((b5.alloc hs5 (.cells #[.int .i64 0] 146)).alloc (by simp; omega) (.cells #[.slice none 0 0] 148)).alloc (by simp; omega) (.cells #[.slice none 0 0] 149)
set_option maxHeartbeats 4000000 in
theorem iput2 (base b : Nat) (l : List Int) (v : Value) (x : Int) (w : World) (h : Wb w base b l v) (hl : l.length ≤ 1000) :
    Calls Try.prog 67 #[.pointer (some ⟨b, 0, none⟩), .int .i64 2, v2 x] w fun r w' => r = .returned (.tuple #[]) ∧ ∃ v', Wb w' base b (l ++ ([2] ++ [2] ++ bytesK (u64 x) 2)) v' ∧ Below base w w' := by
  obtain ⟨out, hout⟩ : ∃ out, l ++ ([2] ++ [2] ++ bytesK (u64 x) 2) = out := ⟨_, rfl⟩
  rw [hout]
  have HO := Lib.hid hout
  clear hout
  have q11 := t21
  have q12 := t22
  have q13 := t23
  have q14 := t24
  unfold v2
  obtain ⟨f1, f2, f3⟩ := Wb.far h
  have u0 : IntKind.u64.wrap 2 = 2 := by decide
  have u1 := u64_eq x
  go_enter Try.func67, Try.ntmps67
  go_wp2_with fail
  refine (put1_any base b l v 2 w h (by omega) (by omega)).mono ?_
  rintro r x1 ⟨rfl, w1, hW, bb, lo⟩
  obtain ⟨g1, g2, g3⟩ := Wb.far hW
  have e1 : (x1.alloc (.cells #[.int .i64 0, .int .i64 0] 144)).heap.size = x1.heap.size + 1 := by simp
  have o1 := Own.new (x1.alloc (.cells #[.int .i64 0, .int .i64 0] 144)) 146 #[.int .i64 x]
  rw [e1] at o1
  have hW1 := hW.below (((Below.refl x1.heap.size x1).alloc (Nat.le_refl _) (.cells #[.int .i64 0, .int .i64 0] 144)).alloc (by simp) (.cells #[.int .i64 x] 146))
  have b1 := (bb.alloc (by omega) (.cells #[.int .i64 0, .int .i64 0] 144)).alloc (by simp; omega) (.cells #[.int .i64 x] 146)
  have hne : x1.heap.size + 1 ≠ b := by omega
  have hno : w1.ownBlock ≠ some (x1.heap.size + 1) := fun e => by have := g3 _ e; omega
  clear h hW bb lo u0 e1
  go_upto_region 8 with (fail)
  generalize (x1.alloc (.cells #[.int .i64 0, .int .i64 0] 144)).alloc (.cells #[.int .i64 x] 146) = x2 at *
  generalize x1.heap.size = g at *
  go_wp2_with fail
  refine (put1_any base b _ w1 2 x2 hW1 (by omega) (by simp; omega)).mono ?_
  rintro r x3 ⟨rfl, w3, hW3, bb, lo⟩
  have hno3 := lone_far lo hno o1.lt
  have o3 := lone_own lo o1 hne hno
  have b3 := b1.trans bb
  have c0 : x3.cell? ⟨g + 1, 0, none⟩ = some (.int .i64 x) := o3.cell 0
  clear hW1 b1 o1 hno bb lo
  go_wp2_with fail
  refine (put2_any base b _ w3 x x3 hW3 (by simp; omega)).mono ?_
  rintro r x5 ⟨rfl, w5, hW5, bb, lo⟩
  have b5 := b3.trans bb
  clear hW3 b3 bb lo c0
  have hs5 : base ≤ x5.heap.size := by have := Wb.far hW5; omega
  go_wp2_with fail
  refine bodyPost_end (results_none rfl _ _ _) rfl ?_
  refine ⟨rfl, w5, ?_, ?_⟩
  · have e : out = l ++ [2] ++ [2] ++ bytesK (u64 x) 2 := by rw [← HO.out]; simp
    rw [e]
    exact hW5.below (((Below.refl x5.heap.size x5).alloc (Nat.le_refl _) (.cells #[.slice none 0 0] 148)).alloc (by simp) (.cells #[.slice none 0 0] 149))
  · exact (b5.alloc hs5 (.cells #[.slice none 0 0] 148)).alloc (by simp; omega) (.cells #[.slice none 0 0] 149)
set_option maxHeartbeats 4000000 in
theorem iput3 (base b : Nat) (l m : List Int) (v : Value) (a : Option Addr) (c : Nat) (w : World) (h : Wb w base b l v) (hl : l.length ≤ 900) (hm : listB m = true) (hR : ∀ w', Below base w w' → Row w' a m.length (zval m)) :
    Calls Try.prog 67 #[.pointer (some ⟨b, 0, none⟩), .int .i64 3, v3 (.slice a m.length c)] w fun r w' => r = .returned (.tuple #[]) ∧ ∃ v', Wb w' base b (l ++ ([3] ++ [(m.length : Int)] ++ m)) v' ∧ Below base w w' := by
  obtain ⟨out, hout⟩ : ∃ out, l ++ ([3] ++ [(m.length : Int)] ++ m) = out := ⟨_, rfl⟩
  rw [hout]
  have HO := Lib.hid hout
  clear hout
  have q10 := t31
  have q11 := t32
  have q12 := t33
  have q13 := t34
  unfold v3
  obtain ⟨f1, f2, f3⟩ := Wb.far h
  have u0 : IntKind.u64.wrap 3 = 3 := by decide
  have HR := Lib.hid hR
  obtain ⟨n, hn⟩ : ∃ n, m.length = n := ⟨_, rfl⟩
  have HN := Lib.hid hn
  rw [hn]
  clear hn hR
  go_enter Try.func67, Try.ntmps67
  go_wp2_with fail
  refine (put1_any base b l v 3 w h (by omega) (by omega)).mono ?_
  rintro r x1 ⟨rfl, w1, hW, bb, lo⟩
  obtain ⟨g1, g2, g3⟩ := Wb.far hW
  have e1 : ((x1.alloc (.cells #[.int .i64 0, .int .i64 0] 144)).alloc (.cells #[.int .i64 0] 146)).heap.size = x1.heap.size + 2 := by simp
  have o1 := Own.new ((x1.alloc (.cells #[.int .i64 0, .int .i64 0] 144)).alloc (.cells #[.int .i64 0] 146)) 148 #[.slice a n c]
  rw [e1] at o1
  have hW1 := hW.below ((((Below.refl x1.heap.size x1).alloc (Nat.le_refl _) (.cells #[.int .i64 0, .int .i64 0] 144)).alloc (by simp; try omega) (.cells #[.int .i64 0] 146)).alloc (by simp; try omega) (.cells #[.slice a n c] 148))
  have b1 := (((bb.alloc (by omega) (.cells #[.int .i64 0, .int .i64 0] 144)).alloc (by simp; try omega) (.cells #[.int .i64 0] 146)).alloc (by simp; try omega) (.cells #[.slice a n c] 148))
  clear h hW bb lo u0 e1
  go_upto_region 12 with (fail)
  generalize ((x1.alloc (.cells #[.int .i64 0, .int .i64 0] 144)).alloc (.cells #[.int .i64 0] 146)).alloc (.cells #[.slice a n c] 148) = x2 at *
  generalize x1.heap.size = g at *
  have c0 : x2.cell? ⟨g + 2, 0, none⟩ = some (.slice a n c) := o1.cell 0
  go_wp2_with fail
  rw [← HN.out]
  refine (putl_any base b _ m w1 a c x2 hW1 (by simp; omega) hm (fun w' hb => HR.out w' (b1.trans hb))).mono ?_
  rintro r x5 ⟨rfl, w5, hW5, bb⟩
  have b5 := b1.trans bb
  clear hW1 b1 o1 bb c0
  have hs5 : base ≤ x5.heap.size := by have := Wb.far hW5; omega
  go_wp2_with fail
  refine bodyPost_end (results_none rfl _ _ _) rfl ?_
  refine ⟨rfl, w5, ?_, ?_⟩
  · have e : out = l ++ [3] ++ [(m.length : Int)] ++ m := by rw [← HO.out]; simp
    rw [e]
    exact hW5.below ((Below.refl x5.heap.size x5).alloc (Nat.le_refl _) (.cells #[.slice none 0 0] 149))
  · exact b5.alloc hs5 (.cells #[.slice none 0 0] 149)
set_option maxHeartbeats 4000000 in
theorem iput4 (base b : Nat) (l m : List Int) (v : Value) (a : Option Addr) (c : Nat) (w : World) (h : Wb w base b l v) (hl : l.length ≤ 900) (hm : listB m = true) (hR : ∀ w', Below base w w' → Row w' a m.length (zval m)) :
    Calls Try.prog 67 #[.pointer (some ⟨b, 0, none⟩), .int .i64 4, v4 (.slice a m.length c)] w fun r w' => r = .returned (.tuple #[]) ∧ ∃ v', Wb w' base b (l ++ ([4] ++ [(m.length : Int)] ++ m)) v' ∧ Below base w w' := by
  obtain ⟨out, hout⟩ : ∃ out, l ++ ([4] ++ [(m.length : Int)] ++ m) = out := ⟨_, rfl⟩
  rw [hout]
  have HO := Lib.hid hout
  clear hout
  have q10 := t41
  have q11 := t42
  have q12 := t43
  have q13 := t44
  unfold v4
  obtain ⟨f1, f2, f3⟩ := Wb.far h
  have u0 : IntKind.u64.wrap 4 = 4 := by decide
  have HR := Lib.hid hR
  obtain ⟨n, hn⟩ : ∃ n, m.length = n := ⟨_, rfl⟩
  have HN := Lib.hid hn
  rw [hn]
  clear hn hR
  go_enter Try.func67, Try.ntmps67
  go_wp2_with fail
  refine (put1_any base b l v 4 w h (by omega) (by omega)).mono ?_
  rintro r x1 ⟨rfl, w1, hW, bb, lo⟩
  obtain ⟨g1, g2, g3⟩ := Wb.far hW
  have e1 : (((x1.alloc (.cells #[.int .i64 0, .int .i64 0] 144)).alloc (.cells #[.int .i64 0] 146)).alloc (.cells #[.slice none 0 0] 148)).heap.size = x1.heap.size + 3 := by simp
  have o1 := Own.new (((x1.alloc (.cells #[.int .i64 0, .int .i64 0] 144)).alloc (.cells #[.int .i64 0] 146)).alloc (.cells #[.slice none 0 0] 148)) 149 #[.slice a n c]
  rw [e1] at o1
  have hW1 := hW.below (((((Below.refl x1.heap.size x1).alloc (Nat.le_refl _) (.cells #[.int .i64 0, .int .i64 0] 144)).alloc (by simp; try omega) (.cells #[.int .i64 0] 146)).alloc (by simp; try omega) (.cells #[.slice none 0 0] 148)).alloc (by simp; try omega) (.cells #[.slice a n c] 149))
  have b1 := ((((bb.alloc (by omega) (.cells #[.int .i64 0, .int .i64 0] 144)).alloc (by simp; try omega) (.cells #[.int .i64 0] 146)).alloc (by simp; try omega) (.cells #[.slice none 0 0] 148)).alloc (by simp; try omega) (.cells #[.slice a n c] 149))
  clear h hW bb lo u0 e1
  go_upto_region 15 with (fail)
  generalize (((x1.alloc (.cells #[.int .i64 0, .int .i64 0] 144)).alloc (.cells #[.int .i64 0] 146)).alloc (.cells #[.slice none 0 0] 148)).alloc (.cells #[.slice a n c] 149) = x2 at *
  generalize x1.heap.size = g at *
  have c0 : x2.cell? ⟨g + 3, 0, none⟩ = some (.slice a n c) := o1.cell 0
  go_wp2_with fail
  rw [← HN.out]
  refine (putl_any base b _ m w1 a c x2 hW1 (by simp; omega) hm (fun w' hb => HR.out w' (b1.trans hb))).mono ?_
  rintro r x5 ⟨rfl, w5, hW5, bb⟩
  have b5 := b1.trans bb
  clear hW1 b1 o1 bb c0
  have hs5 : base ≤ x5.heap.size := by have := Wb.far hW5; omega
  go_wp2_with fail
  refine bodyPost_end (results_none rfl _ _ _) rfl ?_
  refine ⟨rfl, w5, ?_, ?_⟩
  · have e : out = l ++ [4] ++ [(m.length : Int)] ++ m := by rw [← HO.out]; simp
    rw [e]
    exact hW5
  · exact b5
theorem iput_any (e : El) (base b : Nat) (l : List Int) (v : Value) (a : Option Addr) (c : Nat) (w : World) (h : Wb w base b l v) (hl : l.length ≤ 900) (hm : mayE e = true) (hR : ∀ w', Below base w w' → Row w' a e.list.length (zval e.list)) :
    Calls Try.prog 67 #[.pointer (some ⟨b, 0, none⟩), .int .i64 e.k, fromV e a c] w fun r w' => r = .returned (.tuple #[]) ∧ ∃ v', Wb w' base b (l ++ encOne e) v' ∧ Below base w w' := by
  have hf := (mayE_out hm).1
  have hk := mayE_kind hm
  obtain ⟨k, asn, rank, t, m⟩ := e
  unfold fitB at hf
  simp only at hf hk hR
  rcases hk with rfl | rfl | rfl | rfl
  · exact iput1 base b l v asn rank w h (by omega) hf
  · exact iput2 base b l v t w h (by omega)
  · exact iput3 base b l m v a c w h hl hf hR
  · exact iput4 base b l m v a c w h hl hf hR
end Go.Proofs.Ytiflmdekcjbmbaa.Ie
set_option maxRecDepth 100000
namespace Go.Proofs.Ytiflmdekcjbmbaa.Ie
set_option linter.unusedVariables false
set_option linter.unusedSimpArgs false
open Go.RowKit Lb Go.Shelf Bf

/-- An element with where its list lies. -/
structure EP where
  e : El
  a : Option Addr
  c : Nat
def EP.vals (x : EP) : Array Value := x.e.vals x.a x.c
def ep0 : EP := ⟨⟨0, 0, 0, 0, []⟩, none, 0⟩
def ev (L : List EP) (q : Nat) : Value := ((L.getD (q / 5) ep0).vals[q % 5]?).getD undef
theorem ev0 (L : List EP) (k : Nat) : ev L (k * 5) = .int .i64 (L.getD k ep0).e.k := by
  unfold ev; rw [show k * 5 / 5 = k by omega, show k * 5 % 5 = 0 by omega]; rfl
theorem ev1 (L : List EP) (k : Nat) : ev L (k * 5 + 1) = .int .i64 (L.getD k ep0).e.asn := by
  unfold ev; rw [show (k * 5 + 1) / 5 = k by omega, show (k * 5 + 1) % 5 = 1 by omega]; rfl
theorem ev2 (L : List EP) (k : Nat) : ev L (k * 5 + 2) = .int .i64 (L.getD k ep0).e.rank := by
  unfold ev; rw [show (k * 5 + 2) / 5 = k by omega, show (k * 5 + 2) % 5 = 2 by omega]; rfl
theorem ev3 (L : List EP) (k : Nat) : ev L (k * 5 + 3) = .int .i64 (L.getD k ep0).e.ticks := by
  unfold ev; rw [show (k * 5 + 3) / 5 = k by omega, show (k * 5 + 3) % 5 = 3 by omega]; rfl
theorem ev4 (L : List EP) (k : Nat) : ev L (k * 5 + 4) = .slice (L.getD k ep0).a (L.getD k ep0).e.list.length (L.getD k ep0).c := by
  unfold ev; rw [show (k * 5 + 4) / 5 = k by omega, show (k * 5 + 4) % 5 = 4 by omega]; rfl
/-- A row of elements, as it lies. -/
structure Els (w : World) (L : List EP) (a : Option Addr) (c : Nat) : Prop where
  lc : L.length ≤ c
  cm : c ≤ maxLen
  row : Row w a (L.length * 5) (ev L)
  els : ∀ k, k < L.length → (L.getD k ep0).e.At w (L.getD k ep0).a (L.getD k ep0).c
theorem Els.below {w w' : World} {L : List EP} {a : Option Addr} {c : Nat} (h : Els w L a c) (b : Below w.heap.size w w') : Els w' L a c :=
  ⟨h.lc, h.cm, h.row.below b, fun k hk => (h.els k hk).below b⟩
theorem erow {w w' : World} {L : List EP} {a : Option Addr} {n k : Nat} (h : Row w a (n * 5) (ev L)) (hb : Below w.heap.size w w') (hk : k < n) {x : EP} (hx : L.getD k ep0 = x) :
    ∃ b off, a = some ⟨b, off, none⟩ ∧ b < w.heap.size ∧ w'.cell? ⟨b, off + k * 5, none⟩ = some (.int .i64 x.e.k) ∧ w'.cell? ⟨b, off + k * 5 + 1, none⟩ = some (.int .i64 x.e.asn) ∧
      w'.cell? ⟨b, off + k * 5 + 2, none⟩ = some (.int .i64 x.e.rank) ∧ w'.cell? ⟨b, off + k * 5 + 3, none⟩ = some (.int .i64 x.e.ticks) ∧ w'.cell? ⟨b, off + k * 5 + 4, none⟩ = some (.slice x.a x.e.list.length x.c) := by
  subst hx
  obtain ⟨b, off, h1, h2, h3⟩ := h.at_struct hb hk (by decide)
  exact ⟨b, off, h1, h2, (h3 0 (by decide)).trans (congrArg some (ev0 L k)), (h3 1 (by decide)).trans (congrArg some (ev1 L k)), (h3 2 (by decide)).trans (congrArg some (ev2 L k)), (h3 3 (by decide)).trans (congrArg some (ev3 L k)), (h3 4 (by decide)).trans (congrArg some (ev4 L k))⟩
def bval (zs : List Int) (j : Nat) : Value := .int .u8 (zs.getD j 0)
def els (L : List EP) : List El := L.map (·.e)
theorem els_len (L : List EP) : (els L).length = L.length := by simp [els]
theorem els_at {L : List EP} {k : Nat} (hk : k < L.length) {x : EP} (hx : L.getD k ep0 = x) : (els L)[k]'(by rw [els_len]; exact hk) = x.e := by
  subst hx
  simp [els, List.getD_eq_getElem?_getD, List.getElem?_eq_getElem hk]
theorem mayL_no {l : List El} {k : Nat} (hk : k < l.length) (h : mayE l[k] = false) : mayL l = false := by
  unfold mayL
  rw [Bool.and_eq_false_iff]
  right
  rw [List.all_eq_false]
  exact ⟨l[k], List.getElem_mem hk, by rw [h]; simp⟩
theorem mayL_yes {l : List El} (h4 : l.length ≤ 4) (h : ∀ k, (hk : k < l.length) → mayE l[k] = true) : mayL l = true := by
  unfold mayL
  rw [decide_eq_true h4, Bool.true_and, List.all_eq_true]
  intro x hx
  obtain ⟨k, hk, rfl⟩ := List.getElem_of_mem hx
  exact h k hk
theorem encL_take_len {l : List El} (h : ∀ k, (hk : k < l.length) → mayE l[k] = true) : ∀ n, n ≤ l.length → (encL (l.take n)).length ≤ 18 * n := by
  intro n
  induction n with
  | zero => intro _; simp [encL]
  | succ n ih =>
    intro hn
    rw [encL_take (by omega), List.length_append]
    have := encOne_len (h n (by omega))
    have := ih (by omega)
    omega
def EncPost (l : List El) (w : World) (r : Ending) (w' : World) : Prop :=
  if mayL l = true then ∃ a c, r = .returned (.tuple #[.slice a (encI l).length c, .int .i64 0]) ∧ (encI l).length ≤ c ∧ c ≤ maxLen ∧ Row w' a (encI l).length (bval (encI l)) ∧ Below w.heap.size w w'
  else r = .returned (.tuple #[.slice none 0 0, .int .i64 1]) ∧ Below w.heap.size w w'
set_option maxHeartbeats 4000000 in
theorem encode_any (L : List EP) (a : Option Addr) (c : Nat) (w : World) (h : Els w L a c) :
    Calls Try.prog 47 #[.slice a L.length c] w (EncPost (els L) w) := by
  have hlc := h.lc
  have hcm := h.cm
  unfold maxLen at hcm
  have hrow := h.row
  have hels := Lib.hid h.els
  clear h
  obtain ⟨n, hn⟩ : ∃ n, L.length = n := ⟨_, rfl⟩
  have HN := Lib.hid hn
  rw [hn] at hlc hrow ⊢
  clear hn
  by_cases h4 : n ≤ 4
  · have g1 : decide ((4 : Int) < (n : Int)) = false := by simp; omega
    have g2 : decide (4 < n) = false := by simp; omega
    have u0 : IntKind.u64.wrap (n : Int) = (n : Int) := u64_id (by omega)
    have ho := Own.new w 112 #[.slice none 0 0, .int .i64 0]
    have b1 := (Below.refl w.heap.size w).alloc (Nat.le_refl _) (.cells #[.slice none 0 0, .int .i64 0] 112)
    have hW : Wb (w.alloc (.cells #[.slice none 0 0, .int .i64 0] 112)) w.heap.size w.heap.size [] (.slice none 0 0) :=
      ⟨fun _ => 0, fun _ => false, ⟨⟨ho, Mine.nil _ _ _ _, ⟨fun k hk => by simp at hk, fun k hk => by simp at hk⟩, Nat.le_refl _⟩, by simp, by simp⟩, fun k hk => by simp at hk⟩
    clear ho
    go_enter Try.func47, Try.ntmps47
    go_upto_region 4 with (fail)
    generalize w.alloc (.cells #[.slice none 0 0, .int .i64 0] 112) = w1 at *
    obtain ⟨g, hg⟩ : ∃ g, w.heap.size = g := ⟨_, rfl⟩
    have HG := Lib.hid hg
    rw [hg] at hW ⊢
    go_wp2_with fail
    refine (put1_any g g [] (.slice none 0 0) (n : Int) w1 hW (by omega) (by simp)).mono ?_
    rintro r x1 ⟨rfl, v1, hW1, bb, lo⟩
    rw [hg] at b1
    have b2 := b1.trans bb
    clear hW b1 bb lo u0 hg
    go_wp2_with fail
    go_loopw [18] (fun i wr => ∃ (k : Nat) (v : Value), i = .int .i64 k ∧ k ≤ n ∧ Wb wr g g ([(n : Int)] ++ encL ((els L).take k)) v ∧ Hid (∀ j, j < k → mayE (L.getD j ep0).e = true) ∧ Below g w wr) (fun i _ => n - (intOf i).toNat)
    case atStart => exact ⟨0, v1, rfl, by omega, hW1, Lib.hid (fun j hj => by omega), b2⟩
    case round =>
      clear hW1 b2
      obtain ⟨k, v, rfl, hk, hW, HE, b2⟩ := hrel
      have hbw : Below w.heap.size w wr := by rw [HG.out]; exact b2
      by_cases hlt : k < n
      · obtain ⟨x, hx⟩ : ∃ x, L.getD k ep0 = x := ⟨_, rfl⟩
        obtain ⟨pb, po, rfl, hpb, x0, x1, x2, x3, x4⟩ := erow hrow hbw hlt hx
        have hat := hels.out k (by rw [HN.out]; exact hlt)
        rw [hx] at hat
        have hl1 := els_at (k := k) (by rw [HN.out]; exact hlt) hx
        have HX := Lib.hid hx
        have hlen : ([(n : Int)] ++ encL ((els L).take k)).length ≤ 900 := by
          have : ∀ j, (hj : j < (els L).length) → j < k → mayE (els L)[j] = true := fun j hj hjk => by
            have e1 := els_at (L := L) (k := j) (by rw [els_len] at hj; exact hj) rfl
            rw [e1]
            exact HE.out j hjk
          have e2 : (encL ((els L).take k)).length ≤ 18 * k := by
            have h9 := encL_take_len (l := (els L).take k) (fun j hj => by
              rw [List.getElem_take]
              rw [List.length_take] at hj
              exact this j (by omega) (by omega)) k (by rw [List.length_take, els_len, HN.out]; omega)
            rwa [List.take_take, Nat.min_self] at h9
          simp only [List.length_append, List.length_cons, List.length_nil]
          omega
        have HL := Lib.hid hlen
        have HL1 := Lib.hid hl1
        clear hlen hl1 hx
        obtain ⟨⟨ek, easn, erank, et, el⟩, ea, ec⟩ := x
        simp only at x0 x1 x2 x3 x4 hat
        have hf := from_any ⟨ek, easn, erank, et, el⟩ ea ec (wr.alloc (.cells #[.int .i64 ek, .int .i64 easn, .int .i64 erank, .int .i64 et, .slice ea el.length ec] 49)) ((hat.below hbw).below ((Below.refl _ _).alloc (Nat.le_refl _) _))
        have o3 := Own.new wr 49 #[.int .i64 ek, .int .i64 easn, .int .i64 erank, .int .i64 et, .slice ea el.length ec]
        have hs3 : wr.heap.size < (wr.alloc (.cells #[.int .i64 ek, .int .i64 easn, .int .i64 erank, .int .i64 et, .slice ea el.length ec] 49)).heap.size := by simp
        have hgw : g ≤ wr.heap.size := by have := Wb.far hW; omega
        have b3 := b2.alloc hgw (.cells #[.int .i64 ek, .int .i64 easn, .int .i64 erank, .int .i64 et, .slice ea el.length ec] 49)
        have hW3 := hW.below ((Below.refl wr.heap.size wr).alloc (Nat.le_refl _) (.cells #[.int .i64 ek, .int .i64 easn, .int .i64 erank, .int .i64 et, .slice ea el.length ec] 49))
        obtain ⟨q, hq⟩ : ∃ q, mayE ⟨ek, easn, erank, et, el⟩ = q := ⟨_, rfl⟩
        rw [hq] at hf
        obtain ⟨u, hu⟩ : ∃ u, fromV ⟨ek, easn, erank, et, el⟩ ea ec = u := ⟨_, rfl⟩
        rw [hu] at hf
        unfold El.vals at hf
        simp only at hf
        have HF := Lib.hid hf
        have HU := Lib.hid hu
        clear hf hu hW b2 hbw
        go_upto_region 8 with (fail)
        generalize wr.alloc (.cells #[.int .i64 ek, .int .i64 easn, .int .i64 erank, .int .i64 et, .slice ea el.length ec] 49) = w3 at *
        generalize wr.heap.size = gg at *
        have c0 : w3.cell? ⟨gg, 0, none⟩ = some (.int .i64 ek) := o3.cell 0
        have c1 : w3.cell? ⟨gg, 1, none⟩ = some (.int .i64 easn) := o3.cell 1
        have c2 : w3.cell? ⟨gg, 2, none⟩ = some (.int .i64 erank) := o3.cell 2
        have c3 : w3.cell? ⟨gg, 3, none⟩ = some (.int .i64 et) := o3.cell 3
        have c4 : w3.cell? ⟨gg, 4, none⟩ = some (.slice ea el.length ec) := o3.cell 4
        cases q
        · have HD : Hid (mayL (els L) = false) := Lib.hid (mayL_no (k := k) (by rw [els_len, HN.out]; exact hlt) (by rw [HL1.out]; exact hq))
          clear hq
          go_wp2_with (refine HF.out.mono ?_; rintro r w' ⟨rfl, bf⟩)
          go_ret2
          unfold EncPost
          rw [HD.out]
          refine ⟨rfl, ?_⟩
          rw [HG.out]
          exact b3.trans (bf.mono (by omega))
        · have HQ := Lib.hid hq
          clear hq
          go_wp2_with fail
          refine HF.out.mono ?_
          rintro r w4 ⟨rfl, bf⟩
          have o4 := below_own bf o3 hs3
          have b4 := b3.trans (bf.mono (by omega))
          have hW4 := hW3.below bf
          clear c0 c1 c2 c3 c4 x0 x1 x2 x3 x4 hW3 b3 bf o3 hs3
          have c0 : w4.cell? ⟨gg, 0, none⟩ = some (.int .i64 ek) := o4.cell 0
          go_wp2_with fail
          rw [← HU.out]
          refine (iput_any ⟨ek, easn, erank, et, el⟩ g g _ v ea ec w4 hW4 HL.out HQ.out (fun w' hb => hat.row.below (by rw [HG.out]; exact b4.trans hb))).mono ?_
          rintro r w5 ⟨rfl, v5, hW5, b5⟩
          have b6 := b4.trans b5
          clear c0 b5 b4 hW4 o4
          go_wp2_with fail
          refine ⟨⟨k + 1, v5, by simp, by omega, ?_, Lib.hid (fun j hj => ?_), b6⟩, by simp [intOf]; omega⟩
          · rw [encL_take (by rw [els_len, HN.out]; exact hlt), HL1.out, ← List.append_assoc]
            exact hW5
          · by_cases e : j = k
            · subst e; rw [HX.out]; exact HQ.out
            · exact HE.out j (by omega)
      · obtain rfl : n = k := by omega
        have hall : ∀ j, (hj : j < (els L).length) → mayE (els L)[j] = true := fun j hj => by
          have e1 := els_at (L := L) (k := j) (by rw [els_len] at hj; exact hj) rfl
          rw [e1]
          exact HE.out j (by rw [els_len, HN.out] at hj; exact hj)
        have HD : Hid (mayL (els L) = true) := Lib.hid (mayL_yes (by rw [els_len, HN.out]; exact h4) hall)
        have e1 : (els L).take n = els L := List.take_of_length_le (by rw [els_len, HN.out]; exact Nat.le_refl _)
        have hll := encL_take_len hall n (by rw [els_len, HN.out]; exact Nat.le_refl _)
        rw [e1] at hW hll
        have hI : [(n : Int)] ++ encL (els L) = encI (els L) := by unfold encI; rw [els_len, HN.out]
        rw [hI] at hW
        have hIl : (encI (els L)).length ≤ 73 := by rw [← hI]; simp only [List.length_append, List.length_cons, List.length_nil]; omega
        have HIL := Lib.hid hIl
        obtain ⟨Z, B, hw1, hw2⟩ := hW
        have hZ := Lib.hid hw2
        clear hw2 hIl hI hll e1 hall
        go_wp2_with fail
        refine (bytes_any g g _ _ Z B v wr hw1 (by have := HIL.out; omega)).mono ?_
        rintro r w8 ⟨a8, c8, rfl, hc8, hd8, hR8, b8⟩
        go_wp2_with fail
        go_ret2
        unfold EncPost
        rw [HD.out, if_pos rfl]
        have hgw : w.heap.size ≤ wr.heap.size := by rw [HG.out]; have := hw1.own.lt; omega
        exact ⟨a8, c8, rfl, hc8, hd8, row_ext hR8 (fun i hi => by unfold bval; rw [← hZ.out i hi]), hbw.trans (b8.mono hgw)⟩
  · have g1 : decide ((4 : Int) < (n : Int)) = true := by simp; omega
    have g2 : decide (4 < n) = true := by simp; omega
    have HD : Hid (mayL (els L) = false) := Lib.hid (by
      unfold mayL
      rw [els_len, HN.out, decide_eq_false h4]
      rfl)
    clear h4
    go_enter Try.func47, Try.ntmps47
    go_wp2_with fail
    go_ret2
    unfold EncPost
    rw [HD.out]
    exact ⟨rfl, Below.refl _ _⟩
end Go.Proofs.Ytiflmdekcjbmbaa.Ie
set_option maxRecDepth 100000
namespace Go.Proofs.Ytiflmdekcjbmbaa.Ie
set_option linter.unusedVariables false
set_option linter.unusedSimpArgs false
open Go.RowKit Lb Go.Shelf Bf

theorem Mine.low {w : World} {base base' : Nat} {e : TypeId} {v : Value} {n : Nat} {V : Nat → Value} (h : Mine w base e v n V) (hb : base' ≤ base) : Mine w base' e v n V := by
  obtain ⟨h1, h2⟩ := h
  refine ⟨h1, ?_⟩
  rcases h2 with h2 | ⟨g, cap, cur, hv, hg, r⟩
  · exact .inl h2
  · exact .inr ⟨g, cap, cur, hv, Nat.le_trans hb hg, r⟩
/-- What stands behind the kind and the size. -/
def xsOf (e : El) : List Int := if e.k = 1 then bytesK e.asn.toNat 5 ++ [e.rank] else if e.k = 2 then bytesK (u64 e.ticks) 2 else e.list
theorem enc_xs (e : El) : encOne e = [e.k] ++ [((xsOf e).length : Int)] ++ xsOf e := by
  unfold encOne xsOf
  by_cases k1 : e.k = 1
  · rw [if_pos k1, if_pos k1, k1]; simp [bytesK_len]
  · by_cases k2 : e.k = 2
    · rw [if_neg k1, if_pos k2, if_neg k1, if_pos k2, k2]; simp [bytesK_len]
    · rw [if_neg k1, if_neg k2, if_neg k1, if_neg k2]
theorem xs_len {e : El} (h : mayE e = true) : (xsOf e).length ≤ 16 := by
  have := encOne_len h
  rw [enc_xs] at this
  simp at this
  omega
theorem octet_bytes (N k i : Nat) (h : i < k) : octet (N : Int) k i = (bytesK N k).getD i 0 := by
  rw [bytesK_at _ _ _ h, Nat.shiftRight_eq_div_pow]
  unfold octet
  push_cast
  rfl
theorem bval_app (l m : List Int) (q : Nat) : (if q < l.length then bval l q else bval m (q - l.length)) = bval (l ++ m) q := by
  unfold bval
  by_cases h : q < l.length
  · rw [if_pos h, List.getD_eq_getElem?_getD, List.getD_eq_getElem?_getD, List.getElem?_append_left h]
  · rw [if_neg h, List.getD_eq_getElem?_getD, List.getD_eq_getElem?_getD, List.getElem?_append_right (by omega)]
theorem u8_id {x : Int} (h : 0 ≤ x ∧ x < 256) : IntKind.u8.wrap x = x := by
  simp only [IntKind.wrap, IntKind.signed, IntKind.bits]
  simp
  omega
theorem at_app {P : Program} {w : World} {ops : Array Oper} {a : Act} {K : Act → World → Prop} {Q : Exit → Act → World → Prop} {E : Prop} {s x : Operand} {t t' : TypeId} {d ty pos af g}
    (h : if Region.wanted (Oper.mk d (.call { callee := .builtin .append, args := #[s, x], argTypes := #[t, t'] }) ty pos af g) (yielded ops a.tmps) = true then Oper.wp P (Oper.mk d (.call { callee := .builtin .append, args := #[s, x], argTypes := #[t, t'] }) ty pos af g) a w K Q else E) :
    if Region.wanted (Oper.mk d (.call { callee := .builtin .append, args := #[s, x], argTypes := #[t, t'] }) ty pos af g) (yielded ops a.tmps) = true then Oper.wp P (Oper.mk d (.call { callee := .builtin .append, args := #[s, x], argTypes := #[t, t'] }) ty pos af g) a w K Q else E := h
theorem mine_snoc {w : World} {base n : Nat} {v : Value} {l X : List Int} {x : Int} (hX : X = l ++ [x]) (hl : l.length = n) (h : Mine w base 5 v (n + 1) (fun i => if i < n then bval l i else bval [x] (i - n))) : Mine w base 5 v X.length (bval X) := by
  subst hX
  subst hl
  rw [List.length_append]
  exact h.ext (fun i _ => bval_app l [x] i)
theorem Mine.lo {w : World} {base : Nat} {e : TypeId} {v : Value} {n : Nat} {V : Nat → Value} (h : Mine w base e v n V) : ∀ q, v.ownBlock = some q → base ≤ q := fun q hq => (h.lt q hq).1
end Go.Proofs.Ytiflmdekcjbmbaa.Ie
set_option maxRecDepth 100000
namespace Go.Proofs.Ytiflmdekcjbmbaa.Ie
set_option linter.unusedVariables false
set_option linter.unusedSimpArgs false
open Go.RowKit Lb Bf

/-- The number that bytes are, the highest first. -/
def numB (l : List Int) : Int := l.foldl (fun x c => x * 256 + c) 0
theorem numB_snoc (l : List Int) (c : Int) : numB (l ++ [c]) = numB l * 256 + c := by
  unfold numB
  rw [List.foldl_append]
  rfl
theorem bytesK_snoc (x k : Nat) : bytesK x (k + 1) = bytesK (x / 256) k ++ [((x % 256 : Nat) : Int)] := by
  apply List.ext_getElem
  · simp [bytesK_len]
  · intro i h1 h2
    rw [bytesK_len] at h1
    have e1 := bytesK_at x (k + 1) i h1
    rw [List.getD_eq_getElem?_getD, List.getElem?_eq_getElem (by rw [bytesK_len]; exact h1)] at e1
    simp only [Option.getD_some] at e1
    rw [e1]
    by_cases h : i < k
    · have e2 := bytesK_at (x / 256) k i h
      rw [List.getD_eq_getElem?_getD, List.getElem?_eq_getElem (by rw [bytesK_len]; exact h)] at e2
      simp only [Option.getD_some] at e2
      rw [List.getElem_append_left (by rw [bytesK_len]; exact h), e2, Nat.shiftRight_eq_div_pow, Nat.shiftRight_eq_div_pow, Nat.div_div_eq_div_mul]
      congr 3
      rw [show 8 * (k + 1 - 1 - i) = 8 + 8 * (k - 1 - i) by omega, Nat.pow_add]
    · obtain rfl : i = k := by omega
      rw [List.getElem_append_right (by rw [bytesK_len]; omega)]
      simp [bytesK_len]
theorem numB_bytes : ∀ (k x : Nat), x < 256 ^ k → numB (bytesK x k) = (x : Int) := by
  intro k
  induction k with
  | zero => intro x hx; have : x = 0 := (by simpa using hx); subst this; rfl
  | succ k ih =>
    intro x hx
    rw [bytesK_snoc, numB_snoc, ih (x / 256) (by rw [Nat.div_lt_iff_lt_mul (by decide)]; rwa [Nat.pow_succ] at hx)]
    omega
theorem numB_of {x k : Nat} {l : List Int} (hx : x < 256 ^ k) (h : bytesK x k = l) : numB l = (x : Int) := by rw [← h]; exact numB_bytes k x hx
def okD' (l : List Int) : Prop := ∀ x, x ∈ l → 0 ≤ x ∧ x < 256
theorem numB_bd : ∀ (k : Nat) (l : List Int), l.length = k → okD' l → 0 ≤ numB l ∧ numB l < 256 ^ k := by
  intro k
  induction k with
  | zero => intro l hl _; have : l = [] := List.length_eq_zero_iff.1 hl; subst this; exact ⟨(by decide), (by decide)⟩
  | succ k ih =>
    intro l hl hd
    rcases List.eq_nil_or_concat l with rfl | ⟨m, c, rfl⟩
    · simp at hl
    · rw [List.concat_eq_append] at *
      have h1 := ih m (by simp at hl; omega) (fun x hx => hd x (List.mem_append_left _ hx))
      have h2 := hd c (List.mem_append_right _ (by simp))
      rw [numB_snoc, Int.pow_succ]
      omega
/-- An element out of what stands behind its kind and its size. -/
def elOf (k : Int) (xs : List Int) : El :=
  if k = 1 then ⟨1, numB (xs.take 5), xs.getD 5 0, 0, []⟩
  else if k = 2 then ⟨2, 0, 0, IntKind.i16.wrap (numB xs), []⟩
  else ⟨k, 0, 0, 0, xs⟩
def sizeB (k s : Int) : Bool := if k = 1 then s == 6 else if k = 2 then s == 2 else decide (s ≤ 16)
def dec1 (L : List Int) : Except Int (El × List Int) :=
  match L with
  | [] => .error 2
  | k :: L1 =>
    if k < 1 ∨ 4 < k then .error 3
    else match L1 with
      | [] => .error 2
      | s :: L2 => if sizeB k s = false then .error 3 else if L2.length < s.toNat then .error 2 else .ok (elOf k (L2.take s.toNat), L2.drop s.toNat)
def decN : Nat → List Int → Except Int (List El × List Int)
  | 0, L => .ok ([], L)
  | n + 1, L => match dec1 L with
    | .error e => .error e
    | .ok (x, R) => match decN n R with
      | .error e => .error e
      | .ok (l, Q) => .ok (x :: l, Q)
def decI (L : List Int) : Except Int (List El) :=
  match L with
  | [] => .error 2
  | n :: L1 => if 4 < n then .error 3 else match decN n.toNat L1 with
    | .error e => .error e
    | .ok (l, R) => if R = [] then .ok l else .error 3
/-- What has been decoded goes on. -/
theorem decN_snoc : ∀ (n : Nat) (L : List Int), decN (n + 1) L = match decN n L with
    | .error e => .error e
    | .ok (l, R) => match dec1 R with
      | .error e => .error e
      | .ok (x, Q) => .ok (l ++ [x], Q) := by
  intro n
  induction n with
  | zero =>
    intro L
    simp only [decN]
    cases h : dec1 L with
    | error e => rfl
    | ok p => obtain ⟨x, R⟩ := p; rfl
  | succ n ih =>
    intro L
    rw [decN]
    cases h : dec1 L with
    | error e =>
      simp only
      rw [decN, h]
    | ok p =>
      obtain ⟨x, R⟩ := p
      simp only
      rw [ih R]
      conv => rhs; rw [decN, h]
      simp only
      cases h2 : decN n R with
      | error e => rfl
      | ok p =>
        obtain ⟨l, Q⟩ := p
        simp only
        cases h3 : dec1 Q with
        | error e => rfl
        | ok p => obtain ⟨y, S⟩ := p; rfl
theorem decN_err {n m : Nat} {L : List Int} {e : Int} (h : decN n L = .error e) (hm : n ≤ m) : decN m L = .error e := by
  induction m with
  | zero => obtain rfl : n = 0 := by omega
            exact h
  | succ m ih =>
    by_cases hn : n = m + 1
    · subst hn; exact h
    · rw [decN_snoc, ih (by omega)]
end Go.Proofs.Ytiflmdekcjbmbaa.Ie
set_option maxRecDepth 100000
namespace Go.Proofs.Ytiflmdekcjbmbaa.Ie
set_option linter.unusedVariables false
set_option linter.unusedSimpArgs false
open Go.RowKit Lb Go.Shelf Bf

theorem Just.of_drew {b m : Nat} {w w' : World} (h : Just b (w.drewN m) w') : Just b w w' := ⟨h.os, h.tape, h.output, h.size, h.block⟩
theorem Just.far {b g : Nat} {w w' : World} (h : Just b w w') (hg : w.heap.size ≤ g) (i : Nat) (u : Value) : Just b w (w'.setCell ⟨g, i, none⟩ u) :=
  ⟨h.os, h.tape, h.output, by simpa [World.setCell] using h.size, fun k hk hb => (Below.heap_setCell w' _ u k (by show k ≠ g; omega)).trans (h.block k hk hb)⟩
theorem infoI : (Try.prog.info? 3).map (fun i => (i.zero, i.size, i.bytes)) = some (some (.int .i64 0), 1, 8) := by kernel_rfl
theorem tk_tk (l : List Int) : (l.take 6).take 5 = l.take 5 := by rw [List.take_take]; rfl
theorem tk_get {l : List Int} {s i : Nat} (h : i < s) : (l.take s).getD i 0 = l.getD i 0 := by
  rw [List.getD_eq_getElem?_getD, List.getD_eq_getElem?_getD, List.getElem?_take_of_lt h]
end Go.Proofs.Ytiflmdekcjbmbaa.Ie
set_option maxRecDepth 100000
namespace Go.Proofs
set_option linter.unusedVariables false
set_option linter.unusedSimpArgs false
open Go.Shelf
def Try.laysClone_ren : Go.Shelf.Ren := ⟨fun | 15 => 15 | n => n, fun | 22 => 26 | 3 => 3 | 4 => 4 | n => n, fun | n => n⟩
theorem Try.laysClone : Go.Proofs.Lays2.n15 Try.prog Try.laysClone_ren := {
  mixed := by kernel_rfl
  f15 := Try.func15.trans (congrArg some (by kernel_rfl))
  t3 := Try.underlying3
  a3 := Try.isAgg3
  z3 := Try.sizeOf3
  v3 := Try.zeroValue3
  t4 := Try.underlying4
  a4 := Try.isAgg4
  z4 := Try.sizeOf4
  v4 := Try.zeroValue4
  t22 := Try.underlying26
  a22 := Try.isAgg26
  z22 := Try.sizeOf26
  v22 := Try.zeroValue26
  i3 := by kernel_rfl }
end Go.Proofs
namespace Go.Proofs.Ytiflmdekcjbmbaa.Ie
set_option linter.unusedVariables false
set_option linter.unusedSimpArgs false
open Go.RowKit Lb Go.Shelf Go.Sort

theorem zlist (zs : List Int) : (List.range zs.length).map (zval zs) = zs.map (Value.int .i64) := by
  apply List.ext_getElem
  · simp
  · intro i h1 h2
    simp at h1
    simp [zval, List.getD, h1]
theorem mine_z {w : World} {base : Nat} {v : Value} {zs : List Int} (h : w.ownsRow base 3 1 v zs.length (zs.map (Value.int .i64))) : Mine w base 3 v zs.length (zval zs) := by
  unfold Mine
  rw [zlist]
  exact h
/-- A copy: the same numbers, in a new block or none; nil of nil. -/
theorem cloneI_any (a : Option Addr) (c : Nat) (l : List Int) (w : World) (hc : l.length ≤ 1000000) (hR : Row w a l.length (zval l)) (ha : a = none → l.length = 0) :
    Calls Try.prog 15 #[.slice a l.length c] w fun r w' => ∃ v, r = .returned v ∧ Mine w' w.heap.size 3 v l.length (zval l) ∧ Below w.heap.size w w' := by
  cases a with
  | none =>
    refine (Any.slices_Clone_int_nil Try.laysClone l.length c w).mono ?_
    rintro r w' ⟨rfl, rfl⟩
    have h0 := ha rfl
    refine ⟨.slice none 0 0, rfl, ?_, Below.refl _ _⟩
    rw [h0]
    exact Mine.nil _ _ _ _
  | some p =>
    by_cases h0 : l.length = 0
    · rw [h0]
      refine (Any.slices_Clone_int_zero Try.laysClone p c w).mono ?_
      rintro r w' ⟨v, rfl, hown, hne, hb⟩
      exact ⟨v, rfl, hown, hb⟩
    · obtain ⟨b, off, hp, hbl, hcs⟩ := hR (by omega)
      injection hp with hp
      subst hp
      refine (Any.slices_Clone_int Try.laysClone b off l.length c l w (Nat.le_refl _) (by omega) (fun j hj => hcs j hj)).mono ?_
      rintro r w' ⟨v, rfl, hown, hne, hb⟩
      rw [List.take_length] at hown
      exact ⟨v, rfl, mine_z hown, hb⟩
end Go.Proofs.Ytiflmdekcjbmbaa.Ie
set_option maxRecDepth 100000
namespace Go.Proofs.Ytiflmdekcjbmbaa.Ie
set_option linter.unusedVariables false
set_option linter.unusedSimpArgs false
open Go.RowKit Lb Go.Shelf

def zE : El := ⟨0, 0, 0, 0, []⟩
def fstE (L : List El) (kind : Int) : Option El := L.find? (fun e => e.k == kind)
def foundE (L : List El) (kind : Int) : El := (fstE L kind).getD zE
def FindPost (L : List El) (kind : Int) (w : World) (r : Ending) (w' : World) : Prop :=
  ∃ a c, r = .returned (.tuple #[.agg ((foundE L kind).vals a c), .bool (fstE L kind).isSome]) ∧ (foundE L kind).At w' a c ∧ Below w.heap.size w w'
theorem fst_no {L : List EP} {kind : Int} (h : ∀ j, j < L.length → (L.getD j ep0).e.k ≠ kind) : fstE (els L) kind = none := by
  unfold fstE
  rw [List.find?_eq_none]
  intro x hx
  obtain ⟨i, hi, rfl⟩ := List.getElem_of_mem hx
  rw [els_len] at hi
  rw [els_at hi rfl]
  simpa using h i hi
theorem fst_yes {L : List EP} {kind : Int} {k : Nat} (hk : k < L.length) (h : (L.getD k ep0).e.k = kind) (hno : ∀ j, j < k → (L.getD j ep0).e.k ≠ kind) : fstE (els L) kind = some (L.getD k ep0).e := by
  unfold fstE
  rw [List.find?_eq_some_iff_getElem]
  refine ⟨by simpa using h, k, by rw [els_len]; exact hk, els_at hk rfl, fun j hj => ?_⟩
  rw [els_at (by omega) rfl]
  simpa using hno j hj
theorem row_none' {w : World} {a : Option Addr} {n : Nat} {V : Nat → Value} (h : Row w a n V) : a = none → n = 0 := fun e => by
  by_cases h0 : n = 0
  · exact h0
  · obtain ⟨_, _, h1, _⟩ := h (by omega)
    rw [e] at h1
    cases h1
theorem builtE : Try.prog.built 49 [] = some #[.int .i64 0, .int .i64 0, .int .i64 0, .int .i64 0, .slice none 0 0] := by kernel_rfl
theorem cells5 (a b c d : Int) (p : Option Addr) {n m : Nat} : (#[.int .i64 a, .int .i64 b, .int .i64 c, .int .i64 d, .slice p n m] : Array Value).all (·.oneCell') = true := by
  simp [Value.oneCell']
set_option maxHeartbeats 1000000 in
theorem find_any (L : List EP) (a : Option Addr) (c : Nat) (kind : Int) (w : World) (h : Els w L a c) (hm : ∀ k, k < L.length → (L.getD k ep0).e.list.length ≤ 1000000) :
    Calls Try.prog 65 #[.slice a L.length c, .int .i64 kind] w (FindPost (els L) kind w) := by
  have hlc := h.lc
  have hcm := h.cm
  unfold maxLen at hcm
  have hrow := h.row
  have hels := Lib.hid h.els
  have HM := Lib.hid hm
  clear h hm
  obtain ⟨n, hn⟩ : ∃ n, L.length = n := ⟨_, rfl⟩
  have HN := Lib.hid hn
  rw [hn] at hlc hrow ⊢
  clear hn
  have o0 := Own.new w 49 #[.int .i64 0, .int .i64 0, .int .i64 0, .int .i64 0, .slice none 0 0]
  have b0 := (Below.refl w.heap.size w).alloc (Nat.le_refl _) (.cells #[.int .i64 0, .int .i64 0, .int .i64 0, .int .i64 0, .slice none 0 0] 49)
  go_enter Try.func65, Try.ntmps65
  go_upto_region 1 with (fail)
  generalize w.alloc (.cells #[.int .i64 0, .int .i64 0, .int .i64 0, .int .i64 0, .slice none 0 0] 49) = w1 at *
  obtain ⟨g0, hg0⟩ : ∃ g, w.heap.size = g := ⟨_, rfl⟩
  rw [hg0] at o0 b0 ⊢
  have HG := Lib.hid hg0
  clear hg0
  go_wp2_with fail
  go_loopw [10] (fun i wr => ∃ (k : Nat), i = .int .i64 k ∧ k ≤ n ∧ Hid (∀ j, j < k → (L.getD j ep0).e.k ≠ kind) ∧ Lb.Own wr g0 49 #[.int .i64 0, .int .i64 0, .int .i64 0, .int .i64 0, .slice none 0 0] ∧ Below g0 w wr) (fun i _ => n - (intOf i).toNat)
  case atStart => exact ⟨0, rfl, by omega, Lib.hid (fun j hj => by omega), o0, b0⟩
  case round =>
    clear o0 b0
    obtain ⟨k, rfl, hk, HE, o1, b1⟩ := hrel
    have b1' : Below w.heap.size w wr := by rw [HG.out]; exact b1
    by_cases hlt : k < n
    · obtain ⟨x, hx⟩ : ∃ x, L.getD k ep0 = x := ⟨_, rfl⟩
      obtain ⟨pb, po, rfl, hpb, x0, x1, x2, x3, x4⟩ := erow hrow b1' hlt hx
      have hat := hels.out k (by rw [HN.out]; exact hlt)
      rw [hx] at hat
      have hm := HM.out k (by rw [HN.out]; exact hlt)
      rw [hx] at hm
      have HX := Lib.hid hx
      clear hx
      obtain ⟨⟨ek, easn, erank, et, el⟩, ea, ec⟩ := x
      simp only at x0 x1 x2 x3 x4 hat hm
      have hat1 := hat.below b1'
      have o2 := Own.new wr 49 #[.int .i64 ek, .int .i64 easn, .int .i64 erank, .int .i64 et, .slice ea el.length ec]
      have b2 := (Below.refl wr.heap.size wr).alloc (Nat.le_refl _) (.cells #[.int .i64 ek, .int .i64 easn, .int .i64 erank, .int .i64 et, .slice ea el.length ec] 49)
      have b3 := b1.trans (b2.mono (by have := o1.lt; omega))
      have hat2 := hat1.below b2
      have o3 := below_own b2 o1 o1.lt
      have hgg := o1.lt
      go_upto_region 4 with (fail)
      generalize wr.alloc (.cells #[.int .i64 ek, .int .i64 easn, .int .i64 erank, .int .i64 et, .slice ea el.length ec] 49) = w2 at *
      obtain ⟨g, hg⟩ : ∃ g, wr.heap.size = g := ⟨_, rfl⟩
      rw [hg] at o2 hgg ⊢
      clear hg x0 x1 x2 x3 x4 o1 b1 b1' b2 hat hat1
      have x0 : w2.cell? ⟨g, 0, none⟩ = some (.int .i64 ek) := o2.cell 0
      have x4 : w2.cell? ⟨g, 4, none⟩ = some (.slice ea el.length ec) := o2.cell 4
      have x4f := o2.free 4
      by_cases hkk : ek = kind
      · have g1 : (ek == kind) = true := by simpa using hkk
        have HD : Hid (fstE (els L) kind = some ⟨ek, easn, erank, et, el⟩) := Lib.hid (by
          have := fst_yes (L := L) (kind := kind) (k := k) (by rw [HN.out]; exact hlt) (by rw [HX.out]; exact hkk) HE.out
          rw [HX.out] at this
          exact this)
        clear hkk
        have hsg := o2.lt
        go_wp2_with fail
        refine (cloneI_any ea ec el w2 hm hat2.row hat2.nil).mono ?_
        rintro r w3 ⟨v, rfl, hV, b4⟩
        obtain ⟨a3, c3, rfl, l1, l2, R3⟩ := hV.row
        have p2 := below_own b4 o2 o2.lt
        have p3 := below_own b4 o3 o3.lt
        have b5 := b3.trans (b4.mono (by have := o3.lt; omega))
        have y4 : w3.cell? ⟨g, 4, none⟩ = some (.slice ea el.length ec) := p2.cell 4
        have y4f := p2.free 4
        have q2 : Lb.Own (w3.setCell ⟨g, 4, none⟩ (.slice a3 el.length c3)) g 49 #[.int .i64 ek, .int .i64 easn, .int .i64 erank, .int .i64 et, .slice a3 el.length c3] := p2.put 4 _
        have q3 := p3.apart (p := ⟨g, 4, none⟩) (by simp; omega) (.slice a3 el.length c3)
        have hV2 := hV.just (Just.set g w3 4 (.slice a3 el.length c3)) (by omega)
        have b6 := (Just.set g w3 4 (.slice a3 el.length c3)).below b5 (by omega) (by have := p3.lt; omega)
        clear x0 x4 x4f o2 o3 b3 b4 hV R3 hat2
        go_upto_region 6 with (fail)
        generalize w3.setCell ⟨g, 4, none⟩ (.slice a3 el.length c3) = w4 at *
        clear p2 p3 b5 y4 y4f
        go_wp2_with (first | (refine wpList_load_row rfl _ _ rfl g rfl 49 #[.int .i64 ek, .int .i64 easn, .int .i64 erank, .int .i64 et, .slice a3 el.length c3] (0, 0) _ q2 Try.underlying49 rfl (by kernel_rfl) ?_) | (refine wpList_store_row rfl _ _ _ rfl g0 #[.int .i64 ek, .int .i64 easn, .int .i64 erank, .int .i64 et, .slice a3 el.length c3] rfl rfl 49 _ q3 (by kernel_rfl) rfl (cells5 _ _ _ _ _) ?_))
        refine bodyPost_ret (results_row_tmp rfl _ _ g0 49 _ (0, 0) _ rfl (q3.setRow _) Try.underlying49 rfl (by kernel_rfl)) rfl ?_
        unfold FindPost foundE
        rw [HD.out]
        refine ⟨a3, c3, rfl, ?_, ?_⟩
        · have hV3 := hV2.just (Just.setRow g0 w4 #[.int .i64 ek, .int .i64 easn, .int .i64 erank, .int .i64 et, .slice a3 el.length c3]) (by omega)
          exact ⟨l1, l2, hV3.rowAt, row_none' hV3.rowAt⟩
        · rw [HG.out]
          exact (Just.setRow _ _ _).below b6 (Nat.le_refl _) (Nat.le_of_lt q3.lt)
      · have g1 : (ek == kind) = false := by simpa using hkk
        have HE2 : Hid (∀ j, j < k + 1 → (L.getD j ep0).e.k ≠ kind) := Lib.hid (fun j hj => by
          by_cases e : j = k
          · subst e; rw [HX.out]; exact hkk
          · exact HE.out j (by omega))
        clear hkk
        go_wp2_with fail
        exact ⟨⟨k + 1, by simp, by omega, HE2, o3, b3⟩, by simp [intOf]; omega⟩
    · obtain rfl : n = k := by omega
      have HD : Hid (fstE (els L) kind = none) := Lib.hid (fst_no (by rw [HN.out]; exact HE.out))
      go_wp2_with (first | (refine wpList_build_store #[.int .i64 0, .int .i64 0, .int .i64 0, .int .i64 0, .slice none 0 0] rfl rfl rfl rfl builtE rfl rfl o1 (by kernel_rfl) rfl (cells5 _ _ _ _ _) ?_))
      refine bodyPost_ret (results_row_tmp rfl _ _ g0 49 _ (0, 0) _ rfl (o1.setRow _) Try.underlying49 rfl (by kernel_rfl)) rfl ?_
      unfold FindPost foundE
      rw [HD.out]
      exact ⟨none, 0, rfl, El.At.none _ _ _ _ _, (Just.setRow _ _ _).below b1' (by rw [HG.out]; exact Nat.le_refl _) b1'.size⟩
set_option maxHeartbeats 1000000 in
theorem rfind_any (L : List EP) (a : Option Addr) (c : Nat) (kind : Int) (w : World) (h : Els w L a c) (hm : ∀ k, k < L.length → (L.getD k ep0).e.list.length ≤ 1000000) :
    Calls Try.prog 56 #[.slice a L.length c, .int .i64 kind] w (FindPost (els L) kind w) := by
  have hlc := h.lc
  have hcm := h.cm
  unfold maxLen at hcm
  have hrow := h.row
  have hels := Lib.hid h.els
  have HM := Lib.hid hm
  clear h hm
  obtain ⟨n, hn⟩ : ∃ n, L.length = n := ⟨_, rfl⟩
  have HN := Lib.hid hn
  rw [hn] at hlc hrow ⊢
  clear hn
  have o0 := Own.new w 49 #[.int .i64 0, .int .i64 0, .int .i64 0, .int .i64 0, .slice none 0 0]
  have b0 := (Below.refl w.heap.size w).alloc (Nat.le_refl _) (.cells #[.int .i64 0, .int .i64 0, .int .i64 0, .int .i64 0, .slice none 0 0] 49)
  go_enter Try.func56, Try.ntmps56
  go_upto_region 1 with (fail)
  generalize w.alloc (.cells #[.int .i64 0, .int .i64 0, .int .i64 0, .int .i64 0, .slice none 0 0] 49) = w1 at *
  obtain ⟨g0, hg0⟩ : ∃ g, w.heap.size = g := ⟨_, rfl⟩
  rw [hg0] at o0 b0 ⊢
  have HG := Lib.hid hg0
  clear hg0
  go_wp2_with fail
  go_loopw [10] (fun i wr => ∃ (k : Nat), i = .int .i64 k ∧ k ≤ n ∧ Hid (∀ j, j < k → (L.getD j ep0).e.k ≠ kind) ∧ Lb.Own wr g0 49 #[.int .i64 0, .int .i64 0, .int .i64 0, .int .i64 0, .slice none 0 0] ∧ Below g0 w wr) (fun i _ => n - (intOf i).toNat)
  case atStart => exact ⟨0, rfl, by omega, Lib.hid (fun j hj => by omega), o0, b0⟩
  case round =>
    clear o0 b0
    obtain ⟨k, rfl, hk, HE, o1, b1⟩ := hrel
    have b1' : Below w.heap.size w wr := by rw [HG.out]; exact b1
    by_cases hlt : k < n
    · obtain ⟨x, hx⟩ : ∃ x, L.getD k ep0 = x := ⟨_, rfl⟩
      obtain ⟨pb, po, rfl, hpb, x0, x1, x2, x3, x4⟩ := erow hrow b1' hlt hx
      have hat := hels.out k (by rw [HN.out]; exact hlt)
      rw [hx] at hat
      have hm := HM.out k (by rw [HN.out]; exact hlt)
      rw [hx] at hm
      have HX := Lib.hid hx
      clear hx
      obtain ⟨⟨ek, easn, erank, et, el⟩, ea, ec⟩ := x
      simp only at x0 x1 x2 x3 x4 hat hm
      have hat1 := hat.below b1'
      have o2 := Own.new wr 49 #[.int .i64 ek, .int .i64 easn, .int .i64 erank, .int .i64 et, .slice ea el.length ec]
      have b2 := (Below.refl wr.heap.size wr).alloc (Nat.le_refl _) (.cells #[.int .i64 ek, .int .i64 easn, .int .i64 erank, .int .i64 et, .slice ea el.length ec] 49)
      have b3 := b1.trans (b2.mono (by have := o1.lt; omega))
      have hat2 := hat1.below b2
      have o3 := below_own b2 o1 o1.lt
      have hgg := o1.lt
      go_upto_region 4 with (fail)
      generalize wr.alloc (.cells #[.int .i64 ek, .int .i64 easn, .int .i64 erank, .int .i64 et, .slice ea el.length ec] 49) = w2 at *
      obtain ⟨g, hg⟩ : ∃ g, wr.heap.size = g := ⟨_, rfl⟩
      rw [hg] at o2 hgg ⊢
      clear hg x0 x1 x2 x3 x4 o1 b1 b1' b2 hat1
      have x0 : w2.cell? ⟨g, 0, none⟩ = some (.int .i64 ek) := o2.cell 0
      have x4 : w2.cell? ⟨g, 4, none⟩ = some (.slice ea el.length ec) := o2.cell 4
      have x4f := o2.free 4
      by_cases hkk : ek = kind
      · have g1 : (ek == kind) = true := by simpa using hkk
        have HD : Hid (fstE (els L) kind = some ⟨ek, easn, erank, et, el⟩) := Lib.hid (by
          have := fst_yes (L := L) (kind := kind) (k := k) (by rw [HN.out]; exact hlt) (by rw [HX.out]; exact hkk) HE.out
          rw [HX.out] at this
          exact this)
        clear hkk
        go_wp2_with (first | (refine wpList_load_row rfl _ _ rfl g rfl 49 #[.int .i64 ek, .int .i64 easn, .int .i64 erank, .int .i64 et, .slice ea el.length ec] (0, 0) _ o2 Try.underlying49 rfl (by kernel_rfl) ?_) | (refine wpList_store_row rfl _ _ _ rfl g0 #[.int .i64 ek, .int .i64 easn, .int .i64 erank, .int .i64 et, .slice ea el.length ec] rfl rfl 49 _ o3 (by kernel_rfl) rfl (cells5 _ _ _ _ _) ?_))
        refine bodyPost_ret (results_row_tmp rfl _ _ g0 49 _ (0, 0) _ rfl (o3.setRow _) Try.underlying49 rfl (by kernel_rfl)) rfl ?_
        unfold FindPost foundE
        rw [HD.out]
        have b9 := (Just.setRow g0 w2 #[.int .i64 ek, .int .i64 easn, .int .i64 erank, .int .i64 et, .slice ea el.length ec]).below b3 (Nat.le_refl _) (Nat.le_of_lt o3.lt)
        refine ⟨ea, ec, rfl, hat.below (by rw [HG.out]; exact b9), by rw [HG.out]; exact b9⟩
      · have g1 : (ek == kind) = false := by simpa using hkk
        have HE2 : Hid (∀ j, j < k + 1 → (L.getD j ep0).e.k ≠ kind) := Lib.hid (fun j hj => by
          by_cases e : j = k
          · subst e; rw [HX.out]; exact hkk
          · exact HE.out j (by omega))
        clear hkk
        go_wp2_with fail
        exact ⟨⟨k + 1, by simp, by omega, HE2, o3, b3⟩, by simp [intOf]; omega⟩
    · obtain rfl : n = k := by omega
      have HD : Hid (fstE (els L) kind = none) := Lib.hid (fst_no (by rw [HN.out]; exact HE.out))
      go_wp2_with (first | (refine wpList_build_store #[.int .i64 0, .int .i64 0, .int .i64 0, .int .i64 0, .slice none 0 0] rfl rfl rfl rfl builtE rfl rfl o1 (by kernel_rfl) rfl (cells5 _ _ _ _ _) ?_))
      refine bodyPost_ret (results_row_tmp rfl _ _ g0 49 _ (0, 0) _ rfl (o1.setRow _) Try.underlying49 rfl (by kernel_rfl)) rfl ?_
      unfold FindPost foundE
      rw [HD.out]
      exact ⟨none, 0, rfl, El.At.none _ _ _ _ _, (Just.setRow _ _ _).below b1' (by rw [HG.out]; exact Nat.le_refl _) b1'.size⟩
end Go.Proofs.Ytiflmdekcjbmbaa.Ie
