/-
  Package ie (chapter 6): an element's bytes are put.
-/
import Derived.Test.YtoconkgemakboaaIeFrom
set_option maxRecDepth 100000
namespace Go.Proofs.Ytoconkgemakboaa.Ie
set_option linter.unusedVariables false
open Go.RowKit Lb Go.Shelf Bf

theorem u64_id {x : Int} (h : 0 ≤ x ∧ x < 18446744073709551616) : IntKind.u64.wrap x = x := by
  rw [IntKind.wrap_u64]
  omega
theorem u64_eq (x : Int) : IntKind.u64.wrap x = ((u64 x : Nat) : Int) := by
  rw [IntKind.wrap_u64]
  unfold u64
  omega
theorem put1_any (base b : Nat) (l : List Int) (v : Value) (x : Int) (w : World) (h : Wb w base b l v) (hx : 0 ≤ x ∧ x < 256) (hl : l.length ≤ 100000) :
    Calls Try.prog 23 #[.pointer (some ⟨b, 0, none⟩), .int .u64 x, .int .i64 8] w fun r w' => r = .returned (.tuple #[]) ∧ ∃ v', Wb w' base b (l ++ [x]) v' ∧ Below base w w' ∧ Lone w w' b v v' := by
  obtain ⟨N, rfl⟩ : ∃ N : Nat, x = (N : Int) := ⟨x.toNat, by omega⟩
  have := putk_any base b l v N 1 w h (by omega) (by omega) hl
  rw [bytesK_one N (by omega)] at this
  exact this
theorem put5_any (base b : Nat) (l : List Int) (v : Value) (x : Int) (w : World) (h : Wb w base b l v) (hx : 0 ≤ x ∧ x < 1099511627776) (hl : l.length ≤ 100000) :
    Calls Try.prog 23 #[.pointer (some ⟨b, 0, none⟩), .int .u64 x, .int .i64 40] w fun r w' => r = .returned (.tuple #[]) ∧ ∃ v', Wb w' base b (l ++ bytesK x.toNat 5) v' ∧ Below base w w' ∧ Lone w w' b v v' := by
  obtain ⟨N, rfl⟩ : ∃ N : Nat, x = (N : Int) := ⟨x.toNat, by omega⟩
  exact putk_any base b l v N 5 w h (by omega) (by omega) hl
theorem put2_any (base b : Nat) (l : List Int) (v : Value) (x : Int) (w : World) (h : Wb w base b l v) (hl : l.length ≤ 100000) :
    Calls Try.prog 23 #[.pointer (some ⟨b, 0, none⟩), .int .u64 ((u64 x : Nat) : Int), .int .i64 16] w fun r w' => r = .returned (.tuple #[]) ∧ ∃ v', Wb w' base b (l ++ bytesK (u64 x) 2) v' ∧ Below base w w' ∧ Lone w w' b v v' :=
  putk_any base b l v (u64 x) 2 w h (u64_lt x) (by omega) hl
theorem tk_snoc {l : List Int} {k : Nat} (hk : k < l.length) : l.take (k + 1) = l.take k ++ [l.getD k 0] := by
  rw [List.take_succ_eq_append_getElem hk, List.getD_eq_getElem?_getD, List.getElem?_eq_getElem hk]
  rfl
theorem Wb.far {w : World} {base b : Nat} {l : List Int} {v : Value} (h : Wb w base b l v) : b < w.heap.size ∧ base ≤ b ∧ ∀ q, v.ownBlock = some q → q < w.heap.size := by
  obtain ⟨Z, B, h1, _⟩ := h
  exact ⟨h1.own.lt, h1.low, fun q e => (h1.row.lt q e).2⟩
/-- What is new is left alone by whoever puts later. -/
theorem lone_own {w w1 : World} {b g : Nat} {v v1 : Value} {t : TypeId} {cs : Array Value} (h : Lone w w1 b v v1) (hg : Lb.Own w g t cs) (h1 : g ≠ b) (h2 : v.ownBlock ≠ some g) : Lb.Own w1 g t cs := (h.keep g hg.lt h1 h2).trans hg
theorem lone_far {w w1 : World} {b g : Nat} {v v1 : Value} (h : Lone w w1 b v v1) (h2 : v.ownBlock ≠ some g) (hg : g < w.heap.size) : v1.ownBlock ≠ some g := fun e => by
  rcases h.own g e with e | e
  · exact h2 e
  · omega
set_option maxHeartbeats 2000000 in
theorem putl_any (base b : Nat) (l m : List Int) (v : Value) (a : Option Addr) (c : Nat) (w : World) (h : Wb w base b l v) (hl : l.length ≤ 1000) (hm : listB m = true) (hR : ∀ w', Below base w w' → Row w' a m.length (zval m)) :
    Calls Try.prog 67 #[.pointer (some ⟨b, 0, none⟩), .slice a m.length c] w fun r w' => r = .returned (.tuple #[]) ∧ ∃ v', Wb w' base b (l ++ [(m.length : Int)] ++ m) v' ∧ Below base w w' := by
  unfold listB octsB at hm
  rw [Bool.and_eq_true, decide_eq_true_eq, decide_eq_true_eq] at hm
  obtain ⟨hoc, h16⟩ := hm
  have HOC := Lib.hid hoc
  clear hoc
  obtain ⟨n, hn⟩ : ∃ n, m.length = n := ⟨_, rfl⟩
  have HN := Lib.hid hn
  rw [hn] at hR h16 ⊢
  have HR := Lib.hid hR
  clear hn hR
  have hsz : base ≤ w.heap.size := by have := Wb.far h; omega
  have u1 : IntKind.u64.wrap (n : Int) = (n : Int) := u64_id (by omega)
  go_enter Try.func67, Try.ntmps67
  go_wp2_with fail
  refine (put1_any base b l v (n : Int) w h (by omega) (by omega)).mono ?_
  rintro r x1 ⟨rfl, v1, hW, bb, lo⟩
  clear h u1 lo
  go_wp2_with fail
  go_loopw [13] (fun i wr => ∃ (k : Nat) (v : Value), i = .int .i64 k ∧ k ≤ n ∧ Wb wr base b (l ++ [(n : Int)] ++ m.take k) v ∧ Below base w wr) (fun i _ => n - (intOf i).toNat)
  case atStart => exact ⟨0, v1, rfl, by omega, by rw [List.take_zero, List.append_nil]; exact hW, bb⟩
  case round =>
    clear hW bb
    obtain ⟨k, v2, rfl, hk, hW, b2⟩ := hrel
    have htl : (m.take k).length ≤ k := List.length_take_le _ _
    by_cases hlt : k < n
    · obtain ⟨pb, po, rfl, hpb, cx⟩ := (HR.out wr b2).at_ hlt
      unfold zval at cx
      have hx := HOC.out k (by rw [HN.out]; exact hlt)
      have hsn := tk_snoc (l := m) (k := k) (by rw [HN.out]; exact hlt)
      obtain ⟨x, hxx⟩ : ∃ x, m.getD k 0 = x := ⟨_, rfl⟩
      rw [hxx] at cx hx hsn
      have HSN := Lib.hid hsn
      have u1 : IntKind.u64.wrap x = x := u64_id (by omega)
      clear hsn hxx
      go_wp2_with fail
      refine (put1_any base b (l ++ [(n : Int)] ++ m.take k) v2 x wr hW (by omega) (by rw [List.length_append, List.length_append]; simp only [List.length_cons, List.length_nil]; omega)).mono ?_
      rintro r x6 ⟨rfl, v6, hW6, b6, lo⟩
      have b7 := b2.trans b6
      clear u1 b6 lo
      go_wp2_with fail
      exact ⟨⟨k + 1, v6, by simp, by omega, by rw [HSN.out, ← List.append_assoc]; exact hW6, b7⟩, by simp [intOf]; omega⟩
    · obtain rfl : n = k := by omega
      have htk : m.take n = m := List.take_of_length_le (by rw [HN.out]; exact Nat.le_refl _)
      rw [htk] at hW
      clear htk
      go_wp2_with fail
      refine bodyPost_end (results_none rfl _ _ _) rfl ?_
      exact ⟨rfl, v2, hW, b2⟩
set_option maxHeartbeats 4000000 in
theorem iput1 (base b : Nat) (l : List Int) (v : Value) (x y : Int) (w : World) (h : Wb w base b l v) (hl : l.length ≤ 1000) (hx : s1B x y = true) :
    Calls Try.prog 52 #[.pointer (some ⟨b, 0, none⟩), .int .i64 1, v1 x y] w fun r w' => r = .returned (.tuple #[]) ∧ ∃ v', Wb w' base b (l ++ ([1] ++ [6] ++ bytesK x.toNat 5 ++ [y])) v' ∧ Below base w w' := by
  unfold s1B octB at hx
  rw [Bool.and_eq_true, decide_eq_true_eq, decide_eq_true_eq] at hx
  obtain ⟨hx1, hx2⟩ := hx
  obtain ⟨out, hout⟩ : ∃ out, l ++ ([1] ++ [6] ++ bytesK x.toNat 5 ++ [y]) = out := ⟨_, rfl⟩
  rw [hout]
  have HO := Lib.hid hout
  clear hout
  have q11 := t11
  have q12 := t12
  have q13 := t13
  have q14 := t14
  unfold v1
  obtain ⟨f1, f2, f3⟩ := Wb.far h
  have u0 : IntKind.u64.wrap 1 = 1 := by decide
  have u1 : IntKind.u64.wrap x = x := u64_id (by omega)
  have u2 : IntKind.u64.wrap y = y := u64_id (by omega)
  go_enter Try.func52, Try.ntmps52
  go_wp2_with fail
  refine (put1_any base b l v 1 w h (by omega) (by omega)).mono ?_
  rintro r x1 ⟨rfl, w1, hW, bb, lo⟩
  obtain ⟨g1, g2, g3⟩ := Wb.far hW
  have o1 := Own.new x1 96 #[.int .i64 x, .int .i64 y]
  have hW1 := hW.below ((Below.refl x1.heap.size x1).alloc (Nat.le_refl _) (.cells #[.int .i64 x, .int .i64 y] 96))
  have b1 := bb.alloc (by omega) (.cells #[.int .i64 x, .int .i64 y] 96)
  have hne : x1.heap.size ≠ b := by omega
  have hno : w1.ownBlock ≠ some x1.heap.size := fun e => by have := g3 _ e; omega
  clear h hW bb lo u0
  go_upto_region 3 with (fail)
  generalize x1.alloc (.cells #[.int .i64 x, .int .i64 y] 96) = x2 at *
  generalize x1.heap.size = g at *
  go_wp2_with fail
  refine (put1_any base b _ w1 6 x2 hW1 (by omega) (by simp; omega)).mono ?_
  rintro r x3 ⟨rfl, w3, hW3, bb, lo⟩
  have hno3 := lone_far lo hno o1.lt
  have o3 := lone_own lo o1 hne hno
  have b3 := b1.trans bb
  have c0 : x3.cell? ⟨g, 0, none⟩ = some (.int .i64 x) := o3.cell 0
  clear hW1 b1 o1 hno bb lo
  go_wp2_with fail
  refine (put5_any base b _ w3 x x3 hW3 hx1 (by simp; omega)).mono ?_
  rintro r x4 ⟨rfl, w4, hW4, bb, lo⟩
  have hno4 := lone_far lo hno3 o3.lt
  have o4 := lone_own lo o3 hne hno3
  have b4 := b3.trans bb
  have c1 : x4.cell? ⟨g, 1, none⟩ = some (.int .i64 y) := o4.cell 1
  clear hW3 b3 o3 hno3 bb lo c0
  go_wp2_with fail
  refine (put1_any base b _ w4 y x4 hW4 (by omega) (by simp [bytesK_len]; omega)).mono ?_
  rintro r x5 ⟨rfl, w5, hW5, bb, lo⟩
  have b5 := b4.trans bb
  clear hW4 b4 bb lo c1
  have hs5 : base ≤ x5.heap.size := by have := Wb.far hW5; omega
  go_wp2_with fail
  refine bodyPost_end (results_none rfl _ _ _) rfl ?_
  refine ⟨rfl, w5, ?_, ?_⟩
  · have e : out = l ++ [1] ++ [6] ++ bytesK x.toNat 5 ++ [y] := by rw [← HO.out]; simp
    rw [e]
    exact hW5.below (((((Below.refl x5.heap.size x5).alloc (Nat.le_refl _) (.cells #[.int .i64 0] 98)).alloc (by simp) (.cells #[.slice none 0 0] 100))).alloc (by simp; try omega) (.cells #[.slice none 0 0] 101))
  · exact ((b5.alloc hs5 (.cells #[.int .i64 0] 98)).alloc (by simp; omega) (.cells #[.slice none 0 0] 100)).alloc (by simp; omega) (.cells #[.slice none 0 0] 101)
set_option maxHeartbeats 4000000 in
theorem iput2 (base b : Nat) (l : List Int) (v : Value) (x : Int) (w : World) (h : Wb w base b l v) (hl : l.length ≤ 1000) :
    Calls Try.prog 52 #[.pointer (some ⟨b, 0, none⟩), .int .i64 2, v2 x] w fun r w' => r = .returned (.tuple #[]) ∧ ∃ v', Wb w' base b (l ++ ([2] ++ [2] ++ bytesK (u64 x) 2)) v' ∧ Below base w w' := by
  obtain ⟨out, hout⟩ : ∃ out, l ++ ([2] ++ [2] ++ bytesK (u64 x) 2) = out := ⟨_, rfl⟩
  rw [hout]
  have HO := Lib.hid hout
  clear hout
  have q11 := t21
  have q12 := t22
  have q13 := t23
  have q14 := t24
  unfold v2
  obtain ⟨f1, f2, f3⟩ := Wb.far h
  have u0 : IntKind.u64.wrap 2 = 2 := by decide
  have u1 := u64_eq x
  go_enter Try.func52, Try.ntmps52
  go_wp2_with fail
  refine (put1_any base b l v 2 w h (by omega) (by omega)).mono ?_
  rintro r x1 ⟨rfl, w1, hW, bb, lo⟩
  obtain ⟨g1, g2, g3⟩ := Wb.far hW
  have e1 : (x1.alloc (.cells #[.int .i64 0, .int .i64 0] 96)).heap.size = x1.heap.size + 1 := by simp
  have o1 := Own.new (x1.alloc (.cells #[.int .i64 0, .int .i64 0] 96)) 98 #[.int .i64 x]
  rw [e1] at o1
  have hW1 := hW.below (((Below.refl x1.heap.size x1).alloc (Nat.le_refl _) (.cells #[.int .i64 0, .int .i64 0] 96)).alloc (by simp) (.cells #[.int .i64 x] 98))
  have b1 := (bb.alloc (by omega) (.cells #[.int .i64 0, .int .i64 0] 96)).alloc (by simp; omega) (.cells #[.int .i64 x] 98)
  have hne : x1.heap.size + 1 ≠ b := by omega
  have hno : w1.ownBlock ≠ some (x1.heap.size + 1) := fun e => by have := g3 _ e; omega
  clear h hW bb lo u0 e1
  go_upto_region 8 with (fail)
  generalize (x1.alloc (.cells #[.int .i64 0, .int .i64 0] 96)).alloc (.cells #[.int .i64 x] 98) = x2 at *
  generalize x1.heap.size = g at *
  go_wp2_with fail
  refine (put1_any base b _ w1 2 x2 hW1 (by omega) (by simp; omega)).mono ?_
  rintro r x3 ⟨rfl, w3, hW3, bb, lo⟩
  have hno3 := lone_far lo hno o1.lt
  have o3 := lone_own lo o1 hne hno
  have b3 := b1.trans bb
  have c0 : x3.cell? ⟨g + 1, 0, none⟩ = some (.int .i64 x) := o3.cell 0
  clear hW1 b1 o1 hno bb lo
  go_wp2_with fail
  refine (put2_any base b _ w3 x x3 hW3 (by simp; omega)).mono ?_
  rintro r x5 ⟨rfl, w5, hW5, bb, lo⟩
  have b5 := b3.trans bb
  clear hW3 b3 bb lo c0
  have hs5 : base ≤ x5.heap.size := by have := Wb.far hW5; omega
  go_wp2_with fail
  refine bodyPost_end (results_none rfl _ _ _) rfl ?_
  refine ⟨rfl, w5, ?_, ?_⟩
  · have e : out = l ++ [2] ++ [2] ++ bytesK (u64 x) 2 := by rw [← HO.out]; simp
    rw [e]
    exact hW5.below (((Below.refl x5.heap.size x5).alloc (Nat.le_refl _) (.cells #[.slice none 0 0] 100)).alloc (by simp) (.cells #[.slice none 0 0] 101))
  · exact (b5.alloc hs5 (.cells #[.slice none 0 0] 100)).alloc (by simp; omega) (.cells #[.slice none 0 0] 101)
set_option maxHeartbeats 4000000 in
theorem iput3 (base b : Nat) (l m : List Int) (v : Value) (a : Option Addr) (c : Nat) (w : World) (h : Wb w base b l v) (hl : l.length ≤ 900) (hm : listB m = true) (hR : ∀ w', Below base w w' → Row w' a m.length (zval m)) :
    Calls Try.prog 52 #[.pointer (some ⟨b, 0, none⟩), .int .i64 3, v3 (.slice a m.length c)] w fun r w' => r = .returned (.tuple #[]) ∧ ∃ v', Wb w' base b (l ++ ([3] ++ [(m.length : Int)] ++ m)) v' ∧ Below base w w' := by
  obtain ⟨out, hout⟩ : ∃ out, l ++ ([3] ++ [(m.length : Int)] ++ m) = out := ⟨_, rfl⟩
  rw [hout]
  have HO := Lib.hid hout
  clear hout
  have q10 := t31
  have q11 := t32
  have q12 := t33
  have q13 := t34
  unfold v3
  obtain ⟨f1, f2, f3⟩ := Wb.far h
  have u0 : IntKind.u64.wrap 3 = 3 := by decide
  have HR := Lib.hid hR
  obtain ⟨n, hn⟩ : ∃ n, m.length = n := ⟨_, rfl⟩
  have HN := Lib.hid hn
  rw [hn]
  clear hn hR
  go_enter Try.func52, Try.ntmps52
  go_wp2_with fail
  refine (put1_any base b l v 3 w h (by omega) (by omega)).mono ?_
  rintro r x1 ⟨rfl, w1, hW, bb, lo⟩
  obtain ⟨g1, g2, g3⟩ := Wb.far hW
  have e1 : ((x1.alloc (.cells #[.int .i64 0, .int .i64 0] 96)).alloc (.cells #[.int .i64 0] 98)).heap.size = x1.heap.size + 2 := by simp
  have o1 := Own.new ((x1.alloc (.cells #[.int .i64 0, .int .i64 0] 96)).alloc (.cells #[.int .i64 0] 98)) 100 #[.slice a n c]
  rw [e1] at o1
  have hW1 := hW.below ((((Below.refl x1.heap.size x1).alloc (Nat.le_refl _) (.cells #[.int .i64 0, .int .i64 0] 96)).alloc (by simp; try omega) (.cells #[.int .i64 0] 98)).alloc (by simp; try omega) (.cells #[.slice a n c] 100))
  have b1 := (((bb.alloc (by omega) (.cells #[.int .i64 0, .int .i64 0] 96)).alloc (by simp; try omega) (.cells #[.int .i64 0] 98)).alloc (by simp; try omega) (.cells #[.slice a n c] 100))
  clear h hW bb lo u0 e1
  go_upto_region 12 with (fail)
  generalize ((x1.alloc (.cells #[.int .i64 0, .int .i64 0] 96)).alloc (.cells #[.int .i64 0] 98)).alloc (.cells #[.slice a n c] 100) = x2 at *
  generalize x1.heap.size = g at *
  have c0 : x2.cell? ⟨g + 2, 0, none⟩ = some (.slice a n c) := o1.cell 0
  go_wp2_with fail
  rw [← HN.out]
  refine (putl_any base b _ m w1 a c x2 hW1 (by simp; omega) hm (fun w' hb => HR.out w' (b1.trans hb))).mono ?_
  rintro r x5 ⟨rfl, w5, hW5, bb⟩
  have b5 := b1.trans bb
  clear hW1 b1 o1 bb c0
  have hs5 : base ≤ x5.heap.size := by have := Wb.far hW5; omega
  go_wp2_with fail
  refine bodyPost_end (results_none rfl _ _ _) rfl ?_
  refine ⟨rfl, w5, ?_, ?_⟩
  · have e : out = l ++ [3] ++ [(m.length : Int)] ++ m := by rw [← HO.out]; simp
    rw [e]
    exact hW5.below ((Below.refl x5.heap.size x5).alloc (Nat.le_refl _) (.cells #[.slice none 0 0] 101))
  · exact b5.alloc hs5 (.cells #[.slice none 0 0] 101)
set_option maxHeartbeats 4000000 in
theorem iput4 (base b : Nat) (l m : List Int) (v : Value) (a : Option Addr) (c : Nat) (w : World) (h : Wb w base b l v) (hl : l.length ≤ 900) (hm : listB m = true) (hR : ∀ w', Below base w w' → Row w' a m.length (zval m)) :
    Calls Try.prog 52 #[.pointer (some ⟨b, 0, none⟩), .int .i64 4, v4 (.slice a m.length c)] w fun r w' => r = .returned (.tuple #[]) ∧ ∃ v', Wb w' base b (l ++ ([4] ++ [(m.length : Int)] ++ m)) v' ∧ Below base w w' := by
  obtain ⟨out, hout⟩ : ∃ out, l ++ ([4] ++ [(m.length : Int)] ++ m) = out := ⟨_, rfl⟩
  rw [hout]
  have HO := Lib.hid hout
  clear hout
  have q10 := t41
  have q11 := t42
  have q12 := t43
  have q13 := t44
  unfold v4
  obtain ⟨f1, f2, f3⟩ := Wb.far h
  have u0 : IntKind.u64.wrap 4 = 4 := by decide
  have HR := Lib.hid hR
  obtain ⟨n, hn⟩ : ∃ n, m.length = n := ⟨_, rfl⟩
  have HN := Lib.hid hn
  rw [hn]
  clear hn hR
  go_enter Try.func52, Try.ntmps52
  go_wp2_with fail
  refine (put1_any base b l v 4 w h (by omega) (by omega)).mono ?_
  rintro r x1 ⟨rfl, w1, hW, bb, lo⟩
  obtain ⟨g1, g2, g3⟩ := Wb.far hW
  have e1 : (((x1.alloc (.cells #[.int .i64 0, .int .i64 0] 96)).alloc (.cells #[.int .i64 0] 98)).alloc (.cells #[.slice none 0 0] 100)).heap.size = x1.heap.size + 3 := by simp
  have o1 := Own.new (((x1.alloc (.cells #[.int .i64 0, .int .i64 0] 96)).alloc (.cells #[.int .i64 0] 98)).alloc (.cells #[.slice none 0 0] 100)) 101 #[.slice a n c]
  rw [e1] at o1
  have hW1 := hW.below (((((Below.refl x1.heap.size x1).alloc (Nat.le_refl _) (.cells #[.int .i64 0, .int .i64 0] 96)).alloc (by simp; try omega) (.cells #[.int .i64 0] 98)).alloc (by simp; try omega) (.cells #[.slice none 0 0] 100)).alloc (by simp; try omega) (.cells #[.slice a n c] 101))
  have b1 := ((((bb.alloc (by omega) (.cells #[.int .i64 0, .int .i64 0] 96)).alloc (by simp; try omega) (.cells #[.int .i64 0] 98)).alloc (by simp; try omega) (.cells #[.slice none 0 0] 100)).alloc (by simp; try omega) (.cells #[.slice a n c] 101))
  clear h hW bb lo u0 e1
  go_upto_region 15 with (fail)
  generalize (((x1.alloc (.cells #[.int .i64 0, .int .i64 0] 96)).alloc (.cells #[.int .i64 0] 98)).alloc (.cells #[.slice none 0 0] 100)).alloc (.cells #[.slice a n c] 101) = x2 at *
  generalize x1.heap.size = g at *
  have c0 : x2.cell? ⟨g + 3, 0, none⟩ = some (.slice a n c) := o1.cell 0
  go_wp2_with fail
  rw [← HN.out]
  refine (putl_any base b _ m w1 a c x2 hW1 (by simp; omega) hm (fun w' hb => HR.out w' (b1.trans hb))).mono ?_
  rintro r x5 ⟨rfl, w5, hW5, bb⟩
  have b5 := b1.trans bb
  clear hW1 b1 o1 bb c0
  have hs5 : base ≤ x5.heap.size := by have := Wb.far hW5; omega
  go_wp2_with fail
  refine bodyPost_end (results_none rfl _ _ _) rfl ?_
  refine ⟨rfl, w5, ?_, ?_⟩
  · have e : out = l ++ [4] ++ [(m.length : Int)] ++ m := by rw [← HO.out]; simp
    rw [e]
    exact hW5
  · exact b5
theorem iput_any (e : El) (base b : Nat) (l : List Int) (v : Value) (a : Option Addr) (c : Nat) (w : World) (h : Wb w base b l v) (hl : l.length ≤ 900) (hm : mayE e = true) (hR : ∀ w', Below base w w' → Row w' a e.list.length (zval e.list)) :
    Calls Try.prog 52 #[.pointer (some ⟨b, 0, none⟩), .int .i64 e.k, fromV e a c] w fun r w' => r = .returned (.tuple #[]) ∧ ∃ v', Wb w' base b (l ++ encOne e) v' ∧ Below base w w' := by
  have hf := (mayE_out hm).1
  have hk := mayE_kind hm
  obtain ⟨k, asn, rank, t, m⟩ := e
  unfold fitB at hf
  simp only at hf hk hR
  rcases hk with rfl | rfl | rfl | rfl
  · exact iput1 base b l v asn rank w h (by omega) hf
  · exact iput2 base b l v t w h (by omega)
  · exact iput3 base b l m v a c w h hl hf hR
  · exact iput4 base b l m v a c w h hl hf hR
end Go.Proofs.Ytoconkgemakboaa.Ie
