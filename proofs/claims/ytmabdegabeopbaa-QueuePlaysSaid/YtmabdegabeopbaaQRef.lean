/-
  Package queue: the reference's queue: New, Put, Take, Move.
-/
import Derived.Test.YtmabdegabeopbaaQueueTurn
import Derived.Test.YtmabdegabeopbaaCut
import Derived.Deep.RegionLaw
import Derived.Deep.Cut
import Derived.Deep.CutRange
import Derived.BigRegion
set_option maxRecDepth 100000
namespace Go.Proofs.Ytmabdegabeopbaa.Qu
set_option linter.unusedVariables false
open Go.RowKit Lb

/-- The reference's queue in block b. -/
structure Rqu (w : World) (base b : Nat) (most lost : Int) (l : List It) (v : Value) : Prop where
  own : Own w b 35 #[.int .i64 most, v, .int .i64 lost]
  row : MineK w base 37 2 v l.length (iv l)
  bytes : ∀ x ∈ l, Bs w x.v x.n x.Z
  low : base ≤ b
theorem Rqu.below {w w' : World} {base b : Nat} {most lost : Int} {l : List It} {v : Value} (h : Rqu w base b most lost l v) (j : Below w.heap.size w w') : Rqu w' base b most lost l v where
  own := below_own j h.own h.own.lt
  row := h.row.below j
  bytes x hx := (h.bytes x hx).below j
  low := h.low
theorem Rqu.ok {w : World} {base b : Nat} {most lost : Int} {l : List It} {v : Value} (h : Rqu w base b most lost l v) : itemOk l := fun x hx => bs_one (h.bytes x hx)
theorem infoRI : (Try.prog.info? 37).map (fun i => (i.zero, i.size, i.bytes)) = some (some (.agg #[.int .i64 0, .slice none 0 0]), 2, 32) := by kernel_rfl
theorem infoU8 : (Try.prog.info? 5).map (fun i => (i.zero, i.size, i.bytes)) = some (some (.int .u8 0), 1, 1) := by kernel_rfl
theorem size_ri (w : World) : (Go.sizeOf 37).run Try.prog w = .ok 2 w := by kernel_rfl
theorem Rqu.ne {w : World} {base b q : Nat} {most lost : Int} {l : List It} {v : Value} (h : Rqu w base b most lost l v) (e : v.ownBlock = some q) : q ≠ b := fun e' => by
  subst e'
  obtain ⟨cs, hc⟩ := mineK_own h.row e
  exact absurd (Lb.own_ty hc h.own) (by decide)
theorem rq_set {w : World} {base n b : Nat} {v : Value} {V : Nat → Value} {cs : Array Value} (h : MineK w base 37 2 v n V) (ho : Own w b 35 cs) (i : Nat) (u : Value) : MineK (w.setCell ⟨b, i, none⟩ u) base 37 2 v n V :=
  h.kept (fun q _ => by
    by_cases e : q = b
    · refine .inr (fun e' => ?_)
      subst e
      obtain ⟨ds, hd⟩ := mineK_own h e'
      exact absurd (Lb.own_ty hd ho) (by decide)
    · exact .inl (Below.heap_setCell _ _ _ _ e))
/-- Bytes stay where a block that is none of bytes turns. -/
theorem Bs.turn {w w' : World} {b base s n m : Nat} {v v' x : Value} {t e : TypeId} {ds : Array Value} {V : Nat → Value} {Z : Nat → Int} (h : Bs w x m Z) (j : Turn w w' b v v') (ho : Own w b t ds) (hr : MineK w base e s v n V) (h1 : 5 ≠ t) (h2 : 5 ≠ e) : Bs w' x m Z := by
  rcases h with h | ⟨g, off, c, cs', hv, ho', r⟩
  · exact .inl h
  · exact .inr ⟨g, off, c, cs', hv, j.ty ho hr ho' h1 h2, r⟩
theorem bs_of {w : World} {base n : Nat} {v : Value} {Z : Nat → Int} (h : Mine w base 5 v n (fun i => .int .u8 (Z i))) : Bs w v n Z := by
  unfold Mine at h
  obtain ⟨_, h2⟩ := h
  rcases h2 with ⟨hv, h0⟩ | ⟨g, cap, cur, hv, hg, hh, hc, hm, hs, ht⟩
  · exact .inl ⟨hv, h0⟩
  · refine .inr ⟨g, 0, cap, cur, hv, hh, hc, hm, fun i hi => ?_⟩
    have e1 := congrArg (fun l : List Value => l[i]?) ht
    simp only [Nat.mul_one, List.getElem?_take, if_pos hi, Array.getElem?_toList] at e1
    rw [Nat.zero_add, e1]
    simp [hi]
theorem rnew_any (x : Int) (w : World) :
    Calls Try.prog 9 #[.int .i64 x] w fun r w' => r = .returned (.pointer (some ⟨w.heap.size, 0, none⟩)) ∧ Rqu w' w.heap.size w.heap.size (min (max x 1) 32) 0 [] (.slice none 0 0) ∧ Below w.heap.size w w' := by
  have hmm : max 1 (min x 32) = min (max x 1) 32 := by omega
  have ho := Own.new w 35 #[.int .i64 (min (max x 1) 32), .slice none 0 0, .int .i64 0]
  have hb := (Below.refl w.heap.size w).alloc (Nat.le_refl _) (.cells #[.int .i64 (min (max x 1) 32), .slice none 0 0, .int .i64 0] 35)
  go_enter Try.func9, Try.ntmps9
  go_wp2_with fail
  go_ret
  exact ⟨rfl, ⟨ho, MineK.nil _ _ _ _ _, fun x hx => by simp at hx, Nat.le_refl _⟩, hb⟩
theorem rput_full (base b : Nat) (most lost : Int) (l : List It) (v : Value) (tt : Int) (u : Value) (w : World) (h : Rqu w base b most lost l v) (hm : most ≤ (l.length : Int)) (h0 : 0 ≤ lost) (h1 : lost ≤ 1000000) :
    Calls Try.prog 11 #[.pointer (some ⟨b, 0, none⟩), .int .i64 tt, u] w fun r w' => r = .returned (.bool false) ∧ Rqu w' base b most (min (lost + 1) 1000000) l v ∧ Just b w w' := by
  obtain ⟨a, c, rfl, h3, h4, _⟩ := h.row.row
  unfold maxLen at h4
  have c0 : w.cell? ⟨b, 0, none⟩ = some (.int .i64 most) := h.own.cell 0
  have c1 : w.cell? ⟨b, 1, none⟩ = some (.slice a l.length c) := h.own.cell 1
  have c2 : w.cell? ⟨b, 2, none⟩ = some (.int .i64 lost) := h.own.cell 2
  have f1 : w.frozen? ⟨b, 2, none⟩ = false := h.own.free 2
  go_enter Try.func11, Try.ntmps11
  go_wp2_with fail
  go_quiet (fail)
  go_wp2_with fail
  go_ret
  have j := ((Just.refl b w).drewN nq).put 2 (.int .i64 (min (lost + 1) 1000000))
  refine ⟨rfl, ⟨?_, ?_, fun x hx => (h.bytes x hx).just j h.own (by decide), h.low⟩, j⟩
  · have := (Own.drewN h.own nq).put 2 (.int .i64 (min (lost + 1) 1000000))
    exact this
  · exact rq_set (h.row.drewN nq) (h.own.drewN nq) 2 _
set_option maxHeartbeats 4000000 in
theorem rputT (base b : Nat) (most lost : Int) (l : List It) (v : Value) (tt : Int) (a : Option Addr) (n c : Nat) (Z : Nat → Int) (w : World) (h : Rqu w base b most lost l v) (hm : (l.length : Int) < most) (hl : l.length ≤ 1000) (hn : n ≤ c) (hn2 : n ≤ 100000) (hR : Row w a n (fun i => .int .u8 (Z i))) :
    Calls Try.prog 11 #[.pointer (some ⟨b, 0, none⟩), .int .i64 tt, .slice a n c] w fun r w' => r = .returned (.bool true) ∧ ∃ v' u, Rqu w' base b most lost (l ++ [⟨tt, u, n, Z⟩]) v' ∧ Turn w w' b v v' := by
  have H := Lib.hid h
  obtain ⟨a', c', rfl, h3, h4, hRow⟩ := h.row.row
  unfold maxLen at h4
  obtain ⟨i0, hi0, hz0, hz1, hz2⟩ := info_parts infoRI
  obtain ⟨I0, hI0, hZ0, hZ1, hZ2⟩ := info_parts infoU8
  have c0 : w.cell? ⟨b, 0, none⟩ = some (.int .i64 most) := h.own.cell 0
  have c1 : w.cell? ⟨b, 1, none⟩ = some (.slice a' l.length c') := h.own.cell 1
  have g0 : decide (most ≤ (l.length : Int)) = false := by simp; omega
  have hlow := h.low
  have hbl := h.own.lt
  have HRow := Lib.hid hRow
  have HR := Lib.hid hR
  clear h hR hRow
  go_enter Try.func11, Try.ntmps11
  go_wp2_with fail
  go_quiet (fail)
  go_upto_region 4 with (fail)
  generalize hw1 : w.drewN _ = w1 at *
  have b1 : Below w.heap.size w w1 := by rw [← hw1]; exact below_drewN (Below.refl _ _) _
  have s1 : w1.heap.size = w.heap.size := by rw [← hw1]; rfl
  have c1 : w1.cell? ⟨b, 1, none⟩ = some (.slice a' l.length c') := by rw [← hw1]; exact c1
  have r1 : Row w1 a' (l.length * 2) (iv l) := HRow.out.below b1
  clear hw1 c0 g0
  go_wp2_with (at_builtin; go_must (refine wp_appK (w := w1) rfl (.const (.slice none 0 0)) (.tmp 30) _ rfl w1.heap.size 37 i0 _ 2 32 Try.underlying33 hi0 hz0 hz1 hz2 rfl (by decide) (.slice none 0 0) 0 (iv []) (by rfl) (MineK.nil _ _ _ _ _) _ l.length c' (iv l) (by rfl) r1 (fun i _ => iv_one H.out.ok i) ?c1 ?c2 (Nat.le_refl _) ?_))
  case c1 => unfold maxLen; omega
  case c2 => omega
  intro v2 w2 m2 g2 l2
  have b2 : Below w1.heap.size w1 w2 := (Below.refl _ _).grown g2 (Nat.le_refl _) (fun q e => by cases e)
  have r2 : Row w2 a n (fun i => .int .u8 (Z i)) := HR.out.below (b1.trans (b2.mono (by omega)))
  go_wp2_with (at_builtin; go_must (refine wp_app (w := w2) rfl (.const (.slice none 0 0)) (.tmp 33) _ rfl w2.heap.size 5 I0 _ 1 Try.underlying27 hI0 hZ0 hZ1 hZ2 rfl (.slice none 0 0) 0 (fun i => .int .u8 0) (by rfl) (Mine.nil _ _ _ _) a n c (fun i => .int .u8 (Z i)) (by rfl) r2 (fun _ _ => rfl) ?c1 ?c2 (Nat.le_refl _) ?_))
  case c1 => unfold maxLen; omega
  case c2 => omega
  intro v3 w3 m3 g3
  have b3 : Below w2.heap.size w2 w3 := (Below.refl _ _).grown g3 (Nat.le_refl _) (fun q e => by cases e)
  have hB3 : Bs w3 v3 n Z := by
    refine bs_of (base := w2.heap.size) ?_
    exact m3
  obtain ⟨a3, c3, rfl, hc3, hd3, hR3, hn3⟩ := hB3.row
  have b13 : Below w.heap.size w w3 := (b1.trans (b2.mono (by omega))).trans (b3.mono (by have := b2.size; omega))
  have hs3 : w.heap.size ≤ w3.heap.size := b13.size
  have m2' := m2.below b3
  clear m3 g3 m2 r1 r2
  have HR1 := Lib.hid (row_new (n := 1 * 2) (V := iv [⟨tt, .slice a3 n c3, n, Z⟩]) w3 #[.int .i64 tt, .slice a3 n c3] 37 (0, 0) (fun i hi => by rcases (show i = 0 ∨ i = 1 by omega) with rfl | rfl <;> rfl))
  have b4 := b13.alloc b13.size (.cells #[.int .i64 tt, .slice a3 n c3] 37)
  have hs4 : w.heap.size ≤ (w3.alloc (.cells #[.int .i64 tt, .slice a3 n c3] 37)).heap.size := by simp; omega
  go_wp2_with (at_builtin; go_must (refine wp_appK rfl (.tmp 31) (.tmp 36) _ rfl w.heap.size 37 i0 _ 2 32 Try.underlying33 hi0 hz0 hz1 hz2 rfl (by decide) v2 l.length (iv l) (by rfl) (m2'.alloc _) _ 1 _ (iv [⟨tt, .slice a3 n c3, n, Z⟩]) (by rfl) HR1.out (fun i _ => iv_one (fun x hx => by simp at hx; subst hx; exact bs_one hB3) i) ?c1 ?c2 hs4 ?_))
  case c1 => unfold maxLen; omega
  case c2 => omega
  intro v5 w5 m5 g5 l5
  have j5 : Below w.heap.size w w5 := b4.grown g5 (by omega) (fun q e => by have := (m2'.lt q e).1; omega)
  have hb5 : b < w.heap.size := hbl
  have hlr : ∀ q, v2.ownBlock = some q → ∃ cs, Own (w3.alloc (.cells #[.int .i64 tt, .slice a3 n c3] 37)) q 37 cs := fun q e => mineK_own (m2'.alloc _) e
  have o5 := below_own j5 H.out.own hb5
  have f5 := o5.free 1
  have k5 : w5.cell? ⟨b, 1, none⟩ = some (.slice a' l.length c') := o5.cell 1
  have M5 : MineK w5 w.heap.size 37 2 v5 (l ++ [(⟨tt, .slice a3 n c3, n, Z⟩ : It)]).length (iv (l ++ [(⟨tt, .slice a3 n c3, n, Z⟩ : It)])) := by
    rw [List.length_append]
    exact m5.ext (fun q hq => iv_snoc l _ q hq)
  obtain ⟨a5, c5, hv5, hc5, hd5, _⟩ := M5.row
  subst hv5
  have HB5 : Hid (∀ x ∈ l ++ [(⟨tt, .slice a3 n c3, n, Z⟩ : It)], Bs w5 x.v x.n x.Z) := Lib.hid (fun x hx => by
    rw [List.mem_append, List.mem_singleton] at hx
    have hg : ∀ y m Y, Bs w3 y m Y → Bs w5 y m Y := fun y m Y hy => by
      have hy := hy.below ((Below.refl w3.heap.size w3).alloc (Nat.le_refl _) (.cells #[.int .i64 tt, .slice a3 n c3] 37))
      rcases hy with hy | ⟨g, off, cc, cs', hv, ho', r⟩
      · exact .inl hy
      · refine .inr ⟨g, off, cc, cs', hv, grown_own g5 ho' (fun e => ?_), r⟩
        obtain ⟨cs, hcs⟩ := hlr g e
        exact absurd (Lb.own_ty ho' hcs) (by decide)
    rcases hx with hx | rfl
    · exact hg _ _ _ ((H.out.bytes x hx).below b13)
    · exact hg _ _ _ hB3)
  clear m5 m2' g5 l5 HR1 hlr
  have HM5 := Lib.hid M5
  clear M5
  go_wp2_with fail
  go_ret
  have H9 : MineK w5 w.heap.size 37 2 (.slice a5 (l.length + 1) c5) (l ++ [(⟨tt, .slice a3 n c3, n, Z⟩ : It)]).length (iv (l ++ [(⟨tt, .slice a3 n c3, n, Z⟩ : It)])) := by
    have := HM5.out
    rwa [show Value.slice a5 (l ++ [(⟨tt, .slice a3 n c3, n, Z⟩ : It)]).length c5 = .slice a5 (l.length + 1) c5 by simp] at this
  refine ⟨rfl, _, .slice a3 n c3, ⟨o5.put 1 _, rq_set (mk_low (base := w.heap.size) (base' := base) H9 (by omega)) o5 1 _, fun x hx => (HB5.out x hx).just (Just.set b w5 1 _) o5 (by decide), hlow⟩, ?_⟩
  have hj := (Turn.of_below j5 b (.slice a' l.length c')).put 1 (.slice a5 (l.length + 1) c5)
  exact ⟨hj.os, hj.tape, hj.output, hj.size, hj.keep, fun q e => .inr (by have := (H9.lt q e).1; omega)⟩
theorem iv_pre (l : List It) (i q : Nat) (h : q < i * 2) : iv l q = iv (l.eraseIdx i) q := by
  have e : (l.eraseIdx i).getD (q / 2) default = l.getD (q / 2) default := by
    rw [List.getD_eq_getElem?_getD, List.getD_eq_getElem?_getD, List.getElem?_eraseIdx_of_lt (by omega)]
  unfold iv
  rw [e]
theorem iv_post (l : List It) (i q : Nat) (h : ¬ q < i * 2) : iv l ((i + 1) * 2 + (q - i * 2)) = iv (l.eraseIdx i) q := by
  have e : (l.eraseIdx i).getD (q / 2) default = l.getD (((i + 1) * 2 + (q - i * 2)) / 2) default := by
    rw [List.getD_eq_getElem?_getD, List.getD_eq_getElem?_getD, List.getElem?_eraseIdx_of_ge (by omega)]
    congr 2
    omega
  unfold iv
  rw [e, show ((i + 1) * 2 + (q - i * 2)) % 2 = q % 2 by omega]
theorem cut_row2 {w : World} {A : Option Addr} {n c K : Nat} {V U : Nat → Value} (h : Row w A (n * 2) V) (hn : n ≤ c) (hV : ∀ i, V (K * 2 + i) = U i) : Row w (cutA A c K 2) ((n - K) * 2) U := by
  intro h0
  obtain ⟨b, off, h1, h2, h3⟩ := cut_row (K := K) h hn h0
  exact ⟨b, off, h1, h2, fun i hi => (h3 i hi).trans (congrArg some (hV i))⟩
theorem rtake_no (base b : Nat) (most lost : Int) (l : List It) (v : Value) (i : Int) (w : World) (h : Rqu w base b most lost l v) (hi : ¬ (0 ≤ i ∧ i < (l.length : Int))) :
    Calls Try.prog 14 #[.pointer (some ⟨b, 0, none⟩), .int .i64 i] w fun r w' => r = .returned (.tuple #[.slice none 0 0, .bool false]) ∧ w = w' := by
  obtain ⟨a, c, rfl, h3, h4, _⟩ := h.row.row
  have c1 : w.cell? ⟨b, 1, none⟩ = some (.slice a l.length c) := h.own.cell 1
  by_cases h0 : i < 0
  · have g0 : decide (i < 0) = true := by simpa using h0
    clear hi h0 h
    go_enter Try.func14, Try.ntmps14
    go_wp2_with fail
    refine bodyPost_ret (results_tmp2 rfl _ _ _) rfl ?_
    exact ⟨rfl, rfl⟩
  · have g0 : decide (i < 0) = false := by simpa using h0
    have g1 : decide ((l.length : Int) ≤ i) = true := by simp; omega
    clear hi h0 h
    go_enter Try.func14, Try.ntmps14
    go_wp2_with fail
    refine bodyPost_ret (results_tmp2 rfl _ _ _) rfl ?_
    exact ⟨rfl, rfl⟩
set_option maxHeartbeats 4000000 in
theorem rtakeT (base b : Nat) (most lost : Int) (l : List It) (v : Value) (i : Nat) (w : World) (h : Rqu w base b most lost l v) (hi : i < l.length) (hl : l.length ≤ 1000) :
    Calls Try.prog 14 #[.pointer (some ⟨b, 0, none⟩), .int .i64 i] w fun r w' => ∃ v', r = .returned (.tuple #[(l.getD i default).v, .bool true]) ∧ Rqu w' base b most lost (l.eraseIdx i) v' ∧ Turn w w' b v v' := by
  have H := Lib.hid h
  obtain ⟨A, c, rfl, h3, h4, hRow⟩ := h.row.row
  unfold maxLen at h4
  obtain ⟨i0, hi0, hz0, hz1, hz2⟩ := info_parts infoRI
  have c1 : w.cell? ⟨b, 1, none⟩ = some (.slice A l.length c) := h.own.cell 1
  have hlow := h.low
  have hbl := h.own.lt
  have ho1 := h.own
  have q1 : ∀ wq : World, (Instr.slice 33 (.slice A l.length c) none (some (.int .i64 (i : Int))) none).run Try.prog wq = .ok (.slice A i c) wq := cut_to 33 37 2 Try.underlying33 size_ri A l.length c i (by omega)
  have q2 : ∀ wq : World, (Instr.slice 33 (.slice A l.length c) (some (.int .i64 ((i : Int) + 1))) none none).run Try.prog wq = .ok (.slice (cutA A c (i + 1) 2) (l.length - (i + 1)) (c - (i + 1))) wq := fun wq => cut_from 33 37 2 Try.underlying33 size_ri A l.length c (i + 1) hi wq
  have HRs : Hid (Row w (cutA A c (i + 1) 2) ((l.length - (i + 1)) * 2) (fun q => iv l ((i + 1) * 2 + q))) := Lib.hid (cut_row2 hRow h3 (fun _ => rfl))
  have HRp : Hid (Row w A (i * 2) (iv l)) := Lib.hid (hRow.cut (Nat.mul_le_mul_right 2 (by omega)))
  obtain ⟨bo, off, hA, hbo, hcs⟩ := hRow.at_struct (Below.refl _ _) hi (by decide)
  have d1 : w.cell? ⟨bo, off + i * 2 + 1, none⟩ = some (l.getD i default).v := (hcs 1 (by decide)).trans (congrArg some (iv_at l i).2)
  have hv1 := bs_one (h.bytes _ (getD_mem hi))
  obtain ⟨xa, xc, hxv, _, _, _, _⟩ := (h.bytes _ (getD_mem hi)).row
  generalize (l.getD i default).v = xv at *
  subst hxv
  generalize (l.getD i default).n = xn at *
  have hwr : IntKind.i64.wrap ((i : Int) + 1) = (i : Int) + 1 := IntWalk.i64_in _ (by omega)
  have HA := Lib.hid hA
  clear h hRow hcs
  obtain ⟨A2, hA2⟩ : ∃ A2, cutA A c (i + 1) 2 = A2 := ⟨_, rfl⟩
  rw [hA2] at q2 HRs
  clear hA2
  subst hA
  have g0 : decide ((i : Int) < 0) = false := by simp
  have g1 : decide ((l.length : Int) ≤ (i : Int)) = false := by simp; omega
  obtain ⟨m, hm⟩ : ∃ m, l.length = m := ⟨_, rfl⟩
  have HM := Lib.hid hm
  rw [hm] at c1 h3 hi hl q1 q2 HRs g1 ho1
  clear hm
  have s1 : w.drew.cell? ⟨b, 1, none⟩ = some (.slice (some ⟨bo, off, none⟩) m c) := c1
  go_enter Try.func14, Try.ntmps14
  go_wp2_with fail
  go_region_law (first
    | (refine step_appK (w := w.drew) rfl (.const (.slice none 0 0)) (.tmp 32) 33 rfl w.heap.size 37 i0 _ 2 32 Try.underlying33 hi0 hz0 hz1 hz2 rfl (by decide) (.slice none 0 0) 0 (iv []) (by rfl) (MineK.nil _ _ _ _ _) _ i c (iv l) (by rfl) HRp.out (fun i _ => iv_one H.out.ok i) (by unfold maxLen; omega) (by omega) (Nat.le_refl _) ?_; intro v6 w6 m6 g6 l6; have j6 : Below w.heap.size w w6 := (below_drewN (Below.refl _ _) 1).grown g6 (Nat.le_refl _) (fun q e => by cases e); have s6 : w6.cell? ⟨b, 1, none⟩ = some (.slice (some ⟨bo, off, none⟩) m c) := (below_own j6 ho1 hbl).cell 1)
    | (refine step_appK (w := w6) rfl (.tmp 33) (.tmp 40) 33 rfl w.heap.size 37 i0 _ 2 32 Try.underlying33 hi0 hz0 hz1 hz2 rfl (by decide) v6 (0 + i) _ (by rfl) m6 A2 (m - (i + 1)) (c - (i + 1)) (fun q => iv l ((i + 1) * 2 + q)) (by rfl) (HRs.out.below j6) (fun q _ => iv_one H.out.ok _) (by unfold maxLen; omega) (by omega) j6.size ?_; intro v8 w8 m8 g8 l8; have j8 : Below w.heap.size w w8 := j6.grown g8 j6.size (fun q e => (m6.lt q e).1); have s8 : w8.cell? ⟨b, 1, none⟩ = some (.slice (some ⟨bo, off, none⟩) m c) := (below_own j8 ho1 hbl).cell 1; have f8 : w8.frozen? ⟨b, 1, none⟩ = false := (below_own j8 ho1 hbl).free 1; have M8 := Lib.hid m8; obtain ⟨a8, c8, hv8, _, _, _⟩ := m8.row; subst hv8)
    | fail)
  all_goals
    go_wp2_with fail
    refine bodyPost_ret (results_tmp2 rfl _ _ _) rfl ?_
    have hle : i + (m - (i + 1)) = (l.eraseIdx i).length := by rw [List.length_eraseIdx, if_pos (by rw [HM.out]; exact hi), HM.out]; omega
    have e8 : 0 + i + (m - (i + 1)) = (l.eraseIdx i).length := by omega
    rw [hle]
    have h8 := M8.out
    rw [e8] at h8
    have o8 := below_own j8 ho1 hbl
    have h9 : MineK w8 w.heap.size 37 2 (.slice a8 (l.eraseIdx i).length c8) (l.eraseIdx i).length (iv (l.eraseIdx i)) := h8.ext (fun q _ => by
      by_cases h1 : q < i * 2
      · rw [if_pos (by omega), if_neg (by omega), show q - 0 * 2 = q by omega, iv_pre l i q h1]
      · rw [if_neg (by omega), show q - (0 + i) * 2 = q - i * 2 by omega, iv_post l i q h1])
    have hj := (Turn.of_below j8 b (.slice (some ⟨bo, off, none⟩) m c)).put 1 (.slice a8 (l.eraseIdx i).length c8)
    refine ⟨_, rfl, ⟨o8.put 1 _, rq_set (mk_low (base := w.heap.size) (base' := base) h9 (by omega)) o8 1 _, fun x hx => ?_, hlow⟩, ⟨hj.os, hj.tape, hj.output, hj.size, fun q h1 h2 h3 => hj.keep q h1 h2 (by rw [← HM.out]; exact h3), fun q e => .inr (by have := (h9.lt q e).1; omega)⟩⟩
    exact (((H.out.bytes x (List.mem_of_mem_eraseIdx hx)).below j8)).just (Just.set b w8 1 _) o8 (by decide)
set_option maxHeartbeats 2000000 in
theorem rmoveT (base b : Nat) (most lost : Int) (l : List It) (v : Value) (x y : Int) (w : World) (h : Rqu w base b most lost l v) (hl : l.length ≤ 1000) :
    Calls Try.prog 16 #[.pointer (some ⟨b, 0, none⟩), .int .i64 x, .int .i64 y] w fun r w' => r = .returned (.int .i64 (cnt x l l.length : Nat)) ∧ Rqu w' base b most lost (l.map (mv x y)) v ∧ Turn w w' b v v := by
  have hlow := h.low
  have hbase : base ≤ w.heap.size := by have := h.own.lt; omega
  obtain ⟨n, hn⟩ : ∃ n, l.length = n := ⟨_, rfl⟩
  have HN := Lib.hid hn
  have hB := Lib.hid h.bytes
  have hok := Lib.hid h.ok
  have m0 : MineK w base 37 2 v n (mvv x y l 0) := by
    have := h.row
    rw [hn] at this
    exact this.ext (fun j hj => (mvv_zero x y l j).symm)
  have o0 := h.own
  have c1 : w.cell? ⟨b, 1, none⟩ = some v := h.own.cell 1
  obtain ⟨a, c, rfl, h1, h2, hR⟩ := h.row.row
  unfold maxLen at h2
  rw [hn] at hl h1 c1 m0 ⊢
  rw [hn] at o0
  clear hR hn h
  go_enter Try.func16, Try.ntmps16
  go_wp2_with fail
  go_loopw [15, 7] (fun i s wr => ∃ k : Nat, i = .int .i64 k ∧ s = .int .i64 (cnt x l k : Nat) ∧ k ≤ n ∧ MineK wr base 37 2 (.slice a n c) n (mvv x y l k) ∧ Own wr b 35 #[.int .i64 most, .slice a n c, .int .i64 lost] ∧ Hid (∀ t ∈ l, Bs wr t.v t.n t.Z) ∧ Turn w wr b (.slice a n c) (.slice a n c)) (fun i _ _ => n - (intOf i).toNat)
  case atStart => exact ⟨0, rfl, rfl, by omega, m0, o0, hB, Turn.of_below (Below.refl _ _) _ _⟩
  case round =>
    clear m0 o0 hB c1
    obtain ⟨k, rfl, rfl, hk, m1, o1, hB, bb⟩ := hrel
    have hcl := cnt_le x l k
    by_cases hlt : k < n
    · obtain ⟨g, c', cs, hv, hgb, ho, hnc, hcm, hsz, hcv⟩ := m1.block (by omega)
      injection hv with hv1 _ hv2
      subst hv1 hv2
      have hgne : g ≠ b := fun e => by
        subst e
        exact absurd (Lb.own_ty ho o1) (by decide)
      obtain ⟨t, ht⟩ : ∃ t, (l.getD k default).to = t := ⟨_, rfl⟩
      have hkl : k < l.length := by rw [HN.out]; exact hlt
      have hbk := hB.out _ (getD_mem hkl)
      obtain ⟨xa, xc, hxv, _, _, _, _⟩ := hbk.row
      have hc0 : wr.cell? ⟨g, k * 2, none⟩ = some (.int .i64 t) := by
        rw [ho.cell, hcv _ (by omega)]
        unfold mvv
        rw [if_neg (by omega), (iv_at l k).1, ht]
      have hc1 : wr.cell? ⟨g, k * 2 + 1, none⟩ = some (l.getD k default).v := by
        rw [ho.cell, hcv _ (by omega)]
        unfold mvv
        rw [if_neg (by omega), (iv_at l k).2]
      rw [hxv] at hc1
      generalize (l.getD k default).n = xn at *
      have ob := Own.new wr 37 #[.int .i64 t, .slice xa xn xc]
      have hba := (Below.refl wr.heap.size wr).alloc (Nat.le_refl _) (.cells #[.int .i64 t, .slice xa xn xc] 37)
      have m1 := m1.below hba
      have o1 := below_own hba o1 o1.lt
      have ho := below_own hba ho ho.lt
      have hB : Hid (∀ z ∈ l, Bs (wr.alloc (.cells #[.int .i64 t, .slice xa xn xc] 37)) z.v z.n z.Z) := Lib.hid (fun z hz => (hB.out z hz).below hba)
      have bb := bb.trans (Turn.of_below hba b _)
      go_upto_region 5 with (fail)
      generalize wr.alloc (.cells #[.int .i64 t, .slice xa xn xc] 37) = w2 at *
      obtain ⟨r0, hr0⟩ : ∃ r, wr.heap.size = r := ⟨_, rfl⟩
      rw [hr0] at ob ⊢
      have d0 : w2.cell? ⟨r0, 0, none⟩ = some (.int .i64 t) := ob.cell 0
      have c1 : w2.cell? ⟨b, 1, none⟩ = some (.slice (some ⟨g, 0, none⟩) n c) := o1.cell 1
      have hc0 : w2.cell? ⟨g, k * 2, none⟩ = some (.int .i64 t) := by
        rw [ho.cell, hcv _ (by omega)]
        unfold mvv
        rw [if_neg (by omega), (iv_at l k).1, ht]
      have hf0 : w2.frozen? ⟨g, k * 2, none⟩ = false := ho.free _
      clear hc1 hba hr0 ob
      by_cases hx : t = x
      · have HC : Hid ((cnt x l (k + 1) : Int) = (cnt x l k : Int) + 1) := Lib.hid (by
          show ((cnt x l k + if (l.getD k default).to = x then 1 else 0 : Nat) : Int) = _
          rw [if_pos (by rw [ht]; exact hx)]; rfl)
        have HM := Lib.hid ((mineK_put1 m1 (by omega) (k * 2) (.int .i64 y)).ext (U := mvv x y l (k + 1)) (fun j hj => by
          rw [mvv_step, if_pos (show (l.getD k default).to = x by rw [ht]; exact hx)]))
        have HO := Lib.hid (o1.apart (p := ⟨g, k * 2, none⟩) hgne.symm (.int .i64 y))
        have HB : Hid (∀ z ∈ l, Bs (w2.setCell ⟨g, k * 2, none⟩ (.int .i64 y)) z.v z.n z.Z) := Lib.hid (fun z hz => (hB.out z hz).just (Just.set g w2 (k * 2) _) ho (by decide))
        have HBB := Lib.hid (bb.trans (Turn.of_row (b := b) (v := .slice (some ⟨g, 0, none⟩) n c) (v' := .slice (some ⟨g, 0, none⟩) n c) (Just.set g w2 (k * 2) (.int .i64 y)) rfl (fun q e => e)))
        subst hx
        generalize cnt t l k = N at *
        clear ht m1 ho hcv hB hbk hxv
        go_wp2_with fail
        exact ⟨⟨k + 1, by simp [intOf], by rw [HC.out], by omega, HM.out, HO.out, HB, HBB.out⟩, by simp [intOf]; omega⟩
      · have HC : Hid ((cnt x l (k + 1) : Int) = (cnt x l k : Int)) := Lib.hid (by
          show ((cnt x l k + if (l.getD k default).to = x then 1 else 0 : Nat) : Int) = _
          rw [if_neg (by rw [ht]; exact hx)]; rfl)
        have HM := Lib.hid (m1.ext (U := mvv x y l (k + 1)) (fun j hj => by
          rw [mvv_step, if_neg (show ¬ (l.getD k default).to = x by rw [ht]; exact hx)]
          split
          · rename_i hj2
            subst hj2
            unfold mvv
            rw [if_neg (by omega), (iv_at l k).1]
          · rfl))
        have hx2 : (t == x) = false := by simpa using hx
        generalize cnt x l k = N at *
        clear hx ht m1 ho hcv hbk hxv
        go_wp2_with fail
        exact ⟨⟨k + 1, by simp [intOf], by rw [HC.out], by omega, HM.out, o1, hB, bb⟩, by simp [intOf]; omega⟩
    · have hkn : k = n := by omega
      subst hkn
      go_wp2_with fail
      go_ret
      refine ⟨rfl, ⟨?_, ?_, fun t ht => ?_, hlow⟩, bb⟩
      · exact o1
      · rw [List.length_map]
        have m2 := m1
        rw [← HN.out] at m2 ⊢
        exact m2.ext (fun j hj => mvv_all x y l j hj)
      · obtain ⟨t', ht', rfl⟩ := List.mem_map.1 ht
        obtain ⟨e1, e2, e3⟩ := mv_v x y t'
        rw [e1, e2, e3]
        exact hB.out t' ht'
end Go.Proofs.Ytmabdegabeopbaa.Qu
