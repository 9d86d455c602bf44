/-
  Package queue: the reference's queue: New, Put, Take, Move. Package queue: what Put keeps and what At tells lies in memory of its own. Package queue: the queue and the reference's, side by side in one memory; each call by one contract.
-/
import Derived.Test.YtiflmdekcjbmbaaGreatGNodeWaits06
import Derived.Test.YtiflmdekcjbmbaaGreatGNodeWaits05
import Derived.Deep.RegionLaw
import Derived.Deep.Cut
import Derived.Deep.CutRange
import Derived.BigRegion
set_option maxRecDepth 100000
namespace Go.Proofs.YtiflmdekcjbmbaaGreat.Qu
set_option linter.unusedVariables false
set_option linter.unusedSimpArgs false
open Go.RowKit Lb

/-- The reference's queue in block b. -/
structure Rqu (w : World) (base b : Nat) (most lost : Int) (l : List It) (v : Value) : Prop where
  own : Own w b 152 #[.int .i64 most, v, .int .i64 lost]
  row : MineK w base 184 2 v l.length (iv l)
  bytes : ∀ x ∈ l, Bs w x.v x.n x.Z
  low : base ≤ b
theorem Rqu.below {w w' : World} {base b : Nat} {most lost : Int} {l : List It} {v : Value} (h : Rqu w base b most lost l v) (j : Below w.heap.size w w') : Rqu w' base b most lost l v where
  own := below_own j h.own h.own.lt
  row := h.row.below j
  bytes x hx := (h.bytes x hx).below j
  low := h.low
theorem Rqu.ok {w : World} {base b : Nat} {most lost : Int} {l : List It} {v : Value} (h : Rqu w base b most lost l v) : itemOk l := fun x hx => bs_one (h.bytes x hx)
theorem infoRI : (Tryz.prog.info? 184).map (fun i => (i.zero, i.size, i.bytes)) = some (some (.agg #[.int .i64 0, .slice none 0 0]), 2, 32) := by kernel_rfl
theorem infoU8 : (Tryz.prog.info? 5).map (fun i => (i.zero, i.size, i.bytes)) = some (some (.int .u8 0), 1, 1) := by kernel_rfl
theorem size_ri (w : World) : (Go.sizeOf 184).run Tryz.prog w = .ok 2 w := by kernel_rfl
theorem Rqu.ne {w : World} {base b q : Nat} {most lost : Int} {l : List It} {v : Value} (h : Rqu w base b most lost l v) (e : v.ownBlock = some q) : q ≠ b := fun e' => by
  subst e'
  obtain ⟨cs, hc⟩ := mineK_own h.row e
  exact absurd (Lb.own_ty hc h.own) (by decide)
theorem rq_set {w : World} {base n b : Nat} {v : Value} {V : Nat → Value} {cs : Array Value} (h : MineK w base 184 2 v n V) (ho : Own w b 152 cs) (i : Nat) (u : Value) : MineK (w.setCell ⟨b, i, none⟩ u) base 184 2 v n V :=
  h.kept (fun q _ => by
    by_cases e : q = b
    · refine .inr (fun e' => ?_)
      subst e
      obtain ⟨ds, hd⟩ := mineK_own h e'
      exact absurd (Lb.own_ty hd ho) (by decide)
    · exact .inl (Below.heap_setCell _ _ _ _ e))
/-- Bytes stay where a block that is none of bytes turns. -/
theorem Bs.turn {w w' : World} {b base s n m : Nat} {v v' x : Value} {t e : TypeId} {ds : Array Value} {V : Nat → Value} {Z : Nat → Int} (h : Bs w x m Z) (j : Turn w w' b v v') (ho : Own w b t ds) (hr : MineK w base e s v n V) (h1 : 5 ≠ t) (h2 : 5 ≠ e) : Bs w' x m Z := by
  rcases h with h | ⟨g, off, c, cs', hv, ho', r⟩
  · exact .inl h
  · exact .inr ⟨g, off, c, cs', hv, j.ty ho hr ho' h1 h2, r⟩
theorem bs_of {w : World} {base n : Nat} {v : Value} {Z : Nat → Int} (h : Mine w base 5 v n (fun i => .int .u8 (Z i))) : Bs w v n Z := by
  unfold Mine at h
  obtain ⟨_, h2⟩ := h
  rcases h2 with ⟨hv, h0⟩ | ⟨g, cap, cur, hv, hg, hh, hc, hm, hs, ht⟩
  · exact .inl ⟨hv, h0⟩
  · refine .inr ⟨g, 0, cap, cur, hv, hh, hc, hm, fun i hi => ?_⟩
    have e1 := congrArg (fun l : List Value => l[i]?) ht
    simp only [Nat.mul_one, List.getElem?_take, if_pos hi, Array.getElem?_toList] at e1
    rw [Nat.zero_add, e1]
    simp [hi]
theorem rnew_any (x : Int) (w : World) :
    Calls Tryz.prog 48 #[.int .i64 x] w fun r w' => r = .returned (.pointer (some ⟨w.heap.size, 0, none⟩)) ∧ Rqu w' w.heap.size w.heap.size (min (max x 1) 32) 0 [] (.slice none 0 0) ∧ Below w.heap.size w w' := by
  have hmm : max 1 (min x 32) = min (max x 1) 32 := by omega
  have ho := Own.new w 152 #[.int .i64 (min (max x 1) 32), .slice none 0 0, .int .i64 0]
  have hb := (Below.refl w.heap.size w).alloc (Nat.le_refl _) (.cells #[.int .i64 (min (max x 1) 32), .slice none 0 0, .int .i64 0] 152)
  go_enter Tryz.func48, Tryz.ntmps48
  go_wp2_with fail
  go_ret
  exact ⟨rfl, ⟨ho, MineK.nil _ _ _ _ _, fun x hx => by simp at hx, Nat.le_refl _⟩, hb⟩
theorem rput_full (base b : Nat) (most lost : Int) (l : List It) (v : Value) (tt : Int) (u : Value) (w : World) (h : Rqu w base b most lost l v) (hm : most ≤ (l.length : Int)) (h0 : 0 ≤ lost) (h1 : lost ≤ 1000000) :
    Calls Tryz.prog 105 #[.pointer (some ⟨b, 0, none⟩), .int .i64 tt, u] w fun r w' => r = .returned (.bool false) ∧ Rqu w' base b most (min (lost + 1) 1000000) l v ∧ Just b w w' := by
  obtain ⟨a, c, rfl, h3, h4, _⟩ := h.row.row
  unfold maxLen at h4
  have c0 : w.cell? ⟨b, 0, none⟩ = some (.int .i64 most) := h.own.cell 0
  have c1 : w.cell? ⟨b, 1, none⟩ = some (.slice a l.length c) := h.own.cell 1
  have c2 : w.cell? ⟨b, 2, none⟩ = some (.int .i64 lost) := h.own.cell 2
  have f1 : w.frozen? ⟨b, 2, none⟩ = false := h.own.free 2
  go_enter Tryz.func105, Tryz.ntmps105
  go_wp2_with fail
  go_quiet (fail)
  go_wp2_with fail
  go_ret
  have j := ((Just.refl b w).drewN nq).put 2 (.int .i64 (min (lost + 1) 1000000))
  refine ⟨rfl, ⟨?_, ?_, fun x hx => (h.bytes x hx).just j h.own (by decide), h.low⟩, j⟩
  · have := (Own.drewN h.own nq).put 2 (.int .i64 (min (lost + 1) 1000000))
    exact this
  · exact rq_set (h.row.drewN nq) (h.own.drewN nq) 2 _
set_option maxHeartbeats 4000000 in
theorem rputT (base b : Nat) (most lost : Int) (l : List It) (v : Value) (tt : Int) (a : Option Addr) (n c : Nat) (Z : Nat → Int) (w : World) (h : Rqu w base b most lost l v) (hm : (l.length : Int) < most) (hl : l.length ≤ 1000) (hn : n ≤ c) (hn2 : n ≤ 100000) (hR : Row w a n (fun i => .int .u8 (Z i))) :
    Calls Tryz.prog 105 #[.pointer (some ⟨b, 0, none⟩), .int .i64 tt, .slice a n c] w fun r w' => r = .returned (.bool true) ∧ ∃ v' u, Rqu w' base b most lost (l ++ [⟨tt, u, n, Z⟩]) v' ∧ Turn w w' b v v' := by
  have H := Lib.hid h
  obtain ⟨a', c', rfl, h3, h4, hRow⟩ := h.row.row
  unfold maxLen at h4
  obtain ⟨i0, hi0, hz0, hz1, hz2⟩ := info_parts infoRI
  obtain ⟨I0, hI0, hZ0, hZ1, hZ2⟩ := info_parts infoU8
  have c0 : w.cell? ⟨b, 0, none⟩ = some (.int .i64 most) := h.own.cell 0
  have c1 : w.cell? ⟨b, 1, none⟩ = some (.slice a' l.length c') := h.own.cell 1
  have g0 : decide (most ≤ (l.length : Int)) = false := by simp; omega
  have hlow := h.low
  have hbl := h.own.lt
  have HRow := Lib.hid hRow
  have HR := Lib.hid hR
  clear h hR hRow
  go_enter Tryz.func105, Tryz.ntmps105
  go_wp2_with fail
  go_quiet (fail)
  go_upto_region 4 with (fail)
  generalize hw1 : w.drewN _ = w1 at *
  have b1 : Below w.heap.size w w1 := by rw [← hw1]; exact below_drewN (Below.refl _ _) _
  have s1 : w1.heap.size = w.heap.size := by rw [← hw1]; rfl
  have c1 : w1.cell? ⟨b, 1, none⟩ = some (.slice a' l.length c') := by rw [← hw1]; exact c1
  have r1 : Row w1 a' (l.length * 2) (iv l) := HRow.out.below b1
  clear hw1 c0 g0
  go_wp2_with (at_builtin; go_must (refine wp_appK (w := w1) rfl (.const (.slice none 0 0)) (.tmp 30) _ rfl w1.heap.size 184 i0 _ 2 32 Tryz.underlying150 hi0 hz0 hz1 hz2 rfl (by decide) (.slice none 0 0) 0 (iv []) (by rfl) (MineK.nil _ _ _ _ _) _ l.length c' (iv l) (by rfl) r1 (fun i _ => iv_one H.out.ok i) ?c1 ?c2 (Nat.le_refl _) ?_))
  case c1 => unfold maxLen; omega
  case c2 => omega
  intro v2 w2 m2 g2 l2
  have b2 : Below w1.heap.size w1 w2 := (Below.refl _ _).grown g2 (Nat.le_refl _) (fun q e => by cases e)
  have r2 : Row w2 a n (fun i => .int .u8 (Z i)) := HR.out.below (b1.trans (b2.mono (by omega)))
  go_wp2_with (at_builtin; go_must (refine wp_app (w := w2) rfl (.const (.slice none 0 0)) (.tmp 33) _ rfl w2.heap.size 5 I0 _ 1 Tryz.underlying35 hI0 hZ0 hZ1 hZ2 rfl (.slice none 0 0) 0 (fun i => .int .u8 0) (by rfl) (Mine.nil _ _ _ _) a n c (fun i => .int .u8 (Z i)) (by rfl) r2 (fun _ _ => rfl) ?c1 ?c2 (Nat.le_refl _) ?_))
  case c1 => unfold maxLen; omega
  case c2 => omega
  intro v3 w3 m3 g3
  have b3 : Below w2.heap.size w2 w3 := (Below.refl _ _).grown g3 (Nat.le_refl _) (fun q e => by cases e)
  have hB3 : Bs w3 v3 n Z := by
    refine bs_of (base := w2.heap.size) ?_
    exact m3
  obtain ⟨a3, c3, rfl, hc3, hd3, hR3, hn3⟩ := hB3.row
  have b13 : Below w.heap.size w w3 := (b1.trans (b2.mono (by omega))).trans (b3.mono (by have := b2.size; omega))
  have hs3 : w.heap.size ≤ w3.heap.size := b13.size
  have m2' := m2.below b3
  clear m3 g3 m2 r1 r2
  have HR1 := Lib.hid (row_new (n := 1 * 2) (V := iv [⟨tt, .slice a3 n c3, n, Z⟩]) w3 #[.int .i64 tt, .slice a3 n c3] 184 (0, 0) (fun i hi => by rcases (show i = 0 ∨ i = 1 by omega) with rfl | rfl <;> rfl))
  have b4 := b13.alloc b13.size (.cells #[.int .i64 tt, .slice a3 n c3] 184)
  have hs4 : w.heap.size ≤ (w3.alloc (.cells #[.int .i64 tt, .slice a3 n c3] 184)).heap.size := by simp; omega
  go_wp2_with (at_builtin; go_must (refine wp_appK rfl (.tmp 31) (.tmp 36) _ rfl w.heap.size 184 i0 _ 2 32 Tryz.underlying150 hi0 hz0 hz1 hz2 rfl (by decide) v2 l.length (iv l) (by rfl) (m2'.alloc _) _ 1 _ (iv [⟨tt, .slice a3 n c3, n, Z⟩]) (by rfl) HR1.out (fun i _ => iv_one (fun x hx => by simp at hx; subst hx; exact bs_one hB3) i) ?c1 ?c2 hs4 ?_))
  case c1 => unfold maxLen; omega
  case c2 => omega
  intro v5 w5 m5 g5 l5
  have j5 : Below w.heap.size w w5 := b4.grown g5 (by omega) (fun q e => by have := (m2'.lt q e).1; omega)
  have hb5 : b < w.heap.size := hbl
  have hlr : ∀ q, v2.ownBlock = some q → ∃ cs, Own (w3.alloc (.cells #[.int .i64 tt, .slice a3 n c3] 184)) q 184 cs := fun q e => mineK_own (m2'.alloc _) e
  have o5 := below_own j5 H.out.own hb5
  have f5 := o5.free 1
  have k5 : w5.cell? ⟨b, 1, none⟩ = some (.slice a' l.length c') := o5.cell 1
  have M5 : MineK w5 w.heap.size 184 2 v5 (l ++ [(⟨tt, .slice a3 n c3, n, Z⟩ : It)]).length (iv (l ++ [(⟨tt, .slice a3 n c3, n, Z⟩ : It)])) := by
    rw [List.length_append]
    exact m5.ext (fun q hq => iv_snoc l _ q hq)
  obtain ⟨a5, c5, hv5, hc5, hd5, _⟩ := M5.row
  subst hv5
  have HB5 : Hid (∀ x ∈ l ++ [(⟨tt, .slice a3 n c3, n, Z⟩ : It)], Bs w5 x.v x.n x.Z) := Lib.hid (fun x hx => by
    rw [List.mem_append, List.mem_singleton] at hx
    have hg : ∀ y m Y, Bs w3 y m Y → Bs w5 y m Y := fun y m Y hy => by
      have hy := hy.below ((Below.refl w3.heap.size w3).alloc (Nat.le_refl _) (.cells #[.int .i64 tt, .slice a3 n c3] 184))
      rcases hy with hy | ⟨g, off, cc, cs', hv, ho', r⟩
      · exact .inl hy
      · refine .inr ⟨g, off, cc, cs', hv, grown_own g5 ho' (fun e => ?_), r⟩
        obtain ⟨cs, hcs⟩ := hlr g e
        exact absurd (Lb.own_ty ho' hcs) (by decide)
    rcases hx with hx | rfl
    · exact hg _ _ _ ((H.out.bytes x hx).below b13)
    · exact hg _ _ _ hB3)
  clear m5 m2' g5 l5 HR1 hlr
  have HM5 := Lib.hid M5
  clear M5
  go_wp2_with fail
  go_ret
  have H9 : MineK w5 w.heap.size 184 2 (.slice a5 (l.length + 1) c5) (l ++ [(⟨tt, .slice a3 n c3, n, Z⟩ : It)]).length (iv (l ++ [(⟨tt, .slice a3 n c3, n, Z⟩ : It)])) := by
    have := HM5.out
    rwa [show Value.slice a5 (l ++ [(⟨tt, .slice a3 n c3, n, Z⟩ : It)]).length c5 = .slice a5 (l.length + 1) c5 by simp] at this
  refine ⟨rfl, _, .slice a3 n c3, ⟨o5.put 1 _, rq_set (mk_low (base := w.heap.size) (base' := base) H9 (by omega)) o5 1 _, fun x hx => (HB5.out x hx).just (Just.set b w5 1 _) o5 (by decide), hlow⟩, ?_⟩
  have hj := (Turn.of_below j5 b (.slice a' l.length c')).put 1 (.slice a5 (l.length + 1) c5)
  exact ⟨hj.os, hj.tape, hj.output, hj.size, hj.keep, fun q e => .inr (by have := (H9.lt q e).1; omega)⟩
theorem iv_pre (l : List It) (i q : Nat) (h : q < i * 2) : iv l q = iv (l.eraseIdx i) q := by
  have e : (l.eraseIdx i).getD (q / 2) default = l.getD (q / 2) default := by
    rw [List.getD_eq_getElem?_getD, List.getD_eq_getElem?_getD, List.getElem?_eraseIdx_of_lt (by omega)]
  unfold iv
  rw [e]
theorem iv_post (l : List It) (i q : Nat) (h : ¬ q < i * 2) : iv l ((i + 1) * 2 + (q - i * 2)) = iv (l.eraseIdx i) q := by
  have e : (l.eraseIdx i).getD (q / 2) default = l.getD (((i + 1) * 2 + (q - i * 2)) / 2) default := by
    rw [List.getD_eq_getElem?_getD, List.getD_eq_getElem?_getD, List.getElem?_eraseIdx_of_ge (by omega)]
    congr 2
    omega
  unfold iv
  rw [e, show ((i + 1) * 2 + (q - i * 2)) % 2 = q % 2 by omega]
theorem cut_row2 {w : World} {A : Option Addr} {n c K : Nat} {V U : Nat → Value} (h : Row w A (n * 2) V) (hn : n ≤ c) (hV : ∀ i, V (K * 2 + i) = U i) : Row w (cutA A c K 2) ((n - K) * 2) U := by
  intro h0
  obtain ⟨b, off, h1, h2, h3⟩ := cut_row (K := K) h hn h0
  exact ⟨b, off, h1, h2, fun i hi => (h3 i hi).trans (congrArg some (hV i))⟩
theorem rtake_no (base b : Nat) (most lost : Int) (l : List It) (v : Value) (i : Int) (w : World) (h : Rqu w base b most lost l v) (hi : ¬ (0 ≤ i ∧ i < (l.length : Int))) :
    Calls Tryz.prog 167 #[.pointer (some ⟨b, 0, none⟩), .int .i64 i] w fun r w' => r = .returned (.tuple #[.slice none 0 0, .bool false]) ∧ w = w' := by
  obtain ⟨a, c, rfl, h3, h4, _⟩ := h.row.row
  have c1 : w.cell? ⟨b, 1, none⟩ = some (.slice a l.length c) := h.own.cell 1
  by_cases h0 : i < 0
  · have g0 : decide (i < 0) = true := by simpa using h0
    clear hi h0 h
    go_enter Tryz.func167, Tryz.ntmps167
    go_wp2_with fail
    refine bodyPost_ret (results_tmp2 rfl _ _ _) rfl ?_
    exact ⟨rfl, rfl⟩
  · have g0 : decide (i < 0) = false := by simpa using h0
    have g1 : decide ((l.length : Int) ≤ i) = true := by simp; omega
    clear hi h0 h
    go_enter Tryz.func167, Tryz.ntmps167
    go_wp2_with fail
    refine bodyPost_ret (results_tmp2 rfl _ _ _) rfl ?_
    exact ⟨rfl, rfl⟩
set_option maxHeartbeats 4000000 in
theorem rtakeT (base b : Nat) (most lost : Int) (l : List It) (v : Value) (i : Nat) (w : World) (h : Rqu w base b most lost l v) (hi : i < l.length) (hl : l.length ≤ 1000) :
    Calls Tryz.prog 167 #[.pointer (some ⟨b, 0, none⟩), .int .i64 i] w fun r w' => ∃ v', r = .returned (.tuple #[(l.getD i default).v, .bool true]) ∧ Rqu w' base b most lost (l.eraseIdx i) v' ∧ Turn w w' b v v' := by
  have H := Lib.hid h
  obtain ⟨A, c, rfl, h3, h4, hRow⟩ := h.row.row
  unfold maxLen at h4
  obtain ⟨i0, hi0, hz0, hz1, hz2⟩ := info_parts infoRI
  have c1 : w.cell? ⟨b, 1, none⟩ = some (.slice A l.length c) := h.own.cell 1
  have hlow := h.low
  have hbl := h.own.lt
  have ho1 := h.own
  have q1 : ∀ wq : World, (Instr.slice 150 (.slice A l.length c) none (some (.int .i64 (i : Int))) none).run Tryz.prog wq = .ok (.slice A i c) wq := cut_to 150 184 2 Tryz.underlying150 size_ri A l.length c i (by omega)
  have q2 : ∀ wq : World, (Instr.slice 150 (.slice A l.length c) (some (.int .i64 ((i : Int) + 1))) none none).run Tryz.prog wq = .ok (.slice (cutA A c (i + 1) 2) (l.length - (i + 1)) (c - (i + 1))) wq := fun wq => cut_from 150 184 2 Tryz.underlying150 size_ri A l.length c (i + 1) hi wq
  have HRs : Hid (Row w (cutA A c (i + 1) 2) ((l.length - (i + 1)) * 2) (fun q => iv l ((i + 1) * 2 + q))) := Lib.hid (cut_row2 hRow h3 (fun _ => rfl))
  have HRp : Hid (Row w A (i * 2) (iv l)) := Lib.hid (hRow.cut (Nat.mul_le_mul_right 2 (by omega)))
  obtain ⟨bo, off, hA, hbo, hcs⟩ := hRow.at_struct (Below.refl _ _) hi (by decide)
  have d1 : w.cell? ⟨bo, off + i * 2 + 1, none⟩ = some (l.getD i default).v := (hcs 1 (by decide)).trans (congrArg some (iv_at l i).2)
  have hv1 := bs_one (h.bytes _ (getD_mem hi))
  obtain ⟨xa, xc, hxv, _, _, _, _⟩ := (h.bytes _ (getD_mem hi)).row
  generalize (l.getD i default).v = xv at *
  subst hxv
  generalize (l.getD i default).n = xn at *
  have hwr : IntKind.i64.wrap ((i : Int) + 1) = (i : Int) + 1 := IntWalk.i64_in _ (by omega)
  have HA := Lib.hid hA
  clear h hRow hcs
  obtain ⟨A2, hA2⟩ : ∃ A2, cutA A c (i + 1) 2 = A2 := ⟨_, rfl⟩
  rw [hA2] at q2 HRs
  clear hA2
  subst hA
  have g0 : decide ((i : Int) < 0) = false := by simp
  have g1 : decide ((l.length : Int) ≤ (i : Int)) = false := by simp; omega
  obtain ⟨m, hm⟩ : ∃ m, l.length = m := ⟨_, rfl⟩
  have HM := Lib.hid hm
  rw [hm] at c1 h3 hi hl q1 q2 HRs g1 ho1
  clear hm
  have s1 : w.drew.cell? ⟨b, 1, none⟩ = some (.slice (some ⟨bo, off, none⟩) m c) := c1
  go_enter Tryz.func167, Tryz.ntmps167
  go_wp2_with fail
  go_region_law (first
    | (refine step_appK (w := w.drew) rfl (.const (.slice none 0 0)) (.tmp 32) 150 rfl w.heap.size 184 i0 _ 2 32 Tryz.underlying150 hi0 hz0 hz1 hz2 rfl (by decide) (.slice none 0 0) 0 (iv []) (by rfl) (MineK.nil _ _ _ _ _) _ i c (iv l) (by rfl) HRp.out (fun i _ => iv_one H.out.ok i) (by unfold maxLen; omega) (by omega) (Nat.le_refl _) ?_; intro v6 w6 m6 g6 l6; have j6 : Below w.heap.size w w6 := (below_drewN (Below.refl _ _) 1).grown g6 (Nat.le_refl _) (fun q e => by cases e); have s6 : w6.cell? ⟨b, 1, none⟩ = some (.slice (some ⟨bo, off, none⟩) m c) := (below_own j6 ho1 hbl).cell 1)
    | (refine step_appK (w := w6) rfl (.tmp 33) (.tmp 40) 150 rfl w.heap.size 184 i0 _ 2 32 Tryz.underlying150 hi0 hz0 hz1 hz2 rfl (by decide) v6 (0 + i) _ (by rfl) m6 A2 (m - (i + 1)) (c - (i + 1)) (fun q => iv l ((i + 1) * 2 + q)) (by rfl) (HRs.out.below j6) (fun q _ => iv_one H.out.ok _) (by unfold maxLen; omega) (by omega) j6.size ?_; intro v8 w8 m8 g8 l8; have j8 : Below w.heap.size w w8 := j6.grown g8 j6.size (fun q e => (m6.lt q e).1); have s8 : w8.cell? ⟨b, 1, none⟩ = some (.slice (some ⟨bo, off, none⟩) m c) := (below_own j8 ho1 hbl).cell 1; have f8 : w8.frozen? ⟨b, 1, none⟩ = false := (below_own j8 ho1 hbl).free 1; have M8 := Lib.hid m8; obtain ⟨a8, c8, hv8, _, _, _⟩ := m8.row; subst hv8)
    | fail)
  all_goals
    go_wp2_with fail
    refine bodyPost_ret (results_tmp2 rfl _ _ _) rfl ?_
    have hle : i + (m - (i + 1)) = (l.eraseIdx i).length := by rw [List.length_eraseIdx, if_pos (by rw [HM.out]; exact hi), HM.out]; omega
    have e8 : 0 + i + (m - (i + 1)) = (l.eraseIdx i).length := by omega
    rw [hle]
    have h8 := M8.out
    rw [e8] at h8
    have o8 := below_own j8 ho1 hbl
    have h9 : MineK w8 w.heap.size 184 2 (.slice a8 (l.eraseIdx i).length c8) (l.eraseIdx i).length (iv (l.eraseIdx i)) := h8.ext (fun q _ => by
      by_cases h1 : q < i * 2
      · rw [if_pos (by omega), if_neg (by omega), show q - 0 * 2 = q by omega, iv_pre l i q h1]
      · rw [if_neg (by omega), show q - (0 + i) * 2 = q - i * 2 by omega, iv_post l i q h1])
    have hj := (Turn.of_below j8 b (.slice (some ⟨bo, off, none⟩) m c)).put 1 (.slice a8 (l.eraseIdx i).length c8)
    refine ⟨_, rfl, ⟨o8.put 1 _, rq_set (mk_low (base := w.heap.size) (base' := base) h9 (by omega)) o8 1 _, fun x hx => ?_, hlow⟩, ⟨hj.os, hj.tape, hj.output, hj.size, fun q h1 h2 h3 => hj.keep q h1 h2 (by rw [← HM.out]; exact h3), fun q e => .inr (by have := (h9.lt q e).1; omega)⟩⟩
    exact (((H.out.bytes x (List.mem_of_mem_eraseIdx hx)).below j8)).just (Just.set b w8 1 _) o8 (by decide)
end Go.Proofs.YtiflmdekcjbmbaaGreat.Qu
set_option maxRecDepth 100000
namespace Go.Proofs.YtiflmdekcjbmbaaGreat.Qu
set_option linter.unusedVariables false
set_option linter.unusedSimpArgs false
open Go.RowKit Lb Go.Shelf

theorem clone_new (a : Option Addr) (n c : Nat) (Z : Nat → Int) (w : World) (hn : n ≤ c) (hc : n ≤ 140737488355328) (hR : Row w a n (fun i => .int .u8 (Z i))) (ha : a = none → n = 0) :
    Calls Tryz.prog 179 #[.slice a n c] w fun r w' => ∃ v, r = .returned v ∧ Bs w' v n Z ∧ Below w.heap.size w w' ∧ ∀ q, v.ownBlock = some q → w.heap.size ≤ q := by
  have hmap : ((List.range n).map Z).map (Value.int .u8) = (List.range n).map (fun i => .int .u8 (Z i)) := by rw [List.map_map]; rfl
  cases a with
  | none =>
    have hcon := Any.bytes_Clone_nil cloneL n c w
    refine Calls.mono hcon ?_
    rintro r w' ⟨rfl, rfl⟩
    exact ⟨_, rfl, .inl ⟨rfl, ha rfl⟩, Below.refl _ _, fun q e => by cases e⟩
  | some p =>
    have hcon := Any.bytes_Clone_at cloneL p n c ((List.range n).map Z) w (by simp) hc (fun i hi => by
      obtain ⟨b, off, hp, _, h3⟩ := hR.at_ hi
      injection hp with hp
      subst hp
      rw [Addr.add_lit, h3]
      simp [hi])
    refine Calls.mono hcon ?_
    rintro r w' ⟨v, rfl, hown, hne, hb⟩
    rw [hmap] at hown
    have hfr : ∀ q, v.ownBlock = some q → w.heap.size ≤ q := fun q e => by
      obtain ⟨_, h2⟩ := hown
      rcases h2 with ⟨hv, _⟩ | ⟨g, cap, cur, hv, hg, _⟩
      · exact absurd hv hne
      · subst hv
        have e : some g = some q := e
        injection e with e
        omega
    refine ⟨v, rfl, ?_, hb, hfr⟩
    obtain ⟨_, h2⟩ := hown
    rcases h2 with ⟨hv, _⟩ | ⟨g, cap, cur, hv, hg, hh, hc, hm, hs, ht⟩
    · exact absurd hv hne
    · refine .inr ⟨g, 0, cap, cur, hv, hh, hc, hm, fun i hi => ?_⟩
      have e1 := congrArg (fun l : List Value => l[i]?) ht
      simp only [Nat.mul_one, List.getElem?_take, if_pos hi, Array.getElem?_toList] at e1
      rw [Nat.zero_add, e1]
      simp [hi]
set_option maxHeartbeats 4000000 in
theorem put_new (base b : Nat) (most lost : Int) (l : List It) (v : Value) (tt0 : Int) (a : Option Addr) (n c : Nat) (Z : Nat → Int) (w : World) (h : Que w base b most lost l v) (hm : (l.length : Int) < most) (hl : l.length ≤ 1000) (hn : n ≤ c) (hn2 : n ≤ 100000) (hR : Row w a n (fun i => .int .u8 (Z i))) (ha : a = none → n = 0) :
    Calls Tryz.prog 172 #[.pointer (some ⟨b, 0, none⟩), .int .i64 tt0, .slice a n c] w fun r w' => r = .returned (.bool true) ∧ ∃ v' u, Que w' base b most lost (l ++ [⟨tt0, u, n, Z⟩]) v' ∧ Below base w w' ∧ (∀ q, u.ownBlock = some q → w.heap.size ≤ q) ∧ ∀ x m Y, Bs w x m Y → Bs w' x m Y := by
  have hrow := h.row
  have hbs := Lib.hid h.bytes
  obtain ⟨a', c', rfl, h3, h4, hRow⟩ := h.row.row
  unfold maxLen at h4
  obtain ⟨i0, hi0, hz0, hz1, hz2⟩ := info_parts infoI
  have c0 := h.c0
  have c2 := h.c2
  have ho := h.own
  have hlow := h.low
  have hok := Lib.hid h.ok
  have g0 : decide (most ≤ (l.length : Int)) = false := by simp; omega
  have hbl := ho.lt
  have hb0 : base ≤ w.heap.size := by omega
  have ht : (220 : TypeId) ≠ 229 := by decide
  have hv2 : ∀ q, (Value.slice a' l.length c').ownBlock = some q → q ≠ b := fun q e => mine_ne h.row h.own e
  clear h
  go_enter Tryz.func172, Tryz.ntmps172
  go_wp2_with fail
  go_quiet (fail)
  generalize hw1 : w.drewN _ = w1 at *
  have m1 : MineK w1 base 229 2 (.slice a' l.length c') l.length (iv l) := by rw [← hw1]; exact hrow.drewN _
  have o1 : Own w1 b 220 #[.int .i64 most, .int .i64 lost, .slice a' l.length c'] := by rw [← hw1]; exact ho.drewN _
  have r1 : Row w1 a n (fun i => .int .u8 (Z i)) := by rw [← hw1]; exact hR.drewN _
  have z1 : w1.heap.size = w.heap.size := by rw [← hw1]; rfl
  have b1 : Below base w w1 := by rw [← hw1]; exact below_drewN (Below.refl _ _) _
  have K1 : Hid (∀ x m Y, Bs w x m Y → Bs w1 x m Y) := Lib.hid (by rw [← hw1]; exact fun x m Y h => h)
  have B1 : Hid (∀ x ∈ l, Bs w1 x.v x.n x.Z) := Lib.hid (by rw [← hw1]; exact hbs.out)
  clear hw1 hrow ho hR c0 c2 hbs hRow
  go_wp2_with fail
  have s0 : w1.drew.cell? ⟨b, 2, none⟩ = some (.slice a' l.length c') := o1.cell 2
  have f0 : w1.frozen? ⟨b, 2, none⟩ = false := o1.free 2
  have s00 : w1.cell? ⟨b, 2, none⟩ = some (.slice a' l.length c') := o1.cell 2
  go_region_law (first
    | (refine step_appK rfl (.tmp 32) (.tmp 37) 218 rfl base 229 i0 _ 2 32 Tryz.underlying218 hi0 hz0 hz1 hz2 rfl (by decide) _ l.length (iv l) (by rfl) (m5.alloc _) _ 1 _ (iv [⟨tt0, .slice a5 n c5, n, Z⟩]) (by rfl) (row_new _ _ _ _ (fun i hi => by rcases (show i = 0 ∨ i = 1 by omega) with rfl | rfl <;> rfl)) (fun i hi => iv_one (fun x hx => by simp at hx; subst hx; exact bs_one hB5) i) (by unfold maxLen; omega) (by omega) (by have := b5.size; simp at this; simp; omega) ?_; intro v6 w6 m6 g6 l6; obtain ⟨a6, c6, rfl, hc6, hd6, hR6⟩ := m6.row; have o6 := grown_own g6 (Own.alloc o5 _) (by intro e; exact hv2 _ e rfl); have s3 : w6.cell? ⟨b, 2, none⟩ = some (.slice a' l.length c') := o6.cell 2; have f6 : w6.frozen? ⟨b, 2, none⟩ = false := o6.free 2)
    | (go_simp; go_at_call 179; refine (clone_new a n c Z _ hn (by omega) (r1.drewN 1) ha).mono ?_; rintro q w5 ⟨v5, rfl, hB5, b5, hfr5⟩; obtain ⟨a5, c5, rfl, hc5, hd5, hR5, hn5⟩ := hB5.row; have o5 := below_own b5 (o1.drewN 1) o1.lt; have s1 : w5.cell? ⟨b, 2, none⟩ = some (.slice a' l.length c') := o5.cell 2; have m5 := (m1.drewN 1).below b5; have s2 : (w5.alloc (.cells #[.int .i64 tt0, .slice a5 n c5] 229)).cell? ⟨b, 2, none⟩ = some (.slice a' l.length c') := (Own.alloc o5 _).cell 2))
  all_goals
    go_wp2_with fail
    go_ret
    have m7 : MineK w6 base 229 2 (.slice a6 (l.length + 1) c6) (l ++ [(⟨tt0, .slice a5 n c5, n, Z⟩ : It)]).length (iv (l ++ [(⟨tt0, .slice a5 n c5, n, Z⟩ : It)])) := by
      rw [List.length_append]
      exact m6.ext (fun q hq => iv_snoc l _ q hq)
    have hgr : ∀ q, (Value.slice a' l.length c').ownBlock = some q → ∃ cs, Own (w5.alloc (.cells #[.int .i64 tt0, .slice a5 n c5] 229)) q 229 cs := fun q e => (mine_at (m5.alloc _) e).2
    have hb1 : base ≤ (w1.drewN 1).heap.size := by show base ≤ w1.heap.size; rw [z1]; exact hb0
    have hb5 : base ≤ w5.heap.size := Nat.le_trans hb1 b5.size
    have bb : Below base w w6 := (((below_drewN b1 1).trans (b5.mono hb1)).alloc hb5 _).grown g6 (by simp; omega) (fun q hq => (mine_at m5 hq).1)
    refine ⟨rfl, _, .slice a5 n c5, ⟨?_, mine_set m7 o6 2 _, fun x hx => ?_, hlow⟩, ?_⟩
    · exact o6.put 2 _
    · have hx2 : Bs w6 x.v x.n x.Z := by
        rw [List.mem_append, List.mem_singleton] at hx
        rcases hx with hx | rfl
        · exact ((((show Bs (w1.drewN 1) x.v x.n x.Z from B1.out x hx).below b5).below ((Below.refl _ _).alloc (Nat.le_refl _) _)).grown g6 hgr)
        · exact (hB5.below ((Below.refl _ _).alloc (Nat.le_refl _) _)).grown g6 hgr
      exact hx2.just (Just.set b w6 2 _) o6 (by decide)
    · exact ⟨(Just.set b w6 2 _).below bb hlow (by have := bb.size; omega), fun q e => by
        have h5 : w1.heap.size ≤ q := hfr5 q e
        omega, fun x m Y hx => by
        have hx2 : Bs w6 x m Y := (((show Bs (w1.drewN 1) x m Y from K1.out x m Y hx).below b5).below ((Below.refl _ _).alloc (Nat.le_refl _) _)).grown g6 hgr
        exact hx2.just (Just.set b w6 2 _) o6 (by decide)⟩
theorem at_new (base b : Nat) (most lost : Int) (l : List It) (v : Value) (i : Nat) (w : World) (h : Que w base b most lost l v) (hi : i < l.length) (hn : (l.getD i default).n ≤ 100000) :
    Calls Tryz.prog 129 #[.pointer (some ⟨b, 0, none⟩), .int .i64 i] w fun r w' => ∃ u, r = .returned (.tuple #[u, .bool true]) ∧ Bs w' u (l.getD i default).n (l.getD i default).Z ∧ Below w.heap.size w w' ∧ ∀ q, u.ownBlock = some q → w.heap.size ≤ q := by
  have HD : Hid (hasB l.length i = true) := Lib.hid (by unfold hasB; rw [decide_eq_true_eq]; omega)
  obtain ⟨g, c, rfl, h1, h2, k0, k1, _⟩ := h.at_ hi
  have c2 := h.c2
  have hb := h.bytes _ (getD_mem hi)
  unfold maxLen at h2
  generalize l.getD i default = x at *
  obtain ⟨tt0, xv, xn, Z⟩ := x
  dsimp only at *
  obtain ⟨a5, c5, rfl, hc5, hd5, hR5, hn5⟩ := hb.row
  go_enter Tryz.func129, Tryz.ntmps129
  go_wp2_with fail
  refine (has_any base b most lost l _ i _ h).mono ?_
  rintro r w' ⟨rfl, rfl⟩
  rw [HD.out]
  go_wp2_with fail
  refine (clone_new a5 xn c5 Z _ hc5 (by omega) hR5 (fun e => (hn5 e).1)).mono ?_
  rintro r w4 ⟨v4, rfl, hB, b4, hf4⟩
  go_wp2_with fail
  refine bodyPost_ret (results_tmp2 rfl _ _ _) rfl ?_
  exact ⟨v4, rfl, hB, b4, hf4⟩
theorem Bs.lt {w : World} {v : Value} {n q : Nat} {Z : Nat → Int} (h : Bs w v n Z) (e : v.ownBlock = some q) : q < w.heap.size := by
  rcases h with ⟨hv, _⟩ | ⟨g, off, c, cs, hv, ho, _⟩
  · subst hv
    cases e
  · subst hv
    have e : some g = some q := e
    injection e with e
    subst e
    exact ho.lt
/-- Bytes stay what they are where another block turns. -/
theorem Bs.other {w w' : World} {v : Value} {n b : Nat} {Z : Nat → Int} (h : Bs w v n Z) (j : Just b w w') (hb : ∀ q, v.ownBlock = some q → q ≠ b) : Bs w' v n Z := by
  rcases h with h | ⟨g, off, c, cs', hv, ho', r⟩
  · exact .inl h
  · exact .inr ⟨g, off, c, cs', hv, j.own ho' (hb g (by rw [hv]; rfl)), r⟩
/-- The queue stays what it is where a block of bytes turns that is none of its own. -/
theorem Que.other {w w' : World} {base b g : Nat} {most lost : Int} {l : List It} {v : Value} {cs : Array Value} (h : Que w base b most lost l v) (j : Just g w w') (ho : Own w g 5 cs) (hb : ∀ x ∈ l, ∀ q, x.v.ownBlock = some q → q ≠ g) : Que w' base b most lost l v where
  own := j.own h.own (fun e => by subst e; exact absurd (own_type h.own ho) (by decide))
  row := h.row.kept (fun q _ => by
    by_cases hq : q = g
    · subst hq
      exact .inr fun e => by
        obtain ⟨_, cs', h'⟩ := mine_at h.row e
        exact absurd (own_type h' ho) (by decide)
    · by_cases hl : q < w.heap.size
      · exact .inl (j.block q hl hq)
      · exact .inr fun e => hl (h.row.lt q e).2)
  bytes x hx := (h.bytes x hx).other j (hb x hx)
  low := h.low
theorem Bs.put {w : World} {g off n c : Nat} {Z : Nat → Int} (h : Bs w (.slice (some ⟨g, off, none⟩) n c) n Z) {i : Nat} (hi : i < n) (z : Int) : Bs (w.setCell ⟨g, off + i, none⟩ (.int .u8 z)) (.slice (some ⟨g, off, none⟩) n c) n (fun j => if j = i then z else Z j) := by
  rcases h with ⟨h, h0⟩ | ⟨g', off', c', cs, hv, ho, h1, h2, h3⟩
  · omega
  · injection hv with e1 _ e2
    injection e1 with e1
    injection e1 with e1 e3
    subst e1 e2 e3
    refine .inr ⟨g, off, c, _, rfl, ho.put _ _, h1, h2, fun j hj => ?_⟩
    have hjs : off + j < cs.size := by
      have := h3 j hj
      by_cases hlt : off + j < cs.size
      · exact hlt
      · rw [Array.getElem?_eq_none (by omega)] at this
        cases this
    rw [Array.getElem?_setIfInBounds]
    by_cases e : i = j
    · subst e
      rw [if_pos rfl, if_pos hjs]
      simp
    · rw [if_neg (by omega), h3 j hj]
      simp [show ¬ j = i from fun e' => e e'.symm]
theorem Bs.at_ {w : World} {a : Option Addr} {n c : Nat} {Z : Nat → Int} (h : Bs w (.slice a n c) n Z) {i : Nat} (hi : i < n) : ∃ g off cs, a = some ⟨g, off, none⟩ ∧ Own w g 5 cs ∧ cs[off + i]? = some (.int .u8 (Z i)) := by
  rcases h with ⟨h, h0⟩ | ⟨g', off', c', cs, hv, ho, h1, h2, h3⟩
  · omega
  · injection hv with e1 _ e2
    exact ⟨g', off', cs, e1, ho, h3 i hi⟩
theorem bs_of_mine {w : World} {base : Nat} {v : Value} {n : Nat} {Z : Nat → Int} (h : Mine w base 5 v n (fun i => .int .u8 (Z i))) : Bs w v n Z := by
  obtain ⟨_, h2⟩ := h
  rcases h2 with ⟨hv, hn⟩ | ⟨g, cap, cur, hv, hg, hh, hc, hm, hs, ht⟩
  · exact .inl ⟨hv, hn⟩
  · refine .inr ⟨g, 0, cap, cur, hv, hh, hc, hm, fun i hi => ?_⟩
    have e1 := congrArg (fun l : List Value => l[i]?) ht
    simp only [Nat.mul_one, List.getElem?_take, if_pos hi, Array.getElem?_toList] at e1
    rw [Nat.zero_add, e1]
    simp [hi]
end Go.Proofs.YtiflmdekcjbmbaaGreat.Qu
set_option maxRecDepth 100000
namespace Go.Proofs.YtiflmdekcjbmbaaGreat.Qu
set_option linter.unusedVariables false
set_option linter.unusedSimpArgs false
open Go.RowKit Lb
def key (x : It) : Int × Nat × (Nat → Int) := (x.to, x.n, x.Z)
def Sim (l l' : List It) : Prop := l.map key = l'.map key
theorem Sim.len {l l' : List It} (h : Sim l l') : l.length = l'.length := by
  have := congrArg List.length h
  simpa using this
theorem Sim.at_ {l l' : List It} (h : Sim l l') (i : Nat) : key (l.getD i default) = key (l'.getD i default) := by
  have e := congrArg (fun z : List (Int × Nat × (Nat → Int)) => z[i]?) h
  simp only [List.getElem?_map] at e
  rw [List.getD_eq_getElem?_getD, List.getD_eq_getElem?_getD]
  cases h1 : l[i]? with
  | none => rw [h1] at e; cases h2 : l'[i]? with
    | none => rfl
    | some y => rw [h2] at e; cases e
  | some x => rw [h1] at e; cases h2 : l'[i]? with
    | none => rw [h2] at e; cases e
    | some y => rw [h2] at e; simpa using e
theorem Sim.to_ {l l' : List It} (h : Sim l l') (i : Nat) : (l.getD i default).to = (l'.getD i default).to := congrArg Prod.fst (h.at_ i)
theorem Sim.n_ {l l' : List It} (h : Sim l l') (i : Nat) : (l.getD i default).n = (l'.getD i default).n := congrArg (fun z => z.2.1) (h.at_ i)
theorem Sim.Z_ {l l' : List It} (h : Sim l l') (i : Nat) : (l.getD i default).Z = (l'.getD i default).Z := congrArg (fun z => z.2.2) (h.at_ i)
theorem Sim.snoc {l l' : List It} (h : Sim l l') (tt : Int) (u u' : Value) (n : Nat) (Z : Nat → Int) : Sim (l ++ [⟨tt, u, n, Z⟩]) (l' ++ [⟨tt, u', n, Z⟩]) := by
  unfold Sim at *
  rw [List.map_append, List.map_append, h]
  rfl
theorem Sim.erase {l l' : List It} (h : Sim l l') (i : Nat) : Sim (l.eraseIdx i) (l'.eraseIdx i) := by
  have e : ∀ (l : List It) (i : Nat), (l.eraseIdx i).map key = (l.map key).eraseIdx i := fun l => by
    induction l with
    | nil => intro i; rfl
    | cons x r ih => intro i; cases i with
      | zero => rfl
      | succ k => simp only [List.eraseIdx_cons_succ, List.map_cons]; rw [ih]
  unfold Sim at *
  rw [e, e, h]
theorem Sim.mv {l l' : List It} (h : Sim l l') (x y : Int) : Sim (l.map (mv x y)) (l'.map (mv x y)) := by
  unfold Sim at *
  have e : ∀ l : List It, (l.map (Qu.mv x y)).map key = (l.map key).map (fun k => (if k.1 = x then y else k.1, k.2)) := fun l => by
    rw [List.map_map, List.map_map]
    apply List.map_congr_left
    intro a _
    show key (Qu.mv x y a) = _
    unfold key
    have := mv_v x y a
    rw [mv_to, this.2.1, this.2.2]
    rfl
  rw [e, e, h]
theorem Sim.cnt {l l' : List It} (h : Sim l l') (x : Int) : ∀ k, cnt x l k = cnt x l' k
  | 0 => rfl
  | k + 1 => by
    show Qu.cnt x l k + (if (l.getD k default).to = x then 1 else 0) = Qu.cnt x l' k + (if (l'.getD k default).to = x then 1 else 0)
    rw [h.cnt x k, h.to_ k]
theorem Sim.tov {l l' : List It} (h : Sim l l') : tov l = tov l' := by
  funext j
  unfold Qu.tov
  rw [h.to_ j]
/-- One turns, the other one stays. -/
theorem Que.oth {w w' : World} {base b rb : Nat} {most lost most' lost' : Int} {l l' : List It} {v rv rv2 : Value} (h : Que w base b most lost l v) (r : Rqu w base rb most' lost' l' rv) (j : Turn w w' rb rv rv2) : Que w' base b most lost l v where
  own := j.ty r.own r.row h.own (by decide) (by decide)
  row := h.row.kept (fun q _ => by
    by_cases e : v.ownBlock = some q
    · obtain ⟨cs, hc⟩ := mineK_own h.row e
      exact .inl ((j.ty r.own r.row hc (by decide) (by decide)).trans hc.symm)
    · exact .inr e)
  bytes x hx := (h.bytes x hx).turn j r.own r.row (by decide) (by decide)
  low := h.low
theorem Rqu.oth {w w' : World} {base b rb : Nat} {most lost most' lost' : Int} {l l' : List It} {v rv v2 : Value} (r : Rqu w base rb most' lost' l' rv) (h : Que w base b most lost l v) (j : Turn w w' b v v2) : Rqu w' base rb most' lost' l' rv where
  own := j.ty h.own h.row r.own (by decide) (by decide)
  row := r.row.kept (fun q _ => by
    by_cases e : rv.ownBlock = some q
    · obtain ⟨cs, hc⟩ := mineK_own r.row e
      exact .inl ((j.ty h.own h.row hc (by decide) (by decide)).trans hc.symm)
    · exact .inr e)
  bytes x hx := (r.bytes x hx).turn j h.own h.row (by decide) (by decide)
  low := r.low
def lostTo (most lost : Int) (n : Nat) : Int := if (n : Int) < most then lost else min (lost + 1) 1000000
/-- Both put. -/
def Put2 (most lost : Int) (n0 : Nat) (l : List It) (tt : Int) (n : Nat) (Z : Nat → Int) (l2 : List It) : Prop := if (n0 : Int) < most then ∃ u, l2 = l ++ [⟨tt, u, n, Z⟩] else l2 = l
theorem put2_sim {most lost : Int} {l l' l2 l2' : List It} {tt : Int} {n : Nat} {Z : Nat → Int} (h : Sim l l') (h1 : Put2 most lost l.length l tt n Z l2) (h2 : Put2 most lost l'.length l' tt n Z l2') : Sim l2 l2' := by
  unfold Put2 at h1 h2
  rw [← h.len] at h2
  split at h1
  · rename_i hc
    rw [if_pos hc] at h2
    obtain ⟨u, rfl⟩ := h1
    obtain ⟨u', rfl⟩ := h2
    exact h.snoc tt u u' n Z
  · rename_i hc
    rw [if_neg hc] at h2
    rw [h1, h2]
    exact h
theorem put2_len {most lost : Int} {l l2 : List It} {tt : Int} {n : Nat} {Z : Nat → Int} (h1 : Put2 most lost l.length l tt n Z l2) (hl : (l.length : Int) ≤ most) : (l2.length : Int) ≤ most := by
  unfold Put2 at h1
  split at h1
  · obtain ⟨u, rfl⟩ := h1
    simp
    omega
  · rw [h1]; exact hl
theorem put_all (base b : Nat) (most lost : Int) (l : List It) (v : Value) (tt : Int) (a : Option Addr) (n c : Nat) (Z : Nat → Int) (w : World) (h : Que w base b most lost l v) (hl : l.length ≤ 1000) (hn : n ≤ c) (hn2 : n ≤ 100000) (hR : Row w a n (fun i => .int .u8 (Z i))) (ha : a = none → n = 0) (h0 : 0 ≤ lost) (h1 : lost ≤ 1000000) :
    Calls Tryz.prog 172 #[.pointer (some ⟨b, 0, none⟩), .int .i64 tt, .slice a n c] w fun r w' => r = .returned (.bool (decide ((l.length : Int) < most))) ∧ ∃ l2 v2, Que w' base b most (lostTo most lost l.length) l2 v2 ∧ Turn w w' b v v2 ∧ Put2 most lost l.length l tt n Z l2 := by
  by_cases hm : (l.length : Int) < most
  · refine (putT base b most lost l v tt a n c Z w h hm hl hn hn2 hR ha).mono ?_
    rintro r w' ⟨rfl, v', u, hq, j⟩
    refine ⟨by rw [decide_eq_true hm], l ++ [⟨tt, u, n, Z⟩], v', ?_, j, ?_⟩
    · unfold lostTo; rw [if_pos hm]; exact hq
    · unfold Put2; rw [if_pos hm]; exact ⟨u, rfl⟩
  · refine (put_full base b most lost l v tt _ w h (by omega) h0 h1).mono ?_
    rintro r w' ⟨rfl, hq, j⟩
    refine ⟨by rw [decide_eq_false hm], l, v, ?_, Turn.of_just j v, ?_⟩
    · unfold lostTo; rw [if_neg hm]; exact hq
    · unfold Put2; rw [if_neg hm]
theorem rput_all (base b : Nat) (most lost : Int) (l : List It) (v : Value) (tt : Int) (a : Option Addr) (n c : Nat) (Z : Nat → Int) (w : World) (h : Rqu w base b most lost l v) (hl : l.length ≤ 1000) (hn : n ≤ c) (hn2 : n ≤ 100000) (hR : Row w a n (fun i => .int .u8 (Z i))) (h0 : 0 ≤ lost) (h1 : lost ≤ 1000000) :
    Calls Tryz.prog 105 #[.pointer (some ⟨b, 0, none⟩), .int .i64 tt, .slice a n c] w fun r w' => r = .returned (.bool (decide ((l.length : Int) < most))) ∧ ∃ l2 v2, Rqu w' base b most (lostTo most lost l.length) l2 v2 ∧ Turn w w' b v v2 ∧ Put2 most lost l.length l tt n Z l2 := by
  by_cases hm : (l.length : Int) < most
  · refine (rputT base b most lost l v tt a n c Z w h hm hl hn hn2 hR).mono ?_
    rintro r w' ⟨rfl, v', u, hq, j⟩
    refine ⟨by rw [decide_eq_true hm], l ++ [⟨tt, u, n, Z⟩], v', ?_, j, ?_⟩
    · unfold lostTo; rw [if_pos hm]; exact hq
    · unfold Put2; rw [if_pos hm]; exact ⟨u, rfl⟩
  · refine (rput_full base b most lost l v tt _ w h (by omega) h0 h1).mono ?_
    rintro r w' ⟨rfl, hq, j⟩
    refine ⟨by rw [decide_eq_false hm], l, v, ?_, Turn.of_just j v, ?_⟩
    · unfold lostTo; rw [if_neg hm]; exact hq
    · unfold Put2; rw [if_neg hm]
/-- What is taken: how many bytes, which; what is left. -/
def tkN (l : List It) (i : Int) : Nat := if hasB l.length i = true then (l.getD i.toNat default).n else 0
def tkZ (l : List It) (i : Int) : Nat → Int := (l.getD i.toNat default).Z
def tkL (l : List It) (i : Int) : List It := if hasB l.length i = true then l.eraseIdx i.toNat else l
theorem Sim.tk {l l' : List It} (h : Sim l l') (i : Int) : hasB l.length i = hasB l'.length i ∧ tkN l i = tkN l' i ∧ tkZ l i = tkZ l' i ∧ Sim (tkL l i) (tkL l' i) := by
  unfold tkN tkZ tkL
  rw [h.len]
  refine ⟨rfl, by rw [h.n_], h.Z_ _, ?_⟩
  split
  · exact h.erase _
  · exact h
theorem tkL_len (l : List It) (i : Int) : (tkL l i).length ≤ l.length := by
  unfold tkL
  split
  · rw [List.length_eraseIdx]; split <;> omega
  · exact Nat.le_refl _
theorem hasB_nat {n : Nat} {i : Int} (h : hasB n i = true) : ∃ k : Nat, i = k ∧ k < n := by
  unfold hasB at h
  simp only [decide_eq_true_eq] at h
  exact ⟨i.toNat, by omega, by omega⟩
theorem take_all (base b : Nat) (most lost : Int) (l : List It) (v : Value) (i : Int) (w : World) (h : Que w base b most lost l v) (hl : l.length ≤ 1000) :
    Calls Tryz.prog 166 #[.pointer (some ⟨b, 0, none⟩), .int .i64 i] w fun r w' => ∃ u v', r = .returned (.tuple #[u, .bool (hasB l.length i)]) ∧ Que w' base b most lost (tkL l i) v' ∧ Bs w' u (tkN l i) (tkZ l i) ∧ Turn w w' b v v' := by
  cases hb : hasB l.length i
  · refine (take_no base b most lost l v i w h (by unfold hasB at hb; simpa using hb)).mono ?_
    rintro r w' ⟨rfl, rfl⟩
    refine ⟨.slice none 0 0, v, rfl, ?_, ?_, Turn.of_below (Below.refl _ _) _ _⟩
    · unfold tkL; rw [hb]; exact h
    · unfold tkN; rw [hb]; exact .inl ⟨rfl, rfl⟩
  · obtain ⟨k, rfl, hk⟩ := hasB_nat hb
    refine (takeT base b most lost l v k w h hk hl).mono ?_
    rintro r w' ⟨v', rfl, hq, hB, j⟩
    refine ⟨_, v', rfl, ?_, ?_, j⟩
    · unfold tkL; rw [hb]; exact hq
    · unfold tkN tkZ; rw [hb]; exact hB
theorem rtake_all (base b : Nat) (most lost : Int) (l : List It) (v : Value) (i : Int) (w : World) (h : Rqu w base b most lost l v) (hl : l.length ≤ 1000) :
    Calls Tryz.prog 167 #[.pointer (some ⟨b, 0, none⟩), .int .i64 i] w fun r w' => ∃ u v', r = .returned (.tuple #[u, .bool (hasB l.length i)]) ∧ Rqu w' base b most lost (tkL l i) v' ∧ Bs w' u (tkN l i) (tkZ l i) ∧ Turn w w' b v v' := by
  cases hb : hasB l.length i
  · refine (rtake_no base b most lost l v i w h (by unfold hasB at hb; simpa using hb)).mono ?_
    rintro r w' ⟨rfl, rfl⟩
    refine ⟨.slice none 0 0, v, rfl, ?_, ?_, Turn.of_below (Below.refl _ _) _ _⟩
    · unfold tkL; rw [hb]; exact h
    · unfold tkN; rw [hb]; exact .inl ⟨rfl, rfl⟩
  · obtain ⟨k, rfl, hk⟩ := hasB_nat hb
    refine (rtakeT base b most lost l v k w h hk hl).mono ?_
    rintro r w' ⟨v', rfl, hq, j⟩
    refine ⟨_, v', rfl, ?_, ?_, j⟩
    · unfold tkL; rw [hb]; exact hq
    · unfold tkN tkZ; rw [hb]; exact (h.bytes _ (getD_mem hk)).turn j h.own h.row (by decide) (by decide)
theorem at_all (base b : Nat) (most lost : Int) (l : List It) (v : Value) (i : Int) (w : World) (h : Que w base b most lost l v) (hn : ∀ x ∈ l, x.n ≤ 100000) :
    Calls Tryz.prog 129 #[.pointer (some ⟨b, 0, none⟩), .int .i64 i] w fun r w' => ∃ u, r = .returned (.tuple #[u, .bool (hasB l.length i)]) ∧ Bs w' u (tkN l i) (tkZ l i) ∧ Below w.heap.size w w' := by
  cases hb : hasB l.length i
  · refine (at_no base b most lost l v i w h (by unfold hasB at hb; simpa using hb)).mono ?_
    rintro r w' ⟨rfl, rfl⟩
    refine ⟨.slice none 0 0, rfl, ?_, Below.refl _ _⟩
    unfold tkN; rw [hb]; exact .inl ⟨rfl, rfl⟩
  · obtain ⟨k, rfl, hk⟩ := hasB_nat hb
    refine (at_yes base b most lost l v k w h hk (hn _ (getD_mem hk))).mono ?_
    rintro r w' ⟨u, rfl, hB, j⟩
    refine ⟨u, rfl, ?_, j⟩
    unfold tkN tkZ; rw [hb]; exact hB
theorem same_intsQ (a b : Option Addr) (n c d : Nat) (V : Nat → Value) (X : Nat → Int) (w : World) (hV : V = fun i => .int .i64 (X i)) (hn : n ≤ c) (hm : n ≤ d) (hc : c ≤ maxLen) (hd : d ≤ maxLen) (hX : Row w a n V) (hY : Row w b n V) :
    Calls Tryz.prog 42 #[.slice a n c, .slice b n d] w fun r w' => r = .returned (.bool true) ∧ ∃ m, w.drewN m = w' := by
  subst hV
  unfold maxLen at hc hd
  go_enter Tryz.func42, Tryz.ntmps42
  go_wp2_with fail
  go_loopw [13] (fun i wr => ∃ (k m : Nat), i = .int .i64 k ∧ k ≤ n ∧ w.drewN m = wr) (fun i _ => n - (intOf i).toNat)
  case atStart => exact ⟨0, 0, rfl, by omega, rfl⟩
  case round =>
    obtain ⟨k, m, rfl, hk, rfl⟩ := hrel
    by_cases hlt : k < n
    · obtain ⟨p, o, rfl, _, h1⟩ := hX.at_ hlt
      obtain ⟨q, s, rfl, _, h2⟩ := hY.at_ hlt
      go_wp2_with fail
      go_quiet (fail)
      go_wp2_with fail
      exact ⟨⟨k + 1, _, by go_num, by omega, rfl⟩, by simp [intOf]; omega⟩
    · obtain rfl : k = n := by omega
      go_wp2_with fail
      go_ret
      exact ⟨rfl, m, rfl⟩
end Go.Proofs.YtiflmdekcjbmbaaGreat.Qu
