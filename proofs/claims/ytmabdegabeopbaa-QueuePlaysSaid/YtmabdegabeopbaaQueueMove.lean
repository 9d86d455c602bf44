/-
  Package queue: Move.
-/
import Derived.Test.YtmabdegabeopbaaQueueTo
set_option maxRecDepth 100000
namespace Go.Proofs.Ytmabdegabeopbaa.Qu
set_option linter.unusedVariables false
open Go.RowKit Lb

theorem mineK_put1 {w : World} {base g s n c : Nat} {e : TypeId} {V : Nat → Value} (h : MineK w base e s (.slice (some ⟨g, 0, none⟩) n c) n V) (hn : 0 < n) (i : Nat) (u : Value) :
    MineK (w.setCell ⟨g, i, none⟩ u) base e s (.slice (some ⟨g, 0, none⟩) n c) n (fun j => if j = i then u else V j) := by
  obtain ⟨g', c', cs, hv, hgb, ho, hnc, hcm, hsz, hcv⟩ := h.block hn
  injection hv with hv1 _ hv2
  injection hv1 with hv1
  injection hv1 with hv1
  subst hv1 hv2
  refine MineK.made (ho.put i u) hgb (by simpa using hsz) hcm hnc (fun j hj => ?_)
  rw [Array.getElem?_setIfInBounds]
  have hjs : j < cs.size := by rw [hsz]; exact Nat.lt_of_lt_of_le hj (Nat.mul_le_mul_right _ hnc)
  by_cases hij : i = j
  · subst hij
    rw [if_pos rfl, if_pos hjs, if_pos rfl]
  · rw [if_neg hij, if_neg (fun e => hij e.symm), hcv j hj]
/-- An item that goes to another one now. -/
def mv (x y : Int) (t : It) : It := if t.to = x then { t with to := y } else t
theorem mv_to (x y : Int) (t : It) : (mv x y t).to = if t.to = x then y else t.to := by
  unfold mv
  split <;> rfl
theorem mv_v (x y : Int) (t : It) : (mv x y t).v = t.v ∧ (mv x y t).n = t.n ∧ (mv x y t).Z = t.Z := by
  unfold mv
  split <;> exact ⟨rfl, rfl, rfl⟩
def mvv (x y : Int) (l : List It) (k j : Nat) : Value := if j % 2 = 0 ∧ j / 2 < k then .int .i64 (if (l.getD (j / 2) default).to = x then y else (l.getD (j / 2) default).to) else iv l j
theorem mvv_zero (x y : Int) (l : List It) (j : Nat) : mvv x y l 0 j = iv l j := by
  unfold mvv
  rw [if_neg (by omega)]
theorem mvv_all (x y : Int) (l : List It) (j : Nat) (hj : j < l.length * 2) : mvv x y l l.length j = iv (l.map (mv x y)) j := by
  have e : (l.map (mv x y)).getD (j / 2) default = mv x y (l.getD (j / 2) default) := by
    rw [List.getD_eq_getElem?_getD, List.getD_eq_getElem?_getD, List.getElem?_map, List.getElem?_eq_getElem (by omega)]
    rfl
  unfold mvv iv
  rw [e]
  by_cases h : j % 2 = 0
  · rw [if_pos ⟨h, by omega⟩, if_pos h, mv_to]
  · rw [if_neg (fun e => h e.1), if_neg h, if_neg h, (mv_v x y _).1]
theorem mvv_step (x y : Int) (l : List It) (k j : Nat) : mvv x y l (k + 1) j = if j = k * 2 then .int .i64 (if (l.getD k default).to = x then y else (l.getD k default).to) else mvv x y l k j := by
  unfold mvv
  by_cases h : j = k * 2
  · subst h
    rw [if_pos (by omega), if_pos rfl, show k * 2 / 2 = k by omega]
  · rw [if_neg h]
    by_cases h2 : j % 2 = 0 ∧ j / 2 < k
    · rw [if_pos h2, if_pos ⟨h2.1, by omega⟩]
    · rw [if_neg h2, if_neg (by omega)]
def cnt (x : Int) (l : List It) : Nat → Nat
  | 0 => 0
  | k + 1 => cnt x l k + if (l.getD k default).to = x then 1 else 0
theorem cnt_le (x : Int) (l : List It) : ∀ k, cnt x l k ≤ k
  | 0 => Nat.le_refl _
  | k + 1 => by
    have := cnt_le x l k
    unfold cnt
    split <;> omega
set_option maxHeartbeats 2000000 in
theorem move_any (base b : Nat) (most lost : Int) (l : List It) (v : Value) (x y : Int) (w : World) (h : Que w base b most lost l v) (hl : l.length ≤ 1000) :
    Calls Try.prog 15 #[.pointer (some ⟨b, 0, none⟩), .int .i64 x, .int .i64 y] w fun r w' => r = .returned (.int .i64 (cnt x l l.length : Nat)) ∧ Que w' base b most lost (l.map (mv x y)) v ∧ Below base w w' := by
  have hlow := h.low
  have hbase : base ≤ w.heap.size := by have := h.own.lt; omega
  obtain ⟨n, hn⟩ : ∃ n, l.length = n := ⟨_, rfl⟩
  have HN := Lib.hid hn
  have hB := Lib.hid h.bytes
  have m0 : MineK w base 56 2 v n (mvv x y l 0) := by
    have := h.row
    rw [hn] at this
    exact this.ext (fun j hj => (mvv_zero x y l j).symm)
  have o0 := h.own
  have c2 := h.c2
  obtain ⟨a, c, rfl, h1, h2, hR⟩ := h.row.row
  unfold maxLen at h2
  rw [hn] at hl h1 c2 m0 ⊢
  rw [hn] at o0
  clear hR hn h
  go_enter Try.func15, Try.ntmps15
  go_wp2_with fail
  go_loopw [16, 7] (fun i s wr => ∃ k : Nat, i = .int .i64 k ∧ s = .int .i64 (cnt x l k : Nat) ∧ k ≤ n ∧ MineK wr base 56 2 (.slice a n c) n (mvv x y l k) ∧ Own wr b 53 #[.int .i64 most, .int .i64 lost, .slice a n c] ∧ Hid (∀ t ∈ l, Bs wr t.v t.n t.Z) ∧ Below base w wr) (fun i _ _ => n - (intOf i).toNat)
  case atStart => exact ⟨0, rfl, rfl, by omega, m0, o0, hB, Below.refl _ _⟩
  case round =>
    clear m0 o0 hB c2
    obtain ⟨k, rfl, rfl, hk, m1, o1, hB, bb⟩ := hrel
    have hcl := cnt_le x l k
    by_cases hlt : k < n
    · obtain ⟨g, c', cs, hv, hgb, ho, hnc, hcm, hsz, hcv⟩ := m1.block (by omega)
      injection hv with hv1 _ hv2
      subst hv1 hv2
      have c2 : wr.cell? ⟨b, 2, none⟩ = some (.slice (some ⟨g, 0, none⟩) n c) := o1.cell 2
      have hgne : g ≠ b := fun e => by
        subst e
        exact absurd (own_type ho o1) (by decide)
      obtain ⟨t, ht⟩ : ∃ t, (l.getD k default).to = t := ⟨_, rfl⟩
      have hc0 : wr.cell? ⟨g, k * 2, none⟩ = some (.int .i64 t) := by
        rw [ho.cell, hcv _ (by omega)]
        unfold mvv
        rw [if_neg (by omega), (iv_at l k).1, ht]
      have hf0 : wr.frozen? ⟨g, k * 2, none⟩ = false := ho.free _
      by_cases hx : t = x
      · have HC : Hid ((cnt x l (k + 1) : Int) = (cnt x l k : Int) + 1) := Lib.hid (by
          show ((cnt x l k + if (l.getD k default).to = x then 1 else 0 : Nat) : Int) = _
          rw [if_pos (by rw [ht]; exact hx)]; rfl)
        have HM := Lib.hid ((mineK_put1 m1 (by omega) (k * 2) (.int .i64 y)).ext (U := mvv x y l (k + 1)) (fun j hj => by
          rw [mvv_step, if_pos (show (l.getD k default).to = x by rw [ht]; exact hx)]))
        have HO := Lib.hid (o1.apart (p := ⟨g, k * 2, none⟩) hgne.symm (.int .i64 y))
        have HB : Hid (∀ t ∈ l, Bs (wr.setCell ⟨g, k * 2, none⟩ (.int .i64 y)) t.v t.n t.Z) := Lib.hid (fun t ht => (hB.out t ht).just (Just.set g wr (k * 2) _) ho (by decide))
        have HBB := Lib.hid ((Just.set g wr (k * 2) (.int .i64 y)).below bb hgb (Nat.le_trans hbase bb.size))
        subst hx
        generalize cnt t l k = N at *
        clear ht m1 ho hcv hB
        go_wp2_with fail
        exact ⟨⟨k + 1, by simp [intOf], by rw [HC.out], by omega, HM.out, HO.out, HB, HBB.out⟩, by simp [intOf]; omega⟩
      · have HC : Hid ((cnt x l (k + 1) : Int) = (cnt x l k : Int)) := Lib.hid (by
          show ((cnt x l k + if (l.getD k default).to = x then 1 else 0 : Nat) : Int) = _
          rw [if_neg (by rw [ht]; exact hx)]; rfl)
        have HM := Lib.hid (m1.ext (U := mvv x y l (k + 1)) (fun j hj => by
          rw [mvv_step, if_neg (show ¬ (l.getD k default).to = x by rw [ht]; exact hx)]
          split
          · rename_i hj2
            subst hj2
            unfold mvv
            rw [if_neg (by omega), (iv_at l k).1]
          · rfl))
        have hx2 : (t == x) = false := by simpa using hx
        generalize cnt x l k = N at *
        clear hx ht m1 ho hcv
        go_wp2_with fail
        exact ⟨⟨k + 1, by simp [intOf], by rw [HC.out], by omega, HM.out, o1, hB, bb⟩, by simp [intOf]; omega⟩
    · have hkn : k = n := by omega
      subst hkn
      go_wp2_with fail
      go_ret
      refine ⟨rfl, ⟨?_, ?_, fun t ht => ?_, hlow⟩, bb⟩
      · exact o1
      · rw [List.length_map]
        have m2 := m1
        rw [← HN.out] at m2 ⊢
        exact m2.ext (fun j hj => mvv_all x y l j hj)
      · obtain ⟨t', ht', rfl⟩ := List.mem_map.1 ht
        obtain ⟨e1, e2, e3⟩ := mv_v x y t'
        rw [e1, e2, e3]
        exact hB.out t' ht'
end Go.Proofs.Ytmabdegabeopbaa.Qu
