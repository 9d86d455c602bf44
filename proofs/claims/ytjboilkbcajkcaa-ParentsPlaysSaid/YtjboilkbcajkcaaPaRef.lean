/-
  Package parents: the reference's set: New, drop, First, All, RankOf.
-/
import Derived.Test.YtjboilkbcajkcaaPaCalls
set_option maxRecDepth 100000
namespace Go.Proofs.Ytjboilkbcajkcaa.Pa
set_option linter.unusedVariables false
open Go.RowKit Lb Go.Shelf

/-- The reference's set in block b. -/
structure Rs (w : World) (base b : Nat) (me rk : Int) (l : List P) (v : Value) : Prop where
  own : Own w b 41 #[.int .i64 me, .int .i64 rk, v]
  row : MineK w base 61 3 v l.length (pv l)
  few : l.length ≤ 100
  low : base ≤ b
theorem mk_low {w : World} {base base' s n : Nat} {e : TypeId} {v : Value} {V : Nat → Value} (h : MineK w base e s v n V) (hb : base' ≤ base) : MineK w base' e s v n V := by
  obtain ⟨h1, h2⟩ := h
  refine ⟨h1, ?_⟩
  rcases h2 with h2 | ⟨g, cap, cur, hv, hg, r⟩
  · exact .inl h2
  · exact .inr ⟨g, cap, cur, hv, Nat.le_trans hb hg, r⟩
theorem infoR : (Try.prog.info? 61).map (fun i => (i.zero, i.size, i.bytes)) = some (some (.agg #[.int .i64 0, .int .i64 0, .int .i64 0]), 3, 24) := by kernel_rfl
theorem rmine_ne {w : World} {base n b : Nat} {v : Value} {V : Nat → Value} {cs : Array Value} (h : MineK w base 61 3 v n V) (ho : Own w b 41 cs) : v.ownBlock ≠ some b := fun e => by
  obtain ⟨_, h2⟩ := h
  rcases h2 with ⟨hv, h0⟩ | ⟨g, cap, cur, hv, hg, hh, _⟩
  · rw [hv] at e; cases e
  · rw [hv] at e
    injection e with e
    subst e
    have : 61 = 41 := own_ty hh ho
    revert this
    decide
theorem Rs.ne {w : World} {base b : Nat} {me rk : Int} {l : List P} {v : Value} (h : Rs w base b me rk l v) : v.ownBlock ≠ some b := rmine_ne h.row h.own
theorem Rs.below {w w' : World} {base b : Nat} {me rk : Int} {l : List P} {v : Value} (h : Rs w base b me rk l v) (j : Below w.heap.size w w') : Rs w' base b me rk l v :=
  ⟨below_own j h.own h.own.lt, h.row.below j, h.few, h.low⟩
theorem rrow_put {w : World} {base b n : Nat} {v : Value} {V : Nat → Value} (h : MineK w base 61 3 v n V) (hne : v.ownBlock ≠ some b) (i : Nat) (u : Value) : MineK (w.setCell ⟨b, i, none⟩ u) base 61 3 v n V :=
  h.kept (fun q _ => by
    by_cases e : q = b
    · exact .inr (fun e' => hne (e ▸ e'))
    · exact .inl (Below.heap_setCell _ _ _ _ e))
theorem pv_app (l m : List P) (q : Nat) : (if q < l.length * 3 then pv l q else pv m (q - l.length * 3)) = pv (l ++ m) q := by
  unfold pv at_
  by_cases h : q < l.length * 3
  · rw [if_pos h, List.getD_eq_getElem?_getD, List.getD_eq_getElem?_getD, List.getElem?_append_left (by omega)]
  · rw [if_neg h, List.getD_eq_getElem?_getD, List.getD_eq_getElem?_getD, List.getElem?_append_right (by omega), show (q - l.length * 3) / 3 = q / 3 - l.length by omega, show (q - l.length * 3) % 3 = q % 3 by omega]
theorem pv_one_row (w : World) (x : P) : Row (w.alloc (.cells #[.int .i64 x.n, .int .i64 x.r, .int .i64 x.h] 61)) (some ⟨w.heap.size, 0, none⟩) (1 * 3) (pv [x]) :=
  row_new _ _ _ _ (fun i hi => by rcases (show i = 0 ∨ i = 1 ∨ i = 2 by omega) with rfl | rfl | rfl <;> rfl)
def RdrPost (base b : Nat) (me rk : Int) (l : List P) (p : P → Bool) (w : World) (r : Ending) (w' : World) : Prop :=
  r = .returned (.tuple #[]) ∧ ∃ v', Rs w' base b me rk (kept p l l.length) v' ∧ Just b w w'
set_option maxHeartbeats 1000000 in
theorem rdr_any (base b : Nat) (me rk : Int) (l : List P) (v : Value) (node : Int) (w : World) (t : Rs w base b me rk l v) :
    Calls Try.prog 36 #[.pointer (some ⟨b, 0, none⟩), .int .i64 node] w (RdrPost base b me rk l (fun x => x.n == node) w) := by
  have c2 : w.cell? ⟨b, 2, none⟩ = some v := t.own.cell 2
  obtain ⟨A, c, rfl, hc1, hc2, hR⟩ := t.row.row
  unfold maxLen at hc2
  have hfew := t.few
  have hlow := t.low
  have hlt := t.own.lt
  have HO := Lib.hid t.own
  have HR := Lib.hid hR
  obtain ⟨i0, hi0, hz0, hz1, hz2⟩ := info_parts infoR
  obtain ⟨m, hm⟩ : ∃ m, l.length = m := ⟨_, rfl⟩
  have HL := Lib.hid hm
  rw [hm] at c2 hc1 hfew HR HO
  clear t hR hm
  go_enter Try.func36, Try.ntmps36
  go_wp2_with fail
  go_loopw [12, 4] (fun i u wr => ∃ k : Nat, i = .int .i64 k ∧ k ≤ m ∧ MineK wr w.heap.size 61 3 u (kept (fun x => x.n == node) l k).length (pv (kept (fun x => x.n == node) l k)) ∧ Below w.heap.size w wr) (fun i _ _ => m - (intOf i).toNat)
  case atStart => exact ⟨0, rfl, by omega, MineK.nil _ _ _ _ _, Below.refl _ _⟩
  case round =>
    obtain ⟨k, rfl, hk, hW, b1⟩ := hrel
    by_cases hlt2 : k < m
    · obtain ⟨bo, off, rfl, hbo, d0, d1, d2⟩ := prow HR.out b1 hlt2
      have hks := kept_succ (fun x => x.n == node) l k (by rw [HL.out]; exact hlt2)
      have hkl := kept_len (fun x : P => x.n == node) l k
      obtain ⟨x, hx⟩ : ∃ x, at_ l k = x := ⟨_, rfl⟩
      rw [hx] at d0 d1 d2 hks
      obtain ⟨K, hK⟩ : ∃ K, kept (fun x => x.n == node) l k = K := ⟨_, rfl⟩
      rw [hK] at hW hks hkl
      have HKS := Lib.hid hks
      have ob := Own.new wr 61 #[.int .i64 x.n, .int .i64 x.r, .int .i64 x.h]
      have b2 := b1.alloc b1.size (.cells #[.int .i64 x.n, .int .i64 x.r, .int .i64 x.h] 61)
      have hW2 := hW.alloc (.cells #[.int .i64 x.n, .int .i64 x.r, .int .i64 x.h] 61)
      have hbs := b1.size
      clear hx hK hks hW
      go_upto_region 4 with (fail)
      have hsz : wr.heap.size < (wr.alloc (.cells #[.int .i64 x.n, .int .i64 x.r, .int .i64 x.h] 61)).heap.size := by simp
      generalize wr.alloc (.cells #[.int .i64 x.n, .int .i64 x.r, .int .i64 x.h] 61) = w2 at *
      obtain ⟨g, hg⟩ : ∃ g, wr.heap.size = g := ⟨_, rfl⟩
      rw [hg] at ob hsz hbs ⊢
      clear hg d0 d1 d2
      have d0 : w2.cell? ⟨g, 0, none⟩ = some (.int .i64 x.n) := ob.cell 0
      have d1 : w2.cell? ⟨g, 1, none⟩ = some (.int .i64 x.r) := ob.cell 1
      have d2 : w2.cell? ⟨g, 2, none⟩ = some (.int .i64 x.h) := ob.cell 2
      by_cases he : x.n = node
      · have g1 : (x.n != node) = false := by simpa using he
        have HW3 : Hid (MineK w2 w.heap.size 61 3 u4 (kept (fun x => x.n == node) l (k + 1)).length (pv (kept (fun x => x.n == node) l (k + 1)))) := Lib.hid (by
          rw [HKS.out, if_pos (by simpa using he), List.append_nil]
          exact hW2)
        clear he
        go_wp2_with fail
        exact ⟨⟨k + 1, by simp, by omega, HW3.out, b2⟩, by simp [intOf]; omega⟩
      · have g1 : (x.n != node) = true := by simpa using he
        have HNM : Hid (K.length + 1 ≤ maxLen) := Lib.hid (by unfold maxLen; omega)
        have HR1 := Lib.hid (pv_one_row w2 x)
        have b3 := b2.alloc b2.size (.cells #[.int .i64 x.n, .int .i64 x.r, .int .i64 x.h] 61)
        have hbs3 := b3.size
        have HNE : Hid (kept (fun x => x.n == node) l (k + 1) = K ++ [x]) := Lib.hid (by rw [HKS.out, if_neg (by simpa using he)])
        clear he
        go_wp2_with (at_builtin; go_must (refine wp_appK rfl (.tmp 20) (.tmp 22) _ rfl w.heap.size 61 i0 _ 3 24 Try.underlying39 hi0 hz0 hz1 hz2 rfl (by decide) u4 K.length (pv K) rfl (hW2.alloc _) _ 1 _ (pv [x]) rfl HR1.out (fun i _ => pv_one _ i) HNM.out ?c2 hbs3 ?_))
        case c2 => omega
        intro v9 w9 m9 q9 l9
        have b9 := b3.grown q9 hbs3 (fun q e => by have := (hW2.lt q e).1; omega)
        have HW9 : Hid (MineK w9 w.heap.size 61 3 v9 (kept (fun x => x.n == node) l (k + 1)).length (pv (kept (fun x => x.n == node) l (k + 1)))) := Lib.hid (by
          rw [HNE.out, List.length_append]
          exact m9.ext (fun i _ => pv_app K [x] i))
        clear m9 q9 l9 hW2
        go_wp2_with fail
        exact ⟨⟨k + 1, by simp, by omega, HW9.out, b9⟩, by simp [intOf]; omega⟩
    · obtain rfl : m = k := by omega
      rw [← HL.out] at hW
      obtain ⟨a9, c9, rfl, _, _, _⟩ := hW.row
      have o9 := below_own b1 HO.out hlt
      have f2 := o9.free 2
      have k2 : wr.cell? ⟨b, 2, none⟩ = some (.slice A m c) := o9.cell 2
      have hrl := kept_len (fun x : P => x.n == node) l l.length
      have hlen : (kept (fun x => x.n == node) l l.length).length ≤ 100 := by have := HL.out; omega
      have hq : Rs (wr.setCell ⟨b, 2, none⟩ (.slice a9 (kept (fun x => x.n == node) l l.length).length c9)) base b me rk (kept (fun x => x.n == node) l l.length) (.slice a9 (kept (fun x => x.n == node) l l.length).length c9) := ⟨o9.put 2 _, rrow_put (mk_low hW (by omega)) (fun e => by have := (hW.lt b e).1; omega) 2 _, hlen, hlow⟩
      have jq : Just b w (wr.setCell ⟨b, 2, none⟩ (.slice a9 (kept (fun x => x.n == node) l l.length).length c9)) := (show Just b w wr from ⟨b1.os, b1.tape, b1.output, b1.size, fun q hq _ => b1.block q hq⟩).put 2 _
      have HQ := Lib.hid hq
      have HJ := Lib.hid jq
      clear hW hq jq hlen hrl
      go_wp2_with fail
      go_end0
      exact ⟨rfl, _, HQ.out, HJ.out⟩
end Go.Proofs.Ytjboilkbcajkcaa.Pa
