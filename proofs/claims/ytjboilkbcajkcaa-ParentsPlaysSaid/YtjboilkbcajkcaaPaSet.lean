/-
  Package parents: a set as a value; drop, New, Rank, First, RankOf, All.
-/
import Derived.Test.YtjboilkbcajkcaaPaBs
import Derived.Laws.MakeOwn
set_option maxRecDepth 100000
namespace Go.Proofs.Ytjboilkbcajkcaa.Pa
set_option linter.unusedVariables false
open Go.RowKit Lb

theorem srt_iff (l : List P) : Srt l ↔ l.Pairwise fun a b => cf a b < 0 := by
  rw [List.pairwise_iff_getElem]
  have e : ∀ k (h : k < l.length), at_ l k = l[k] := fun k h => by
    unfold at_
    rw [List.getD_eq_getElem?_getD, List.getElem?_eq_getElem h]
    rfl
  constructor
  · intro h i j hi hj hij
    have := h i j hij hj
    rwa [e i hi, e j hj] at this
  · intro h i j hij hj
    rw [e i (by omega), e j hj]
    exact h i j (by omega) hj hij
theorem srt_kept {l : List P} (h : Srt l) (p : P → Bool) (k : Nat) : Srt (kept p l k) := by
  rw [srt_iff] at *
  exact (h.sublist (List.take_sublist k l)).filter _
/-- From w to w' nothing has turned but block b, the block of v, and what is new; v' lies there. -/
structure Turn (w w' : World) (b : Nat) (v v' : Value) : Prop where
  os : w'.os = w.os
  tape : w'.tape = w.tape
  output : w'.output = w.output
  size : w.heap.size ≤ w'.heap.size
  keep : ∀ q, q < w.heap.size → q ≠ b → v.ownBlock ≠ some q → w'.heap[q]? = w.heap[q]?
  own : ∀ q, v'.ownBlock = some q → v.ownBlock = some q ∨ w.heap.size ≤ q
theorem Turn.of_below {w w' : World} (h : Below w.heap.size w w') (b : Nat) (v : Value) : Turn w w' b v v := ⟨h.os, h.tape, h.output, h.size, fun q hq _ _ => h.block q hq, fun _ e => .inl e⟩
theorem Turn.of_grown {w w' : World} {v v' : Value} (h : w.grownBy w' v.ownBlock) (ho : ∀ q, v'.ownBlock = some q → v.ownBlock = some q ∨ w.heap.size ≤ q) (b : Nat) : Turn w w' b v v' := ⟨h.os, h.tape, h.output, h.size, fun q hq _ hv => h.block q hq (fun e => hv e.symm), ho⟩
theorem Turn.of_just {w w' : World} {b : Nat} (h : Just b w w') (v : Value) : Turn w w' b v v := ⟨h.os, h.tape, h.output, h.size, fun q hq hb _ => h.block q hq hb, fun _ e => .inl e⟩
theorem Turn.trans {u v w : World} {b : Nat} {x y z : Value} (h : Turn u v b x y) (k : Turn v w b y z) : Turn u w b x z :=
  ⟨k.os.trans h.os, k.tape.trans h.tape, k.output.trans h.output, Nat.le_trans h.size k.size, fun q hq hb hx => (k.keep q (Nat.lt_of_lt_of_le hq h.size) hb (fun e => (h.own q e).elim hx (fun h' => by omega))).trans (h.keep q hq hb hx),
    fun q e => (k.own q e).elim (fun e' => h.own q e') (fun h' => .inr (Nat.le_trans h.size h'))⟩
theorem Turn.put {w w1 : World} {b : Nat} {v v1 : Value} (h : Turn w w1 b v v1) (i : Nat) (u : Value) : Turn w (w1.setCell ⟨b, i, none⟩ u) b v v1 := h.trans (Turn.of_just (Just.set b w1 i u) v1)
theorem Turn.below {w w' : World} {b base : Nat} {v v' : Value} (h : Turn w w' b v v') (hb : base ≤ b) (hv : ∀ q, v.ownBlock = some q → base ≤ q) (hs : base ≤ w.heap.size) : Below base w w' :=
  ⟨h.os, h.tape, h.output, h.size, fun q hq => h.keep q (by omega) (by omega) (fun e => by have := hv q e; omega)⟩
/-- The set in block b: who it is, its rank, whom it may follow, in order. -/
structure St (w : World) (base b : Nat) (me rk : Int) (l : List P) (v : Value) : Prop where
  own : Own w b 53 #[.int .i64 me, .int .i64 rk, v]
  row : MineK w base 55 3 v l.length (pv l)
  srt : Srt l
  few : l.length ≤ 100
  low : base ≤ b
theorem own_ty {w : World} {b : Nat} {s t : TypeId} {cs ds : Array Value} (h : Own w b s cs) (g : Own w b t ds) : s = t := by
  unfold Own at h g
  rw [g] at h
  injection h with h
  injection h with _ h _
  exact h.symm
theorem mine_ne {w : World} {base n b : Nat} {v : Value} {V : Nat → Value} {cs : Array Value} (h : MineK w base 55 3 v n V) (ho : Own w b 53 cs) : v.ownBlock ≠ some b := fun e => by
  obtain ⟨_, h2⟩ := h
  rcases h2 with ⟨hv, _⟩ | ⟨g, cap, cur, hv, hg, hh, _⟩
  · subst hv
    cases e
  · subst hv
    have e : some g = some b := e
    injection e with e
    subst e
    exact absurd (own_ty hh ho) (by decide)
theorem St.ne {w : World} {base b : Nat} {me rk : Int} {l : List P} {v : Value} (h : St w base b me rk l v) : v.ownBlock ≠ some b := mine_ne h.row h.own
theorem St.below {w w' : World} {base b : Nat} {me rk : Int} {l : List P} {v : Value} (h : St w base b me rk l v) (j : Below w.heap.size w w') : St w' base b me rk l v :=
  ⟨below_own j h.own h.own.lt, h.row.below j, h.srt, h.few, h.low⟩
theorem St.blk {w : World} {base b : Nat} {me rk : Int} {l : List P} {v : Value} (h : St w base b me rk l v) (q : Nat) (e : v.ownBlock = some q) : base ≤ q ∧ q < w.heap.size := h.row.lt q e
theorem Turn.old {w w' : World} {base b : Nat} {me rk : Int} {l : List P} {v v' : Value} (j : Turn w w' b v v') (t : St w base b me rk l v) : Below base w w' :=
  j.below t.low (fun q e => (t.blk q e).1) (by have := t.own.lt; have := t.low; omega)
theorem row_put {w : World} {base b n : Nat} {v : Value} {V : Nat → Value} (h : MineK w base 55 3 v n V) (hne : v.ownBlock ≠ some b) (i : Nat) (u : Value) : MineK (w.setCell ⟨b, i, none⟩ u) base 55 3 v n V :=
  h.kept (fun q _ => by
    by_cases e : q = b
    · exact .inr (fun e' => hne (e ▸ e'))
    · exact .inl (Below.heap_setCell _ _ _ _ e))
def DrpPost (base b : Nat) (me rk : Int) (l : List P) (p : P → Bool) (v : Value) (w : World) (r : Ending) (w' : World) : Prop :=
  r = .returned (.tuple #[]) ∧ ∃ v', St w' base b me rk (kept p l l.length) v' ∧ Turn w w' b v v' ∧ v'.ownBlock = v.ownBlock
theorem drp_any (base b : Nat) (me rk : Int) (l : List P) (v : Value) (g : FuncId) (lb : Value) (p : P → Bool) (OK : World → Prop) (w : World) (eg : ∀ args w, (callFunc g args).run Try.prog w = .ok (.enter g args) w) (hg : Says g lb p OK) (hO : OK w) (hok : ∀ W W', W.grownBy W' v.ownBlock → OK W → OK W') (t : St w base b me rk l v) :
    Calls Try.prog 28 #[.pointer (some ⟨b, 0, none⟩), .func (.func g) #[] #[lb]] w (DrpPost base b me rk l p v w) := by
  have hdl := dlf_any base v l g lb p OK w eg hg hO hok t.row (by have := t.few; omega)
  have c2 : w.cell? ⟨b, 2, none⟩ = some v := t.own.cell 2
  have HT := Lib.hid t
  clear hg hO hok eg t
  go_enter Try.func28, Try.ntmps28
  go_wp2_with (go_at_call 37; refine hdl.mono ?_; rintro r w5 ⟨v5, rfl, m5, g5, e5⟩; obtain ⟨a5, c5, rfl, hc5, hd5, hR5⟩ := m5.row; have o5 : Own w5 b 53 #[.int .i64 me, .int .i64 rk, v] := grown_own g5 HT.out.own HT.out.ne; have k5 : w5.cell? ⟨b, 2, none⟩ = some v := o5.cell 2; have f5 : w5.frozen? ⟨b, 2, none⟩ = false := o5.free 2)
  go_end0
  have hne : (Value.slice a5 (kept p l l.length).length c5).ownBlock ≠ some b := by rw [e5]; exact HT.out.ne
  exact ⟨rfl, .slice a5 (kept p l l.length).length c5, ⟨o5.put 2 _, row_put m5 hne 2 _, srt_kept HT.out.srt p _, Nat.le_trans (kept_len p l _) HT.out.few, HT.out.low⟩, (Turn.of_grown g5 (fun q e => .inl (e5 ▸ e)) b).put 2 _, e5⟩
theorem rnk_any (base b : Nat) (me rk : Int) (l : List P) (v : Value) (w : World) (t : St w base b me rk l v) :
    Calls Try.prog 23 #[.pointer (some ⟨b, 0, none⟩)] w fun r w' => r = .returned (.int .i64 rk) ∧ w = w' := by
  have c1 : w.cell? ⟨b, 1, none⟩ = some (.int .i64 rk) := t.own.cell 1
  go_enter Try.func23, Try.ntmps23
  go_wp2_with fail
  go_ret
  exact ⟨rfl, rfl⟩
theorem rnk_nil (w : World) : Calls Try.prog 23 #[.pointer none] w fun r w' => r = .returned (.int .i64 0) ∧ w = w' := by
  go_enter Try.func23, Try.ntmps23
  go_wp2_with fail
  go_ret
  exact ⟨rfl, rfl⟩
def fstN (l : List P) : Int := if l.length = 0 then 0 else (at_ l 0).n
theorem fst_any (base b : Nat) (me rk : Int) (l : List P) (v : Value) (w : World) (t : St w base b me rk l v) :
    Calls Try.prog 17 #[.pointer (some ⟨b, 0, none⟩)] w fun r w' => r = .returned (.tuple #[.int .i64 (fstN l), .bool (decide (0 < l.length))]) ∧ w = w' := by
  have c2 : w.cell? ⟨b, 2, none⟩ = some v := t.own.cell 2
  obtain ⟨A, c, rfl, hc1, hc2, hR⟩ := t.row.row
  by_cases h0 : l.length = 0
  · have HD : Hid (fstN l = 0) := Lib.hid (by unfold fstN; rw [if_pos h0])
    have HE : Hid (decide (0 < l.length) = false) := Lib.hid (by rw [h0]; rfl)
    rw [h0] at c2
    clear hR hc1 hc2 t
    go_enter Try.func17, Try.ntmps17
    go_wp2_with fail
    go_ret2
    exact ⟨by rw [HD.out, HE.out]; rfl, rfl⟩
  · obtain ⟨bo, off, rfl, hbo, d0, d1, d2⟩ := prow hR (Below.refl _ _) (show 0 < l.length by omega)
    have d0 : w.cell? ⟨bo, off, none⟩ = some (.int .i64 (at_ l 0).n) := by rw [Nat.zero_mul, Nat.add_zero] at d0; exact d0
    have HD : Hid (fstN l = (at_ l 0).n) := Lib.hid (by unfold fstN; rw [if_neg h0])
    have HE : Hid (decide (0 < l.length) = true) := Lib.hid (by simp; omega)
    obtain ⟨n, hn⟩ : ∃ n, l.length = n := ⟨_, rfl⟩
    rw [hn] at h0 c2 hc1 HE ⊢
    have g1 : ((n : Int) == 0) = false := by simp; omega
    have g2 : 0 < n := by omega
    generalize (at_ l 0).n = x at *
    clear hR hc2 t d1 d2 hn h0
    go_enter Try.func17, Try.ntmps17
    go_wp2_with fail
    go_ret2
    exact ⟨by rw [HD.out, HE.out]; rfl, rfl⟩
theorem fst_nil (w : World) : Calls Try.prog 17 #[.pointer none] w fun r w' => r = .returned (.tuple #[.int .i64 0, .bool false]) ∧ w = w' := by
  go_enter Try.func17, Try.ntmps17
  go_wp2_with fail
  go_ret2
  exact ⟨rfl, rfl⟩
def rkoP (l : List P) (x : Int) : Int × Bool := match l.find? (fun p => p.n == x) with | some p => (p.r, true) | none => (0, false)
theorem rko_at {l : List P} {x : Int} {k : Nat} (hk : k < l.length) (h : ∀ j, j < k → ((at_ l j).n == x) = false) (hx : ((at_ l k).n == x) = true) : rkoP l x = ((at_ l k).r, true) := by
  have e : l.find? (fun p => p.n == x) = some (at_ l k) := by
    rw [List.find?_eq_some_iff_getElem]
    refine ⟨hx, k, hk, ?_, fun j hj => ?_⟩
    · unfold at_
      rw [List.getD_eq_getElem?_getD, List.getElem?_eq_getElem hk]
      rfl
    · have := h j hj
      unfold at_ at this
      rw [List.getD_eq_getElem?_getD, List.getElem?_eq_getElem (by omega)] at this
      simp only [Option.getD_some] at this
      simp [this]
  unfold rkoP
  rw [e]
theorem rko_no {l : List P} {x : Int} (h : ∀ j, j < l.length → ((at_ l j).n == x) = false) : rkoP l x = (0, false) := by
  have e : l.find? (fun p => p.n == x) = none := by
    rw [List.find?_eq_none]
    intro p hp
    obtain ⟨j, hj, rfl⟩ := mem_at hp
    rw [h j hj]
    decide
  unfold rkoP
  rw [e]
theorem rko_nil (x : Int) (w : World) : Calls Try.prog 19 #[.pointer none, .int .i64 x] w fun r w' => r = .returned (.tuple #[.int .i64 0, .bool false]) ∧ w = w' := by
  go_enter Try.func19, Try.ntmps19
  go_wp2_with fail
  go_ret2
  exact ⟨rfl, rfl⟩
theorem rko_any (base b : Nat) (me rk : Int) (l : List P) (v : Value) (x : Int) (w : World) (t : St w base b me rk l v) :
    Calls Try.prog 19 #[.pointer (some ⟨b, 0, none⟩), .int .i64 x] w fun r w' => r = .returned (.tuple #[.int .i64 (rkoP l x).1, .bool (rkoP l x).2]) ∧ Below w.heap.size w w' := by
  have c2 : w.cell? ⟨b, 2, none⟩ = some v := t.own.cell 2
  obtain ⟨A, c, rfl, hc1, hc2, hR⟩ := t.row.row
  unfold maxLen at hc2
  have hfew := t.few
  have HR := Lib.hid hR
  obtain ⟨m, hm⟩ : ∃ m, l.length = m := ⟨_, rfl⟩
  have HL := Lib.hid hm
  rw [hm] at c2 hc1 hfew HR
  clear t hR hm
  go_enter Try.func19, Try.ntmps19
  go_wp2_with fail
  go_loopw [15] (fun i wr => ∃ k : Nat, i = .int .i64 k ∧ k ≤ m ∧ Hid (∀ j, j < k → ((at_ l j).n == x) = false) ∧ Below w.heap.size w wr) (fun i _ => m - (intOf i).toNat)
  case atStart => exact ⟨0, rfl, by omega, Lib.hid (fun j hj => by omega), Below.refl _ _⟩
  case round =>
    obtain ⟨k, rfl, hk, HN, b1⟩ := hrel
    by_cases hlt : k < m
    · obtain ⟨bo, off, rfl, hbo, d0, d1, d2⟩ := prow HR.out b1 hlt
      obtain ⟨y, hy⟩ : ∃ y, at_ l k = y := ⟨_, rfl⟩
      have HY := Lib.hid hy
      rw [hy] at d0 d1 d2
      clear hy
      have b2 := b1.alloc b1.size (.cells #[.int .i64 y.n, .int .i64 y.r, .int .i64 y.h] 55)
      obtain ⟨e, he⟩ : ∃ e, (y.n == x) = e := ⟨_, rfl⟩
      have HE := Lib.hid he
      cases e
      · have HN2 : Hid (∀ j, j < k + 1 → ((at_ l j).n == x) = false) := Lib.hid (fun j hj => by
          by_cases e : j = k
          · subst e; rw [HY.out]; exact HE.out
          · exact HN.out j (by omega))
        go_wp2_with fail
        exact ⟨⟨k + 1, by simp, by omega, HN2, b2⟩, by simp [intOf]; omega⟩
      · have HD : Hid (rkoP l x = (y.r, true)) := Lib.hid (by
          rw [rko_at (by rw [HL.out]; exact hlt) HN.out (by rw [HY.out]; exact HE.out), HY.out])
        go_wp2_with fail
        go_ret2
        exact ⟨by rw [HD.out]; rfl, b2⟩
    · have HD : Hid (rkoP l x = (0, false)) := Lib.hid (rko_no (fun j hj => HN.out j (by rw [HL.out] at hj; omega)))
      go_wp2_with fail
      go_ret2
      exact ⟨by rw [HD.out]; rfl, b1⟩
end Go.Proofs.Ytjboilkbcajkcaa.Pa
