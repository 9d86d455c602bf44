/-
  slices.Insert of one struct. Package parents (chapter 14): rows of whom a node may follow, as lists; who is ahead of whom. Package parents: who is ahead of whom. Package parents: slices.IndexFunc, slices.DeleteFunc, by whatever test that only makes memory. Package parents: slices.DeleteFunc, by whatever test that only makes memory. Package parents: the place of one in a row that stands in order. Package parents: a set as a value; drop, New, Rank, First, RankOf, All. Package parents: Hear. Package parents: Hear. Package parents: All. Package parents: Old; slices.Sort by a contract that is handed in.
-/
import Derived.Test.YtiflmdekcjbmbaaGNodeSends04
import Derived.IntWalk
import Derived.Lib.Hide
import Derived.BigQuiet
import Derived.Deep.RegionHeld3
import Derived.Deep.LoopGhost
import Derived.Shelf.Abstract
import Derived.Laws.MakeOwn
import Derived.Deep.RegionLaw
import Derived.BigRegion
import Derived.Deep.CutRange
set_option maxRecDepth 100000
namespace Go.Proofs.Ytiflmdekcjbmbaa.Pa
set_option linter.unusedVariables false
set_option linter.unusedSimpArgs false
open Go.RowKit Lb

end Go.Proofs.Ytiflmdekcjbmbaa.Pa
set_option maxRecDepth 100000
namespace Go.Proofs.Ytiflmdekcjbmbaa.Pa
set_option linter.unusedVariables false
set_option linter.unusedSimpArgs false
open Go.RowKit Lb

structure P where
  n : Int
  r : Int
  h : Int
instance : Inhabited P := ⟨⟨0, 0, 0⟩⟩
def P.vals (x : P) : Array Value := #[.int .i64 x.n, .int .i64 x.r, .int .i64 x.h]
def at_ (l : List P) (k : Nat) : P := l.getD k default
def pv (l : List P) (q : Nat) : Value := ((at_ l (q / 3)).vals[q % 3]?).getD undef
theorem pv_at (l : List P) (k : Nat) : pv l (k * 3) = .int .i64 (at_ l k).n ∧ pv l (k * 3 + 1) = .int .i64 (at_ l k).r ∧ pv l (k * 3 + 2) = .int .i64 (at_ l k).h := by
  unfold pv
  refine ⟨?_, ?_, ?_⟩
  · rw [show k * 3 / 3 = k by omega, show k * 3 % 3 = 0 by omega]; rfl
  · rw [show (k * 3 + 1) / 3 = k by omega, show (k * 3 + 1) % 3 = 1 by omega]; rfl
  · rw [show (k * 3 + 2) / 3 = k by omega, show (k * 3 + 2) % 3 = 2 by omega]; rfl
theorem pv_one (l : List P) (q : Nat) : (pv l q).oneCell' = true := by
  unfold pv
  rcases (show q % 3 = 0 ∨ q % 3 = 1 ∨ q % 3 = 2 by omega) with e | e | e <;> rw [e] <;> rfl
theorem prow {w w' : World} {a : Option Addr} {n k : Nat} {l : List P} (h : Row w a (n * 3) (pv l)) (hb : Below w.heap.size w w') (hk : k < n) :
    ∃ b off, a = some ⟨b, off, none⟩ ∧ b < w.heap.size ∧ w'.cell? ⟨b, off + k * 3, none⟩ = some (.int .i64 (at_ l k).n) ∧ w'.cell? ⟨b, off + k * 3 + 1, none⟩ = some (.int .i64 (at_ l k).r) ∧ w'.cell? ⟨b, off + k * 3 + 2, none⟩ = some (.int .i64 (at_ l k).h) := by
  obtain ⟨b, off, h1, h2, h3⟩ := h.at_struct hb hk (by decide)
  obtain ⟨e0, e1, e2⟩ := pv_at l k
  exact ⟨b, off, h1, h2, (h3 0 (by decide)).trans (congrArg some e0), (h3 1 (by decide)).trans (congrArg some e1), (h3 2 (by decide)).trans (congrArg some e2)⟩
theorem at_mem {l : List P} {k : Nat} (h : k < l.length) : at_ l k ∈ l := by
  unfold at_
  rw [List.getD_eq_getElem?_getD, List.getElem?_eq_getElem h]
  exact List.getElem_mem h
theorem mem_at {l : List P} {x : P} (h : x ∈ l) : ∃ k, k < l.length ∧ at_ l k = x := by
  obtain ⟨k, hk, e⟩ := List.getElem_of_mem h
  refine ⟨k, hk, ?_⟩
  unfold at_
  rw [List.getD_eq_getElem?_getD, List.getElem?_eq_getElem hk]
  exact e
def ins (l : List P) (i : Nat) (x : P) : List P := l.take i ++ x :: l.drop i
theorem ins_len {l : List P} {i : Nat} (x : P) (h : i ≤ l.length) : (ins l i x).length = l.length + 1 := by
  unfold ins
  simp
  omega
theorem at_ins {l : List P} {i : Nat} (x : P) (h : i ≤ l.length) (k : Nat) : at_ (ins l i x) k = if k < i then at_ l k else if k = i then x else at_ l (k - 1) := by
  unfold at_ ins
  simp only [List.getD_eq_getElem?_getD]
  by_cases h1 : k < i
  · rw [if_pos h1, List.getElem?_append_left (by simp; omega), List.getElem?_take, if_pos h1]
  · have hl : (l.take i).length = i := by simp; omega
    rw [if_neg h1, List.getElem?_append_right (by omega), hl]
    by_cases h2 : k = i
    · subst h2
      simp
    · rw [if_neg h2, show k - i = (k - i - 1) + 1 by omega, List.getElem?_cons_succ, List.getElem?_drop, show i + (k - i - 1) = k - 1 by omega]
theorem pv_ins {l : List P} {i : Nat} (x : P) (h : i ≤ l.length) (q : Nat) : insK 3 i (pv l) (pv [x]) q = pv (ins l i x) q := by
  unfold insK pv
  rw [at_ins x h]
  by_cases h1 : q < i * 3
  · rw [if_pos h1, if_pos (by omega)]
  · by_cases h2 : q < i * 3 + 3
    · rw [if_neg h1, if_pos h2, if_neg (by omega), if_pos (by omega), show (q - i * 3) / 3 = 0 by omega, show (q - i * 3) % 3 = q % 3 by omega]
      rfl
    · rw [if_neg h1, if_neg h2, if_neg (by omega), if_neg (by omega), show (q - 3) / 3 = q / 3 - 1 by omega, show (q - 3) % 3 = q % 3 by omega]
theorem pv_congr {l m : List P} {q : Nat} (h : at_ l (q / 3) = at_ m (q / 3)) : pv l q = pv m q := by
  unfold pv
  rw [h]

/-! ### The order: by rank, then by number -/
def orI (x y : Int) : Int := if x = 0 then y else x
def cmpI (x y : Int) : Int := if x < y then -1 else if y < x then 1 else 0
def cf (a b : P) : Int := orI (cmpI a.r b.r) (cmpI a.n b.n)
theorem cf_lt (a b : P) : cf a b < 0 ↔ a.r < b.r ∨ (a.r = b.r ∧ a.n < b.n) := by
  unfold cf orI cmpI
  repeat' split
  all_goals omega
theorem cf_eq (a b : P) : cf a b = 0 ↔ a.r = b.r ∧ a.n = b.n := by
  unfold cf orI cmpI
  repeat' split
  all_goals omega
theorem cf_trans {a b c : P} (h : cf a b < 0) (k : cf b c < 0) : cf a c < 0 := by
  rw [cf_lt] at *
  omega
def Srt (l : List P) : Prop := ∀ i j, i < j → j < l.length → cf (at_ l i) (at_ l j) < 0
theorem srt_mono {l : List P} (h : Srt l) (x : P) : ∀ a b, a ≤ b → b < l.length → cf (at_ l b) x < 0 → cf (at_ l a) x < 0 := fun a b hab hb hx => by
  by_cases e : a = b
  · subst e; exact hx
  · exact cf_trans (h a b (by omega) hb) hx
def pos : List P → P → Nat
  | [], _ => 0
  | c :: r, x => if cf c x < 0 then pos r x + 1 else 0
theorem pos_le (l : List P) (x : P) : pos l x ≤ l.length := by
  induction l with
  | nil => exact Nat.le_refl _
  | cons c r ih => unfold pos; split <;> simp <;> omega
theorem pos_is {x : P} : ∀ (l : List P) (i : Nat), i ≤ l.length → (∀ t, t < i → cf (at_ l t) x < 0) → (i < l.length → ¬ cf (at_ l i) x < 0) → pos l x = i
  | [], i, h, _, _ => by simp at h; subst h; rfl
  | c :: r, 0, _, _, h2 => by
    have := h2 (by simp)
    unfold pos
    exact if_neg this
  | c :: r, i + 1, h, h1, h2 => by
    have h0 : cf c x < 0 := h1 0 (by omega)
    unfold pos
    rw [if_pos h0, pos_is r i (by simpa using h) (fun t ht => h1 (t + 1) (by omega)) (fun hi => h2 (by simpa using hi))]

/-! ### Those that stay -/
def kept (g : P → Bool) (l : List P) (k : Nat) : List P := (l.take k).filter fun x => !g x
theorem kept_succ (g : P → Bool) (l : List P) (k : Nat) (hk : k < l.length) : kept g l (k + 1) = kept g l k ++ if g (at_ l k) = true then [] else [at_ l k] := by
  unfold kept
  have e : l.take (k + 1) = l.take k ++ [at_ l k] := by
    rw [List.take_succ_eq_append_getElem hk]
    unfold at_
    rw [List.getD_eq_getElem?_getD, List.getElem?_eq_getElem hk]
    rfl
  rw [e, List.filter_append]
  congr 1
  cases h : g (at_ l k) <;> simp [List.filter_cons, h]
theorem kept_len (g : P → Bool) (l : List P) (k : Nat) : (kept g l k).length ≤ k := by
  unfold kept
  have h1 := List.length_filter_le (fun x => !g x) (l.take k)
  have h2 : (l.take k).length ≤ k := List.length_take_le _ _
  omega
theorem kept_all (g : P → Bool) (l : List P) (k : Nat) (h : ∀ j, j < k → g (at_ l j) = false) (hk : k ≤ l.length) : kept g l k = l.take k := by
  unfold kept
  rw [List.filter_eq_self]
  intro x hx
  obtain ⟨j, hj, e⟩ := mem_at hx
  have hj2 : j < k := by simp at hj; omega
  have : at_ (l.take k) j = at_ l j := by
    unfold at_
    rw [List.getD_eq_getElem?_getD, List.getD_eq_getElem?_getD, List.getElem?_take, if_pos hj2]
  rw [← e, this, h j hj2]
  rfl
theorem at_snoc (l : List P) (x : P) (k : Nat) : at_ (l ++ [x]) k = if k < l.length then at_ l k else if k = l.length then x else default := by
  unfold at_
  simp only [List.getD_eq_getElem?_getD]
  by_cases h1 : k < l.length
  · rw [if_pos h1, List.getElem?_append_left h1]
  · rw [if_neg h1, List.getElem?_append_right (by omega)]
    by_cases h2 : k = l.length
    · rw [if_pos h2, h2]; simp
    · rw [if_neg h2, List.getElem?_eq_none (by simp; omega)]; rfl
end Go.Proofs.Ytiflmdekcjbmbaa.Pa
set_option maxRecDepth 100000
namespace Go.Proofs.Ytiflmdekcjbmbaa.Pa
set_option linter.unusedVariables false
set_option linter.unusedSimpArgs false
open Go.RowKit Lb

theorem keep_cell {W W' : World} {p : Addr} {v : Value} (hb : Below W.heap.size W W') (h : W.cell? p = some v) : W'.cell? p = some v := (hb.cell (lt_of_cell h)).trans h
end Go.Proofs.Ytiflmdekcjbmbaa.Pa
set_option maxRecDepth 100000
namespace Go.Proofs.Ytiflmdekcjbmbaa.Pa
set_option linter.unusedVariables false
set_option linter.unusedSimpArgs false
open Go.RowKit Lb

/-- The function g, with what it has captured, says p of each, in whatever world that keeps OK; it only makes memory. -/
def Says (g : FuncId) (lb : Value) (p : P → Bool) (OK : World → Prop) : Prop :=
  ∀ (x : P) (w : World), OK w → Calls Try.prog g #[.agg #[.int .i64 x.n, .int .i64 x.r, .int .i64 x.h], lb] w fun e w' => e = .returned (.bool (p x)) ∧ Below w.heap.size w w'
def IdxOf (p : P → Bool) (l : List P) (z : Int) : Prop := (z = -1 ∧ ∀ j, j < l.length → p (at_ l j) = false) ∨ ∃ k : Nat, k < l.length ∧ z = k ∧ p (at_ l k) = true ∧ ∀ j, j < k → p (at_ l j) = false
end Go.Proofs.Ytiflmdekcjbmbaa.Pa
set_option maxRecDepth 100000
namespace Go.Proofs.Ytiflmdekcjbmbaa.Pa
set_option linter.unusedVariables false
set_option linter.unusedSimpArgs false
open Go.RowKit Lb

end Go.Proofs.Ytiflmdekcjbmbaa.Pa
set_option maxRecDepth 100000
namespace Go.Proofs.Ytiflmdekcjbmbaa.Pa
set_option linter.unusedVariables false
set_option linter.unusedSimpArgs false
open Go.RowKit Lb

end Go.Proofs.Ytiflmdekcjbmbaa.Pa
set_option maxRecDepth 100000
namespace Go.Proofs.Ytiflmdekcjbmbaa.Pa
set_option linter.unusedVariables false
set_option linter.unusedSimpArgs false
open Go.RowKit Lb

theorem srt_iff (l : List P) : Srt l ↔ l.Pairwise fun a b => cf a b < 0 := by
  rw [List.pairwise_iff_getElem]
  have e : ∀ k (h : k < l.length), at_ l k = l[k] := fun k h => by
    unfold at_
    rw [List.getD_eq_getElem?_getD, List.getElem?_eq_getElem h]
    rfl
  constructor
  · intro h i j hi hj hij
    have := h i j hij hj
    rwa [e i hi, e j hj] at this
  · intro h i j hij hj
    rw [e i (by omega), e j hj]
    exact h i j (by omega) hj hij
theorem srt_kept {l : List P} (h : Srt l) (p : P → Bool) (k : Nat) : Srt (kept p l k) := by
  rw [srt_iff] at *
  exact (h.sublist (List.take_sublist k l)).filter _
/-- From w to w' nothing has turned but block b, the block of v, and what is new; v' lies there. -/
structure Turn (w w' : World) (b : Nat) (v v' : Value) : Prop where
  os : w'.os = w.os
  tape : w'.tape = w.tape
  output : w'.output = w.output
  size : w.heap.size ≤ w'.heap.size
  keep : ∀ q, q < w.heap.size → q ≠ b → v.ownBlock ≠ some q → w'.heap[q]? = w.heap[q]?
  own : ∀ q, v'.ownBlock = some q → v.ownBlock = some q ∨ w.heap.size ≤ q
theorem Turn.of_below {w w' : World} (h : Below w.heap.size w w') (b : Nat) (v : Value) : Turn w w' b v v := ⟨h.os, h.tape, h.output, h.size, fun q hq _ _ => h.block q hq, fun _ e => .inl e⟩
theorem Turn.of_grown {w w' : World} {v v' : Value} (h : w.grownBy w' v.ownBlock) (ho : ∀ q, v'.ownBlock = some q → v.ownBlock = some q ∨ w.heap.size ≤ q) (b : Nat) : Turn w w' b v v' := ⟨h.os, h.tape, h.output, h.size, fun q hq _ hv => h.block q hq (fun e => hv e.symm), ho⟩
theorem Turn.of_just {w w' : World} {b : Nat} (h : Just b w w') (v : Value) : Turn w w' b v v := ⟨h.os, h.tape, h.output, h.size, fun q hq hb _ => h.block q hq hb, fun _ e => .inl e⟩
theorem Turn.trans {u v w : World} {b : Nat} {x y z : Value} (h : Turn u v b x y) (k : Turn v w b y z) : Turn u w b x z :=
  ⟨k.os.trans h.os, k.tape.trans h.tape, k.output.trans h.output, Nat.le_trans h.size k.size, fun q hq hb hx => (k.keep q (Nat.lt_of_lt_of_le hq h.size) hb (fun e => (h.own q e).elim hx (fun h' => by omega))).trans (h.keep q hq hb hx),
    fun q e => (k.own q e).elim (fun e' => h.own q e') (fun h' => .inr (Nat.le_trans h.size h'))⟩
theorem Turn.put {w w1 : World} {b : Nat} {v v1 : Value} (h : Turn w w1 b v v1) (i : Nat) (u : Value) : Turn w (w1.setCell ⟨b, i, none⟩ u) b v v1 := h.trans (Turn.of_just (Just.set b w1 i u) v1)
theorem Turn.below {w w' : World} {b base : Nat} {v v' : Value} (h : Turn w w' b v v') (hb : base ≤ b) (hv : ∀ q, v.ownBlock = some q → base ≤ q) (hs : base ≤ w.heap.size) : Below base w w' :=
  ⟨h.os, h.tape, h.output, h.size, fun q hq => h.keep q (by omega) (by omega) (fun e => by have := hv q e; omega)⟩
/-- The set in block b: who it is, its rank, whom it may follow, in order. -/
structure St (w : World) (base b : Nat) (me rk : Int) (l : List P) (v : Value) : Prop where
  own : Own w b 95 #[.int .i64 me, .int .i64 rk, v]
  row : MineK w base 97 3 v l.length (pv l)
  srt : Srt l
  few : l.length ≤ 100
  low : base ≤ b
theorem own_ty {w : World} {b : Nat} {s t : TypeId} {cs ds : Array Value} (h : Own w b s cs) (g : Own w b t ds) : s = t := by
  unfold Own at h g
  rw [g] at h
  injection h with h
  injection h with _ h _
  exact h.symm
theorem mine_ne {w : World} {base n b : Nat} {v : Value} {V : Nat → Value} {cs : Array Value} (h : MineK w base 97 3 v n V) (ho : Own w b 95 cs) : v.ownBlock ≠ some b := fun e => by
  obtain ⟨_, h2⟩ := h
  rcases h2 with ⟨hv, _⟩ | ⟨g, cap, cur, hv, hg, hh, _⟩
  · subst hv
    cases e
  · subst hv
    have e : some g = some b := e
    injection e with e
    subst e
    exact absurd (own_ty hh ho) (by decide)
theorem St.ne {w : World} {base b : Nat} {me rk : Int} {l : List P} {v : Value} (h : St w base b me rk l v) : v.ownBlock ≠ some b := mine_ne h.row h.own
theorem St.below {w w' : World} {base b : Nat} {me rk : Int} {l : List P} {v : Value} (h : St w base b me rk l v) (j : Below w.heap.size w w') : St w' base b me rk l v :=
  ⟨below_own j h.own h.own.lt, h.row.below j, h.srt, h.few, h.low⟩
theorem St.blk {w : World} {base b : Nat} {me rk : Int} {l : List P} {v : Value} (h : St w base b me rk l v) (q : Nat) (e : v.ownBlock = some q) : base ≤ q ∧ q < w.heap.size := h.row.lt q e
theorem Turn.old {w w' : World} {base b : Nat} {me rk : Int} {l : List P} {v v' : Value} (j : Turn w w' b v v') (t : St w base b me rk l v) : Below base w w' :=
  j.below t.low (fun q e => (t.blk q e).1) (by have := t.own.lt; have := t.low; omega)
theorem row_put {w : World} {base b n : Nat} {v : Value} {V : Nat → Value} (h : MineK w base 97 3 v n V) (hne : v.ownBlock ≠ some b) (i : Nat) (u : Value) : MineK (w.setCell ⟨b, i, none⟩ u) base 97 3 v n V :=
  h.kept (fun q _ => by
    by_cases e : q = b
    · exact .inr (fun e' => hne (e ▸ e'))
    · exact .inl (Below.heap_setCell _ _ _ _ e))
theorem rnk_any (base b : Nat) (me rk : Int) (l : List P) (v : Value) (w : World) (t : St w base b me rk l v) :
    Calls Try.prog 74 #[.pointer (some ⟨b, 0, none⟩)] w fun r w' => r = .returned (.int .i64 rk) ∧ w = w' := by
  have c1 : w.cell? ⟨b, 1, none⟩ = some (.int .i64 rk) := t.own.cell 1
  go_enter Try.func74, Try.ntmps74
  go_wp2_with fail
  go_ret
  exact ⟨rfl, rfl⟩
theorem rnk_nil (w : World) : Calls Try.prog 74 #[.pointer none] w fun r w' => r = .returned (.int .i64 0) ∧ w = w' := by
  go_enter Try.func74, Try.ntmps74
  go_wp2_with fail
  go_ret
  exact ⟨rfl, rfl⟩
def fstN (l : List P) : Int := if l.length = 0 then 0 else (at_ l 0).n
theorem fst_any (base b : Nat) (me rk : Int) (l : List P) (v : Value) (w : World) (t : St w base b me rk l v) :
    Calls Try.prog 20 #[.pointer (some ⟨b, 0, none⟩)] w fun r w' => r = .returned (.tuple #[.int .i64 (fstN l), .bool (decide (0 < l.length))]) ∧ w = w' := by
  have c2 : w.cell? ⟨b, 2, none⟩ = some v := t.own.cell 2
  obtain ⟨A, c, rfl, hc1, hc2, hR⟩ := t.row.row
  by_cases h0 : l.length = 0
  · have HD : Hid (fstN l = 0) := Lib.hid (by unfold fstN; rw [if_pos h0])
    have HE : Hid (decide (0 < l.length) = false) := Lib.hid (by rw [h0]; rfl)
    rw [h0] at c2
    clear hR hc1 hc2 t
    go_enter Try.func20, Try.ntmps20
    go_wp2_with fail
    go_ret2
    exact ⟨by rw [HD.out, HE.out]; rfl, rfl⟩
  · obtain ⟨bo, off, rfl, hbo, d0, d1, d2⟩ := prow hR (Below.refl _ _) (show 0 < l.length by omega)
    have d0 : w.cell? ⟨bo, off, none⟩ = some (.int .i64 (at_ l 0).n) := by rw [Nat.zero_mul, Nat.add_zero] at d0; exact d0
    have HD : Hid (fstN l = (at_ l 0).n) := Lib.hid (by unfold fstN; rw [if_neg h0])
    have HE : Hid (decide (0 < l.length) = true) := Lib.hid (by simp; omega)
    obtain ⟨n, hn⟩ : ∃ n, l.length = n := ⟨_, rfl⟩
    rw [hn] at h0 c2 hc1 HE ⊢
    have g1 : ((n : Int) == 0) = false := by simp; omega
    have g2 : 0 < n := by omega
    generalize (at_ l 0).n = x at *
    clear hR hc2 t d1 d2 hn h0
    go_enter Try.func20, Try.ntmps20
    go_wp2_with fail
    go_ret2
    exact ⟨by rw [HD.out, HE.out]; rfl, rfl⟩
theorem fst_nil (w : World) : Calls Try.prog 20 #[.pointer none] w fun r w' => r = .returned (.tuple #[.int .i64 0, .bool false]) ∧ w = w' := by
  go_enter Try.func20, Try.ntmps20
  go_wp2_with fail
  go_ret2
  exact ⟨rfl, rfl⟩
end Go.Proofs.Ytiflmdekcjbmbaa.Pa
set_option maxRecDepth 100000
namespace Go.Proofs.Ytiflmdekcjbmbaa.Pa
set_option linter.unusedVariables false
set_option linter.unusedSimpArgs false
open Go.RowKit Lb

def ndB (x : Int) : Bool := decide (0 ≤ x ∧ x < 16)
def rkB (x : Int) : Bool := decide (0 ≤ x ∧ x ≤ 255)
theorem isNode_any (x : Int) (w : World) : Calls Try.prog 57 #[.int .i64 x] w fun r w' => r = .returned (.bool (ndB x)) ∧ w = w' := by
  by_cases h0 : 0 ≤ x
  · by_cases h1 : x < 16
    · have HD : Hid (ndB x = true) := Lib.hid (by simp [ndB, h0, h1])
      go_enter Try.func57, Try.ntmps57
      go_wp2_with fail
      go_ret
      exact ⟨by rw [HD.out]; rfl, rfl⟩
    · have HD : Hid (ndB x = false) := Lib.hid (by simp [ndB]; omega)
      have h2 : decide (x < 16) = false := by simp; omega
      clear h1
      go_enter Try.func57, Try.ntmps57
      go_wp2_with fail
      go_ret
      exact ⟨by rw [HD.out]; rfl, rfl⟩
  · have HD : Hid (ndB x = false) := Lib.hid (by simp [ndB]; omega)
    have h2 : x < 0 := by omega
    clear h0
    go_enter Try.func57, Try.ntmps57
    go_wp2_with fail
    go_ret
    exact ⟨by rw [HD.out]; rfl, rfl⟩
theorem isRank_any (x : Int) (w : World) : Calls Try.prog 58 #[.int .i64 x] w fun r w' => r = .returned (.bool (rkB x)) ∧ w = w' := by
  by_cases h0 : 0 ≤ x
  · by_cases h1 : x ≤ 255
    · have HD : Hid (rkB x = true) := Lib.hid (by simp [rkB, h0, h1])
      go_enter Try.func58, Try.ntmps58
      go_wp2_with fail
      go_ret
      exact ⟨by rw [HD.out]; rfl, rfl⟩
    · have HD : Hid (rkB x = false) := Lib.hid (by simp [rkB]; omega)
      have h2 : decide (x ≤ 255) = false := by simp; omega
      clear h1
      go_enter Try.func58, Try.ntmps58
      go_wp2_with fail
      go_ret
      exact ⟨by rw [HD.out]; rfl, rfl⟩
  · have HD : Hid (rkB x = false) := Lib.hid (by simp [rkB]; omega)
    have h2 : x < 0 := by omega
    clear h0
    go_enter Try.func58, Try.ntmps58
    go_wp2_with fail
    go_ret
    exact ⟨by rw [HD.out]; rfl, rfl⟩
theorem new_yes (me rk : Int) (w : World) (h1 : ndB me = true) (h2 : rkB rk = true) :
    Calls Try.prog 38 #[.int .i64 me, .int .i64 rk] w fun r w' => r = .returned (.pointer (some ⟨w.heap.size, 0, none⟩)) ∧ St w' w.heap.size w.heap.size me rk [] (.slice none 0 0) ∧ Below w.heap.size w w' := by
  have ho := Own.new w 95 #[.int .i64 me, .int .i64 rk, .slice none 0 0]
  have hb := (Below.refl w.heap.size w).alloc (Nat.le_refl _) (.cells #[.int .i64 me, .int .i64 rk, .slice none 0 0] 95)
  have H1 := Lib.hid h1
  have H2 := Lib.hid h2
  clear h1 h2
  go_enter Try.func38, Try.ntmps38
  go_wp2_with (first | ((with_reducible refine (isNode_any _ _).mono ?_); rintro r w' ⟨rfl, rfl⟩; rw [H1.out]) | ((with_reducible refine (isRank_any _ _).mono ?_); rintro r w' ⟨rfl, rfl⟩; rw [H2.out]))
  go_ret
  exact ⟨rfl, ⟨ho, MineK.nil _ _ _ _ _, fun i j _ hj => by simp at hj, by simp, Nat.le_refl _⟩, hb⟩
theorem new_no (me rk : Int) (w : World) (h : ndB me = false ∨ (ndB me = true ∧ rkB rk = false)) :
    Calls Try.prog 38 #[.int .i64 me, .int .i64 rk] w fun r w' => r = .returned (.pointer none) ∧ w = w' := by
  rcases h with h1 | ⟨h1, h2⟩
  · have H1 := Lib.hid h1
    clear h1
    go_enter Try.func38, Try.ntmps38
    go_wp2_with ((with_reducible refine (isNode_any _ _).mono ?_); rintro r w' ⟨rfl, rfl⟩; rw [H1.out])
    go_ret
    exact ⟨rfl, rfl⟩
  · have H1 := Lib.hid h1
    have H2 := Lib.hid h2
    clear h1 h2
    go_enter Try.func38, Try.ntmps38
    go_wp2_with (first | ((with_reducible refine (isNode_any _ _).mono ?_); rintro r w' ⟨rfl, rfl⟩; rw [H1.out]) | ((with_reducible refine (isRank_any _ _).mono ?_); rintro r w' ⟨rfl, rfl⟩; rw [H2.out]))
    go_ret
    exact ⟨rfl, rfl⟩
theorem Turn.box {w w' : World} {b q : Nat} {v v' : Value} {t : TypeId} {cs : Array Value} (j : Turn w w' b v v') (h : Own w q t cs) (hq : q ≠ b) (hv : v.ownBlock ≠ some q) : Own w' q t cs := (j.keep q h.lt hq hv).trans h
theorem Turn.apart {w w' : World} {b q : Nat} {v v' : Value} (j : Turn w w' b v v') (h : q < w.heap.size) (hv : v.ownBlock ≠ some q) : v'.ownBlock ≠ some q := fun e => (j.own q e).elim hv (fun h' => by omega)
/-- What Hear makes of it: the rank, whom it may follow. -/
def l1 (l : List P) (node : Int) : List P := kept (fun x => x.n == node) l l.length
def l2 (l : List P) (x : P) : List P := ins (l1 l x.n) (pos (l1 l x.n) x) x
def rk3 (rk : Int) (x : P) : Int := if x.r + 1 < rk then x.r + 1 else rk
def l3 (rk : Int) (l : List P) (x : P) : List P := if x.r + 1 < rk then kept (fun y => decide (x.r + 1 ≤ y.r)) (l2 l x) (l2 l x).length else l2 l x
def l4 (rk : Int) (l : List P) (x : P) : List P := (l3 rk l x).take 3
def mayH (me : Int) (x : P) : Bool := ndB x.n && (x.n != me && (rkB x.r && decide (0 ≤ x.h)))
def hearR (me rk : Int) (l : List P) (x : P) : Int := if mayH me x = true then (if rk ≤ x.r then rk else rk3 rk x) else rk
def hearL (me rk : Int) (l : List P) (x : P) : List P := if mayH me x = true then (if rk ≤ x.r then l1 l x.n else l4 rk l x) else l
end Go.Proofs.Ytiflmdekcjbmbaa.Pa
set_option maxRecDepth 100000
namespace Go.Proofs.Ytiflmdekcjbmbaa.Pa
set_option linter.unusedVariables false
set_option linter.unusedSimpArgs false
open Go.RowKit Lb Go.Shelf

theorem cf_total {a b : P} (h : ¬ cf a b < 0) (k : ¬ cf b a < 0) : a.n = b.n := by
  rw [cf_lt] at h k
  omega
theorem pos_lt {x : P} : ∀ (l : List P) (t : Nat), t < pos l x → cf (at_ l t) x < 0
  | [], t, h => by simp [pos] at h
  | c :: r, 0, h => by
    unfold pos at h
    split at h
    · assumption
    · omega
  | c :: r, t + 1, h => by
    unfold pos at h
    split at h
    · exact pos_lt r t (by omega)
    · omega
theorem pos_ge {x : P} : ∀ (l : List P), pos l x < l.length → ¬ cf (at_ l (pos l x)) x < 0
  | [], h => by simp at h
  | c :: r, h => by
    by_cases h0 : cf c x < 0
    · have e : pos (c :: r) x = pos r x + 1 := by simp [pos, h0]
      rw [e] at h ⊢
      exact pos_ge r (by simpa using h)
    · have e : pos (c :: r) x = 0 := by simp [pos, h0]
      rw [e]
      exact h0
theorem srt_ins {l : List P} (h : Srt l) {x : P} (hne : ∀ t, t < l.length → (at_ l t).n ≠ x.n) : Srt (ins l (pos l x) x) := by
  have above : ∀ t, pos l x ≤ t → t < l.length → cf x (at_ l t) < 0 := fun t h1 h2 => by
    by_cases hx : cf x (at_ l t) < 0
    · exact hx
    · have hp := pos_ge l (x := x) (by omega)
      have h3 : ¬ cf (at_ l t) x < 0 := fun h3 => hp (srt_mono h x _ _ h1 h2 h3)
      exact absurd (cf_total h3 hx) (hne t h2)
  intro i j hij hj
  rw [ins_len x (pos_le l x)] at hj
  rw [at_ins x (pos_le l x), at_ins x (pos_le l x)]
  by_cases a1 : j < pos l x
  · rw [if_pos (by omega), if_pos a1]
    exact h i j hij (by have := pos_le l x; omega)
  · rw [if_neg a1]
    by_cases a2 : j = pos l x
    · rw [if_pos a2, if_pos (by omega)]
      exact pos_lt l i (by omega)
    · rw [if_neg a2]
      by_cases b1 : i < pos l x
      · rw [if_pos b1]
        exact h i (j - 1) (by omega) (by omega)
      · rw [if_neg b1]
        by_cases b2 : i = pos l x
        · rw [if_pos b2]
          exact above _ (by omega) (by omega)
        · rw [if_neg b2]
          exact h (i - 1) (j - 1) (by omega) (by omega)
theorem l1_ne (l : List P) (node : Int) : ∀ t, t < (l1 l node).length → (at_ (l1 l node) t).n ≠ node := fun t ht e => by
  have hm := at_mem ht
  generalize at_ (l1 l node) t = y at hm e
  unfold l1 kept at hm
  have h2 := (List.mem_filter.mp hm).2
  simp [e] at h2
theorem l2_srt {l : List P} (h : Srt l) (x : P) : Srt (l2 l x) := srt_ins (srt_kept h _ _) (l1_ne l x.n)
theorem l2_len (l : List P) (x : P) : (l2 l x).length = (l1 l x.n).length + 1 := ins_len x (pos_le _ _)
theorem l1_len (l : List P) (node : Int) : (l1 l node).length ≤ l.length := kept_len _ _ _
theorem x_vals (x : P) : ∀ q, q < 3 → x.vals[q]? = some (pv [x] q) := fun q hq => by
  rcases (show q = 0 ∨ q = 1 ∨ q = 2 by omega) with rfl | rfl | rfl <;> rfl
end Go.Proofs.Ytiflmdekcjbmbaa.Pa
set_option maxRecDepth 100000
namespace Go.Proofs.Ytiflmdekcjbmbaa.Pa
set_option linter.unusedVariables false
set_option linter.unusedSimpArgs false
open Go.RowKit Lb

theorem infoI : (Try.prog.info? 3).map (fun i => (i.zero, i.size, i.bytes)) = some (some (.int .i64 0), 1, 8) := by kernel_rfl
def nov (l : List P) (j : Nat) : Value := .int .i64 (at_ l j).n
end Go.Proofs.Ytiflmdekcjbmbaa.Pa
set_option maxRecDepth 100000
namespace Go.Proofs.Ytiflmdekcjbmbaa.Pa
set_option linter.unusedVariables false
set_option linter.unusedSimpArgs false
open Go.RowKit Lb Go.Shelf

def srtd (zs : List Int) : List Int := zs.mergeSort fun x y => decide (x ≤ y)
def zval (zs : List Int) (j : Nat) : Value := .int .i64 (zs.getD j 0)
def goP (last : Int) (l : List P) (k : Nat) : List P := kept (fun x => decide (last < x.h)) l k
def goN (last : Int) (l : List P) : List Int := (goP last l l.length).map (·.n)
theorem goN_len (last : Int) (l : List P) : (goN last l).length = (goP last l l.length).length := by simp [goN]
theorem goN_val (last : Int) (l : List P) (j : Nat) (hj : j < (goP last l l.length).length) : nov (goP last l l.length) j = zval (goN last l) j := by
  unfold nov zval goN at_
  rw [List.getD_eq_getElem?_getD, List.getD_eq_getElem?_getD, List.getElem?_map, List.getElem?_eq_getElem hj]
  rfl
theorem goP_yes {last : Int} {l : List P} {k : Nat} (hk : k < l.length) (h : decide ((at_ l k).h ≤ last) = true) : goP last l (k + 1) = goP last l k ++ [at_ l k] := by
  unfold goP
  rw [kept_succ _ _ _ hk, if_neg]
  simp at h ⊢
  omega
theorem goP_no {last : Int} {l : List P} {k : Nat} (hk : k < l.length) (h : decide ((at_ l k).h ≤ last) = false) : goP last l (k + 1) = goP last l k := by
  unfold goP
  rw [kept_succ _ _ _ hk, if_pos, List.append_nil]
  simp at h ⊢
  omega
theorem nov_snoc (G : List P) (y : P) (q : Nat) (hq : q < G.length + 1) : (if q < G.length then nov G q else .int .i64 y.n) = nov (G ++ [y]) q := by
  unfold nov at_
  by_cases h : q < G.length
  · rw [if_pos h, List.getD_eq_getElem?_getD, List.getD_eq_getElem?_getD, List.getElem?_append_left h]
  · obtain rfl : q = G.length := by omega
    rw [if_neg h, List.getD_eq_getElem?_getD, List.getElem?_append_right (Nat.le_refl _)]
    simp
end Go.Proofs.Ytiflmdekcjbmbaa.Pa
