/-
  Package queue: the queue and the reference's, side by side in one memory; each call by one contract. Slices of structs: copy, and what slices.Insert makes of a row. slices.Insert of one struct.
-/
import Derived.Test.YtiflmdekcjbmbaaGreatGNodeNil06
import Derived.Test.YtiflmdekcjbmbaaGreatGNodeNil04
import Derived.Lib.AppendZerosOnto
import Derived.Lib.Overlaps
import Derived.Laws.Externs
import Derived.Lib.SliceRun
import Derived.Deep.RegionLaw
import Derived.Lib.Hide
import Derived.IntWalk
set_option maxRecDepth 100000
namespace Go.Proofs.YtiflmdekcjbmbaaGreat.Qu
set_option linter.unusedVariables false
set_option linter.unusedSimpArgs false
open Go.RowKit Lb
def key (x : It) : Int × Nat × (Nat → Int) := (x.to, x.n, x.Z)
def Sim (l l' : List It) : Prop := l.map key = l'.map key
theorem Sim.len {l l' : List It} (h : Sim l l') : l.length = l'.length := by
  have := congrArg List.length h
  simpa using this
theorem Sim.at_ {l l' : List It} (h : Sim l l') (i : Nat) : key (l.getD i default) = key (l'.getD i default) := by
  have e := congrArg (fun z : List (Int × Nat × (Nat → Int)) => z[i]?) h
  simp only [List.getElem?_map] at e
  rw [List.getD_eq_getElem?_getD, List.getD_eq_getElem?_getD]
  cases h1 : l[i]? with
  | none => rw [h1] at e; cases h2 : l'[i]? with
    | none => rfl
    | some y => rw [h2] at e; cases e
  | some x => rw [h1] at e; cases h2 : l'[i]? with
    | none => rw [h2] at e; cases e
    | some y => rw [h2] at e; simpa using e
theorem Sim.to_ {l l' : List It} (h : Sim l l') (i : Nat) : (l.getD i default).to = (l'.getD i default).to := congrArg Prod.fst (h.at_ i)
theorem Sim.n_ {l l' : List It} (h : Sim l l') (i : Nat) : (l.getD i default).n = (l'.getD i default).n := congrArg (fun z => z.2.1) (h.at_ i)
theorem Sim.Z_ {l l' : List It} (h : Sim l l') (i : Nat) : (l.getD i default).Z = (l'.getD i default).Z := congrArg (fun z => z.2.2) (h.at_ i)
theorem Sim.snoc {l l' : List It} (h : Sim l l') (tt : Int) (u u' : Value) (n : Nat) (Z : Nat → Int) : Sim (l ++ [⟨tt, u, n, Z⟩]) (l' ++ [⟨tt, u', n, Z⟩]) := by
  unfold Sim at *
  rw [List.map_append, List.map_append, h]
  rfl
theorem Sim.erase {l l' : List It} (h : Sim l l') (i : Nat) : Sim (l.eraseIdx i) (l'.eraseIdx i) := by
  have e : ∀ (l : List It) (i : Nat), (l.eraseIdx i).map key = (l.map key).eraseIdx i := fun l => by
    induction l with
    | nil => intro i; rfl
    | cons x r ih => intro i; cases i with
      | zero => rfl
      | succ k => simp only [List.eraseIdx_cons_succ, List.map_cons]; rw [ih]
  unfold Sim at *
  rw [e, e, h]
theorem Sim.mv {l l' : List It} (h : Sim l l') (x y : Int) : Sim (l.map (mv x y)) (l'.map (mv x y)) := by
  unfold Sim at *
  have e : ∀ l : List It, (l.map (Qu.mv x y)).map key = (l.map key).map (fun k => (if k.1 = x then y else k.1, k.2)) := fun l => by
    rw [List.map_map, List.map_map]
    apply List.map_congr_left
    intro a _
    show key (Qu.mv x y a) = _
    unfold key
    have := mv_v x y a
    rw [mv_to, this.2.1, this.2.2]
    rfl
  rw [e, e, h]
theorem Sim.cnt {l l' : List It} (h : Sim l l') (x : Int) : ∀ k, cnt x l k = cnt x l' k
  | 0 => rfl
  | k + 1 => by
    show Qu.cnt x l k + (if (l.getD k default).to = x then 1 else 0) = Qu.cnt x l' k + (if (l'.getD k default).to = x then 1 else 0)
    rw [h.cnt x k, h.to_ k]
theorem Sim.tov {l l' : List It} (h : Sim l l') : tov l = tov l' := by
  funext j
  unfold Qu.tov
  rw [h.to_ j]
/-- One turns, the other one stays. -/
theorem Que.oth {w w' : World} {base b rb : Nat} {most lost most' lost' : Int} {l l' : List It} {v rv rv2 : Value} (h : Que w base b most lost l v) (r : Rqu w base rb most' lost' l' rv) (j : Turn w w' rb rv rv2) : Que w' base b most lost l v where
  own := j.ty r.own r.row h.own (by decide) (by decide)
  row := h.row.kept (fun q _ => by
    by_cases e : v.ownBlock = some q
    · obtain ⟨cs, hc⟩ := mineK_own h.row e
      exact .inl ((j.ty r.own r.row hc (by decide) (by decide)).trans hc.symm)
    · exact .inr e)
  bytes x hx := (h.bytes x hx).turn j r.own r.row (by decide) (by decide)
  low := h.low
theorem Rqu.oth {w w' : World} {base b rb : Nat} {most lost most' lost' : Int} {l l' : List It} {v rv v2 : Value} (r : Rqu w base rb most' lost' l' rv) (h : Que w base b most lost l v) (j : Turn w w' b v v2) : Rqu w' base rb most' lost' l' rv where
  own := j.ty h.own h.row r.own (by decide) (by decide)
  row := r.row.kept (fun q _ => by
    by_cases e : rv.ownBlock = some q
    · obtain ⟨cs, hc⟩ := mineK_own r.row e
      exact .inl ((j.ty h.own h.row hc (by decide) (by decide)).trans hc.symm)
    · exact .inr e)
  bytes x hx := (r.bytes x hx).turn j h.own h.row (by decide) (by decide)
  low := r.low
def lostTo (most lost : Int) (n : Nat) : Int := if (n : Int) < most then lost else min (lost + 1) 1000000
/-- Both put. -/
def Put2 (most lost : Int) (n0 : Nat) (l : List It) (tt : Int) (n : Nat) (Z : Nat → Int) (l2 : List It) : Prop := if (n0 : Int) < most then ∃ u, l2 = l ++ [⟨tt, u, n, Z⟩] else l2 = l
theorem put2_sim {most lost : Int} {l l' l2 l2' : List It} {tt : Int} {n : Nat} {Z : Nat → Int} (h : Sim l l') (h1 : Put2 most lost l.length l tt n Z l2) (h2 : Put2 most lost l'.length l' tt n Z l2') : Sim l2 l2' := by
  unfold Put2 at h1 h2
  rw [← h.len] at h2
  split at h1
  · rename_i hc
    rw [if_pos hc] at h2
    obtain ⟨u, rfl⟩ := h1
    obtain ⟨u', rfl⟩ := h2
    exact h.snoc tt u u' n Z
  · rename_i hc
    rw [if_neg hc] at h2
    rw [h1, h2]
    exact h
theorem put2_len {most lost : Int} {l l2 : List It} {tt : Int} {n : Nat} {Z : Nat → Int} (h1 : Put2 most lost l.length l tt n Z l2) (hl : (l.length : Int) ≤ most) : (l2.length : Int) ≤ most := by
  unfold Put2 at h1
  split at h1
  · obtain ⟨u, rfl⟩ := h1
    simp
    omega
  · rw [h1]; exact hl
theorem put_all (base b : Nat) (most lost : Int) (l : List It) (v : Value) (tt : Int) (a : Option Addr) (n c : Nat) (Z : Nat → Int) (w : World) (h : Que w base b most lost l v) (hl : l.length ≤ 1000) (hn : n ≤ c) (hn2 : n ≤ 100000) (hR : Row w a n (fun i => .int .u8 (Z i))) (ha : a = none → n = 0) (h0 : 0 ≤ lost) (h1 : lost ≤ 1000000) :
    Calls Tryz.prog 172 #[.pointer (some ⟨b, 0, none⟩), .int .i64 tt, .slice a n c] w fun r w' => r = .returned (.bool (decide ((l.length : Int) < most))) ∧ ∃ l2 v2, Que w' base b most (lostTo most lost l.length) l2 v2 ∧ Turn w w' b v v2 ∧ Put2 most lost l.length l tt n Z l2 := by
  by_cases hm : (l.length : Int) < most
  · refine (putT base b most lost l v tt a n c Z w h hm hl hn hn2 hR ha).mono ?_
    rintro r w' ⟨rfl, v', u, hq, j⟩
    refine ⟨by rw [decide_eq_true hm], l ++ [⟨tt, u, n, Z⟩], v', ?_, j, ?_⟩
    · unfold lostTo; rw [if_pos hm]; exact hq
    · unfold Put2; rw [if_pos hm]; exact ⟨u, rfl⟩
  · refine (put_full base b most lost l v tt _ w h (by omega) h0 h1).mono ?_
    rintro r w' ⟨rfl, hq, j⟩
    refine ⟨by rw [decide_eq_false hm], l, v, ?_, Turn.of_just j v, ?_⟩
    · unfold lostTo; rw [if_neg hm]; exact hq
    · unfold Put2; rw [if_neg hm]
theorem rput_all (base b : Nat) (most lost : Int) (l : List It) (v : Value) (tt : Int) (a : Option Addr) (n c : Nat) (Z : Nat → Int) (w : World) (h : Rqu w base b most lost l v) (hl : l.length ≤ 1000) (hn : n ≤ c) (hn2 : n ≤ 100000) (hR : Row w a n (fun i => .int .u8 (Z i))) (h0 : 0 ≤ lost) (h1 : lost ≤ 1000000) :
    Calls Tryz.prog 105 #[.pointer (some ⟨b, 0, none⟩), .int .i64 tt, .slice a n c] w fun r w' => r = .returned (.bool (decide ((l.length : Int) < most))) ∧ ∃ l2 v2, Rqu w' base b most (lostTo most lost l.length) l2 v2 ∧ Turn w w' b v v2 ∧ Put2 most lost l.length l tt n Z l2 := by
  by_cases hm : (l.length : Int) < most
  · refine (rputT base b most lost l v tt a n c Z w h hm hl hn hn2 hR).mono ?_
    rintro r w' ⟨rfl, v', u, hq, j⟩
    refine ⟨by rw [decide_eq_true hm], l ++ [⟨tt, u, n, Z⟩], v', ?_, j, ?_⟩
    · unfold lostTo; rw [if_pos hm]; exact hq
    · unfold Put2; rw [if_pos hm]; exact ⟨u, rfl⟩
  · refine (rput_full base b most lost l v tt _ w h (by omega) h0 h1).mono ?_
    rintro r w' ⟨rfl, hq, j⟩
    refine ⟨by rw [decide_eq_false hm], l, v, ?_, Turn.of_just j v, ?_⟩
    · unfold lostTo; rw [if_neg hm]; exact hq
    · unfold Put2; rw [if_neg hm]
/-- What is taken: how many bytes, which; what is left. -/
def tkN (l : List It) (i : Int) : Nat := if hasB l.length i = true then (l.getD i.toNat default).n else 0
def tkZ (l : List It) (i : Int) : Nat → Int := (l.getD i.toNat default).Z
def tkL (l : List It) (i : Int) : List It := if hasB l.length i = true then l.eraseIdx i.toNat else l
theorem Sim.tk {l l' : List It} (h : Sim l l') (i : Int) : hasB l.length i = hasB l'.length i ∧ tkN l i = tkN l' i ∧ tkZ l i = tkZ l' i ∧ Sim (tkL l i) (tkL l' i) := by
  unfold tkN tkZ tkL
  rw [h.len]
  refine ⟨rfl, by rw [h.n_], h.Z_ _, ?_⟩
  split
  · exact h.erase _
  · exact h
theorem tkL_len (l : List It) (i : Int) : (tkL l i).length ≤ l.length := by
  unfold tkL
  split
  · rw [List.length_eraseIdx]; split <;> omega
  · exact Nat.le_refl _
theorem hasB_nat {n : Nat} {i : Int} (h : hasB n i = true) : ∃ k : Nat, i = k ∧ k < n := by
  unfold hasB at h
  simp only [decide_eq_true_eq] at h
  exact ⟨i.toNat, by omega, by omega⟩
theorem take_all (base b : Nat) (most lost : Int) (l : List It) (v : Value) (i : Int) (w : World) (h : Que w base b most lost l v) (hl : l.length ≤ 1000) :
    Calls Tryz.prog 166 #[.pointer (some ⟨b, 0, none⟩), .int .i64 i] w fun r w' => ∃ u v', r = .returned (.tuple #[u, .bool (hasB l.length i)]) ∧ Que w' base b most lost (tkL l i) v' ∧ Bs w' u (tkN l i) (tkZ l i) ∧ Turn w w' b v v' := by
  cases hb : hasB l.length i
  · refine (take_no base b most lost l v i w h (by unfold hasB at hb; simpa using hb)).mono ?_
    rintro r w' ⟨rfl, rfl⟩
    refine ⟨.slice none 0 0, v, rfl, ?_, ?_, Turn.of_below (Below.refl _ _) _ _⟩
    · unfold tkL; rw [hb]; exact h
    · unfold tkN; rw [hb]; exact .inl ⟨rfl, rfl⟩
  · obtain ⟨k, rfl, hk⟩ := hasB_nat hb
    refine (takeT base b most lost l v k w h hk hl).mono ?_
    rintro r w' ⟨v', rfl, hq, hB, j⟩
    refine ⟨_, v', rfl, ?_, ?_, j⟩
    · unfold tkL; rw [hb]; exact hq
    · unfold tkN tkZ; rw [hb]; exact hB
theorem rtake_all (base b : Nat) (most lost : Int) (l : List It) (v : Value) (i : Int) (w : World) (h : Rqu w base b most lost l v) (hl : l.length ≤ 1000) :
    Calls Tryz.prog 167 #[.pointer (some ⟨b, 0, none⟩), .int .i64 i] w fun r w' => ∃ u v', r = .returned (.tuple #[u, .bool (hasB l.length i)]) ∧ Rqu w' base b most lost (tkL l i) v' ∧ Bs w' u (tkN l i) (tkZ l i) ∧ Turn w w' b v v' := by
  cases hb : hasB l.length i
  · refine (rtake_no base b most lost l v i w h (by unfold hasB at hb; simpa using hb)).mono ?_
    rintro r w' ⟨rfl, rfl⟩
    refine ⟨.slice none 0 0, v, rfl, ?_, ?_, Turn.of_below (Below.refl _ _) _ _⟩
    · unfold tkL; rw [hb]; exact h
    · unfold tkN; rw [hb]; exact .inl ⟨rfl, rfl⟩
  · obtain ⟨k, rfl, hk⟩ := hasB_nat hb
    refine (rtakeT base b most lost l v k w h hk hl).mono ?_
    rintro r w' ⟨v', rfl, hq, j⟩
    refine ⟨_, v', rfl, ?_, ?_, j⟩
    · unfold tkL; rw [hb]; exact hq
    · unfold tkN tkZ; rw [hb]; exact (h.bytes _ (getD_mem hk)).turn j h.own h.row (by decide) (by decide)
theorem at_all (base b : Nat) (most lost : Int) (l : List It) (v : Value) (i : Int) (w : World) (h : Que w base b most lost l v) (hn : ∀ x ∈ l, x.n ≤ 100000) :
    Calls Tryz.prog 129 #[.pointer (some ⟨b, 0, none⟩), .int .i64 i] w fun r w' => ∃ u, r = .returned (.tuple #[u, .bool (hasB l.length i)]) ∧ Bs w' u (tkN l i) (tkZ l i) ∧ Below w.heap.size w w' := by
  cases hb : hasB l.length i
  · refine (at_no base b most lost l v i w h (by unfold hasB at hb; simpa using hb)).mono ?_
    rintro r w' ⟨rfl, rfl⟩
    refine ⟨.slice none 0 0, rfl, ?_, Below.refl _ _⟩
    unfold tkN; rw [hb]; exact .inl ⟨rfl, rfl⟩
  · obtain ⟨k, rfl, hk⟩ := hasB_nat hb
    refine (at_yes base b most lost l v k w h hk (hn _ (getD_mem hk))).mono ?_
    rintro r w' ⟨u, rfl, hB, j⟩
    refine ⟨u, rfl, ?_, j⟩
    unfold tkN tkZ; rw [hb]; exact hB
theorem same_intsQ (a b : Option Addr) (n c d : Nat) (V : Nat → Value) (X : Nat → Int) (w : World) (hV : V = fun i => .int .i64 (X i)) (hn : n ≤ c) (hm : n ≤ d) (hc : c ≤ maxLen) (hd : d ≤ maxLen) (hX : Row w a n V) (hY : Row w b n V) :
    Calls Tryz.prog 42 #[.slice a n c, .slice b n d] w fun r w' => r = .returned (.bool true) ∧ ∃ m, w.drewN m = w' := by
  subst hV
  unfold maxLen at hc hd
  go_enter Tryz.func42, Tryz.ntmps42
  go_wp2_with fail
  go_loopw [13] (fun i wr => ∃ (k m : Nat), i = .int .i64 k ∧ k ≤ n ∧ w.drewN m = wr) (fun i _ => n - (intOf i).toNat)
  case atStart => exact ⟨0, 0, rfl, by omega, rfl⟩
  case round =>
    obtain ⟨k, m, rfl, hk, rfl⟩ := hrel
    by_cases hlt : k < n
    · obtain ⟨p, o, rfl, _, h1⟩ := hX.at_ hlt
      obtain ⟨q, s, rfl, _, h2⟩ := hY.at_ hlt
      go_wp2_with fail
      go_quiet (fail)
      go_wp2_with fail
      exact ⟨⟨k + 1, _, by go_num, by omega, rfl⟩, by simp [intOf]; omega⟩
    · obtain rfl : k = n := by omega
      go_wp2_with fail
      go_ret
      exact ⟨rfl, m, rfl⟩
end Go.Proofs.YtiflmdekcjbmbaaGreat.Qu
set_option maxRecDepth 100000
namespace Go.Proofs.YtiflmdekcjbmbaaGreat.Lb
set_option linter.unusedVariables false
set_option linter.unusedSimpArgs false
open Go.RowKit

theorem run_copyK {P : Program} (w : World) (dT sT ty elem : TypeId) (k b o dLen dCap : Nat) (a : Addr) (sLen sCap n : Nat) (cs : List Value)
    (hu : P.underlying dT = some (.slice elem)) (hs : (P.info? elem).map (·.size) = some k) (hn : Nat.min sLen dLen = n) (hl : cs.length = n * k)
    (hsrc : ∀ j v, cs[j]? = some v → w.cell? (a.add j) = some v) (hc : w.there b o cs.length) (h1 : ∀ v ∈ cs, v.oneCell' = true) :
    (Builtin.copy_ #[dT, sT] ty #[.slice (some ⟨b, o, none⟩) dLen dCap, .slice (some a) sLen sCap]).run P w = .ok (goInt n) (w.setCells b o cs) := by
  have hlc := run_loadCells_list (P := P) w a cs hsrc
  have hst := run_storeCells_cells (P := P) b o cs 0 w (by simpa using fun j hj => (hc j hj).1) (by simpa using fun j hj => (hc j hj).2) h1
  rw [hl] at hlc
  cases hq : P.info? elem with
  | none => simp [hq] at hs
  | some i =>
    have hi : i.size = k := by simpa [hq] using hs
    simp [Builtin.copy_, run_underlying hu, Builtin.lenOf, Builtin.firstCells, sizeOf, typeInfo, hq, hi, hn, hlc, hst]
theorem op_copy_is {P : Program} (w : World) {o : Oper} {a : Act} {K : Act → World → Prop} {Q : Exit → Act → World → Prop} (d s : Operand) (t t' : TypeId)
    (ho : o.op = .call { callee := .builtin .copy, args := #[d, s], argTypes := #[t, t'] }) (v u : Value) (hd : a.eval d = v) (hs : a.eval s = u) (v' : Value) (w' : World)
    (hr : (Builtin.copy_ #[t, t'] o.type #[v, u]).run P w = .ok v' w') (h : K (a.put o.dst v') w') : o.wp P a w K Q := by
  unfold Oper.wp execOp
  simp only [ho, resolve, invoke, builtin, Sem.run_bind, Sem.run_pure, Result.andThen_ok, List.map_toArray, List.map_cons, List.map_nil, hd, hs, hr]
  exact h
theorem wp_copy_is {P : Program} (w : World) {ops : Array Oper} {rest : List Oper} {o : Oper} {a : Act} {Q : Exit → Act → World → Prop} (hgd : o.guard = none) (d s : Operand) (t t' : TypeId)
    (ho : o.op = .call { callee := .builtin .copy, args := #[d, s], argTypes := #[t, t'] }) (v u : Value) (hd : a.eval d = v) (hs : a.eval s = u) (v' : Value) (w' : World)
    (hr : (Builtin.copy_ #[t, t'] o.type #[v, u]).run P w = .ok v' w') (h : wpList P ops Q rest (a.put o.dst v') w') : wpList P ops Q (o :: rest) a w :=
  wpList_plain hgd fun _ hK => op_copy_is w d s t t' ho v u hd hs v' w' hr (hK _ _ h)
theorem step_copy_is {P : Program} {w : World} {ops : Array Oper} {o : Oper} {a : Act} {K : Act → World → Prop} {Q : Exit → Act → World → Prop} {E : Prop} (hgd : o.guard = none) (d s : Operand) (t t' : TypeId)
    (ho : o.op = .call { callee := .builtin .copy, args := #[d, s], argTypes := #[t, t'] }) (v u : Value) (hd : a.eval d = v) (hs : a.eval s = u) (v' : Value) (w' : World)
    (hr : (Builtin.copy_ #[t, t'] o.type #[v, u]).run P w = .ok v' w') (h : K (a.put o.dst v') w') : if Region.wanted o (yielded ops a.tmps) = true then Oper.wp P o a w K Q else E := by
  have hw : Region.wanted o (yielded ops a.tmps) = true := by simp [Region.wanted, hgd]
  rw [if_pos hw]
  exact op_copy_is w d s t t' ho v u hd hs v' w' hr h
/-- One struct of k cells put in ahead of struct i. -/
def insK (k i : Nat) (V U : Nat → Value) (q : Nat) : Value := if q < i * k then V q else if q < i * k + k then U (q - i * k) else V (q - k)
theorem insK_end (k n : Nat) (V U : Nat → Value) : ∀ q, q < (n + 1) * k → (if q < n * k then V q else U (q - n * k)) = insK k n V U q := by
  intro q hq
  unfold insK
  rw [Nat.add_mul, Nat.one_mul] at hq
  by_cases h : q < n * k
  · rw [if_pos h, if_pos h]
  · rw [if_neg h, if_neg h, if_pos hq]
/-- Of n structs those that are kept by p, in their order: the cells. -/
def cellsOf {α : Type} (k : Nat) (enc : α → Nat → Value) (d : α) (l : List α) (q : Nat) : Value := enc (l.getD (q / k) d) (q % k)
theorem mineK_made {w : World} {base g c s : Nat} {e : TypeId} {n : Nat} {F V : Nat → Value} (h : Blk w g e (c * s) F) (hb : base ≤ g) (hm : c ≤ maxLen) (hn : n ≤ c) (hv : ∀ i, i < n * s → F i = V i) :
    MineK w base e s (.slice (some ⟨g, 0, none⟩) n c) n V :=
  MineK.made h hb (by simp) hm hn (fun j hj => by
    have hle : n * s ≤ c * s := Nat.mul_le_mul_right s hn
    have hj2 : j < c * s := by omega
    rw [Array.getElem?_eq_getElem (by simpa using hj2), Array.getElem_ofFn]
    exact congrArg some (hv j hj))
theorem blk_of {w : World} {g : Nat} {e : TypeId} {n : Nat} {cs : Array Value} (h : Own w g e cs) (hs : cs.size = n) : Blk w g e n (fun j => cs.getD j undef) :=
  Blk.of h hs (fun j hj => by
    rw [Array.getElem?_eq_getElem (by omega), Array.getD_eq_getD_getElem?, Array.getElem?_eq_getElem (by omega)]
    rfl)
theorem shape_blk {w : World} {g : Nat} {e : TypeId} {cs : Array Value} (h : Own w g e cs) : w.shape? g = some (e, cs.size) := by
  unfold Own at h
  simp [World.shape?, h]
theorem grown_setCells {w w1 : World} {row : Option Nat} {g : Nat} (h : w.grownBy w1 row) (hg : row = some g ∨ w.heap.size ≤ g) (o : Nat) (vs : List Value) : w.grownBy (w1.setCells g o vs) row := by
  have j := Just.puts g vs w1 o
  refine ⟨j.os.trans h.os, j.tape.trans h.tape, j.output.trans h.output, Nat.le_trans h.size j.size, fun q hq hr => ?_⟩
  refine (j.block q (Nat.lt_of_lt_of_le hq h.size) (fun e => ?_)).trans (h.block q hq hr)
  rcases hg with e1 | e1
  · subst e; exact hr e1.symm
  · omega
theorem grown_drew {w : World} (row : Option Nat) (n : Nat) : w.grownBy (w.drewN n) row := ⟨rfl, rfl, rfl, Nat.le_refl _, fun _ _ _ => rfl⟩
theorem grown_refl (w : World) (row : Option Nat) : w.grownBy w row := ⟨rfl, rfl, rfl, Nat.le_refl _, fun _ _ _ => rfl⟩
theorem grown_alloc {w w1 : World} {row : Option Nat} (h : w.grownBy w1 row) (o : Obj) : w.grownBy (w1.alloc o) row :=
  ⟨h.os, h.tape, h.output, Nat.le_trans h.size (by simp), fun q hq hr => (Below.heap_alloc w1 o q (Nat.lt_of_lt_of_le hq h.size)).trans (h.block q hq hr)⟩
theorem grown_drewN {w w1 : World} {row : Option Nat} (h : w.grownBy w1 row) (n : Nat) : w.grownBy (w1.drewN n) row := ⟨h.os, h.tape, h.output, h.size, h.block⟩
theorem grown_trans {w w1 w2 : World} {r s : Option Nat} (h : w.grownBy w1 r) (h2 : w1.grownBy w2 s) (hs : ∀ q, s = some q → r = some q ∨ w.heap.size ≤ q) : w.grownBy w2 r :=
  ⟨h2.os.trans h.os, h2.tape.trans h.tape, h2.output.trans h.output, Nat.le_trans h.size h2.size, fun q hq hr => by
    refine (h2.block q (Nat.lt_of_lt_of_le hq h.size) (fun e => ?_)).trans (h.block q hq hr)
    rcases hs q e.symm with e1 | e1
    · exact hr e1.symm
    · omega⟩
theorem below_grown {w w' : World} (h : Below w.heap.size w w') (row : Option Nat) : w.grownBy w' row := ⟨h.os, h.tape, h.output, h.size, fun q hq _ => h.block q hq⟩
end Go.Proofs.YtiflmdekcjbmbaaGreat.Lb
set_option maxRecDepth 100000
namespace Go.Proofs.YtiflmdekcjbmbaaGreat.Pa
set_option linter.unusedVariables false
set_option linter.unusedSimpArgs false
open Go.RowKit Lb

theorem infoE : (Tryz.prog.info? 211).map (fun i => (i.zero, i.size, i.bytes)) = some (some (.agg #[.int .i64 0, .int .i64 0, .int .i64 0]), 3, 24) := by kernel_rfl
theorem sizeE (w : World) : (Go.sizeOf 211).run Tryz.prog w = .ok 3 w := by kernel_rfl
/-- At the end: append. -/
theorem ins_end (base n gb : Nat) (v : Value) (V U : Nat → Value) (us : Array Value) (w : World) (h : MineK w base 211 3 v n V) (hn : n ≤ 100000) (hb : base ≤ w.heap.size) (hu : Own w gb 211 us) (hU : ∀ q, q < 3 → us[q]? = some (U q)) (h1 : ∀ q, (U q).oneCell' = true) :
    Calls Tryz.prog 196 #[v, .int .i64 (n : Nat), .slice (some ⟨gb, 0, none⟩) 1 1] w fun r w' => ∃ v', r = .returned v' ∧ MineK w' base 211 3 v' (n + 1) (insK 3 n V U) ∧ w.grownBy w' v.ownBlock ∧ (v'.ownBlock = v.ownBlock ∨ v'.ownBlock = some w.heap.size) := by
  obtain ⟨i0, hi0, hz0, hz1, hz2⟩ := info_parts infoE
  have hr : Row w (some ⟨gb, 0, none⟩) (1 * 3) U := Row.own hu (fun q hq => hU q (by omega))
  have HR := Lib.hid hr
  have HNM : Hid (n + 1 ≤ maxLen) := Lib.hid (by unfold maxLen; omega)
  have HO := Lib.hid h
  rcases h.2 with ⟨rfl, rfl⟩ | ⟨g, c, cur, rfl, _, _, hc, hm, _, _⟩
  · clear h hr
    go_enter Tryz.func196, Tryz.ntmps196
    go_wp2_with (at_builtin; go_must (refine wp_appK rfl (.tmp 23) (.tmp 24) _ rfl base 211 i0 _ 3 24 Tryz.underlying207 hi0 hz0 hz1 hz2 rfl (by decide) _ 0 V rfl HO.out _ 1 _ U rfl HR.out (fun i _ => h1 i) HNM.out ?c2 hb ?_))
    case c2 => omega
    intro v5 w5 m5 g5 q5
    have M5 := Lib.hid (m5.ext (insK_end 3 0 V U))
    clear m5
    go_wp2_with fail
    go_ret
    exact ⟨_, rfl, M5.out, g5, q5⟩
  · unfold maxLen at hm
    clear h hr
    by_cases hcn : n = c
    · subst hcn
      go_enter Tryz.func196, Tryz.ntmps196
      go_wp2_with (at_builtin; go_must (refine wp_appK rfl (.tmp 23) (.tmp 24) _ rfl base 211 i0 _ 3 24 Tryz.underlying207 hi0 hz0 hz1 hz2 rfl (by decide) _ n V rfl HO.out _ 1 _ U rfl HR.out (fun i _ => h1 i) HNM.out ?c2 hb ?_))
      case c2 => omega
      intro v5 w5 m5 g5 q5
      have M5 := Lib.hid (m5.ext (insK_end 3 n V U))
      clear m5
      go_wp2_with fail
      go_ret
      exact ⟨_, rfl, M5.out, g5, q5⟩
    · have hcn2 : ¬ c = n := fun e => hcn e.symm
      clear hcn
      go_enter Tryz.func196, Tryz.ntmps196
      go_wp2_with (at_builtin; go_must (refine wp_appK rfl (.tmp 23) (.tmp 24) _ rfl base 211 i0 _ 3 24 Tryz.underlying207 hi0 hz0 hz1 hz2 rfl (by decide) _ n V rfl HO.out _ 1 _ U rfl HR.out (fun i _ => h1 i) HNM.out ?c2 hb ?_))
      case c2 => omega
      intro v5 w5 m5 g5 q5
      have M5 := Lib.hid (m5.ext (insK_end 3 n V U))
      clear m5
      go_wp2_with fail
      go_ret
      exact ⟨_, rfl, M5.out, g5, q5⟩
/-- The cells of a row from struct i on; those of the new one. -/
def tail_ (k n i : Nat) (V : Nat → Value) : List Value := (List.range ((n - i) * k)).map (fun t => V (i * k + t))
theorem tail_len (k n i : Nat) (V : Nat → Value) : (tail_ k n i V).length = (n - i) * k := by simp [tail_]
theorem tail_get (k n i : Nat) (V : Nat → Value) (t : Nat) (ht : t < (n - i) * k) : (tail_ k n i V)[t]? = some (V (i * k + t)) := by simp [tail_, ht]
theorem tail_one (k n i : Nat) {V : Nat → Value} (h : ∀ q, (V q).oneCell' = true) : ∀ u ∈ tail_ k n i V, u.oneCell' = true := by
  intro u hu
  obtain ⟨t, _, rfl⟩ := List.mem_map.1 hu
  exact h _
set_option maxHeartbeats 2000000 in
/-- In the midst, with room: in place. -/
theorem ins_shift (base n i c g gb : Nat) (V U : Nat → Value) (us : Array Value) (w : World) (h : MineK w base 211 3 (.slice (some ⟨g, 0, none⟩) n c) n V) (hi : i < n) (hn : n ≤ 100000) (hroom : n + 1 ≤ c) (hu : Own w gb 211 us) (hus : us.size = 3) (hU : ∀ q, q < 3 → us[q]? = some (U q)) (h1 : ∀ q, (U q).oneCell' = true) (hV1 : ∀ q, (V q).oneCell' = true) (hg : gb ≠ g) :
    Calls Tryz.prog 196 #[.slice (some ⟨g, 0, none⟩) n c, .int .i64 (i : Nat), .slice (some ⟨gb, 0, none⟩) 1 1] w fun r w' => r = .returned (.slice (some ⟨g, 0, none⟩) (n + 1) c) ∧ MineK w' base 211 3 (.slice (some ⟨g, 0, none⟩) (n + 1) c) (n + 1) (insK 3 i V U) ∧ w.grownBy w' (some g) := by
  obtain ⟨i0, hi0, hz0, hz1, hz2⟩ := info_parts infoE
  obtain ⟨g', c', cs, hv, hgb, ho, hnc, hcm, hsz, hcv⟩ := h.block (by omega)
  injection hv with hv1 _ hv2
  injection hv1 with hv1
  injection hv1 with hv1
  subst hv1 hv2
  unfold maxLen at hcm
  have hB := blk_of ho hsz
  have hcg : ∀ q, q < n * 3 → cs.getD q undef = V q := fun q hq => by rw [Array.getD_eq_getD_getElem?, hcv q hq]; rfl
  have hB1 := Blk.puts (tail_ 3 n i V) ((i + 1) * 3) (Blk.drewN hB 1)
  have hJ1 := grown_setCells (grown_drew (w := w) (some g) 1) (.inl rfl) ((i + 1) * 3) (tail_ 3 n i V)
  have hc1 : ∀ ty dc sc, (Builtin.copy_ #[207, 207] ty #[.slice (some ⟨g, (i + 1) * 3, none⟩) (n - i) dc, .slice (some ⟨g, i * 3, none⟩) (n + 1 - i) sc]).run Tryz.prog w.drew = .ok (goInt ((n - i : Nat))) (w.drew.setCells g ((i + 1) * 3) (tail_ 3 n i V)) := fun ty dc sc =>
    run_copyK w.drew _ _ ty 211 3 g _ _ dc ⟨g, i * 3, none⟩ _ sc (n - i) (tail_ 3 n i V) Tryz.underlying207 (by rw [hi0]; simp [hz1]) (by simp only [Nat.min_def]; split <;> omega) (tail_len _ _ _ _)
      (fun t u ht => by
        have hlt : t < (n - i) * 3 := by
          have := (List.getElem?_eq_some_iff.1 ht).1
          rwa [tail_len] at this
        rw [tail_get _ _ _ _ _ hlt] at ht
        rw [Addr.add_lit]
        exact (ho.cell (i * 3 + t)).trans ((hcv _ (by omega)).trans ht))
      (Blk.there (Blk.drewN hB 1) (by rw [tail_len]; omega)) (tail_one _ _ _ hV1)
  obtain ⟨W1, hW1⟩ : ∃ W1, W1 = w.drew.setCells g ((i + 1) * 3) (tail_ 3 n i V) := ⟨_, rfl⟩
  have hu1 : Own W1 gb 211 us := by rw [hW1]; exact (Just.puts g _ _ _).own (Own.drewN hu 1) hg
  have hB1 : Blk W1 g 211 (c * 3) (putL (fun j => cs.getD j undef) ((i + 1) * 3) (tail_ 3 n i V)) := by rw [hW1]; exact hB1
  have hJ1 : w.grownBy W1 (some g) := by rw [hW1]; exact hJ1
  have hc1 : ∀ ty dc sc, (Builtin.copy_ #[207, 207] ty #[.slice (some ⟨g, (i + 1) * 3, none⟩) (n - i) dc, .slice (some ⟨g, i * 3, none⟩) (n + 1 - i) sc]).run Tryz.prog w.drew = .ok (goInt ((n - i : Nat))) W1 := by rw [hW1]; exact hc1
  have hB2 := Blk.puts (tail_ 3 1 0 U) (i * 3) hB1
  have hJ2 := grown_setCells hJ1 (.inl rfl) (i * 3) (tail_ 3 1 0 U)
  have hc2 : ∀ ty dc, (Builtin.copy_ #[207, 207] ty #[.slice (some ⟨g, i * 3, none⟩) (n + 1 - i) dc, .slice (some ⟨gb, 0, none⟩) 1 1]).run Tryz.prog W1 = .ok (goInt ((1 : Nat))) (W1.setCells g (i * 3) (tail_ 3 1 0 U)) := fun ty dc =>
    run_copyK W1 _ _ ty 211 3 g _ _ dc ⟨gb, 0, none⟩ 1 1 1 (tail_ 3 1 0 U) Tryz.underlying207 (by rw [hi0]; simp [hz1]) (by simp only [Nat.min_def]; split <;> omega) (tail_len _ _ _ _)
      (fun t u ht => by
        have hlt : t < (1 - 0) * 3 := by
          have := (List.getElem?_eq_some_iff.1 ht).1
          rwa [tail_len] at this
        rw [tail_get _ _ _ _ _ hlt] at ht
        rw [Addr.add_lit]
        exact (hu1.cell (0 + t)).trans ((congrArg _ (Nat.zero_add t)).trans ((hU t (by omega)).trans (by simpa using ht))))
      (Blk.there hB1 (by rw [tail_len]; omega)) (tail_one _ _ _ h1)
  obtain ⟨W2, hW2⟩ : ∃ W2, W2 = W1.setCells g (i * 3) (tail_ 3 1 0 U) := ⟨_, rfl⟩
  rw [← hW2] at hB2 hJ2 hc2
  have HM : Hid (MineK W2 base 211 3 (.slice (some ⟨g, 0, none⟩) (n + 1) c) (n + 1) (insK 3 i V U)) := Lib.hid (mineK_made hB2 hgb (by unfold maxLen; omega) (by omega) (fun q hq => by
    rw [putL_at, tail_len, putL_at, tail_len]
    unfold insK
    by_cases a1 : q < i * 3
    · rw [if_neg (by omega), if_neg (by omega), if_pos a1]
      exact hcg q (by omega)
    · by_cases a2 : q < i * 3 + 3
      · rw [if_pos (by omega), if_neg a1, if_pos a2, List.getD_eq_getElem?_getD, tail_get _ _ _ _ _ (by omega)]
        simp
      · rw [if_neg (by omega), if_neg a1, if_neg a2, if_pos (by omega), List.getD_eq_getElem?_getD, tail_get _ _ _ _ _ (by omega)]
        show V _ = V _
        congr 1
        omega))
  have hov : ∀ lb cb, (callFunc 220 #[.slice (some ⟨gb, 0, none⟩) 1 1, .slice (some ⟨g, (i + 1) * 3, none⟩) lb cb]).run Tryz.prog w = .ok (.value (.bool false)) w := fun lb cb => by
    rw [run_callFunc_extern Tryz.func220 (by kernel_rfl) (by kernel_rfl) (by kernel_rfl) (e := Extern.SlicesOverlaps.overlaps #[207, 207] #[4]) (by kernel_rfl),
      Lib.run_overlaps_apart w 207 4 211 Tryz.underlying207 3 sizeE ⟨gb, 0, none⟩ ⟨g, (i + 1) * 3, none⟩ 1 1 lb cb hg 211 211 us.size cs.size (shape_blk hu) (shape_blk ho) (by omega) (hu.free 0) (hu.free _)]
    rfl
  have hJ2h := Lib.hid hJ2
  have hne : ((i : Int) == (n : Int)) = false := by simp; omega
  have hne2 : (i == n) = false := by simp; omega
  have k1 : i ≤ n := by omega
  have k2 : i ≤ c := by omega
  have k3 : ¬ c = i := by omega
  have k4 : ¬ c = i + 1 := by omega
  have k5 : i + 1 ≤ n + 1 := by omega
  have k6 : i ≤ n + 1 := by omega
  have k7 : i + 1 ≤ c := by omega
  clear h hB hcg hB1 hJ1 hu1 hB2 hJ2 hW1 hW2 hcv hu ho hU hsz hus
  go_enter Tryz.func196, Tryz.ntmps196
  have w1 : IntKind.i64.wrap ((i : Int) + 1) = (i : Int) + 1 := IntWalk.i64_in _ (by omega)
  have w2 : (0 : Int) ≤ (i : Int) + 1 := by omega
  have w3 : (i : Int) + 1 ≤ (n : Int) + 1 := by omega
  have w4 : ((i : Int) + 1).toNat = i + 1 := by omega
  have w5 : (i : Int) ≤ (n : Int) + 1 := by omega
  go_wp2_with fail
  go_region_law (refine step_copy_is rfl (.tmp 73) (.tmp 76) 207 207 rfl (.slice (some ⟨g, (i + 1) * 3, none⟩) (n - i) (c - (i + 1))) (.slice (some ⟨g, i * 3, none⟩) (n + 1 - i) (c - i)) (by simp [Act.eval, Act.put]) (by simp [Act.eval, Act.put]) _ _ (hc1 _ _ _) ?_)
  go_wp2_with (with_reducible refine wp_copy_is W1 rfl (.tmp 80) (.tmp 81) _ _ rfl (.slice (some ⟨g, i * 3, none⟩) (n + 1 - i) (c - i)) (.slice (some ⟨gb, 0, none⟩) 1 1) rfl rfl _ _ (hc2 _ _) ?_)
  go_ret
  exact ⟨rfl, HM.out, hJ2h.out⟩
set_option maxHeartbeats 2000000 in
/-- In the midst, without room: a new row. -/
theorem ins_grow (base n i c g gb : Nat) (V U : Nat → Value) (us : Array Value) (w : World) (h : MineK w base 211 3 (.slice (some ⟨g, 0, none⟩) n c) n V) (hi : i < n) (hn : n ≤ 100000) (hroom : c < n + 1) (hb : base ≤ w.heap.size) (hu : Own w gb 211 us) (hU : ∀ q, q < 3 → us[q]? = some (U q)) (h1 : ∀ q, (U q).oneCell' = true) (hV1 : ∀ q, (V q).oneCell' = true) :
    Calls Tryz.prog 196 #[.slice (some ⟨g, 0, none⟩) n c, .int .i64 (i : Nat), .slice (some ⟨gb, 0, none⟩) 1 1] w fun r w' => ∃ v', r = .returned v' ∧ MineK w' base 211 3 v' (n + 1) (insK 3 i V U) ∧ w.grownBy w' (some g) ∧ v'.ownBlock = some w.heap.size := by
  obtain ⟨i0, hi0, hz0, hz1, hz2⟩ := info_parts infoE
  obtain ⟨g', c', cs, hv, hgb, ho, hnc, hcm, hsz, hcv⟩ := h.block (by omega)
  injection hv with hv1 _ hv2
  injection hv1 with hv1
  injection hv1 with hv1
  subst hv1 hv2
  unfold maxLen at hcm
  obtain ⟨H, hH⟩ : ∃ H, H = w.heap.size := ⟨_, rfl⟩
  have hgl := ho.lt
  have hgbl := hu.lt
  obtain ⟨gc, hgc⟩ : ∃ gc, gc = grownCap w (n + 1) c 211 := ⟨_, rfl⟩
  have hg1 : n + 1 ≤ gc := by rw [hgc]; exact grownCap_ge _ _ _ _
  have hg2 : gc ≤ maxLen := by rw [hgc]; exact grownCap_le_maxLen _ _ _ _ (by unfold maxLen; omega)
  obtain ⟨cs0, hcs0⟩ : ∃ cs0, cs0 = ((List.range (i * 3)).map V).toArray ++ Builtin.zeroCells (Value.agg #[.int .i64 0, .int .i64 0, .int .i64 0]).cells (n + 1 - i) ++ Builtin.zeroCells (Value.agg #[.int .i64 0, .int .i64 0, .int .i64 0]).cells (gc - (n + 1)) := ⟨_, rfl⟩
  have hs0 : cs0.size = gc * 3 := by
    rw [hcs0]
    simp only [Array.size_append, size_zeroCells, List.size_toArray, List.length_map, List.length_range]
    show i * 3 + (n + 1 - i) * 3 + (gc - (n + 1)) * 3 = gc * 3
    omega
  have hc0 : ∀ q, q < i * 3 → cs0.getD q undef = V q := fun q hq => by
    rw [hcs0, Array.getD_eq_getD_getElem?, Array.getElem?_append_left (by simp only [Array.size_append, List.size_toArray, List.length_map, List.length_range]; omega), Array.getElem?_append_left (by simpa using hq)]
    simp [hq]
  have hap : ∀ ty, (Builtin.append_ #[207, 3] ty #[.slice (some ⟨g, 0, none⟩) i c, .int .i64 ((n : Int) + 1 - (i : Int))]).run Tryz.prog w = .ok (.slice (some ⟨w.heap.size, 0, none⟩) (n + 1) gc) (w.drew.alloc (.cells cs0 211)) := fun ty => by
    have e := Lib.run_append_grow_zeros (P := Tryz.prog) w 207 3 ty 211 i0 _ .i64 .i64 Tryz.underlying207 Tryz.underlying3 hi0 hz0 (some ⟨g, 0, none⟩) i c ((List.range (i * 3)).map V) (by
      have hl := run_loadCells_list (P := Tryz.prog) w.drew ⟨g, 0, none⟩ ((List.range (i * 3)).map V) (fun t u ht => by
        have hlt : t < i * 3 := by
          have := (List.getElem?_eq_some_iff.1 ht).1
          simpa using this
        rw [Addr.add_lit]
        have hu' : u = V t := by simpa [hlt] using ht.symm
        subst hu'
        exact (ho.cell (0 + t)).trans ((congrArg _ (Nat.zero_add t)).trans (hcv _ (by omega))))
      simpa [Builtin.firstCells, hz1] using hl) (n + 1 - i) (by omega) (by omega) (by omega) (by omega) (by rw [hz2]; omega) (growslice_fits (by omega) (by rw [hz2]; omega))
    rw [show (n : Int) + 1 - (i : Int) = ((n + 1 - i : Nat) : Int) from by omega, e, show i + (n + 1 - i) = n + 1 from by omega, ← hgc, ← hcs0]
  have o0 : Own (w.drew.alloc (.cells cs0 211)) H 211 cs0 := by rw [hH]; exact Own.new w.drew 211 cs0
  have og : Own (w.drew.alloc (.cells cs0 211)) g 211 cs := (Own.drewN ho 1).alloc _
  have ou : Own (w.drew.alloc (.cells cs0 211)) gb 211 us := (Own.drewN hu 1).alloc _
  have J0 : w.grownBy (w.drew.alloc (.cells cs0 211)) (some g) := grown_alloc (grown_drew (some g) 1) _
  obtain ⟨W0, hW0⟩ : ∃ W0, W0 = w.drew.alloc (.cells cs0 211) := ⟨_, rfl⟩
  rw [← hW0] at o0 og ou J0 hap
  have B0 := blk_of o0 hs0
  have B1 := Blk.puts (tail_ 3 1 0 U) (i * 3) B0
  have J1 := grown_setCells J0 (.inr (by omega : w.heap.size ≤ H)) (i * 3) (tail_ 3 1 0 U)
  have og1 : Own (W0.setCells H (i * 3) (tail_ 3 1 0 U)) g 211 cs := (Just.puts H _ _ _).own og (by omega)
  have hc1 : ∀ ty dc, (Builtin.copy_ #[207, 207] ty #[.slice (some ⟨H, i * 3, none⟩) (n + 1 - i) dc, .slice (some ⟨gb, 0, none⟩) 1 1]).run Tryz.prog W0 = .ok (goInt ((1 : Nat))) (W0.setCells H (i * 3) (tail_ 3 1 0 U)) := fun ty dc =>
    run_copyK W0 _ _ ty 211 3 H _ _ dc ⟨gb, 0, none⟩ 1 1 1 (tail_ 3 1 0 U) Tryz.underlying207 (by rw [hi0]; simp [hz1]) (by simp only [Nat.min_def]; split <;> omega) (tail_len _ _ _ _)
      (fun t u ht => by
        have hlt : t < (1 - 0) * 3 := by
          have := (List.getElem?_eq_some_iff.1 ht).1
          rwa [tail_len] at this
        rw [tail_get _ _ _ _ _ hlt] at ht
        rw [Addr.add_lit]
        exact (ou.cell (0 + t)).trans ((congrArg _ (Nat.zero_add t)).trans ((hU t (by omega)).trans (by simpa using ht))))
      (Blk.there B0 (by rw [tail_len]; omega)) (tail_one _ _ _ h1)
  obtain ⟨W1, hW1⟩ : ∃ W1, W1 = W0.setCells H (i * 3) (tail_ 3 1 0 U) := ⟨_, rfl⟩
  rw [← hW1] at B1 J1 og1 hc1
  have B2 := Blk.puts (tail_ 3 n i V) ((i + 1) * 3) (Blk.drewN B1 1)
  have J2 := grown_setCells (grown_drewN J1 1) (.inr (by omega : w.heap.size ≤ H)) ((i + 1) * 3) (tail_ 3 n i V)
  have hc2 : ∀ ty dc sc, (Builtin.copy_ #[207, 207] ty #[.slice (some ⟨H, (i + 1) * 3, none⟩) (n - i) dc, .slice (some ⟨g, i * 3, none⟩) (n - i) sc]).run Tryz.prog W1.drew = .ok (goInt ((n - i : Nat))) (W1.drew.setCells H ((i + 1) * 3) (tail_ 3 n i V)) := fun ty dc sc =>
    run_copyK W1.drew _ _ ty 211 3 H _ _ dc ⟨g, i * 3, none⟩ _ sc (n - i) (tail_ 3 n i V) Tryz.underlying207 (by rw [hi0]; simp [hz1]) (by simp only [Nat.min_def]; split <;> omega) (tail_len _ _ _ _)
      (fun t u ht => by
        have hlt : t < (n - i) * 3 := by
          have := (List.getElem?_eq_some_iff.1 ht).1
          rwa [tail_len] at this
        rw [tail_get _ _ _ _ _ hlt] at ht
        rw [Addr.add_lit]
        exact (og1.cell (i * 3 + t)).trans ((hcv _ (by omega)).trans ht))
      (Blk.there (Blk.drewN B1 1) (by rw [tail_len]; omega)) (tail_one _ _ _ hV1)
  obtain ⟨W2, hW2⟩ : ∃ W2, W2 = W1.drew.setCells H ((i + 1) * 3) (tail_ 3 n i V) := ⟨_, rfl⟩
  have B2 : Blk W2 H 211 (gc * 3) (putL (putL (fun j => cs0.getD j undef) (i * 3) (tail_ 3 1 0 U)) ((i + 1) * 3) (tail_ 3 n i V)) := by rw [hW2]; exact B2
  have J2 : w.grownBy W2 (some g) := by rw [hW2]; exact J2
  have hc2 : ∀ ty dc sc, (Builtin.copy_ #[207, 207] ty #[.slice (some ⟨H, (i + 1) * 3, none⟩) (n - i) dc, .slice (some ⟨g, i * 3, none⟩) (n - i) sc]).run Tryz.prog W1.drew = .ok (goInt ((n - i : Nat))) W2 := by rw [hW2]; exact hc2
  have HM : Hid (MineK W2 base 211 3 (.slice (some ⟨H, 0, none⟩) (n + 1) gc) (n + 1) (insK 3 i V U)) := Lib.hid (mineK_made B2 (by omega) hg2 hg1 (fun q hq => by
    rw [putL_at, tail_len, putL_at, tail_len]
    unfold insK
    by_cases a1 : q < i * 3
    · rw [if_neg (by omega), if_neg (by omega), if_pos a1]
      exact hc0 q a1
    · by_cases a2 : q < i * 3 + 3
      · rw [if_neg (by omega), if_pos (by omega), if_neg a1, if_pos a2, List.getD_eq_getElem?_getD, tail_get _ _ _ _ _ (by omega)]
        simp
      · rw [if_pos (by omega), if_neg a1, if_neg a2, List.getD_eq_getElem?_getD, tail_get _ _ _ _ _ (by omega)]
        show V _ = V _
        congr 1
        omega))
  have hJ2h := Lib.hid J2
  have hap : ∀ ty, (Builtin.append_ #[207, 3] ty #[.slice (some ⟨g, 0, none⟩) i c, .int .i64 ((n : Int) + 1 - (i : Int))]).run Tryz.prog w = .ok (.slice (some ⟨H, 0, none⟩) (n + 1) gc) W0 := by rw [hH]; exact hap
  have HH := Lib.hid hH
  unfold maxLen at hg2
  have hne : ((i : Int) == (n : Int)) = false := by simp; omega
  have hne2 : (i == n) = false := by simp; omega
  have k1 : i ≤ n := by omega
  have k2 : i ≤ c := by omega
  have k3 : ¬ c = i := by omega
  have k4 : ¬ gc = i + 1 := by omega
  have k8 : ¬ gc = i := by omega
  have k5 : i + 1 ≤ n + 1 := by omega
  have k6 : i ≤ n + 1 := by omega
  have k7 : i + 1 ≤ gc := by omega
  have w1 : IntKind.i64.wrap ((i : Int) + 1) = (i : Int) + 1 := IntWalk.i64_in _ (by omega)
  have w2 : (0 : Int) ≤ (i : Int) + 1 := by omega
  have w3 : (i : Int) + 1 ≤ (n : Int) + 1 := by omega
  have w4 : ((i : Int) + 1).toNat = i + 1 := by omega
  have w5 : (i : Int) ≤ (n : Int) + 1 := by omega
  have hH2 : H = w.heap.size := hH
  clear h hcv hu ho hU hsz J0 J1 J2 B0 B1 B2 o0 og ou og1 hW0 hW1 hW2 hcs0 hs0 hc0 hgc hgl hgbl hH hH2
  go_enter Tryz.func196, Tryz.ntmps196
  go_wp2_with (first
    | (at_builtin; go_must (refine Lib.wpList_append_run w rfl (.tmp 34) (.tmp 39) _ _ rfl (.slice (some ⟨g, 0, none⟩) i c) (.int .i64 ((n : Int) + 1 - (i : Int))) rfl rfl _ _ (hap _) ?_))
    | (with_reducible refine wp_copy_is W0 rfl (.tmp 43) (.tmp 44) _ _ rfl (.slice (some ⟨H, i * 3, none⟩) (n + 1 - i) (gc - i)) (.slice (some ⟨gb, 0, none⟩) 1 1) rfl rfl _ _ (hc1 _ _) ?_))
  go_region_law (refine step_copy_is rfl (.tmp 50) (.tmp 53) 207 207 rfl (.slice (some ⟨H, (i + 1) * 3, none⟩) (n - i) (gc - (i + 1))) (.slice (some ⟨g, i * 3, none⟩) (n - i) (c - i)) (by simp [Act.eval, Act.put]) (by simp [Act.eval, Act.put]) _ _ (hc2 _ _ _) ?_)
  go_wp2_with fail
  go_ret
  exact ⟨_, rfl, HM.out, hJ2h.out, by rw [← HH.out]; rfl⟩
end Go.Proofs.YtiflmdekcjbmbaaGreat.Pa
