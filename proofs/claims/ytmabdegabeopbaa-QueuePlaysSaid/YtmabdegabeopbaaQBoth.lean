/-
  Package queue: the queue and the reference's, side by side in one memory; each call by one contract.
-/
import Derived.Test.YtmabdegabeopbaaQRef
import Derived.Test.YtmabdegabeopbaaQueueFresh
set_option maxRecDepth 100000
namespace Go.Proofs.Ytmabdegabeopbaa.Qu
set_option linter.unusedVariables false
open Go.RowKit Lb
def key (x : It) : Int × Nat × (Nat → Int) := (x.to, x.n, x.Z)
def Sim (l l' : List It) : Prop := l.map key = l'.map key
theorem Sim.len {l l' : List It} (h : Sim l l') : l.length = l'.length := by
  have := congrArg List.length h
  simpa using this
theorem Sim.at_ {l l' : List It} (h : Sim l l') (i : Nat) : key (l.getD i default) = key (l'.getD i default) := by
  have e := congrArg (fun z : List (Int × Nat × (Nat → Int)) => z[i]?) h
  simp only [List.getElem?_map] at e
  rw [List.getD_eq_getElem?_getD, List.getD_eq_getElem?_getD]
  cases h1 : l[i]? with
  | none => rw [h1] at e; cases h2 : l'[i]? with
    | none => rfl
    | some y => rw [h2] at e; cases e
  | some x => rw [h1] at e; cases h2 : l'[i]? with
    | none => rw [h2] at e; cases e
    | some y => rw [h2] at e; simpa using e
theorem Sim.to_ {l l' : List It} (h : Sim l l') (i : Nat) : (l.getD i default).to = (l'.getD i default).to := congrArg Prod.fst (h.at_ i)
theorem Sim.n_ {l l' : List It} (h : Sim l l') (i : Nat) : (l.getD i default).n = (l'.getD i default).n := congrArg (fun z => z.2.1) (h.at_ i)
theorem Sim.Z_ {l l' : List It} (h : Sim l l') (i : Nat) : (l.getD i default).Z = (l'.getD i default).Z := congrArg (fun z => z.2.2) (h.at_ i)
theorem Sim.snoc {l l' : List It} (h : Sim l l') (tt : Int) (u u' : Value) (n : Nat) (Z : Nat → Int) : Sim (l ++ [⟨tt, u, n, Z⟩]) (l' ++ [⟨tt, u', n, Z⟩]) := by
  unfold Sim at *
  rw [List.map_append, List.map_append, h]
  rfl
theorem Sim.erase {l l' : List It} (h : Sim l l') (i : Nat) : Sim (l.eraseIdx i) (l'.eraseIdx i) := by
  have e : ∀ (l : List It) (i : Nat), (l.eraseIdx i).map key = (l.map key).eraseIdx i := fun l => by
    induction l with
    | nil => intro i; rfl
    | cons x r ih => intro i; cases i with
      | zero => rfl
      | succ k => simp only [List.eraseIdx_cons_succ, List.map_cons]; rw [ih]
  unfold Sim at *
  rw [e, e, h]
theorem Sim.mv {l l' : List It} (h : Sim l l') (x y : Int) : Sim (l.map (mv x y)) (l'.map (mv x y)) := by
  unfold Sim at *
  have e : ∀ l : List It, (l.map (Qu.mv x y)).map key = (l.map key).map (fun k => (if k.1 = x then y else k.1, k.2)) := fun l => by
    rw [List.map_map, List.map_map]
    apply List.map_congr_left
    intro a _
    show key (Qu.mv x y a) = _
    unfold key
    have := mv_v x y a
    rw [mv_to, this.2.1, this.2.2]
    rfl
  rw [e, e, h]
theorem Sim.cnt {l l' : List It} (h : Sim l l') (x : Int) : ∀ k, cnt x l k = cnt x l' k
  | 0 => rfl
  | k + 1 => by
    show Qu.cnt x l k + (if (l.getD k default).to = x then 1 else 0) = Qu.cnt x l' k + (if (l'.getD k default).to = x then 1 else 0)
    rw [h.cnt x k, h.to_ k]
theorem Sim.tov {l l' : List It} (h : Sim l l') : tov l = tov l' := by
  funext j
  unfold Qu.tov
  rw [h.to_ j]
/-- One turns, the other one stays. -/
theorem Que.oth {w w' : World} {base b rb : Nat} {most lost most' lost' : Int} {l l' : List It} {v rv rv2 : Value} (h : Que w base b most lost l v) (r : Rqu w base rb most' lost' l' rv) (j : Turn w w' rb rv rv2) : Que w' base b most lost l v where
  own := j.ty r.own r.row h.own (by decide) (by decide)
  row := h.row.kept (fun q _ => by
    by_cases e : v.ownBlock = some q
    · obtain ⟨cs, hc⟩ := mineK_own h.row e
      exact .inl ((j.ty r.own r.row hc (by decide) (by decide)).trans hc.symm)
    · exact .inr e)
  bytes x hx := (h.bytes x hx).turn j r.own r.row (by decide) (by decide)
  low := h.low
theorem Rqu.oth {w w' : World} {base b rb : Nat} {most lost most' lost' : Int} {l l' : List It} {v rv v2 : Value} (r : Rqu w base rb most' lost' l' rv) (h : Que w base b most lost l v) (j : Turn w w' b v v2) : Rqu w' base rb most' lost' l' rv where
  own := j.ty h.own h.row r.own (by decide) (by decide)
  row := r.row.kept (fun q _ => by
    by_cases e : rv.ownBlock = some q
    · obtain ⟨cs, hc⟩ := mineK_own r.row e
      exact .inl ((j.ty h.own h.row hc (by decide) (by decide)).trans hc.symm)
    · exact .inr e)
  bytes x hx := (r.bytes x hx).turn j h.own h.row (by decide) (by decide)
  low := r.low
def lostTo (most lost : Int) (n : Nat) : Int := if (n : Int) < most then lost else min (lost + 1) 1000000
/-- Both put. -/
def Put2 (most lost : Int) (n0 : Nat) (l : List It) (tt : Int) (n : Nat) (Z : Nat → Int) (l2 : List It) : Prop := if (n0 : Int) < most then ∃ u, l2 = l ++ [⟨tt, u, n, Z⟩] else l2 = l
theorem put2_sim {most lost : Int} {l l' l2 l2' : List It} {tt : Int} {n : Nat} {Z : Nat → Int} (h : Sim l l') (h1 : Put2 most lost l.length l tt n Z l2) (h2 : Put2 most lost l'.length l' tt n Z l2') : Sim l2 l2' := by
  unfold Put2 at h1 h2
  rw [← h.len] at h2
  split at h1
  · rename_i hc
    rw [if_pos hc] at h2
    obtain ⟨u, rfl⟩ := h1
    obtain ⟨u', rfl⟩ := h2
    exact h.snoc tt u u' n Z
  · rename_i hc
    rw [if_neg hc] at h2
    rw [h1, h2]
    exact h
theorem put2_len {most lost : Int} {l l2 : List It} {tt : Int} {n : Nat} {Z : Nat → Int} (h1 : Put2 most lost l.length l tt n Z l2) (hl : (l.length : Int) ≤ most) : (l2.length : Int) ≤ most := by
  unfold Put2 at h1
  split at h1
  · obtain ⟨u, rfl⟩ := h1
    simp
    omega
  · rw [h1]; exact hl
theorem put_all (base b : Nat) (most lost : Int) (l : List It) (v : Value) (tt : Int) (a : Option Addr) (n c : Nat) (Z : Nat → Int) (w : World) (h : Que w base b most lost l v) (hl : l.length ≤ 1000) (hn : n ≤ c) (hn2 : n ≤ 100000) (hR : Row w a n (fun i => .int .u8 (Z i))) (ha : a = none → n = 0) (h0 : 0 ≤ lost) (h1 : lost ≤ 1000000) :
    Calls Try.prog 10 #[.pointer (some ⟨b, 0, none⟩), .int .i64 tt, .slice a n c] w fun r w' => r = .returned (.bool (decide ((l.length : Int) < most))) ∧ ∃ l2 v2, Que w' base b most (lostTo most lost l.length) l2 v2 ∧ Turn w w' b v v2 ∧ Put2 most lost l.length l tt n Z l2 := by
  by_cases hm : (l.length : Int) < most
  · refine (putT base b most lost l v tt a n c Z w h hm hl hn hn2 hR ha).mono ?_
    rintro r w' ⟨rfl, v', u, hq, j⟩
    refine ⟨by rw [decide_eq_true hm], l ++ [⟨tt, u, n, Z⟩], v', ?_, j, ?_⟩
    · unfold lostTo; rw [if_pos hm]; exact hq
    · unfold Put2; rw [if_pos hm]; exact ⟨u, rfl⟩
  · refine (put_full base b most lost l v tt _ w h (by omega) h0 h1).mono ?_
    rintro r w' ⟨rfl, hq, j⟩
    refine ⟨by rw [decide_eq_false hm], l, v, ?_, Turn.of_just j v, ?_⟩
    · unfold lostTo; rw [if_neg hm]; exact hq
    · unfold Put2; rw [if_neg hm]
theorem rput_all (base b : Nat) (most lost : Int) (l : List It) (v : Value) (tt : Int) (a : Option Addr) (n c : Nat) (Z : Nat → Int) (w : World) (h : Rqu w base b most lost l v) (hl : l.length ≤ 1000) (hn : n ≤ c) (hn2 : n ≤ 100000) (hR : Row w a n (fun i => .int .u8 (Z i))) (h0 : 0 ≤ lost) (h1 : lost ≤ 1000000) :
    Calls Try.prog 11 #[.pointer (some ⟨b, 0, none⟩), .int .i64 tt, .slice a n c] w fun r w' => r = .returned (.bool (decide ((l.length : Int) < most))) ∧ ∃ l2 v2, Rqu w' base b most (lostTo most lost l.length) l2 v2 ∧ Turn w w' b v v2 ∧ Put2 most lost l.length l tt n Z l2 := by
  by_cases hm : (l.length : Int) < most
  · refine (rputT base b most lost l v tt a n c Z w h hm hl hn hn2 hR).mono ?_
    rintro r w' ⟨rfl, v', u, hq, j⟩
    refine ⟨by rw [decide_eq_true hm], l ++ [⟨tt, u, n, Z⟩], v', ?_, j, ?_⟩
    · unfold lostTo; rw [if_pos hm]; exact hq
    · unfold Put2; rw [if_pos hm]; exact ⟨u, rfl⟩
  · refine (rput_full base b most lost l v tt _ w h (by omega) h0 h1).mono ?_
    rintro r w' ⟨rfl, hq, j⟩
    refine ⟨by rw [decide_eq_false hm], l, v, ?_, Turn.of_just j v, ?_⟩
    · unfold lostTo; rw [if_neg hm]; exact hq
    · unfold Put2; rw [if_neg hm]
/-- What is taken: how many bytes, which; what is left. -/
def tkN (l : List It) (i : Int) : Nat := if hasB l.length i = true then (l.getD i.toNat default).n else 0
def tkZ (l : List It) (i : Int) : Nat → Int := (l.getD i.toNat default).Z
def tkL (l : List It) (i : Int) : List It := if hasB l.length i = true then l.eraseIdx i.toNat else l
theorem Sim.tk {l l' : List It} (h : Sim l l') (i : Int) : hasB l.length i = hasB l'.length i ∧ tkN l i = tkN l' i ∧ tkZ l i = tkZ l' i ∧ Sim (tkL l i) (tkL l' i) := by
  unfold tkN tkZ tkL
  rw [h.len]
  refine ⟨rfl, by rw [h.n_], h.Z_ _, ?_⟩
  split
  · exact h.erase _
  · exact h
theorem tkL_len (l : List It) (i : Int) : (tkL l i).length ≤ l.length := by
  unfold tkL
  split
  · rw [List.length_eraseIdx]; split <;> omega
  · exact Nat.le_refl _
theorem hasB_nat {n : Nat} {i : Int} (h : hasB n i = true) : ∃ k : Nat, i = k ∧ k < n := by
  unfold hasB at h
  simp only [decide_eq_true_eq] at h
  exact ⟨i.toNat, by omega, by omega⟩
theorem take_all (base b : Nat) (most lost : Int) (l : List It) (v : Value) (i : Int) (w : World) (h : Que w base b most lost l v) (hl : l.length ≤ 1000) :
    Calls Try.prog 13 #[.pointer (some ⟨b, 0, none⟩), .int .i64 i] w fun r w' => ∃ u v', r = .returned (.tuple #[u, .bool (hasB l.length i)]) ∧ Que w' base b most lost (tkL l i) v' ∧ Bs w' u (tkN l i) (tkZ l i) ∧ Turn w w' b v v' := by
  cases hb : hasB l.length i
  · refine (take_no base b most lost l v i w h (by unfold hasB at hb; simpa using hb)).mono ?_
    rintro r w' ⟨rfl, rfl⟩
    refine ⟨.slice none 0 0, v, rfl, ?_, ?_, Turn.of_below (Below.refl _ _) _ _⟩
    · unfold tkL; rw [hb]; exact h
    · unfold tkN; rw [hb]; exact .inl ⟨rfl, rfl⟩
  · obtain ⟨k, rfl, hk⟩ := hasB_nat hb
    refine (takeT base b most lost l v k w h hk hl).mono ?_
    rintro r w' ⟨v', rfl, hq, hB, j⟩
    refine ⟨_, v', rfl, ?_, ?_, j⟩
    · unfold tkL; rw [hb]; exact hq
    · unfold tkN tkZ; rw [hb]; exact hB
theorem rtake_all (base b : Nat) (most lost : Int) (l : List It) (v : Value) (i : Int) (w : World) (h : Rqu w base b most lost l v) (hl : l.length ≤ 1000) :
    Calls Try.prog 14 #[.pointer (some ⟨b, 0, none⟩), .int .i64 i] w fun r w' => ∃ u v', r = .returned (.tuple #[u, .bool (hasB l.length i)]) ∧ Rqu w' base b most lost (tkL l i) v' ∧ Bs w' u (tkN l i) (tkZ l i) ∧ Turn w w' b v v' := by
  cases hb : hasB l.length i
  · refine (rtake_no base b most lost l v i w h (by unfold hasB at hb; simpa using hb)).mono ?_
    rintro r w' ⟨rfl, rfl⟩
    refine ⟨.slice none 0 0, v, rfl, ?_, ?_, Turn.of_below (Below.refl _ _) _ _⟩
    · unfold tkL; rw [hb]; exact h
    · unfold tkN; rw [hb]; exact .inl ⟨rfl, rfl⟩
  · obtain ⟨k, rfl, hk⟩ := hasB_nat hb
    refine (rtakeT base b most lost l v k w h hk hl).mono ?_
    rintro r w' ⟨v', rfl, hq, j⟩
    refine ⟨_, v', rfl, ?_, ?_, j⟩
    · unfold tkL; rw [hb]; exact hq
    · unfold tkN tkZ; rw [hb]; exact (h.bytes _ (getD_mem hk)).turn j h.own h.row (by decide) (by decide)
theorem at_all (base b : Nat) (most lost : Int) (l : List It) (v : Value) (i : Int) (w : World) (h : Que w base b most lost l v) (hn : ∀ x ∈ l, x.n ≤ 100000) :
    Calls Try.prog 12 #[.pointer (some ⟨b, 0, none⟩), .int .i64 i] w fun r w' => ∃ u, r = .returned (.tuple #[u, .bool (hasB l.length i)]) ∧ Bs w' u (tkN l i) (tkZ l i) ∧ Below w.heap.size w w' := by
  cases hb : hasB l.length i
  · refine (at_no base b most lost l v i w h (by unfold hasB at hb; simpa using hb)).mono ?_
    rintro r w' ⟨rfl, rfl⟩
    refine ⟨.slice none 0 0, rfl, ?_, Below.refl _ _⟩
    unfold tkN; rw [hb]; exact .inl ⟨rfl, rfl⟩
  · obtain ⟨k, rfl, hk⟩ := hasB_nat hb
    refine (at_yes base b most lost l v k w h hk (hn _ (getD_mem hk))).mono ?_
    rintro r w' ⟨u, rfl, hB, j⟩
    refine ⟨u, rfl, ?_, j⟩
    unfold tkN tkZ; rw [hb]; exact hB
theorem same_intsQ (a b : Option Addr) (n c d : Nat) (V : Nat → Value) (X : Nat → Int) (w : World) (hV : V = fun i => .int .i64 (X i)) (hn : n ≤ c) (hm : n ≤ d) (hc : c ≤ maxLen) (hd : d ≤ maxLen) (hX : Row w a n V) (hY : Row w b n V) :
    Calls Try.prog 17 #[.slice a n c, .slice b n d] w fun r w' => r = .returned (.bool true) ∧ ∃ m, w.drewN m = w' := by
  subst hV
  unfold maxLen at hc hd
  go_enter Try.func17, Try.ntmps17
  go_wp2_with fail
  go_loopw [13] (fun i wr => ∃ (k m : Nat), i = .int .i64 k ∧ k ≤ n ∧ w.drewN m = wr) (fun i _ => n - (intOf i).toNat)
  case atStart => exact ⟨0, 0, rfl, by omega, rfl⟩
  case round =>
    obtain ⟨k, m, rfl, hk, rfl⟩ := hrel
    by_cases hlt : k < n
    · obtain ⟨p, o, rfl, _, h1⟩ := hX.at_ hlt
      obtain ⟨q, s, rfl, _, h2⟩ := hY.at_ hlt
      go_wp2_with fail
      go_quiet (fail)
      go_wp2_with fail
      exact ⟨⟨k + 1, _, by go_num, by omega, rfl⟩, by simp [intOf]; omega⟩
    · obtain rfl : k = n := by omega
      go_wp2_with fail
      go_ret
      exact ⟨rfl, m, rfl⟩
end Go.Proofs.Ytmabdegabeopbaa.Qu
