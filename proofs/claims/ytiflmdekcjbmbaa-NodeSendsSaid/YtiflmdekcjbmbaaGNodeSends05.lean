/-
  Package queue (chapter 10): what waits, as a list; what each method makes of it. slices.Delete of one item. Package queue: Put. Package queue: At, Take, Move, To. What the laws of package queue share: a queue that every program must know. Package queue: To, Move. Package queue: Move. Package queue: Put, Take, Move: what they leave alone. Package queue: the reference's queue: New, Put, Take, Move. Package queue: what Put keeps and what At tells lies in memory of its own. Package queue: the queue and the reference's, side by side in one memory; each call by one contract.
-/
import Derived.Test.YtiflmdekcjbmbaaGNodeSends01
import Derived.Lib.Hide
import Derived.Deep.RegionHeld3
import Derived.BigQuiet
import Derived.Shelf.Bytes.SlClone
import Derived.Ground.SlbCloneProg
import Derived.Test.YtiflmdekcjbmbaaGNodeSends04
import Derived.Deep.RegionLaw
import Derived.Lib.SliceRun
import Derived.Lib.SlBytesConst
import Derived.Deep.Cut
import Derived.Deep.CutRange
import Derived.BigRegion
set_option maxRecDepth 100000
namespace Go.Proofs.Ytiflmdekcjbmbaa.Qu
set_option linter.unusedVariables false
set_option linter.unusedSimpArgs false
open Go.RowKit Lb Go.Shelf

/-- One that waits: to whom, the slice, how many bytes, which. -/
structure It where
  «to» : Int
  v : Value
  n : Nat
  Z : Nat → Int
instance : Inhabited It := ⟨⟨0, .slice none 0 0, 0, fun _ => 0⟩⟩
/-- The slice's bytes: nil, or a row in a block of bytes. -/
def Bs (w : World) (v : Value) (n : Nat) (Z : Nat → Int) : Prop :=
  (v = .slice none 0 0 ∧ n = 0) ∨ ∃ g off c cs, v = .slice (some ⟨g, off, none⟩) n c ∧ Own w g 5 cs ∧ n ≤ c ∧ c ≤ maxLen ∧ ∀ i, i < n → cs[off + i]? = some (.int .u8 (Z i))
theorem Bs.row {w : World} {v : Value} {n : Nat} {Z : Nat → Int} (h : Bs w v n Z) : ∃ a c, v = .slice a n c ∧ n ≤ c ∧ c ≤ maxLen ∧ Row w a n (fun i => .int .u8 (Z i)) ∧ (a = none → n = 0 ∧ c = 0) := by
  rcases h with ⟨rfl, rfl⟩ | ⟨g, off, c, cs, rfl, ho, h1, h2, h3⟩
  · exact ⟨none, 0, rfl, Nat.le_refl _, Nat.zero_le _, Row.nil _ _ _, fun _ => ⟨rfl, rfl⟩⟩
  · exact ⟨_, c, rfl, h1, h2, fun _ => ⟨g, off, rfl, ho.lt, fun i hi => by rw [ho.cell, h3 i hi]⟩, fun e => by cases e⟩
theorem Bs.just {w w' : World} {v : Value} {n b : Nat} {Z : Nat → Int} {t : TypeId} {cs : Array Value} (h : Bs w v n Z) (j : Just b w w') (ho : Own w b t cs) (ht : t ≠ 5) : Bs w' v n Z := by
  rcases h with h | ⟨g, off, c, cs', hv, ho', r⟩
  · exact .inl h
  · refine .inr ⟨g, off, c, cs', hv, j.own ho' (fun e => ?_), r⟩
    subst e
    unfold Own at ho ho'
    rw [ho] at ho'
    injection ho' with e
    injection e with _ e _
    exact ht e
theorem Bs.below {w w' : World} {v : Value} {n : Nat} {Z : Nat → Int} (h : Bs w v n Z) (b : Below w.heap.size w w') : Bs w' v n Z := by
  rcases h with h | ⟨g, off, c, cs', hv, ho', r⟩
  · exact .inl h
  · exact .inr ⟨g, off, c, cs', hv, below_own b ho' ho'.lt, r⟩
/-- The cells of a row of items. -/
def iv (l : List It) (j : Nat) : Value := if j % 2 = 0 then .int .i64 (l.getD (j / 2) default).to else (l.getD (j / 2) default).v
theorem iv_at (l : List It) (k : Nat) : iv l (k * 2) = .int .i64 (l.getD k default).to ∧ iv l (k * 2 + 1) = (l.getD k default).v := by
  unfold iv
  rw [if_pos (by omega), if_neg (by omega), show k * 2 / 2 = k by omega, show (k * 2 + 1) / 2 = k by omega]
  exact ⟨rfl, rfl⟩
/-- The queue in block b: so much room, so many that found none, what waits. -/
structure Que (w : World) (base b : Nat) (most lost : Int) (l : List It) (v : Value) : Prop where
  own : Own w b 100 #[.int .i64 most, .int .i64 lost, v]
  row : MineK w base 130 2 v l.length (iv l)
  bytes : ∀ x ∈ l, Bs w x.v x.n x.Z
  low : base ≤ b
theorem Que.c0 {w : World} {base b : Nat} {most lost : Int} {l : List It} {v : Value} (h : Que w base b most lost l v) : w.cell? ⟨b, 0, none⟩ = some (.int .i64 most) := h.own.cell 0
theorem Que.c1 {w : World} {base b : Nat} {most lost : Int} {l : List It} {v : Value} (h : Que w base b most lost l v) : w.cell? ⟨b, 1, none⟩ = some (.int .i64 lost) := h.own.cell 1
theorem Que.c2 {w : World} {base b : Nat} {most lost : Int} {l : List It} {v : Value} (h : Que w base b most lost l v) : w.cell? ⟨b, 2, none⟩ = some v := h.own.cell 2
theorem Que.below {w w' : World} {base b : Nat} {most lost : Int} {l : List It} {v : Value} (h : Que w base b most lost l v) (j : Below w.heap.size w w') : Que w' base b most lost l v where
  own := below_own j h.own h.own.lt
  row := h.row.below j
  bytes x hx := (h.bytes x hx).below j
  low := h.low
theorem new_any (x : Int) (w : World) :
    Calls Try.prog 36 #[.int .i64 x] w fun r w' => r = .returned (.pointer (some ⟨w.heap.size, 0, none⟩)) ∧ Que w' w.heap.size w.heap.size (min (max x 1) 32) 0 [] (.slice none 0 0) ∧ Below w.heap.size w w' ∧ w.heap.size < w'.heap.size := by
  have ho := Own.new w 100 #[.int .i64 (min (max x 1) 32), .int .i64 0, .slice none 0 0]
  have hb := (Below.refl w.heap.size w).alloc (Nat.le_refl _) (.cells #[.int .i64 (min (max x 1) 32), .int .i64 0, .slice none 0 0] 100)
  have hs : w.heap.size < (w.alloc (.cells #[.int .i64 (min (max x 1) 32), .int .i64 0, .slice none 0 0] 100)).heap.size := by simp
  go_enter Try.func36, Try.ntmps36
  go_wp2_with fail
  go_ret
  exact ⟨rfl, ⟨ho, MineK.nil _ _ _ _ _, fun x hx => by simp at hx, Nat.le_refl _⟩, hb, hs⟩
theorem len_any (base b : Nat) (most lost : Int) (l : List It) (v : Value) (w : World) (h : Que w base b most lost l v) :
    Calls Try.prog 21 #[.pointer (some ⟨b, 0, none⟩)] w fun r w' => r = .returned (.int .i64 (l.length : Int)) ∧ w = w' := by
  obtain ⟨a, c, rfl, h1, h2, _⟩ := h.row.row
  have c2 := h.c2
  unfold maxLen at h2
  go_enter Try.func21, Try.ntmps21
  go_wp2_with fail
  go_ret
  exact ⟨rfl, rfl⟩
theorem len_nil (w : World) : Calls Try.prog 21 #[.pointer none] w fun r w' => r = .returned (.int .i64 0) ∧ w = w' := by
  go_enter Try.func21, Try.ntmps21
  go_wp2_with fail
  go_ret
  exact ⟨rfl, rfl⟩
def hasB (n : Nat) (i : Int) : Bool := decide (0 ≤ i ∧ i < (n : Int))
theorem has_any (base b : Nat) (most lost : Int) (l : List It) (v : Value) (i : Int) (w : World) (h : Que w base b most lost l v) :
    Calls Try.prog 62 #[.pointer (some ⟨b, 0, none⟩), .int .i64 i] w fun r w' => r = .returned (.bool (hasB l.length i)) ∧ w = w' := by
  obtain ⟨a, c, rfl, h1, h2, _⟩ := h.row.row
  have c2 := h.c2
  unfold maxLen at h2
  by_cases i0 : 0 ≤ i
  · by_cases i1 : i < (l.length : Int)
    · have HD : Hid (hasB l.length i = true) := Lib.hid (by simp [hasB, i0, i1])
      go_enter Try.func62, Try.ntmps62
      go_wp2_with fail
      go_ret
      exact ⟨by rw [HD.out]; rfl, rfl⟩
    · have HD : Hid (hasB l.length i = false) := Lib.hid (by simp [hasB]; omega)
      have g1 : decide (i < (l.length : Int)) = false := by simp; omega
      clear i1
      go_enter Try.func62, Try.ntmps62
      go_wp2_with fail
      go_ret
      exact ⟨by rw [HD.out]; rfl, rfl⟩
  · have HD : Hid (hasB l.length i = false) := Lib.hid (by simp [hasB]; omega)
    have g1 : decide (0 ≤ i) = false := by simp; omega
    clear i0
    go_enter Try.func62, Try.ntmps62
    go_wp2_with fail
    go_ret
    exact ⟨by rw [HD.out]; rfl, rfl⟩
theorem has_nil (i : Int) (w : World) : Calls Try.prog 62 #[.pointer none, .int .i64 i] w fun r w' => r = .returned (.bool false) ∧ w = w' := by
  go_enter Try.func62, Try.ntmps62
  go_wp2_with fail
  go_ret
  exact ⟨rfl, rfl⟩
def cloneL_ren : Go.Shelf.Ren := ⟨fun | 4 => 60 | n => n, fun | 22 => 33 | 4 => 4 | 5 => 5 | n => n, fun | n => n⟩
theorem cloneL : Go.Proofs.SlLaysK.n4 Try.prog cloneL_ren := {
  mixed := by kernel_rfl
  f4 := Try.func60.trans (congrArg some (by kernel_rfl))
  t4 := Try.underlying4
  a4 := Try.isAgg4
  z4 := Try.sizeOf4
  v4 := Try.zeroValue4
  t22 := Try.underlying33
  a22 := Try.isAgg33
  z22 := Try.sizeOf33
  v22 := Try.zeroValue33
  t5 := Try.underlying5
  i5 := by kernel_rfl }
theorem clone_any (a : Option Addr) (n c : Nat) (Z : Nat → Int) (w : World) (hn : n ≤ c) (hc : n ≤ 140737488355328) (hR : Row w a n (fun i => .int .u8 (Z i))) (ha : a = none → n = 0) :
    Calls Try.prog 60 #[.slice a n c] w fun r w' => ∃ v, r = .returned v ∧ Bs w' v n Z ∧ Below w.heap.size w w' := by
  have hmap : ((List.range n).map Z).map (Value.int .u8) = (List.range n).map (fun i => .int .u8 (Z i)) := by rw [List.map_map]; rfl
  cases a with
  | none =>
    have hcon := Any.bytes_Clone_nil cloneL n c w
    refine Calls.mono hcon ?_
    rintro r w' ⟨rfl, rfl⟩
    exact ⟨_, rfl, .inl ⟨rfl, ha rfl⟩, Below.refl _ _⟩
  | some p =>
    have hcon := Any.bytes_Clone_at cloneL p n c ((List.range n).map Z) w (by simp) hc (fun i hi => by
      obtain ⟨b, off, hp, _, h3⟩ := hR.at_ hi
      injection hp with hp
      subst hp
      rw [Addr.add_lit, h3]
      simp [hi])
    refine Calls.mono hcon ?_
    rintro r w' ⟨v, rfl, hown, hne, hb⟩
    refine ⟨v, rfl, ?_, hb⟩
    rw [hmap] at hown
    obtain ⟨_, h2⟩ := hown
    rcases h2 with ⟨hv, _⟩ | ⟨g, cap, cur, hv, hg, hh, hc, hm, hs, ht⟩
    · exact absurd hv hne
    · refine .inr ⟨g, 0, cap, cur, hv, hh, hc, hm, fun i hi => ?_⟩
      have e1 := congrArg (fun l : List Value => l[i]?) ht
      simp only [Nat.mul_one, List.getElem?_take, if_pos hi, Array.getElem?_toList] at e1
      rw [Nat.zero_add, e1]
      simp [hi]
end Go.Proofs.Ytiflmdekcjbmbaa.Qu
set_option maxRecDepth 100000
namespace Go.Proofs.Ytiflmdekcjbmbaa.Qu
set_option linter.unusedVariables false
set_option linter.unusedSimpArgs false
open Go.RowKit Lb

end Go.Proofs.Ytiflmdekcjbmbaa.Qu
set_option maxRecDepth 100000
namespace Go.Proofs.Ytiflmdekcjbmbaa.Qu
set_option linter.unusedVariables false
set_option linter.unusedSimpArgs false
open Go.RowKit Lb

theorem iv_snoc (l : List It) (x : It) (q : Nat) (h : q < (l.length + 1) * 2) : (if q < l.length * 2 then iv l q else iv [x] (q - l.length * 2)) = iv (l ++ [x]) q := by
  unfold iv
  by_cases h1 : q < l.length * 2
  · rw [if_pos h1, List.getD_eq_getElem?_getD, List.getD_eq_getElem?_getD, List.getElem?_append_left (by omega)]
  · have e1 : q / 2 = l.length := by omega
    have e2 : (q - l.length * 2) / 2 = 0 := by omega
    have e3 : (q - l.length * 2) % 2 = q % 2 := by omega
    rw [if_neg h1, e1, e2, e3]
    simp
def itemOk (l : List It) : Prop := ∀ x ∈ l, x.v.oneCell' = true
theorem bs_one {w : World} {v : Value} {n : Nat} {Z : Nat → Int} (h : Bs w v n Z) : v.oneCell' = true := by
  rcases h with ⟨rfl, _⟩ | ⟨g, off, c, cs, rfl, _⟩ <;> rfl
theorem iv_one {l : List It} (h : itemOk l) (j : Nat) : (iv l j).oneCell' = true := by
  unfold iv
  split
  · rfl
  · by_cases hj : j / 2 < l.length
    · rw [List.getD_eq_getElem?_getD, List.getElem?_eq_getElem hj]
      exact h _ (List.getElem_mem hj)
    · rw [List.getD_eq_getElem?_getD, List.getElem?_eq_none (by omega)]
      rfl
theorem Que.ok {w : World} {base b : Nat} {most lost : Int} {l : List It} {v : Value} (h : Que w base b most lost l v) : itemOk l := fun x hx => bs_one (h.bytes x hx)
theorem own_type {w : World} {b : Nat} {t t' : TypeId} {cs cs' : Array Value} (h : Own w b t cs) (h' : Own w b t' cs') : t = t' := by
  unfold Own at h h'
  rw [h] at h'
  injection h' with e
  injection e
theorem mine_at {w : World} {base n q : Nat} {v : Value} {V : Nat → Value} (h : MineK w base 130 2 v n V) (e : v.ownBlock = some q) : base ≤ q ∧ ∃ cs, Own w q 130 cs := by
  obtain ⟨_, h2⟩ := h
  rcases h2 with ⟨hv, _⟩ | ⟨g, cap, cur, hv, hg, hh, _⟩
  · subst hv
    cases e
  · subst hv
    have e : some g = some q := e
    injection e with e
    subst e
    exact ⟨hg, cur, hh⟩
theorem mine_ne {w : World} {base n q b : Nat} {v : Value} {V : Nat → Value} {cs : Array Value} (h : MineK w base 130 2 v n V) (ho : Own w b 100 cs) (e : v.ownBlock = some q) : q ≠ b := by
  rintro rfl
  obtain ⟨_, cs', h'⟩ := mine_at h e
  exact absurd (own_type ho h') (by decide)
theorem mine_set {w : World} {base n b : Nat} {v : Value} {V : Nat → Value} {cs : Array Value} (h : MineK w base 130 2 v n V) (ho : Own w b 100 cs) (i : Nat) (u : Value) : MineK (w.setCell ⟨b, i, none⟩ u) base 130 2 v n V :=
  h.kept fun q hq => by
    by_cases hb : q = b
    · exact .inr fun e => mine_ne h ho e hb
    · exact .inl (Below.heap_setCell _ _ _ _ hb)
theorem Bs.grown {w w' : World} {v : Value} {n : Nat} {Z : Nat → Int} {row : Option Nat} (h : Bs w v n Z) (g : w.grownBy w' row) (hr : ∀ q, row = some q → ∃ cs, Own w q 130 cs) : Bs w' v n Z := by
  rcases h with h | ⟨p, off, c, cs', hv, ho', r⟩
  · exact .inl h
  · refine .inr ⟨p, off, c, cs', hv, (g.block p ho'.lt (fun e => ?_)).trans ho', r⟩
    obtain ⟨cs, hcs⟩ := hr p e.symm
    exact absurd (own_type ho' hcs) (by decide)
theorem put_nil (tt0 : Int) (u : Value) (w : World) : Calls Try.prog 40 #[.pointer none, .int .i64 tt0, u] w fun r w' => r = .returned (.bool false) ∧ w = w' := by
  go_enter Try.func40, Try.ntmps40
  go_wp2_with fail
  go_ret
  exact ⟨rfl, rfl⟩
set_option maxHeartbeats 1000000 in
theorem put_full (base b : Nat) (most lost : Int) (l : List It) (v : Value) (tt0 : Int) (u : Value) (w : World) (h : Que w base b most lost l v) (hm : most ≤ (l.length : Int)) (h0 : 0 ≤ lost) (h1 : lost ≤ 1000000) :
    Calls Try.prog 40 #[.pointer (some ⟨b, 0, none⟩), .int .i64 tt0, u] w fun r w' => r = .returned (.bool false) ∧ Que w' base b most (min (lost + 1) 1000000) l v ∧ Just b w w' := by
  obtain ⟨a, c, rfl, h3, h4, _⟩ := h.row.row
  unfold maxLen at h4
  have c0 := h.c0
  have c1 := h.c1
  have c2 := h.c2
  have f1 : w.frozen? ⟨b, 1, none⟩ = false := h.own.free 1
  go_enter Try.func40, Try.ntmps40
  go_wp2_with fail
  go_quiet (fail)
  go_wp2_with fail
  go_ret
  have j := ((Just.refl b w).drewN nq).put 1 (.int .i64 (min (lost + 1) 1000000))
  refine ⟨rfl, ⟨?_, ?_, fun x hx => (h.bytes x hx).just j h.own (by decide), h.low⟩, j⟩
  · have := (Own.drewN h.own nq).put 1 (.int .i64 (min (lost + 1) 1000000))
    exact this
  · exact mine_set (h.row.drewN nq) (h.own.drewN nq) 1 _
end Go.Proofs.Ytiflmdekcjbmbaa.Qu
set_option maxRecDepth 100000
namespace Go.Proofs.Ytiflmdekcjbmbaa.Qu
set_option linter.unusedVariables false
set_option linter.unusedSimpArgs false
open Go.RowKit Lb

theorem iv_del (l : List It) {i j : Nat} (hi : i < l.length) (hj : j < (l.length - 1) * 2) : (if j < i * 2 then iv l j else iv l (j + 2)) = iv (l.eraseIdx i) j := by
  unfold iv
  have e : ∀ k, k < l.length - 1 → (l.eraseIdx i).getD k default = if k < i then l.getD k default else l.getD (k + 1) default := fun k hk => by
    simp only [List.getD_eq_getElem?_getD, List.getElem?_eraseIdx]
    split <;> rfl
  rw [e _ (by omega)]
  by_cases h : j < i * 2
  · simp only [if_pos h, if_pos (show j / 2 < i by omega)]
  · simp only [if_neg h, if_neg (show ¬ j / 2 < i by omega), show (j + 2) / 2 = j / 2 + 1 by omega, show (j + 2) % 2 = j % 2 by omega]
theorem Que.at_ {w : World} {base b : Nat} {most lost : Int} {l : List It} {v : Value} (h : Que w base b most lost l v) {i : Nat} (hi : i < l.length) :
    ∃ g c, v = .slice (some ⟨g, 0, none⟩) l.length c ∧ l.length ≤ c ∧ c ≤ maxLen ∧ w.cell? ⟨g, i * 2, none⟩ = some (.int .i64 (l.getD i default).to) ∧ w.cell? ⟨g, i * 2 + 1, none⟩ = some (l.getD i default).v ∧ w.frozen? ⟨g, i * 2, none⟩ = false := by
  obtain ⟨g, c, cs, rfl, hgb, ho, hnc, hcm, hsz, hcv⟩ := h.row.block (by omega)
  obtain ⟨e1, e2⟩ := iv_at l i
  exact ⟨g, c, rfl, hnc, hcm, (ho.cell _).trans ((hcv _ (by omega)).trans (congrArg some e1)), (ho.cell _).trans ((hcv _ (by omega)).trans (congrArg some e2)), ho.free _⟩
theorem getD_mem {l : List It} {i : Nat} (hi : i < l.length) : l.getD i default ∈ l := by
  rw [List.getD_eq_getElem?_getD, List.getElem?_eq_getElem hi]
  exact List.getElem_mem hi
theorem at_no (base b : Nat) (most lost : Int) (l : List It) (v : Value) (i : Int) (w : World) (h : Que w base b most lost l v) (hi : ¬ (0 ≤ i ∧ i < (l.length : Int))) :
    Calls Try.prog 43 #[.pointer (some ⟨b, 0, none⟩), .int .i64 i] w fun r w' => r = .returned (.tuple #[.slice none 0 0, .bool false]) ∧ w = w' := by
  have HD : Hid (hasB l.length i = false) := Lib.hid (by unfold hasB; exact decide_eq_false hi)
  go_enter Try.func43, Try.ntmps43
  go_wp2_with fail
  refine (has_any base b most lost l v i _ h).mono ?_
  rintro r w' ⟨rfl, rfl⟩
  rw [HD.out]
  go_wp2_with fail
  refine bodyPost_ret (results_tmp2 rfl _ _ _) rfl ?_
  exact ⟨rfl, rfl⟩
theorem at_nil (i : Int) (w : World) : Calls Try.prog 43 #[.pointer none, .int .i64 i] w fun r w' => r = .returned (.tuple #[.slice none 0 0, .bool false]) ∧ w = w' := by
  go_enter Try.func43, Try.ntmps43
  go_wp2_with fail
  refine (has_nil i _).mono ?_
  rintro r w' ⟨rfl, rfl⟩
  go_wp2_with fail
  refine bodyPost_ret (results_tmp2 rfl _ _ _) rfl ?_
  exact ⟨rfl, rfl⟩
theorem at_yes (base b : Nat) (most lost : Int) (l : List It) (v : Value) (i : Nat) (w : World) (h : Que w base b most lost l v) (hi : i < l.length) (hn : (l.getD i default).n ≤ 100000) :
    Calls Try.prog 43 #[.pointer (some ⟨b, 0, none⟩), .int .i64 i] w fun r w' => ∃ u, r = .returned (.tuple #[u, .bool true]) ∧ Bs w' u (l.getD i default).n (l.getD i default).Z ∧ Below w.heap.size w w' := by
  have HD : Hid (hasB l.length i = true) := Lib.hid (by unfold hasB; rw [decide_eq_true_eq]; omega)
  obtain ⟨g, c, rfl, h1, h2, k0, k1, _⟩ := h.at_ hi
  have c2 := h.c2
  have hb := h.bytes _ (getD_mem hi)
  unfold maxLen at h2
  generalize l.getD i default = x at *
  obtain ⟨tt0, xv, xn, Z⟩ := x
  dsimp only at *
  obtain ⟨a5, c5, rfl, hc5, hd5, hR5, hn5⟩ := hb.row
  go_enter Try.func43, Try.ntmps43
  go_wp2_with fail
  refine (has_any base b most lost l _ i _ h).mono ?_
  rintro r w' ⟨rfl, rfl⟩
  rw [HD.out]
  go_wp2_with fail
  refine (clone_any a5 xn c5 Z _ hc5 (by omega) hR5 (fun e => (hn5 e).1)).mono ?_
  rintro r w4 ⟨v4, rfl, hB, b4⟩
  go_wp2_with fail
  refine bodyPost_ret (results_tmp2 rfl _ _ _) rfl ?_
  exact ⟨v4, rfl, hB, b4⟩
end Go.Proofs.Ytiflmdekcjbmbaa.Qu
set_option maxRecDepth 100000
namespace Go.Proofs.Ytiflmdekcjbmbaa.Qu
set_option linter.unusedVariables false
set_option linter.unusedSimpArgs false
open Go.RowKit Lb

theorem convBB (w : World) (x : Int) : (convert 33 33 (.slice (some ⟨w.heap.size, 0, none⟩) 1 1)).run Try.prog (w.alloc (.cells #[.int .u8 x] 5)) = .ok (.slice (some ⟨w.heap.size, 0, none⟩) 1 1) (w.alloc (.cells #[.int .u8 x] 5 (1, 2))) :=
  Lib.run_convert_bytes_const w 33 5 #[.int .u8 x] 1 1 Try.underlying33 Try.underlying5
theorem to_nil (w : World) : Calls Try.prog 44 #[.pointer none] w fun r w' => r = .returned (.slice none 0 0) ∧ w = w' := by
  go_enter Try.func44, Try.ntmps44
  go_wp2_with fail
  go_ret
  exact ⟨rfl, rfl⟩
end Go.Proofs.Ytiflmdekcjbmbaa.Qu
set_option maxRecDepth 100000
namespace Go.Proofs.Ytiflmdekcjbmbaa.Qu
set_option linter.unusedVariables false
set_option linter.unusedSimpArgs false
open Go.RowKit Lb

theorem infoN : (Try.prog.info? 3).map (fun i => (i.zero, i.size, i.bytes)) = some (some (.int .i64 0), 1, 8) := by kernel_rfl
def tov (l : List It) (j : Nat) : Value := .int .i64 (l.getD j default).to
set_option maxHeartbeats 2000000 in
theorem to_any (base b : Nat) (most lost : Int) (l : List It) (v : Value) (w : World) (h : Que w base b most lost l v) (hl : l.length ≤ 1000) :
    Calls Try.prog 44 #[.pointer (some ⟨b, 0, none⟩)] w fun r w' => ∃ a c, r = .returned (.slice a l.length c) ∧ l.length ≤ c ∧ c ≤ maxLen ∧ Row w' a l.length (tov l) ∧ Below w.heap.size w w' := by
  obtain ⟨a, c, rfl, h1, h2, hR⟩ := h.row.row
  have c2 := h.c2
  have hbl := h.own.lt
  unfold maxLen at h2
  obtain ⟨i0, hi0, hz0, hz1, hz2⟩ := info_parts infoN
  obtain ⟨n, hn⟩ : ∃ n, l.length = n := ⟨_, rfl⟩
  rw [hn] at hR c2 h1 hl ⊢
  have HN := Lib.hid hn
  clear hn
  have hmk : ∀ w : World, (Instr.makeSlice 26 (.int .i64 (n : Int)) (.int .i64 (n : Int))).run Try.prog w = .ok (.slice (some ⟨w.heap.size, 0, none⟩) n n) (w.alloc (.cells (madeCells #[.int .i64 0] n) 3)) := by
    intro w
    have := run_make w 26 3 i0 (.int .i64 0) Try.underlying26 hi0 hz0 .i64 .i64 (n : Int) (n : Int) (by omega) (by omega) (by rw [hz2]; omega) (by omega)
    rw [this, hz1]
    simp [Value.cells]
  have HCS : Hid (madeCells #[Value.int .i64 0] n = (List.replicate n (Value.int .i64 0)).toArray) := Lib.hid (by
    apply Array.toList_inj.1
    simpa using toList_madeCells_one (Value.int .i64 0) n)
  go_enter Try.func44, Try.ntmps44
  go_wp2_with fail
  have o1 : Blk (w.alloc (.cells (madeCells #[.int .i64 0] n) 3)) w.heap.size 3 n (fun j => if j < 0 then tov l j else .int .i64 0) := Blk.ext (Blk.same (Own.new _ _ _) HCS.out) (fun i hi => by rw [if_neg (by omega)])
  have b1 := (Below.refl w.heap.size w).alloc (Nat.le_refl _) (.cells (madeCells #[.int .i64 0] n) 3)
  have c3 : (w.alloc (.cells (madeCells #[.int .i64 0] n) 3)).cell? ⟨b, 2, none⟩ = some (.slice a n c) := by rw [b1.cell (p := ⟨b, 2, none⟩) hbl]; exact c2
  generalize w.alloc (.cells (madeCells #[.int .i64 0] n) 3) = w1 at *
  clear hmk HCS c2
  obtain ⟨g, hg⟩ : ∃ g, g = w.heap.size := ⟨_, rfl⟩
  rw [← hg] at o1 ⊢
  have HG := Lib.hid hg
  clear hg
  go_wp2_with fail
  go_loopw [19] (fun i wr => ∃ k : Nat, i = .int .i64 k ∧ k ≤ n ∧ Blk wr g 3 n (fun j => if j < k then tov l j else .int .i64 0) ∧ Below w.heap.size w wr) (fun i _ => n - (intOf i).toNat)
  case atStart => exact ⟨0, rfl, by omega, o1, b1⟩
  case round =>
    clear o1 b1 c3
    obtain ⟨k, rfl, hk, o1, bb⟩ := hrel
    by_cases hlt : k < n
    · obtain ⟨p, o, rfl, hp, hcs⟩ := hR.at_struct bb hlt (by decide)
      obtain ⟨e0, e1⟩ := iv_at l k
      have a0 := (hcs 0 (by decide)).trans (congrArg some e0)
      have a1 := (hcs 1 (by decide)).trans (congrArg some e1)
      rw [Nat.add_zero] at a0
      have hx := h.bytes _ (getD_mem (l := l) (i := k) (by rw [HN.out]; exact hlt))
      obtain ⟨t, ht⟩ : ∃ t, (l.getD k default).to = t := ⟨_, rfl⟩
      obtain ⟨xv, hxv⟩ : ∃ xv, (l.getD k default).v = xv := ⟨_, rfl⟩
      rw [ht] at a0
      rw [hxv] at a1 hx
      have HT := Lib.hid ht
      obtain ⟨a5, c5, rfl, hc5, hd5, hR5, hn5⟩ := hx.row
      generalize (l.getD k default).n = xn at *
      clear hcs e0 e1 ht hxv hx hR5 hn5
      have g0 := o1.cell hlt
      have g0 : wr.cell? ⟨g, k, none⟩ = some (.int .i64 0) := by rw [g0, if_neg (by omega)]
      have gf := o1.free k
      have HP := Lib.hid ((o1.put k (.int .i64 t)).ext (U := fun j => if j < k + 1 then tov l j else .int .i64 0) (fun j hj => by
        by_cases h : j = k
        · subst h
          rw [if_pos rfl, if_pos (by omega)]
          unfold tov
          rw [HT.out]
        · rw [if_neg h]
          by_cases h2 : j < k
          · rw [if_pos h2, if_pos (by omega)]
          · rw [if_neg h2, if_neg (by omega)]))
      have hne : g < wr.heap.size := o1.lt
      have HB := Lib.hid ((Just.set g wr k (.int .i64 t)).below bb (by rw [HG.out]; exact Nat.le_refl _) bb.size)
      go_wp2_with fail
      exact ⟨⟨k + 1, by simp [intOf], by omega, Blk.alloc HP.out _, HB.out.alloc HB.out.size _⟩, by simp [intOf]; omega⟩
    · obtain rfl : k = n := by omega
      go_wp2_with fail
      go_ret
      exact ⟨some ⟨g, 0, none⟩, k, rfl, Nat.le_refl _, by unfold maxLen; omega, fun hn => ⟨g, 0, rfl, o1.lt, fun i hi => by rw [Nat.zero_add, o1.cell hi, if_pos hi]⟩, bb⟩
end Go.Proofs.Ytiflmdekcjbmbaa.Qu
set_option maxRecDepth 100000
namespace Go.Proofs.Ytiflmdekcjbmbaa.Qu
set_option linter.unusedVariables false
set_option linter.unusedSimpArgs false
open Go.RowKit Lb

theorem mineK_put1 {w : World} {base g s n c : Nat} {e : TypeId} {V : Nat → Value} (h : MineK w base e s (.slice (some ⟨g, 0, none⟩) n c) n V) (hn : 0 < n) (i : Nat) (u : Value) :
    MineK (w.setCell ⟨g, i, none⟩ u) base e s (.slice (some ⟨g, 0, none⟩) n c) n (fun j => if j = i then u else V j) := by
  obtain ⟨g', c', cs, hv, hgb, ho, hnc, hcm, hsz, hcv⟩ := h.block hn
  injection hv with hv1 _ hv2
  injection hv1 with hv1
  injection hv1 with hv1
  subst hv1 hv2
  refine MineK.made (ho.put i u) hgb (by simpa using hsz) hcm hnc (fun j hj => ?_)
  rw [Array.getElem?_setIfInBounds]
  have hjs : j < cs.size := by rw [hsz]; exact Nat.lt_of_lt_of_le hj (Nat.mul_le_mul_right _ hnc)
  by_cases hij : i = j
  · subst hij
    rw [if_pos rfl, if_pos hjs, if_pos rfl]
  · rw [if_neg hij, if_neg (fun e => hij e.symm), hcv j hj]
/-- An item that goes to another one now. -/
def mv (x y : Int) (t : It) : It := if t.to = x then { t with «to» := y } else t
theorem mv_to (x y : Int) (t : It) : (mv x y t).to = if t.to = x then y else t.to := by
  unfold mv
  split <;> rfl
theorem mv_v (x y : Int) (t : It) : (mv x y t).v = t.v ∧ (mv x y t).n = t.n ∧ (mv x y t).Z = t.Z := by
  unfold mv
  split <;> exact ⟨rfl, rfl, rfl⟩
def mvv (x y : Int) (l : List It) (k j : Nat) : Value := if j % 2 = 0 ∧ j / 2 < k then .int .i64 (if (l.getD (j / 2) default).to = x then y else (l.getD (j / 2) default).to) else iv l j
theorem mvv_zero (x y : Int) (l : List It) (j : Nat) : mvv x y l 0 j = iv l j := by
  unfold mvv
  rw [if_neg (by omega)]
theorem mvv_all (x y : Int) (l : List It) (j : Nat) (hj : j < l.length * 2) : mvv x y l l.length j = iv (l.map (mv x y)) j := by
  have e : (l.map (mv x y)).getD (j / 2) default = mv x y (l.getD (j / 2) default) := by
    rw [List.getD_eq_getElem?_getD, List.getD_eq_getElem?_getD, List.getElem?_map, List.getElem?_eq_getElem (by omega)]
    rfl
  unfold mvv iv
  rw [e]
  by_cases h : j % 2 = 0
  · rw [if_pos ⟨h, by omega⟩, if_pos h, mv_to]
  · rw [if_neg (fun e => h e.1), if_neg h, if_neg h, (mv_v x y _).1]
theorem mvv_step (x y : Int) (l : List It) (k j : Nat) : mvv x y l (k + 1) j = if j = k * 2 then .int .i64 (if (l.getD k default).to = x then y else (l.getD k default).to) else mvv x y l k j := by
  unfold mvv
  by_cases h : j = k * 2
  · subst h
    rw [if_pos (by omega), if_pos rfl, show k * 2 / 2 = k by omega]
  · rw [if_neg h]
    by_cases h2 : j % 2 = 0 ∧ j / 2 < k
    · rw [if_pos h2, if_pos ⟨h2.1, by omega⟩]
    · rw [if_neg h2, if_neg (by omega)]
def cnt (x : Int) (l : List It) : Nat → Nat
  | 0 => 0
  | k + 1 => cnt x l k + if (l.getD k default).to = x then 1 else 0
theorem cnt_le (x : Int) (l : List It) : ∀ k, cnt x l k ≤ k
  | 0 => Nat.le_refl _
  | k + 1 => by
    have := cnt_le x l k
    unfold cnt
    split <;> omega
end Go.Proofs.Ytiflmdekcjbmbaa.Qu
set_option maxRecDepth 100000
namespace Go.Proofs.Ytiflmdekcjbmbaa.Qu
set_option linter.unusedVariables false
set_option linter.unusedSimpArgs false
open Go.RowKit Lb
end Go.Proofs.Ytiflmdekcjbmbaa.Qu
set_option maxRecDepth 100000
namespace Go.Proofs.Ytiflmdekcjbmbaa.Qu
set_option linter.unusedVariables false
set_option linter.unusedSimpArgs false
open Go.RowKit Lb

theorem infoU8 : (Try.prog.info? 5).map (fun i => (i.zero, i.size, i.bytes)) = some (some (.int .u8 0), 1, 1) := by kernel_rfl
/-- Bytes stay where a block that is none of bytes turns. -/
theorem Bs.turn {w w' : World} {b base s n m : Nat} {v v' x : Value} {t e : TypeId} {ds : Array Value} {V : Nat → Value} {Z : Nat → Int} (h : Bs w x m Z) (j : Turn w w' b v v') (ho : Own w b t ds) (hr : MineK w base e s v n V) (h1 : 5 ≠ t) (h2 : 5 ≠ e) : Bs w' x m Z := by
  rcases h with h | ⟨g, off, c, cs', hv, ho', r⟩
  · exact .inl h
  · exact .inr ⟨g, off, c, cs', hv, j.ty ho hr ho' h1 h2, r⟩
theorem bs_of {w : World} {base n : Nat} {v : Value} {Z : Nat → Int} (h : Mine w base 5 v n (fun i => .int .u8 (Z i))) : Bs w v n Z := by
  unfold Mine at h
  obtain ⟨_, h2⟩ := h
  rcases h2 with ⟨hv, h0⟩ | ⟨g, cap, cur, hv, hg, hh, hc, hm, hs, ht⟩
  · exact .inl ⟨hv, h0⟩
  · refine .inr ⟨g, 0, cap, cur, hv, hh, hc, hm, fun i hi => ?_⟩
    have e1 := congrArg (fun l : List Value => l[i]?) ht
    simp only [Nat.mul_one, List.getElem?_take, if_pos hi, Array.getElem?_toList] at e1
    rw [Nat.zero_add, e1]
    simp [hi]
theorem iv_pre (l : List It) (i q : Nat) (h : q < i * 2) : iv l q = iv (l.eraseIdx i) q := by
  have e : (l.eraseIdx i).getD (q / 2) default = l.getD (q / 2) default := by
    rw [List.getD_eq_getElem?_getD, List.getD_eq_getElem?_getD, List.getElem?_eraseIdx_of_lt (by omega)]
  unfold iv
  rw [e]
theorem iv_post (l : List It) (i q : Nat) (h : ¬ q < i * 2) : iv l ((i + 1) * 2 + (q - i * 2)) = iv (l.eraseIdx i) q := by
  have e : (l.eraseIdx i).getD (q / 2) default = l.getD (((i + 1) * 2 + (q - i * 2)) / 2) default := by
    rw [List.getD_eq_getElem?_getD, List.getD_eq_getElem?_getD, List.getElem?_eraseIdx_of_ge (by omega)]
    congr 2
    omega
  unfold iv
  rw [e, show ((i + 1) * 2 + (q - i * 2)) % 2 = q % 2 by omega]
theorem cut_row2 {w : World} {A : Option Addr} {n c K : Nat} {V U : Nat → Value} (h : Row w A (n * 2) V) (hn : n ≤ c) (hV : ∀ i, V (K * 2 + i) = U i) : Row w (cutA A c K 2) ((n - K) * 2) U := by
  intro h0
  obtain ⟨b, off, h1, h2, h3⟩ := cut_row (K := K) h hn h0
  exact ⟨b, off, h1, h2, fun i hi => (h3 i hi).trans (congrArg some (hV i))⟩
end Go.Proofs.Ytiflmdekcjbmbaa.Qu
set_option maxRecDepth 100000
namespace Go.Proofs.Ytiflmdekcjbmbaa.Qu
set_option linter.unusedVariables false
set_option linter.unusedSimpArgs false
open Go.RowKit Lb Go.Shelf

theorem clone_new (a : Option Addr) (n c : Nat) (Z : Nat → Int) (w : World) (hn : n ≤ c) (hc : n ≤ 140737488355328) (hR : Row w a n (fun i => .int .u8 (Z i))) (ha : a = none → n = 0) :
    Calls Try.prog 60 #[.slice a n c] w fun r w' => ∃ v, r = .returned v ∧ Bs w' v n Z ∧ Below w.heap.size w w' ∧ ∀ q, v.ownBlock = some q → w.heap.size ≤ q := by
  have hmap : ((List.range n).map Z).map (Value.int .u8) = (List.range n).map (fun i => .int .u8 (Z i)) := by rw [List.map_map]; rfl
  cases a with
  | none =>
    have hcon := Any.bytes_Clone_nil cloneL n c w
    refine Calls.mono hcon ?_
    rintro r w' ⟨rfl, rfl⟩
    exact ⟨_, rfl, .inl ⟨rfl, ha rfl⟩, Below.refl _ _, fun q e => by cases e⟩
  | some p =>
    have hcon := Any.bytes_Clone_at cloneL p n c ((List.range n).map Z) w (by simp) hc (fun i hi => by
      obtain ⟨b, off, hp, _, h3⟩ := hR.at_ hi
      injection hp with hp
      subst hp
      rw [Addr.add_lit, h3]
      simp [hi])
    refine Calls.mono hcon ?_
    rintro r w' ⟨v, rfl, hown, hne, hb⟩
    rw [hmap] at hown
    have hfr : ∀ q, v.ownBlock = some q → w.heap.size ≤ q := fun q e => by
      obtain ⟨_, h2⟩ := hown
      rcases h2 with ⟨hv, _⟩ | ⟨g, cap, cur, hv, hg, _⟩
      · exact absurd hv hne
      · subst hv
        have e : some g = some q := e
        injection e with e
        omega
    refine ⟨v, rfl, ?_, hb, hfr⟩
    obtain ⟨_, h2⟩ := hown
    rcases h2 with ⟨hv, _⟩ | ⟨g, cap, cur, hv, hg, hh, hc, hm, hs, ht⟩
    · exact absurd hv hne
    · refine .inr ⟨g, 0, cap, cur, hv, hh, hc, hm, fun i hi => ?_⟩
      have e1 := congrArg (fun l : List Value => l[i]?) ht
      simp only [Nat.mul_one, List.getElem?_take, if_pos hi, Array.getElem?_toList] at e1
      rw [Nat.zero_add, e1]
      simp [hi]
theorem at_new (base b : Nat) (most lost : Int) (l : List It) (v : Value) (i : Nat) (w : World) (h : Que w base b most lost l v) (hi : i < l.length) (hn : (l.getD i default).n ≤ 100000) :
    Calls Try.prog 43 #[.pointer (some ⟨b, 0, none⟩), .int .i64 i] w fun r w' => ∃ u, r = .returned (.tuple #[u, .bool true]) ∧ Bs w' u (l.getD i default).n (l.getD i default).Z ∧ Below w.heap.size w w' ∧ ∀ q, u.ownBlock = some q → w.heap.size ≤ q := by
  have HD : Hid (hasB l.length i = true) := Lib.hid (by unfold hasB; rw [decide_eq_true_eq]; omega)
  obtain ⟨g, c, rfl, h1, h2, k0, k1, _⟩ := h.at_ hi
  have c2 := h.c2
  have hb := h.bytes _ (getD_mem hi)
  unfold maxLen at h2
  generalize l.getD i default = x at *
  obtain ⟨tt0, xv, xn, Z⟩ := x
  dsimp only at *
  obtain ⟨a5, c5, rfl, hc5, hd5, hR5, hn5⟩ := hb.row
  go_enter Try.func43, Try.ntmps43
  go_wp2_with fail
  refine (has_any base b most lost l _ i _ h).mono ?_
  rintro r w' ⟨rfl, rfl⟩
  rw [HD.out]
  go_wp2_with fail
  refine (clone_new a5 xn c5 Z _ hc5 (by omega) hR5 (fun e => (hn5 e).1)).mono ?_
  rintro r w4 ⟨v4, rfl, hB, b4, hf4⟩
  go_wp2_with fail
  refine bodyPost_ret (results_tmp2 rfl _ _ _) rfl ?_
  exact ⟨v4, rfl, hB, b4, hf4⟩
theorem Bs.lt {w : World} {v : Value} {n q : Nat} {Z : Nat → Int} (h : Bs w v n Z) (e : v.ownBlock = some q) : q < w.heap.size := by
  rcases h with ⟨hv, _⟩ | ⟨g, off, c, cs, hv, ho, _⟩
  · subst hv
    cases e
  · subst hv
    have e : some g = some q := e
    injection e with e
    subst e
    exact ho.lt
/-- Bytes stay what they are where another block turns. -/
theorem Bs.other {w w' : World} {v : Value} {n b : Nat} {Z : Nat → Int} (h : Bs w v n Z) (j : Just b w w') (hb : ∀ q, v.ownBlock = some q → q ≠ b) : Bs w' v n Z := by
  rcases h with h | ⟨g, off, c, cs', hv, ho', r⟩
  · exact .inl h
  · exact .inr ⟨g, off, c, cs', hv, j.own ho' (hb g (by rw [hv]; rfl)), r⟩
/-- The queue stays what it is where a block of bytes turns that is none of its own. -/
theorem Que.other {w w' : World} {base b g : Nat} {most lost : Int} {l : List It} {v : Value} {cs : Array Value} (h : Que w base b most lost l v) (j : Just g w w') (ho : Own w g 5 cs) (hb : ∀ x ∈ l, ∀ q, x.v.ownBlock = some q → q ≠ g) : Que w' base b most lost l v where
  own := j.own h.own (fun e => by subst e; exact absurd (own_type h.own ho) (by decide))
  row := h.row.kept (fun q _ => by
    by_cases hq : q = g
    · subst hq
      exact .inr fun e => by
        obtain ⟨_, cs', h'⟩ := mine_at h.row e
        exact absurd (own_type h' ho) (by decide)
    · by_cases hl : q < w.heap.size
      · exact .inl (j.block q hl hq)
      · exact .inr fun e => hl (h.row.lt q e).2)
  bytes x hx := (h.bytes x hx).other j (hb x hx)
  low := h.low
theorem Bs.put {w : World} {g off n c : Nat} {Z : Nat → Int} (h : Bs w (.slice (some ⟨g, off, none⟩) n c) n Z) {i : Nat} (hi : i < n) (z : Int) : Bs (w.setCell ⟨g, off + i, none⟩ (.int .u8 z)) (.slice (some ⟨g, off, none⟩) n c) n (fun j => if j = i then z else Z j) := by
  rcases h with ⟨h, h0⟩ | ⟨g', off', c', cs, hv, ho, h1, h2, h3⟩
  · omega
  · injection hv with e1 _ e2
    injection e1 with e1
    injection e1 with e1 e3
    subst e1 e2 e3
    refine .inr ⟨g, off, c, _, rfl, ho.put _ _, h1, h2, fun j hj => ?_⟩
    have hjs : off + j < cs.size := by
      have := h3 j hj
      by_cases hlt : off + j < cs.size
      · exact hlt
      · rw [Array.getElem?_eq_none (by omega)] at this
        cases this
    rw [Array.getElem?_setIfInBounds]
    by_cases e : i = j
    · subst e
      rw [if_pos rfl, if_pos hjs]
      simp
    · rw [if_neg (by omega), h3 j hj]
      simp [show ¬ j = i from fun e' => e e'.symm]
theorem Bs.at_ {w : World} {a : Option Addr} {n c : Nat} {Z : Nat → Int} (h : Bs w (.slice a n c) n Z) {i : Nat} (hi : i < n) : ∃ g off cs, a = some ⟨g, off, none⟩ ∧ Own w g 5 cs ∧ cs[off + i]? = some (.int .u8 (Z i)) := by
  rcases h with ⟨h, h0⟩ | ⟨g', off', c', cs, hv, ho, h1, h2, h3⟩
  · omega
  · injection hv with e1 _ e2
    exact ⟨g', off', cs, e1, ho, h3 i hi⟩
theorem bs_of_mine {w : World} {base : Nat} {v : Value} {n : Nat} {Z : Nat → Int} (h : Mine w base 5 v n (fun i => .int .u8 (Z i))) : Bs w v n Z := by
  obtain ⟨_, h2⟩ := h
  rcases h2 with ⟨hv, hn⟩ | ⟨g, cap, cur, hv, hg, hh, hc, hm, hs, ht⟩
  · exact .inl ⟨hv, hn⟩
  · refine .inr ⟨g, 0, cap, cur, hv, hh, hc, hm, fun i hi => ?_⟩
    have e1 := congrArg (fun l : List Value => l[i]?) ht
    simp only [Nat.mul_one, List.getElem?_take, if_pos hi, Array.getElem?_toList] at e1
    rw [Nat.zero_add, e1]
    simp [hi]
end Go.Proofs.Ytiflmdekcjbmbaa.Qu
set_option maxRecDepth 100000
namespace Go.Proofs.Ytiflmdekcjbmbaa.Qu
set_option linter.unusedVariables false
set_option linter.unusedSimpArgs false
open Go.RowKit Lb
def key (x : It) : Int × Nat × (Nat → Int) := (x.to, x.n, x.Z)
def Sim (l l' : List It) : Prop := l.map key = l'.map key
theorem Sim.len {l l' : List It} (h : Sim l l') : l.length = l'.length := by
  have := congrArg List.length h
  simpa using this
theorem Sim.at_ {l l' : List It} (h : Sim l l') (i : Nat) : key (l.getD i default) = key (l'.getD i default) := by
  have e := congrArg (fun z : List (Int × Nat × (Nat → Int)) => z[i]?) h
  simp only [List.getElem?_map] at e
  rw [List.getD_eq_getElem?_getD, List.getD_eq_getElem?_getD]
  cases h1 : l[i]? with
  | none => rw [h1] at e; cases h2 : l'[i]? with
    | none => rfl
    | some y => rw [h2] at e; cases e
  | some x => rw [h1] at e; cases h2 : l'[i]? with
    | none => rw [h2] at e; cases e
    | some y => rw [h2] at e; simpa using e
theorem Sim.to_ {l l' : List It} (h : Sim l l') (i : Nat) : (l.getD i default).to = (l'.getD i default).to := congrArg Prod.fst (h.at_ i)
theorem Sim.n_ {l l' : List It} (h : Sim l l') (i : Nat) : (l.getD i default).n = (l'.getD i default).n := congrArg (fun z => z.2.1) (h.at_ i)
theorem Sim.Z_ {l l' : List It} (h : Sim l l') (i : Nat) : (l.getD i default).Z = (l'.getD i default).Z := congrArg (fun z => z.2.2) (h.at_ i)
theorem Sim.snoc {l l' : List It} (h : Sim l l') (tt : Int) (u u' : Value) (n : Nat) (Z : Nat → Int) : Sim (l ++ [⟨tt, u, n, Z⟩]) (l' ++ [⟨tt, u', n, Z⟩]) := by
  unfold Sim at *
  rw [List.map_append, List.map_append, h]
  rfl
theorem Sim.erase {l l' : List It} (h : Sim l l') (i : Nat) : Sim (l.eraseIdx i) (l'.eraseIdx i) := by
  have e : ∀ (l : List It) (i : Nat), (l.eraseIdx i).map key = (l.map key).eraseIdx i := fun l => by
    induction l with
    | nil => intro i; rfl
    | cons x r ih => intro i; cases i with
      | zero => rfl
      | succ k => simp only [List.eraseIdx_cons_succ, List.map_cons]; rw [ih]
  unfold Sim at *
  rw [e, e, h]
theorem Sim.mv {l l' : List It} (h : Sim l l') (x y : Int) : Sim (l.map (mv x y)) (l'.map (mv x y)) := by
  unfold Sim at *
  have e : ∀ l : List It, (l.map (Qu.mv x y)).map key = (l.map key).map (fun k => (if k.1 = x then y else k.1, k.2)) := fun l => by
    rw [List.map_map, List.map_map]
    apply List.map_congr_left
    intro a _
    show key (Qu.mv x y a) = _
    unfold key
    have := mv_v x y a
    rw [mv_to, this.2.1, this.2.2]
    rfl
  rw [e, e, h]
theorem Sim.cnt {l l' : List It} (h : Sim l l') (x : Int) : ∀ k, cnt x l k = cnt x l' k
  | 0 => rfl
  | k + 1 => by
    show Qu.cnt x l k + (if (l.getD k default).to = x then 1 else 0) = Qu.cnt x l' k + (if (l'.getD k default).to = x then 1 else 0)
    rw [h.cnt x k, h.to_ k]
theorem Sim.tov {l l' : List It} (h : Sim l l') : tov l = tov l' := by
  funext j
  unfold Qu.tov
  rw [h.to_ j]
/-- What is taken: how many bytes, which; what is left. -/
def tkN (l : List It) (i : Int) : Nat := if hasB l.length i = true then (l.getD i.toNat default).n else 0
def tkZ (l : List It) (i : Int) : Nat → Int := (l.getD i.toNat default).Z
def tkL (l : List It) (i : Int) : List It := if hasB l.length i = true then l.eraseIdx i.toNat else l
theorem Sim.tk {l l' : List It} (h : Sim l l') (i : Int) : hasB l.length i = hasB l'.length i ∧ tkN l i = tkN l' i ∧ tkZ l i = tkZ l' i ∧ Sim (tkL l i) (tkL l' i) := by
  unfold tkN tkZ tkL
  rw [h.len]
  refine ⟨rfl, by rw [h.n_], h.Z_ _, ?_⟩
  split
  · exact h.erase _
  · exact h
theorem tkL_len (l : List It) (i : Int) : (tkL l i).length ≤ l.length := by
  unfold tkL
  split
  · rw [List.length_eraseIdx]; split <;> omega
  · exact Nat.le_refl _
theorem hasB_nat {n : Nat} {i : Int} (h : hasB n i = true) : ∃ k : Nat, i = k ∧ k < n := by
  unfold hasB at h
  simp only [decide_eq_true_eq] at h
  exact ⟨i.toNat, by omega, by omega⟩
theorem at_all (base b : Nat) (most lost : Int) (l : List It) (v : Value) (i : Int) (w : World) (h : Que w base b most lost l v) (hn : ∀ x ∈ l, x.n ≤ 100000) :
    Calls Try.prog 43 #[.pointer (some ⟨b, 0, none⟩), .int .i64 i] w fun r w' => ∃ u, r = .returned (.tuple #[u, .bool (hasB l.length i)]) ∧ Bs w' u (tkN l i) (tkZ l i) ∧ Below w.heap.size w w' := by
  cases hb : hasB l.length i
  · refine (at_no base b most lost l v i w h (by unfold hasB at hb; simpa using hb)).mono ?_
    rintro r w' ⟨rfl, rfl⟩
    refine ⟨.slice none 0 0, rfl, ?_, Below.refl _ _⟩
    unfold tkN; rw [hb]; exact .inl ⟨rfl, rfl⟩
  · obtain ⟨k, rfl, hk⟩ := hasB_nat hb
    refine (at_yes base b most lost l v k w h hk (hn _ (getD_mem hk))).mono ?_
    rintro r w' ⟨u, rfl, hB, j⟩
    refine ⟨u, rfl, ?_, j⟩
    unfold tkN tkZ; rw [hb]; exact hB
end Go.Proofs.Ytiflmdekcjbmbaa.Qu
