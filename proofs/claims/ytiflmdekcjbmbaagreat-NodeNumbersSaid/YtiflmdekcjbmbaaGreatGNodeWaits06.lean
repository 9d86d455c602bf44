/-
  Package queue (chapter 10): what waits, as a list; what each method makes of it. slices.Delete of one item. Package queue: Put. Package queue: At, Take, Move, To. What the laws of package queue share: a queue that every program must know. Package queue: To, Move. Package queue: Move. Package queue: Put, Take, Move: what they leave alone.
-/
import Derived.Test.YtiflmdekcjbmbaaGreatGNodeWaits01
import Derived.Lib.Hide
import Derived.Deep.RegionHeld3
import Derived.BigQuiet
import Derived.Shelf.Bytes.SlClone
import Derived.Ground.SlbCloneProg
import Derived.Test.YtiflmdekcjbmbaaGreatGNodeWaits05
import Derived.Deep.RegionLaw
import Derived.Lib.SliceRun
import Derived.Lib.SlBytesConst
set_option maxRecDepth 100000
namespace Go.Proofs.YtiflmdekcjbmbaaGreat.Qu
set_option linter.unusedVariables false
set_option linter.unusedSimpArgs false
open Go.RowKit Lb Go.Shelf

/-- One that waits: to whom, the slice, how many bytes, which. -/
structure It where
  to : Int
  v : Value
  n : Nat
  Z : Nat → Int
instance : Inhabited It := ⟨⟨0, .slice none 0 0, 0, fun _ => 0⟩⟩
/-- The slice's bytes: nil, or a row in a block of bytes. -/
def Bs (w : World) (v : Value) (n : Nat) (Z : Nat → Int) : Prop :=
  (v = .slice none 0 0 ∧ n = 0) ∨ ∃ g off c cs, v = .slice (some ⟨g, off, none⟩) n c ∧ Own w g 5 cs ∧ n ≤ c ∧ c ≤ maxLen ∧ ∀ i, i < n → cs[off + i]? = some (.int .u8 (Z i))
theorem Bs.row {w : World} {v : Value} {n : Nat} {Z : Nat → Int} (h : Bs w v n Z) : ∃ a c, v = .slice a n c ∧ n ≤ c ∧ c ≤ maxLen ∧ Row w a n (fun i => .int .u8 (Z i)) ∧ (a = none → n = 0 ∧ c = 0) := by
  rcases h with ⟨rfl, rfl⟩ | ⟨g, off, c, cs, rfl, ho, h1, h2, h3⟩
  · exact ⟨none, 0, rfl, Nat.le_refl _, Nat.zero_le _, Row.nil _ _ _, fun _ => ⟨rfl, rfl⟩⟩
  · exact ⟨_, c, rfl, h1, h2, fun _ => ⟨g, off, rfl, ho.lt, fun i hi => by rw [ho.cell, h3 i hi]⟩, fun e => by cases e⟩
theorem Bs.just {w w' : World} {v : Value} {n b : Nat} {Z : Nat → Int} {t : TypeId} {cs : Array Value} (h : Bs w v n Z) (j : Just b w w') (ho : Own w b t cs) (ht : t ≠ 5) : Bs w' v n Z := by
  rcases h with h | ⟨g, off, c, cs', hv, ho', r⟩
  · exact .inl h
  · refine .inr ⟨g, off, c, cs', hv, j.own ho' (fun e => ?_), r⟩
    subst e
    unfold Own at ho ho'
    rw [ho] at ho'
    injection ho' with e
    injection e with _ e _
    exact ht e
theorem Bs.below {w w' : World} {v : Value} {n : Nat} {Z : Nat → Int} (h : Bs w v n Z) (b : Below w.heap.size w w') : Bs w' v n Z := by
  rcases h with h | ⟨g, off, c, cs', hv, ho', r⟩
  · exact .inl h
  · exact .inr ⟨g, off, c, cs', hv, below_own b ho' ho'.lt, r⟩
/-- The cells of a row of items. -/
def iv (l : List It) (j : Nat) : Value := if j % 2 = 0 then .int .i64 (l.getD (j / 2) default).to else (l.getD (j / 2) default).v
theorem iv_at (l : List It) (k : Nat) : iv l (k * 2) = .int .i64 (l.getD k default).to ∧ iv l (k * 2 + 1) = (l.getD k default).v := by
  unfold iv
  rw [if_pos (by omega), if_neg (by omega), show k * 2 / 2 = k by omega, show (k * 2 + 1) / 2 = k by omega]
  exact ⟨rfl, rfl⟩
/-- The queue in block b: so much room, so many that found none, what waits. -/
structure Que (w : World) (base b : Nat) (most lost : Int) (l : List It) (v : Value) : Prop where
  own : Own w b 220 #[.int .i64 most, .int .i64 lost, v]
  row : MineK w base 229 2 v l.length (iv l)
  bytes : ∀ x ∈ l, Bs w x.v x.n x.Z
  low : base ≤ b
theorem Que.c0 {w : World} {base b : Nat} {most lost : Int} {l : List It} {v : Value} (h : Que w base b most lost l v) : w.cell? ⟨b, 0, none⟩ = some (.int .i64 most) := h.own.cell 0
theorem Que.c1 {w : World} {base b : Nat} {most lost : Int} {l : List It} {v : Value} (h : Que w base b most lost l v) : w.cell? ⟨b, 1, none⟩ = some (.int .i64 lost) := h.own.cell 1
theorem Que.c2 {w : World} {base b : Nat} {most lost : Int} {l : List It} {v : Value} (h : Que w base b most lost l v) : w.cell? ⟨b, 2, none⟩ = some v := h.own.cell 2
theorem Que.below {w w' : World} {base b : Nat} {most lost : Int} {l : List It} {v : Value} (h : Que w base b most lost l v) (j : Below w.heap.size w w') : Que w' base b most lost l v where
  own := below_own j h.own h.own.lt
  row := h.row.below j
  bytes x hx := (h.bytes x hx).below j
  low := h.low
theorem new_any (x : Int) (w : World) :
    Calls Tryz.prog 119 #[.int .i64 x] w fun r w' => r = .returned (.pointer (some ⟨w.heap.size, 0, none⟩)) ∧ Que w' w.heap.size w.heap.size (min (max x 1) 32) 0 [] (.slice none 0 0) ∧ Below w.heap.size w w' ∧ w.heap.size < w'.heap.size := by
  have ho := Own.new w 220 #[.int .i64 (min (max x 1) 32), .int .i64 0, .slice none 0 0]
  have hb := (Below.refl w.heap.size w).alloc (Nat.le_refl _) (.cells #[.int .i64 (min (max x 1) 32), .int .i64 0, .slice none 0 0] 220)
  have hs : w.heap.size < (w.alloc (.cells #[.int .i64 (min (max x 1) 32), .int .i64 0, .slice none 0 0] 220)).heap.size := by simp
  go_enter Tryz.func119, Tryz.ntmps119
  go_wp2_with fail
  go_ret
  exact ⟨rfl, ⟨ho, MineK.nil _ _ _ _ _, fun x hx => by simp at hx, Nat.le_refl _⟩, hb, hs⟩
theorem len_any (base b : Nat) (most lost : Int) (l : List It) (v : Value) (w : World) (h : Que w base b most lost l v) :
    Calls Tryz.prog 103 #[.pointer (some ⟨b, 0, none⟩)] w fun r w' => r = .returned (.int .i64 (l.length : Int)) ∧ w = w' := by
  obtain ⟨a, c, rfl, h1, h2, _⟩ := h.row.row
  have c2 := h.c2
  unfold maxLen at h2
  go_enter Tryz.func103, Tryz.ntmps103
  go_wp2_with fail
  go_ret
  exact ⟨rfl, rfl⟩
theorem len_nil (w : World) : Calls Tryz.prog 103 #[.pointer none] w fun r w' => r = .returned (.int .i64 0) ∧ w = w' := by
  go_enter Tryz.func103, Tryz.ntmps103
  go_wp2_with fail
  go_ret
  exact ⟨rfl, rfl⟩
def hasB (n : Nat) (i : Int) : Bool := decide (0 ≤ i ∧ i < (n : Int))
theorem has_any (base b : Nat) (most lost : Int) (l : List It) (v : Value) (i : Int) (w : World) (h : Que w base b most lost l v) :
    Calls Tryz.prog 178 #[.pointer (some ⟨b, 0, none⟩), .int .i64 i] w fun r w' => r = .returned (.bool (hasB l.length i)) ∧ w = w' := by
  obtain ⟨a, c, rfl, h1, h2, _⟩ := h.row.row
  have c2 := h.c2
  unfold maxLen at h2
  by_cases i0 : 0 ≤ i
  · by_cases i1 : i < (l.length : Int)
    · have HD : Hid (hasB l.length i = true) := Lib.hid (by simp [hasB, i0, i1])
      go_enter Tryz.func178, Tryz.ntmps178
      go_wp2_with fail
      go_ret
      exact ⟨by rw [HD.out]; rfl, rfl⟩
    · have HD : Hid (hasB l.length i = false) := Lib.hid (by simp [hasB]; omega)
      have g1 : decide (i < (l.length : Int)) = false := by simp; omega
      clear i1
      go_enter Tryz.func178, Tryz.ntmps178
      go_wp2_with fail
      go_ret
      exact ⟨by rw [HD.out]; rfl, rfl⟩
  · have HD : Hid (hasB l.length i = false) := Lib.hid (by simp [hasB]; omega)
    have g1 : decide (0 ≤ i) = false := by simp; omega
    clear i0
    go_enter Tryz.func178, Tryz.ntmps178
    go_wp2_with fail
    go_ret
    exact ⟨by rw [HD.out]; rfl, rfl⟩
theorem has_nil (i : Int) (w : World) : Calls Tryz.prog 178 #[.pointer none, .int .i64 i] w fun r w' => r = .returned (.bool false) ∧ w = w' := by
  go_enter Tryz.func178, Tryz.ntmps178
  go_wp2_with fail
  go_ret
  exact ⟨rfl, rfl⟩
def cloneL_ren : Go.Shelf.Ren := ⟨fun | 4 => 179 | n => n, fun | 22 => 35 | 4 => 4 | 5 => 5 | n => n, fun | n => n⟩
theorem cloneL : Go.Proofs.SlLaysK.n4 Tryz.prog cloneL_ren := {
  mixed := by kernel_rfl
  f4 := Tryz.func179.trans (congrArg some (by kernel_rfl))
  t4 := Tryz.underlying4
  a4 := Tryz.isAgg4
  z4 := Tryz.sizeOf4
  v4 := Tryz.zeroValue4
  t22 := Tryz.underlying35
  a22 := Tryz.isAgg35
  z22 := Tryz.sizeOf35
  v22 := Tryz.zeroValue35
  t5 := Tryz.underlying5
  i5 := by kernel_rfl }
theorem clone_any (a : Option Addr) (n c : Nat) (Z : Nat → Int) (w : World) (hn : n ≤ c) (hc : n ≤ 140737488355328) (hR : Row w a n (fun i => .int .u8 (Z i))) (ha : a = none → n = 0) :
    Calls Tryz.prog 179 #[.slice a n c] w fun r w' => ∃ v, r = .returned v ∧ Bs w' v n Z ∧ Below w.heap.size w w' := by
  have hmap : ((List.range n).map Z).map (Value.int .u8) = (List.range n).map (fun i => .int .u8 (Z i)) := by rw [List.map_map]; rfl
  cases a with
  | none =>
    have hcon := Any.bytes_Clone_nil cloneL n c w
    refine Calls.mono hcon ?_
    rintro r w' ⟨rfl, rfl⟩
    exact ⟨_, rfl, .inl ⟨rfl, ha rfl⟩, Below.refl _ _⟩
  | some p =>
    have hcon := Any.bytes_Clone_at cloneL p n c ((List.range n).map Z) w (by simp) hc (fun i hi => by
      obtain ⟨b, off, hp, _, h3⟩ := hR.at_ hi
      injection hp with hp
      subst hp
      rw [Addr.add_lit, h3]
      simp [hi])
    refine Calls.mono hcon ?_
    rintro r w' ⟨v, rfl, hown, hne, hb⟩
    refine ⟨v, rfl, ?_, hb⟩
    rw [hmap] at hown
    obtain ⟨_, h2⟩ := hown
    rcases h2 with ⟨hv, _⟩ | ⟨g, cap, cur, hv, hg, hh, hc, hm, hs, ht⟩
    · exact absurd hv hne
    · refine .inr ⟨g, 0, cap, cur, hv, hh, hc, hm, fun i hi => ?_⟩
      have e1 := congrArg (fun l : List Value => l[i]?) ht
      simp only [Nat.mul_one, List.getElem?_take, if_pos hi, Array.getElem?_toList] at e1
      rw [Nat.zero_add, e1]
      simp [hi]
end Go.Proofs.YtiflmdekcjbmbaaGreat.Qu
set_option maxRecDepth 100000
namespace Go.Proofs.YtiflmdekcjbmbaaGreat.Qu
set_option linter.unusedVariables false
set_option linter.unusedSimpArgs false
open Go.RowKit Lb

theorem infoI : (Tryz.prog.info? 229).map (fun i => (i.zero, i.size, i.bytes)) = some (some (.agg #[.int .i64 0, .slice none 0 0]), 2, 32) := by kernel_rfl
theorem zeroI (w : World) : (zeroValue 229).run Tryz.prog w = .ok (.agg #[.int .i64 0, .slice none 0 0]) w := by kernel_rfl
set_option maxHeartbeats 2000000 in
theorem delete_any (base g n c i j0 : Nat) (V : Nat → Value) (w : World) (h : MineK w base 229 2 (.slice (some ⟨g, 0, none⟩) n c) n V) (hi : i < n) (hj0 : j0 = i + 1) (hV1 : ∀ j, (V j).oneCell' = true) :
    Calls Tryz.prog 206 #[.slice (some ⟨g, 0, none⟩) n c, .int .i64 i, .int .i64 j0] w fun r w' => r = .returned (.slice (some ⟨g, 0, none⟩) (n - 1) c) ∧ MineK w' base 229 2 (.slice (some ⟨g, 0, none⟩) (n - 1) c) (n - 1) (fun j => if j < i * 2 then V j else V (j + 2)) ∧ Just g w w' := by
  obtain ⟨g', c', cs, hv, hgb, ho, hnc, hcm, hsz, hcv⟩ := h.block (by omega)
  injection hv with hv1 _ hv2
  injection hv1 with hv1
  injection hv1 with hv1
  subst hv1 hv2
  unfold maxLen at hcm
  obtain ⟨i0, hi0, hz0, hz1, hz2⟩ := info_parts infoI
  obtain ⟨news, hnews⟩ : ∃ news, news = (List.range ((n - (i + 1)) * 2)).map (fun t => V ((i + 1) * 2 + t)) := ⟨_, rfl⟩
  have hlen : news.length = (n - (i + 1)) * 2 := by rw [hnews]; simp
  have hget : ∀ t, t < (n - (i + 1)) * 2 → news[t]? = some (V ((i + 1) * 2 + t)) := fun t ht => by rw [hnews]; simp [ht]
  obtain ⟨A, hA, hsrc⟩ : ∃ A : Addr, (if c = j0 then some (⟨g, 0, none⟩ : Addr) else some ⟨g, j0 * 2, none⟩) = some A ∧ Hid (∀ t u, news[t]? = some u → w.drew.cell? (A.add t) = some u) := by
    by_cases h : c = j0
    · refine ⟨⟨g, 0, none⟩, by simp [h], Lib.hid fun t u hu => ?_⟩
      have h0 : news.length = 0 := by rw [hlen]; omega
      rw [List.length_eq_zero_iff.1 h0] at hu
      simp at hu
    · subst hj0
      refine ⟨⟨g, (i + 1) * 2, none⟩, by simp [h], Lib.hid fun t u hu => ?_⟩
      have ht : t < (n - (i + 1)) * 2 := by
        have := (List.getElem?_eq_some_iff.1 hu).1
        rwa [hlen] at this
      rw [hget t ht] at hu
      rw [Addr.add_lit]
      exact (ho.cell ((i + 1) * 2 + t)).trans ((hcv _ (by omega)).trans hu)
  have s1 := Lib.hid hlen
  have s2 : Hid (∀ u ∈ news, u.oneCell' = true) := Lib.hid fun u hu => by
    rw [hnews] at hu
    obtain ⟨x, _, rfl⟩ := List.mem_map.1 hu
    exact hV1 _
  have s3 : Hid (∀ t, t < news.length → (w.drew.cell? ⟨g, 0 + i * 2 + t, none⟩).isSome = true ∧ w.drew.frozen? ⟨g, 0 + i * 2 + t, none⟩ = false) := Lib.hid fun t ht => by
    rw [hlen] at ht
    refine ⟨?_, ho.free _⟩
    show (w.cell? _).isSome = true
    rw [ho.cell, hcv _ (by omega)]
    rfl
  have hB : Blk w g 229 (c * 2) (fun j => cs.getD j undef) := Blk.of ho hsz (fun j hj => by
    rw [Array.getElem?_eq_getElem (by omega), Array.getD_eq_getD_getElem?, Array.getElem?_eq_getElem (by omega)]
    rfl)
  have hB1 : Blk (w.drew.setCells g (0 + i * 2) news) g 229 (c * 2) (putL (fun j => cs.getD j undef) (0 + i * 2) news) := Blk.puts news (0 + i * 2) (Blk.drewN hB 1)
  have hJ1 : Just g w (w.drew.setCells g (0 + i * 2) news) := ((Just.refl g w).drewN 1).trans (Just.puts g news _ _)
  have hV2 : Hid (∀ j, j < (n - 1) * 2 → putL (fun j => cs.getD j undef) (0 + i * 2) news j = if j < i * 2 then V j else V (j + 2)) := Lib.hid fun j hj => by
    rw [putL_at, hlen]
    by_cases h1 : j < i * 2
    · rw [if_neg (by omega), if_pos h1, Array.getD_eq_getD_getElem?, hcv j (by omega)]
      rfl
    · rw [if_pos (by omega), if_neg h1, List.getD_eq_getElem?_getD, hget _ (by omega), show (i + 1) * 2 + (j - (0 + i * 2)) = j + 2 by omega]
      rfl
  obtain ⟨W1, hW1⟩ : ∃ W1, W1 = w.drew.setCells g (0 + i * 2) news := ⟨_, rfl⟩
  rw [← hW1] at hB1 hJ1
  have HW := Lib.hid hW1
  have hnq : i + (n - j0) = n - 1 := by omega
  have hn1q : n - (i + (n - j0)) = 1 := by omega
  have hcl : ∀ ty, (Builtin.clear_ #[218] ty #[.slice (some ⟨g, (i + (n - j0)) * 2, none⟩) (n - (i + (n - j0))) (c - (i + (n - j0)))]).run Tryz.prog W1 = .ok (.tuple #[]) (W1.setCells g ((n - 1) * 2) [.int .i64 0, .slice none 0 0]) := fun ty => by
    have hst := run_storeCells_cells (P := Tryz.prog) g ((n - 1) * 2) [.int .i64 0, .slice none 0 0] 0 W1 (fun j hj => by
      rw [Nat.add_zero, Blk.cell hB1 (by simp at hj; omega)]; rfl) (fun j hj => Blk.free hB1 _) (by intro v hv; simp at hv; rcases hv with rfl | rfl <;> rfl)
    rw [hnq, show n - (n - 1) = 1 by omega]
    simp [Builtin.clear_, run_underlying Tryz.underlying218, zeroI, Value.cells, Builtin.zeroCells]
    rw [Nat.add_zero] at hst
    show ((Sem.run _ (storeCells _ [Value.int .i64 0, Value.slice none 0 0]) W1).andThen _) = _
    rw [hst]
    rfl
  have hic : i ≤ c := by omega
  have hjc : j0 ≤ c := by omega
  have hij : i ≤ j0 := by omega
  have hjn : j0 ≤ n := by omega
  have hcx : ¬ c = i + (n - j0) := by omega
  have hne : ((i : Int) == (j0 : Int)) = false := by simp; omega
  have hn1 : i + (n - j0) = n - 1 := by omega
  have HN1 := Lib.hid hn1
  have HJ0 := Lib.hid hj0
  clear hnews hlen hget hB hW1 hcv hV1 hn1 hj0 hnq hn1q
  go_enter Tryz.func206, Tryz.ntmps206
  go_wp2_with fail
  go_region_law (refine step_append_room rfl (.tmp 22) (.tmp 25) 218 rfl 229 i0 2 Tryz.underlying218 hi0 hz1 g 0 i c (by simp [Act.eval, Act.put]) A (n - j0) (c - j0) news (by simp [Act.eval, Act.put]) (by rw [HJ0.out]; exact s1.out) hsrc.out s2.out (by omega) s3.out ?_; rw [← HW.out])
  go_wp2_with fail
  go_ret
  have hB2 := Blk.puts [.int .i64 0, .slice none 0 0] ((n - 1) * 2) hB1
  refine ⟨by rw [← HN1.out]; rfl, ?_, hJ1.trans (Just.puts g _ _ _)⟩
  refine MineK.made hB2 hgb (by simp) (by unfold maxLen; omega) (by omega) (fun j hj => ?_)
  have hj2 : j < c * 2 := by omega
  rw [Array.getElem?_eq_getElem (by simpa using hj2), Array.getElem_ofFn]
  exact congrArg some ((putL_at [.int .i64 0, .slice none 0 0] _ ((n - 1) * 2) j).trans ((if_neg (by omega)).trans (hV2.out j hj)))
end Go.Proofs.YtiflmdekcjbmbaaGreat.Qu
set_option maxRecDepth 100000
namespace Go.Proofs.YtiflmdekcjbmbaaGreat.Qu
set_option linter.unusedVariables false
set_option linter.unusedSimpArgs false
open Go.RowKit Lb

theorem iv_snoc (l : List It) (x : It) (q : Nat) (h : q < (l.length + 1) * 2) : (if q < l.length * 2 then iv l q else iv [x] (q - l.length * 2)) = iv (l ++ [x]) q := by
  unfold iv
  by_cases h1 : q < l.length * 2
  · rw [if_pos h1, List.getD_eq_getElem?_getD, List.getD_eq_getElem?_getD, List.getElem?_append_left (by omega)]
  · have e1 : q / 2 = l.length := by omega
    have e2 : (q - l.length * 2) / 2 = 0 := by omega
    have e3 : (q - l.length * 2) % 2 = q % 2 := by omega
    rw [if_neg h1, e1, e2, e3]
    simp
def itemOk (l : List It) : Prop := ∀ x ∈ l, x.v.oneCell' = true
theorem bs_one {w : World} {v : Value} {n : Nat} {Z : Nat → Int} (h : Bs w v n Z) : v.oneCell' = true := by
  rcases h with ⟨rfl, _⟩ | ⟨g, off, c, cs, rfl, _⟩ <;> rfl
theorem iv_one {l : List It} (h : itemOk l) (j : Nat) : (iv l j).oneCell' = true := by
  unfold iv
  split
  · rfl
  · by_cases hj : j / 2 < l.length
    · rw [List.getD_eq_getElem?_getD, List.getElem?_eq_getElem hj]
      exact h _ (List.getElem_mem hj)
    · rw [List.getD_eq_getElem?_getD, List.getElem?_eq_none (by omega)]
      rfl
theorem Que.ok {w : World} {base b : Nat} {most lost : Int} {l : List It} {v : Value} (h : Que w base b most lost l v) : itemOk l := fun x hx => bs_one (h.bytes x hx)
theorem own_type {w : World} {b : Nat} {t t' : TypeId} {cs cs' : Array Value} (h : Own w b t cs) (h' : Own w b t' cs') : t = t' := by
  unfold Own at h h'
  rw [h] at h'
  injection h' with e
  injection e
theorem mine_at {w : World} {base n q : Nat} {v : Value} {V : Nat → Value} (h : MineK w base 229 2 v n V) (e : v.ownBlock = some q) : base ≤ q ∧ ∃ cs, Own w q 229 cs := by
  obtain ⟨_, h2⟩ := h
  rcases h2 with ⟨hv, _⟩ | ⟨g, cap, cur, hv, hg, hh, _⟩
  · subst hv
    cases e
  · subst hv
    have e : some g = some q := e
    injection e with e
    subst e
    exact ⟨hg, cur, hh⟩
theorem mine_ne {w : World} {base n q b : Nat} {v : Value} {V : Nat → Value} {cs : Array Value} (h : MineK w base 229 2 v n V) (ho : Own w b 220 cs) (e : v.ownBlock = some q) : q ≠ b := by
  rintro rfl
  obtain ⟨_, cs', h'⟩ := mine_at h e
  exact absurd (own_type ho h') (by decide)
theorem mine_set {w : World} {base n b : Nat} {v : Value} {V : Nat → Value} {cs : Array Value} (h : MineK w base 229 2 v n V) (ho : Own w b 220 cs) (i : Nat) (u : Value) : MineK (w.setCell ⟨b, i, none⟩ u) base 229 2 v n V :=
  h.kept fun q hq => by
    by_cases hb : q = b
    · exact .inr fun e => mine_ne h ho e hb
    · exact .inl (Below.heap_setCell _ _ _ _ hb)
theorem Bs.grown {w w' : World} {v : Value} {n : Nat} {Z : Nat → Int} {row : Option Nat} (h : Bs w v n Z) (g : w.grownBy w' row) (hr : ∀ q, row = some q → ∃ cs, Own w q 229 cs) : Bs w' v n Z := by
  rcases h with h | ⟨p, off, c, cs', hv, ho', r⟩
  · exact .inl h
  · refine .inr ⟨p, off, c, cs', hv, (g.block p ho'.lt (fun e => ?_)).trans ho', r⟩
    obtain ⟨cs, hcs⟩ := hr p e.symm
    exact absurd (own_type ho' hcs) (by decide)
theorem put_nil (tt0 : Int) (u : Value) (w : World) : Calls Tryz.prog 172 #[.pointer none, .int .i64 tt0, u] w fun r w' => r = .returned (.bool false) ∧ w = w' := by
  go_enter Tryz.func172, Tryz.ntmps172
  go_wp2_with fail
  go_ret
  exact ⟨rfl, rfl⟩
set_option maxHeartbeats 1000000 in
theorem put_full (base b : Nat) (most lost : Int) (l : List It) (v : Value) (tt0 : Int) (u : Value) (w : World) (h : Que w base b most lost l v) (hm : most ≤ (l.length : Int)) (h0 : 0 ≤ lost) (h1 : lost ≤ 1000000) :
    Calls Tryz.prog 172 #[.pointer (some ⟨b, 0, none⟩), .int .i64 tt0, u] w fun r w' => r = .returned (.bool false) ∧ Que w' base b most (min (lost + 1) 1000000) l v ∧ Just b w w' := by
  obtain ⟨a, c, rfl, h3, h4, _⟩ := h.row.row
  unfold maxLen at h4
  have c0 := h.c0
  have c1 := h.c1
  have c2 := h.c2
  have f1 : w.frozen? ⟨b, 1, none⟩ = false := h.own.free 1
  go_enter Tryz.func172, Tryz.ntmps172
  go_wp2_with fail
  go_quiet (fail)
  go_wp2_with fail
  go_ret
  have j := ((Just.refl b w).drewN nq).put 1 (.int .i64 (min (lost + 1) 1000000))
  refine ⟨rfl, ⟨?_, ?_, fun x hx => (h.bytes x hx).just j h.own (by decide), h.low⟩, j⟩
  · have := (Own.drewN h.own nq).put 1 (.int .i64 (min (lost + 1) 1000000))
    exact this
  · exact mine_set (h.row.drewN nq) (h.own.drewN nq) 1 _
set_option maxHeartbeats 4000000 in
theorem put_room (base b : Nat) (most lost : Int) (l : List It) (v : Value) (tt0 : Int) (a : Option Addr) (n c : Nat) (Z : Nat → Int) (w : World) (h : Que w base b most lost l v) (hm : (l.length : Int) < most) (hl : l.length ≤ 1000) (hn : n ≤ c) (hn2 : n ≤ 100000) (hR : Row w a n (fun i => .int .u8 (Z i))) (ha : a = none → n = 0) :
    Calls Tryz.prog 172 #[.pointer (some ⟨b, 0, none⟩), .int .i64 tt0, .slice a n c] w fun r w' => r = .returned (.bool true) ∧ ∃ v' u, Que w' base b most lost (l ++ [⟨tt0, u, n, Z⟩]) v' ∧ Below base w w' := by
  have hrow := h.row
  have hbs := Lib.hid h.bytes
  obtain ⟨a', c', rfl, h3, h4, hRow⟩ := h.row.row
  unfold maxLen at h4
  obtain ⟨i0, hi0, hz0, hz1, hz2⟩ := info_parts infoI
  have c0 := h.c0
  have c2 := h.c2
  have ho := h.own
  have hlow := h.low
  have hok := Lib.hid h.ok
  have g0 : decide (most ≤ (l.length : Int)) = false := by simp; omega
  have hbl := ho.lt
  have hb0 : base ≤ w.heap.size := by omega
  have ht : (220 : TypeId) ≠ 229 := by decide
  have hv2 : ∀ q, (Value.slice a' l.length c').ownBlock = some q → q ≠ b := fun q e => mine_ne h.row h.own e
  clear h
  go_enter Tryz.func172, Tryz.ntmps172
  go_wp2_with fail
  go_quiet (fail)
  generalize hw1 : w.drewN _ = w1 at *
  have m1 : MineK w1 base 229 2 (.slice a' l.length c') l.length (iv l) := by rw [← hw1]; exact hrow.drewN _
  have o1 : Own w1 b 220 #[.int .i64 most, .int .i64 lost, .slice a' l.length c'] := by rw [← hw1]; exact ho.drewN _
  have r1 : Row w1 a n (fun i => .int .u8 (Z i)) := by rw [← hw1]; exact hR.drewN _
  have z1 : w1.heap.size = w.heap.size := by rw [← hw1]; rfl
  have b1 : Below base w w1 := by rw [← hw1]; exact below_drewN (Below.refl _ _) _
  have B1 : Hid (∀ x ∈ l, Bs w1 x.v x.n x.Z) := Lib.hid (by rw [← hw1]; exact hbs.out)
  clear hw1 hrow ho hR c0 c2 hbs hRow
  go_wp2_with fail
  have s0 : w1.drew.cell? ⟨b, 2, none⟩ = some (.slice a' l.length c') := o1.cell 2
  have f0 : w1.frozen? ⟨b, 2, none⟩ = false := o1.free 2
  have s00 : w1.cell? ⟨b, 2, none⟩ = some (.slice a' l.length c') := o1.cell 2
  go_region_law (first
    | (refine step_appK rfl (.tmp 32) (.tmp 37) 218 rfl base 229 i0 _ 2 32 Tryz.underlying218 hi0 hz0 hz1 hz2 rfl (by decide) _ l.length (iv l) (by rfl) (m5.alloc _) _ 1 _ (iv [⟨tt0, .slice a5 n c5, n, Z⟩]) (by rfl) (row_new _ _ _ _ (fun i hi => by rcases (show i = 0 ∨ i = 1 by omega) with rfl | rfl <;> rfl)) (fun i hi => iv_one (fun x hx => by simp at hx; subst hx; exact bs_one hB5) i) (by unfold maxLen; omega) (by omega) (by have := b5.size; simp at this; simp; omega) ?_; intro v6 w6 m6 g6 l6; obtain ⟨a6, c6, rfl, hc6, hd6, hR6⟩ := m6.row; have o6 := grown_own g6 (Own.alloc o5 _) (by intro e; exact hv2 _ e rfl); have s3 : w6.cell? ⟨b, 2, none⟩ = some (.slice a' l.length c') := o6.cell 2; have f6 : w6.frozen? ⟨b, 2, none⟩ = false := o6.free 2)
    | (go_simp; go_at_call 179; refine (clone_any a n c Z _ hn (by omega) (r1.drewN 1) ha).mono ?_; rintro q w5 ⟨v5, rfl, hB5, b5⟩; obtain ⟨a5, c5, rfl, hc5, hd5, hR5, hn5⟩ := hB5.row; have o5 := below_own b5 (o1.drewN 1) o1.lt; have s1 : w5.cell? ⟨b, 2, none⟩ = some (.slice a' l.length c') := o5.cell 2; have m5 := (m1.drewN 1).below b5; have s2 : (w5.alloc (.cells #[.int .i64 tt0, .slice a5 n c5] 229)).cell? ⟨b, 2, none⟩ = some (.slice a' l.length c') := (Own.alloc o5 _).cell 2))
  all_goals
    go_wp2_with fail
    go_ret
    have m7 : MineK w6 base 229 2 (.slice a6 (l.length + 1) c6) (l ++ [(⟨tt0, .slice a5 n c5, n, Z⟩ : It)]).length (iv (l ++ [(⟨tt0, .slice a5 n c5, n, Z⟩ : It)])) := by
      rw [List.length_append]
      exact m6.ext (fun q hq => iv_snoc l _ q hq)
    have hgr : ∀ q, (Value.slice a' l.length c').ownBlock = some q → ∃ cs, Own (w5.alloc (.cells #[.int .i64 tt0, .slice a5 n c5] 229)) q 229 cs := fun q e => (mine_at (m5.alloc _) e).2
    have hb1 : base ≤ (w1.drewN 1).heap.size := by show base ≤ w1.heap.size; rw [z1]; exact hb0
    have hb5 : base ≤ w5.heap.size := Nat.le_trans hb1 b5.size
    have bb : Below base w w6 := (((below_drewN b1 1).trans (b5.mono hb1)).alloc hb5 _).grown g6 (by simp; omega) (fun q hq => (mine_at m5 hq).1)
    refine ⟨rfl, _, .slice a5 n c5, ⟨?_, mine_set m7 o6 2 _, fun x hx => ?_, hlow⟩, ?_⟩
    · exact o6.put 2 _
    · have hx2 : Bs w6 x.v x.n x.Z := by
        rw [List.mem_append, List.mem_singleton] at hx
        rcases hx with hx | rfl
        · exact ((((show Bs (w1.drewN 1) x.v x.n x.Z from B1.out x hx).below b5).below ((Below.refl _ _).alloc (Nat.le_refl _) _)).grown g6 hgr)
        · exact (hB5.below ((Below.refl _ _).alloc (Nat.le_refl _) _)).grown g6 hgr
      exact hx2.just (Just.set b w6 2 _) o6 (by decide)
    · exact (Just.set b w6 2 _).below bb hlow (by have := bb.size; omega)
end Go.Proofs.YtiflmdekcjbmbaaGreat.Qu
set_option maxRecDepth 100000
namespace Go.Proofs.YtiflmdekcjbmbaaGreat.Qu
set_option linter.unusedVariables false
set_option linter.unusedSimpArgs false
open Go.RowKit Lb

theorem iv_del (l : List It) {i j : Nat} (hi : i < l.length) (hj : j < (l.length - 1) * 2) : (if j < i * 2 then iv l j else iv l (j + 2)) = iv (l.eraseIdx i) j := by
  unfold iv
  have e : ∀ k, k < l.length - 1 → (l.eraseIdx i).getD k default = if k < i then l.getD k default else l.getD (k + 1) default := fun k hk => by
    simp only [List.getD_eq_getElem?_getD, List.getElem?_eraseIdx]
    split <;> rfl
  rw [e _ (by omega)]
  by_cases h : j < i * 2
  · simp only [if_pos h, if_pos (show j / 2 < i by omega)]
  · simp only [if_neg h, if_neg (show ¬ j / 2 < i by omega), show (j + 2) / 2 = j / 2 + 1 by omega, show (j + 2) % 2 = j % 2 by omega]
theorem Que.at_ {w : World} {base b : Nat} {most lost : Int} {l : List It} {v : Value} (h : Que w base b most lost l v) {i : Nat} (hi : i < l.length) :
    ∃ g c, v = .slice (some ⟨g, 0, none⟩) l.length c ∧ l.length ≤ c ∧ c ≤ maxLen ∧ w.cell? ⟨g, i * 2, none⟩ = some (.int .i64 (l.getD i default).to) ∧ w.cell? ⟨g, i * 2 + 1, none⟩ = some (l.getD i default).v ∧ w.frozen? ⟨g, i * 2, none⟩ = false := by
  obtain ⟨g, c, cs, rfl, hgb, ho, hnc, hcm, hsz, hcv⟩ := h.row.block (by omega)
  obtain ⟨e1, e2⟩ := iv_at l i
  exact ⟨g, c, rfl, hnc, hcm, (ho.cell _).trans ((hcv _ (by omega)).trans (congrArg some e1)), (ho.cell _).trans ((hcv _ (by omega)).trans (congrArg some e2)), ho.free _⟩
theorem getD_mem {l : List It} {i : Nat} (hi : i < l.length) : l.getD i default ∈ l := by
  rw [List.getD_eq_getElem?_getD, List.getElem?_eq_getElem hi]
  exact List.getElem_mem hi
theorem at_no (base b : Nat) (most lost : Int) (l : List It) (v : Value) (i : Int) (w : World) (h : Que w base b most lost l v) (hi : ¬ (0 ≤ i ∧ i < (l.length : Int))) :
    Calls Tryz.prog 129 #[.pointer (some ⟨b, 0, none⟩), .int .i64 i] w fun r w' => r = .returned (.tuple #[.slice none 0 0, .bool false]) ∧ w = w' := by
  have HD : Hid (hasB l.length i = false) := Lib.hid (by unfold hasB; exact decide_eq_false hi)
  go_enter Tryz.func129, Tryz.ntmps129
  go_wp2_with fail
  refine (has_any base b most lost l v i _ h).mono ?_
  rintro r w' ⟨rfl, rfl⟩
  rw [HD.out]
  go_wp2_with fail
  refine bodyPost_ret (results_tmp2 rfl _ _ _) rfl ?_
  exact ⟨rfl, rfl⟩
theorem at_nil (i : Int) (w : World) : Calls Tryz.prog 129 #[.pointer none, .int .i64 i] w fun r w' => r = .returned (.tuple #[.slice none 0 0, .bool false]) ∧ w = w' := by
  go_enter Tryz.func129, Tryz.ntmps129
  go_wp2_with fail
  refine (has_nil i _).mono ?_
  rintro r w' ⟨rfl, rfl⟩
  go_wp2_with fail
  refine bodyPost_ret (results_tmp2 rfl _ _ _) rfl ?_
  exact ⟨rfl, rfl⟩
theorem at_yes (base b : Nat) (most lost : Int) (l : List It) (v : Value) (i : Nat) (w : World) (h : Que w base b most lost l v) (hi : i < l.length) (hn : (l.getD i default).n ≤ 100000) :
    Calls Tryz.prog 129 #[.pointer (some ⟨b, 0, none⟩), .int .i64 i] w fun r w' => ∃ u, r = .returned (.tuple #[u, .bool true]) ∧ Bs w' u (l.getD i default).n (l.getD i default).Z ∧ Below w.heap.size w w' := by
  have HD : Hid (hasB l.length i = true) := Lib.hid (by unfold hasB; rw [decide_eq_true_eq]; omega)
  obtain ⟨g, c, rfl, h1, h2, k0, k1, _⟩ := h.at_ hi
  have c2 := h.c2
  have hb := h.bytes _ (getD_mem hi)
  unfold maxLen at h2
  generalize l.getD i default = x at *
  obtain ⟨tt0, xv, xn, Z⟩ := x
  dsimp only at *
  obtain ⟨a5, c5, rfl, hc5, hd5, hR5, hn5⟩ := hb.row
  go_enter Tryz.func129, Tryz.ntmps129
  go_wp2_with fail
  refine (has_any base b most lost l _ i _ h).mono ?_
  rintro r w' ⟨rfl, rfl⟩
  rw [HD.out]
  go_wp2_with fail
  refine (clone_any a5 xn c5 Z _ hc5 (by omega) hR5 (fun e => (hn5 e).1)).mono ?_
  rintro r w4 ⟨v4, rfl, hB, b4⟩
  go_wp2_with fail
  refine bodyPost_ret (results_tmp2 rfl _ _ _) rfl ?_
  exact ⟨v4, rfl, hB, b4⟩
theorem take_no (base b : Nat) (most lost : Int) (l : List It) (v : Value) (i : Int) (w : World) (h : Que w base b most lost l v) (hi : ¬ (0 ≤ i ∧ i < (l.length : Int))) :
    Calls Tryz.prog 166 #[.pointer (some ⟨b, 0, none⟩), .int .i64 i] w fun r w' => r = .returned (.tuple #[.slice none 0 0, .bool false]) ∧ w = w' := by
  have HD : Hid (hasB l.length i = false) := Lib.hid (by unfold hasB; exact decide_eq_false hi)
  go_enter Tryz.func166, Tryz.ntmps166
  go_wp2_with fail
  refine (has_any base b most lost l v i _ h).mono ?_
  rintro r w' ⟨rfl, rfl⟩
  rw [HD.out]
  go_wp2_with fail
  refine bodyPost_ret (results_tmp2 rfl _ _ _) rfl ?_
  exact ⟨rfl, rfl⟩
theorem take_nil (i : Int) (w : World) : Calls Tryz.prog 166 #[.pointer none, .int .i64 i] w fun r w' => r = .returned (.tuple #[.slice none 0 0, .bool false]) ∧ w = w' := by
  go_enter Tryz.func166, Tryz.ntmps166
  go_wp2_with fail
  refine (has_nil i _).mono ?_
  rintro r w' ⟨rfl, rfl⟩
  go_wp2_with fail
  refine bodyPost_ret (results_tmp2 rfl _ _ _) rfl ?_
  exact ⟨rfl, rfl⟩
/-- From w to w' the blocks of the queue and of its row alone have turned. -/
theorem take_yes (base b : Nat) (most lost : Int) (l : List It) (v : Value) (i : Nat) (w : World) (h : Que w base b most lost l v) (hi : i < l.length) (hl : l.length ≤ 1000) :
    Calls Tryz.prog 166 #[.pointer (some ⟨b, 0, none⟩), .int .i64 i] w fun r w' => ∃ v', r = .returned (.tuple #[(l.getD i default).v, .bool true]) ∧ Que w' base b most lost (l.eraseIdx i) v' ∧ Bs w' (l.getD i default).v (l.getD i default).n (l.getD i default).Z ∧ Below base w w' := by
  have HD : Hid (hasB l.length i = true) := Lib.hid (by unfold hasB; rw [decide_eq_true_eq]; omega)
  obtain ⟨g, c, rfl, h1, h2, k0, k1, _⟩ := h.at_ hi
  have c2 := h.c2
  have hok := h.ok
  have hx := h.bytes _ (getD_mem hi)
  unfold maxLen at h2
  generalize l.getD i default = x at *
  obtain ⟨tt0, xv, xn, Z⟩ := x
  dsimp only at *
  have hlow := h.low
  have hbase : base ≤ w.heap.size := by have := h.own.lt; omega
  have hgm := mine_at h.row rfl
  have hgb := mine_ne h.row h.own rfl
  obtain ⟨a5, c5, rfl, hc5, hd5, hR5, hn5⟩ := hx.row
  go_enter Tryz.func166, Tryz.ntmps166
  go_wp2_with fail
  refine (has_any base b most lost l _ i _ h).mono ?_
  rintro r w' ⟨rfl, rfl⟩
  rw [HD.out]
  go_wp2_with fail
  refine (delete_any base g l.length c i (i + 1) (iv l) _ h.row hi rfl (iv_one hok)).mono ?_
  rintro r w4 ⟨rfl, m4, j4⟩
  have o4 := j4.own h.own hgb.symm
  obtain ⟨_, gcs, hgo⟩ := hgm
  have hb4 : Hid (∀ x ∈ l, Bs w4 x.v x.n x.Z) := Lib.hid fun x hx => (h.bytes x hx).just j4 hgo (by decide)
  have hx4 := hx.just j4 hgo (by decide)
  have b4 := j4.below (Below.refl base w) (by assumption) hbase
  have f2 : w4.frozen? ⟨b, 2, none⟩ = false := o4.free 2
  have c4 : w4.cell? ⟨b, 2, none⟩ = some (.slice (some ⟨g, 0, none⟩) l.length c) := o4.cell 2
  clear c2 k0 k1
  go_wp2_with fail
  refine bodyPost_ret (results_tmp2 rfl _ _ _) rfl ?_
  have m5 : MineK w4 base 229 2 (.slice (some ⟨g, 0, none⟩) (l.length - 1) c) (l.eraseIdx i).length (iv (l.eraseIdx i)) := by
    rw [List.length_eraseIdx, if_pos hi]
    exact m4.ext (fun j hj => iv_del l hi hj)
  refine ⟨_, rfl, ⟨o4.put 2 _, mine_set m5 o4 2 _, fun x hx => ?_, hlow⟩, hx4.just (Just.set b w4 2 _) o4 (by decide), (Just.set b w4 2 _).below b4 hlow (by have := b4.size; omega)⟩
  exact (hb4.out x (List.mem_of_mem_eraseIdx hx)).just (Just.set b w4 2 _) o4 (by decide)
end Go.Proofs.YtiflmdekcjbmbaaGreat.Qu
set_option maxRecDepth 100000
namespace Go.Proofs.YtiflmdekcjbmbaaGreat.Qu
set_option linter.unusedVariables false
set_option linter.unusedSimpArgs false
open Go.RowKit Lb

theorem convBB (w : World) (x : Int) : (convert 35 35 (.slice (some ⟨w.heap.size, 0, none⟩) 1 1)).run Tryz.prog (w.alloc (.cells #[.int .u8 x] 5)) = .ok (.slice (some ⟨w.heap.size, 0, none⟩) 1 1) (w.alloc (.cells #[.int .u8 x] 5 (1, 2))) :=
  Lib.run_convert_bytes_const w 35 5 #[.int .u8 x] 1 1 Tryz.underlying35 Tryz.underlying5
theorem to_nil (w : World) : Calls Tryz.prog 130 #[.pointer none] w fun r w' => r = .returned (.slice none 0 0) ∧ w = w' := by
  go_enter Tryz.func130, Tryz.ntmps130
  go_wp2_with fail
  go_ret
  exact ⟨rfl, rfl⟩
end Go.Proofs.YtiflmdekcjbmbaaGreat.Qu
set_option maxRecDepth 100000
namespace Go.Proofs.YtiflmdekcjbmbaaGreat.Qu
set_option linter.unusedVariables false
set_option linter.unusedSimpArgs false
open Go.RowKit Lb

theorem infoN : (Tryz.prog.info? 3).map (fun i => (i.zero, i.size, i.bytes)) = some (some (.int .i64 0), 1, 8) := by kernel_rfl
def tov (l : List It) (j : Nat) : Value := .int .i64 (l.getD j default).to
set_option maxHeartbeats 2000000 in
theorem to_any (base b : Nat) (most lost : Int) (l : List It) (v : Value) (w : World) (h : Que w base b most lost l v) (hl : l.length ≤ 1000) :
    Calls Tryz.prog 130 #[.pointer (some ⟨b, 0, none⟩)] w fun r w' => ∃ a c, r = .returned (.slice a l.length c) ∧ l.length ≤ c ∧ c ≤ maxLen ∧ Row w' a l.length (tov l) ∧ Below w.heap.size w w' := by
  obtain ⟨a, c, rfl, h1, h2, hR⟩ := h.row.row
  have c2 := h.c2
  have hbl := h.own.lt
  unfold maxLen at h2
  obtain ⟨i0, hi0, hz0, hz1, hz2⟩ := info_parts infoN
  obtain ⟨n, hn⟩ : ∃ n, l.length = n := ⟨_, rfl⟩
  rw [hn] at hR c2 h1 hl ⊢
  have HN := Lib.hid hn
  clear hn
  have hmk : ∀ w : World, (Instr.makeSlice 23 (.int .i64 (n : Int)) (.int .i64 (n : Int))).run Tryz.prog w = .ok (.slice (some ⟨w.heap.size, 0, none⟩) n n) (w.alloc (.cells (madeCells #[.int .i64 0] n) 3)) := by
    intro w
    have := run_make w 23 3 i0 (.int .i64 0) Tryz.underlying23 hi0 hz0 .i64 .i64 (n : Int) (n : Int) (by omega) (by omega) (by rw [hz2]; omega) (by omega)
    rw [this, hz1]
    simp [Value.cells]
  have HCS : Hid (madeCells #[Value.int .i64 0] n = (List.replicate n (Value.int .i64 0)).toArray) := Lib.hid (by
    apply Array.toList_inj.1
    simpa using toList_madeCells_one (Value.int .i64 0) n)
  go_enter Tryz.func130, Tryz.ntmps130
  go_wp2_with fail
  have o1 : Blk (w.alloc (.cells (madeCells #[.int .i64 0] n) 3)) w.heap.size 3 n (fun j => if j < 0 then tov l j else .int .i64 0) := Blk.ext (Blk.same (Own.new _ _ _) HCS.out) (fun i hi => by rw [if_neg (by omega)])
  have b1 := (Below.refl w.heap.size w).alloc (Nat.le_refl _) (.cells (madeCells #[.int .i64 0] n) 3)
  have c3 : (w.alloc (.cells (madeCells #[.int .i64 0] n) 3)).cell? ⟨b, 2, none⟩ = some (.slice a n c) := by rw [b1.cell (p := ⟨b, 2, none⟩) hbl]; exact c2
  generalize w.alloc (.cells (madeCells #[.int .i64 0] n) 3) = w1 at *
  clear hmk HCS c2
  obtain ⟨g, hg⟩ : ∃ g, g = w.heap.size := ⟨_, rfl⟩
  rw [← hg] at o1 ⊢
  have HG := Lib.hid hg
  clear hg
  go_wp2_with fail
  go_loopw [19] (fun i wr => ∃ k : Nat, i = .int .i64 k ∧ k ≤ n ∧ Blk wr g 3 n (fun j => if j < k then tov l j else .int .i64 0) ∧ Below w.heap.size w wr) (fun i _ => n - (intOf i).toNat)
  case atStart => exact ⟨0, rfl, by omega, o1, b1⟩
  case round =>
    clear o1 b1 c3
    obtain ⟨k, rfl, hk, o1, bb⟩ := hrel
    by_cases hlt : k < n
    · obtain ⟨p, o, rfl, hp, hcs⟩ := hR.at_struct bb hlt (by decide)
      obtain ⟨e0, e1⟩ := iv_at l k
      have a0 := (hcs 0 (by decide)).trans (congrArg some e0)
      have a1 := (hcs 1 (by decide)).trans (congrArg some e1)
      rw [Nat.add_zero] at a0
      have hx := h.bytes _ (getD_mem (l := l) (i := k) (by rw [HN.out]; exact hlt))
      obtain ⟨t, ht⟩ : ∃ t, (l.getD k default).to = t := ⟨_, rfl⟩
      obtain ⟨xv, hxv⟩ : ∃ xv, (l.getD k default).v = xv := ⟨_, rfl⟩
      rw [ht] at a0
      rw [hxv] at a1 hx
      have HT := Lib.hid ht
      obtain ⟨a5, c5, rfl, hc5, hd5, hR5, hn5⟩ := hx.row
      generalize (l.getD k default).n = xn at *
      clear hcs e0 e1 ht hxv hx hR5 hn5
      have g0 := o1.cell hlt
      have g0 : wr.cell? ⟨g, k, none⟩ = some (.int .i64 0) := by rw [g0, if_neg (by omega)]
      have gf := o1.free k
      have HP := Lib.hid ((o1.put k (.int .i64 t)).ext (U := fun j => if j < k + 1 then tov l j else .int .i64 0) (fun j hj => by
        by_cases h : j = k
        · subst h
          rw [if_pos rfl, if_pos (by omega)]
          unfold tov
          rw [HT.out]
        · rw [if_neg h]
          by_cases h2 : j < k
          · rw [if_pos h2, if_pos (by omega)]
          · rw [if_neg h2, if_neg (by omega)]))
      have hne : g < wr.heap.size := o1.lt
      have HB := Lib.hid ((Just.set g wr k (.int .i64 t)).below bb (by rw [HG.out]; exact Nat.le_refl _) bb.size)
      go_wp2_with fail
      exact ⟨⟨k + 1, by simp [intOf], by omega, Blk.alloc HP.out _, HB.out.alloc HB.out.size _⟩, by simp [intOf]; omega⟩
    · obtain rfl : k = n := by omega
      go_wp2_with fail
      go_ret
      exact ⟨some ⟨g, 0, none⟩, k, rfl, Nat.le_refl _, by unfold maxLen; omega, fun hn => ⟨g, 0, rfl, o1.lt, fun i hi => by rw [Nat.zero_add, o1.cell hi, if_pos hi]⟩, bb⟩
end Go.Proofs.YtiflmdekcjbmbaaGreat.Qu
set_option maxRecDepth 100000
namespace Go.Proofs.YtiflmdekcjbmbaaGreat.Qu
set_option linter.unusedVariables false
set_option linter.unusedSimpArgs false
open Go.RowKit Lb

theorem mineK_put1 {w : World} {base g s n c : Nat} {e : TypeId} {V : Nat → Value} (h : MineK w base e s (.slice (some ⟨g, 0, none⟩) n c) n V) (hn : 0 < n) (i : Nat) (u : Value) :
    MineK (w.setCell ⟨g, i, none⟩ u) base e s (.slice (some ⟨g, 0, none⟩) n c) n (fun j => if j = i then u else V j) := by
  obtain ⟨g', c', cs, hv, hgb, ho, hnc, hcm, hsz, hcv⟩ := h.block hn
  injection hv with hv1 _ hv2
  injection hv1 with hv1
  injection hv1 with hv1
  subst hv1 hv2
  refine MineK.made (ho.put i u) hgb (by simpa using hsz) hcm hnc (fun j hj => ?_)
  rw [Array.getElem?_setIfInBounds]
  have hjs : j < cs.size := by rw [hsz]; exact Nat.lt_of_lt_of_le hj (Nat.mul_le_mul_right _ hnc)
  by_cases hij : i = j
  · subst hij
    rw [if_pos rfl, if_pos hjs, if_pos rfl]
  · rw [if_neg hij, if_neg (fun e => hij e.symm), hcv j hj]
/-- An item that goes to another one now. -/
def mv (x y : Int) (t : It) : It := if t.to = x then { t with to := y } else t
theorem mv_to (x y : Int) (t : It) : (mv x y t).to = if t.to = x then y else t.to := by
  unfold mv
  split <;> rfl
theorem mv_v (x y : Int) (t : It) : (mv x y t).v = t.v ∧ (mv x y t).n = t.n ∧ (mv x y t).Z = t.Z := by
  unfold mv
  split <;> exact ⟨rfl, rfl, rfl⟩
def mvv (x y : Int) (l : List It) (k j : Nat) : Value := if j % 2 = 0 ∧ j / 2 < k then .int .i64 (if (l.getD (j / 2) default).to = x then y else (l.getD (j / 2) default).to) else iv l j
theorem mvv_zero (x y : Int) (l : List It) (j : Nat) : mvv x y l 0 j = iv l j := by
  unfold mvv
  rw [if_neg (by omega)]
theorem mvv_all (x y : Int) (l : List It) (j : Nat) (hj : j < l.length * 2) : mvv x y l l.length j = iv (l.map (mv x y)) j := by
  have e : (l.map (mv x y)).getD (j / 2) default = mv x y (l.getD (j / 2) default) := by
    rw [List.getD_eq_getElem?_getD, List.getD_eq_getElem?_getD, List.getElem?_map, List.getElem?_eq_getElem (by omega)]
    rfl
  unfold mvv iv
  rw [e]
  by_cases h : j % 2 = 0
  · rw [if_pos ⟨h, by omega⟩, if_pos h, mv_to]
  · rw [if_neg (fun e => h e.1), if_neg h, if_neg h, (mv_v x y _).1]
theorem mvv_step (x y : Int) (l : List It) (k j : Nat) : mvv x y l (k + 1) j = if j = k * 2 then .int .i64 (if (l.getD k default).to = x then y else (l.getD k default).to) else mvv x y l k j := by
  unfold mvv
  by_cases h : j = k * 2
  · subst h
    rw [if_pos (by omega), if_pos rfl, show k * 2 / 2 = k by omega]
  · rw [if_neg h]
    by_cases h2 : j % 2 = 0 ∧ j / 2 < k
    · rw [if_pos h2, if_pos ⟨h2.1, by omega⟩]
    · rw [if_neg h2, if_neg (by omega)]
def cnt (x : Int) (l : List It) : Nat → Nat
  | 0 => 0
  | k + 1 => cnt x l k + if (l.getD k default).to = x then 1 else 0
theorem cnt_le (x : Int) (l : List It) : ∀ k, cnt x l k ≤ k
  | 0 => Nat.le_refl _
  | k + 1 => by
    have := cnt_le x l k
    unfold cnt
    split <;> omega
end Go.Proofs.YtiflmdekcjbmbaaGreat.Qu
set_option maxRecDepth 100000
namespace Go.Proofs.YtiflmdekcjbmbaaGreat.Qu
set_option linter.unusedVariables false
set_option linter.unusedSimpArgs false
open Go.RowKit Lb
set_option maxHeartbeats 4000000 in
theorem putT (base b : Nat) (most lost : Int) (l : List It) (v : Value) (tt0 : Int) (a : Option Addr) (n c : Nat) (Z : Nat → Int) (w : World) (h : Que w base b most lost l v) (hm : (l.length : Int) < most) (hl : l.length ≤ 1000) (hn : n ≤ c) (hn2 : n ≤ 100000) (hR : Row w a n (fun i => .int .u8 (Z i))) (ha : a = none → n = 0) :
    Calls Tryz.prog 172 #[.pointer (some ⟨b, 0, none⟩), .int .i64 tt0, .slice a n c] w fun r w' => r = .returned (.bool true) ∧ ∃ v' u, Que w' base b most lost (l ++ [⟨tt0, u, n, Z⟩]) v' ∧ Turn w w' b v v' := by
  have hrow := h.row
  have hbs := Lib.hid h.bytes
  obtain ⟨a', c', rfl, h3, h4, hRow⟩ := h.row.row
  unfold maxLen at h4
  obtain ⟨i0, hi0, hz0, hz1, hz2⟩ := info_parts infoI
  have c0 := h.c0
  have c2 := h.c2
  have ho := h.own
  have hlow := h.low
  have hok := Lib.hid h.ok
  have g0 : decide (most ≤ (l.length : Int)) = false := by simp; omega
  have hbl := ho.lt
  have hb0 : base ≤ w.heap.size := by omega
  have ht : (220 : TypeId) ≠ 229 := by decide
  have hv2 : ∀ q, (Value.slice a' l.length c').ownBlock = some q → q ≠ b := fun q e => mine_ne h.row h.own e
  clear h
  go_enter Tryz.func172, Tryz.ntmps172
  go_wp2_with fail
  go_quiet (fail)
  generalize hw1 : w.drewN _ = w1 at *
  have m1 : MineK w1 base 229 2 (.slice a' l.length c') l.length (iv l) := by rw [← hw1]; exact hrow.drewN _
  have o1 : Own w1 b 220 #[.int .i64 most, .int .i64 lost, .slice a' l.length c'] := by rw [← hw1]; exact ho.drewN _
  have r1 : Row w1 a n (fun i => .int .u8 (Z i)) := by rw [← hw1]; exact hR.drewN _
  have z1 : w1.heap.size = w.heap.size := by rw [← hw1]; rfl
  have b1 : Below w.heap.size w w1 := by rw [← hw1]; exact below_drewN (Below.refl _ _) _
  have B1 : Hid (∀ x ∈ l, Bs w1 x.v x.n x.Z) := Lib.hid (by rw [← hw1]; exact hbs.out)
  clear hw1 hrow ho hR c0 c2 hbs hRow
  go_wp2_with fail
  have s0 : w1.drew.cell? ⟨b, 2, none⟩ = some (.slice a' l.length c') := o1.cell 2
  have f0 : w1.frozen? ⟨b, 2, none⟩ = false := o1.free 2
  have s00 : w1.cell? ⟨b, 2, none⟩ = some (.slice a' l.length c') := o1.cell 2
  go_region_law (first
    | (refine step_appK rfl (.tmp 32) (.tmp 37) 218 rfl base 229 i0 _ 2 32 Tryz.underlying218 hi0 hz0 hz1 hz2 rfl (by decide) _ l.length (iv l) (by rfl) (m5.alloc _) _ 1 _ (iv [⟨tt0, .slice a5 n c5, n, Z⟩]) (by rfl) (row_new _ _ _ _ (fun i hi => by rcases (show i = 0 ∨ i = 1 by omega) with rfl | rfl <;> rfl)) (fun i hi => iv_one (fun x hx => by simp at hx; subst hx; exact bs_one hB5) i) (by unfold maxLen; omega) (by omega) (by have := b5.size; simp at this; simp; omega) ?_; intro v6 w6 m6 g6 l6; obtain ⟨a6, c6, rfl, hc6, hd6, hR6⟩ := m6.row; have o6 := grown_own g6 (Own.alloc o5 _) (by intro e; exact hv2 _ e rfl); have s3 : w6.cell? ⟨b, 2, none⟩ = some (.slice a' l.length c') := o6.cell 2; have f6 : w6.frozen? ⟨b, 2, none⟩ = false := o6.free 2)
    | (go_simp; go_at_call 179; refine (clone_any a n c Z _ hn (by omega) (r1.drewN 1) ha).mono ?_; rintro q w5 ⟨v5, rfl, hB5, b5⟩; obtain ⟨a5, c5, rfl, hc5, hd5, hR5, hn5⟩ := hB5.row; have o5 := below_own b5 (o1.drewN 1) o1.lt; have s1 : w5.cell? ⟨b, 2, none⟩ = some (.slice a' l.length c') := o5.cell 2; have m5 := (m1.drewN 1).below b5; have s2 : (w5.alloc (.cells #[.int .i64 tt0, .slice a5 n c5] 229)).cell? ⟨b, 2, none⟩ = some (.slice a' l.length c') := (Own.alloc o5 _).cell 2))
  all_goals
    go_wp2_with fail
    go_ret
    have m7 : MineK w6 base 229 2 (.slice a6 (l.length + 1) c6) (l ++ [(⟨tt0, .slice a5 n c5, n, Z⟩ : It)]).length (iv (l ++ [(⟨tt0, .slice a5 n c5, n, Z⟩ : It)])) := by
      rw [List.length_append]
      exact m6.ext (fun q hq => iv_snoc l _ q hq)
    have hgr : ∀ q, (Value.slice a' l.length c').ownBlock = some q → ∃ cs, Own (w5.alloc (.cells #[.int .i64 tt0, .slice a5 n c5] 229)) q 229 cs := fun q e => (mine_at (m5.alloc _) e).2
    have hb1 : base ≤ (w1.drewN 1).heap.size := by show base ≤ w1.heap.size; rw [z1]; exact hb0
    have hb5 : base ≤ w5.heap.size := Nat.le_trans hb1 b5.size
    have j5 : Below w.heap.size w (w5.alloc (.cells #[.int .i64 tt0, .slice a5 n c5] 229)) := ((below_drewN b1 1).trans (b5.mono (by show w.heap.size ≤ w1.heap.size; rw [z1]; exact Nat.le_refl _))).alloc (by have := b5.size; have : (w1.drewN 1).heap.size = w.heap.size := z1; omega) _
    have jj := (Turn.of_below j5 b (.slice a' l.length c')).trans (Turn.of_grown g6 l6 b)
    refine ⟨rfl, _, .slice a5 n c5, ⟨?_, mine_set m7 o6 2 _, fun x hx => ?_, hlow⟩, jj.put 2 _⟩
    · exact o6.put 2 _
    · have hx2 : Bs w6 x.v x.n x.Z := by
        rw [List.mem_append, List.mem_singleton] at hx
        rcases hx with hx | rfl
        · exact ((((show Bs (w1.drewN 1) x.v x.n x.Z from B1.out x hx).below b5).below ((Below.refl _ _).alloc (Nat.le_refl _) _)).grown g6 hgr)
        · exact (hB5.below ((Below.refl _ _).alloc (Nat.le_refl _) _)).grown g6 hgr
      exact hx2.just (Just.set b w6 2 _) o6 (by decide)
theorem takeT (base b : Nat) (most lost : Int) (l : List It) (v : Value) (i : Nat) (w : World) (h : Que w base b most lost l v) (hi : i < l.length) (hl : l.length ≤ 1000) :
    Calls Tryz.prog 166 #[.pointer (some ⟨b, 0, none⟩), .int .i64 i] w fun r w' => ∃ v', r = .returned (.tuple #[(l.getD i default).v, .bool true]) ∧ Que w' base b most lost (l.eraseIdx i) v' ∧ Bs w' (l.getD i default).v (l.getD i default).n (l.getD i default).Z ∧ Turn w w' b v v' := by
  have HD : Hid (hasB l.length i = true) := Lib.hid (by unfold hasB; rw [decide_eq_true_eq]; omega)
  obtain ⟨g, c, rfl, h1, h2, k0, k1, _⟩ := h.at_ hi
  have c2 := h.c2
  have hok := h.ok
  have hx := h.bytes _ (getD_mem hi)
  unfold maxLen at h2
  generalize l.getD i default = x at *
  obtain ⟨tt0, xv, xn, Z⟩ := x
  dsimp only at *
  have hlow := h.low
  have hbase : base ≤ w.heap.size := by have := h.own.lt; omega
  have hgm := mine_at h.row rfl
  have hgb := mine_ne h.row h.own rfl
  obtain ⟨a5, c5, rfl, hc5, hd5, hR5, hn5⟩ := hx.row
  go_enter Tryz.func166, Tryz.ntmps166
  go_wp2_with fail
  refine (has_any base b most lost l _ i _ h).mono ?_
  rintro r w' ⟨rfl, rfl⟩
  rw [HD.out]
  go_wp2_with fail
  refine (delete_any base g l.length c i (i + 1) (iv l) _ h.row hi rfl (iv_one hok)).mono ?_
  rintro r w4 ⟨rfl, m4, j4⟩
  have o4 := j4.own h.own hgb.symm
  obtain ⟨_, gcs, hgo⟩ := hgm
  have hb4 : Hid (∀ x ∈ l, Bs w4 x.v x.n x.Z) := Lib.hid fun x hx => (h.bytes x hx).just j4 hgo (by decide)
  have hx4 := hx.just j4 hgo (by decide)
  have b4 := j4.below (Below.refl base w) (by assumption) hbase
  have f2 : w4.frozen? ⟨b, 2, none⟩ = false := o4.free 2
  have c4 : w4.cell? ⟨b, 2, none⟩ = some (.slice (some ⟨g, 0, none⟩) l.length c) := o4.cell 2
  clear c2 k0 k1
  go_wp2_with fail
  refine bodyPost_ret (results_tmp2 rfl _ _ _) rfl ?_
  have m5 : MineK w4 base 229 2 (.slice (some ⟨g, 0, none⟩) (l.length - 1) c) (l.eraseIdx i).length (iv (l.eraseIdx i)) := by
    rw [List.length_eraseIdx, if_pos hi]
    exact m4.ext (fun j hj => iv_del l hi hj)
  refine ⟨_, rfl, ⟨o4.put 2 _, mine_set m5 o4 2 _, fun x hx => ?_, hlow⟩, hx4.just (Just.set b w4 2 _) o4 (by decide), (Turn.of_row (b := b) (v := .slice (some ⟨g, 0, none⟩) l.length c) (v' := .slice (some ⟨g, 0, none⟩) (l.length - 1) c) j4 rfl (fun q e => e)).put 2 _⟩
  exact (hb4.out x (List.mem_of_mem_eraseIdx hx)).just (Just.set b w4 2 _) o4 (by decide)
end Go.Proofs.YtiflmdekcjbmbaaGreat.Qu
