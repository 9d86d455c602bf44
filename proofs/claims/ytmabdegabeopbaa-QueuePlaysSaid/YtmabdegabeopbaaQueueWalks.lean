/-
  Package queue (chapter 10): what waits, as a list; what each method makes of it.
-/
import Derived.Test.YtmabdegabeopbaaBlk
import Derived.Test.YtmabdegabeopbaaOwnK
import Derived.Lib.Hide
import Derived.Deep.RegionHeld3
import Derived.BigQuiet
import Derived.Shelf.Bytes.SlClone
import Derived.Ground.SlbCloneProg
set_option maxRecDepth 100000
namespace Go.Proofs.Ytmabdegabeopbaa.Qu
set_option linter.unusedVariables false
open Go.RowKit Lb Go.Shelf

/-- One that waits: to whom, the slice, how many bytes, which. -/
structure It where
  to : Int
  v : Value
  n : Nat
  Z : Nat → Int
instance : Inhabited It := ⟨⟨0, .slice none 0 0, 0, fun _ => 0⟩⟩
/-- The slice's bytes: nil, or a row in a block of bytes. -/
def Bs (w : World) (v : Value) (n : Nat) (Z : Nat → Int) : Prop :=
  (v = .slice none 0 0 ∧ n = 0) ∨ ∃ g off c cs, v = .slice (some ⟨g, off, none⟩) n c ∧ Own w g 5 cs ∧ n ≤ c ∧ c ≤ maxLen ∧ ∀ i, i < n → cs[off + i]? = some (.int .u8 (Z i))
theorem Bs.row {w : World} {v : Value} {n : Nat} {Z : Nat → Int} (h : Bs w v n Z) : ∃ a c, v = .slice a n c ∧ n ≤ c ∧ c ≤ maxLen ∧ Row w a n (fun i => .int .u8 (Z i)) ∧ (a = none → n = 0 ∧ c = 0) := by
  rcases h with ⟨rfl, rfl⟩ | ⟨g, off, c, cs, rfl, ho, h1, h2, h3⟩
  · exact ⟨none, 0, rfl, Nat.le_refl _, Nat.zero_le _, Row.nil _ _ _, fun _ => ⟨rfl, rfl⟩⟩
  · exact ⟨_, c, rfl, h1, h2, fun _ => ⟨g, off, rfl, ho.lt, fun i hi => by rw [ho.cell, h3 i hi]⟩, fun e => by cases e⟩
theorem Bs.just {w w' : World} {v : Value} {n b : Nat} {Z : Nat → Int} {t : TypeId} {cs : Array Value} (h : Bs w v n Z) (j : Just b w w') (ho : Own w b t cs) (ht : t ≠ 5) : Bs w' v n Z := by
  rcases h with h | ⟨g, off, c, cs', hv, ho', r⟩
  · exact .inl h
  · refine .inr ⟨g, off, c, cs', hv, j.own ho' (fun e => ?_), r⟩
    subst e
    unfold Own at ho ho'
    rw [ho] at ho'
    injection ho' with e
    injection e with _ e _
    exact ht e
theorem Bs.below {w w' : World} {v : Value} {n : Nat} {Z : Nat → Int} (h : Bs w v n Z) (b : Below w.heap.size w w') : Bs w' v n Z := by
  rcases h with h | ⟨g, off, c, cs', hv, ho', r⟩
  · exact .inl h
  · exact .inr ⟨g, off, c, cs', hv, below_own b ho' ho'.lt, r⟩
/-- The cells of a row of items. -/
def iv (l : List It) (j : Nat) : Value := if j % 2 = 0 then .int .i64 (l.getD (j / 2) default).to else (l.getD (j / 2) default).v
theorem iv_at (l : List It) (k : Nat) : iv l (k * 2) = .int .i64 (l.getD k default).to ∧ iv l (k * 2 + 1) = (l.getD k default).v := by
  unfold iv
  rw [if_pos (by omega), if_neg (by omega), show k * 2 / 2 = k by omega, show (k * 2 + 1) / 2 = k by omega]
  exact ⟨rfl, rfl⟩
/-- The queue in block b: so much room, so many that found none, what waits. -/
structure Que (w : World) (base b : Nat) (most lost : Int) (l : List It) (v : Value) : Prop where
  own : Own w b 53 #[.int .i64 most, .int .i64 lost, v]
  row : MineK w base 56 2 v l.length (iv l)
  bytes : ∀ x ∈ l, Bs w x.v x.n x.Z
  low : base ≤ b
theorem Que.c0 {w : World} {base b : Nat} {most lost : Int} {l : List It} {v : Value} (h : Que w base b most lost l v) : w.cell? ⟨b, 0, none⟩ = some (.int .i64 most) := h.own.cell 0
theorem Que.c1 {w : World} {base b : Nat} {most lost : Int} {l : List It} {v : Value} (h : Que w base b most lost l v) : w.cell? ⟨b, 1, none⟩ = some (.int .i64 lost) := h.own.cell 1
theorem Que.c2 {w : World} {base b : Nat} {most lost : Int} {l : List It} {v : Value} (h : Que w base b most lost l v) : w.cell? ⟨b, 2, none⟩ = some v := h.own.cell 2
theorem Que.below {w w' : World} {base b : Nat} {most lost : Int} {l : List It} {v : Value} (h : Que w base b most lost l v) (j : Below w.heap.size w w') : Que w' base b most lost l v where
  own := below_own j h.own h.own.lt
  row := h.row.below j
  bytes x hx := (h.bytes x hx).below j
  low := h.low
theorem new_any (x : Int) (w : World) :
    Calls Try.prog 8 #[.int .i64 x] w fun r w' => r = .returned (.pointer (some ⟨w.heap.size, 0, none⟩)) ∧ Que w' w.heap.size w.heap.size (min (max x 1) 32) 0 [] (.slice none 0 0) ∧ Below w.heap.size w w' ∧ w.heap.size < w'.heap.size := by
  have ho := Own.new w 53 #[.int .i64 (min (max x 1) 32), .int .i64 0, .slice none 0 0]
  have hb := (Below.refl w.heap.size w).alloc (Nat.le_refl _) (.cells #[.int .i64 (min (max x 1) 32), .int .i64 0, .slice none 0 0] 53)
  have hs : w.heap.size < (w.alloc (.cells #[.int .i64 (min (max x 1) 32), .int .i64 0, .slice none 0 0] 53)).heap.size := by simp
  go_enter Try.func8, Try.ntmps8
  go_wp2_with fail
  go_ret
  exact ⟨rfl, ⟨ho, MineK.nil _ _ _ _ _, fun x hx => by simp at hx, Nat.le_refl _⟩, hb, hs⟩
theorem len_any (base b : Nat) (most lost : Int) (l : List It) (v : Value) (w : World) (h : Que w base b most lost l v) :
    Calls Try.prog 19 #[.pointer (some ⟨b, 0, none⟩)] w fun r w' => r = .returned (.int .i64 (l.length : Int)) ∧ w = w' := by
  obtain ⟨a, c, rfl, h1, h2, _⟩ := h.row.row
  have c2 := h.c2
  unfold maxLen at h2
  go_enter Try.func19, Try.ntmps19
  go_wp2_with fail
  go_ret
  exact ⟨rfl, rfl⟩
theorem len_nil (w : World) : Calls Try.prog 19 #[.pointer none] w fun r w' => r = .returned (.int .i64 0) ∧ w = w' := by
  go_enter Try.func19, Try.ntmps19
  go_wp2_with fail
  go_ret
  exact ⟨rfl, rfl⟩
theorem lost_any (base b : Nat) (most lost : Int) (l : List It) (v : Value) (w : World) (h : Que w base b most lost l v) :
    Calls Try.prog 20 #[.pointer (some ⟨b, 0, none⟩)] w fun r w' => r = .returned (.int .i64 lost) ∧ w = w' := by
  have c1 := h.c1
  go_enter Try.func20, Try.ntmps20
  go_wp2_with fail
  go_ret
  exact ⟨rfl, rfl⟩
theorem lost_nil (w : World) : Calls Try.prog 20 #[.pointer none] w fun r w' => r = .returned (.int .i64 0) ∧ w = w' := by
  go_enter Try.func20, Try.ntmps20
  go_wp2_with fail
  go_ret
  exact ⟨rfl, rfl⟩
def hasB (n : Nat) (i : Int) : Bool := decide (0 ≤ i ∧ i < (n : Int))
theorem has_any (base b : Nat) (most lost : Int) (l : List It) (v : Value) (i : Int) (w : World) (h : Que w base b most lost l v) :
    Calls Try.prog 23 #[.pointer (some ⟨b, 0, none⟩), .int .i64 i] w fun r w' => r = .returned (.bool (hasB l.length i)) ∧ w = w' := by
  obtain ⟨a, c, rfl, h1, h2, _⟩ := h.row.row
  have c2 := h.c2
  unfold maxLen at h2
  by_cases i0 : 0 ≤ i
  · by_cases i1 : i < (l.length : Int)
    · have HD : Hid (hasB l.length i = true) := Lib.hid (by simp [hasB, i0, i1])
      go_enter Try.func23, Try.ntmps23
      go_wp2_with fail
      go_ret
      exact ⟨by rw [HD.out]; rfl, rfl⟩
    · have HD : Hid (hasB l.length i = false) := Lib.hid (by simp [hasB]; omega)
      have g1 : decide (i < (l.length : Int)) = false := by simp; omega
      clear i1
      go_enter Try.func23, Try.ntmps23
      go_wp2_with fail
      go_ret
      exact ⟨by rw [HD.out]; rfl, rfl⟩
  · have HD : Hid (hasB l.length i = false) := Lib.hid (by simp [hasB]; omega)
    have g1 : decide (0 ≤ i) = false := by simp; omega
    clear i0
    go_enter Try.func23, Try.ntmps23
    go_wp2_with fail
    go_ret
    exact ⟨by rw [HD.out]; rfl, rfl⟩
theorem has_nil (i : Int) (w : World) : Calls Try.prog 23 #[.pointer none, .int .i64 i] w fun r w' => r = .returned (.bool false) ∧ w = w' := by
  go_enter Try.func23, Try.ntmps23
  go_wp2_with fail
  go_ret
  exact ⟨rfl, rfl⟩
def cloneL_ren : Go.Shelf.Ren := ⟨fun | 4 => 22 | n => n, fun | 22 => 27 | 4 => 4 | 5 => 5 | n => n, fun | n => n⟩
theorem cloneL : Go.Proofs.SlLaysK.n4 Try.prog cloneL_ren := {
  mixed := by kernel_rfl
  f4 := Try.func22.trans (congrArg some (by kernel_rfl))
  t4 := Try.underlying4
  a4 := Try.isAgg4
  z4 := Try.sizeOf4
  v4 := Try.zeroValue4
  t22 := Try.underlying27
  a22 := Try.isAgg27
  z22 := Try.sizeOf27
  v22 := Try.zeroValue27
  t5 := Try.underlying5
  i5 := by kernel_rfl }
theorem clone_any (a : Option Addr) (n c : Nat) (Z : Nat → Int) (w : World) (hn : n ≤ c) (hc : n ≤ 140737488355328) (hR : Row w a n (fun i => .int .u8 (Z i))) (ha : a = none → n = 0) :
    Calls Try.prog 22 #[.slice a n c] w fun r w' => ∃ v, r = .returned v ∧ Bs w' v n Z ∧ Below w.heap.size w w' := by
  have hmap : ((List.range n).map Z).map (Value.int .u8) = (List.range n).map (fun i => .int .u8 (Z i)) := by rw [List.map_map]; rfl
  cases a with
  | none =>
    have hcon := Any.bytes_Clone_nil cloneL n c w
    refine Calls.mono hcon ?_
    rintro r w' ⟨rfl, rfl⟩
    exact ⟨_, rfl, .inl ⟨rfl, ha rfl⟩, Below.refl _ _⟩
  | some p =>
    have hcon := Any.bytes_Clone_at cloneL p n c ((List.range n).map Z) w (by simp) hc (fun i hi => by
      obtain ⟨b, off, hp, _, h3⟩ := hR.at_ hi
      injection hp with hp
      subst hp
      rw [Addr.add_lit, h3]
      simp [hi])
    refine Calls.mono hcon ?_
    rintro r w' ⟨v, rfl, hown, hne, hb⟩
    refine ⟨v, rfl, ?_, hb⟩
    rw [hmap] at hown
    obtain ⟨_, h2⟩ := hown
    rcases h2 with ⟨hv, _⟩ | ⟨g, cap, cur, hv, hg, hh, hc, hm, hs, ht⟩
    · exact absurd hv hne
    · refine .inr ⟨g, 0, cap, cur, hv, hh, hc, hm, fun i hi => ?_⟩
      have e1 := congrArg (fun l : List Value => l[i]?) ht
      simp only [Nat.mul_one, List.getElem?_take, if_pos hi, Array.getElem?_toList] at e1
      rw [Nat.zero_add, e1]
      simp [hi]
end Go.Proofs.Ytmabdegabeopbaa.Qu
