/-
  Package ie (chapter 6): an element as one of its kind; back in the face's form.
-/
import Derived.Test.YtoconkgemakboaaIeSame
import Derived.Test.YtoconkgemakboaaResRow
set_option maxRecDepth 100000
namespace Go.Proofs.Ytoconkgemakboaa.Ie
set_option linter.unusedVariables false
open Go.RowKit Lb Go.Shelf Bf

def v1 (asn rank : Int) : Value := .iface 96 (.agg #[.int .i64 asn, .int .i64 rank])
def v2 (ticks : Int) : Value := .iface 98 (.agg #[.int .i64 ticks])
def v3 (v : Value) : Value := .iface 100 (.agg #[v])
def v4 (v : Value) : Value := .iface 101 (.agg #[v])
theorem t11 (v : Value) (w : World) : (Instr.typeAssert (.iface 96 v) 78 96 true).run Try.prog w = .ok (.tuple #[v, .bool true]) w := by kernel_rfl
theorem t12 (v : Value) (w : World) : (Instr.typeAssert (.iface 96 v) 78 98 true).run Try.prog w = .ok (.tuple #[.agg #[.int .i64 0], .bool false]) w := by kernel_rfl
theorem t13 (v : Value) (w : World) : (Instr.typeAssert (.iface 96 v) 78 100 true).run Try.prog w = .ok (.tuple #[.agg #[.slice none 0 0], .bool false]) w := by kernel_rfl
theorem t14 (v : Value) (w : World) : (Instr.typeAssert (.iface 96 v) 78 101 true).run Try.prog w = .ok (.tuple #[.agg #[.slice none 0 0], .bool false]) w := by kernel_rfl
theorem t21 (v : Value) (w : World) : (Instr.typeAssert (.iface 98 v) 78 96 true).run Try.prog w = .ok (.tuple #[.agg #[.int .i64 0, .int .i64 0], .bool false]) w := by kernel_rfl
theorem t22 (v : Value) (w : World) : (Instr.typeAssert (.iface 98 v) 78 98 true).run Try.prog w = .ok (.tuple #[v, .bool true]) w := by kernel_rfl
theorem t23 (v : Value) (w : World) : (Instr.typeAssert (.iface 98 v) 78 100 true).run Try.prog w = .ok (.tuple #[.agg #[.slice none 0 0], .bool false]) w := by kernel_rfl
theorem t24 (v : Value) (w : World) : (Instr.typeAssert (.iface 98 v) 78 101 true).run Try.prog w = .ok (.tuple #[.agg #[.slice none 0 0], .bool false]) w := by kernel_rfl
theorem t31 (v : Value) (w : World) : (Instr.typeAssert (.iface 100 v) 78 96 true).run Try.prog w = .ok (.tuple #[.agg #[.int .i64 0, .int .i64 0], .bool false]) w := by kernel_rfl
theorem t32 (v : Value) (w : World) : (Instr.typeAssert (.iface 100 v) 78 98 true).run Try.prog w = .ok (.tuple #[.agg #[.int .i64 0], .bool false]) w := by kernel_rfl
theorem t33 (v : Value) (w : World) : (Instr.typeAssert (.iface 100 v) 78 100 true).run Try.prog w = .ok (.tuple #[v, .bool true]) w := by kernel_rfl
theorem t34 (v : Value) (w : World) : (Instr.typeAssert (.iface 100 v) 78 101 true).run Try.prog w = .ok (.tuple #[.agg #[.slice none 0 0], .bool false]) w := by kernel_rfl
theorem t41 (v : Value) (w : World) : (Instr.typeAssert (.iface 101 v) 78 96 true).run Try.prog w = .ok (.tuple #[.agg #[.int .i64 0, .int .i64 0], .bool false]) w := by kernel_rfl
theorem t42 (v : Value) (w : World) : (Instr.typeAssert (.iface 101 v) 78 98 true).run Try.prog w = .ok (.tuple #[.agg #[.int .i64 0], .bool false]) w := by kernel_rfl
theorem t43 (v : Value) (w : World) : (Instr.typeAssert (.iface 101 v) 78 100 true).run Try.prog w = .ok (.tuple #[.agg #[.slice none 0 0], .bool false]) w := by kernel_rfl
theorem t44 (v : Value) (w : World) : (Instr.typeAssert (.iface 101 v) 78 101 true).run Try.prog w = .ok (.tuple #[v, .bool true]) w := by kernel_rfl
set_option maxHeartbeats 2000000 in
theorem plain1 (x y : Int) (w : World) : Calls Try.prog 66 #[v1 x y] w fun r w' => r = .returned (.agg #[.int .i64 1, .int .i64 x, .int .i64 y, .int .i64 0, .slice none 0 0]) ∧ Below w.heap.size w w' := by
  have q0 := t11
  unfold v1
  go_enter Try.func66, Try.ntmps66
  go_wp2_with fail
  refine bodyPost_ret (results_cell_row rfl _ _ w.heap.size 52 #[.int .i64 1, .int .i64 x, .int .i64 y, .int .i64 0, .slice none 0 0] (0, 0) _ rfl (((Own.new w 52 #[.int .i64 1, .int .i64 x, .int .i64 y, .int .i64 0, .slice none 0 0]).alloc _)) Try.underlying52 rfl (by kernel_rfl)) rfl ⟨rfl, ?_⟩
  exact (((Below.refl w.heap.size w).alloc (Nat.le_refl _) (.cells #[.int .i64 1, .int .i64 x, .int .i64 y, .int .i64 0, .slice none 0 0] 52)).alloc (by simp; try omega) (.cells #[.int .i64 x, .int .i64 y] 96))
set_option maxHeartbeats 2000000 in
theorem plain2 (x : Int) (w : World) : Calls Try.prog 66 #[v2 x] w fun r w' => r = .returned (.agg #[.int .i64 2, .int .i64 0, .int .i64 0, .int .i64 x, .slice none 0 0]) ∧ Below w.heap.size w w' := by
  have q0 := t21
  have q1 := t22
  unfold v2
  go_enter Try.func66, Try.ntmps66
  go_wp2_with fail
  refine bodyPost_ret (results_cell_row rfl _ _ w.heap.size 52 #[.int .i64 2, .int .i64 0, .int .i64 0, .int .i64 x, .slice none 0 0] (0, 0) _ rfl ((((Own.new w 52 #[.int .i64 2, .int .i64 0, .int .i64 0, .int .i64 x, .slice none 0 0]).alloc _).alloc _)) Try.underlying52 rfl (by kernel_rfl)) rfl ⟨rfl, ?_⟩
  exact ((((Below.refl w.heap.size w).alloc (Nat.le_refl _) (.cells #[.int .i64 2, .int .i64 0, .int .i64 0, .int .i64 x, .slice none 0 0] 52)).alloc (by simp; try omega) (.cells #[.int .i64 0, .int .i64 0] 96)).alloc (by simp; try omega) (.cells #[.int .i64 x] 98))
set_option maxHeartbeats 2000000 in
theorem plain3 (a : Option Addr) (n c : Nat) (w : World) : Calls Try.prog 66 #[v3 (.slice a n c)] w fun r w' => r = .returned (.agg #[.int .i64 3, .int .i64 0, .int .i64 0, .int .i64 0, .slice a n c]) ∧ Below w.heap.size w w' := by
  have q0 := t31
  have q1 := t32
  have q2 := t33
  unfold v3
  go_enter Try.func66, Try.ntmps66
  go_wp2_with fail
  refine bodyPost_ret (results_cell_row rfl _ _ w.heap.size 52 #[.int .i64 3, .int .i64 0, .int .i64 0, .int .i64 0, .slice a n c] (0, 0) _ rfl (((((Own.new w 52 #[.int .i64 3, .int .i64 0, .int .i64 0, .int .i64 0, .slice a n c]).alloc _).alloc _).alloc _)) Try.underlying52 rfl (by kernel_rfl)) rfl ⟨rfl, ?_⟩
  exact (((((Below.refl w.heap.size w).alloc (Nat.le_refl _) (.cells #[.int .i64 3, .int .i64 0, .int .i64 0, .int .i64 0, .slice a n c] 52)).alloc (by simp; try omega) (.cells #[.int .i64 0, .int .i64 0] 96)).alloc (by simp; try omega) (.cells #[.int .i64 0] 98)).alloc (by simp; try omega) (.cells #[.slice a n c] 100))
set_option maxHeartbeats 2000000 in
theorem plain4 (a : Option Addr) (n c : Nat) (w : World) : Calls Try.prog 66 #[v4 (.slice a n c)] w fun r w' => r = .returned (.agg #[.int .i64 4, .int .i64 0, .int .i64 0, .int .i64 0, .slice a n c]) ∧ Below w.heap.size w w' := by
  have q0 := t41
  have q1 := t42
  have q2 := t43
  have q3 := t44
  unfold v4
  go_enter Try.func66, Try.ntmps66
  go_wp2_with fail
  refine bodyPost_ret (results_cell_row rfl _ _ w.heap.size 52 #[.int .i64 4, .int .i64 0, .int .i64 0, .int .i64 0, .slice a n c] (0, 0) _ rfl ((((((Own.new w 52 #[.int .i64 4, .int .i64 0, .int .i64 0, .int .i64 0, .slice a n c]).alloc _).alloc _).alloc _).alloc _)) Try.underlying52 rfl (by kernel_rfl)) rfl ⟨rfl, ?_⟩
  exact ((((((Below.refl w.heap.size w).alloc (Nat.le_refl _) (.cells #[.int .i64 4, .int .i64 0, .int .i64 0, .int .i64 0, .slice a n c] 52)).alloc (by simp; try omega) (.cells #[.int .i64 0, .int .i64 0] 96)).alloc (by simp; try omega) (.cells #[.int .i64 0] 98)).alloc (by simp; try omega) (.cells #[.slice none 0 0] 100)).alloc (by simp; try omega) (.cells #[.slice a n c] 101))

theorem meth1 (k : Nat) (u v : Value) (w : World) : (method (k + 1) 96 (.agg #[u, v]) "campanile/ie.fits").run Try.prog w = .ok (89, .agg #[u, v]) w := by kernel_rfl
theorem meth2 (k : Nat) (v : Value) (w : World) : (method (k + 1) 98 (.agg #[v]) "campanile/ie.fits").run Try.prog w = .ok (91, .agg #[v]) w := by kernel_rfl
theorem meth3 (k : Nat) (v : Value) (w : World) : (method (k + 1) 100 (.agg #[v]) "campanile/ie.fits").run Try.prog w = .ok (92, .agg #[v]) w := by kernel_rfl
theorem meth4 (k : Nat) (v : Value) (w : World) : (method (k + 1) 101 (.agg #[v]) "campanile/ie.fits").run Try.prog w = .ok (94, .agg #[v]) w := by kernel_rfl
theorem keep_cell {v w : World} (h : Below v.heap.size v w) {p : Addr} {u : Value} (hc : v.cell? p = some u) : w.cell? p = some u := (h.cell (lt_of_cell hc)).trans hc
theorem El.At.none (w : World) (k x y t : Int) : (⟨k, x, y, t, []⟩ : El).At w none 0 := ⟨Nat.le_refl _, Nat.zero_le _, Row.nil _ _ _, fun _ => rfl⟩
set_option maxHeartbeats 2000000 in
theorem from1 (asn rank t : Int) (l : List Int) (a : Option Addr) (c : Nat) (w : World) (h : (⟨1, asn, rank, t, l⟩ : El).At w a c) :
    Calls Try.prog 51 #[.agg #[.int .i64 1, .int .i64 asn, .int .i64 rank, .int .i64 t, .slice a l.length c]] w fun r w' => r = .returned (.tuple #[v1 asn rank, .bool (mayE ⟨1, asn, rank, t, l⟩)]) ∧ Below w.heap.size w w' := by
  have o1 := Own.new w 52 #[.int .i64 1, .int .i64 asn, .int .i64 rank, .int .i64 t, .slice a l.length c]
  have b0 := (Below.refl w.heap.size w).alloc (Nat.le_refl _) (.cells #[.int .i64 1, .int .i64 asn, .int .i64 rank, .int .i64 t, .slice a l.length c] 52)
  have h1 := h.below b0
  have hsz : w.heap.size ≤ (w.alloc (.cells #[.int .i64 1, .int .i64 asn, .int .i64 rank, .int .i64 t, .slice a l.length c] 52)).heap.size := by simp
  go_enter Try.func51, Try.ntmps51
  go_upto_region 2 with (fail)
  generalize w.alloc (.cells #[.int .i64 1, .int .i64 asn, .int .i64 rank, .int .i64 t, .slice a l.length c] 52) = w1 at *
  have c0 := o1.cell 0
  have c1 := o1.cell 1
  have c2 := o1.cell 2
  have c3 := o1.cell 3
  have c4 := o1.cell 4
  simp at c0 c1 c2 c3 c4
  go_upto_region 12 with (fail)
  have x0 : ∀ x : Ext w1, x.toW.cell? ⟨w.heap.size, 0, none⟩ = some (.int .i64 1) := fun x => keep_cell x.ok (o1.cell 0)
  have x1 : ∀ x : Ext w1, x.toW.cell? ⟨w.heap.size, 1, none⟩ = some (.int .i64 asn) := fun x => keep_cell x.ok (o1.cell 1)
  have x2 : ∀ x : Ext w1, x.toW.cell? ⟨w.heap.size, 2, none⟩ = some (.int .i64 rank) := fun x => keep_cell x.ok (o1.cell 2)
  have x3 : ∀ x : Ext w1, x.toW.cell? ⟨w.heap.size, 3, none⟩ = some (.int .i64 t) := fun x => keep_cell x.ok (o1.cell 3)
  have x4 : ∀ x : Ext w1, x.toW.cell? ⟨w.heap.size, 4, none⟩ = some (.slice a l.length c) := fun x => keep_cell x.ok (o1.cell 4)
  have hm := fun k u v (x : Ext w1) => meth1 k u v x.toW
  have F : ∀ x : Ext w1, Calls Try.prog 89 #[.agg #[.int .i64 asn, .int .i64 rank]] x.toW fun r w' => r = .returned (.bool (s1B asn rank)) ∧ Below x.toW.heap.size x.toW w' := fun x => fits1 asn rank x.toW
  have G : ∀ x : Ext w1, Calls Try.prog 66 #[.iface 96 (.agg #[.int .i64 asn, .int .i64 rank])] x.toW fun r w' => r = .returned (.agg #[.int .i64 1, .int .i64 asn, .int .i64 rank, .int .i64 0, .slice none 0 0]) ∧ Below x.toW.heap.size x.toW w' := fun x => plain1 asn rank x.toW
  have S : ∀ x : Ext w1, Calls Try.prog 34 #[.agg #[.int .i64 1, .int .i64 asn, .int .i64 rank, .int .i64 0, .slice none 0 0], .agg #[.int .i64 1, .int .i64 asn, .int .i64 rank, .int .i64 t, .slice a l.length c]] x.toW fun r w' => r = .returned (.bool (sameE ⟨1, asn, rank, 0, []⟩ ⟨1, asn, rank, t, l⟩)) ∧ Below x.toW.heap.size x.toW w' :=
    fun x => sameE_any ⟨1, asn, rank, 0, []⟩ ⟨1, asn, rank, t, l⟩ none 0 a c x.toW (El.At.none _ _ _ _ _) (h1.below x.ok)
  obtain ⟨e, he⟩ : ∃ e, s1B asn rank = e := ⟨_, rfl⟩
  obtain ⟨q, hq⟩ : ∃ q, sameE ⟨1, asn, rank, 0, []⟩ ⟨1, asn, rank, t, l⟩ = q := ⟨_, rfl⟩
  have HM : Hid (mayE ⟨1, asn, rank, t, l⟩ = (e && q)) := Lib.hid (by rw [← he, ← hq]; rfl)
  rw [he] at F
  rw [hq] at S
  have FF := Lib.hid F
  have GG := Lib.hid G
  have SS := Lib.hid S
  clear F G S c0 c1 c2 c3 c4 h h1 o1 he hq
  unfold v1 at *
  cases e
  · refine wp_region_ext w1 (by kernel_rfl) (by kernel_rfl) (Below.refl _ _) ?_
    repeat (go_big_quiet_step (first | (go_at_call 89; with_reducible exact ext_below _ (u := .bool false) (FF.out _))))
    refine wpQuiet_nil ?_
    rintro w9 ⟨x9, rfl⟩
    go_wp2_with fail
    go_ret2
    exact ⟨by rw [HM.out]; rfl, b0.trans (x9.ok.mono hsz)⟩
  · refine wp_region_ext w1 (by kernel_rfl) (by kernel_rfl) (Below.refl _ _) ?_
    repeat (go_big_quiet_step (first
      | (go_at_call 89; with_reducible exact ext_below _ (u := .bool true) (FF.out _))
      | (go_at_call 66; with_reducible exact ext_below _ (u := .agg #[.int .i64 1, .int .i64 asn, .int .i64 rank, .int .i64 0, .slice none 0 0]) (GG.out _))
      | (go_at_call 34; with_reducible exact ext_below _ (u := .bool q) (SS.out _))))
    refine wpQuiet_nil ?_
    rintro w9 ⟨x9, rfl⟩
    go_wp2_with fail
    go_ret2
    exact ⟨by rw [HM.out]; rfl, b0.trans (x9.ok.mono hsz)⟩
set_option maxHeartbeats 2000000 in
theorem from2 (asn rank t : Int) (l : List Int) (a : Option Addr) (c : Nat) (w : World) (h : (⟨2, asn, rank, t, l⟩ : El).At w a c) :
    Calls Try.prog 51 #[.agg #[.int .i64 2, .int .i64 asn, .int .i64 rank, .int .i64 t, .slice a l.length c]] w fun r w' => r = .returned (.tuple #[v2 t, .bool (mayE ⟨2, asn, rank, t, l⟩)]) ∧ Below w.heap.size w w' := by
  have o1 := Own.new w 52 #[.int .i64 2, .int .i64 asn, .int .i64 rank, .int .i64 t, .slice a l.length c]
  have b0 := (Below.refl w.heap.size w).alloc (Nat.le_refl _) (.cells #[.int .i64 2, .int .i64 asn, .int .i64 rank, .int .i64 t, .slice a l.length c] 52)
  have h1 := h.below b0
  have hsz : w.heap.size ≤ (w.alloc (.cells #[.int .i64 2, .int .i64 asn, .int .i64 rank, .int .i64 t, .slice a l.length c] 52)).heap.size := by simp
  go_enter Try.func51, Try.ntmps51
  go_upto_region 2 with (fail)
  generalize w.alloc (.cells #[.int .i64 2, .int .i64 asn, .int .i64 rank, .int .i64 t, .slice a l.length c] 52) = w1 at *
  have c0 := o1.cell 0
  have c1 := o1.cell 1
  have c2 := o1.cell 2
  have c3 := o1.cell 3
  have c4 := o1.cell 4
  simp at c0 c1 c2 c3 c4
  go_upto_region 12 with (fail)
  have x0 : ∀ x : Ext w1, x.toW.cell? ⟨w.heap.size, 0, none⟩ = some (.int .i64 2) := fun x => keep_cell x.ok (o1.cell 0)
  have x1 : ∀ x : Ext w1, x.toW.cell? ⟨w.heap.size, 1, none⟩ = some (.int .i64 asn) := fun x => keep_cell x.ok (o1.cell 1)
  have x2 : ∀ x : Ext w1, x.toW.cell? ⟨w.heap.size, 2, none⟩ = some (.int .i64 rank) := fun x => keep_cell x.ok (o1.cell 2)
  have x3 : ∀ x : Ext w1, x.toW.cell? ⟨w.heap.size, 3, none⟩ = some (.int .i64 t) := fun x => keep_cell x.ok (o1.cell 3)
  have x4 : ∀ x : Ext w1, x.toW.cell? ⟨w.heap.size, 4, none⟩ = some (.slice a l.length c) := fun x => keep_cell x.ok (o1.cell 4)
  have hm := fun k v (x : Ext w1) => meth2 k v x.toW
  have F : ∀ x : Ext w1, Calls Try.prog 91 #[.agg #[.int .i64 t]] x.toW fun r w' => r = .returned (.bool (s2B t)) ∧ Below x.toW.heap.size x.toW w' := fun x => fits2 t x.toW
  have G : ∀ x : Ext w1, Calls Try.prog 66 #[.iface 98 (.agg #[.int .i64 t])] x.toW fun r w' => r = .returned (.agg #[.int .i64 2, .int .i64 0, .int .i64 0, .int .i64 t, .slice none 0 0]) ∧ Below x.toW.heap.size x.toW w' := fun x => plain2 t x.toW
  have S : ∀ x : Ext w1, Calls Try.prog 34 #[.agg #[.int .i64 2, .int .i64 0, .int .i64 0, .int .i64 t, .slice none 0 0], .agg #[.int .i64 2, .int .i64 asn, .int .i64 rank, .int .i64 t, .slice a l.length c]] x.toW fun r w' => r = .returned (.bool (sameE ⟨2, 0, 0, t, []⟩ ⟨2, asn, rank, t, l⟩)) ∧ Below x.toW.heap.size x.toW w' :=
    fun x => sameE_any ⟨2, 0, 0, t, []⟩ ⟨2, asn, rank, t, l⟩ none 0 a c x.toW (El.At.none _ _ _ _ _) (h1.below x.ok)
  obtain ⟨e, he⟩ : ∃ e, s2B t = e := ⟨_, rfl⟩
  obtain ⟨q, hq⟩ : ∃ q, sameE ⟨2, 0, 0, t, []⟩ ⟨2, asn, rank, t, l⟩ = q := ⟨_, rfl⟩
  have HM : Hid (mayE ⟨2, asn, rank, t, l⟩ = (e && q)) := Lib.hid (by rw [← he, ← hq]; rfl)
  rw [he] at F
  rw [hq] at S
  have FF := Lib.hid F
  have GG := Lib.hid G
  have SS := Lib.hid S
  clear F G S c0 c1 c2 c3 c4 h h1 o1 he hq
  unfold v2 at *
  cases e
  · refine wp_region_ext w1 (by kernel_rfl) (by kernel_rfl) (Below.refl _ _) ?_
    repeat (go_big_quiet_step (first | (go_at_call 91; with_reducible exact ext_below _ (u := .bool false) (FF.out _))))
    refine wpQuiet_nil ?_
    rintro w9 ⟨x9, rfl⟩
    go_wp2_with fail
    go_ret2
    exact ⟨by rw [HM.out]; rfl, b0.trans (x9.ok.mono hsz)⟩
  · refine wp_region_ext w1 (by kernel_rfl) (by kernel_rfl) (Below.refl _ _) ?_
    repeat (go_big_quiet_step (first
      | (go_at_call 91; with_reducible exact ext_below _ (u := .bool true) (FF.out _))
      | (go_at_call 66; with_reducible exact ext_below _ (u := .agg #[.int .i64 2, .int .i64 0, .int .i64 0, .int .i64 t, .slice none 0 0]) (GG.out _))
      | (go_at_call 34; with_reducible exact ext_below _ (u := .bool q) (SS.out _))))
    refine wpQuiet_nil ?_
    rintro w9 ⟨x9, rfl⟩
    go_wp2_with fail
    go_ret2
    exact ⟨by rw [HM.out]; rfl, b0.trans (x9.ok.mono hsz)⟩
set_option maxHeartbeats 2000000 in
theorem from3 (asn rank t : Int) (l : List Int) (a : Option Addr) (c : Nat) (w : World) (h : (⟨3, asn, rank, t, l⟩ : El).At w a c) :
    Calls Try.prog 51 #[.agg #[.int .i64 3, .int .i64 asn, .int .i64 rank, .int .i64 t, .slice a l.length c]] w fun r w' => r = .returned (.tuple #[v3 (.slice a l.length c), .bool (mayE ⟨3, asn, rank, t, l⟩)]) ∧ Below w.heap.size w w' := by
  have o1 := Own.new w 52 #[.int .i64 3, .int .i64 asn, .int .i64 rank, .int .i64 t, .slice a l.length c]
  have b0 := (Below.refl w.heap.size w).alloc (Nat.le_refl _) (.cells #[.int .i64 3, .int .i64 asn, .int .i64 rank, .int .i64 t, .slice a l.length c] 52)
  have h1 := h.below b0
  have hsz : w.heap.size ≤ (w.alloc (.cells #[.int .i64 3, .int .i64 asn, .int .i64 rank, .int .i64 t, .slice a l.length c] 52)).heap.size := by simp
  go_enter Try.func51, Try.ntmps51
  go_upto_region 2 with (fail)
  generalize w.alloc (.cells #[.int .i64 3, .int .i64 asn, .int .i64 rank, .int .i64 t, .slice a l.length c] 52) = w1 at *
  have c0 := o1.cell 0
  have c1 := o1.cell 1
  have c2 := o1.cell 2
  have c3 := o1.cell 3
  have c4 := o1.cell 4
  simp at c0 c1 c2 c3 c4
  go_upto_region 12 with (fail)
  have x0 : ∀ x : Ext w1, x.toW.cell? ⟨w.heap.size, 0, none⟩ = some (.int .i64 3) := fun x => keep_cell x.ok (o1.cell 0)
  have x1 : ∀ x : Ext w1, x.toW.cell? ⟨w.heap.size, 1, none⟩ = some (.int .i64 asn) := fun x => keep_cell x.ok (o1.cell 1)
  have x2 : ∀ x : Ext w1, x.toW.cell? ⟨w.heap.size, 2, none⟩ = some (.int .i64 rank) := fun x => keep_cell x.ok (o1.cell 2)
  have x3 : ∀ x : Ext w1, x.toW.cell? ⟨w.heap.size, 3, none⟩ = some (.int .i64 t) := fun x => keep_cell x.ok (o1.cell 3)
  have x4 : ∀ x : Ext w1, x.toW.cell? ⟨w.heap.size, 4, none⟩ = some (.slice a l.length c) := fun x => keep_cell x.ok (o1.cell 4)
  have hm := fun k v (x : Ext w1) => meth3 k v x.toW
  have F : ∀ x : Ext w1, Calls Try.prog 92 #[.agg #[.slice a l.length c]] x.toW fun r w' => r = .returned (.bool (listB l)) ∧ Below x.toW.heap.size x.toW w' := fun x => fits3 a c l x.toW h1.lc h1.cm (h1.row.below x.ok)
  have G : ∀ x : Ext w1, Calls Try.prog 66 #[.iface 100 (.agg #[.slice a l.length c])] x.toW fun r w' => r = .returned (.agg #[.int .i64 3, .int .i64 0, .int .i64 0, .int .i64 0, .slice a l.length c]) ∧ Below x.toW.heap.size x.toW w' := fun x => plain3 a l.length c x.toW
  have S : ∀ x : Ext w1, Calls Try.prog 34 #[.agg #[.int .i64 3, .int .i64 0, .int .i64 0, .int .i64 0, .slice a l.length c], .agg #[.int .i64 3, .int .i64 asn, .int .i64 rank, .int .i64 t, .slice a l.length c]] x.toW fun r w' => r = .returned (.bool (sameE ⟨3, 0, 0, 0, l⟩ ⟨3, asn, rank, t, l⟩)) ∧ Below x.toW.heap.size x.toW w' :=
    fun x => sameE_any ⟨3, 0, 0, 0, l⟩ ⟨3, asn, rank, t, l⟩ a c a c x.toW (⟨h1.lc, h1.cm, h1.row.below x.ok, h1.nil⟩) (h1.below x.ok)
  obtain ⟨e, he⟩ : ∃ e, listB l = e := ⟨_, rfl⟩
  obtain ⟨q, hq⟩ : ∃ q, sameE ⟨3, 0, 0, 0, l⟩ ⟨3, asn, rank, t, l⟩ = q := ⟨_, rfl⟩
  have HM : Hid (mayE ⟨3, asn, rank, t, l⟩ = (e && q)) := Lib.hid (by rw [← he, ← hq]; rfl)
  rw [he] at F
  rw [hq] at S
  have FF := Lib.hid F
  have GG := Lib.hid G
  have SS := Lib.hid S
  clear F G S c0 c1 c2 c3 c4 h h1 o1 he hq
  unfold v3 at *
  cases e
  · refine wp_region_ext w1 (by kernel_rfl) (by kernel_rfl) (Below.refl _ _) ?_
    repeat (go_big_quiet_step (first | (go_at_call 92; with_reducible exact ext_below _ (u := .bool false) (FF.out _))))
    refine wpQuiet_nil ?_
    rintro w9 ⟨x9, rfl⟩
    go_wp2_with fail
    go_ret2
    exact ⟨by rw [HM.out]; rfl, b0.trans (x9.ok.mono hsz)⟩
  · refine wp_region_ext w1 (by kernel_rfl) (by kernel_rfl) (Below.refl _ _) ?_
    repeat (go_big_quiet_step (first
      | (go_at_call 92; with_reducible exact ext_below _ (u := .bool true) (FF.out _))
      | (go_at_call 66; with_reducible exact ext_below _ (u := .agg #[.int .i64 3, .int .i64 0, .int .i64 0, .int .i64 0, .slice a l.length c]) (GG.out _))
      | (go_at_call 34; with_reducible exact ext_below _ (u := .bool q) (SS.out _))))
    refine wpQuiet_nil ?_
    rintro w9 ⟨x9, rfl⟩
    go_wp2_with fail
    go_ret2
    exact ⟨by rw [HM.out]; rfl, b0.trans (x9.ok.mono hsz)⟩
set_option maxHeartbeats 2000000 in
theorem from4 (asn rank t : Int) (l : List Int) (a : Option Addr) (c : Nat) (w : World) (h : (⟨4, asn, rank, t, l⟩ : El).At w a c) :
    Calls Try.prog 51 #[.agg #[.int .i64 4, .int .i64 asn, .int .i64 rank, .int .i64 t, .slice a l.length c]] w fun r w' => r = .returned (.tuple #[v4 (.slice a l.length c), .bool (mayE ⟨4, asn, rank, t, l⟩)]) ∧ Below w.heap.size w w' := by
  have o1 := Own.new w 52 #[.int .i64 4, .int .i64 asn, .int .i64 rank, .int .i64 t, .slice a l.length c]
  have b0 := (Below.refl w.heap.size w).alloc (Nat.le_refl _) (.cells #[.int .i64 4, .int .i64 asn, .int .i64 rank, .int .i64 t, .slice a l.length c] 52)
  have h1 := h.below b0
  have hsz : w.heap.size ≤ (w.alloc (.cells #[.int .i64 4, .int .i64 asn, .int .i64 rank, .int .i64 t, .slice a l.length c] 52)).heap.size := by simp
  go_enter Try.func51, Try.ntmps51
  go_upto_region 2 with (fail)
  generalize w.alloc (.cells #[.int .i64 4, .int .i64 asn, .int .i64 rank, .int .i64 t, .slice a l.length c] 52) = w1 at *
  have c0 := o1.cell 0
  have c1 := o1.cell 1
  have c2 := o1.cell 2
  have c3 := o1.cell 3
  have c4 := o1.cell 4
  simp at c0 c1 c2 c3 c4
  go_upto_region 12 with (fail)
  have x0 : ∀ x : Ext w1, x.toW.cell? ⟨w.heap.size, 0, none⟩ = some (.int .i64 4) := fun x => keep_cell x.ok (o1.cell 0)
  have x1 : ∀ x : Ext w1, x.toW.cell? ⟨w.heap.size, 1, none⟩ = some (.int .i64 asn) := fun x => keep_cell x.ok (o1.cell 1)
  have x2 : ∀ x : Ext w1, x.toW.cell? ⟨w.heap.size, 2, none⟩ = some (.int .i64 rank) := fun x => keep_cell x.ok (o1.cell 2)
  have x3 : ∀ x : Ext w1, x.toW.cell? ⟨w.heap.size, 3, none⟩ = some (.int .i64 t) := fun x => keep_cell x.ok (o1.cell 3)
  have x4 : ∀ x : Ext w1, x.toW.cell? ⟨w.heap.size, 4, none⟩ = some (.slice a l.length c) := fun x => keep_cell x.ok (o1.cell 4)
  have hm := fun k v (x : Ext w1) => meth4 k v x.toW
  have F : ∀ x : Ext w1, Calls Try.prog 94 #[.agg #[.slice a l.length c]] x.toW fun r w' => r = .returned (.bool (listB l)) ∧ Below x.toW.heap.size x.toW w' := fun x => fits4 a c l x.toW h1.lc h1.cm (h1.row.below x.ok)
  have G : ∀ x : Ext w1, Calls Try.prog 66 #[.iface 101 (.agg #[.slice a l.length c])] x.toW fun r w' => r = .returned (.agg #[.int .i64 4, .int .i64 0, .int .i64 0, .int .i64 0, .slice a l.length c]) ∧ Below x.toW.heap.size x.toW w' := fun x => plain4 a l.length c x.toW
  have S : ∀ x : Ext w1, Calls Try.prog 34 #[.agg #[.int .i64 4, .int .i64 0, .int .i64 0, .int .i64 0, .slice a l.length c], .agg #[.int .i64 4, .int .i64 asn, .int .i64 rank, .int .i64 t, .slice a l.length c]] x.toW fun r w' => r = .returned (.bool (sameE ⟨4, 0, 0, 0, l⟩ ⟨4, asn, rank, t, l⟩)) ∧ Below x.toW.heap.size x.toW w' :=
    fun x => sameE_any ⟨4, 0, 0, 0, l⟩ ⟨4, asn, rank, t, l⟩ a c a c x.toW (⟨h1.lc, h1.cm, h1.row.below x.ok, h1.nil⟩) (h1.below x.ok)
  obtain ⟨e, he⟩ : ∃ e, listB l = e := ⟨_, rfl⟩
  obtain ⟨q, hq⟩ : ∃ q, sameE ⟨4, 0, 0, 0, l⟩ ⟨4, asn, rank, t, l⟩ = q := ⟨_, rfl⟩
  have HM : Hid (mayE ⟨4, asn, rank, t, l⟩ = (e && q)) := Lib.hid (by rw [← he, ← hq]; rfl)
  rw [he] at F
  rw [hq] at S
  have FF := Lib.hid F
  have GG := Lib.hid G
  have SS := Lib.hid S
  clear F G S c0 c1 c2 c3 c4 h h1 o1 he hq
  unfold v4 at *
  cases e
  · refine wp_region_ext w1 (by kernel_rfl) (by kernel_rfl) (Below.refl _ _) ?_
    repeat (go_big_quiet_step (first | (go_at_call 94; with_reducible exact ext_below _ (u := .bool false) (FF.out _))))
    refine wpQuiet_nil ?_
    rintro w9 ⟨x9, rfl⟩
    go_wp2_with fail
    go_ret2
    exact ⟨by rw [HM.out]; rfl, b0.trans (x9.ok.mono hsz)⟩
  · refine wp_region_ext w1 (by kernel_rfl) (by kernel_rfl) (Below.refl _ _) ?_
    repeat (go_big_quiet_step (first
      | (go_at_call 94; with_reducible exact ext_below _ (u := .bool true) (FF.out _))
      | (go_at_call 66; with_reducible exact ext_below _ (u := .agg #[.int .i64 4, .int .i64 0, .int .i64 0, .int .i64 0, .slice a l.length c]) (GG.out _))
      | (go_at_call 34; with_reducible exact ext_below _ (u := .bool q) (SS.out _))))
    refine wpQuiet_nil ?_
    rintro w9 ⟨x9, rfl⟩
    go_wp2_with fail
    go_ret2
    exact ⟨by rw [HM.out]; rfl, b0.trans (x9.ok.mono hsz)⟩
set_option maxHeartbeats 2000000 in
theorem from0 (k asn rank t : Int) (v : Value) (w : World) (h1 : k ≠ 1) (h2 : k ≠ 2) (h3 : k ≠ 3) (h4 : k ≠ 4) :
    Calls Try.prog 51 #[.agg #[.int .i64 k, .int .i64 asn, .int .i64 rank, .int .i64 t, v]] w fun r w' => r = .returned (.tuple #[.nilIface, .bool false]) ∧ Below w.heap.size w w' := by
  have b0 := (Below.refl w.heap.size w).alloc (Nat.le_refl _) (.cells #[.int .i64 k, .int .i64 asn, .int .i64 rank, .int .i64 t, v] 52)
  have g1 : (k == 1) = false := by simpa using h1
  have g2 : (k == 2) = false := by simpa using h2
  have g3 : (k == 3) = false := by simpa using h3
  have g4 : (k == 4) = false := by simpa using h4
  clear h1 h2 h3 h4
  go_enter Try.func51, Try.ntmps51
  go_wp2_with fail
  go_ret2
  exact ⟨rfl, b0⟩
/-- What from tells. -/
def fromV (e : El) (a : Option Addr) (c : Nat) : Value := if e.k = 1 then v1 e.asn e.rank else if e.k = 2 then v2 e.ticks else if e.k = 3 then v3 (.slice a e.list.length c) else if e.k = 4 then v4 (.slice a e.list.length c) else .nilIface
theorem from_any (e : El) (a : Option Addr) (c : Nat) (w : World) (h : e.At w a c) :
    Calls Try.prog 51 #[.agg (e.vals a c)] w fun r w' => r = .returned (.tuple #[fromV e a c, .bool (mayE e)]) ∧ Below w.heap.size w w' := by
  obtain ⟨k, asn, rank, t, l⟩ := e
  by_cases k1 : k = 1
  · subst k1; exact from1 asn rank t l a c w h
  by_cases k2 : k = 2
  · subst k2; exact from2 asn rank t l a c w h
  by_cases k3 : k = 3
  · subst k3; exact from3 asn rank t l a c w h
  by_cases k4 : k = 4
  · subst k4; exact from4 asn rank t l a c w h
  have e1 : fromV ⟨k, asn, rank, t, l⟩ a c = .nilIface := by unfold fromV; simp [k1, k2, k3, k4]
  have e2 : mayE ⟨k, asn, rank, t, l⟩ = false := by unfold mayE fitB; simp [k1, k2, k3, k4]
  rw [e1, e2]
  exact from0 k asn rank t _ w k1 k2 k3 k4
theorem may_any (e : El) (a : Option Addr) (c : Nat) (w : World) (h : e.At w a c) :
    Calls Try.prog 56 #[.agg (e.vals a c)] w fun r w' => r = .returned (.bool (mayE e)) ∧ Below w.heap.size w w' := by
  have o1 := Own.new w 52 (e.vals a c)
  have b0 := (Below.refl w.heap.size w).alloc (Nat.le_refl _) (.cells (e.vals a c) 52)
  have h1 := h.below b0
  have hsz : w.heap.size ≤ (w.alloc (.cells (e.vals a c) 52)).heap.size := by simp
  have hf := from_any e a c _ h1
  have HF := Lib.hid hf
  clear hf
  obtain ⟨k, asn, rank, t, l⟩ := e
  obtain ⟨q, hq⟩ : ∃ q, mayE ⟨k, asn, rank, t, l⟩ = q := ⟨_, rfl⟩
  rw [hq] at HF ⊢
  obtain ⟨u, hu⟩ : ∃ u, fromV ⟨k, asn, rank, t, l⟩ a c = u := ⟨_, rfl⟩
  rw [hu] at HF
  unfold El.vals at *
  simp only at *
  go_enter Try.func56, Try.ntmps56
  go_wp2_with (refine HF.out.mono ?_; rintro r w' ⟨rfl, b1⟩)
  go_ret
  exact ⟨rfl, b0.trans (b1.mono hsz)⟩
end Go.Proofs.Ytoconkgemakboaa.Ie
