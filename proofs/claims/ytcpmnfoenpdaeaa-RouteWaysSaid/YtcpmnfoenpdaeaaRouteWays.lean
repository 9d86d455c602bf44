/-
  Law RouteWays: up a way and down the way back a packet comes to where it began, each hop taking one of its life, and not one hop farther; the call returns true. No condition.
-/
import Derived.Test.YtcpmnfoenpdaeaaRtWayM
import Derived.Test.YtcpmnfoenpdaeaaRtDraw
import Derived.Deep.RegionLaw
import Derived.BigRegion
set_option maxRecDepth 100000
namespace Go.Proofs.Ytcpmnfoenpdaeaa.RouteWays
set_option linter.unusedVariables false
open Go.RowKit Go.ChangeShapes Go.WideShapes Go.ChangeAt Go.Deep Lb Rt
set_option linter.unusedVariables false
theorem own : ownKnob Try.prog.godebug = none := by kernel_rfl
theorem laidOut : laidOutB Try.prog = true := by kernel_rfl
/-- What the walk needs of the way and the bytes, in a later world. -/
structure Ar (w w' : World) (l dl : List Int) (a : Option Addr) (c : Nat) (b : Option Addr) (d : Nat) : Prop where
  row : Row w' a l.length (zval l)
  bytes : Row w' b dl.length (bval dl)
  lc : l.length ≤ c
  cm : c ≤ maxLen
  dc : dl.length ≤ d
  dm : d ≤ maxLen
  bb : Below w.heap.size w w'
theorem Ar.below {w w' w'' : World} {l dl : List Int} {a : Option Addr} {c : Nat} {b : Option Addr} {d : Nat} (h : Ar w w' l dl a c b d) (j : Below w'.heap.size w' w'') : Ar w w'' l dl a c b d :=
  ⟨h.row.below j, h.bytes.below j, h.lc, h.cm, h.dc, h.dm, h.bb.trans (j.mono h.bb.size)⟩
/-- The packet on its way up, where it lies. -/
def Pst (w wx : World) (l dl : List Int) (n life : Int) (j : Nat) (s : Value) : Prop :=
  ∃ g a c b d, s = .pointer (some ⟨g, 0, none⟩) ∧ w.heap.size ≤ g ∧ Lb.Own wx g 25 ((upP l dl n life j).vals a c b d) ∧ (upP l dl n life j).At wx a c b d ∧ Below w.heap.size w wx
theorem pst0 {w wx : World} {l dl : List Int} {n life x : Int} {m kd g h c d : Nat} {a b : Option Addr} (hA : Ar w w l dl a c b d) (hm : l.length = m) (hk : dl.length = kd) (hx : l.getD 0 0 = x) (hw : Rt.Way l dl n life)
    (h1 : Lb.Own wx h 3 #[.int .i64 x]) (h2 : Lb.Own wx g 25 #[.int .i64 x, .int .i64 0, .int .i64 n, .int .i64 life, .slice (some ⟨h, 0, none⟩) 1 1, .slice b kd d]) (hb : Below w.heap.size w wx) (hg : w.heap.size ≤ g) :
    Pst w (wx.drewN 1) l dl n life 0 (.pointer (some ⟨g, 0, none⟩)) := by
  have hl1 : (l.take 1).length = 1 := Rt.take_len (by have := hw.two; omega)
  refine ⟨g, some ⟨h, 0, none⟩, 1, b, d, rfl, hg, ?_, ⟨?_, ?_, ?_, ?_, hA.dc, hA.dm, (hA.bytes.below hb).drewN 1, ?_⟩, below_drewN hb 1⟩
  · refine Own.drewN ?_ 1
    unfold Pk.vals upP
    simp only [Nat.zero_add]
    rw [hl1, hx, hk, show life - ((0 : Nat) : Int) = life by omega]
    exact h2
  · show (l.take 1).length ≤ 1
    omega
  · unfold maxLen; omega
  · show Row _ _ (l.take 1).length (zval (l.take 1))
    rw [hl1]
    refine Row.drewN (Row.own h1 (fun i hi => ?_)) 1
    obtain rfl : i = 0 := by omega
    unfold zval
    rw [take_getD (by omega), hx]
    rfl
  · intro e; cases e
  · exact row_none hA.bytes
theorem own_at {w : World} {t : TypeId} {cs : Array Value} {G : Nat} (h : G = w.heap.size) : Lb.Own (w.alloc (.cells cs t)) G t cs := h ▸ Own.new w t cs
theorem own_dr {w : World} {b : Nat} {t : TypeId} {cs : Array Value} (h : Lb.Own w b t cs) : Lb.Own w.drew b t cs := h
theorem own_al {w : World} {b : Nat} {t : TypeId} {cs : Array Value} {o : Obj} (h : Lb.Own w b t cs) : Lb.Own (w.alloc o) b t cs := h.alloc o
theorem bel_dr (w : World) : Below w.heap.size w w.drew := below_drewN (Below.refl _ _) 1
theorem bel_drr {w w' : World} (h : Below w.heap.size w w') : Below w.heap.size w w'.drew := below_drewN h 1
theorem bel_al {w w' : World} (h : Below w.heap.size w w') (o : Obj) : Below w.heap.size w (w'.alloc o) := h.alloc h.size o
theorem bel_two {w W w' : World} (h : Below w.heap.size w W) (j : Below W.heap.size W w') : Below w.heap.size w w' := h.trans (j.mono h.size)
theorem keep_two {w w' : World} {p q : Addr} {u v : Value} (h : Below w.heap.size w w') (h1 : w.cell? p = some u) (h2 : w.cell? q = some v) : (w'.cell? p = some u ∧ w'.cell? q = some v) ∧ Below w.heap.size w w' := ⟨⟨keep_cell h h1, keep_cell h h2⟩, h⟩
theorem mine_zero {w : World} {base B : Nat} (h : Lb.Own w B 3 #[.int .i64 0]) (hb : base ≤ B) : Mine w base 3 (.slice (some ⟨B, 0, none⟩) 1 1) 1 (zval [0]) := by
  have h1 : ∀ i, i < 1 → (#[Value.int .i64 0] : Array Value)[i]? = some (zval [0] i) := fun i hi => by
    obtain rfl : i = 0 := by omega
    rfl
  exact Mine.made h hb (by decide) (by decide) h1
/-- The packet on its way down, where it lies. -/
def Qst (w wx : World) (l dl : List Int) (n : Int) (k : Int) (s : Value) : Prop :=
  ∃ g a c b d, s = .pointer (some ⟨g, 0, none⟩) ∧ w.heap.size ≤ g ∧ Lb.Own wx g 25 ((dnP l dl n k).vals a c b d) ∧ (∀ w', Just g wx w' → (dnP l dl n k).At w' a c b d) ∧ Below w.heap.size w wx
theorem dst {wr wx : World} {l dl : List Int} {n x : Int} {m m1 kd G n6 d : Nat} {a6 b : Option Addr} (hm : l.length = m) (hmm : l.length = m1 + 1) (hk : dl.length = kd) (hx : l.getD 0 0 = x)
    (z : Lb.Own wx G 25 #[.int .i64 0, .int .i64 x, .int .i64 n, .int .i64 (m : Int), .slice a6 (1 + (m1 + 1)) n6, .slice b kd d])
    (m6 : Mine wx wr.heap.size 3 (.slice a6 (1 + (m1 + 1)) n6) (1 + (m1 + 1)) (fun i => if i < 1 then zval [0] i else zval l.reverse (i - 1)))
    (hdl : Row wr b dl.length (bval dl)) (h1 : dl.length ≤ d) (h2 : d ≤ maxLen) (hb : Below wr.heap.size wr wx) (hG : wr.heap.size ≤ G) : Qst wr wx l dl n (m : Int) (.pointer (some ⟨G, 0, none⟩)) := by
  have hl : (dnL l).length = 1 + (m1 + 1) := by rw [dn_len]; omega
  have m7 : Mine wx wr.heap.size 3 (.slice a6 (1 + (m1 + 1)) n6) (1 + (m1 + 1)) (zval (dnL l)) := m6.ext (fun i hi => by
    cases i with
    | zero => rfl
    | succ i => rw [if_neg (by omega)]; rfl)
  refine ⟨G, a6, n6, b, d, rfl, hG, ?_, fun w' J => ?_, hb⟩
  · unfold Pk.vals dnP
    simp only
    rw [hl, hx, hk]
    exact z
  · have m8 : Mine w' wr.heap.size 3 (.slice a6 (1 + (m1 + 1)) n6) (1 + (m1 + 1)) (zval (dnL l)) := m7.kept (fun q hq => by
      by_cases e : q = G
      · exact .inr (by rw [e]; exact mine_not m7 z (by decide))
      · by_cases hl : q < wx.heap.size
        · exact .inl (J.block q hl e)
        · exact .inr (fun e2 => hl (m7.lt q e2).2))
    obtain ⟨a7, c7, e7, hn7, hx7, hR7⟩ := m8.row
    injection e7 with e7 _ e8
    subst e7 e8
    rw [← hl] at hR7
    refine ⟨?_, hx7, hR7, row_none hR7, h1, h2, hdl.below (J.below hb hG hb.size), row_none hdl⟩
    show (dnL l).length ≤ n6
    rw [hl]; exact hn7
theorem just_of {B h : Nat} {w w' : World} (b : Below B w w') (hB : B = w.heap.size) : Just h w w' := ⟨b.os, b.tape, b.output, b.size, fun k hk _ => b.block k (by omega)⟩
theorem dn_vals {l dl : List Int} {n x : Int} {m kd : Nat} (hm : l.length = m) (hk : dl.length = kd) (hx : l.getD 0 0 = x) (k0 : Int) (a : Option Addr) (c : Nat) (b : Option Addr) (d : Nat) :
    (dnP l dl n k0).vals a c b d = #[.int .i64 0, .int .i64 x, .int .i64 n, .int .i64 k0, .slice a (m + 1) c, .slice b kd d] := by
  unfold Pk.vals dnP
  simp only
  rw [dn_len, hm, hx, hk]
theorem dn_end {l : List Int} {x : Int} (h : 1 ≤ l.length) (hx : l.getD 0 0 = x) : (dnL l).getD l.length 0 = x := by
  have := dn_at (l := l) (k := l.length - 1) (by omega)
  rw [show l.length - 1 + 1 = l.length by omega, show l.length - 1 - (l.length - 1) = 0 by omega, hx] at this
  exact this
theorem mine_row {w : World} {base G n : Nat} {v : Value} {V : Nat → Value} {cur : Array Value} (h : Mine w base 3 v n V) (z : Lb.Own w G 25 cur) (cs : Array Value) : Mine (w.setRow G cs) base 3 v n V :=
  h.kept (fun b hb => by
    by_cases e : b = G
    · exact .inr (by rw [e]; exact mine_not h z (by decide))
    · by_cases hl : b < w.heap.size
      · exact .inl ((Just.setRow G w cs).block b hl e)
      · exact .inr (fun e2 => hl (h.lt b e2).2))
theorem bel_row {w w' : World} {G : Nat} (h : Below w.heap.size w w') (hG : w.heap.size ≤ G) (cs : Array Value) : Below w.heap.size w (w'.setRow G cs) := (Just.setRow G w' cs).below h hG h.size
theorem step_app2 {P : Program} {w : World} {ops : Array Oper} {o : Oper} {a : Act} {K : Act → World → Prop} {Q : Exit → Act → World → Prop} {E : Prop} (hgd : o.guard = none) (s x : Operand) (t : TypeId)
    (ho : o.op = .call { callee := .builtin .append, args := #[s, x], argTypes := #[t, t] })
    (base : Nat) (e : TypeId) (i : TypeInfo) (z : Value) (bytes : Nat) (ht : P.underlying t = some (.slice e)) (hi : P.info? e = some i) (hz : i.zero = some z)
    (hsize : i.size = 1) (hby : i.bytes = bytes) (hzs : z.cells.size = 1)
    (v : Value) (n : Nat) (V : Nat → Value) (hs : a.eval s = v) (hown : Mine w base e v n V)
    (A : Option Addr) (m c : Nat) (U : Nat → Value) (hx : a.eval x = .slice A m c) (hr : Row w A m U) (h1 : ∀ i, i < m → (U i).oneCell' = true)
    (h63 : n + m ≤ maxLen) (hbytes : (n + m) * bytes ≤ 140737488355328) (hbase : base ≤ w.heap.size)
    (h : Mine w base e v n V → ∀ v' w', Mine w' base e v' (n + m) (fun i => if i < n then V i else U (i - n)) → w.grownBy w' v.ownBlock → (v'.ownBlock = v.ownBlock ∨ v'.ownBlock = some w.heap.size) → K (a.put o.dst v') w') :
    if Region.wanted o (yielded ops a.tmps) = true then Oper.wp P o a w K Q else E :=
  step_app hgd s x t ho base e i z bytes ht hi hz hsize hby hzs v n V hs hown A m c U hx hr h1 h63 hbytes hbase (h hown)
theorem cells_dn (x n m : Int) (a6 : Option Addr) (k n6 : Nat) (b : Option Addr) (kd d : Nat) : (#[Value.int .i64 0, .int .i64 x, .int .i64 n, .int .i64 m, .slice a6 k n6, .slice b kd d]).all (·.oneCell') = true := by
  rw [Array.all_eq_true]
  intro i hi
  have h6 : i < 6 := hi
  match i, h6 with
  | 0, _ => rfl
  | 1, _ => rfl
  | 2, _ => rfl
  | 3, _ => rfl
  | 4, _ => rfl
  | 5, _ => rfl
theorem at_app {P : Program} {w : World} {ops : Array Oper} {a : Act} {K : Act → World → Prop} {Q : Exit → Act → World → Prop} {E : Prop} {s x : Operand} {t t' : TypeId} {d ty pos af g}
    (h : if Region.wanted (Oper.mk d (.call { callee := .builtin .append, args := #[s, x], argTypes := #[t, t'] }) ty pos af g) (yielded ops a.tmps) = true then Oper.wp P (Oper.mk d (.call { callee := .builtin .append, args := #[s, x], argTypes := #[t, t'] }) ty pos af g) a w K Q else E) :
    if Region.wanted (Oper.mk d (.call { callee := .builtin .append, args := #[s, x], argTypes := #[t, t'] }) ty pos af g) (yielded ops a.tmps) = true then Oper.wp P (Oper.mk d (.call { callee := .builtin .append, args := #[s, x], argTypes := #[t, t'] }) ty pos af g) a w K Q else E := h
theorem mine_just {w w' : World} {base G n : Nat} {v : Value} {V : Nat → Value} {cur : Array Value} (h : Mine w base 3 v n V) (z : Lb.Own w G 25 cur) (J : Just G w w') : Mine w' base 3 v n V :=
  h.kept (fun q hq => by
    by_cases e : q = G
    · exact .inr (by rw [e]; exact mine_not h z (by decide))
    · by_cases hl : q < w.heap.size
      · exact .inl (J.block q hl e)
      · exact .inr (fun e2 => hl (h.lt q e2).2))
theorem dst6 {wr w6 : World} {l dl : List Int} {n x : Int} {m m1 kd G n6 d : Nat} {a6 b : Option Addr} (hm : l.length = m) (hmm : l.length = m1 + 1) (hk : dl.length = kd) (hx : l.getD 0 0 = x)
    (z6 : Lb.Own w6 G 25 #[.int .i64 0, .int .i64 0, .int .i64 0, .int .i64 0, .slice none 0 0, .slice none 0 0])
    (m6 : Mine w6 wr.heap.size 3 (.slice a6 (1 + (m1 + 1)) n6) (1 + (m1 + 1)) (fun i => if i < 1 then zval [0] i else zval l.reverse (i - 1)))
    (hdl : Row wr b dl.length (bval dl)) (h1 : dl.length ≤ d) (h2 : d ≤ maxLen) (h6 : Below wr.heap.size wr w6) (hG : wr.heap.size ≤ G) :
    Qst wr ((((((w6.setCell ⟨G, 0, none⟩ (.int .i64 0)).setCell ⟨G, 1, none⟩ (.int .i64 x)).setCell ⟨G, 2, none⟩ (.int .i64 n)).setCell ⟨G, 3, none⟩ (.int .i64 (m : Int))).setCell ⟨G, 4, none⟩ (.slice a6 (1 + (m1 + 1)) n6)).setCell ⟨G, 5, none⟩ (.slice b kd d)) l dl n (m : Int) (.pointer (some ⟨G, 0, none⟩)) := by
  have J := ((((((Just.refl G w6).put 0 (.int .i64 0)).put 1 (.int .i64 x)).put 2 (.int .i64 n)).put 3 (.int .i64 (m : Int))).put 4 (.slice a6 (1 + (m1 + 1)) n6)).put 5 (.slice b kd d)
  have z := (((((z6.put 0 (.int .i64 0)).put 1 (.int .i64 x)).put 2 (.int .i64 n)).put 3 (.int .i64 (m : Int))).put 4 (.slice a6 (1 + (m1 + 1)) n6)).put 5 (.slice b kd d)
  exact dst hm hmm hk hx z (mine_just m6 z6 J) hdl h1 h2 (J.below h6 hG h6.size) hG
theorem six_cells {w : World} {G : Nat} {a b c d e f : Value} (z : Lb.Own w G 25 #[a, b, c, d, e, f]) :
    w.cell? ⟨G, 0, none⟩ = some a ∧ w.cell? ⟨G, 1, none⟩ = some b ∧ w.cell? ⟨G, 2, none⟩ = some c ∧ w.cell? ⟨G, 3, none⟩ = some d ∧ w.cell? ⟨G, 4, none⟩ = some e ∧ w.cell? ⟨G, 5, none⟩ = some f ∧
    w.frozen? ⟨G, 0, none⟩ = false ∧ w.frozen? ⟨G, 1, none⟩ = false ∧ w.frozen? ⟨G, 2, none⟩ = false ∧ w.frozen? ⟨G, 3, none⟩ = false ∧ w.frozen? ⟨G, 4, none⟩ = false ∧ w.frozen? ⟨G, 5, none⟩ = false :=
  ⟨z.cell 0, z.cell 1, z.cell 2, z.cell 3, z.cell 4, z.cell 5, z.free 0, z.free 1, z.free 2, z.free 3, z.free 4, z.free 5⟩
theorem bel6 {w w' : World} {G : Nat} (h : Below w.heap.size w w') (hG : w.heap.size ≤ G) (a b c d e f : Value) :
    Below w.heap.size w ((((((w'.setCell ⟨G, 0, none⟩ a).setCell ⟨G, 1, none⟩ b).setCell ⟨G, 2, none⟩ c).setCell ⟨G, 3, none⟩ d).setCell ⟨G, 4, none⟩ e).setCell ⟨G, 5, none⟩ f) :=
  ((((((Just.refl G w').put 0 a).put 1 b).put 2 c).put 3 d).put 4 e |>.put 5 f).below h hG h.size
theorem own_two {wr w5 : World} {o : Obj} {cs : Array Value} {t : TypeId} (j : Below (World.drew (World.alloc (World.alloc wr o) (.cells cs t))).heap.size (World.drew (World.alloc (World.alloc wr o) (.cells cs t))) w5) : Lb.Own w5 (wr.heap.size + 1) t cs :=
  below_own j (own_dr (own_at (by simp))) (by show _ < (World.alloc (World.alloc wr o) (.cells cs t)).heap.size; simp)
theorem own_one {wr w5 : World} {o : Obj} {cs : Array Value} {t : TypeId} (j : Below (World.drew (World.alloc (World.alloc wr (.cells cs t)) o)).heap.size (World.drew (World.alloc (World.alloc wr (.cells cs t)) o)) w5) : Lb.Own w5 wr.heap.size t cs :=
  below_own j (own_dr (own_al (own_at rfl))) (by show _ < (World.alloc (World.alloc wr (.cells cs t)) o).heap.size; simp; omega)
theorem own_pi {w5 w6 : World} {cs bs : Array Value} {t u : TypeId} {row : Option Nat} (g : World.grownBy (World.alloc (World.alloc w5 (.cells cs t)) (.cells bs u)) w6 row) (h : row ≠ some w5.heap.size) : Lb.Own w6 w5.heap.size t cs :=
  grown_own g (own_al (own_at rfl)) h
theorem row_ne (n : Nat) : (Value.slice (some ⟨n + 1, 0, none⟩) 1 1).ownBlock ≠ some n := by
  simp [Value.ownBlock]
theorem own_back {wr w5 w6 : World} {cs bs : Array Value} {t u : TypeId} (j : Below (World.drew (World.alloc wr (.cells cs t))).heap.size (World.drew (World.alloc wr (.cells cs t))) w5)
    (g : World.grownBy (World.alloc w5 (.cells bs u)) w6 (Value.slice (some ⟨w5.heap.size, 0, none⟩) 1 1).ownBlock) : Lb.Own w6 wr.heap.size t cs := by
  have hs : (World.alloc wr (.cells cs t)).heap.size = wr.heap.size + 1 := by simp
  have hj : (World.alloc wr (.cells cs t)).heap.size ≤ w5.heap.size := j.size
  have ho : Lb.Own w5 wr.heap.size t cs := below_own j (own_dr (own_at rfl)) (by show wr.heap.size < (World.alloc wr (.cells cs t)).heap.size; omega)
  refine grown_own g (own_al ho) ?_
  simp [Value.ownBlock]
  omega
theorem dstN {wr w6 : World} {l dl : List Int} {n x : Int} {m m1 kd n6 d : Nat} {a6 b : Option Addr} (hm : l.length = m) (hmm : l.length = m1 + 1) (hk : dl.length = kd) (hx : l.getD 0 0 = x)
    (m6 : Mine w6 wr.heap.size 3 (.slice a6 (1 + (m1 + 1)) n6) (1 + (m1 + 1)) (fun i => if i < 1 then zval [0] i else zval l.reverse (i - 1)))
    (hdl : Row wr b dl.length (bval dl)) (h1 : dl.length ≤ d) (h2 : d ≤ maxLen) (h6 : Below wr.heap.size wr w6) :
    Qst wr (w6.alloc (.cells #[.int .i64 0, .int .i64 x, .int .i64 n, .int .i64 (m : Int), .slice a6 (1 + (m1 + 1)) n6, .slice b kd d] 25)) l dl n (m : Int) (.pointer (some ⟨w6.heap.size, 0, none⟩)) :=
  dst hm hmm hk hx (Own.new w6 25 _) (m6.alloc _) hdl h1 h2 (bel_al h6 _) h6.size
set_option maxHeartbeats 40000000 in
theorem body (a : Option Addr) (c : Nat) (l : List Int) (life0 : Int) (b : Option Addr) (d : Nat) (dl : List Int) (n0 : Int) (w : World) (hA : Ar w w l dl a c b d) :
    Calls Try.prog 5 #[.slice a l.length c, .int .i64 life0, .slice b dl.length d, .int .i64 n0] w fun q w' => q = .returned (.bool true) ∧ Below w.heap.size w w' := by
  have hmp := rpath_any a c l w hA.lc hA.cm hA.row
  have hat := rat_any a c l 0 w (Nat.le_trans hA.lc hA.cm) hA.row
  by_cases hw : okP l = true ∧ 2 ≤ l.length ∧ 1 ≤ dl.length ∧ dl.length ≤ 24 ∧ atI l 0 < 0 ∧ l.length < 16
  case neg =>
    obtain ⟨e1, he1⟩ : ∃ e, okP l = e := ⟨_, rfl⟩
    obtain ⟨z, hz⟩ : ∃ z, atI l 0 = z := ⟨_, rfl⟩
    obtain ⟨m, hm⟩ : ∃ m, l.length = m := ⟨_, rfl⟩
    obtain ⟨k, hk⟩ : ∃ k, dl.length = k := ⟨_, rfl⟩
    rw [he1, hz, hm, hk] at hw
    rw [he1, hm] at hmp
    rw [hz, hm] at hat
    rw [hm, hk]
    have HMP := Lib.hid hmp
    have HAT := Lib.hid hat
    clear hmp hat he1 hz hm hk
    cases e1
    · clear hw
      go_enter Try.func5, Try.ntmps5
      go_wp2_with (first
        | (go_at_call 26; refine HMP.out.mono ?_; rintro r w' ⟨rfl, rfl⟩)
        | (go_at_call 27; refine HAT.out.mono ?_; rintro r w' ⟨rfl, rfl⟩))
      refine (awake_any _).mono ?_
      rintro r w9 ⟨rfl, b9⟩
      go_wp2_with fail
      go_ret
      exact ⟨rfl, b9⟩
    · have hw : ¬ (2 ≤ m ∧ 1 ≤ k ∧ k ≤ 24 ∧ z < 0 ∧ m < 16) := fun h => hw ⟨rfl, h⟩
      by_cases h2 : 2 ≤ m
      · have g2 : decide (m < 2) = false := by simp; omega
        have g2' : decide ((m : Int) < 2) = false := by simp; omega
        by_cases h3 : 1 ≤ k
        · have g3 : decide (k < 1) = false := by simp; omega
          have g3' : decide ((k : Int) < 1) = false := by simp; omega
          by_cases h4 : k ≤ 24
          · have g4 : decide (24 < k) = false := by simp; omega
            have g4' : decide ((24 : Int) < (k : Int)) = false := by simp; omega
            by_cases h5 : z < 0
            · have g5 : decide (0 ≤ z) = false := by simp; omega
              have g6 : decide (16 ≤ m) = true := by simp; omega
              have g6' : decide ((16 : Int) ≤ (m : Int)) = true := by simp; omega
              clear hw h2 h3 h4 h5
              go_enter Try.func5, Try.ntmps5
              go_wp2_with (first
                | (go_at_call 26; refine HMP.out.mono ?_; rintro r w' ⟨rfl, rfl⟩)
                | (go_at_call 27; refine HAT.out.mono ?_; rintro r w' ⟨rfl, rfl⟩))
              refine (awake_any _).mono ?_
              rintro r w9 ⟨rfl, b9⟩
              go_wp2_with fail
              go_ret
              exact ⟨rfl, b9⟩
            · have g5 : decide (0 ≤ z) = true := by simp; omega
              clear hw h2 h3 h4 h5
              go_enter Try.func5, Try.ntmps5
              go_wp2_with (first
                | (go_at_call 26; refine HMP.out.mono ?_; rintro r w' ⟨rfl, rfl⟩)
                | (go_at_call 27; refine HAT.out.mono ?_; rintro r w' ⟨rfl, rfl⟩))
              refine (awake_any _).mono ?_
              rintro r w9 ⟨rfl, b9⟩
              go_wp2_with fail
              go_ret
              exact ⟨rfl, b9⟩
          · have g4 : decide (24 < k) = true := by simp; omega
            have g4' : decide ((24 : Int) < (k : Int)) = true := by simp; omega
            clear hw h2 h3 h4
            go_enter Try.func5, Try.ntmps5
            go_wp2_with (first
              | (go_at_call 26; refine HMP.out.mono ?_; rintro r w' ⟨rfl, rfl⟩)
              | (go_at_call 27; refine HAT.out.mono ?_; rintro r w' ⟨rfl, rfl⟩))
            refine (awake_any _).mono ?_
            rintro r w9 ⟨rfl, b9⟩
            go_wp2_with fail
            go_ret
            exact ⟨rfl, b9⟩
        · have g3 : decide (k < 1) = true := by simp; omega
          have g3' : decide ((k : Int) < 1) = true := by simp; omega
          clear hw h2 h3
          go_enter Try.func5, Try.ntmps5
          go_wp2_with (first
            | (go_at_call 26; refine HMP.out.mono ?_; rintro r w' ⟨rfl, rfl⟩)
            | (go_at_call 27; refine HAT.out.mono ?_; rintro r w' ⟨rfl, rfl⟩))
          refine (awake_any _).mono ?_
          rintro r w9 ⟨rfl, b9⟩
          go_wp2_with fail
          go_ret
          exact ⟨rfl, b9⟩
      · have g2 : decide (m < 2) = true := by simp; omega
        have g2' : decide ((m : Int) < 2) = true := by simp; omega
        clear hw h2
        go_enter Try.func5, Try.ntmps5
        go_wp2_with (first
          | (go_at_call 26; refine HMP.out.mono ?_; rintro r w' ⟨rfl, rfl⟩)
          | (go_at_call 27; refine HAT.out.mono ?_; rintro r w' ⟨rfl, rfl⟩))
        refine (awake_any _).mono ?_
        rintro r w9 ⟨rfl, b9⟩
        go_wp2_with fail
        go_ret
        exact ⟨rfl, b9⟩
  obtain ⟨k1, k2, k3, k4, k5, k6⟩ := hw
  obtain ⟨life, hL⟩ : ∃ A, life0 % 18446744073709551616 % 16 = A := ⟨_, rfl⟩
  obtain ⟨n, hN⟩ : ∃ B, n0 % 18446744073709551616 % 1000000 = B := ⟨_, rfl⟩
  have bL : 0 ≤ life ∧ life ≤ 15 := by omega
  have bN : 0 ≤ n ∧ n < 1000000 := by omega
  have tm : ∀ x m : Int, (IntKind.u64.wrap x).tmod m = (x % 18446744073709551616) % m := fun x m => by rw [IntKind.wrap_u64, Int.tmod_eq_emod_of_nonneg (Int.emod_nonneg _ (by decide))]
  have HL := Lib.hid (show wrap64 ((IntKind.u64.wrap life0).tmod 16) = life by rw [tm, hL, IntWalk.wrap64_in _ ⟨by omega, by omega⟩])
  have HN := Lib.hid (show wrap64 ((IntKind.u64.wrap n0).tmod 1000000) = n by rw [tm, hN, IntWalk.wrap64_in _ ⟨by omega, by omega⟩])
  have W := Lib.hid (show Rt.Way l dl n life from ⟨k1, k2, by omega, k5, k3, k4, bN.1, bN.2, bL.1, bL.2⟩)
  rw [k1] at hmp
  obtain ⟨z, hz⟩ : ∃ z, atI l 0 = z := ⟨_, rfl⟩
  rw [hz] at hat k5
  obtain ⟨m, hm⟩ : ∃ m, l.length = m := ⟨_, rfl⟩
  have HM := Lib.hid hm
  have HA := Lib.hid hA
  have WK := W
  obtain ⟨pa, po, rfl, hpa, hcs⟩ := hA.row (by omega)
  have x0 : w.cell? ⟨pa, po, none⟩ = some (.int .i64 (l.getD 0 0)) := hcs 0 (by omega)
  rw [hm] at hmp hat k2 k6 ⊢
  have HMP := Lib.hid hmp
  have HAT := Lib.hid hat
  obtain ⟨kd, hkd⟩ : ∃ k, dl.length = k := ⟨_, rfl⟩
  have HKD := Lib.hid hkd
  rw [hkd] at k3 k4 ⊢
  have g2 : decide (m < 2) = false := by simp; omega
  have g2' : decide ((m : Int) < 2) = false := by simp; omega
  have g3 : decide (kd < 1) = false := by simp; omega
  have g3' : decide ((kd : Int) < 1) = false := by simp; omega
  have g4 : decide (24 < kd) = false := by simp; omega
  have g4' : decide ((24 : Int) < (kd : Int)) = false := by simp; omega
  have g5 : decide (0 ≤ z) = false := by simp; omega
  have g6 : decide (16 ≤ m) = false := by simp; omega
  have g6' : decide ((16 : Int) ≤ (m : Int)) = false := by simp; omega
  clear hcs hmp hat hz hm hkd k1 tm hL hN
  go_enter Try.func5, Try.ntmps5
  go_upto_region 5 with (first
    | (go_at_call 26; refine HMP.out.mono ?_; rintro r w' ⟨rfl, rfl⟩)
    | (go_at_call 27; refine HAT.out.mono ?_; rintro r w' ⟨rfl, rfl⟩))
  rw [HL.out, HN.out]
  clear HL HN g2 g2' g3 g3' g4 g4' g5 g6 g6' HMP HAT
  obtain ⟨x, hx⟩ : ∃ x, l.getD 0 0 = x := ⟨_, rfl⟩
  have HX := Lib.hid hx
  rw [hx] at x0
  clear hx
  have r0 : (0 : Int) < (m : Int) := by omega
  have r1 : 0 < m := by omega
  have s0 : (fun w' : World => w'.cell? ⟨pa, po, none⟩ = some (.int .i64 x)) w.drew := x0
  go_cut [9] from 63 to 73 (fun s wx => Pst w wx l dl n life 0 s)
  case first =>
    go_region_held3 (fun w' : World => w'.cell? ⟨pa, po, none⟩ = some (.int .i64 x)) (first | exact s0 | go_keep) (fail)
    · go_wp2_with fail
      go_meet
      have q1 := Own.new w 3 #[.int .i64 x]
      have q2 := Own.new (w.alloc (.cells #[.int .i64 x] 3)) 25 #[.int .i64 x, .int .i64 0, .int .i64 n, .int .i64 life, .slice (some ⟨w.heap.size, 0, none⟩) 1 1, .slice b kd d]
      have b1 := (Below.refl w.heap.size w).alloc (Nat.le_refl _) (.cells #[.int .i64 x] 3)
      have b2 := b1.alloc b1.size (.cells #[.int .i64 x, .int .i64 0, .int .i64 n, .int .i64 life, .slice (some ⟨w.heap.size, 0, none⟩) 1 1, .slice b kd d] 25)
      have hz : (w.alloc (.cells #[.int .i64 x] 3)).heap.size = w.heap.size + 1 := by simp
      rw [hz] at q2
      exact pst0 HA.out HM.out HKD.out HX.out W.out (q1.alloc _) q2 b2 (by omega)
    · go_wp2_with fail
      go_meet
      have q2 := Own.new w 25 #[.int .i64 x, .int .i64 0, .int .i64 n, .int .i64 life, .slice (some ⟨w.heap.size + 1, 0, none⟩) 1 1, .slice b kd d]
      have q1 := Own.new (w.alloc (.cells #[.int .i64 x, .int .i64 0, .int .i64 n, .int .i64 life, .slice (some ⟨w.heap.size + 1, 0, none⟩) 1 1, .slice b kd d] 25)) 3 #[.int .i64 x]
      have b1 := (Below.refl w.heap.size w).alloc (Nat.le_refl _) (.cells #[.int .i64 x, .int .i64 0, .int .i64 n, .int .i64 life, .slice (some ⟨w.heap.size + 1, 0, none⟩) 1 1, .slice b kd d] 25)
      have b2 := b1.alloc b1.size (.cells #[.int .i64 x] 3)
      have hz : (w.alloc (.cells #[.int .i64 x, .int .i64 0, .int .i64 n, .int .i64 life, .slice (some ⟨w.heap.size + 1, 0, none⟩) 1 1, .slice b kd d] 25)).heap.size = w.heap.size + 1 := by simp
      rw [hz] at q1
      exact pst0 HA.out HM.out HKD.out HX.out W.out q1 (q2.alloc _) b2 (by omega)
  case rest =>
    obtain ⟨g, a1, c1, b1, d1, rfl, hg, og, at1, bb⟩ := hcut
    obtain ⟨wa, hwa⟩ : ∃ y, y = wc := ⟨_, rfl⟩
    subst hwa
    clear x0 s0
    have hc1 : (c == 1) = false := by have := HA.out.lc; rw [HM.out] at this; simp; omega
    have hc2 : c ≠ 1 := by have := HA.out.lc; rw [HM.out] at this; omega
    have hcm : m ≤ c := by have := HA.out.lc; rw [HM.out] at this; exact this
    have hc3 : 1 ≤ c := by omega
    go_upto_region 7 with (fail)
    obtain ⟨m1, hm1⟩ : ∃ m1, m - 1 = m1 := ⟨_, rfl⟩
    rw [hm1]
    have hmm : m = m1 + 1 := by omega
    have HMM := Lib.hid hmm
    have hm1a : 1 ≤ m1 ∧ m1 ≤ 14 := by omega
    have hm1b : m1 + 1 ≤ m ∧ m ≤ m1 + 1 := by omega
    have hll : l.length ≤ m1 + 1 ∧ m1 + 1 ≤ l.length := by rw [HM.out]; omega
    clear hm1 hc1 hc2 hmm k2
    go_loopw [77] (fun i wr => ∃ (j : Nat) (a2 : Option Addr) (c2 : Nat) (b2 : Option Addr) (d2 : Nat), i = .int .i64 j ∧ j ≤ m1 ∧ (j : Int) ≤ life ∧ Lb.Own wr g 25 ((upP l dl n life j).vals a2 c2 b2 d2) ∧ (upP l dl n life j).At wr a2 c2 b2 d2 ∧ Below w.heap.size w wr) (fun i _ => m1 - (intOf i).toNat)
    case atStart => exact ⟨0, a1, c1, b1, d1, rfl, by omega, by omega, og, at1, bb⟩
    case round =>
      clear og at1 bb
      obtain ⟨j, a2, c2, b2, d2, rfl, hj, hjl, og, at2, bb⟩ := hrel
      by_cases hlt : j < m1
      · have hjl2 : j + 1 < l.length := by rw [HM.out, HMM.out]; omega
        have hrow := HA.out.row.below bb
        obtain ⟨qa, qo, e0, _, xj⟩ := hrow.at_ hjl2
        injection e0 with e0
        injection e0 with e0 e1 _
        subst e0 e1
        unfold zval at xj
        rw [show po + (j + 1) = po + 1 + j by omega] at xj
        obtain ⟨y, hy⟩ : ∃ y, l.getD (j + 1) 0 = y := ⟨_, rfl⟩
        rw [hy] at xj
        have hup := up_any (upP l dl n life j) a2 c2 b2 d2 y wr at2
        have hlen : (upP l dl n life j).path.length = j + 1 := Rt.take_len (by omega)
        have og0 := og
        unfold Pk.vals at og
        rw [hlen] at og
        have y0 : wr.cell? ⟨g, 0, none⟩ = some (.int .i64 (upP l dl n life j).f) := og.cell 0
        have y1 : wr.cell? ⟨g, 1, none⟩ = some (.int .i64 (upP l dl n life j).t) := og.cell 1
        have y2 : wr.cell? ⟨g, 2, none⟩ = some (.int .i64 (upP l dl n life j).n) := og.cell 2
        have y3 : wr.cell? ⟨g, 3, none⟩ = some (.int .i64 (upP l dl n life j).life) := og.cell 3
        have y4 : wr.cell? ⟨g, 4, none⟩ = some (.slice a2 (j + 1) c2) := og.cell 4
        have y5 : wr.cell? ⟨g, 5, none⟩ = some (.slice b2 (upP l dl n life j).data.length d2) := og.cell 5
        have hog := og.lt
        rcases (show (j : Int) < life ∨ (j : Int) = life by omega) with hjl3 | hjl3
        · have hq := up_hop W.out hjl2 hjl3
          rw [hy] at hq
          unfold Pk.vals at hup
          rw [hlen, hq] at hup
          have HUP := Lib.hid hup
          generalize upP l dl n life j = P at *
          clear hup hq og hlen
          go_wp2_with fail
          refine HUP.out.mono ?_
          rintro r w4 ⟨ua, uc, ub, ue, rfl, uo, b4⟩
          simp only at uo ⊢
          have o5 := Own.new w4 25 ((upP l dl n life (j + 1)).vals ua uc ub ue)
          have j5 := (Below.refl _ w4).alloc (Nat.le_refl _) (.cells ((upP l dl n life (j + 1)).vals ua uc ub ue) 25)
          have b5 := bb.trans (b4.mono bb.size)
          have b6 := b5.alloc b5.size (.cells ((upP l dl n life (j + 1)).vals ua uc ub ue) 25)
          have uo5 := uo.below j5
          have au := uo5.at_
          have og5 := (below_own b4 og0 hog).alloc (.cells ((upP l dl n life (j + 1)).vals ua uc ub ue) 25)
          have hgk : g < w4.heap.size := by have := b4.size; omega
          clear y0 y1 y2 y3 y4 y5 j5 b4 b5 uo og0 HUP
          go_upto_region 10 with (refine wpList_alloc_store ((upP l dl n life (j + 1)).vals ua uc ub ue) rfl rfl rfl rfl infoP rfl rfl (by kernel_rfl) rfl (cells6 _ _ _ _ _) ?_)
          generalize w4.alloc (.cells ((upP l dl n life (j + 1)).vals ua uc ub ue) 25) = w5 at *
          generalize w4.heap.size = q at *
          have hul : (upP l dl n life (j + 1)).path.length = j + 2 := Rt.take_len (by omega)
          have hud : (upP l dl n life (j + 1)).data.length = kd := HKD.out
          have z2 : w5.cell? ⟨q, 2, none⟩ = some (.int .i64 n) := o5.cell 2
          have z3 : w5.cell? ⟨q, 3, none⟩ = some (.int .i64 (life - (j : Int) - 1)) := (o5.cell 3).trans (by show some (Value.int .i64 (life - ((j + 1 : Nat) : Int))) = _; rw [show life - ((j + 1 : Nat) : Int) = life - (j : Int) - 1 by omega])
          have z4 : w5.cell? ⟨q, 4, none⟩ = some (.slice ua (j + 2) uc) := (o5.cell 4).trans (by rw [← hul]; rfl)
          have z5 : w5.cell? ⟨q, 5, none⟩ = some (.slice ub kd ue) := (o5.cell 5).trans (by rw [← hud]; rfl)
          have hrow5 := HA.out.row.below b6
          have s1 : ∀ z, Calls Try.prog 21 #[.slice ua (j + 2) uc, .slice (some ⟨pa, po, none⟩) (j + 2) c] (w5.drewN z) fun r w' => r = .returned (.bool true) ∧ ∃ y, (w5.drewN z).drewN y = w' := fun z => by
            have h1 := au.pc
            have h2 := au.prow
            have h3 := row_take (k := j + 2) hrow5 (by omega)
            have hcon := same_any ua (some ⟨pa, po, none⟩) uc c (upP l dl n life (j + 1)).path (l.take (j + 2)) (w5.drewN z) h1 (by rw [Rt.take_len (by omega)]; omega) au.pm HA.out.cm (h2.drewN z) (h3.drewN z)
            rw [hul, Rt.take_len (by omega : j + 2 ≤ l.length), decide_eq_true (show (upP l dl n life (j + 1)).path = l.take (j + 2) from rfl)] at hcon
            exact hcon
          have S1 := Lib.hid s1
          have v1 : ∀ z, (convert 23 9 (.slice ub kd ue)).run Try.prog (w5.drewN z) = .ok (.string (bstr dl)) (w5.drewN z) := fun z => by
            have := conv_b ue (au.drow.drewN z)
            rw [hud] at this
            exact this
          have v2 : ∀ z, (convert 23 9 (.slice b kd d)).run Try.prog (w5.drewN z) = .ok (.string (bstr dl)) (w5.drewN z) := fun z => by
            have := conv_b d ((HA.out.bytes.below b6).drewN z)
            rw [HKD.out] at this
            exact this
          generalize bstr dl = tx at *
          have t1 : IntKind.i64.wrap (life - (j : Int)) = life - (j : Int) := IntWalk.i64_in _ (by omega)
          have t2 : IntKind.i64.wrap (life - (j : Int) - 1) = life - (j : Int) - 1 := IntWalk.i64_in _ (by omega)
          have t3 : (life - (j : Int) - 1 != life - (j : Int) - 1) = false := by rw [bne_self_eq_false]
          have t4 : (n != n) = false := by rw [bne_self_eq_false]
          have t5 : IntKind.i64.wrap ((j : Int) + 2) = (j : Int) + 2 := IntWalk.i64_in _ (by omega)
          have t6 : 0 ≤ (j : Int) + 2 := by omega
          have t7 : (j : Int) + 2 ≤ (c : Int) := by omega
          have t8 : ((j : Int) + 2).toNat = j + 2 := by omega
          have u1 : decide (life ≤ (j : Int)) = false := by rw [decide_eq_false_iff_not]; omega
          clear s1 hul hud hrow5 hrow xj
          go_wp2_with fail
          go_quiet ((go_at_call 21; exact quiet_some (S1.out _)))
          obtain ⟨w6, hw6⟩ : ∃ y, y = w5.drewN nq := ⟨_, rfl⟩
          rw [← hw6]
          have o6 : Lb.Own w6 q 25 ((upP l dl n life (j + 1)).vals ua uc ub ue) := by rw [hw6]; exact o5.drewN nq
          have og6 : Lb.Own w6 g 25 (P.vals a2 c2 b2 d2) := by rw [hw6]; exact og5.drewN nq
          have b7 : Below w.heap.size w w6 := by rw [hw6]; exact below_drewN b6 nq
          have uo6 := uo5.below (w' := w6) (by rw [hw6]; exact below_drewN (Below.refl _ _) nq)
          clear hw6 t1 t2 t3 t4 t5 t6 t7 t8 v1 v2 z2 z3 z4 z5 u1
          go_upto_region 14 with (fail)
          refine wp_region_lit ?_
          refine wpList_load_row rfl 25 _ rfl q rfl 25 ((upP l dl n life (j + 1)).vals ua uc ub ue) (0, 0) _ o6 Try.underlying25 rfl (by kernel_rfl) ?_
          refine wpList_store_row rfl 25 _ _ rfl g ((upP l dl n life (j + 1)).vals ua uc ub ue) rfl rfl 25 _ og6 (by kernel_rfl) rfl (cells6 _ _ _ _ _) ?_
          have og7 := og6.setRow ((upP l dl n life (j + 1)).vals ua uc ub ue)
          have b8 := (Just.setRow g w6 ((upP l dl n life (j + 1)).vals ua uc ub ue)).below b7 hg b7.size
          have au7 : (upP l dl n life (j + 1)).At (w6.setRow g ((upP l dl n life (j + 1)).vals ua uc ub ue)) ua uc ub ue := (uo6.setRow hog _).at_
          go_wp2_with fail
          exact ⟨⟨j + 1, ua, uc, ub, ue, by simp, by omega, by omega, og7, au7, b8⟩, by simp [intOf]; omega⟩
        · have hq := up_end W.out hjl2 hjl3
          rw [hy] at hq
          unfold Pk.vals at hup
          rw [hlen, hq] at hup
          have HUP := Lib.hid hup
          generalize upP l dl n life j = P at *
          have u1 : decide (life ≤ (j : Int)) = true := by rw [decide_eq_true_eq]; omega
          clear hup hq og hlen hjl3
          go_wp2_with fail
          refine HUP.out.mono ?_
          rintro r w4 ⟨ua, uc, ub, ue, rfl, uo, b4⟩
          simp only at uo ⊢
          have b5 := bb.trans (b4.mono bb.size)
          have b6 := b5.alloc b5.size (.cells (noP.vals ua uc ub ue) 25)
          clear y0 y1 y2 y3 y4 y5 b4 b5 uo og0 HUP xj hrow
          go_wp2_with (refine wpList_alloc_store (noP.vals ua uc ub ue) rfl rfl rfl rfl infoP rfl rfl (by kernel_rfl) rfl (cells6 _ _ _ _ _) ?_)
          refine (awake_any _).mono ?_
          rintro r w9 ⟨rfl, b9⟩
          go_wp2_with fail
          go_ret
          exact ⟨rfl, b6.trans (b9.mono b6.size)⟩
      · obtain rfl : m1 = j := by omega
        have htk : l.take (m1 + 1) = l := List.take_of_length_le hll.1
        have hpl : (upP l dl n life m1).path = l := htk
        have hrow := HA.out.row.below bb
        have hdat := HA.out.bytes.below bb
        have hdl := hdat
        have prow := at2.prow
        have pnil := at2.pnil
        have ppc := at2.pc
        have ppm := at2.pm
        rw [hpl] at prow pnil ppc
        have y4 : wr.cell? ⟨g, 4, none⟩ = some (.slice a2 (m1 + 1) c2) := (og.cell 4).trans (by show some (Value.slice a2 (upP l dl n life m1).path.length c2) = _; rw [hpl, show l.length = m1 + 1 by omega])
        obtain ⟨qa, qo, e0, _, xj⟩ := hrow.at_ (k := 0) (by omega)
        injection e0 with e0
        injection e0 with e0 e1 _
        subst e0 e1
        unfold zval at xj
        rw [HX.out] at xj
        have x0 : wr.cell? ⟨pa, po, none⟩ = some (.int .i64 x) := xj
        have hbk : ∀ W : World, Below wr.heap.size wr W → Calls Try.prog 22 #[.slice a2 (m1 + 1) c2] W fun r w' => ∃ v, r = .returned v ∧ Mine w' W.heap.size 3 v (m1 + 1) (zval l.reverse) ∧ Below W.heap.size W w' := fun W hW => by
          have hcon := back_any a2 c2 l W ppc ppm (prow.below hW) pnil
          have hb : backL l = l.reverse := by unfold backL; rw [WK.out.ok]; rfl
          rw [hb, show l.reverse.length = m1 + 1 by rw [List.length_reverse]; omega, show l.length = m1 + 1 by omega] at hcon
          exact hcon
        clear xj prow pnil ppc ppm htk hpl at2
        go_upto_region 16 with (fail)
        have HBK := Lib.hid hbk
        clear hbk
        have s0 : (fun w' : World => (w'.cell? ⟨pa, po, none⟩ = some (.int .i64 x) ∧ w'.cell? ⟨g, 4, none⟩ = some (.slice a2 (m1 + 1) c2)) ∧ Below wr.heap.size wr w') wr.drew := keep_two (bel_dr _) x0 y4
        obtain ⟨i0, hi0, hz0, hz1, hz2⟩ := info_parts infoI
        have r0' : (0 : Int) < (m : Int) := by omega
        have HLL := Lib.hid (show l.length = m1 + 1 by omega)
        have hdl1 := HA.out.dc
        have hmx : 1 + (m1 + 1) ≤ maxLen := by unfold maxLen; omega
        have hby : (1 + (m1 + 1)) * 8 ≤ 140737488355328 := by omega
        have hdl2 := HA.out.dm
        go_cut [14] from 133 to 145 (fun s wx => Qst wr wx l dl n (m : Int) s)
        case first =>
          clear W WK HA HMM bL bN k5 k6 hcm hc3 hm1b hll og bb hg hrow hdat hlt hjl
          go_region_held3 (fun w' : World => (w'.cell? ⟨pa, po, none⟩ = some (.int .i64 x) ∧ w'.cell? ⟨g, 4, none⟩ = some (.slice a2 (m1 + 1) c2)) ∧ Below wr.heap.size wr w') (with_reducible first | exact s0 | exact s5 | exact s6 | exact keep_two (bel6 h6 hG _ _ _ _ _ _) x0 y4 | exact keep_two (by (repeat (with_reducible first | exact h6 | exact h5 | exact Below.refl _ _ | refine bel_drr ?_ | refine bel_al ?_ _))) x0 y4) (first | (go_at_call 22; refine (HBK.out _ (by (repeat (with_reducible first | exact h6 | exact h5 | exact Below.refl _ _ | refine bel_drr ?_ | refine bel_al ?_ _)))).mono ?_; rintro q5 w5 ⟨v5, rfl, m5, j5⟩; have h5 : Below wr.heap.size wr w5 := bel_two (by (repeat (with_reducible first | exact h6 | exact h5 | exact Below.refl _ _ | refine bel_drr ?_ | refine bel_al ?_ _))) j5; have y5 := h5.size; have s5 : (fun w' : World => (w'.cell? ⟨pa, po, none⟩ = some (.int .i64 x) ∧ w'.cell? ⟨g, 4, none⟩ = some (.slice a2 (m1 + 1) c2)) ∧ Below wr.heap.size wr w') w5 := keep_two h5 x0 y4; obtain ⟨a5, n5, rfl, hn5, hx5, hR5⟩ := m5.row) | (with_reducible refine at_app ?_; first | ((with_reducible have gd : Below _ (World.drew (World.alloc wr (.cells _ 3))) w5 := j5); refine step_app2 rfl (.tmp 139) (.tmp 142) 22 rfl wr.heap.size 3 i0 _ 8 Try.underlying22 hi0 hz0 hz1 hz2 rfl (.slice (some ⟨wr.heap.size, 0, none⟩) 1 1) 1 (zval [0]) (by simp [Act.eval, Act.put]) (mine_zero (by (repeat (with_reducible first | exact own_two j5 | exact own_one j5 | refine own_dr ?_ | exact own_at rfl | exact own_at (by simp) | refine own_al ?_ | refine below_own j5 ?_ (by simp <;> omega)))) (Nat.le_refl _)) a5 (m1 + 1) n5 (zval l.reverse) (by simp [Act.eval, Act.put]) (hR5.below (by (repeat (with_reducible first | exact Below.refl _ _ | refine bel_drr ?_ | refine bel_al ?_ _)))) (fun _ _ => rfl) hmx hby (Below.size (by (repeat (with_reducible first | exact h6 | exact h5 | exact Below.refl _ _ | refine bel_drr ?_ | refine bel_al ?_ _)))) ?_; intro mB v6 w6 m6 g6 l6; have h6 : Below wr.heap.size wr w6 := Below.grown (by (repeat (with_reducible first | exact h6 | exact h5 | exact Below.refl _ _ | refine bel_drr ?_ | refine bel_al ?_ _))) g6 (Below.size (by (repeat (with_reducible first | exact h6 | exact h5 | exact Below.refl _ _ | refine bel_drr ?_ | refine bel_al ?_ _)))) (fun q hq => (mB.lt q hq).1); have s6 : (fun w' : World => (w'.cell? ⟨pa, po, none⟩ = some (.int .i64 x) ∧ w'.cell? ⟨g, 4, none⟩ = some (.slice a2 (m1 + 1) c2)) ∧ Below wr.heap.size wr w') w6 := keep_two h6 x0 y4; obtain ⟨a6, n6, rfl, hn6, hx6, hR6⟩ := m6.row; first | ((with_reducible have gd : World.grownBy (World.alloc w5 (.cells _ 25)) w6 _ := g6); have z6 : Lb.Own w6 w5.heap.size 25 #[.int .i64 0, .int .i64 0, .int .i64 0, .int .i64 0, .slice none 0 0, .slice none 0 0] := grown_own g6 (by (repeat (with_reducible first | exact own_two j5 | exact own_one j5 | refine own_dr ?_ | exact own_at rfl | exact own_at (by simp) | refine own_al ?_ | refine below_own j5 ?_ (by simp <;> omega)))) (mine_not mB (by (repeat (with_reducible first | exact own_two j5 | exact own_one j5 | refine own_dr ?_ | exact own_at rfl | exact own_at (by simp) | refine own_al ?_ | refine below_own j5 ?_ (by simp <;> omega)))) (by decide)); have hG : wr.heap.size ≤ w5.heap.size := y5; obtain ⟨kc0, kc1, kc2, kc3, kc4, kc5, kf0, kf1, kf2, kf3, kf4, kf5⟩ := six_cells z6) | ((with_reducible have gd : World.grownBy w5 w6 _ := g6); have hG : wr.heap.size ≤ w6.heap.size := h6.size) | fail) | ((with_reducible have gd : Below _ (World.drew (World.alloc (World.alloc wr (.cells _ 3)) (.cells _ 25))) w5 := j5); refine step_app2 rfl (.tmp 139) (.tmp 142) 22 rfl wr.heap.size 3 i0 _ 8 Try.underlying22 hi0 hz0 hz1 hz2 rfl (.slice (some ⟨wr.heap.size, 0, none⟩) 1 1) 1 (zval [0]) (by simp [Act.eval, Act.put]) (mine_zero (by (repeat (with_reducible first | exact own_two j5 | exact own_one j5 | refine own_dr ?_ | exact own_at rfl | exact own_at (by simp) | refine own_al ?_ | refine below_own j5 ?_ (by simp <;> omega)))) (Nat.le_refl _)) a5 (m1 + 1) n5 (zval l.reverse) (by simp [Act.eval, Act.put]) (hR5.below (by (repeat (with_reducible first | exact Below.refl _ _ | refine bel_drr ?_ | refine bel_al ?_ _)))) (fun _ _ => rfl) hmx hby (Below.size (by (repeat (with_reducible first | exact h6 | exact h5 | exact Below.refl _ _ | refine bel_drr ?_ | refine bel_al ?_ _)))) ?_; intro mB v6 w6 m6 g6 l6; have h6 : Below wr.heap.size wr w6 := Below.grown (by (repeat (with_reducible first | exact h6 | exact h5 | exact Below.refl _ _ | refine bel_drr ?_ | refine bel_al ?_ _))) g6 (Below.size (by (repeat (with_reducible first | exact h6 | exact h5 | exact Below.refl _ _ | refine bel_drr ?_ | refine bel_al ?_ _)))) (fun q hq => (mB.lt q hq).1); have s6 : (fun w' : World => (w'.cell? ⟨pa, po, none⟩ = some (.int .i64 x) ∧ w'.cell? ⟨g, 4, none⟩ = some (.slice a2 (m1 + 1) c2)) ∧ Below wr.heap.size wr w') w6 := keep_two h6 x0 y4; obtain ⟨a6, n6, rfl, hn6, hx6, hR6⟩ := m6.row; ((with_reducible have gd : World.grownBy w5 w6 _ := g6); have z6 : Lb.Own w6 (wr.heap.size + 1) 25 #[.int .i64 0, .int .i64 0, .int .i64 0, .int .i64 0, .slice none 0 0, .slice none 0 0] := grown_own g6 (by (repeat (with_reducible first | exact own_two j5 | exact own_one j5 | refine own_dr ?_ | exact own_at rfl | exact own_at (by simp) | refine own_al ?_ | refine below_own j5 ?_ (by simp <;> omega)))) (mine_not mB (by (repeat (with_reducible first | exact own_two j5 | exact own_one j5 | refine own_dr ?_ | exact own_at rfl | exact own_at (by simp) | refine own_al ?_ | refine below_own j5 ?_ (by simp <;> omega)))) (by decide)); have hG : wr.heap.size ≤ (wr.heap.size + 1) := (Nat.le_succ _); obtain ⟨kc0, kc1, kc2, kc3, kc4, kc5, kf0, kf1, kf2, kf3, kf4, kf5⟩ := six_cells z6)) | ((with_reducible have gd : Below _ (World.drew (World.alloc (World.alloc wr (.cells _ 25)) (.cells _ 3))) w5 := j5); refine step_app2 rfl (.tmp 139) (.tmp 142) 22 rfl wr.heap.size 3 i0 _ 8 Try.underlying22 hi0 hz0 hz1 hz2 rfl (.slice (some ⟨(wr.heap.size + 1), 0, none⟩) 1 1) 1 (zval [0]) (by simp [Act.eval, Act.put]) (mine_zero (by (repeat (with_reducible first | exact own_two j5 | exact own_one j5 | refine own_dr ?_ | exact own_at rfl | exact own_at (by simp) | refine own_al ?_ | refine below_own j5 ?_ (by simp <;> omega)))) (Nat.le_succ _)) a5 (m1 + 1) n5 (zval l.reverse) (by simp [Act.eval, Act.put]) (hR5.below (by (repeat (with_reducible first | exact Below.refl _ _ | refine bel_drr ?_ | refine bel_al ?_ _)))) (fun _ _ => rfl) hmx hby (Below.size (by (repeat (with_reducible first | exact h6 | exact h5 | exact Below.refl _ _ | refine bel_drr ?_ | refine bel_al ?_ _)))) ?_; intro mB v6 w6 m6 g6 l6; have h6 : Below wr.heap.size wr w6 := Below.grown (by (repeat (with_reducible first | exact h6 | exact h5 | exact Below.refl _ _ | refine bel_drr ?_ | refine bel_al ?_ _))) g6 (Below.size (by (repeat (with_reducible first | exact h6 | exact h5 | exact Below.refl _ _ | refine bel_drr ?_ | refine bel_al ?_ _)))) (fun q hq => (mB.lt q hq).1); have s6 : (fun w' : World => (w'.cell? ⟨pa, po, none⟩ = some (.int .i64 x) ∧ w'.cell? ⟨g, 4, none⟩ = some (.slice a2 (m1 + 1) c2)) ∧ Below wr.heap.size wr w') w6 := keep_two h6 x0 y4; obtain ⟨a6, n6, rfl, hn6, hx6, hR6⟩ := m6.row; ((with_reducible have gd : World.grownBy w5 w6 _ := g6); have z6 : Lb.Own w6 wr.heap.size 25 #[.int .i64 0, .int .i64 0, .int .i64 0, .int .i64 0, .slice none 0 0, .slice none 0 0] := grown_own g6 (by (repeat (with_reducible first | exact own_two j5 | exact own_one j5 | refine own_dr ?_ | exact own_at rfl | exact own_at (by simp) | refine own_al ?_ | refine below_own j5 ?_ (by simp <;> omega)))) (mine_not mB (by (repeat (with_reducible first | exact own_two j5 | exact own_one j5 | refine own_dr ?_ | exact own_at rfl | exact own_at (by simp) | refine own_al ?_ | refine below_own j5 ?_ (by simp <;> omega)))) (by decide)); have hG : wr.heap.size ≤ wr.heap.size := (Nat.le_refl _); obtain ⟨kc0, kc1, kc2, kc3, kc4, kc5, kf0, kf1, kf2, kf3, kf4, kf5⟩ := six_cells z6)) | ((with_reducible have gd : Below _ (World.drew (World.alloc wr (.cells _ 25))) w5 := j5); refine step_app2 rfl (.tmp 139) (.tmp 142) 22 rfl wr.heap.size 3 i0 _ 8 Try.underlying22 hi0 hz0 hz1 hz2 rfl (.slice (some ⟨w5.heap.size, 0, none⟩) 1 1) 1 (zval [0]) (by simp [Act.eval, Act.put]) (mine_zero (by (repeat (with_reducible first | exact own_two j5 | exact own_one j5 | refine own_dr ?_ | exact own_at rfl | exact own_at (by simp) | refine own_al ?_ | refine below_own j5 ?_ (by simp <;> omega)))) y5) a5 (m1 + 1) n5 (zval l.reverse) (by simp [Act.eval, Act.put]) (hR5.below (by (repeat (with_reducible first | exact Below.refl _ _ | refine bel_drr ?_ | refine bel_al ?_ _)))) (fun _ _ => rfl) hmx hby (Below.size (by (repeat (with_reducible first | exact h6 | exact h5 | exact Below.refl _ _ | refine bel_drr ?_ | refine bel_al ?_ _)))) ?_; intro mB v6 w6 m6 g6 l6; have h6 : Below wr.heap.size wr w6 := Below.grown (by (repeat (with_reducible first | exact h6 | exact h5 | exact Below.refl _ _ | refine bel_drr ?_ | refine bel_al ?_ _))) g6 (Below.size (by (repeat (with_reducible first | exact h6 | exact h5 | exact Below.refl _ _ | refine bel_drr ?_ | refine bel_al ?_ _)))) (fun q hq => (mB.lt q hq).1); have s6 : (fun w' : World => (w'.cell? ⟨pa, po, none⟩ = some (.int .i64 x) ∧ w'.cell? ⟨g, 4, none⟩ = some (.slice a2 (m1 + 1) c2)) ∧ Below wr.heap.size wr w') w6 := keep_two h6 x0 y4; obtain ⟨a6, n6, rfl, hn6, hx6, hR6⟩ := m6.row; ((with_reducible have gd : World.grownBy (World.alloc w5 (.cells _ 3)) w6 _ := g6); have z6 : Lb.Own w6 wr.heap.size 25 #[.int .i64 0, .int .i64 0, .int .i64 0, .int .i64 0, .slice none 0 0, .slice none 0 0] := own_back j5 g6; have hG : wr.heap.size ≤ wr.heap.size := (Nat.le_refl _); obtain ⟨kc0, kc1, kc2, kc3, kc4, kc5, kf0, kf1, kf2, kf3, kf4, kf5⟩ := six_cells z6)) | ((with_reducible have gd : Below _ (World.drew wr) w5 := j5); refine step_app2 rfl (.tmp 139) (.tmp 142) 22 rfl wr.heap.size 3 i0 _ 8 Try.underlying22 hi0 hz0 hz1 hz2 rfl (.slice (some ⟨w5.heap.size, 0, none⟩) 1 1) 1 (zval [0]) (by simp [Act.eval, Act.put]) (mine_zero (by (repeat (with_reducible first | exact own_two j5 | exact own_one j5 | refine own_dr ?_ | exact own_at rfl | exact own_at (by simp) | refine own_al ?_ | refine below_own j5 ?_ (by simp <;> omega)))) y5) a5 (m1 + 1) n5 (zval l.reverse) (by simp [Act.eval, Act.put]) (hR5.below (by (repeat (with_reducible first | exact Below.refl _ _ | refine bel_drr ?_ | refine bel_al ?_ _)))) (fun _ _ => rfl) hmx hby (Below.size (by (repeat (with_reducible first | exact h6 | exact h5 | exact Below.refl _ _ | refine bel_drr ?_ | refine bel_al ?_ _)))) ?_; intro mB v6 w6 m6 g6 l6; have h6 : Below wr.heap.size wr w6 := Below.grown (by (repeat (with_reducible first | exact h6 | exact h5 | exact Below.refl _ _ | refine bel_drr ?_ | refine bel_al ?_ _))) g6 (Below.size (by (repeat (with_reducible first | exact h6 | exact h5 | exact Below.refl _ _ | refine bel_drr ?_ | refine bel_al ?_ _)))) (fun q hq => (mB.lt q hq).1); have s6 : (fun w' : World => (w'.cell? ⟨pa, po, none⟩ = some (.int .i64 x) ∧ w'.cell? ⟨g, 4, none⟩ = some (.slice a2 (m1 + 1) c2)) ∧ Below wr.heap.size wr w') w6 := keep_two h6 x0 y4; obtain ⟨a6, n6, rfl, hn6, hx6, hR6⟩ := m6.row; first | ((with_reducible have gd : World.grownBy (World.alloc (World.alloc w5 (.cells _ 3)) (.cells _ 25)) w6 _ := g6); have z6 : Lb.Own w6 (w5.heap.size + 1) 25 #[.int .i64 0, .int .i64 0, .int .i64 0, .int .i64 0, .slice none 0 0, .slice none 0 0] := grown_own g6 (by (repeat (with_reducible first | exact own_two j5 | exact own_one j5 | refine own_dr ?_ | exact own_at rfl | exact own_at (by simp) | refine own_al ?_ | refine below_own j5 ?_ (by simp <;> omega)))) (mine_not mB (by (repeat (with_reducible first | exact own_two j5 | exact own_one j5 | refine own_dr ?_ | exact own_at rfl | exact own_at (by simp) | refine own_al ?_ | refine below_own j5 ?_ (by simp <;> omega)))) (by decide)); have hG : wr.heap.size ≤ (w5.heap.size + 1) := (Nat.le_succ_of_le y5); obtain ⟨kc0, kc1, kc2, kc3, kc4, kc5, kf0, kf1, kf2, kf3, kf4, kf5⟩ := six_cells z6) | ((with_reducible have gd : World.grownBy (World.alloc w5 (.cells _ 3)) w6 _ := g6); have hG : wr.heap.size ≤ w6.heap.size := h6.size) | fail) | ((with_reducible have gd : Below _ (World.drew wr) w5 := j5); refine step_app2 rfl (.tmp 139) (.tmp 142) 22 rfl wr.heap.size 3 i0 _ 8 Try.underlying22 hi0 hz0 hz1 hz2 rfl (.slice (some ⟨(w5.heap.size + 1), 0, none⟩) 1 1) 1 (zval [0]) (by simp [Act.eval, Act.put]) (mine_zero (by (repeat (with_reducible first | exact own_two j5 | exact own_one j5 | refine own_dr ?_ | exact own_at rfl | exact own_at (by simp) | refine own_al ?_ | refine below_own j5 ?_ (by simp <;> omega)))) (Nat.le_succ_of_le y5)) a5 (m1 + 1) n5 (zval l.reverse) (by simp [Act.eval, Act.put]) (hR5.below (by (repeat (with_reducible first | exact Below.refl _ _ | refine bel_drr ?_ | refine bel_al ?_ _)))) (fun _ _ => rfl) hmx hby (Below.size (by (repeat (with_reducible first | exact h6 | exact h5 | exact Below.refl _ _ | refine bel_drr ?_ | refine bel_al ?_ _)))) ?_; intro mB v6 w6 m6 g6 l6; have h6 : Below wr.heap.size wr w6 := Below.grown (by (repeat (with_reducible first | exact h6 | exact h5 | exact Below.refl _ _ | refine bel_drr ?_ | refine bel_al ?_ _))) g6 (Below.size (by (repeat (with_reducible first | exact h6 | exact h5 | exact Below.refl _ _ | refine bel_drr ?_ | refine bel_al ?_ _)))) (fun q hq => (mB.lt q hq).1); have s6 : (fun w' : World => (w'.cell? ⟨pa, po, none⟩ = some (.int .i64 x) ∧ w'.cell? ⟨g, 4, none⟩ = some (.slice a2 (m1 + 1) c2)) ∧ Below wr.heap.size wr w') w6 := keep_two h6 x0 y4; obtain ⟨a6, n6, rfl, hn6, hx6, hR6⟩ := m6.row; ((with_reducible have gd : World.grownBy (World.alloc (World.alloc w5 (.cells _ 25)) (.cells _ 3)) w6 _ := g6); have z6 : Lb.Own w6 w5.heap.size 25 #[.int .i64 0, .int .i64 0, .int .i64 0, .int .i64 0, .slice none 0 0, .slice none 0 0] := own_pi g6 (row_ne _); have hG : wr.heap.size ≤ w5.heap.size := y5; obtain ⟨kc0, kc1, kc2, kc3, kc4, kc5, kf0, kf1, kf2, kf3, kf4, kf5⟩ := six_cells z6)) | fail) | fail)
          all_goals
            go_wp2_with fail
            go_meet
            first
              | (with_reducible exact dstN HM.out HLL.out HKD.out HX.out m6 hdl hdl1 hdl2 h6)
              | (with_reducible exact dst6 HM.out HLL.out HKD.out HX.out z6 m6 hdl hdl1 hdl2 h6 hG)
        case rest =>
          obtain ⟨h, a3, c3, b3, d3, rfl, hh, oh, ah, bh⟩ := hcut
          have bw : Below w.heap.size w wc := bel_two bb bh
          have hhw : w.heap.size ≤ h := Nat.le_trans bb.size hh
          have e0 : ((l.length : Int) - ((0 : Nat) : Int)) = (m : Int) := by rw [HM.out]; omega
          rw [← e0] at oh ah
          have hmm2 : 2 ≤ m ∧ m ≤ 15 := by omega
          clear x0 y4 s0 HBK hrow hdat hdl hdl1 hdl2 bh bb og r0' hm1b
          go_upto_region 19 with (fail)
          go_loopw [148, 15] (fun i s wr => ∃ (k : Nat) (a4 : Option Addr) (c4 : Nat) (b4 : Option Addr) (d4 : Nat), i = .int .i64 k ∧ s = .int .i64 ((dnL l).getD k 0) ∧ k ≤ m ∧ Lb.Own wr h 25 ((dnP l dl n ((l.length : Int) - (k : Int))).vals a4 c4 b4 d4) ∧ (∀ w', Just h wr w' → (dnP l dl n ((l.length : Int) - (k : Int))).At w' a4 c4 b4 d4) ∧ Below w.heap.size w wr) (fun i _ _ => m - (intOf i).toNat)
          case atStart => exact ⟨0, a3, c3, b3, d3, rfl, rfl, by omega, oh, ah, bw⟩
          case round =>
            clear oh ah bw
            obtain ⟨k, a4, c4, b4, d4, rfl, rfl, hkm, oh, ah, bw⟩ := hrel
            have ohl := oh.lt
            have hplen : (dnP l dl n ((l.length : Int) - (k : Int))).path.length = m + 1 := (dn_len l).trans (by rw [HM.out])
            have hdlen : (dnP l dl n ((l.length : Int) - (k : Int))).data.length = kd := HKD.out
            have hdn := down_any (dnP l dl n ((l.length : Int) - (k : Int))) a4 c4 b4 d4 ((dnL l).getD k 0) wr (ah _ (Just.refl _ _))
            have oh0 := oh
            unfold Pk.vals at oh
            rw [hplen, hdlen] at oh
            have y0 : wr.cell? ⟨h, 0, none⟩ = some (.int .i64 (dnP l dl n ((l.length : Int) - (k : Int))).f) := oh.cell 0
            have y1 : wr.cell? ⟨h, 1, none⟩ = some (.int .i64 (dnP l dl n ((l.length : Int) - (k : Int))).t) := oh.cell 1
            have y2 : wr.cell? ⟨h, 2, none⟩ = some (.int .i64 (dnP l dl n ((l.length : Int) - (k : Int))).n) := oh.cell 2
            have y3 : wr.cell? ⟨h, 3, none⟩ = some (.int .i64 (dnP l dl n ((l.length : Int) - (k : Int))).life) := oh.cell 3
            have y4 : wr.cell? ⟨h, 4, none⟩ = some (.slice a4 (m + 1) c4) := oh.cell 4
            have y5 : wr.cell? ⟨h, 5, none⟩ = some (.slice b4 kd d4) := oh.cell 5
            by_cases hlt2 : k < m
            · have hk2 : k < l.length := by rw [HM.out]; exact hlt2
              rw [down_hop W.out hk2] at hdn
              unfold Pk.vals at hdn
              rw [hplen, hdlen] at hdn
              have HDN := Lib.hid hdn
              have hnx : (dnL l).getD (k + 1) 0 = l.getD (l.length - 1 - k) 0 := dn_at hk2
              obtain ⟨K, hK⟩ : ∃ K, l.length - 1 - k = K := ⟨_, rfl⟩
              have hKm : K < m := by rw [← hK, HM.out]; omega
              have hKi : (m : Int) - 1 - (k : Int) = (K : Int) := by rw [← hK, HM.out]; omega
              rw [hK] at hnx
              obtain ⟨y, hy⟩ : ∃ y, (dnL l).getD (k + 1) 0 = y := ⟨_, rfl⟩
              rw [hy] at hnx
              have HNX := Lib.hid hnx
              clear hnx
              have HY := Lib.hid hy
              rw [hy] at HDN
              have hlife : (dnP l dl n ((l.length : Int) - ((k + 1 : Nat) : Int))).life = (m : Int) - (k : Int) - 1 := by
                show (l.length : Int) - ((k + 1 : Nat) : Int) = _
                rw [HM.out]; omega
              have hplen2 : (dnP l dl n ((l.length : Int) - ((k + 1 : Nat) : Int))).path.length = m + 1 := (dn_len l).trans (by rw [HM.out])
              have HE := Lib.hid (show dnP l dl n ((l.length : Int) - (k : Int) - 1) = dnP l dl n ((l.length : Int) - ((k + 1 : Nat) : Int)) by congr 1; omega)
              generalize dnP l dl n ((l.length : Int) - (k : Int)) = P at *
              generalize dnP l dl n ((l.length : Int) - ((k + 1 : Nat) : Int)) = P2 at *
              generalize (dnL l).getD k 0 = me at *
              clear hdn oh hy hK
              go_wp2_with fail
              refine HDN.out.mono ?_
              rintro r w4 ⟨ua, uc, ub, ue, rfl, uo, b4'⟩
              simp only at uo ⊢
              have o5 := Own.new w4 25 (P2.vals ua uc ub ue)
              have j5 := (Below.refl _ w4).alloc (Nat.le_refl _) (.cells (P2.vals ua uc ub ue) 25)
              have b5 := bw.trans (b4'.mono bw.size)
              have b6 := b5.alloc b5.size (.cells (P2.vals ua uc ub ue) 25)
              have uo5 := uo.below j5
              have oh5 := (below_own b4' oh0 ohl).alloc (.cells (P2.vals ua uc ub ue) 25)
              have hgk : h < w4.heap.size := by have := b4'.size; omega
              clear y0 y1 y2 y3 y4 y5 j5 b4' b5 uo oh0 HDN
              go_upto_region 22 with (refine wpList_alloc_store (P2.vals ua uc ub ue) rfl rfl rfl rfl infoP rfl rfl (by kernel_rfl) rfl (cells6 _ _ _ _ _) ?_)
              generalize w4.alloc (.cells (P2.vals ua uc ub ue) 25) = w5 at *
              generalize w4.heap.size = q at *
              have z3 : w5.cell? ⟨q, 3, none⟩ = some (.int .i64 ((m : Int) - (k : Int) - 1)) := (o5.cell 3).trans (by rw [← hlife]; rfl)
              obtain ⟨qa, qo, e0, _, xj⟩ := (HA.out.row.below b6).at_ (k := K) (by rw [HM.out]; exact hKm)
              injection e0 with e0
              injection e0 with e0 e1 _
              subst e0 e1
              unfold zval at xj
              rw [← HNX.out] at xj
              have t1 : IntKind.i64.wrap ((m : Int) - 1) = (m : Int) - 1 := IntWalk.i64_in _ (by omega)
              have t2 : IntKind.i64.wrap ((m : Int) - 1 - (k : Int)) = (K : Int) := by rw [hKi]; exact IntWalk.i64_in _ (by omega)
              have t2' : wrap64 ((m : Int) - 1 - (k : Int)) = (K : Int) := by rw [hKi]; exact IntWalk.wrap64_in _ ⟨by omega, by omega⟩
              have t3 : IntKind.i64.wrap ((m : Int) - (k : Int)) = (m : Int) - (k : Int) := IntWalk.i64_in _ (by omega)
              have t4 : IntKind.i64.wrap ((m : Int) - (k : Int) - 1) = (m : Int) - (k : Int) - 1 := IntWalk.i64_in _ (by omega)
              have t5 : (K : Int) < (m : Int) := by omega
              have t6 : (y != y) = false := by rw [bne_self_eq_false]
              have t7 : ((m : Int) - (k : Int) - 1 != (m : Int) - (k : Int) - 1) = false := by rw [bne_self_eq_false]
              go_upto_region 24 with (fail)
              refine wp_region_lit ?_
              refine wpList_load_row rfl 25 _ rfl q rfl 25 (P2.vals ua uc ub ue) (0, 0) _ o5 Try.underlying25 rfl (by kernel_rfl) ?_
              have oh7 := oh5.setRow (P2.vals ua uc ub ue)
              have b8 := (Just.setRow h w5 (P2.vals ua uc ub ue)).below b6 hhw b6.size
              have uo7 := uo5.setRow ohl (P2.vals ua uc ub ue)
              have au7 : ∀ w', Just h (w5.setRow h (P2.vals ua uc ub ue)) w' → P2.At w' ua uc ub ue := fun w' J => (show P2.Own w' _ ua uc ub ue from ⟨uo7.path.just J ohl, uo7.data.just J ohl⟩).at_
              go_wp2_with (refine wpList_store_row rfl 25 _ _ rfl h (P2.vals ua uc ub ue) rfl rfl 25 _ oh5 (by kernel_rfl) rfl (cells6 _ _ _ _ _) ?_)
              have hE2 : dnP l dl n ((l.length : Int) - ((k + 1 : Nat) : Int)) = P2 := by
                rw [← HE.out]; congr 1; omega
              exact ⟨⟨k + 1, ua, uc, ub, ue, by simp, by rw [HY.out], by omega, by rw [hE2]; exact oh7, by rw [hE2]; exact au7, b8⟩, by simp [intOf]; omega⟩
            · obtain rfl : k = m := by omega
              have hz : ((l.length : Int) - (k : Int)) = 0 := by rw [HM.out]; omega
              have hme : (dnL l).getD l.length 0 = x := dn_end (by rw [HM.out]; omega) HX.out
              have hmk : (dnL l).getD k 0 = x := by rw [← hme, HM.out]
              rw [hz] at oh0 ah
              rw [hmk]
              clear y0 y1 y2 y3 y4 y5 oh hdn hplen hdlen hz hmk
              have hdd := down_any (dnP l dl n 0) a4 c4 b4 d4 ((dnL l).getD l.length 0) wr (ah _ (Just.refl _ _))
              rw [down_dead W.out, dn_vals HM.out HKD.out HX.out, hme] at hdd
              rw [dn_vals HM.out HKD.out HX.out] at oh0
              have HDD := Lib.hid hdd
              have y0 : wr.cell? ⟨h, 0, none⟩ = some (.int .i64 0) := oh0.cell 0
              have y1 : wr.cell? ⟨h, 1, none⟩ = some (.int .i64 x) := oh0.cell 1
              have y2 : wr.cell? ⟨h, 2, none⟩ = some (.int .i64 n) := oh0.cell 2
              have y3 : wr.cell? ⟨h, 3, none⟩ = some (.int .i64 0) := oh0.cell 3
              have y4 : wr.cell? ⟨h, 4, none⟩ = some (.slice a4 (k + 1) c4) := oh0.cell 4
              have y5 : wr.cell? ⟨h, 5, none⟩ = some (.slice b4 kd d4) := oh0.cell 5
              clear hdd
              go_wp2_with fail
              refine HDD.out.mono ?_
              rintro r w4 ⟨ua, uc, ub, ue, rfl, uo, b4'⟩
              simp only at uo ⊢
              have b5 := bw.trans (b4'.mono bw.size)
              have b6 := b5.alloc b5.size (.cells (noP.vals ua uc ub ue) 25)
              have j6 : Just h wr (w4.alloc (.cells (noP.vals ua uc ub ue) 25)) := (just_of b4' rfl).alloc _
              have oh5 := (below_own b4' oh0 ohl).alloc (.cells (noP.vals ua uc ub ue) 25)
              clear y0 y1 y2 y3 y4 y5 b4' b5 uo oh0 HDD
              go_upto_region 27 with (refine wpList_alloc_store (noP.vals ua uc ub ue) rfl rfl rfl rfl infoP rfl rfl (by kernel_rfl) rfl (cells6 _ _ _ _ _) ?_)
              generalize w4.alloc (.cells (noP.vals ua uc ub ue) 25) = w5 at *
              have f3 : w5.frozen? ⟨h, 3, none⟩ = false := oh5.free 3
              have c3' : w5.cell? ⟨h, 3, none⟩ = some (.int .i64 0) := oh5.cell 3
              go_upto_region 28 with (fail)
              have oh6 := oh5.put 3 (.int .i64 1)
              have j7 : Just h wr (w5.setCell ⟨h, 3, none⟩ (.int .i64 1)) := j6.put 3 _
              have b7 := ((Just.refl h w5).put 3 (.int .i64 1)).below b6 hhw b6.size
              have ohl6 := oh6.lt
              generalize w5.setCell ⟨h, 3, none⟩ (.int .i64 1) = w6 at *
              have at0 := ah _ j7
              have at6 : (dnP l dl n 1).At w6 a4 c4 b4 d4 := ⟨at0.pc, at0.pm, at0.prow, at0.pnil, at0.dc, at0.dm, at0.drow, at0.dnil⟩
              have hdd := down_any (dnP l dl n 1) a4 c4 b4 d4 ((dnL l).getD l.length 0) w6 at6
              rw [down_last W.out, dn_vals HM.out HKD.out HX.out, hme] at hdd
              have HDD := Lib.hid hdd
              have y0 : w6.cell? ⟨h, 0, none⟩ = some (.int .i64 0) := oh6.cell 0
              have y1 : w6.cell? ⟨h, 1, none⟩ = some (.int .i64 x) := oh6.cell 1
              have y2 : w6.cell? ⟨h, 2, none⟩ = some (.int .i64 n) := oh6.cell 2
              have y3 : w6.cell? ⟨h, 3, none⟩ = some (.int .i64 1) := oh6.cell 3
              have y4 : w6.cell? ⟨h, 4, none⟩ = some (.slice a4 (k + 1) c4) := oh6.cell 4
              have y5 : w6.cell? ⟨h, 5, none⟩ = some (.slice b4 kd d4) := oh6.cell 5
              clear hdd f3 c3' j6 at0 at6
              go_wp2_with fail
              refine HDD.out.mono ?_
              rintro r w7 ⟨va, vc, vb, ve, rfl, vo, b8'⟩
              simp only at vo ⊢
              have b9 := b7.trans (b8'.mono b7.size)
              have b10 := b9.alloc b9.size (.cells (noP.vals va vc vb ve) 25)
              clear y0 y1 y2 y3 y4 y5 b8' b9 vo HDD
              go_upto_region 29 with (refine wpList_alloc_store (noP.vals va vc vb ve) rfl rfl rfl rfl infoP rfl rfl (by kernel_rfl) rfl (cells6 _ _ _ _ _) ?_)
              generalize w7.alloc (.cells (noP.vals va vc vb ve) 25) = w8 at *
              obtain ⟨qa, qo, e1, _, xj⟩ := (HA.out.row.below b10).at_ (k := 0) (by rw [HM.out]; omega)
              injection e1 with e1
              injection e1 with e1 e2 _
              subst e1 e2
              unfold zval at xj
              rw [HX.out] at xj
              have x0 : w8.cell? ⟨pa, po, none⟩ = some (.int .i64 x) := xj
              have t0 : (x == x) = true := by simp
              go_wp2_with fail
              refine (awake_any _).mono ?_
              rintro r w9 ⟨rfl, b11⟩
              go_wp2_with fail
              go_ret
              exact ⟨rfl, b10.trans (b11.mono b10.size)⟩
theorem walk (H : Type) (enc : TypeId × Value → H) : Walk H enc Try.prog 5 Try.f5 := by
  intro W base args ds p hval hA
  rw [Try.params5] at hA hval
  obtain ⟨v0, v1, v2, v3, d0, d1, d2, d3, p0, p1, p2, p3, rfl, rfl, rfl, h0, h1, h2, h3⟩ := trodAll_four hA
  obtain ⟨a, l, c, rfl, a1, a2, a3, _⟩ := open_ints (hval 0 _ v0 rfl rfl) h0
  obtain ⟨life, rfl, rfl, rfl, _⟩ := open_int Try.underlying3 (hval 1 _ v1 rfl rfl) h1
  obtain ⟨b, dl, d, rfl, b1, b2, b3, _⟩ := open_bytes (hval 2 _ v2 rfl rfl) h2
  obtain ⟨n, rfl, rfl, rfl, _⟩ := open_int Try.underlying3 (hval 3 _ v3 rfl rfl) h3
  exact body a c l life b d dl n W ⟨a3, b3, a1, a2, b1, b2, Below.refl _ _⟩

set_option maxRecDepth 100000 in
theorem lifted (os : Os) (started : os.Started) (H : Type) (enc : TypeId × Value → H) :
    ReturnsInHanded {} Try.checked os 5 .any (Rows.routeWaysSpec.pre6 enc Try.prog Try.f5 Rows.routeWaysRow.domain false) (Rows.routeWaysSpec.post enc Try.prog Try.f5 false true false false) :=
  returnsInHanded_of_change (C := Try.checked) own started (by kernel_rfl) Try.func5
    (ChangeSpec.witness6 (enc := enc) (C := Try.checked) false ⟨#[], #[.slice none 0 0, .int .i64 0, .slice none 0 0, .int .i64 0], []⟩ 8 (by kernel_rfl) (by kernel_rfl) (by kernel_rfl) (by kernel_rfl))
    fun W base args ds gs before hval hW _ _ => step_of_walk laidOut (by rw [Try.params5]; exact of_decide_eq_true (by kernel_rfl)) (by kernel_rfl) Try.underlying4 rfl
      (fun ds h => by
        rw [Try.params5] at h
        match ds, h with
        | [_, _, _, _], _ => rfl) (walk H enc) W base args ds gs before hval hW

theorem holds : Rows.RouteWaysSaid :=
  OpenClaim.holds_of_wide 5 Try.f5 rfl rfl rfl rfl rfl rfl rfl ⟨rfl, rfl, rfl, rfl, rfl⟩ rfl rfl rfl rfl rfl (by kernel_rfl) Try.func5 (by kernel_rfl)
    (of_decide_eq_true (by kernel_rfl)) (by unfold Func.isWrapper; first | (rw [if_pos (by decide +kernel)]; kernel_rfl) | (rw [if_neg (by decide +kernel)]; exact ⟨rfl, rfl⟩))
    (fun os started H enc _ => lifted os started H enc)
#print axioms holds
end Go.Proofs.Ytcpmnfoenpdaeaa.RouteWays
