/-
  A node (chapter 24): the frame that node 0 sends when nothing waits. A node (chapter 24): events, as they lie; who comes in time (begin); whom it follows (follow). A node (chapter 24): what one that is not in time hears; the end of a slot of one that is not in time.
-/
import Derived.Test.YtiflmdekcjbmbaaGreatGNodeWaits24
import Derived.Test.YtiflmdekcjbmbaaGreatGNodeWaits23
import Derived.Test.YtiflmdekcjbmbaaGreatGNodeWaits05
import Derived.Laws.Append
set_option maxRecDepth 100000
namespace Go.Proofs.YtiflmdekcjbmbaaGreat.Nd
set_option linter.unusedVariables false
set_option linter.unusedSimpArgs false
open Go.RowKit Lb Ie Fm

theorem infoIE : (Tryz.prog.info? 59).map (fun i => (i.zero, i.size, i.bytes)) = some (some (.agg #[.int .i64 0, .int .i64 0, .int .i64 0, .int .i64 0, .slice none 0 0]), 5, 56) := by kernel_rfl
/-- A full row of one element grows: it lies anew. -/
theorem app_full (ty : TypeId) (w : World) (g g2 : Nat) (A B : Array Value) (hA : Own w g 59 A) (hB : Own w g2 59 B) (sA : A.size = 5) (sB : B.size = 5) :
    ∃ c w', (Builtin.append_ #[34, 34] ty #[.slice (some ⟨g, 0, none⟩) 1 1, .slice (some ⟨g2, 0, none⟩) 1 1]).run Tryz.prog w = .ok (.slice (some ⟨w.heap.size, 0, none⟩) 2 c) w' ∧ 2 ≤ c ∧ c ≤ maxLen ∧ (∀ k, k < 10 → w'.cell? ⟨w.heap.size, k, none⟩ = (A ++ B)[k]?) ∧ w.heap.size < w'.heap.size ∧ Below w.heap.size w w' := by
  obtain ⟨i0, hi0, hz0, hz1, hz2⟩ := info_parts infoIE
  have h1 : ∀ (q : Nat) (X : Array Value), Own w q 59 X → ∀ j v, X.toList[j]? = some v → w.cell? ((⟨q, 0, none⟩ : Addr).add j) = some v := by
    intro q X hX j v e
    rw [show (⟨q, 0, none⟩ : Addr).add j = ⟨q, j, none⟩ by unfold Addr.add; simp; exact fun h => h.symm, hX.cell, ← e]
    simp
  have hr := run_append_grow (P := Tryz.prog) (w := w) 34 ty 59 i0 _ Tryz.underlying34 hi0 hz0 ⟨g, 0, none⟩ 1 1 A.toList (by simp [sA, hz1]) (h1 g A hA) ⟨g2, 0, none⟩ 1 1 B.toList (by simp [sB, hz1]) (h1 g2 B hB) (by decide) (by decide) (by rw [hz2]; decide)
  refine ⟨_, _, hr, grownCap_ge _ _ _ _, grownCap_le_maxLen _ _ _ _ (by unfold maxLen; decide), ?_, by simp, ?_⟩
  · intro k hk
    have o := Own.new w.drew 59 (A.toList.toArray ++ B.toList.toArray ++ Builtin.zeroCells (Value.agg #[.int .i64 0, .int .i64 0, .int .i64 0, .int .i64 0, .slice none 0 0]).cells (grownCap w (1 + 1) 1 59 - (1 + 1)))
    have e := o.cell k
    rw [show w.drew.heap.size = w.heap.size from rfl] at e
    rw [e, Array.getElem?_append_left (by simp [sA, sB]; exact hk)]
  · exact (show Below w.heap.size w w.drew from ⟨rfl, rfl, rfl, Nat.le_refl _, fun _ _ => rfl⟩).alloc (Nat.le_refl _) _
theorem op_app {P : Program} {w : World} {o : Oper} {a : Act} {K : Act → World → Prop} {Q : Exit → Act → World → Prop} (s x : Operand) (t : TypeId)
    (ho : o.op = .call { callee := .builtin .append, args := #[s, x], argTypes := #[t, t] }) (v u v' : Value) (w1 : World) (hs : a.eval s = v) (hx : a.eval x = u) (hr : (Builtin.append_ #[t, t] o.type #[v, u]).run P w = .ok v' w1) (h : K (a.put o.dst v') w1) : o.wp P a w K Q := by
  unfold Oper.wp execOp
  simp only [ho, resolve, invoke, builtin, Sem.run_bind, Sem.run_pure, Result.andThen_ok, List.map_toArray, List.map_cons, List.map_nil, hs, hx, hr]
  exact h
section
variable {v : World}
/-- A slice of one element, in a value. -/
def iS (v : World) (B : Array Value) (f : Value → Value) (x : Value) (s : Gw v) : Prop := ∃ g, x = f (.slice (some ⟨g, 0, none⟩) 1 1) ∧ v.heap.size ≤ g ∧ Own s.toW g 59 B
def kS (v : World) (B : Array Value) (f : Value → Value) : Kd v := .grow (iS v B f) (fun _ _ _ h ⟨g, e, h1, h2⟩ => ⟨g, e, h1, below_own h.below h2 h2.lt⟩)
/-- A new cell. -/
def iA (v : World) (t : TypeId) (Z : Array Value) (x : Value) (s : Gw v) : Prop := ∃ g, x = .pointer (some ⟨g, 0, none⟩) ∧ v.heap.size ≤ g ∧ Own s.toW g t Z
def kA (v : World) (t : TypeId) (Z : Array Value) : Kd v := .grow (iA v t Z) (fun _ _ _ h ⟨g, e, h1, h2⟩ => ⟨g, e, h1, below_own h.below h2 h2.lt⟩)
/-- A value that is known. -/
def iC (v : World) (c : Value) (x : Value) (_ : Gw v) : Prop := x = c
def kC (v : World) (c : Value) : Kd v := .grow (iC v c) (fun _ _ _ _ h => h)
/-- Two elements. -/
def iP (v : World) (B : Array Value) (x : Value) (s : Gw v) : Prop := ∃ g c, x = .slice (some ⟨g, 0, none⟩) 2 c ∧ 2 ≤ c ∧ c ≤ maxLen ∧ v.heap.size ≤ g ∧ g < s.toW.heap.size ∧ ∀ k, k < 10 → s.toW.cell? ⟨g, k, none⟩ = B[k]?
def kP (v : World) (B : Array Value) : Kd v := .grow (iP v B) (fun _ _ _ h ⟨g, c, e, h1, h2, h3, h4, h5⟩ => ⟨g, c, e, h1, h2, h3, Nat.lt_of_lt_of_le h4 h.below.size, fun k hk => (h.below.cell (p := ⟨g, k, none⟩) h4).trans (h5 k hk)⟩)
end
theorem mine_at {w : World} {base n c : Nat} {e : TypeId} {a : Option Addr} {V : Nat → Value} (h : Mine w base e (.slice a n c) n V) : n ≤ c ∧ c ≤ maxLen ∧ Row w a n V ∧ (a = none → n = 0) := by
  obtain ⟨a', c', e', h1, h2, h3⟩ := h.row
  injection e' with e1 e2 e3
  subst e1 e3
  refine ⟨h1, h2, h3, fun e => ?_⟩
  rcases Nat.eq_zero_or_pos n with h0 | h0
  · exact h0
  · obtain ⟨b, off, h4, _⟩ := h3 h0
    rw [e] at h4
    cases h4
/-- The frame of node 0, when nothing waits. -/
def nextF0 (s : Ns) (asn : Int) : Fr := ⟨3, 0, 64, s.seq, [⟨1, asn, rankN s, 0, []⟩, ⟨3, 0, 0, 0, s.c.hops⟩], []⟩
set_option maxHeartbeats 4000000 in
theorem next0_any {w : World} {b : Nat} {s : Ns} {h : Hm} (n : Nd w b s h) (f : Fit s) (h0 : s.id = 0) (hq : s.q = []) (asn : Int) :
    Calls Tryz.prog 64 #[.pointer (some ⟨b, 0, none⟩), .int .i64 asn] w fun r w' => ∃ p : Fp, r = .returned (.agg p.vals) ∧ p.At w' ∧ p.fr = nextF0 s asn ∧ Below w.heap.size w w' := by
  have b0 := (Below.refl w.heap.size w).alloc (Nat.le_refl _) (.cells #[.int .i64 0, .int .i64 0, .int .i64 0, .int .i64 0, .slice none 0 0, .slice none 0 0] 37)
  have o0 := Own.new w 37 #[.int .i64 0, .int .i64 0, .int .i64 0, .int .i64 0, .slice none 0 0, .slice none 0 0]
  have n0 := n.below b0
  have HNW := Lib.hid n
  have HR := Lib.hid (f.root h0)
  have HQ := Lib.hid hq
  have HI := Lib.hid h0
  have HF := Lib.hid f
  go_enter Tryz.func64, Tryz.ntmps64
  go_upto_region 1 with (fail)
  have HB := Lib.hid b0
  obtain ⟨xb, hxb⟩ : ∃ q, w.heap.size = q := ⟨_, rfl⟩
  have HXB := Lib.hid hxb
  rw [hxb] at o0 ⊢
  clear b0 hxb n f h0 hq
  generalize w.alloc (.cells #[.int .i64 0, .int .i64 0, .int .i64 0, .int .i64 0, .slice none 0 0, .slice none 0 0] 37) = w0 at *
  have c0 : ∀ z : Gw w0, z.toW.cell? ⟨b, 0, none⟩ = some (.int .i64 0) := fun z => by rw [(n0.below z.ok).c_id, HI.out]
  obtain ⟨sq, hsq⟩ : ∃ q, s.seq = q := ⟨_, rfl⟩
  obtain ⟨rk, hrk⟩ : ∃ q, rankN s = q := ⟨_, rfl⟩
  have HSQ := Lib.hid hsq
  have HRK := Lib.hid hrk
  have c1 : ∀ z : Gw w0, z.toW.cell? ⟨b, 16, none⟩ = some (.int .i64 sq) := fun z => by rw [(n0.below z.ok).c_seq, hsq]
  have PB : Hid (∀ z : Gw w0, Calls Tryz.prog 128 #[.pointer (some ⟨b, 0, none⟩), .int .i64 asn] z.toW fun r w' => r = .returned (.agg #[.int .i64 1, .int .i64 asn, .int .i64 rk, .int .i64 0, .slice none 0 0]) ∧ Below z.toW.heap.size z.toW w') := Lib.hid (fun z => by
    have := beat_any (n0.below z.ok) asn
    rw [hrk] at this
    exact this)
  clear hsq hrk
  have HN := Lib.hid n0
  clear n0
  apply wp_tail_start
  case hl => repeat (first | exact Snoc.one _ | apply Snoc.cons)
  refine wp_region_tail w0 (Below.refl _ _) [.is (.pointer (some ⟨b, 0, none⟩)), .is (.pointer (some ⟨b, 0, none⟩)), .is (.pointer (some ⟨b, 0, none⟩)), .is (.int .i64 0), .is (.pointer (some ⟨b, 0, none⟩)), .is (.pointer (some ⟨b, 0, none⟩)), .is (.pointer (some ⟨b, 16, none⟩)), .is (.int .i64 sq), .is (.pointer (some ⟨b, 0, none⟩)), .is (.int .i64 asn), kC w0 (.agg #[.int .i64 1, .int .i64 asn, .int .i64 rk, .int .i64 0, .slice none 0 0]), kS w0 #[.int .i64 1, .int .i64 asn, .int .i64 rk, .int .i64 0, .slice none 0 0] id, kS w0 #[.int .i64 1, .int .i64 asn, .int .i64 rk, .int .i64 0, .slice none 0 0] (fun y => .agg #[.int .i64 3, .int .i64 0, .int .i64 64, .int .i64 sq, y, .slice none 0 0]), kA w0 37 #[.int .i64 0, .int .i64 0, .int .i64 0, .int .i64 0, .slice none 0 0, .slice none 0 0]] [] (by kernel_rfl) (by kernel_rfl) (by kernel_rfl) rfl (by kernel_rfl) ?_
  iterate 10
    refine kd_is (by rfl) (fun z hz K Q hK => ?_) ?_
    · go_big_op
      exact hK _ _ rfl rfl
    simp only [Act.put, List.setIfInBounds_toArray, List.set_cons_zero, List.set_cons_succ]
  refine kd_grow (by rfl) (fun z hz K Q hK => ?_) (fun x10 => ?_)
  · go_big_op
    refine (PB.out z).mono ?_
    rintro r w' ⟨rfl, b7⟩
    exact hK _ _ ⟨_, z.to w' b7, rfl, rfl, z.to_still w' b7, rfl⟩
  simp only [Act.put, List.setIfInBounds_toArray, List.set_cons_zero, List.set_cons_succ]
  refine kd_grow (by rfl) (fun z hz K Q hK => ?_) (fun x11 => ?_)
  · obtain rfl : x10 = .agg #[.int .i64 1, .int .i64 asn, .int .i64 rk, .int .i64 0, .slice none 0 0] := fact_at hz 10 (iC w0 (.agg #[.int .i64 1, .int .i64 asn, .int .i64 rk, .int .i64 0, .slice none 0 0])) x10 (by kernel_rfl) (by kernel_rfl) (by kernel_rfl)
    have bz := (Below.refl z.toW.heap.size z.toW).alloc (Nat.le_refl _) (.cells #[.int .i64 1, .int .i64 asn, .int .i64 rk, .int .i64 0, .slice none 0 0] 59)
    have oz := Own.new z.toW 59 #[.int .i64 1, .int .i64 asn, .int .i64 rk, .int .i64 0, .slice none 0 0]
    go_big_op
    exact hK _ _ ⟨_, z.to _ bz, rfl, rfl, z.to_still _ bz, _, rfl, z.ok.size, oz⟩
  simp only [Act.put, List.setIfInBounds_toArray, List.set_cons_zero, List.set_cons_succ]
  refine kd_grow (by rfl) (fun z hz K Q hK => ?_) (fun x12 => ?_)
  · obtain ⟨g, rfl, g1, g2⟩ := fact_at hz 11 (iS w0 #[.int .i64 1, .int .i64 asn, .int .i64 rk, .int .i64 0, .slice none 0 0] id) x11 (by kernel_rfl) (by kernel_rfl) (by kernel_rfl)
    go_big_op
    exact hK _ _ ⟨_, z, rfl, rfl, Gw.still.refl z, _, rfl, g1, g2⟩
  simp only [Act.put, List.setIfInBounds_toArray, List.set_cons_zero, List.set_cons_succ]
  refine kd_grow (by rfl) (fun z hz K Q hK => ?_) (fun x13 => ?_)
  · have bz := (Below.refl z.toW.heap.size z.toW).alloc (Nat.le_refl _) (.cells #[.int .i64 0, .int .i64 0, .int .i64 0, .int .i64 0, .slice none 0 0, .slice none 0 0] 37)
    have oz := Own.new z.toW 37 #[.int .i64 0, .int .i64 0, .int .i64 0, .int .i64 0, .slice none 0 0, .slice none 0 0]
    go_big_op
    exact hK _ _ ⟨_, z.to _ bz, rfl, rfl, z.to_still _ bz, _, rfl, z.ok.size, oz⟩
  simp only [Act.put, List.setIfInBounds_toArray, List.set_cons_zero, List.set_cons_succ]
  refine kd_nil (fun z hz => ?_)
  obtain ⟨g, rfl, g1, g2⟩ : iS w0 #[.int .i64 1, .int .i64 asn, .int .i64 rk, .int .i64 0, .slice none 0 0] (fun y => .agg #[.int .i64 3, .int .i64 0, .int .i64 64, .int .i64 sq, y, .slice none 0 0]) x12 z := hz 12 (.of (iS w0 #[.int .i64 1, .int .i64 asn, .int .i64 rk, .int .i64 0, .slice none 0 0] (fun y => .agg #[.int .i64 3, .int .i64 0, .int .i64 64, .int .i64 sq, y, .slice none 0 0]))) x12 (by kernel_rfl) (fun _ _ => rfl)
  obtain ⟨fb, rfl, k1, k2⟩ : iA w0 37 #[.int .i64 0, .int .i64 0, .int .i64 0, .int .i64 0, .slice none 0 0, .slice none 0 0] x13 z := hz 13 (.of (iA w0 37 #[.int .i64 0, .int .i64 0, .int .i64 0, .int .i64 0, .slice none 0 0, .slice none 0 0])) x13 (by kernel_rfl) (fun _ _ => rfl)
  rw [if_pos (by rfl)]
  have hth : z.toW.there fb 0 6 := fun j hj => ⟨by
    rw [Nat.zero_add, k2.cell, Array.getElem?_eq_getElem (by simpa using hj)]
    rfl, k2.free _⟩
  have jN := just_cells fb [.int .i64 3, .int .i64 0, .int .i64 64, .int .i64 sq, .slice (some ⟨g, 0, none⟩) 1 1, .slice none 0 0] 0 z.toW
  have oC : Own (z.toW.setCells fb 0 [.int .i64 3, .int .i64 0, .int .i64 64, .int .i64 sq, .slice (some ⟨g, 0, none⟩) 1 1, .slice none 0 0]) fb 37 #[.int .i64 3, .int .i64 0, .int .i64 64, .int .i64 sq, .slice (some ⟨g, 0, none⟩) 1 1, .slice none 0 0] := (((((k2.put 0 _).put 1 _).put 2 _).put 3 _).put 4 _).put 5 _
  have hgf : g ≠ fb := fun e => by
    subst e
    have := own_tid g2 k2
    revert this
    decide
  have oG := jN.own g2 hgf
  have bel2 := jN.below z.ok k1 z.ok.size
  have hgl := g1
  have hxl := o0.lt
  have oR := jN.own (below_own z.ok o0 o0.lt) (show xb ≠ fb by omega)
  refine wp_store_mid 37 (.tmp 5) (.tmp 23) rfl fb 0 #[.int .i64 3, .int .i64 0, .int .i64 64, .int .i64 sq, .slice (some ⟨g, 0, none⟩) 1 1, .slice none 0 0] rfl rfl hth (by kernel_rfl) (by simp [Value.oneCell']) ?_
  rw [List.toList_toArray]
  clear hth jN g2 k2 hz PB c0 c1
  generalize z.toW.setCells fb 0 [.int .i64 3, .int .i64 0, .int .i64 64, .int .i64 sq, .slice (some ⟨g, 0, none⟩) 1 1, .slice none 0 0] = w2 at *
  have n2 := HN.out.below bel2
  have c40 : w2.cell? ⟨b, 40, none⟩ = some (.pointer (some ⟨h.sb, 0, none⟩)) := by rw [n2.c_sb, HR.out.1]; rfl
  have c11 := n2.c_qb
  have c0 : w2.cell? ⟨b, 0, none⟩ = some (.int .i64 0) := by rw [n2.c_id, HI.out]
  have PF : Calls Tryz.prog 92 #[.pointer (some ⟨h.sb, 0, none⟩)] w2 fun r w' => r = .returned (.tuple #[.int .i64 0, .bool false]) ∧ w2 = w' := by
    have := Pa.fst_any 0 h.sb s.id s.rk s.set h.sv w2 (n2.set HR.out.1)
    rw [HR.out.2.1] at this
    exact this
  have PA : Calls Tryz.prog 129 #[.pointer (some ⟨h.qb, 0, none⟩), .int .i64 0] w2 fun r w' => r = .returned (.tuple #[.slice none 0 0, .bool false]) ∧ w2 = w' := by
    obtain ⟨l, hl, hk⟩ := n2.que
    rw [HQ.out] at hk
    obtain rfl := List.map_eq_nil_iff.1 hk
    exact Qu.at_no 0 h.qb s.c.queue s.lost [] h.qv 0 w2 hl (by simp)
  have HN2 := Lib.hid n2
  clear n2
  go_wp2_with fail
  refine PF.mono ?_
  rintro r w' ⟨rfl, rfl⟩
  go_wp2_with fail
  refine PA.mono ?_
  rintro r w' ⟨rfl, rfl⟩
  clear PF PA c40 c11
  go_upto_region 14 with (fail)
  clear c0
  obtain ⟨ha, hha⟩ : ∃ q, h.ha = q := ⟨_, rfl⟩
  obtain ⟨hc, hhc⟩ : ∃ q, h.hc = q := ⟨_, rfl⟩
  obtain ⟨hl, hhl⟩ : ∃ q, s.c.hops.length = q := ⟨_, rfl⟩
  have d3 : ∀ z : Gw w2, z.toW.cell? ⟨b, 3, none⟩ = some (.slice ha hl hc) := fun z => by rw [(HN2.out.below z.ok).c_hops, hha, hhc, hhl]
  have d4 : ∀ z : Gw w2, z.toW.cell? ⟨fb, 4, none⟩ = some (.slice (some ⟨g, 0, none⟩) 1 1) := fun z => (below_own z.ok oC oC.lt).cell 4
  have f4 : ∀ z : Gw w2, z.toW.frozen? ⟨fb, 4, none⟩ = false := fun z => (below_own z.ok oC oC.lt).free 4
  have OG : Hid (∀ z : Gw w2, Own z.toW g 59 #[.int .i64 1, .int .i64 asn, .int .i64 rk, .int .i64 0, .slice none 0 0]) := Lib.hid (fun z => below_own z.ok oG oG.lt)
  have HH := Lib.hid (And.intro hha (And.intro hhc hhl))
  clear hha hhc hhl
  apply wp_tail_start
  case hl => repeat (first | exact Snoc.one _ | apply Snoc.cons)
  refine wp_region_tail w2 (Below.refl _ _) [.is (.pointer (some ⟨fb, 4, none⟩)), .is (.slice (some ⟨g, 0, none⟩) 1 1), .is (.pointer (some ⟨b, 0, none⟩)), .is (.pointer (some ⟨b, 0, none⟩)), .is (.pointer (some ⟨b, 1, none⟩)), .is (.pointer (some ⟨b, 3, none⟩)), .is (.slice ha hl hc), .is (.agg #[.int .i64 3, .int .i64 0, .int .i64 0, .int .i64 0, .slice ha hl hc]), kS w2 #[.int .i64 3, .int .i64 0, .int .i64 0, .int .i64 0, .slice ha hl hc] id, kP w2 #[.int .i64 1, .int .i64 asn, .int .i64 rk, .int .i64 0, .slice none 0 0, .int .i64 3, .int .i64 0, .int .i64 0, .int .i64 0, .slice ha hl hc], .is (.pointer (some ⟨fb, 4, none⟩))] [] (by kernel_rfl) (by kernel_rfl) (by kernel_rfl) rfl (by kernel_rfl) ?_
  iterate 8
    refine kd_is (by rfl) (fun z hz K Q hK => ?_) ?_
    · go_big_op
      exact hK _ _ rfl rfl
    simp only [Act.put, List.setIfInBounds_toArray, List.set_cons_zero, List.set_cons_succ]
  refine kd_grow (by rfl) (fun z hz K Q hK => ?_) (fun x8 => ?_)
  · have bz := (Below.refl z.toW.heap.size z.toW).alloc (Nat.le_refl _) (.cells #[.int .i64 3, .int .i64 0, .int .i64 0, .int .i64 0, .slice ha hl hc] 59)
    have oz := Own.new z.toW 59 #[.int .i64 3, .int .i64 0, .int .i64 0, .int .i64 0, .slice ha hl hc]
    go_big_op
    exact hK _ _ ⟨_, z.to _ bz, rfl, rfl, z.to_still _ bz, _, rfl, z.ok.size, oz⟩
  simp only [Act.put, List.setIfInBounds_toArray, List.set_cons_zero, List.set_cons_succ]
  refine kd_grow (by rfl) (fun z hz K Q hK => ?_) (fun x9 => ?_)
  · obtain ⟨g3, rfl, e1, e2⟩ := fact_at hz 8 (iS w2 #[.int .i64 3, .int .i64 0, .int .i64 0, .int .i64 0, .slice ha hl hc] id) x8 (by kernel_rfl) (by kernel_rfl) (by kernel_rfl)
    obtain ⟨cc, w', hr, q1, q2, q3, q4, q5⟩ := app_full 34 z.toW g g3 #[.int .i64 1, .int .i64 asn, .int .i64 rk, .int .i64 0, .slice none 0 0] #[.int .i64 3, .int .i64 0, .int .i64 0, .int .i64 0, .slice ha hl hc] (OG.out z) e2 rfl rfl
    have e12 : ((#[.int .i64 1, .int .i64 asn, .int .i64 rk, .int .i64 0, .slice none 0 0] : Array Value) ++ (#[.int .i64 3, .int .i64 0, .int .i64 0, .int .i64 0, .slice ha hl hc] : Array Value)) = #[.int .i64 1, .int .i64 asn, .int .i64 rk, .int .i64 0, .slice none 0 0, .int .i64 3, .int .i64 0, .int .i64 0, .int .i64 0, .slice ha hl hc] := by simp
    rw [e12] at q3
    refine op_app (.tmp 82) (.tmp 89) 34 rfl _ _ _ w' rfl rfl hr ?_
    exact hK _ _ ⟨_, z.to w' q5, rfl, rfl, z.to_still w' q5, _, _, rfl, q1, q2, z.ok.size, q4, q3⟩
  simp only [Act.put, List.setIfInBounds_toArray, List.set_cons_zero, List.set_cons_succ]
  iterate 1
    refine kd_is (by rfl) (fun z hz K Q hK => ?_) ?_
    · go_big_op
      exact hK _ _ rfl rfl
    simp only [Act.put, List.setIfInBounds_toArray, List.set_cons_zero, List.set_cons_succ]
  refine kd_nil (fun z hz => ?_)
  obtain ⟨gg, cc, rfl, q1, q2, q3, q4, q5⟩ : iP w2 #[.int .i64 1, .int .i64 asn, .int .i64 rk, .int .i64 0, .slice none 0 0, .int .i64 3, .int .i64 0, .int .i64 0, .int .i64 0, .slice ha hl hc] x9 z := hz 9 (.of (iP w2 #[.int .i64 1, .int .i64 asn, .int .i64 rk, .int .i64 0, .slice none 0 0, .int .i64 3, .int .i64 0, .int .i64 0, .int .i64 0, .slice ha hl hc])) x9 (by kernel_rfl) (fun _ _ => rfl)
  rw [if_pos (by rfl)]
  have hcl := oC.lt
  have oC3 := below_own z.ok oC hcl
  have oR3 := below_own z.ok oR oR.lt
  have d5 : z.toW.cell? ⟨fb, 4, none⟩ = some (.slice (some ⟨g, 0, none⟩) 1 1) := oC3.cell 4
  have f5 : z.toW.frozen? ⟨fb, 4, none⟩ = false := oC3.free 4
  have oC4 : Own (z.toW.setCell ⟨fb, 4, none⟩ (.slice (some ⟨gg, 0, none⟩) 2 cc)) fb 37 #[.int .i64 3, .int .i64 0, .int .i64 64, .int .i64 sq, .slice (some ⟨gg, 0, none⟩) 2 cc, .slice none 0 0] := oC3.put 4 _
  have j4 := Just.set fb z.toW 4 (.slice (some ⟨gg, 0, none⟩) 2 cc)
  have hgx := oR.lt
  have oR4 := j4.own oR3 (show xb ≠ fb by omega)
  have b24 : Below w0.heap.size w0 (z.toW.setCell ⟨fb, 4, none⟩ (.slice (some ⟨gg, 0, none⟩) 2 cc)) := j4.below (bel2.trans (z.ok.mono bel2.size)) k1 (bel2.trans (z.ok.mono bel2.size)).size
  have hgg : ∀ k, k < 10 → (z.toW.setCell ⟨fb, 4, none⟩ (.slice (some ⟨gg, 0, none⟩) 2 cc)).cell? ⟨gg, k, none⟩ = (#[.int .i64 1, .int .i64 asn, .int .i64 rk, .int .i64 0, .slice none 0 0, .int .i64 3, .int .i64 0, .int .i64 0, .int .i64 0, .slice ha hl hc] : Array Value)[k]? := fun k hk => by
    rw [← q5 k hk]
    have e := j4.block gg q4 (show gg ≠ fb by omega)
    simp only [World.cell?, e]
  have hgl2 : gg < (z.toW.setCell ⟨fb, 4, none⟩ (.slice (some ⟨gg, 0, none⟩) 2 cc)).heap.size := Nat.lt_of_lt_of_le q4 j4.size
  clear hz OG d3 d4 f4 q4 q5
  go_big_op
  clear d5 f5
  generalize z.toW.setCell ⟨fb, 4, none⟩ (.slice (some ⟨gg, 0, none⟩) 2 cc) = w4 at *
  go_upto_region 15 with (fail)
  refine wp_row_out rfl rfl rfl rfl rfl oC4 Tryz.underlying37 rfl (by kernel_rfl) rfl rfl oR4 (by kernel_rfl) rfl (by simp [Value.oneCell']) ?_
  have jR := Just.setRow xb w4 #[.int .i64 3, .int .i64 0, .int .i64 64, .int .i64 sq, .slice (some ⟨gg, 0, none⟩) 2 cc, .slice none 0 0]
  go_wp2_with fail
  refine bodyPost_ret (results_cell_row rfl _ _ xb 37 _ (0, 0) _ rfl (oR4.setRow _) Tryz.underlying37 rfl (by kernel_rfl)) rfl ?_
  have bel4 : Below xb w (w4.setRow xb #[.int .i64 3, .int .i64 0, .int .i64 64, .int .i64 sq, .slice (some ⟨gg, 0, none⟩) 2 cc, .slice none 0 0]) := jR.below (by rw [← HXB.out]; exact HB.out.trans (b24.mono HB.out.size)) (Nat.le_refl _) (by have := HB.out.size; have := b24.size; have := HXB.out; omega)
  have j5 : ∀ k, k < 10 → (w4.setRow xb #[.int .i64 3, .int .i64 0, .int .i64 64, .int .i64 sq, .slice (some ⟨gg, 0, none⟩) 2 cc, .slice none 0 0]).cell? ⟨gg, k, none⟩ = (#[.int .i64 1, .int .i64 asn, .int .i64 rk, .int .i64 0, .slice none 0 0, .int .i64 3, .int .i64 0, .int .i64 0, .int .i64 0, .slice ha hl hc] : Array Value)[k]? := fun k hk => by
    rw [← hgg k hk]
    have e := jR.block gg hgl2 (show gg ≠ xb by omega)
    simp only [World.cell?, e]
  obtain ⟨k1, k2, k3⟩ := HH.out
  subst k1 k2
  refine ⟨⟨3, 0, 64, sq, [⟨⟨1, asn, rk, 0, []⟩, none, 0⟩, ⟨⟨3, 0, 0, 0, s.c.hops⟩, h.ha, h.hc⟩], some ⟨gg, 0, none⟩, cc, [], none, 0⟩, rfl, ⟨⟨q1, q2, fun _ => ⟨gg, 0, rfl, Nat.lt_of_lt_of_le hgl2 jR.size, fun i hi => ?_⟩, fun k hk => ?_⟩, Nat.le_refl _, by unfold maxLen; dsimp only; omega, Row.nil _ _ _, fun j hj => by cases hj⟩, ?_, ?_⟩
  · rw [Nat.zero_add, j5 i hi]
    rcases (show i = 0 ∨ i = 1 ∨ i = 2 ∨ i = 3 ∨ i = 4 ∨ i = 5 ∨ i = 6 ∨ i = 7 ∨ i = 8 ∨ i = 9 by have : i < 10 := hi; omega) with rfl | rfl | rfl | rfl | rfl | rfl | rfl | rfl | rfl | rfl
    all_goals first | rfl | (rw [← k3]; rfl)
  · rcases (show k = 0 ∨ k = 1 by have : k < 2 := hk; omega) with rfl | rfl
    · exact ⟨Nat.le_refl _, Nat.zero_le _, Row.nil _ _ _, fun _ => rfl⟩
    · have mm : Mine (w4.setRow xb #[.int .i64 3, .int .i64 0, .int .i64 64, .int .i64 sq, .slice (some ⟨gg, 0, none⟩) 2 cc, .slice none 0 0]) 0 3 (.slice h.ha s.c.hops.length h.hc) s.c.hops.length (zv s.c.hops) := (HNW.out.below (by rw [HXB.out]; exact bel4)).hops
      obtain ⟨e1, e2, e3, e4⟩ := mine_at mm
      exact ⟨e1, e2, e3, e4⟩
  · unfold nextF0
    rw [HSQ.out, HRK.out]
    rfl
  · rw [HXB.out]
    exact bel4
end Go.Proofs.YtiflmdekcjbmbaaGreat.Nd
set_option maxRecDepth 100000
namespace Go.Proofs.YtiflmdekcjbmbaaGreat.Nd
set_option linter.unusedVariables false
set_option linter.unusedSimpArgs false
open Go.RowKit Lb Ie Fm

/-- An event, and where its packet's rows lie. -/
structure EvP where
  k : Int
  i : Int
  s : Int
  c : Int
  p : Rt.Pk
  a : Option Addr
  pc : Nat
  b : Option Addr
  pd : Nat
def EvP.vals (e : EvP) : Array Value := #[.int .i64 e.k, .int .i64 e.i, .int .i64 e.s, .int .i64 e.c, .int .i64 e.p.f, .int .i64 e.p.t, .int .i64 e.p.n, .int .i64 e.p.life, .slice e.a e.p.path.length e.pc, .slice e.b e.p.data.length e.pd]
/-- An event without a packet. -/
def sev (k i x : Int) : EvP := ⟨k, i, x, 0, ⟨0, 0, 0, 0, [], []⟩, none, 0, none, 0⟩
theorem sev_vals (k i x : Int) : (sev k i x).vals = ev1 k i x := rfl
def evl (L : List EvP) (q : Nat) : Value := ((L.getD (q / 10) (sev 0 0 0)).vals[q % 10]?).getD undef
/-- A row of events, as it lies. -/
structure Evs (w : World) (L : List EvP) (a : Option Addr) (c : Nat) : Prop where
  lc : L.length ≤ c
  cm : c ≤ maxLen
  row : Row w a (L.length * 10) (evl L)
  pk : ∀ e, e ∈ L → e.p.At w e.a e.pc e.b e.pd
theorem Evs.below {w w' : World} {L : List EvP} {a : Option Addr} {c : Nat} (h : Evs w L a c) (j : Below w.heap.size w w') : Evs w' L a c := ⟨h.lc, h.cm, h.row.below j, fun e he => (h.pk e he).below j⟩
theorem at_none (w : World) : (⟨0, 0, 0, 0, [], []⟩ : Rt.Pk).At w none 0 none 0 := ⟨Nat.le_refl _, Nat.zero_le _, Row.nil _ _ _, fun _ => rfl, Nat.le_refl _, Nat.zero_le _, Row.nil _ _ _, fun _ => rfl⟩
theorem sev_at {w : World} {L : List EvP} (h : ∀ e, e ∈ L → ∃ k i x, e = sev k i x) : ∀ e, e ∈ L → e.p.At w e.a e.pc e.b e.pd := fun e he => by
  obtain ⟨k, i, x, rfl⟩ := h e he
  exact at_none w
theorem evl_app {L M : List EvP} (q : Nat) (hq : q < (L.length + M.length) * 10) : (if q < L.length * 10 then evl L q else evl M (q - L.length * 10)) = evl (L ++ M) q := by
  unfold evl
  by_cases h : q < L.length * 10
  · rw [if_pos h, List.getD_eq_getElem?_getD, List.getD_eq_getElem?_getD, List.getElem?_append_left (by omega)]
  · rw [if_neg h, List.getD_eq_getElem?_getD, List.getD_eq_getElem?_getD, List.getElem?_append_right (by omega), show (q - L.length * 10) / 10 = q / 10 - L.length by omega, show (q - L.length * 10) % 10 = q % 10 by omega]
theorem evl_at {L : List EvP} {e : EvP} {k : Nat} (he : L.getD k (sev 0 0 0) = e) (j : Nat) (hj : j < 10) : evl L (k * 10 + j) = (e.vals[j]?).getD undef := by
  unfold evl
  rw [show (k * 10 + j) / 10 = k by omega, show (k * 10 + j) % 10 = j by omega, he]
def limP (p m : Int) : Int := Ck.lim (p + Ck.lim m 1000000) 1000000000000
/-- It has come in time. -/
def begunN (s : Ns) (src rk asn m : Int) : Ns := { s with p := limP s.p m, inT := true, rk := rk + 1, set := [⟨src, rk, asn⟩], ks := 0 }
def beginB (s : Ns) (f : Fr) (rk : Int) : Bool := f.k == 3 && (decide (rk < 254) && decide (s.c.loss < s.lis))
def begunE (s : Ns) (src : Int) : List EvP := [sev 1 s.id src, sev 7 s.id src, sev 2 s.id src, sev 6 s.id src]
def BeginPost (s : Ns) (f : Fr) (rk asn m : Int) (b : Nat) (h : Hm) (w : World) (r : Ending) (w' : World) : Prop :=
  if beginB s f rk = true then ∃ a c h', r = .returned (.slice a 4 c) ∧ Evs w' (begunE s f.s) a c ∧ Nd w' b (begunN s f.s rk asn m) h' ∧ Mv (h.ex b) (h'.ex b) w w'
  else r = .returned (.slice none 0 0) ∧ Below w.heap.size w w'
/-- The first one that is heard. -/
theorem hear_first {me rk src asn : Int} (h1 : Pa.ndB src = true) (h2 : src ≠ me) (h3 : 0 ≤ rk ∧ rk ≤ 255) (h4 : 0 ≤ asn) : Pa.hearR me (rk + 1) [] ⟨src, rk, asn⟩ = rk + 1 ∧ Pa.hearL me (rk + 1) [] ⟨src, rk, asn⟩ = [⟨src, rk, asn⟩] := by
  have hm : Pa.mayH me ⟨src, rk, asn⟩ = true := by
    unfold Pa.mayH Pa.rkB
    simp only [h1, Bool.true_and, Bool.and_eq_true, decide_eq_true_eq]
    exact ⟨by simpa using h2, h3, h4⟩
  have e2 : Pa.l2 [] (⟨src, rk, asn⟩ : Pa.P) = [⟨src, rk, asn⟩] := rfl
  unfold Pa.hearR Pa.hearL
  rw [if_pos hm, if_pos hm, if_neg (by show ¬ (rk + 1 ≤ rk); omega), if_neg (by show ¬ (rk + 1 ≤ rk); omega)]
  refine ⟨?_, ?_⟩
  · unfold Pa.rk3
    rw [if_neg (by show ¬ (rk + 1 < rk + 1); omega)]
  · unfold Pa.l4 Pa.l3
    rw [if_neg (by show ¬ (rk + 1 < rk + 1); omega), e2]
    rfl
section
variable {v : World}
/-- A new row of n elements. -/
def iR (v : World) (t : TypeId) (n : Nat) (B : Array Value) (x : Value) (s : Gw v) : Prop := ∃ g, x = .slice (some ⟨g, 0, none⟩) n n ∧ v.heap.size ≤ g ∧ Own s.toW g t B
def kR (v : World) (t : TypeId) (n : Nat) (B : Array Value) : Kd v := .grow (iR v t n B) (fun _ _ _ h ⟨g, e, h1, h2⟩ => ⟨g, e, h1, below_own h.below h2 h2.lt⟩)
end
theorem mineK_low {w : World} {B B0 k n : Nat} {e : TypeId} {v : Value} {V : Nat → Value} (h : MineK w B e k v n V) (hb : B0 ≤ B) : MineK w B0 e k v n V := by
  obtain ⟨h1, h2⟩ := h
  refine ⟨h1, ?_⟩
  rcases h2 with h2 | ⟨g, cap, cur, hv, hg, r⟩
  · exact .inl h2
  · exact .inr ⟨g, cap, cur, hv, Nat.le_trans hb hg, r⟩
theorem just_below {b : Nat} {u v w : World} (h : Just b u v) (k : Below v.heap.size v w) : Just b u w :=
  ⟨k.os.trans h.os, k.tape.trans h.tape, k.output.trans h.output, Nat.le_trans h.size k.size, fun q hq hb => (k.block q (Nat.lt_of_lt_of_le hq h.size)).trans (h.block q hq hb)⟩
/-- A set that is new has turned. -/
theorem just_turn {b g : Nat} {u v w : World} {x y : Value} (h : Just b u v) (k : Pa.Turn v w g x y) (hg : u.heap.size ≤ g) (hx : ∀ q, x.ownBlock = some q → u.heap.size ≤ q) : Just b u w :=
  ⟨k.os.trans h.os, k.tape.trans h.tape, k.output.trans h.output, Nat.le_trans h.size k.size, fun q hq hb => (k.keep q (Nat.lt_of_lt_of_le hq h.size) (by omega) (fun e => by have := hx q e; omega)).trans (h.block q hq hb)⟩
/-- Four events' cells (more than some thirty elements in '#[..]' would lay 'let's). -/
def ev4 (si ps : Int) : Array Value := List.toArray (.int .i64 1 :: .int .i64 si :: .int .i64 ps :: .int .i64 0 :: .int .i64 0 :: .int .i64 0 :: .int .i64 0 :: .int .i64 0 :: .slice none 0 0 :: .slice none 0 0 :: .int .i64 7 :: .int .i64 si :: .int .i64 ps :: .int .i64 0 :: .int .i64 0 :: .int .i64 0 :: .int .i64 0 :: .int .i64 0 :: .slice none 0 0 :: .slice none 0 0 :: .int .i64 2 :: .int .i64 si :: .int .i64 ps :: .int .i64 0 :: .int .i64 0 :: .int .i64 0 :: .int .i64 0 :: .int .i64 0 :: .slice none 0 0 :: .slice none 0 0 :: .int .i64 6 :: .int .i64 si :: .int .i64 ps :: .int .i64 0 :: .int .i64 0 :: .int .i64 0 :: .int .i64 0 :: .int .i64 0 :: .slice none 0 0 :: .slice none 0 0 :: [])
theorem blk_heap {w w' : World} {b n : Nat} {t : TypeId} {V : Nat → Value} (h : w'.heap[b]? = w.heap[b]?) (k : Blk w b t n V) : Blk w' b t n V := h.trans k
theorem own_heap {w w' : World} {b : Nat} {t : TypeId} {cs : Array Value} (h : w'.heap[b]? = w.heap[b]?) (k : Own w b t cs) : Own w' b t cs := h.trans k
theorem begin_no {s : Ns} {f : Fr} {rk asn m : Int} {b : Nat} {h : Hm} {w w' : World} (hB : beginB s f rk = false) (j : Below w.heap.size w w') : BeginPost s f rk asn m b h w (.returned (.slice none 0 0)) w' := by
  unfold BeginPost
  rw [if_neg (by rw [hB]; decide)]
  exact ⟨rfl, j⟩
set_option maxHeartbeats 4000000 in
theorem begin_any {w : World} {b : Nat} {s : Ns} {h : Hm} (n : Nd w b s h) (hf : Fit s) (hT : s.inT = false) (p : Fp) (rk asn m : Int) (hs : 0 ≤ p.s ∧ p.s < 16 ∧ p.s ≠ s.id) (hr : 0 ≤ rk ∧ rk ≤ 255) (ha : 0 ≤ asn) :
    Calls Tryz.prog 74 #[.pointer (some ⟨b, 0, none⟩), .agg p.vals, .int .i64 rk, .int .i64 asn, .int .i64 m] w (BeginPost s p.fr rk asn m b h w) := by
  have hid : 0 ≤ s.id ∧ s.id < 16 := by have := hf.id; have := hf.c.nodes; omega
  have hid0 : s.id ≠ 0 := fun e => by have := (hf.root e).1; rw [hT] at this; cases this
  have HFT := Lib.hid hf
  clear hf
  obtain ⟨pk, ps, pd, pq, pL, pa, pc, pdata, pb, pe⟩ := p
  dsimp only at hs
  obtain ⟨F, hF⟩ : ∃ q, Fp.fr ⟨pk, ps, pd, pq, pL, pa, pc, pdata, pb, pe⟩ = q := ⟨_, rfl⟩
  have HFS : Hid (F.s = ps) := Lib.hid (by rw [← hF]; rfl)
  have hFk : F.k = pk := by rw [← hF]; rfl
  rw [hF]
  simp only [Fp.vals]
  clear hF
  obtain ⟨ll, hll⟩ : ∃ q, pL.length = q := ⟨_, rfl⟩
  obtain ⟨dl, hdl⟩ : ∃ q, pdata.length = q := ⟨_, rfl⟩
  rw [hll, hdl]
  clear hll hdl
  have b0 := (Below.refl w.heap.size w).alloc (Nat.le_refl _) (.cells #[.int .i64 pk, .int .i64 ps, .int .i64 pd, .int .i64 pq, .slice pa ll pc, .slice pb dl pe] 37)
  have o0 := Own.new w 37 #[.int .i64 pk, .int .i64 ps, .int .i64 pd, .int .i64 pq, .slice pa ll pc, .slice pb dl pe]
  have n0 := n.below b0
  have hnw := n.own.lt
  clear n
  have hBe : beginB s F rk = (F.k == 3 && (decide (rk < 254) && decide (s.c.loss < s.lis))) := rfl
  rw [hFk] at hBe
  clear hFk
  obtain ⟨lo, hlo⟩ : ∃ q, s.c.loss = q := ⟨_, rfl⟩
  obtain ⟨li, hli⟩ : ∃ q, s.lis = q := ⟨_, rfl⟩
  have HBE : Hid (beginB s F rk = (pk == 3 && (decide (rk < 254) && decide (lo < li)))) := Lib.hid (by rw [hBe, hlo, hli])
  have c7 := n0.c_loss
  have c42 := n0.c_lis
  rw [hlo] at c7
  rw [hli] at c42
  clear hBe hlo hli
  go_enter Tryz.func74, Tryz.ntmps74
  go_upto_region 1 with (fail)
  obtain ⟨fb, hfb⟩ : ∃ q, w.heap.size = q := ⟨_, rfl⟩
  have HB := Lib.hid b0
  have HXB := Lib.hid hfb
  rw [hfb] at o0 hnw ⊢
  clear b0 hfb
  generalize w.alloc (.cells #[.int .i64 pk, .int .i64 ps, .int .i64 pd, .int .i64 pq, .slice pa ll pc, .slice pb dl pe] 37) = w0 at *
  have d0 : w0.cell? ⟨fb, 0, none⟩ = some (.int .i64 pk) := o0.cell 0
  have HN0 := Lib.hid n0
  clear n0
  by_cases hB : beginB s F rk = true
  rotate_left 1
  · have HNO : Hid (beginB s F rk = false) := Lib.hid (by simpa using hB)
    rw [HBE.out] at hB
    have hor : (pk != 3) = true ∨ ((pk != 3) = false ∧ decide (254 ≤ rk) = true) ∨ ((pk != 3) = false ∧ decide (254 ≤ rk) = false ∧ decide (li ≤ lo) = true) := by
      simp at hB
      by_cases h1 : pk = 3
      · by_cases h2 : rk < 254
        · have := hB h1 h2
          exact .inr (.inr ⟨by simpa using h1, by simp; omega, by simp; omega⟩)
        · exact .inr (.inl ⟨by simpa using h1, by simp; omega⟩)
      · exact .inl (by simpa using h1)
    clear hB hs hr ha hid hid0 HBE
    rcases hor with g1 | ⟨g1, g2⟩ | ⟨g1, g2, g3⟩
    all_goals
      go_quiet (fail)
      have b1 := below_drewN HB.out nq
      generalize w0.drewN nq = w1 at *
      go_wp2_with fail
      go_ret
      exact begin_no HNO.out b1
  have HYES := Lib.hid hB
  rw [HBE.out] at hB
  simp only [Bool.and_eq_true, decide_eq_true_eq, beq_iff_eq] at hB
  obtain ⟨h1, h2, h3⟩ := hB
  have g1 : (pk != 3) = false := by simpa using h1
  have g2 : decide (254 ≤ rk) = false := by simp; omega
  have g3 : decide (li ≤ lo) = false := by simp; omega
  have e1 : IntKind.i64.wrap (rk + 1) = rk + 1 := IntWalk.i64_in _ (by omega)
  have hnd : Pa.ndB s.id = true := by unfold Pa.ndB; exact decide_eq_true hid
  have hnp : Pa.ndB ps = true := by unfold Pa.ndB; exact decide_eq_true ⟨hs.1, hs.2.1⟩
  have hrk : Pa.rkB (rk + 1) = true := by unfold Pa.rkB; exact decide_eq_true (by omega)
  have HFI := Lib.hid (hear_first hnp hs.2.2 hr ha)
  have hp := HFT.out.p
  have HRK2 := Lib.hid (show 0 ≤ rk + 1 ∧ rk + 1 ≤ 255 by omega)
  clear h1 h2 h3 HBE
  go_quiet (fail)
  have b1 := below_drewN HB.out nq
  have b1' := below_drewN (Below.refl w0.heap.size w0) nq
  have n1 := HN0.out.below b1'
  have o1 := o0.drewN nq
  clear g1 g2 g3 d0 c7 c42 o0 b1'
  generalize w0.drewN nq = w1 at *
  have c10 := n1.c_ck
  have PM := Ck.move_any h.ck s.p s.d s.s m w1 n1.clk (by omega) (by omega)
  have HN1 := Lib.hid n1
  clear n1
  go_wp2_with fail
  refine PM.mono ?_
  rintro r w2 ⟨rfl, hck, j2⟩
  clear PM c10
  have n2 := HN1.out.clock hck j2
  have hne : fb ≠ h.ck := fun e => by
    have := own_tid (e ▸ o1) HN1.out.clk
    revert this
    decide
  have o2 := j2.own o1 hne
  have HM2 : Hid (Mv (h.ex b) (h.ex b) w w2) := Lib.hid ((Mv.of_below b1).trans (Mv.of_just j2 (.inr (.inl rfl))))
  have f39 : w2.frozen? ⟨b, 39, none⟩ = false := n2.own.free 39
  have c39 : w2.cell? ⟨b, 39, none⟩ = some (.bool s.inT) := n2.c_inT
  have B3 := n2.own.put 39 (.bool true)
  have J3 := Just.set b w2 39 (.bool true)
  have hbf : b ≠ fb := Nat.ne_of_lt hnw
  have o3 := J3.own o2 (fun e => hbf e.symm)
  have HN2 := Lib.hid n2
  have HO2 := o2.lt
  clear o1 b1 j2 hck n2 o2
  go_upto_region 5 with (fail)
  clear f39 c39
  generalize w2.setCell ⟨b, 39, none⟩ (.bool true) = w3 at *
  have c0 : w3.cell? ⟨b, 0, none⟩ = some (.int .i64 s.id) := B3.cell (by decide)
  have PN := Pa.new_yes s.id (rk + 1) w3 hnd hrk
  go_wp2_with fail
  refine PN.mono ?_
  rintro r w4 ⟨rfl, hst, b4⟩
  have B4 := below_blk b4 B3 B3.lt
  have o4 := below_own b4 o3 o3.lt
  have J4 := just_below J3 b4
  have hs3 := J3.size
  obtain ⟨sb, hsb⟩ : ∃ q, w3.heap.size = q := ⟨_, rfl⟩
  rw [hsb] at hst hs3 ⊢
  have hbs : b ≠ sb := by have := B3.lt; omega
  have c40 : w4.cell? ⟨b, 40, none⟩ = some (.pointer none) := by
    rw [B4.cell (by decide)]
    show some (if s.inT = true then _ else _) = _
    rw [hT]
    rfl
  have f40 : w4.frozen? ⟨b, 40, none⟩ = false := B4.free 40
  have B5 := B4.put 40 (.pointer (some ⟨sb, 0, none⟩))
  have J5 := J4.put 40 (.pointer (some ⟨sb, 0, none⟩))
  have o5 := (Just.set b w4 40 (.pointer (some ⟨sb, 0, none⟩))).own o4 (fun e => hbf e.symm)
  have hst5 := (Tn.of_just (Just.set b w4 40 (.pointer (some ⟨sb, 0, none⟩))) B4).st hst (by decide) (by decide)
  clear PN c0 B3 o3 J3 b4 hst B4 o4 J4 hsb
  go_upto_region 6 with (fail)
  clear c40 f40
  generalize w4.setCell ⟨b, 40, none⟩ (.pointer (some ⟨sb, 0, none⟩)) = w5 at *
  have c40 : w5.cell? ⟨b, 40, none⟩ = some (.pointer (some ⟨sb, 0, none⟩)) := B5.cell (by decide)
  have d1 : w5.cell? ⟨fb, 1, none⟩ = some (.int .i64 ps) := o5.cell 1
  have PH := Pa.hear_any sb sb s.id (rk + 1) [] (.slice none 0 0) ⟨ps, rk, asn⟩ w5.drew (hst5.below (below_drewN (Below.refl _ _) 1)) (by decide) HRK2.out
  refine wp_region_still_tail 8 (by kernel_rfl) (by kernel_rfl) ?_
  simp only [List.take_succ_cons, List.take_zero, List.drop_succ_cons, List.drop_zero]
  repeat still_step
  refine wpStill_nil ?_
  change wpList _ _ _ _ _ w5.drew
  go_wp2_with fail
  refine PH.mono ?_
  rintro r w6 ⟨rfl, sv, hst6, tu⟩
  rw [HFI.out.1, HFI.out.2] at hst6
  have J6 := just_turn (J5.drewN 1) tu hs3 (fun q e => by cases e)
  have hbq : ∀ q, q < w5.heap.size → q ≠ sb → w6.heap[q]? = w5.heap[q]? := fun q h1 h2 => tu.keep q h1 h2 (fun e => by cases e)
  have B6 := blk_heap (hbq b B5.lt hbs) B5
  have hfs : fb ≠ sb := by omega
  have o6 := own_heap (hbq fb o5.lt hfs) o5
  have c6 : w6.cell? ⟨b, 6, none⟩ = some (.int .i64 s.c.keep) := B6.cell (by decide)
  have PK := Kp.new_any s.c.keep w6
  have hkp := HFT.out.c.keep
  rw [show min (max s.c.keep 1) 10000 = s.c.keep by omega] at PK
  clear PH c40 d1 B5 o5 J5 hst5 hbq tu
  go_wp2_with fail
  refine PK.mono ?_
  rintro r w7 ⟨rfl, hk7, b7, _⟩
  have B7 := below_blk b7 B6 B6.lt
  have o7 := below_own b7 o6 o6.lt
  have J7 := just_below J6 b7
  have hst7 := hst6.below b7
  have hs6 := J6.size
  have hbl6 := B6.lt
  obtain ⟨kb, hkb⟩ : ∃ q, w6.heap.size = q := ⟨_, rfl⟩
  rw [hkb] at hk7 hs6 hbl6 ⊢
  have hid2 : (s.id != 0) = true := by simpa using hid0
  have c41 : w7.cell? ⟨b, 41, none⟩ = some (.pointer none) := by
    rw [B7.cell (by decide)]
    show some (if (s.inT && s.id != 0) = true then _ else _) = _
    rw [hT]
    rfl
  have f41 : w7.frozen? ⟨b, 41, none⟩ = false := B7.free 41
  have B8 := B7.put 41 (.pointer (some ⟨kb, 0, none⟩))
  have J8 := J7.put 41 (.pointer (some ⟨kb, 0, none⟩))
  have o8 := (Just.set b w7 41 (.pointer (some ⟨kb, 0, none⟩))).own o7 (fun e => hbf e.symm)
  have t8 := Tn.of_just (Just.set b w7 41 (.pointer (some ⟨kb, 0, none⟩))) B7
  have hst8 := t8.st hst7 (by decide) (by decide)
  have hk8 : Kp.Kee (w7.setCell ⟨b, 41, none⟩ (.pointer (some ⟨kb, 0, none⟩))) kb s.c.keep 0 := t8.own hk7 (by decide)
  have htn := Tn.of_just J8 HN2.out.own
  have n8 : Nd (w7.setCell ⟨b, 41, none⟩ (.pointer (some ⟨kb, 0, none⟩))) b (begunN s ps rk asn m) { h with sb := sb, sv := sv, kb := kb } := by
    refine HN2.out.put J8 (B8.ext (fun i hi => ?_)) ⟨rfl, rfl, rfl⟩ ⟨rfl, rfl, rfl, rfl⟩ ⟨rfl, rfl, rfl, rfl⟩ ⟨rfl, rfl, rfl⟩ ⟨rfl, rfl, rfl⟩ ⟨rfl, rfl, rfl⟩ (fun _ => ⟨hst8.own, mineK_low hst8.row (Nat.zero_le _), hst8.srt, hst8.few, Nat.zero_le _⟩) (fun _ => hk8) (fun k hk => htn.mine (HN2.out.path k hk) (by decide))
    unfold ndV
    by_cases h1 : i < 23
    · rw [if_pos h1, if_pos h1, if_neg (by omega), if_neg (by omega), if_neg (by omega)]
      rcases idx23 i h1 with rfl | rfl | rfl | rfl | rfl | rfl | rfl | rfl | rfl | rfl | rfl | rfl | rfl | rfl | rfl | rfl | rfl | rfl | rfl | rfl | rfl | rfl | rfl <;> rfl
    · rw [if_neg h1, if_neg h1]
      by_cases h2 : i < 39
      · rw [if_pos h2, if_pos h2, if_neg (by omega), if_neg (by omega), if_neg (by omega)]
      · rw [if_neg h2, if_neg h2]
        rcases (show i = 39 ∨ i = 40 ∨ i = 41 ∨ i = 42 by omega) with rfl | rfl | rfl | rfl
        · rfl
        · rfl
        · show _ = (if (true && s.id != 0) = true then _ else _)
          rw [hid2]
          rfl
        · rfl
  have m8 : Mv (h.ex b) (Hm.ex { h with sb := sb, sv := sv, kb := kb } b) w (w7.setCell ⟨b, 41, none⟩ (.pointer (some ⟨kb, 0, none⟩))) := by
    have M := HM2.out
    have hw2 := M.size
    refine ⟨J8.os.trans M.os, J8.tape.trans M.tape, J8.output.trans M.output, Nat.le_trans M.size J8.size, fun q h1 h2 => (J8.block q (by omega) (fun e => h2 (.inl e))).trans (M.keep q h1 h2), fun q hq => ?_⟩
    rcases hq with e | e | e | e | e | e | e | e | e | e
    · exact .inl (.inl e)
    · exact .inl (.inr (.inl e))
    · exact .inl (.inr (.inr (.inl e)))
    · exact .inl (.inr (.inr (.inr (.inl e))))
    · exact .inl (.inr (.inr (.inr (.inr (.inl e)))))
    · exact .inl (.inr (.inr (.inr (.inr (.inr (.inl e))))))
    · exact .inl (.inr (.inr (.inr (.inr (.inr (.inr (.inl e)))))))
    · right
      have e : q = sb := e
      omega
    · right
      have := (hst6.row.lt q e).1
      omega
    · right
      have e : q = kb := e
      omega
  have HNM := Lib.hid (And.intro n8 m8)
  clear PK c6 B6 o6 J6 hst6 B7 o7 J7 hst7 b7 hk7 B8 J8 t8 hst8 hk8 htn n8 m8
  go_upto_region 8 with (fail)
  clear c41 f41
  generalize w7.setCell ⟨b, 41, none⟩ (.pointer (some ⟨kb, 0, none⟩)) = w8 at *
  obtain ⟨n8, m8⟩ := HNM.out
  have d1 : ∀ z : Gw w8, z.toW.cell? ⟨fb, 1, none⟩ = some (.int .i64 ps) := fun z => (below_own z.ok o8 o8.lt).cell 1
  obtain ⟨si, hsi⟩ : ∃ q, s.id = q := ⟨_, rfl⟩
  have PE : Hid (∀ z : Gw w8, ∀ k, Calls Tryz.prog 75 #[.pointer (some ⟨b, 0, none⟩), .int .i64 k, .int .i64 ps] z.toW fun r w' => r = .returned (.agg #[.int .i64 k, .int .i64 si, .int .i64 ps, .int .i64 0, .int .i64 0, .int .i64 0, .int .i64 0, .int .i64 0, .slice none 0 0, .slice none 0 0]) ∧ Below z.toW.heap.size z.toW w') := Lib.hid (fun z k => by
    rw [← hsi]
    exact event_any (n8.below z.ok) k ps)
  have HSI := Lib.hid hsi
  have HN8 := Lib.hid n8
  have HM8 := Lib.hid m8
  clear hsi n8 m8 o8 HNM
  refine wp_region_grow w8 (Below.refl _ _) [.is (.pointer (some ⟨b, 0, none⟩)), .is (.pointer (some ⟨fb, 1, none⟩)), .is (.int .i64 ps), .is (.agg #[.int .i64 1, .int .i64 si, .int .i64 ps, .int .i64 0, .int .i64 0, .int .i64 0, .int .i64 0, .int .i64 0, .slice none 0 0, .slice none 0 0]), .is (.pointer (some ⟨b, 0, none⟩)), .is (.pointer (some ⟨fb, 1, none⟩)), .is (.int .i64 ps), .is (.agg #[.int .i64 7, .int .i64 si, .int .i64 ps, .int .i64 0, .int .i64 0, .int .i64 0, .int .i64 0, .int .i64 0, .slice none 0 0, .slice none 0 0]), .is (.pointer (some ⟨b, 0, none⟩)), .is (.pointer (some ⟨fb, 1, none⟩)), .is (.int .i64 ps), .is (.agg #[.int .i64 2, .int .i64 si, .int .i64 ps, .int .i64 0, .int .i64 0, .int .i64 0, .int .i64 0, .int .i64 0, .slice none 0 0, .slice none 0 0]), .is (.pointer (some ⟨b, 0, none⟩)), .is (.pointer (some ⟨fb, 1, none⟩)), .is (.int .i64 ps), .is (.agg #[.int .i64 6, .int .i64 si, .int .i64 ps, .int .i64 0, .int .i64 0, .int .i64 0, .int .i64 0, .int .i64 0, .slice none 0 0, .slice none 0 0]), kR w8 72 4 (ev4 si ps), kR w8 72 4 (ev4 si ps)] [] (by kernel_rfl) (by kernel_rfl) rfl (by kernel_rfl) ?_
  iterate 3
    refine kd_is (by rfl) (fun z hz K Q hK => ?_) ?_
    · go_big_op
      exact hK _ _ rfl rfl
    simp only [Act.put, List.setIfInBounds_toArray, List.set_cons_zero, List.set_cons_succ]
  refine kd_isc (by rfl) (fun z hz K Q hK => ?_) ?_
  · go_big_op
    refine (PE.out z 1).mono ?_
    rintro r w' ⟨rfl, b7⟩
    exact hK _ _ rfl b7
  simp only [Act.put, List.setIfInBounds_toArray, List.set_cons_zero, List.set_cons_succ]
  iterate 3
    refine kd_is (by rfl) (fun z hz K Q hK => ?_) ?_
    · go_big_op
      exact hK _ _ rfl rfl
    simp only [Act.put, List.setIfInBounds_toArray, List.set_cons_zero, List.set_cons_succ]
  refine kd_isc (by rfl) (fun z hz K Q hK => ?_) ?_
  · go_big_op
    refine (PE.out z 7).mono ?_
    rintro r w' ⟨rfl, b7⟩
    exact hK _ _ rfl b7
  simp only [Act.put, List.setIfInBounds_toArray, List.set_cons_zero, List.set_cons_succ]
  iterate 3
    refine kd_is (by rfl) (fun z hz K Q hK => ?_) ?_
    · go_big_op
      exact hK _ _ rfl rfl
    simp only [Act.put, List.setIfInBounds_toArray, List.set_cons_zero, List.set_cons_succ]
  refine kd_isc (by rfl) (fun z hz K Q hK => ?_) ?_
  · go_big_op
    refine (PE.out z 2).mono ?_
    rintro r w' ⟨rfl, b7⟩
    exact hK _ _ rfl b7
  simp only [Act.put, List.setIfInBounds_toArray, List.set_cons_zero, List.set_cons_succ]
  iterate 3
    refine kd_is (by rfl) (fun z hz K Q hK => ?_) ?_
    · go_big_op
      exact hK _ _ rfl rfl
    simp only [Act.put, List.setIfInBounds_toArray, List.set_cons_zero, List.set_cons_succ]
  refine kd_isc (by rfl) (fun z hz K Q hK => ?_) ?_
  · go_big_op
    refine (PE.out z 6).mono ?_
    rintro r w' ⟨rfl, b7⟩
    exact hK _ _ rfl b7
  simp only [Act.put, List.setIfInBounds_toArray, List.set_cons_zero, List.set_cons_succ]
  refine kd_grow (by rfl) (fun z hz K Q hK => ?_) (fun x16 => ?_)
  · have bz := (Below.refl z.toW.heap.size z.toW).alloc (Nat.le_refl _) (.cells (ev4 si ps) 72)
    have oz := Own.new z.toW 72 (ev4 si ps)
    go_big_op
    exact hK _ _ ⟨_, z.to _ bz, rfl, rfl, z.to_still _ bz, _, rfl, z.ok.size, oz⟩
  simp only [Act.put, List.setIfInBounds_toArray, List.set_cons_zero, List.set_cons_succ]
  refine kd_grow (by rfl) (fun z hz K Q hK => ?_) (fun x17 => ?_)
  · obtain ⟨g, rfl, g1, g2⟩ := fact_at hz 16 (iR w8 72 4 (ev4 si ps)) x16 (by kernel_rfl) (by kernel_rfl) (by kernel_rfl)
    go_big_op
    exact hK _ _ ⟨_, z, rfl, rfl, Gw.still.refl z, g, rfl, g1, g2⟩
  simp only [Act.put, List.setIfInBounds_toArray, List.set_cons_zero, List.set_cons_succ]
  refine kd_nil (fun z hz => ?_)
  obtain ⟨g, rfl, g1, g2⟩ : iR w8 72 4 (ev4 si ps) x17 z := hz 17 (.of (iR w8 72 4 (ev4 si ps))) x17 (by kernel_rfl) (fun _ _ => rfl)
  clear hz PE
  go_wp2_with fail
  go_ret
  unfold BeginPost
  rw [if_pos HYES.out]
  rw [HFS.out]
  refine ⟨_, _, _, rfl, ⟨Nat.le_refl _, by decide, fun _ => ⟨g, 0, rfl, g2.lt, fun i hi => ?_⟩, sev_at (fun e he => ?_)⟩, HN8.out.below z.ok, HM8.out.trans (Mv.of_below z.ok)⟩
  · rw [Nat.zero_add, g2.cell, ← HSI.out]
    have hi : i < 40 := hi
    have e : i = i / 10 * 10 + i % 10 := by omega
    have h1 : i / 10 = 0 ∨ i / 10 = 1 ∨ i / 10 = 2 ∨ i / 10 = 3 := by omega
    have h2 : i % 10 = 0 ∨ i % 10 = 1 ∨ i % 10 = 2 ∨ i % 10 = 3 ∨ i % 10 = 4 ∨ i % 10 = 5 ∨ i % 10 = 6 ∨ i % 10 = 7 ∨ i % 10 = 8 ∨ i % 10 = 9 := by omega
    rw [e]
    rcases h1 with h1 | h1 | h1 | h1 <;> rcases h2 with h2 | h2 | h2 | h2 | h2 | h2 | h2 | h2 | h2 | h2 <;> rw [h1, h2] <;> rfl
  · rcases List.mem_cons.1 he with rfl | he
    · exact ⟨_, _, _, rfl⟩
    rcases List.mem_cons.1 he with rfl | he
    · exact ⟨_, _, _, rfl⟩
    rcases List.mem_cons.1 he with rfl | he
    · exact ⟨_, _, _, rfl⟩
    rcases List.mem_cons.1 he with rfl | he
    · exact ⟨_, _, _, rfl⟩
    · cases he
end Go.Proofs.YtiflmdekcjbmbaaGreat.Nd
set_option maxRecDepth 100000
namespace Go.Proofs.YtiflmdekcjbmbaaGreat.Nd
set_option linter.unusedVariables false
set_option linter.unusedSimpArgs false
open Go.RowKit Lb Ie Fm

def limM (m : Int) : Int := min (max m (-30000)) 30000
/-- Nothing goes back, nothing is told. -/
def NoHear (w : World) (r : Ending) (w' : World) : Prop := r = .returned (.tuple #[.slice none 0 0, .slice none 0 0]) ∧ Below w.heap.size w w'
def HearOut (s : Ns) (asn : Int) (L : List Int) (m : Int) (b : Nat) (h : Hm) (w : World) (r : Ending) (w' : World) : Prop :=
  match readN s asn L with
  | none => NoHear w r w'
  | some (f, rk) => if beginB s f rk = true then ∃ a c h', r = .returned (.tuple #[.slice none 0 0, .slice a 4 c]) ∧ Evs w' (begunE s f.s) a c ∧ Nd w' b (begunN s f.s rk asn (limM m)) h' ∧ Mv (h.ex b) (h'.ex b) w w' else NoHear w r w'
set_option maxHeartbeats 4000000 in
theorem hear_out {w : World} {b : Nat} {s : Ns} {h : Hm} (n : Nd w b s h) (hf : Fit s) (hT : s.inT = false) (asn : Int) (a : Option Addr) (c : Nat) (L : List Int) (m : Int) (hlc : L.length ≤ c) (hcm : c ≤ maxLen) (h5 : L.length ≤ 100000) (hR : Row w a L.length (bval L)) (hd : okD' L) :
    Calls Tryz.prog 22 #[.pointer (some ⟨b, 0, none⟩), .int .i64 asn, .slice a L.length c, .int .i64 m] w (HearOut s asn L m b h w) := by
  have PL := lives_any n
  have hnn := hf.c.nodes
  have PR := read_any n (by omega) asn a c L hlc hcm h5 hR hd
  obtain ⟨nl, hnl⟩ : ∃ q, L.length = q := ⟨_, rfl⟩
  rw [hnl] at PR ⊢
  have HN := Lib.hid n
  have HF := Lib.hid hf
  have HT := Lib.hid hT
  clear hlc hcm h5 hR hd hnl n hf hT hnn
  go_enter Tryz.func22, Tryz.ntmps22
  go_wp2_with fail
  refine PL.mono ?_
  rintro r w' ⟨rfl, rfl⟩
  clear PL
  go_wp2_with fail
  refine PR.mono ?_
  rintro r w1 ⟨b1, hP⟩
  clear PR
  cases hr : readN s asn L with
  | none =>
    rw [hr] at hP
    obtain rfl := hP
    have HR := Lib.hid hr
    clear hr
    rw [zFv]
    go_wp2_with fail
    go_ret2
    unfold HearOut
    rw [HR.out]
    exact ⟨rfl, b1.trans ((Below.refl w1.heap.size w1).alloc (Nat.le_refl _) _ |>.mono b1.size)⟩
  | some q =>
    obtain ⟨f, rk⟩ := q
    rw [hr] at hP
    obtain ⟨p, hpf, rfl, hat, hlow⟩ := hP
    have HR := Lib.hid hr
    obtain ⟨ha, hdec, hsn, hsi, _⟩ := readN_out hr
    have hrk := readN_rank hr
    have hn16 := HF.out.c.nodes
    have hps : p.s = f.s := congrArg Fr.s hpf
    have PB := fun (wz : World) (k : Below w.heap.size w wz) (m2 : Int) => begin_any (HN.out.below k) HF.out HT.out p rk asn m2 (by rw [hps]; omega) hrk ha.1
    rw [hpf] at PB
    obtain ⟨pk, ps, pd, pq, pL, pa, pc, pdata, pb, pe⟩ := p
    simp only [Fp.vals] at PB ⊢
    obtain ⟨ll, hll⟩ : ∃ q, pL.length = q := ⟨_, rfl⟩
    obtain ⟨dl, hdl⟩ : ∃ q, pdata.length = q := ⟨_, rfl⟩
    rw [hll, hdl] at PB
    rw [hll, hdl]
    have b2 := b1.trans (((Below.refl w1.heap.size w1).alloc (Nat.le_refl _) (.cells #[.int .i64 pk, .int .i64 ps, .int .i64 pd, .int .i64 pq, .slice pa ll pc, .slice pb dl pe] 37)).mono b1.size)
    have o2 := Own.new w1 37 #[.int .i64 pk, .int .i64 ps, .int .i64 pd, .int .i64 pq, .slice pa ll pc, .slice pb dl pe]
    clear hr ha hdec hsn hsi hrk hn16 hps hll hdl hpf hat hlow b1
    go_upto_region 4 with (fail)
    obtain ⟨fb, hfb⟩ : ∃ q, w1.heap.size = q := ⟨_, rfl⟩
    rw [hfb] at o2 ⊢
    generalize w1.alloc (.cells #[.int .i64 pk, .int .i64 ps, .int .i64 pd, .int .i64 pq, .slice pa ll pc, .slice pb dl pe] 37) = w2 at *
    clear hfb
    clear w1
    have HPB := Lib.hid (PB w2 b2 (limM m))
    clear PB
    have c39 : w2.cell? ⟨b, 39, none⟩ = some (.bool false) := by rw [(HN.out.below b2).c_inT, HT.out]
    have hmm : min (max m (-30000)) 30000 = limM m := rfl
    obtain ⟨mm, hm2⟩ : ∃ q, limM m = q := ⟨_, rfl⟩
    have HMM := Lib.hid hm2
    rw [hm2] at hmm HPB
    clear hm2
    go_upto_region 7 with (fail)
    clear hmm
    go_wp2_with (refine wpList_load_row rfl _ _ rfl fb rfl 37 #[.int .i64 pk, .int .i64 ps, .int .i64 pd, .int .i64 pq, .slice pa ll pc, .slice pb dl pe] (0, 0) _ o2 Tryz.underlying37 rfl (by kernel_rfl) ?_)
    refine HPB.out.mono ?_
    intro r w3 hQ
    unfold BeginPost at hQ
    have HB2 := Lib.hid b2
    clear HPB c39 o2 b2
    by_cases hB : beginB s f rk = true
    · rw [if_pos hB] at hQ
      have HBB := Lib.hid hB
      obtain ⟨a9, c9, h', rfl, he, hn9, hm9⟩ := hQ
      have HE := Lib.hid (And.intro he (And.intro hn9 hm9))
      clear hB he hn9 hm9
      go_wp2_with fail
      go_ret2
      unfold HearOut
      rw [HR.out]
      simp only
      rw [if_pos HBB.out, HMM.out]
      exact ⟨a9, c9, h', rfl, HE.out.1, HE.out.2.1, (Mv.of_below HB2.out).trans HE.out.2.2⟩
    · rw [if_neg hB] at hQ
      have HBB := Lib.hid hB
      obtain ⟨rfl, b3⟩ := hQ
      clear hB
      go_wp2_with fail
      go_ret2
      unfold HearOut
      rw [HR.out]
      simp only
      rw [if_neg HBB.out]
      exact ⟨rfl, HB2.out.trans (b3.mono HB2.out.size)⟩
theorem end_out {w : World} {b : Nat} {s : Ns} {h : Hm} (n : Nd w b s h) (hT : s.inT = false) (asn : Int) :
    Calls Tryz.prog 26 #[.pointer (some ⟨b, 0, none⟩), .int .i64 asn] w fun r w' => r = .returned (.slice none 0 0) ∧ w = w' := by
  have PS := synced_any n
  rw [hT] at PS
  clear n
  go_enter Tryz.func26, Tryz.ntmps26
  go_wp2_with fail
  refine PS.mono ?_
  rintro r w' ⟨rfl, rfl⟩
  go_wp2_with fail
  go_ret
  exact ⟨rfl, rfl⟩
end Go.Proofs.YtiflmdekcjbmbaaGreat.Nd
