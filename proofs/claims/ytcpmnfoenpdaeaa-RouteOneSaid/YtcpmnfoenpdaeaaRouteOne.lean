/-
  Law RouteOne: a packet's bytes say which it is: two that may be have the same bytes just if they are the same; the call returns true. No condition.
-/
import Derived.Test.YtcpmnfoenpdaeaaRtOne
import Derived.Test.YtcpmnfoenpdaeaaRtAwake
import Derived.Test.YtcpmnfoenpdaeaaExt
set_option maxRecDepth 100000
namespace Go.Proofs.Ytcpmnfoenpdaeaa.RouteOne
set_option linter.unusedVariables false
open Go.RowKit Go.ChangeShapes Go.WideShapes Go.ChangeAt Go.Deep Lb Rt
set_option linter.unusedVariables false
theorem own : ownKnob Try.prog.godebug = none := by kernel_rfl
theorem laidOut : laidOutB Try.prog = true := by kernel_rfl
set_option maxHeartbeats 4000000 in
theorem body (p q : Pk) (a : Option Addr) (c : Nat) (b : Option Addr) (d : Nat) (a2 : Option Addr) (c2 : Nat) (b2 : Option Addr) (d2 : Nat) (w : World) (h : p.At w a c b d) (k : q.At w a2 c2 b2 d2) (hp : okD p.data) (hq : okD q.data) :
    Calls Try.prog 8 #[.agg (p.vals a c b d), .agg (q.vals a2 c2 b2 d2)] w fun r w' => r = .returned (.bool true) ∧ Below w.heap.size w w' := by
  have o1 : Lb.Own ((w.alloc (.cells (p.vals a c b d) 25)).alloc (.cells (q.vals a2 c2 b2 d2) 25)) w.heap.size 25 (p.vals a c b d) := (Own.new w _ _).alloc _
  have o2 : Lb.Own ((w.alloc (.cells (p.vals a c b d) 25)).alloc (.cells (q.vals a2 c2 b2 d2) 25)) (w.heap.size + 1) 25 (q.vals a2 c2 b2 d2) := by
    have := Own.new (w.alloc (.cells (p.vals a c b d) 25)) 25 (q.vals a2 c2 b2 d2)
    rwa [show (w.alloc (.cells (p.vals a c b d) 25)).heap.size = w.heap.size + 1 by simp] at this
  have b0 := ((Below.refl w.heap.size w).alloc (Nat.le_refl _) (.cells (p.vals a c b d) 25)).alloc (by simp) (.cells (q.vals a2 c2 b2 d2) 25)
  have hsz : ((w.alloc (.cells (p.vals a c b d) 25)).alloc (.cells (q.vals a2 c2 b2 d2) 25)).heap.size = w.heap.size + 2 := by simp
  go_enter Try.func8, Try.ntmps8
  go_upto_region 1 with (fail)
  generalize (w.alloc (.cells (p.vals a c b d) 25)).alloc (.cells (q.vals a2 c2 b2 d2) 25) = w1 at *
  have hs1 : w.heap.size + 2 ≤ w1.heap.size := by omega
  clear hsz
  have h1 := h.below b0
  have x0 : w1.cell? ⟨w.heap.size, 0, none⟩ = some (.int .i64 p.f) := o1.cell 0
  have x1 : w1.cell? ⟨w.heap.size, 1, none⟩ = some (.int .i64 p.t) := o1.cell 1
  have x2 : w1.cell? ⟨w.heap.size, 2, none⟩ = some (.int .i64 p.n) := o1.cell 2
  have x3 : w1.cell? ⟨w.heap.size, 3, none⟩ = some (.int .i64 p.life) := o1.cell 3
  have x4 : w1.cell? ⟨w.heap.size, 4, none⟩ = some (.slice a p.path.length c) := o1.cell 4
  have x5 : w1.cell? ⟨w.heap.size, 5, none⟩ = some (.slice b p.data.length d) := o1.cell 5
  have y0 : w1.cell? ⟨w.heap.size + 1, 0, none⟩ = some (.int .i64 q.f) := o2.cell 0
  have y1 : w1.cell? ⟨w.heap.size + 1, 1, none⟩ = some (.int .i64 q.t) := o2.cell 1
  have y2 : w1.cell? ⟨w.heap.size + 1, 2, none⟩ = some (.int .i64 q.n) := o2.cell 2
  have y3 : w1.cell? ⟨w.heap.size + 1, 3, none⟩ = some (.int .i64 q.life) := o2.cell 3
  have y4 : w1.cell? ⟨w.heap.size + 1, 4, none⟩ = some (.slice a2 q.path.length c2) := o2.cell 4
  have y5 : w1.cell? ⟨w.heap.size + 1, 5, none⟩ = some (.slice b2 q.data.length d2) := o2.cell 5
  go_wp2_with fail
  refine (light_any p a c b d w1).mono ?_
  rintro r w2 ⟨rfl, b2'⟩
  have o1 := below_own b2' o1 (by omega)
  have o2 := below_own b2' o2 (by omega)
  have b0 := b0.trans (b2'.mono (by omega))
  have hs1 : w.heap.size + 2 ≤ w2.heap.size := by have := b2'.size; omega
  clear x0 x1 x2 x3 x4 x5 y0 y1 y2 y3 y4 y5 b2'
  cases hlg : lightB p
  · go_wp2_with fail
    refine (awake_any _).mono ?_
    rintro r w9 ⟨rfl, b9⟩
    go_wp2_with fail
    go_ret
    exact ⟨rfl, b0.trans (b9.mono (by omega))⟩
  have x0 : w2.cell? ⟨w.heap.size, 0, none⟩ = some (.int .i64 p.f) := o1.cell 0
  have x1 : w2.cell? ⟨w.heap.size, 1, none⟩ = some (.int .i64 p.t) := o1.cell 1
  have x2 : w2.cell? ⟨w.heap.size, 2, none⟩ = some (.int .i64 p.n) := o1.cell 2
  have x3 : w2.cell? ⟨w.heap.size, 3, none⟩ = some (.int .i64 p.life) := o1.cell 3
  have x4 : w2.cell? ⟨w.heap.size, 4, none⟩ = some (.slice a p.path.length c) := o1.cell 4
  have x5 : w2.cell? ⟨w.heap.size, 5, none⟩ = some (.slice b p.data.length d) := o1.cell 5
  have y0 : w2.cell? ⟨w.heap.size + 1, 0, none⟩ = some (.int .i64 q.f) := o2.cell 0
  have y1 : w2.cell? ⟨w.heap.size + 1, 1, none⟩ = some (.int .i64 q.t) := o2.cell 1
  have y2 : w2.cell? ⟨w.heap.size + 1, 2, none⟩ = some (.int .i64 q.n) := o2.cell 2
  have y3 : w2.cell? ⟨w.heap.size + 1, 3, none⟩ = some (.int .i64 q.life) := o2.cell 3
  have y4 : w2.cell? ⟨w.heap.size + 1, 4, none⟩ = some (.slice a2 q.path.length c2) := o2.cell 4
  have y5 : w2.cell? ⟨w.heap.size + 1, 5, none⟩ = some (.slice b2 q.data.length d2) := o2.cell 5
  go_wp2_with fail
  refine (light_any q a2 c2 b2 d2 w2).mono ?_
  rintro r w3 ⟨rfl, b2'⟩
  have o1 := below_own b2' o1 (by omega)
  have o2 := below_own b2' o2 (by omega)
  have b0 := b0.trans (b2'.mono (by omega))
  have hs1 : w.heap.size + 2 ≤ w3.heap.size := by have := b2'.size; omega
  clear x0 x1 x2 x3 x4 x5 y0 y1 y2 y3 y4 y5 b2' hlg
  cases hlg : lightB q
  · go_wp2_with fail
    refine (awake_any _).mono ?_
    rintro r w9 ⟨rfl, b9⟩
    go_wp2_with fail
    go_ret
    exact ⟨rfl, b0.trans (b9.mono (by omega))⟩
  have x0 : w3.cell? ⟨w.heap.size, 0, none⟩ = some (.int .i64 p.f) := o1.cell 0
  have x1 : w3.cell? ⟨w.heap.size, 1, none⟩ = some (.int .i64 p.t) := o1.cell 1
  have x2 : w3.cell? ⟨w.heap.size, 2, none⟩ = some (.int .i64 p.n) := o1.cell 2
  have x3 : w3.cell? ⟨w.heap.size, 3, none⟩ = some (.int .i64 p.life) := o1.cell 3
  have x4 : w3.cell? ⟨w.heap.size, 4, none⟩ = some (.slice a p.path.length c) := o1.cell 4
  have x5 : w3.cell? ⟨w.heap.size, 5, none⟩ = some (.slice b p.data.length d) := o1.cell 5
  have y0 : w3.cell? ⟨w.heap.size + 1, 0, none⟩ = some (.int .i64 q.f) := o2.cell 0
  have y1 : w3.cell? ⟨w.heap.size + 1, 1, none⟩ = some (.int .i64 q.t) := o2.cell 1
  have y2 : w3.cell? ⟨w.heap.size + 1, 2, none⟩ = some (.int .i64 q.n) := o2.cell 2
  have y3 : w3.cell? ⟨w.heap.size + 1, 3, none⟩ = some (.int .i64 q.life) := o2.cell 3
  have y4 : w3.cell? ⟨w.heap.size + 1, 4, none⟩ = some (.slice a2 q.path.length c2) := o2.cell 4
  have y5 : w3.cell? ⟨w.heap.size + 1, 5, none⟩ = some (.slice b2 q.data.length d2) := o2.cell 5
  go_wp2_with fail
  refine (may_any p a c b d w3 (h.below b0)).mono ?_
  rintro r w4 ⟨rfl, b2'⟩
  have o1 := below_own b2' o1 (by omega)
  have o2 := below_own b2' o2 (by omega)
  have b0 := b0.trans (b2'.mono (by omega))
  have hs1 : w.heap.size + 2 ≤ w4.heap.size := by have := b2'.size; omega
  clear x0 x1 x2 x3 x4 x5 y0 y1 y2 y3 y4 y5 b2' hlg
  cases hmp : mayK p
  · go_wp2_with fail
    refine (awake_any _).mono ?_
    rintro r w9 ⟨rfl, b9⟩
    go_wp2_with fail
    go_ret
    exact ⟨rfl, b0.trans (b9.mono (by omega))⟩
  have x0 : w4.cell? ⟨w.heap.size, 0, none⟩ = some (.int .i64 p.f) := o1.cell 0
  have x1 : w4.cell? ⟨w.heap.size, 1, none⟩ = some (.int .i64 p.t) := o1.cell 1
  have x2 : w4.cell? ⟨w.heap.size, 2, none⟩ = some (.int .i64 p.n) := o1.cell 2
  have x3 : w4.cell? ⟨w.heap.size, 3, none⟩ = some (.int .i64 p.life) := o1.cell 3
  have x4 : w4.cell? ⟨w.heap.size, 4, none⟩ = some (.slice a p.path.length c) := o1.cell 4
  have x5 : w4.cell? ⟨w.heap.size, 5, none⟩ = some (.slice b p.data.length d) := o1.cell 5
  have y0 : w4.cell? ⟨w.heap.size + 1, 0, none⟩ = some (.int .i64 q.f) := o2.cell 0
  have y1 : w4.cell? ⟨w.heap.size + 1, 1, none⟩ = some (.int .i64 q.t) := o2.cell 1
  have y2 : w4.cell? ⟨w.heap.size + 1, 2, none⟩ = some (.int .i64 q.n) := o2.cell 2
  have y3 : w4.cell? ⟨w.heap.size + 1, 3, none⟩ = some (.int .i64 q.life) := o2.cell 3
  have y4 : w4.cell? ⟨w.heap.size + 1, 4, none⟩ = some (.slice a2 q.path.length c2) := o2.cell 4
  have y5 : w4.cell? ⟨w.heap.size + 1, 5, none⟩ = some (.slice b2 q.data.length d2) := o2.cell 5
  go_wp2_with fail
  refine (may_any q a2 c2 b2 d2 w4 (k.below b0)).mono ?_
  rintro r w5 ⟨rfl, b2'⟩
  have o1 := below_own b2' o1 (by omega)
  have o2 := below_own b2' o2 (by omega)
  have b0 := b0.trans (b2'.mono (by omega))
  have hs1 : w.heap.size + 2 ≤ w5.heap.size := by have := b2'.size; omega
  have HMP := Lib.hid hmp
  clear x0 x1 x2 x3 x4 x5 y0 y1 y2 y3 y4 y5 b2' hmp
  cases hmq : mayK q
  · go_wp2_with fail
    refine (awake_any _).mono ?_
    rintro r w9 ⟨rfl, b9⟩
    go_wp2_with fail
    go_ret
    exact ⟨rfl, b0.trans (b9.mono (by omega))⟩
  have HMQ := Lib.hid hmq
  clear hmq
  have x0 : w5.cell? ⟨w.heap.size, 0, none⟩ = some (.int .i64 p.f) := o1.cell 0
  have x1 : w5.cell? ⟨w.heap.size, 1, none⟩ = some (.int .i64 p.t) := o1.cell 1
  have x2 : w5.cell? ⟨w.heap.size, 2, none⟩ = some (.int .i64 p.n) := o1.cell 2
  have x3 : w5.cell? ⟨w.heap.size, 3, none⟩ = some (.int .i64 p.life) := o1.cell 3
  have x4 : w5.cell? ⟨w.heap.size, 4, none⟩ = some (.slice a p.path.length c) := o1.cell 4
  have x5 : w5.cell? ⟨w.heap.size, 5, none⟩ = some (.slice b p.data.length d) := o1.cell 5
  have y0 : w5.cell? ⟨w.heap.size + 1, 0, none⟩ = some (.int .i64 q.f) := o2.cell 0
  have y1 : w5.cell? ⟨w.heap.size + 1, 1, none⟩ = some (.int .i64 q.t) := o2.cell 1
  have y2 : w5.cell? ⟨w.heap.size + 1, 2, none⟩ = some (.int .i64 q.n) := o2.cell 2
  have y3 : w5.cell? ⟨w.heap.size + 1, 3, none⟩ = some (.int .i64 q.life) := o2.cell 3
  have y4 : w5.cell? ⟨w.heap.size + 1, 4, none⟩ = some (.slice a2 q.path.length c2) := o2.cell 4
  have y5 : w5.cell? ⟨w.heap.size + 1, 5, none⟩ = some (.slice b2 q.data.length d2) := o2.cell 5
  go_wp2_with fail
  refine (encode_any p a c b d w5 (h.below b0) hp).mono ?_
  rintro r w6 he
  unfold EncPost at he
  rw [HMP.out, if_pos rfl] at he
  obtain ⟨ea, ec, rfl, hec, hem, heR, b2'⟩ := he
  have o1 := below_own b2' o1 (by omega)
  have o2 := below_own b2' o2 (by omega)
  have b0 := b0.trans (b2'.mono (by omega))
  have hs1 : w.heap.size + 2 ≤ w6.heap.size := by have := b2'.size; omega
  clear x0 x1 x2 x3 x4 x5 y0 y1 y2 y3 y4 y5 b2'
  have x0 : w6.cell? ⟨w.heap.size, 0, none⟩ = some (.int .i64 p.f) := o1.cell 0
  have x1 : w6.cell? ⟨w.heap.size, 1, none⟩ = some (.int .i64 p.t) := o1.cell 1
  have x2 : w6.cell? ⟨w.heap.size, 2, none⟩ = some (.int .i64 p.n) := o1.cell 2
  have x3 : w6.cell? ⟨w.heap.size, 3, none⟩ = some (.int .i64 p.life) := o1.cell 3
  have x4 : w6.cell? ⟨w.heap.size, 4, none⟩ = some (.slice a p.path.length c) := o1.cell 4
  have x5 : w6.cell? ⟨w.heap.size, 5, none⟩ = some (.slice b p.data.length d) := o1.cell 5
  have y0 : w6.cell? ⟨w.heap.size + 1, 0, none⟩ = some (.int .i64 q.f) := o2.cell 0
  have y1 : w6.cell? ⟨w.heap.size + 1, 1, none⟩ = some (.int .i64 q.t) := o2.cell 1
  have y2 : w6.cell? ⟨w.heap.size + 1, 2, none⟩ = some (.int .i64 q.n) := o2.cell 2
  have y3 : w6.cell? ⟨w.heap.size + 1, 3, none⟩ = some (.int .i64 q.life) := o2.cell 3
  have y4 : w6.cell? ⟨w.heap.size + 1, 4, none⟩ = some (.slice a2 q.path.length c2) := o2.cell 4
  have y5 : w6.cell? ⟨w.heap.size + 1, 5, none⟩ = some (.slice b2 q.data.length d2) := o2.cell 5
  go_wp2_with fail
  refine (encode_any q a2 c2 b2 d2 w6 (k.below b0) hq).mono ?_
  rintro r w7 he
  unfold EncPost at he
  rw [HMQ.out, if_pos rfl] at he
  obtain ⟨fa, fc, rfl, hfc, hfm, hfR, b2'⟩ := he
  have heR := heR.below b2'
  have o1 := below_own b2' o1 (by omega)
  have o2 := below_own b2' o2 (by omega)
  have b0 := b0.trans (b2'.mono (by omega))
  have hs1 : w.heap.size + 2 ≤ w7.heap.size := by have := b2'.size; omega
  clear x0 x1 x2 x3 x4 x5 y0 y1 y2 y3 y4 y5 b2' h1
  go_upto_region 5 with (fail)
  have hlp := encB_len p
  have hbq : ((bstr (encB p)).toList == (bstr (encB q)).toList) = sameB p q := by rw [bstr_beq (encB_bytes HMP.out hp) (encB_bytes HMQ.out hq), encB_same HMP.out HMQ.out]
  have v1 : ∀ x : Ext w7, (convert 23 9 (.slice ea (encB p).length ec)).run Try.prog x.toW = .ok (.string (bstr (encB p))) x.toW := fun x => conv_b ec (heR.below x.ok)
  have v2 : ∀ x : Ext w7, (convert 23 9 (.slice fa (encB q).length fc)).run Try.prog x.toW = .ok (.string (bstr (encB q))) x.toW := fun x => conv_b fc (hfR.below x.ok)
  have s1 : ∀ W, Below w7.heap.size w7 W → Calls Try.prog 19 #[.agg (p.vals a c b d), .agg (q.vals a2 c2 b2 d2)] W fun r w' => r = .returned (.bool (sameB p q)) ∧ Below W.heap.size W w' := fun W hW => same_pk p q a c b d a2 c2 b2 d2 W ((h.below b0).below hW) ((k.below b0).below hW) hp hq
  have s2 : ∀ W, Below w7.heap.size w7 W → Calls Try.prog 19 #[.agg (p.vals a c b d), .agg (p.vals a c b d)] W fun r w' => r = .returned (.bool true) ∧ Below W.heap.size W w' := fun W hW => by
    have := same_pk p p a c b d a c b d W ((h.below b0).below hW) ((h.below b0).below hW) hp hp
    rw [sameB_self] at this
    exact this
  obtain ⟨e, he⟩ : ∃ e, sameB p q = e := ⟨_, rfl⟩
  rw [he] at hbq s1
  obtain ⟨S, hS⟩ : ∃ S, bstr (encB p) = S := ⟨_, rfl⟩
  obtain ⟨T, hT⟩ : ∃ T, bstr (encB q) = T := ⟨_, rfl⟩
  rw [hS] at hbq v1
  rw [hT] at hbq v2
  obtain ⟨np, hnp⟩ : ∃ n, (encB p).length = n := ⟨_, rfl⟩
  obtain ⟨nq, hnq⟩ : ∃ n, (encB q).length = n := ⟨_, rfl⟩
  have hall := mayK_all HMP.out
  have h16 := (okP_out hall.2.2.2.2.2.1).1
  rw [hnp] at hlp
  have g1 : ((np : Int) == 11 + (p.path.length : Int) + (p.data.length : Int)) = true := by simp; omega
  have g2 : IntKind.i64.wrap (11 + (p.path.length : Int)) = 11 + (p.path.length : Int) := IntWalk.i64_in _ (by omega)
  have g3 : IntKind.i64.wrap (11 + (p.path.length : Int) + (p.data.length : Int)) = 11 + (p.path.length : Int) + (p.data.length : Int) := IntWalk.i64_in _ (by omega)
  have g4 : (e == e) = true := by simp
  have S1 : Hid (∀ W, Below w7.heap.size w7 W → Calls Try.prog 19 #[(.agg #[.int .i64 p.f, .int .i64 p.t, .int .i64 p.n, .int .i64 p.life, .slice a p.path.length c, .slice b p.data.length d]), (.agg #[.int .i64 q.f, .int .i64 q.t, .int .i64 q.n, .int .i64 q.life, .slice a2 q.path.length c2, .slice b2 q.data.length d2])] W fun r w' => r = .returned (.bool e) ∧ Below W.heap.size W w') := Lib.hid s1
  have S2 : Hid (∀ W, Below w7.heap.size w7 W → Calls Try.prog 19 #[(.agg #[.int .i64 p.f, .int .i64 p.t, .int .i64 p.n, .int .i64 p.life, .slice a p.path.length c, .slice b p.data.length d]), (.agg #[.int .i64 p.f, .int .i64 p.t, .int .i64 p.n, .int .i64 p.life, .slice a p.path.length c, .slice b p.data.length d])] W fun r w' => r = .returned (.bool true) ∧ Below W.heap.size W w') := Lib.hid s2
  have x0 : ∀ x : Ext w7, x.toW.cell? ⟨w.heap.size, 0, none⟩ = some (.int .i64 p.f) := fun x => keep_cell x.ok (o1.cell 0)
  have x1 : ∀ x : Ext w7, x.toW.cell? ⟨w.heap.size, 1, none⟩ = some (.int .i64 p.t) := fun x => keep_cell x.ok (o1.cell 1)
  have x2 : ∀ x : Ext w7, x.toW.cell? ⟨w.heap.size, 2, none⟩ = some (.int .i64 p.n) := fun x => keep_cell x.ok (o1.cell 2)
  have x3 : ∀ x : Ext w7, x.toW.cell? ⟨w.heap.size, 3, none⟩ = some (.int .i64 p.life) := fun x => keep_cell x.ok (o1.cell 3)
  have x4 : ∀ x : Ext w7, x.toW.cell? ⟨w.heap.size, 4, none⟩ = some (.slice a p.path.length c) := fun x => keep_cell x.ok (o1.cell 4)
  have x5 : ∀ x : Ext w7, x.toW.cell? ⟨w.heap.size, 5, none⟩ = some (.slice b p.data.length d) := fun x => keep_cell x.ok (o1.cell 5)
  have y0 : ∀ x : Ext w7, x.toW.cell? ⟨w.heap.size + 1, 0, none⟩ = some (.int .i64 q.f) := fun x => keep_cell x.ok (o2.cell 0)
  have y1 : ∀ x : Ext w7, x.toW.cell? ⟨w.heap.size + 1, 1, none⟩ = some (.int .i64 q.t) := fun x => keep_cell x.ok (o2.cell 1)
  have y2 : ∀ x : Ext w7, x.toW.cell? ⟨w.heap.size + 1, 2, none⟩ = some (.int .i64 q.n) := fun x => keep_cell x.ok (o2.cell 2)
  have y3 : ∀ x : Ext w7, x.toW.cell? ⟨w.heap.size + 1, 3, none⟩ = some (.int .i64 q.life) := fun x => keep_cell x.ok (o2.cell 3)
  have y4 : ∀ x : Ext w7, x.toW.cell? ⟨w.heap.size + 1, 4, none⟩ = some (.slice a2 q.path.length c2) := fun x => keep_cell x.ok (o2.cell 4)
  have y5 : ∀ x : Ext w7, x.toW.cell? ⟨w.heap.size + 1, 5, none⟩ = some (.slice b2 q.data.length d2) := fun x => keep_cell x.ok (o2.cell 5)
  rw [hnp, hnq]
  rw [hnp] at v1
  rw [hnq] at v2
  clear hS hT he hnp hnq hall h16 hlp s1 s2
  refine wp_region_ext w7 (by kernel_rfl) (by kernel_rfl) (Below.refl _ _) ?_
  repeat (go_big_quiet_step (first
    | (go_at_call 19; first
        | (with_reducible exact ext_below _ (u := .bool e) (S1.out _ (Ext.ok _)))
        | (with_reducible exact ext_below _ (u := .bool true) (S2.out _ (Ext.ok _))))
    | (go_at_call 10; with_reducible exact ext_below _ (u := .bool true) (awake_any _))))
  refine wpQuiet_nil ?_
  rintro w9 ⟨x9, rfl⟩
  go_wp2_with fail
  go_ret
  exact ⟨rfl, b0.trans (x9.ok.mono (by omega))⟩

theorem walk (H : Type) (enc : TypeId × Value → H) : Walk H enc Try.prog 8 Try.f8 := by
  intro W base args ds p hval hA
  rw [Try.params8] at hA hval
  obtain ⟨v0, v1, d0, d1, p0, p1, rfl, rfl, rfl, h0, h1⟩ := trodAll_two hA
  obtain ⟨p, a, c, b, d, rfl, hat, hwf⟩ := open_packet (hval 0 _ v0 rfl rfl) h0
  obtain ⟨q, a2, c2, b2, d2, rfl, hat2, hwf2⟩ := open_packet (hval 1 _ v1 rfl rfl) h1
  exact body p q a c b d a2 c2 b2 d2 W hat hat2 hwf.data hwf2.data

set_option maxRecDepth 100000 in
theorem lifted (os : Os) (started : os.Started) (H : Type) (enc : TypeId × Value → H) :
    ReturnsInHanded {} Try.checked os 8 .any (Rows.routeOneSpec.pre6 enc Try.prog Try.f8 Rows.routeOneRow.domain false) (Rows.routeOneSpec.post enc Try.prog Try.f8 false true false false) :=
  returnsInHanded_of_change (C := Try.checked) own started (by kernel_rfl) Try.func8
    (ChangeSpec.witness6 (enc := enc) (C := Try.checked) false ⟨#[], #[.agg #[.int .i64 0, .int .i64 0, .int .i64 0, .int .i64 0, .slice none 0 0, .slice none 0 0], .agg #[.int .i64 0, .int .i64 0, .int .i64 0, .int .i64 0, .slice none 0 0, .slice none 0 0]], []⟩ 8 (by kernel_rfl) (by kernel_rfl) (by kernel_rfl) (by kernel_rfl))
    fun W base args ds gs before hval hW _ _ => step_of_walk laidOut (by rw [Try.params8]; exact of_decide_eq_true (by kernel_rfl)) (by kernel_rfl) Try.underlying4 rfl
      (fun ds h => by
        rw [Try.params8] at h
        match ds, h with
        | [_, _], _ => rfl) (walk H enc) W base args ds gs before hval hW

theorem holds : Rows.RouteOneSaid :=
  OpenClaim.holds_of_wide 8 Try.f8 rfl rfl rfl rfl rfl rfl rfl ⟨rfl, rfl, rfl, rfl, rfl⟩ rfl rfl rfl rfl rfl (by kernel_rfl) Try.func8 (by kernel_rfl)
    (of_decide_eq_true (by kernel_rfl)) (by unfold Func.isWrapper; first | (rw [if_pos (by decide +kernel)]; kernel_rfl) | (rw [if_neg (by decide +kernel)]; exact ⟨rfl, rfl⟩))
    (fun os started H enc _ => lifted os started H enc)
#print axioms holds
end Go.Proofs.Ytcpmnfoenpdaeaa.RouteOne
