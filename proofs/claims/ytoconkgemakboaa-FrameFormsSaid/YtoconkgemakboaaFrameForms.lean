/-
  Law FrameForms: any frames: may each be, its bytes; two of them; the call returns true. No condition.
-/
import Derived.Test.YtoconkgemakboaaFrSame
import Derived.Test.YtoconkgemakboaaFrREnc
set_option maxRecDepth 100000
namespace Go.Proofs.Ytoconkgemakboaa.FrameForms
set_option linter.unusedVariables false
open Go.RowKit Go.ChangeShapes Go.WideShapes Go.ChangeAt Go.Deep Lb Bf Ie Fm
set_option linter.unusedVariables false
theorem own : ownKnob Try.prog.godebug = none := by kernel_rfl
theorem laidOut : laidOutB Try.prog = true := by kernel_rfl
/-- The next world is one of them, too. -/
theorem ext_next {v w' : World} (x : Ext v) (h : Below x.toW.heap.size x.toW w') : ∃ y : Ext v, w' = y.toW := ⟨⟨w', x.ok.trans (h.mono x.ok.size)⟩, rfl⟩
/-- Encode's answer. -/
theorem enc_out {f : Fr} {w w' : World} {r : Ending} (h : EncFPost f w r w') : ∃ a c, r = .returned (.tuple #[.slice a (if mayF f = true then encF f else []).length c, .int .i64 (if mayF f = true then 0 else 1)]) ∧ Row w' a (if mayF f = true then encF f else []).length (bval (if mayF f = true then encF f else [])) ∧ Below w.heap.size w w' := by
  unfold EncFPost at h
  by_cases hm : mayF f = true
  · rw [if_pos hm] at h
    obtain ⟨v, rfl, h2, h3⟩ := h
    obtain ⟨a, c, rfl, _, _, hR⟩ := h2.row
    exact ⟨a, c, by rw [if_pos hm, if_pos hm], by rw [if_pos hm]; exact hR, h3⟩
  · rw [if_neg hm] at h
    exact ⟨none, 0, by rw [if_neg hm, if_neg hm]; exact h.1, by rw [if_neg hm]; exact Row.nil _ _ _, h.2⟩
set_option maxHeartbeats 2000000 in
theorem body (p p' : Fp) (w : World) (h : p.At w) (h' : p'.At w) :
    Calls Try.prog 3 #[.agg p.vals, .agg p'.vals] w fun r w' => r = .returned (.bool true) ∧ Below w.heap.size w w' := by
  have o1 := Own.new w 25 p.vals
  have b0 := (Below.refl w.heap.size w).alloc (Nat.le_refl _) (.cells p.vals 25)
  have o2 := Own.new (w.alloc (.cells p.vals 25)) 25 p'.vals
  have b1 := (Below.refl (w.alloc (.cells p.vals 25)).heap.size (w.alloc (.cells p.vals 25))).alloc (Nat.le_refl _) (.cells p'.vals 25)
  have b2 := b0.trans (b1.mono b0.size)
  have o1 := below_own b1 o1 o1.lt
  have HA := Lib.hid (h.below b2)
  have HA' := Lib.hid (h'.below b2)
  clear h h' b0 b1
  obtain ⟨lt, hlt⟩ : ∃ b, lightF p = b := ⟨_, rfl⟩
  have HLT := Lib.hid hlt
  have hL := fun W hW => lightF_any p W hW
  rw [hlt] at hL
  have HL := Lib.hid hL
  clear hlt hL
  obtain ⟨lt', hlt⟩ : ∃ b, lightF p' = b := ⟨_, rfl⟩
  have HLT' := Lib.hid hlt
  have hL := fun W hW => lightF_any p' W hW
  rw [hlt] at hL
  have HL' := Lib.hid hL
  clear hlt hL
  obtain ⟨f, hf⟩ : ∃ f, p.fr = f := ⟨_, rfl⟩
  obtain ⟨f', hf'⟩ : ∃ f, p'.fr = f := ⟨_, rfl⟩
  have HF := Lib.hid hf
  have HF' := Lib.hid hf'
  clear hf hf'
  obtain ⟨pk, ps, pd, pq, pL, pa, pc, pdata, pb, pe⟩ := p
  obtain ⟨qk, qs, qd, qq, qL, qa, qc, qdata, qb, qe⟩ := p'
  have HE := Lib.hid (fun W hW hm => encF_any ⟨pk, ps, pd, pq, pL, pa, pc, pdata, pb, pe⟩ W hW hm)
  have HLO := Lib.hid (@lightF_out ⟨pk, ps, pd, pq, pL, pa, pc, pdata, pb, pe⟩)
  have HLO' := Lib.hid (@lightF_out ⟨qk, qs, qd, qq, qL, qa, qc, qdata, qb, qe⟩)
  have HS := Lib.hid (fun W h h' => sameF_any ⟨pk, ps, pd, pq, pL, pa, pc, pdata, pb, pe⟩ ⟨qk, qs, qd, qq, qL, qa, qc, qdata, qb, qe⟩ W h h')
  have HR := Lib.hid (fun W hW hm => rencF_any ⟨pk, ps, pd, pq, pL, pa, pc, pdata, pb, pe⟩ W hW hm)
  have HM1 := Lib.hid (fun W hW hm => mayF_any ⟨pk, ps, pd, pq, pL, pa, pc, pdata, pb, pe⟩ W hW hm)
  have HM2 := Lib.hid (fun W hW hm => rmayF_any ⟨pk, ps, pd, pq, pL, pa, pc, pdata, pb, pe⟩ W hW hm)
  have HRS := Lib.hid (fun W h h' => rsameF_any ⟨pk, ps, pd, pq, pL, pa, pc, pdata, pb, pe⟩ ⟨qk, qs, qd, qq, qL, qa, qc, qdata, qb, qe⟩ W h h')
  rw [HF.out] at HE HS HRS HR HM1 HM2
  rw [HF'.out] at HS HRS
  unfold Fp.vals at *
  simp only at *
  obtain ⟨nd, hnd⟩ : ∃ n, pdata.length = n := ⟨_, rfl⟩
  have HND := Lib.hid hnd
  rw [hnd] at o1 o2 b2 HA HA' HL HE HR HM1 HM2 HS HRS HLO ⊢
  obtain ⟨nl, hnl⟩ : ∃ n, pL.length = n := ⟨_, rfl⟩
  have HNL := Lib.hid hnl
  rw [hnl] at o1 o2 b2 HA HA' HL HE HR HM1 HM2 HS HRS HLO ⊢
  obtain ⟨md, hmd⟩ : ∃ n, qdata.length = n := ⟨_, rfl⟩
  have HMD := Lib.hid hmd
  rw [hmd] at o1 o2 b2 HA HA' HL' HS HRS HLO' ⊢
  obtain ⟨ml, hml⟩ : ∃ n, qL.length = n := ⟨_, rfl⟩
  have HML := Lib.hid hml
  rw [hml] at o1 o2 b2 HA HA' HL' HS HRS HLO' ⊢
  clear hnd hnl hmd hml
  go_enter Try.func3, Try.ntmps3
  go_upto_region 1 with (fail)
  have hsz : (w.alloc (.cells #[.int .i64 pk, .int .i64 ps, .int .i64 pd, .int .i64 pq, .slice pa nl pc, .slice pb nd pe] 25)).heap.size = w.heap.size + 1 := by simp
  rw [hsz] at o2
  obtain ⟨g2, hg2⟩ : ∃ g, w.heap.size + 1 = g := ⟨_, rfl⟩
  rw [hg2] at o2 ⊢
  clear hsz
  generalize (w.alloc (.cells #[.int .i64 pk, .int .i64 ps, .int .i64 pd, .int .i64 pq, .slice pa nl pc, .slice pb nd pe] 25)).alloc (.cells #[.int .i64 qk, .int .i64 qs, .int .i64 qd, .int .i64 qq, .slice qa ml qc, .slice qb md qe] 25) = w1 at *
  have hgs := b2.size
  obtain ⟨g1, hg1⟩ : ∃ g, w.heap.size = g := ⟨_, rfl⟩
  rw [hg1] at o1 b2 hgs ⊢
  have HG := Lib.hid hg1
  clear hg1 hg2
  have x0 : ∀ x : Ext w1, x.toW.cell? ⟨g1, 0, none⟩ = some (.int .i64 pk) := fun x => (fr_ext_own x o1).cell 0
  have x1 : ∀ x : Ext w1, x.toW.cell? ⟨g1, 1, none⟩ = some (.int .i64 ps) := fun x => (fr_ext_own x o1).cell 1
  have x2 : ∀ x : Ext w1, x.toW.cell? ⟨g1, 2, none⟩ = some (.int .i64 pd) := fun x => (fr_ext_own x o1).cell 2
  have x3 : ∀ x : Ext w1, x.toW.cell? ⟨g1, 3, none⟩ = some (.int .i64 pq) := fun x => (fr_ext_own x o1).cell 3
  have x4 : ∀ x : Ext w1, x.toW.cell? ⟨g1, 4, none⟩ = some (.slice pa nl pc) := fun x => (fr_ext_own x o1).cell 4
  have x5 : ∀ x : Ext w1, x.toW.cell? ⟨g1, 5, none⟩ = some (.slice pb nd pe) := fun x => (fr_ext_own x o1).cell 5
  have y0 : ∀ x : Ext w1, x.toW.cell? ⟨g2, 0, none⟩ = some (.int .i64 qk) := fun x => (fr_ext_own x o2).cell 0
  have y1 : ∀ x : Ext w1, x.toW.cell? ⟨g2, 1, none⟩ = some (.int .i64 qs) := fun x => (fr_ext_own x o2).cell 1
  have y2 : ∀ x : Ext w1, x.toW.cell? ⟨g2, 2, none⟩ = some (.int .i64 qd) := fun x => (fr_ext_own x o2).cell 2
  have y3 : ∀ x : Ext w1, x.toW.cell? ⟨g2, 3, none⟩ = some (.int .i64 qq) := fun x => (fr_ext_own x o2).cell 3
  have y4 : ∀ x : Ext w1, x.toW.cell? ⟨g2, 4, none⟩ = some (.slice qa ml qc) := fun x => (fr_ext_own x o2).cell 4
  have y5 : ∀ x : Ext w1, x.toW.cell? ⟨g2, 5, none⟩ = some (.slice qb md qe) := fun x => (fr_ext_own x o2).cell 5
  obtain ⟨z0, hz0⟩ : ∃ x : Ext w1, x.toW = w1 := ⟨⟨w1, Below.refl _ _⟩, rfl⟩
  rw [← hz0]
  clear hz0 o1 o2
  go_wp2_with fail
  refine (HL.out z0.toW (HA.out.below z0.ok)).mono ?_
  rintro r w2 ⟨rfl, bb⟩
  obtain ⟨z1, rfl⟩ := ext_next z0 bb
  clear HL bb
  cases lt
  · go_wp2_with fail
    refine (awakeF_any _).mono ?_
    rintro r w9 ⟨rfl, bb⟩
    obtain ⟨z9, rfl⟩ := ext_next z1 bb
    clear bb
    go_wp2_with fail
    go_ret
    exact ⟨rfl, by rw [HG.out]; exact b2.trans (z9.ok.mono hgs)⟩
  go_wp2_with fail
  refine (HL'.out z1.toW (HA'.out.below z1.ok)).mono ?_
  rintro r w2 ⟨rfl, bb⟩
  obtain ⟨z2, rfl⟩ := ext_next z1 bb
  clear HL' bb
  cases lt'
  · go_wp2_with fail
    refine (awakeF_any _).mono ?_
    rintro r w9 ⟨rfl, bb⟩
    obtain ⟨z9, rfl⟩ := ext_next z2 bb
    clear bb
    go_wp2_with fail
    go_ret
    exact ⟨rfl, by rw [HG.out]; exact b2.trans (z9.ok.mono hgs)⟩
  have hl1 := (HLO.out HLT.out).1
  have Hl1 := Lib.hid hl1
  have hE := HE.out z2.toW (HA.out.below z2.ok) hl1
  have HE2 := Lib.hid hE
  clear HE hE hl1 HLO HLO' HLT HLT'
  go_wp2_with fail
  refine HE2.out.mono ?_
  intro r w2 hp
  obtain ⟨a1, c1, rfl, R1, bb⟩ := enc_out hp
  obtain ⟨z3, hz3⟩ := ext_next z2 bb
  subst hz3
  clear HE2 hp bb
  have hE := HR.out z3.toW (HA.out.below z3.ok) Hl1.out
  have HE2 := Lib.hid hE
  obtain ⟨X, hX⟩ : ∃ X, (if mayF f = true then encF f else []) = X := ⟨_, rfl⟩
  obtain ⟨er, her⟩ : ∃ X, (if mayF f = true then (0 : Int) else 1) = X := ⟨_, rfl⟩
  rw [hX] at R1
  rw [hX, her]
  have HX := Lib.hid hX
  have HER := Lib.hid her
  obtain ⟨nx, hnx⟩ : ∃ n, X.length = n := ⟨_, rfl⟩
  have HNX := Lib.hid hnx
  rw [hnx] at R1 ⊢
  clear HR hE hX her hnx
  go_wp2_with fail
  refine HE2.out.mono ?_
  intro r w4 hp
  obtain ⟨a2, c2, rfl, R2, bb⟩ := enc_out hp
  have R1 := R1.below bb
  have b4 := z3.ok.trans (bb.mono z3.ok.size)
  rw [HX.out] at R2
  rw [HX.out, HER.out, HNX.out]
  rw [HNX.out] at R2
  clear HE2 hp bb HER HX
  obtain ⟨s, hs⟩ : ∃ s, sameF f f' = s := ⟨_, rfl⟩
  obtain ⟨m, hm⟩ : ∃ s, mayF f = s := ⟨_, rfl⟩
  have S1 : Hid (∀ x : Ext w4, Calls Try.prog 15 #[.agg #[.int .i64 pk, .int .i64 ps, .int .i64 pd, .int .i64 pq, .slice pa nl pc, .slice pb nd pe], .agg #[.int .i64 qk, .int .i64 qs, .int .i64 qd, .int .i64 qq, .slice qa ml qc, .slice qb md qe]] x.toW fun r w' => r = .returned (.bool s) ∧ Below x.toW.heap.size x.toW w') := Lib.hid (fun x => by
    have := HS.out x.toW (HA.out.below (b4.trans (x.ok.mono b4.size))) (HA'.out.below (b4.trans (x.ok.mono b4.size)))
    rw [hs] at this
    exact this)
  have S2 : Hid (∀ x : Ext w4, Calls Try.prog 16 #[.agg #[.int .i64 pk, .int .i64 ps, .int .i64 pd, .int .i64 pq, .slice pa nl pc, .slice pb nd pe], .agg #[.int .i64 qk, .int .i64 qs, .int .i64 qd, .int .i64 qq, .slice qa ml qc, .slice qb md qe]] x.toW fun r w' => r = .returned (.bool s) ∧ Below x.toW.heap.size x.toW w') := Lib.hid (fun x => by
    have := HRS.out x.toW (HA.out.below (b4.trans (x.ok.mono b4.size))) (HA'.out.below (b4.trans (x.ok.mono b4.size)))
    rw [hs] at this
    exact this)
  have S4 : Hid (∀ x : Ext w4, Calls Try.prog 13 #[.agg #[.int .i64 pk, .int .i64 ps, .int .i64 pd, .int .i64 pq, .slice pa nl pc, .slice pb nd pe]] x.toW fun r w' => r = .returned (.bool m) ∧ Below x.toW.heap.size x.toW w') := Lib.hid (fun x => by
    have := HM1.out x.toW (HA.out.below (b4.trans (x.ok.mono b4.size))) Hl1.out
    rw [hm] at this
    exact this)
  have S5 : Hid (∀ x : Ext w4, Calls Try.prog 14 #[.agg #[.int .i64 pk, .int .i64 ps, .int .i64 pd, .int .i64 pq, .slice pa nl pc, .slice pb nd pe]] x.toW fun r w' => r = .returned (.bool m) ∧ Below x.toW.heap.size x.toW w') := Lib.hid (fun x => by
    have := HM2.out x.toW (HA.out.below (b4.trans (x.ok.mono b4.size))) Hl1.out
    rw [hm] at this
    exact this)
  have S3 : Hid (∀ x : Ext w4, Calls Try.prog 10 #[] x.toW fun r w' => r = .returned (.bool true) ∧ Below x.toW.heap.size x.toW w') := Lib.hid (fun x => awakeF_any x.toW)
  have v1 : ∀ x : Ext w4, (convert 23 9 (.slice a1 nx c1)).run Try.prog x.toW = .ok (.string (bstr X)) x.toW := fun x => by
    have R := R1.below x.ok
    rw [← HNX.out] at R ⊢
    exact conv_b c1 R
  have v2 : ∀ x : Ext w4, (convert 23 9 (.slice a2 nx c2)).run Try.prog x.toW = .ok (.string (bstr X)) x.toW := fun x => by
    have R := R2.below x.ok
    rw [← HNX.out] at R ⊢
    exact conv_b c2 R
  obtain ⟨T, hT⟩ : ∃ T, bstr X = T := ⟨_, rfl⟩
  rw [hT] at v1 v2
  have t1 : (T.toList == T.toList) = true := beq_self_eq_true _
  have yy : ∀ x : Ext w4, ∃ y : Ext w1, x.toW = y.toW := fun x => ⟨⟨x.toW, b4.trans (x.ok.mono b4.size)⟩, rfl⟩
  have x0 : ∀ x : Ext w4, x.toW.cell? ⟨g1, 0, none⟩ = some (.int .i64 pk) := fun x => by obtain ⟨y, hy⟩ := yy x; rw [hy]; exact x0 y
  have x1 : ∀ x : Ext w4, x.toW.cell? ⟨g1, 1, none⟩ = some (.int .i64 ps) := fun x => by obtain ⟨y, hy⟩ := yy x; rw [hy]; exact x1 y
  have x2 : ∀ x : Ext w4, x.toW.cell? ⟨g1, 2, none⟩ = some (.int .i64 pd) := fun x => by obtain ⟨y, hy⟩ := yy x; rw [hy]; exact x2 y
  have x3 : ∀ x : Ext w4, x.toW.cell? ⟨g1, 3, none⟩ = some (.int .i64 pq) := fun x => by obtain ⟨y, hy⟩ := yy x; rw [hy]; exact x3 y
  have x4 : ∀ x : Ext w4, x.toW.cell? ⟨g1, 4, none⟩ = some (.slice pa nl pc) := fun x => by obtain ⟨y, hy⟩ := yy x; rw [hy]; exact x4 y
  have x5 : ∀ x : Ext w4, x.toW.cell? ⟨g1, 5, none⟩ = some (.slice pb nd pe) := fun x => by obtain ⟨y, hy⟩ := yy x; rw [hy]; exact x5 y
  have y0 : ∀ x : Ext w4, x.toW.cell? ⟨g2, 0, none⟩ = some (.int .i64 qk) := fun x => by obtain ⟨y, hy⟩ := yy x; rw [hy]; exact y0 y
  have y1 : ∀ x : Ext w4, x.toW.cell? ⟨g2, 1, none⟩ = some (.int .i64 qs) := fun x => by obtain ⟨y, hy⟩ := yy x; rw [hy]; exact y1 y
  have y2 : ∀ x : Ext w4, x.toW.cell? ⟨g2, 2, none⟩ = some (.int .i64 qd) := fun x => by obtain ⟨y, hy⟩ := yy x; rw [hy]; exact y2 y
  have y3 : ∀ x : Ext w4, x.toW.cell? ⟨g2, 3, none⟩ = some (.int .i64 qq) := fun x => by obtain ⟨y, hy⟩ := yy x; rw [hy]; exact y3 y
  have y4 : ∀ x : Ext w4, x.toW.cell? ⟨g2, 4, none⟩ = some (.slice qa ml qc) := fun x => by obtain ⟨y, hy⟩ := yy x; rw [hy]; exact y4 y
  have y5 : ∀ x : Ext w4, x.toW.cell? ⟨g2, 5, none⟩ = some (.slice qb md qe) := fun x => by obtain ⟨y, hy⟩ := yy x; rw [hy]; exact y5 y
  have t2 : (s == s) = true := by simp
  have t3 : (m == m) = true := by simp
  have t4 : (er == er) = true := by simp
  clear hs hm R1 R2 yy hT HS HRS HM1 HM2
  go_upto_region 5 with (fail)
  refine wp_region_ext w4 (by kernel_rfl) (by kernel_rfl) (Below.refl _ _) ?_
  repeat (go_big_quiet_step (first
    | (go_at_call 15; with_reducible exact ext_below _ (u := .bool s) (S1.out _))
    | (go_at_call 16; with_reducible exact ext_below _ (u := .bool s) (S2.out _))
    | (go_at_call 13; with_reducible exact ext_below _ (u := .bool m) (S4.out _))
    | (go_at_call 14; with_reducible exact ext_below _ (u := .bool m) (S5.out _))
    | (go_at_call 10; with_reducible exact ext_below _ (u := .bool true) (S3.out _))))
  refine wpQuiet_nil ?_
  rintro w9 ⟨x9, rfl⟩
  have b9 := b4.trans (x9.ok.mono b4.size)
  clear x0 x1 x2 x3 x4 x5 y0 y1 y2 y3 y4 y5
  go_wp2_with fail
  go_ret
  exact ⟨rfl, by rw [HG.out]; exact b2.trans (b9.mono hgs)⟩

theorem walk (H : Type) (enc : TypeId × Value → H) : Walk H enc Try.prog 3 Try.f3 := by
  intro W base args ds p hval hA
  rw [Try.params3] at hA hval
  obtain ⟨v0, v1, d0, d1, p0, p1, rfl, rfl, rfl, h0, h1⟩ := trodAll_two hA
  obtain ⟨p, rfl, hp⟩ := open_frame (hval 0 _ v0 rfl rfl) h0
  obtain ⟨p', rfl, hp'⟩ := open_frame (hval 1 _ v1 rfl rfl) h1
  exact body p p' W hp hp'

set_option maxRecDepth 100000 in
theorem lifted (os : Os) (started : os.Started) (H : Type) (enc : TypeId × Value → H) :
    ReturnsInHanded {} Try.checked os 3 .any (Rows.frameFormsSpec.pre6 enc Try.prog Try.f3 Rows.frameFormsRow.domain false) (Rows.frameFormsSpec.post enc Try.prog Try.f3 false true false false) :=
  returnsInHanded_of_change (C := Try.checked) own started (by kernel_rfl) Try.func3
    (ChangeSpec.witness6 (enc := enc) (C := Try.checked) false ⟨#[], #[.agg #[.int .i64 0, .int .i64 0, .int .i64 0, .int .i64 0, .slice none 0 0, .slice none 0 0], .agg #[.int .i64 0, .int .i64 0, .int .i64 0, .int .i64 0, .slice none 0 0, .slice none 0 0]], []⟩ 8 (by kernel_rfl) (by kernel_rfl) (by kernel_rfl) (by kernel_rfl))
    fun W base args ds gs before hval hW _ _ => step_of_walk laidOut (by rw [Try.params3]; exact of_decide_eq_true (by kernel_rfl)) (by kernel_rfl) Try.underlying4 rfl
      (fun ds h => by
        rw [Try.params3] at h
        match ds, h with
        | [_, _], _ => rfl) (walk H enc) W base args ds gs before hval hW

theorem holds : Rows.FrameFormsSaid :=
  OpenClaim.holds_of_wide 3 Try.f3 rfl rfl rfl rfl rfl rfl rfl ⟨rfl, rfl, rfl, rfl, rfl⟩ rfl rfl rfl rfl rfl (by kernel_rfl) Try.func3 (by kernel_rfl)
    (of_decide_eq_true (by kernel_rfl)) (by unfold Func.isWrapper; first | (rw [if_pos (by decide +kernel)]; kernel_rfl) | (rw [if_neg (by decide +kernel)]; exact ⟨rfl, rfl⟩))
    (fun os started H enc _ => lifted os started H enc)
#print axioms holds
end Go.Proofs.Ytoconkgemakboaa.FrameForms
