/-
  Law AllocBoth: two cells clash both ways, or neither; in other slots never; a cell and itself always, of one node; the call returns true. No condition.
-/
import Derived.Test.YtahcplddonipcaaAlAwake
import Derived.Test.YtahcplddonipcaaExt
set_option maxRecDepth 100000
namespace Go.Proofs.Ytahcplddonipcaa.AllocBoth
set_option linter.unusedVariables false
open Go.RowKit Go.ChangeShapes Go.WideShapes Lb Cl Al
theorem own : ownKnob Try.prog.godebug = none := by kernel_rfl
theorem laidOut : laidOutB Try.prog = true := by kernel_rfl
theorem self_clash (a : C) (x : Int) : clashB a a x x = true := by
  unfold clashB apartB linkB nearB
  simp
/-- In another slot there is no clash, but for what may not be. -/
theorem other_slot (a : C) (s x y : Int) (hs : a.s ≠ s) : clashB a ⟨a.f, s, a.c, a.o, a.p⟩ x y = !okB a ⟨a.f, s, a.c, a.o, a.p⟩ x y := by
  unfold clashB
  have : apartB a ⟨a.f, s, a.c, a.o, a.p⟩ x y = true := by
    unfold apartB
    simp [hs]
  rw [this]
  cases okB a ⟨a.f, s, a.c, a.o, a.p⟩ x y <;> rfl
set_option maxHeartbeats 4000000 in
theorem body (a b : C) (x y : Int) (w : World) :
    Calls Try.prog 4 #[.agg #[.int .i64 a.f, .int .i64 a.s, .int .i64 a.c, .int .i64 a.o, .int .i64 a.p], .agg #[.int .i64 b.f, .int .i64 b.s, .int .i64 b.c, .int .i64 b.o, .int .i64 b.p], .int .i64 x, .int .i64 y] w fun r w' => r = .returned (.bool true) ∧ Below w.heap.size w w' := by
  have oA := (Own.new w 23 #[.int .i64 a.f, .int .i64 a.s, .int .i64 a.c, .int .i64 a.o, .int .i64 a.p]).alloc (.cells #[.int .i64 b.f, .int .i64 b.s, .int .i64 b.c, .int .i64 b.o, .int .i64 b.p] 23)
  have oB := Own.new (w.alloc (.cells #[.int .i64 a.f, .int .i64 a.s, .int .i64 a.c, .int .i64 a.o, .int .i64 a.p] 23)) 23 #[.int .i64 b.f, .int .i64 b.s, .int .i64 b.c, .int .i64 b.o, .int .i64 b.p]
  have bb := ((Below.refl w.heap.size w).alloc (Nat.le_refl _) (.cells #[.int .i64 a.f, .int .i64 a.s, .int .i64 a.c, .int .i64 a.o, .int .i64 a.p] 23)).alloc (by simp) (.cells #[.int .i64 b.f, .int .i64 b.s, .int .i64 b.c, .int .i64 b.o, .int .i64 b.p] 23)
  obtain ⟨ba, hba⟩ : ∃ q, w.heap.size = q := ⟨_, rfl⟩
  have hbb : (w.alloc (.cells #[.int .i64 a.f, .int .i64 a.s, .int .i64 a.c, .int .i64 a.o, .int .i64 a.p] 23)).heap.size = ba + 1 := by rw [← hba]; simp
  rw [hbb] at oB
  rw [hba] at oA
  have P1 : ∀ w, _ := fun w => clash_any a b x y w
  have P2 : ∀ w, _ := fun w => clash_any b a y x w
  rw [← clash_comm a b x y] at P2
  have P5 : ∀ w, _ := fun w => clash_any a a x x w
  rw [self_clash] at P5
  obtain ⟨q1, hq1⟩ : ∃ q, clashB a b x y = q := ⟨_, rfl⟩
  rw [hq1] at P1 P2
  have HA := Lib.hid (Eq.refl a)
  obtain ⟨A0, hA0⟩ : ∃ A0, a = A0 := ⟨_, rfl⟩
  obtain ⟨af, a1, ac, ao, ap⟩ := a
  obtain ⟨bf, b1, bc, bo, bp⟩ := b
  dsimp only at *
  have e1 : (q1 != q1) = false := by cases q1 <;> rfl
  have e2 : (q1 == q1) = true := by cases q1 <;> rfl
  clear hq1 HA
  go_enter Try.func4, Try.ntmps4
  go_upto_region 1 with (fail)
  generalize (w.alloc (.cells #[.int .i64 af, .int .i64 a1, .int .i64 ac, .int .i64 ao, .int .i64 ap] 23)).alloc (.cells #[.int .i64 bf, .int .i64 b1, .int .i64 bc, .int .i64 bo, .int .i64 bp] 23) = w0 at *
  clear hbb
  rw [hba] at bb
  have za : ∀ z : Ext w0, Own z.toW ba 23 #[.int .i64 af, .int .i64 a1, .int .i64 ac, .int .i64 ao, .int .i64 ap] := fun z => below_own z.ok oA oA.lt
  have zb : ∀ z : Ext w0, Own z.toW (ba + 1) 23 #[.int .i64 bf, .int .i64 b1, .int .i64 bc, .int .i64 bo, .int .i64 bp] := fun z => below_own z.ok oB oB.lt
  have ea0 : ∀ z : Ext w0, z.toW.cell? ⟨ba, 0, none⟩ = some (.int .i64 af) := fun z => (za z).cell 0
  have ea1 : ∀ z : Ext w0, z.toW.cell? ⟨ba, 1, none⟩ = some (.int .i64 a1) := fun z => (za z).cell 1
  have ea2 : ∀ z : Ext w0, z.toW.cell? ⟨ba, 2, none⟩ = some (.int .i64 ac) := fun z => (za z).cell 2
  have ea3 : ∀ z : Ext w0, z.toW.cell? ⟨ba, 3, none⟩ = some (.int .i64 ao) := fun z => (za z).cell 3
  have ea4 : ∀ z : Ext w0, z.toW.cell? ⟨ba, 4, none⟩ = some (.int .i64 ap) := fun z => (za z).cell 4
  have eb0 : ∀ z : Ext w0, z.toW.cell? ⟨ba + 1, 0, none⟩ = some (.int .i64 bf) := fun z => (zb z).cell 0
  have eb1 : ∀ z : Ext w0, z.toW.cell? ⟨ba + 1, 1, none⟩ = some (.int .i64 b1) := fun z => (zb z).cell 1
  have eb2 : ∀ z : Ext w0, z.toW.cell? ⟨ba + 1, 2, none⟩ = some (.int .i64 bc) := fun z => (zb z).cell 2
  have eb3 : ∀ z : Ext w0, z.toW.cell? ⟨ba + 1, 3, none⟩ = some (.int .i64 bo) := fun z => (zb z).cell 3
  have eb4 : ∀ z : Ext w0, z.toW.cell? ⟨ba + 1, 4, none⟩ = some (.int .i64 bp) := fun z => (zb z).cell 4
  have H1 : Hid (∀ z : Ext w0, Calls Try.prog 8 #[.agg #[.int .i64 af, .int .i64 a1, .int .i64 ac, .int .i64 ao, .int .i64 ap], .agg #[.int .i64 bf, .int .i64 b1, .int .i64 bc, .int .i64 bo, .int .i64 bp], .int .i64 x, .int .i64 y] z.toW fun e w' => e = .returned (.bool q1) ∧ ∃ y : Ext w0, w' = y.toW) := Lib.hid (fun z => ext_below z (P1 _))
  have H2 : Hid (∀ z : Ext w0, Calls Try.prog 8 #[.agg #[.int .i64 bf, .int .i64 b1, .int .i64 bc, .int .i64 bo, .int .i64 bp], .agg #[.int .i64 af, .int .i64 a1, .int .i64 ac, .int .i64 ao, .int .i64 ap], .int .i64 y, .int .i64 x] z.toW fun e w' => e = .returned (.bool q1) ∧ ∃ y : Ext w0, w' = y.toW) := Lib.hid (fun z => ext_below z (P2 _))
  clear P1 P2
  refine wp_region_ext w0 (by kernel_rfl) (by kernel_rfl) (Below.refl _ _) ?_
  repeat (go_big_quiet_step (first
    | (go_at_call 8; first | with_reducible exact H1.out _ | with_reducible exact H2.out _)))
  refine wpQuiet_nil ?_
  rintro w2 ⟨z2, rfl⟩
  have oA0 := oA
  replace oA := za z2
  have b2 := bb.trans (z2.ok.mono (Nat.le_of_lt oA0.lt))
  obtain ⟨w2, hw2⟩ : ∃ w2, z2.toW = w2 := ⟨_, rfl⟩
  rw [hw2] at oA b2 ⊢
  clear hw2 oA0 ea0 ea1 ea2 ea3 ea4 eb0 eb1 eb2 eb3 eb4 H1 H2 za zb oB bb
  have ka0 : w2.cell? ⟨ba, 0, none⟩ = some (.int .i64 af) := oA.cell 0
  have ka1 : w2.cell? ⟨ba, 1, none⟩ = some (.int .i64 a1) := oA.cell 1
  have ka2 : w2.cell? ⟨ba, 2, none⟩ = some (.int .i64 ac) := oA.cell 2
  have ka3 : w2.cell? ⟨ba, 3, none⟩ = some (.int .i64 ao) := oA.cell 3
  have ka4 : w2.cell? ⟨ba, 4, none⟩ = some (.int .i64 ap) := oA.cell 4
  by_cases hout : a1 < 0 ∨ 199 < a1
  · have hout2 : a1 < 0 ∨ (decide (a1 < 0) = false ∧ 199 < a1) := by
      by_cases h : a1 < 0
      · exact .inl h
      · exact .inr ⟨by simp; omega, by omega⟩
    clear hout
    rcases hout2 with h1 | ⟨h1, h2⟩
    all_goals
      have oA3 := oA.alloc (.cells #[.int .i64 af, .int .i64 a1, .int .i64 ac, .int .i64 ao, .int .i64 ap] 23)
      have b3 := b2.alloc (Nat.le_of_lt oA.lt) (.cells #[.int .i64 af, .int .i64 a1, .int .i64 ac, .int .i64 ao, .int .i64 ap] 23)
      have oC := Own.new w2 23 #[.int .i64 af, .int .i64 a1, .int .i64 ac, .int .i64 ao, .int .i64 ap]
      go_upto_region 4 with (fail)
      obtain ⟨cc, hbc⟩ : ∃ q, w2.heap.size = q := ⟨_, rfl⟩
      rw [hbc] at oC ⊢
      have hbac : ba < cc := hbc ▸ oA.lt
      generalize w2.alloc (.cells #[.int .i64 af, .int .i64 a1, .int .i64 ac, .int .i64 ao, .int .i64 ap] 23) = w3 at *
      clear ka0 ka1 ka2 ka3 ka4 hbc b2 oA
      have c1 : w3.cell? ⟨cc, 1, none⟩ = some (.int .i64 a1) := oC.cell 1
      have f1 : w3.frozen? ⟨cc, 1, none⟩ = false := oC.free 1
      have kd0 : w3.cell? ⟨ba, 0, none⟩ = some (.int .i64 af) := oA3.cell 0
      have kd1 : w3.cell? ⟨ba, 1, none⟩ = some (.int .i64 a1) := oA3.cell 1
      have kd2 : w3.cell? ⟨ba, 2, none⟩ = some (.int .i64 ac) := oA3.cell 2
      have kd3 : w3.cell? ⟨ba, 3, none⟩ = some (.int .i64 ao) := oA3.cell 3
      have kd4 : w3.cell? ⟨ba, 4, none⟩ = some (.int .i64 ap) := oA3.cell 4
      have o5 := (Just.set cc w3 1 (.int .i64 ((wrap64 (a1 + 1)).tmod 200))).own oA3 (by omega)
      have b5 := (Just.set cc w3 1 (.int .i64 ((wrap64 (a1 + 1)).tmod 200))).below b3 (Nat.le_of_lt hbac) (Nat.le_of_lt oA3.lt)
      have oC5 := oC.put 1 (.int .i64 ((wrap64 (a1 + 1)).tmod 200))
      go_upto_region 5 with (fail)
      generalize w3.setCell ⟨cc, 1, none⟩ (.int .i64 ((wrap64 (a1 + 1)).tmod 200)) = w5 at *
      clear c1 f1 kd0 kd1 kd2 kd3 kd4 oA3 b3 oC
      clear w3
      have ka0 : w5.cell? ⟨ba, 0, none⟩ = some (.int .i64 af) := o5.cell 0
      have ka1 : w5.cell? ⟨ba, 1, none⟩ = some (.int .i64 a1) := o5.cell 1
      have ka2 : w5.cell? ⟨ba, 2, none⟩ = some (.int .i64 ac) := o5.cell 2
      have ka3 : w5.cell? ⟨ba, 3, none⟩ = some (.int .i64 ao) := o5.cell 3
      have ka4 : w5.cell? ⟨ba, 4, none⟩ = some (.int .i64 ap) := o5.cell 4
      go_quiet (fail)
      generalize hw6 : World.drewN _ _ = w6 at *
      have o6 : Own w6 ba 23 #[.int .i64 af, .int .i64 a1, .int .i64 ac, .int .i64 ao, .int .i64 ap] := by rw [← hw6]; exact o5.drewN _
      have b6 : Below ba w w6 := by rw [← hw6]; exact below_drewN b5 _
      clear hw6 o5 b5 oC5 ka0 ka1 ka2 ka3 ka4
      have ka0 : w6.cell? ⟨ba, 0, none⟩ = some (.int .i64 af) := o6.cell 0
      have ka1 : w6.cell? ⟨ba, 1, none⟩ = some (.int .i64 a1) := o6.cell 1
      have ka2 : w6.cell? ⟨ba, 2, none⟩ = some (.int .i64 ac) := o6.cell 2
      have ka3 : w6.cell? ⟨ba, 3, none⟩ = some (.int .i64 ao) := o6.cell 3
      have ka4 : w6.cell? ⟨ba, 4, none⟩ = some (.int .i64 ap) := o6.cell 4
      go_wp2_with fail
      clear ka0 ka1 ka2 ka3 ka4
      refine (awake_any _).mono ?_
      rintro r w9 ⟨rfl, b9⟩
      go_wp2_with fail
      go_ret
      exact ⟨rfl, hba ▸ b6.trans (b9.mono (Nat.le_of_lt o6.lt))⟩
  · have hin : 0 ≤ a1 ∧ a1 ≤ 199 := by omega
    have g1 : decide (a1 < 0) = false := by simp; omega
    have g2 : decide ((199 : Int) < a1) = false := by simp; omega
    have eS0 : wrap64 (a1 + 1) = a1 + 1 := IntWalk.wrap64_in _ ⟨by omega, by omega⟩
    obtain ⟨S, hS⟩ : ∃ S, (a1 + 1).tmod 200 = S := ⟨_, rfl⟩
    have hne : a1 ≠ S := by
      rw [← hS, Int.tmod_eq_emod_of_nonneg (by omega)]
      omega
    clear hout hin
    have oA3 := oA.alloc (.cells #[.int .i64 af, .int .i64 a1, .int .i64 ac, .int .i64 ao, .int .i64 ap] 23)
    have b3 := b2.alloc (Nat.le_of_lt oA.lt) (.cells #[.int .i64 af, .int .i64 a1, .int .i64 ac, .int .i64 ao, .int .i64 ap] 23)
    have oC := Own.new w2 23 #[.int .i64 af, .int .i64 a1, .int .i64 ac, .int .i64 ao, .int .i64 ap]
    go_upto_region 4 with (fail)
    obtain ⟨cc, hbc⟩ : ∃ q, w2.heap.size = q := ⟨_, rfl⟩
    rw [hbc] at oC ⊢
    have hbac : ba < cc := hbc ▸ oA.lt
    generalize w2.alloc (.cells #[.int .i64 af, .int .i64 a1, .int .i64 ac, .int .i64 ao, .int .i64 ap] 23) = w3 at *
    clear ka0 ka1 ka2 ka3 ka4 hbc b2 oA
    have c1 : w3.cell? ⟨cc, 1, none⟩ = some (.int .i64 a1) := oC.cell 1
    have f1 : w3.frozen? ⟨cc, 1, none⟩ = false := oC.free 1
    have kd0 : w3.cell? ⟨ba, 0, none⟩ = some (.int .i64 af) := oA3.cell 0
    have kd1 : w3.cell? ⟨ba, 1, none⟩ = some (.int .i64 a1) := oA3.cell 1
    have kd2 : w3.cell? ⟨ba, 2, none⟩ = some (.int .i64 ac) := oA3.cell 2
    have kd3 : w3.cell? ⟨ba, 3, none⟩ = some (.int .i64 ao) := oA3.cell 3
    have kd4 : w3.cell? ⟨ba, 4, none⟩ = some (.int .i64 ap) := oA3.cell 4
    have o5 := (Just.set cc w3 1 (.int .i64 S)).own oA3 (by omega)
    have b5 := (Just.set cc w3 1 (.int .i64 S)).below b3 (Nat.le_of_lt hbac) (Nat.le_of_lt oA3.lt)
    have oC5 := oC.put 1 (.int .i64 S)
    go_upto_region 5 with (fail)
    generalize w3.setCell ⟨cc, 1, none⟩ (.int .i64 S) = w5 at *
    clear c1 f1 kd0 kd1 kd2 kd3 kd4 oA3 b3 oC
    clear w3
    obtain ⟨k3, hk3⟩ : ∃ q, clashB ⟨af, a1, ac, ao, ap⟩ ⟨af, S, ac, ao, ap⟩ x x = q := ⟨_, rfl⟩
    obtain ⟨k4, hk4⟩ : ∃ q, clashB ⟨af, a1, ac, ao, ap⟩ ⟨af, S, ac, ao, ap⟩ x y = q := ⟨_, rfl⟩
    have hcase : (k3 != k4) = false ∨ ((k3 != k4) = true ∧ decide (0 ≤ x) = false) ∨ ((k3 != k4) = true ∧ decide (0 ≤ x) = true ∧ decide (x < 16) = false) ∨ ((k3 != k4) = true ∧ decide (0 ≤ x) = true ∧ decide (x < 16) = true ∧ decide (0 ≤ y) = false) ∨ ((k3 != k4) = true ∧ decide (0 ≤ x) = true ∧ decide (x < 16) = true ∧ decide (0 ≤ y) = true ∧ decide (y < 16) = false) := by
      rw [other_slot ⟨af, a1, ac, ao, ap⟩ S x x hne] at hk3
      rw [other_slot ⟨af, a1, ac, ao, ap⟩ S x y hne] at hk4
      unfold okB ndB at hk3 hk4
      by_cases h1 : 0 ≤ x
      · by_cases h2 : x < 16
        · by_cases h3 : 0 ≤ y
          · by_cases h4 : y < 16
            · simp only [h1, h2, h3, h4, and_self, decide_true] at hk3 hk4
              rw [← hk3, ← hk4]
              simp
            · cases k3 <;> cases k4 <;> simp [h1, h2, h3, h4]
          · cases k3 <;> cases k4 <;> simp [h1, h2, h3]
        · cases k3 <;> cases k4 <;> simp [h1, h2]
      · cases k3 <;> cases k4 <;> simp [h1]
    have za : ∀ z : Ext w5, Own z.toW ba 23 #[.int .i64 af, .int .i64 a1, .int .i64 ac, .int .i64 ao, .int .i64 ap] := fun z => below_own z.ok o5 o5.lt
    have zc : ∀ z : Ext w5, Own z.toW cc 23 #[.int .i64 af, .int .i64 S, .int .i64 ac, .int .i64 ao, .int .i64 ap] := fun z => below_own z.ok oC5 oC5.lt
    have ea0 : ∀ z : Ext w5, z.toW.cell? ⟨ba, 0, none⟩ = some (.int .i64 af) := fun z => (za z).cell 0
    have ea1 : ∀ z : Ext w5, z.toW.cell? ⟨ba, 1, none⟩ = some (.int .i64 a1) := fun z => (za z).cell 1
    have ea2 : ∀ z : Ext w5, z.toW.cell? ⟨ba, 2, none⟩ = some (.int .i64 ac) := fun z => (za z).cell 2
    have ea3 : ∀ z : Ext w5, z.toW.cell? ⟨ba, 3, none⟩ = some (.int .i64 ao) := fun z => (za z).cell 3
    have ea4 : ∀ z : Ext w5, z.toW.cell? ⟨ba, 4, none⟩ = some (.int .i64 ap) := fun z => (za z).cell 4
    have ec0 : ∀ z : Ext w5, z.toW.cell? ⟨cc, 0, none⟩ = some (.int .i64 af) := fun z => (zc z).cell 0
    have ec1 : ∀ z : Ext w5, z.toW.cell? ⟨cc, 1, none⟩ = some (.int .i64 S) := fun z => (zc z).cell 1
    have ec2 : ∀ z : Ext w5, z.toW.cell? ⟨cc, 2, none⟩ = some (.int .i64 ac) := fun z => (zc z).cell 2
    have ec3 : ∀ z : Ext w5, z.toW.cell? ⟨cc, 3, none⟩ = some (.int .i64 ao) := fun z => (zc z).cell 3
    have ec4 : ∀ z : Ext w5, z.toW.cell? ⟨cc, 4, none⟩ = some (.int .i64 ap) := fun z => (zc z).cell 4
    have H3 : Hid (∀ z : Ext w5, Calls Try.prog 8 #[.agg #[.int .i64 af, .int .i64 a1, .int .i64 ac, .int .i64 ao, .int .i64 ap], .agg #[.int .i64 af, .int .i64 S, .int .i64 ac, .int .i64 ao, .int .i64 ap], .int .i64 x, .int .i64 x] z.toW fun e w' => e = .returned (.bool k3) ∧ ∃ y : Ext w5, w' = y.toW) := Lib.hid (fun z => ext_below z (hk3 ▸ clash_any ⟨af, a1, ac, ao, ap⟩ ⟨af, S, ac, ao, ap⟩ x x _))
    have H4 : Hid (∀ z : Ext w5, Calls Try.prog 8 #[.agg #[.int .i64 af, .int .i64 a1, .int .i64 ac, .int .i64 ao, .int .i64 ap], .agg #[.int .i64 af, .int .i64 S, .int .i64 ac, .int .i64 ao, .int .i64 ap], .int .i64 x, .int .i64 y] z.toW fun e w' => e = .returned (.bool k4) ∧ ∃ y : Ext w5, w' = y.toW) := Lib.hid (fun z => ext_below z (hk4 ▸ clash_any ⟨af, a1, ac, ao, ap⟩ ⟨af, S, ac, ao, ap⟩ x y _))
    clear hk3 hk4 hS hne eS0
    rcases hcase with q1 | ⟨q1, q2⟩ | ⟨q1, q2, q3⟩ | ⟨q1, q2, q3, q4⟩ | ⟨q1, q2, q3, q4, q5⟩
    all_goals
      cases k3 <;> cases k4 <;> first | (exact absurd q1 (by decide)) | skip
    all_goals
      clear q1
      refine wp_region_ext w5 (by kernel_rfl) (by kernel_rfl) (Below.refl _ _) ?_
      repeat (go_big_quiet_step (first
        | (go_at_call 8; first | with_reducible exact H3.out _ | with_reducible exact H4.out _)))
      refine wpQuiet_nil ?_
      rintro w6 ⟨z6, rfl⟩
      have o6 := za z6
      have b6 := b5.trans (z6.ok.mono (Nat.le_of_lt o5.lt))
      obtain ⟨w6, hw6⟩ : ∃ w6, z6.toW = w6 := ⟨_, rfl⟩
      rw [hw6] at o6 b6 ⊢
      clear hw6 ea0 ea1 ea2 ea3 ea4 ec0 ec1 ec2 ec3 ec4 H3 H4 za zc o5 oC5 b5
      have ka0 : w6.cell? ⟨ba, 0, none⟩ = some (.int .i64 af) := o6.cell 0
      have ka1 : w6.cell? ⟨ba, 1, none⟩ = some (.int .i64 a1) := o6.cell 1
      have ka2 : w6.cell? ⟨ba, 2, none⟩ = some (.int .i64 ac) := o6.cell 2
      have ka3 : w6.cell? ⟨ba, 3, none⟩ = some (.int .i64 ao) := o6.cell 3
      have ka4 : w6.cell? ⟨ba, 4, none⟩ = some (.int .i64 ap) := o6.cell 4
      go_wp2_with fail
      clear ka0 ka1 ka2 ka3 ka4
      refine (P5 _).mono ?_
      rintro r w8 ⟨rfl, j8⟩
      have o8 := below_own j8 o6 o6.lt
      have b8 := b6.trans (j8.mono (Nat.le_of_lt o6.lt))
      go_wp2_with fail
      refine (awake_any _).mono ?_
      rintro r w9 ⟨rfl, b9⟩
      go_wp2_with fail
      go_ret
      exact ⟨rfl, hba ▸ b8.trans (b9.mono (Nat.le_of_lt o8.lt))⟩
theorem open_c {H : Type} {enc : TypeId × Value → H} (W : World) (base : Nat) (v : Value) {d : DataW H} {p : List MemPlace} (hv : Value.okWide Try.prog W .any base 23 v) (h : DataW.Trod enc Try.prog W 0 (fun _ => true) true 23 v d p) :
    ∃ x : C, v = .agg #[.int .i64 x.f, .int .i64 x.s, .int .i64 x.c, .int .i64 x.o, .int .i64 x.p] := by
  have hX : Try.prog.cellsOf 23 = 5 := by kernel_rfl
  have hI : Try.prog.cellsOf 3 = 1 := by kernel_rfl
  obtain ⟨cs, rfl, hsz⟩ := okWide_struct Try.underlying23 hv
  rw [hX] at hsz
  obtain ⟨l⟩ := cs
  match l, hsz with
  | [x0, x1, x2, x3, x4], _ =>
  obtain ⟨fuel, hf⟩ := h
  obtain ⟨xs, k, _, _, _, hlen, hfs⟩ := DataW.trod_struct Try.underlying23 hf
  match xs, hlen with
  | [z0, z1, z2, z3, z4], _ =>
  obtain ⟨q0, f0, _⟩ := DataW.trod_int Try.underlying3 (hfs 0 _ rfl)
  obtain ⟨q1, f1, _⟩ := DataW.trod_int Try.underlying3 (hfs 1 _ rfl)
  obtain ⟨q2, f2, _⟩ := DataW.trod_int Try.underlying3 (hfs 2 _ rfl)
  obtain ⟨q3, f3, _⟩ := DataW.trod_int Try.underlying3 (hfs 3 _ rfl)
  obtain ⟨q4, f4, _⟩ := DataW.trod_int Try.underlying3 (hfs 4 _ rfl)
  simp [Value.cells, hI] at f0 f1 f2 f3 f4
  subst f0 f1 f2 f3 f4
  exact ⟨⟨q0, q1, q2, q3, q4⟩, rfl⟩
theorem walk (H : Type) (enc : TypeId × Value → H) : Walk H enc Try.prog 4 Try.f4 := by
  intro W base args ds p hval hA
  rw [Try.params4] at hA hval
  obtain ⟨v0, v1, v2, v3, d0, d1, d2, d3, p0, p1, p2, p3, rfl, rfl, rfl, h0, h1, h2, h3⟩ := trodAll_four hA
  obtain ⟨a, rfl⟩ := open_c W base v0 (hval 0 _ v0 rfl rfl) h0
  obtain ⟨b, rfl⟩ := open_c W base v1 (hval 1 _ v1 rfl rfl) h1
  obtain ⟨x, rfl, rfl, rfl, _⟩ := open_int Try.underlying3 (hval 2 _ v2 rfl rfl) h2
  obtain ⟨y, rfl, rfl, rfl, _⟩ := open_int Try.underlying3 (hval 3 _ v3 rfl rfl) h3
  exact body a b x y W

set_option maxRecDepth 100000 in
theorem lifted (os : Os) (started : os.Started) (H : Type) (enc : TypeId × Value → H) :
    ReturnsInHanded {} Try.checked os 4 .any (Rows.allocBothSpec.pre6 enc Try.prog Try.f4 Rows.allocBothRow.domain false) (Rows.allocBothSpec.post enc Try.prog Try.f4 false true false false) :=
  returnsInHanded_of_change (C := Try.checked) own started (by kernel_rfl) Try.func4
    (ChangeSpec.witness6 (enc := enc) (C := Try.checked) false ⟨#[], #[.agg #[.int .i64 0, .int .i64 0, .int .i64 0, .int .i64 0, .int .i64 0], .agg #[.int .i64 0, .int .i64 0, .int .i64 0, .int .i64 0, .int .i64 0], .int .i64 0, .int .i64 0], []⟩ 8 (by kernel_rfl) (by kernel_rfl) (by kernel_rfl) (by kernel_rfl))
    fun W base args ds gs before hval hW _ _ => step_of_walk laidOut (by rw [Try.params4]; exact of_decide_eq_true (by kernel_rfl)) (by kernel_rfl) Try.underlying4 rfl
      (fun ds h => by
        rw [Try.params4] at h
        match ds, h with
        | [_, _, _, _], _ => rfl) (walk H enc) W base args ds gs before hval hW

theorem holds : Rows.AllocBothSaid :=
  OpenClaim.holds_of_wide 4 Try.f4 rfl rfl rfl rfl rfl rfl rfl ⟨rfl, rfl, rfl, rfl, rfl⟩ rfl rfl rfl rfl rfl (by kernel_rfl) Try.func4 (by kernel_rfl)
    (of_decide_eq_true (by kernel_rfl)) (by unfold Func.isWrapper; first | (rw [if_pos (by decide +kernel)]; kernel_rfl) | (rw [if_neg (by decide +kernel)]; exact ⟨rfl, rfl⟩))
    (fun os started H enc _ => lifted os started H enc)
#print axioms holds
end Go.Proofs.Ytahcplddonipcaa.AllocBoth
