/-
  The reference's Deal (chapter 22): clash, fit, link.
-/
import Derived.Test.YtahcplddonipcaaGreatRowC
import Derived.Lib.Hide
import Derived.Test.YtahcplddonipcaaGreatAlClash
import Derived.Deep.Cut
import Derived.Deep.CutRange
import Derived.BigRegion
import Derived.Test.YtahcplddonipcaaGreatAlLink
import Derived.Test.YtahcplddonipcaaGreatRowOut
import Derived.Test.YtahcplddonipcaaGreatDaKit
set_option linter.unusedSimpArgs false
set_option maxRecDepth 100000
namespace Go.Proofs.YtahcplddonipcaaGreat.Cl
set_option linter.unusedVariables false
open Go.RowKit Lb

theorem ref_node (f : Int) (w : World) :
    Calls Tryz.prog 114 #[.int .i64 f] w fun r w' => r = .returned (.bool (ndB f)) ∧ w = w' := by
  by_cases h0 : 0 ≤ f
  · by_cases h1 : f < 16
    · have HD : Hid (ndB f = true) := Lib.hid (by simp [ndB, h0, h1])
      go_enter Tryz.func114, Tryz.ntmps114
      go_wp2_with fail
      go_ret
      exact ⟨by rw [HD.out]; rfl, rfl⟩
    · have HD : Hid (ndB f = false) := Lib.hid (by simp [ndB]; omega)
      have h2 : decide (f < 16) = false := by simp; omega
      clear h1
      go_enter Tryz.func114, Tryz.ntmps114
      go_wp2_with fail
      go_ret
      exact ⟨by rw [HD.out]; rfl, rfl⟩
  · have HD : Hid (ndB f = false) := Lib.hid (by simp [ndB]; omega)
    have h2 : f < 0 := by omega
    clear h0
    go_enter Tryz.func114, Tryz.ntmps114
    go_wp2_with fail
    go_ret
    exact ⟨by rw [HD.out]; rfl, rfl⟩
theorem in2_cases (f s c : Int) : (inB f s c = true ∧ 0 ≤ f ∧ f < 4 ∧ 0 ≤ s ∧ s < 200 ∧ 0 ≤ c ∧ c ≤ 15) ∨ (inB f s c = false ∧ f < 0) ∨ (inB f s c = false ∧ 0 ≤ f ∧ decide (f < 4) = false) ∨ (inB f s c = false ∧ 0 ≤ f ∧ f < 4 ∧ s < 0) ∨
    (inB f s c = false ∧ 0 ≤ f ∧ f < 4 ∧ 0 ≤ s ∧ decide (s < 200) = false) ∨ (inB f s c = false ∧ 0 ≤ f ∧ f < 4 ∧ 0 ≤ s ∧ s < 200 ∧ c < 0) ∨ (inB f s c = false ∧ 0 ≤ f ∧ f < 4 ∧ 0 ≤ s ∧ s < 200 ∧ 0 ≤ c ∧ decide (c ≤ 15) = false) := by
  unfold inB
  simp only [decide_eq_true_eq, decide_eq_false_iff_not]
  omega
theorem pe2_cases (p : Int) : (peB p = true ∧ ndB p = true) ∨ (peB p = true ∧ ndB p = false ∧ (p == 64) = true) ∨ (peB p = false ∧ ndB p = false ∧ (p == 64) = false) := by
  unfold peB ndB
  simp only [decide_eq_true_eq, decide_eq_false_iff_not, beq_iff_eq, beq_eq_false_iff_ne]
  omega
theorem op_cases (o : Int) (h0 : 1 ≤ o) (h1 : o ≤ 15) : ∃ b3 b4 b1 : Bool, (bits .and .i64 o 3 == 0) = b3 ∧ (bits .and .i64 o 4 == 0) = b4 ∧ (bits .and .i64 o 1 == 0) = b1 ∧
    (bits .and .i64 o 3 != 0) = !b3 ∧ (bits .and .i64 o 4 != 0) = !b4 ∧ (bits .and .i64 o 1 != 0) = !b1 ∧ opB o = (!b3 && (b4 || !b1)) := by
  refine ⟨_, _, _, rfl, rfl, rfl, rfl, rfl, rfl, ?_⟩
  rcases (show o = 1 ∨ o = 2 ∨ o = 3 ∨ o = 4 ∨ o = 5 ∨ o = 6 ∨ o = 7 ∨ o = 8 ∨ o = 9 ∨ o = 10 ∨ o = 11 ∨ o = 12 ∨ o = 13 ∨ o = 14 ∨ o = 15 by omega) with rfl | rfl | rfl | rfl | rfl | rfl | rfl | rfl | rfl | rfl | rfl | rfl | rfl | rfl | rfl <;> decide +kernel
set_option maxHeartbeats 4000000 in
theorem ref_may (f s c o p : Int) (w : World) :
    Calls Tryz.prog 113 #[.agg #[.int .i64 f, .int .i64 s, .int .i64 c, .int .i64 o, .int .i64 p]] w fun r w' => r = .returned (.bool (mayC f s c o p)) ∧ Below w.heap.size w w' := by
  have HD : Hid (mayC f s c o p = (inB f s c && peB p && opB o)) := Lib.hid rfl
  rcases in2_cases f s c with ⟨hi, h0, h1, h2, h3, h4, h5⟩ | ⟨hi, h0⟩ | ⟨hi, h0, h1⟩ | ⟨hi, h0, h1, h2⟩ | ⟨hi, h0, h1, h2, h3⟩ | ⟨hi, h0, h1, h2, h3, h4⟩ | ⟨hi, h0, h1, h2, h3, h4, h5⟩
  · have HI := Lib.hid hi
    clear hi
    by_cases hr : 1 ≤ o ∧ o ≤ 15
    · obtain ⟨b3, b4, b1, t3, t4, t1, u3, u4, u1, ho⟩ := op_cases o hr.1 hr.2
      obtain ⟨r0, r1⟩ := hr
      have HO := Lib.hid ho
      clear ho
      rcases (show b3 = true ∨ (b3 = false ∧ b4 = false ∧ b1 = true) ∨ (b3 = false ∧ b4 = true) ∨ (b3 = false ∧ b4 = false ∧ b1 = false) by cases b3 <;> cases b4 <;> cases b1 <;> simp) with rfl | ⟨rfl, rfl, rfl⟩ | ⟨rfl, rfl⟩ | ⟨rfl, rfl, rfl⟩
      iterate 2
        · go_enter Tryz.func113, Tryz.ntmps113
          go_wp2_with fail
          all_goals
            go_ret
            exact ⟨by rw [HD.out, HO.out, Bool.and_comm]; rfl, (Below.refl w.heap.size w).alloc (Nat.le_refl _) _⟩
      all_goals
        rcases pe2_cases p with ⟨hp, g1⟩ | ⟨hp, g1, g2⟩ | ⟨hp, g1, g2⟩
        all_goals
          have HP := Lib.hid hp
          have HN := Lib.hid g1
          clear hp g1
          go_enter Tryz.func113, Tryz.ntmps113
          go_wp2_with fail
          refine (ref_node _ _).mono ?_
          rintro r w' ⟨rfl, rfl⟩
          rw [HN.out]
          go_wp2_with fail
          go_ret
          exact ⟨by rw [HD.out, HI.out, HP.out, HO.out]; rfl, (Below.refl w.heap.size w).alloc (Nat.le_refl _) _⟩
    · have HO : Hid (opB o = false) := Lib.hid (by simp [opB]; omega)
      by_cases g0 : o < 1
      · clear hr
        go_enter Tryz.func113, Tryz.ntmps113
        go_wp2_with fail
        all_goals
          go_ret
          exact ⟨by rw [HD.out, HO.out, Bool.and_false]; rfl, (Below.refl w.heap.size w).alloc (Nat.le_refl _) _⟩
      · have g1 : 1 ≤ o := by omega
        have g2 : decide (o ≤ 15) = false := by simp; omega
        clear hr g0
        go_enter Tryz.func113, Tryz.ntmps113
        go_wp2_with fail
        all_goals
          go_ret
          exact ⟨by rw [HD.out, HO.out, Bool.and_false]; rfl, (Below.refl w.heap.size w).alloc (Nat.le_refl _) _⟩
  all_goals
    have HI := Lib.hid hi
    clear hi
    go_enter Tryz.func113, Tryz.ntmps113
    go_wp2_with fail
    all_goals
      go_ret
      exact ⟨by rw [HD.out, HI.out, Bool.false_and, Bool.false_and]; rfl, (Below.refl w.heap.size w).alloc (Nat.le_refl _) _⟩
end Go.Proofs.YtahcplddonipcaaGreat.Cl
set_option maxRecDepth 100000
namespace Go.Proofs.YtahcplddonipcaaGreat.Al
set_option linter.unusedVariables false
open Go.RowKit Lb Cl

theorem wy_bd {o : Int} (h : opB o = true) : 0 ≤ wy o ∧ wy o ≤ 3 := by
  unfold opB at h
  rw [decide_eq_true_eq] at h
  rcases h with rfl | rfl | rfl | rfl | rfl | rfl | rfl | rfl | rfl | rfl <;> exact ⟨by decide, by decide⟩
theorem may_op {a : C} (h : a.may = true) : opB a.o = true := by
  unfold C.may mayC at h
  rw [Bool.and_eq_true] at h
  exact h.2
theorem may_pe {a : C} (h : a.may = true) : (a.p != 64) = ndB a.p := by
  unfold C.may mayC at h
  rw [Bool.and_eq_true, Bool.and_eq_true] at h
  have h := h.1.2
  unfold peB at h
  rw [decide_eq_true_eq] at h
  unfold ndB
  rw [Bool.eq_iff_iff, bne_iff_ne, decide_eq_true_eq]
  omega
def endsB (a b : C) : Bool := (wy a.o == 1 && wy b.o == 2) || (wy a.o == 2 && wy b.o == 1)
theorem ends_any (a b : C) (w : World) (ha : opB a.o = true) (hb : opB b.o = true) : Calls Tryz.prog 115 #[.agg #[.int .i64 a.f, .int .i64 a.s, .int .i64 a.c, .int .i64 a.o, .int .i64 a.p], .agg #[.int .i64 b.f, .int .i64 b.s, .int .i64 b.c, .int .i64 b.o, .int .i64 b.p]] w fun r w' => r = .returned (.bool (endsB a b)) ∧ Below w.heap.size w w' := by
  have h1 := wy_bd ha
  have h2 := wy_bd hb
  have hd : endsB a b = ((wy a.o == 1 && wy b.o == 2) || (wy a.o == 2 && wy b.o == 1)) := rfl
  unfold wy at hd h1 h2
  obtain ⟨x, hx⟩ : ∃ q, Go.bits .and .i64 a.o 3 = q := ⟨_, rfl⟩
  obtain ⟨y, hy⟩ : ∃ q, Go.bits .and .i64 b.o 3 = q := ⟨_, rfl⟩
  rw [hx] at hd h1
  rw [hy] at hd h2
  clear ha hb
  obtain ⟨af, a1, ac, ao, ap⟩ := a
  obtain ⟨bf, b1, bc, bo, bp⟩ := b
  dsimp only at *
  have hA := (Below.refl w.heap.size w).alloc (Nat.le_refl _) (.cells #[.int .i64 af, .int .i64 a1, .int .i64 ac, .int .i64 ao, .int .i64 ap] 50)
  have hB := hA.alloc (by simp) (.cells #[.int .i64 bf, .int .i64 b1, .int .i64 bc, .int .i64 bo, .int .i64 bp] 50)
  have HD := Lib.hid hd
  clear hd hA
  rcases (show x = 0 ∨ x = 1 ∨ x = 2 ∨ x = 3 by omega) with rfl | rfl | rfl | rfl
  all_goals
    rcases (show y = 0 ∨ y = 1 ∨ y = 2 ∨ y = 3 by omega) with rfl | rfl | rfl | rfl
    all_goals
      clear h1 h2
      go_enter Tryz.func115, Tryz.ntmps115
      go_wp2_with fail
      go_quiet (fail)
      have hC := below_drewN hB nq
      go_wp2_with fail
      go_ret
      exact ⟨by rw [HD.out]; rfl, hC⟩
set_option maxHeartbeats 4000000 in
theorem rclash_any (a b : C) (x y : Int) (w : World) : Calls Tryz.prog 87 #[.agg #[.int .i64 a.f, .int .i64 a.s, .int .i64 a.c, .int .i64 a.o, .int .i64 a.p], .agg #[.int .i64 b.f, .int .i64 b.s, .int .i64 b.c, .int .i64 b.o, .int .i64 b.p], .int .i64 x, .int .i64 y] w fun r w' => r = .returned (.bool (clashB a b x y)) ∧ Below w.heap.size w w' := by
  have hd : clashB a b x y = (if okB a b x y then (if apartB a b x y then false else nearB a b x y) else true) := rfl
  have hd1 : okB a b x y = (a.may && (b.may && (ndB x && ndB y))) := rfl
  have hd2 : apartB a b x y = ((a.f != b.f) || ((a.s != b.s) || ((x != y) && ((a.p == y) && ((b.p == x) && ((a.c == b.c) && endsB a b)))))) := rfl
  have hd3 : nearB a b x y = ((x == y) || ((a.c == b.c) || ((b.p == x) || ((a.p == y) || ((a.p == b.p) && ndB a.p))))) := rfl
  have hop := fun (h : a.may = true) => may_op h
  have hop2 := fun (h : b.may = true) => may_op h
  have hpe := fun (h : a.may = true) => may_pe h
  have hB := ((Below.refl w.heap.size w).alloc (Nat.le_refl _) (.cells #[.int .i64 a.f, .int .i64 a.s, .int .i64 a.c, .int .i64 a.o, .int .i64 a.p] 50)).alloc (by simp) (.cells #[.int .i64 b.f, .int .i64 b.s, .int .i64 b.c, .int .i64 b.o, .int .i64 b.p] 50)
  have oA := (Own.new w 50 #[.int .i64 a.f, .int .i64 a.s, .int .i64 a.c, .int .i64 a.o, .int .i64 a.p]).alloc (.cells #[.int .i64 b.f, .int .i64 b.s, .int .i64 b.c, .int .i64 b.o, .int .i64 b.p] 50)
  have oB := Own.new (w.alloc (.cells #[.int .i64 a.f, .int .i64 a.s, .int .i64 a.c, .int .i64 a.o, .int .i64 a.p] 50)) 50 #[.int .i64 b.f, .int .i64 b.s, .int .i64 b.c, .int .i64 b.o, .int .i64 b.p]
  have PA : ∀ w, _ := fun w => ref_may a.f a.s a.c a.o a.p w
  have PB : ∀ w, _ := fun w => ref_may b.f b.s b.c b.o b.p w
  have PX : ∀ w, _ := fun w => ref_node x w
  have PY : ∀ w, _ := fun w => ref_node y w
  have PL : ∀ w, opB a.o = true → opB b.o = true → _ := fun w h1 h2 => ends_any a b w h1 h2
  obtain ⟨ma, hma⟩ : ∃ q, mayC a.f a.s a.c a.o a.p = q := ⟨_, rfl⟩
  obtain ⟨mb, hmb⟩ : ∃ q, mayC b.f b.s b.c b.o b.p = q := ⟨_, rfl⟩
  have hma2 : a.may = ma := hma
  have hmb2 : b.may = mb := hmb
  rw [hma2, hmb2] at hd1
  rw [hma2] at hop hpe
  rw [hmb2] at hop2
  rw [hma] at PA
  rw [hmb] at PB
  obtain ⟨nx, hnx⟩ : ∃ q, ndB x = q := ⟨_, rfl⟩
  obtain ⟨ny, hny⟩ : ∃ q, ndB y = q := ⟨_, rfl⟩
  obtain ⟨np, hnp⟩ : ∃ q, ndB a.p = q := ⟨_, rfl⟩
  obtain ⟨en, hen⟩ : ∃ q, endsB a b = q := ⟨_, rfl⟩
  rw [hnx] at PX hd1
  rw [hny] at PY hd1
  rw [hnp] at hpe hd3
  rw [hen] at PL hd2
  have hxn : (x != y) = !(x == y) := rfl
  rw [hxn] at hd2
  obtain ⟨z1, h1⟩ : ∃ q, (a.f != b.f) = q := ⟨_, rfl⟩
  obtain ⟨z2, h2⟩ : ∃ q, (a.s != b.s) = q := ⟨_, rfl⟩
  obtain ⟨z3, h3⟩ : ∃ q, (x == y) = q := ⟨_, rfl⟩
  obtain ⟨z4, h4⟩ : ∃ q, (a.c == b.c) = q := ⟨_, rfl⟩
  obtain ⟨z5, h5⟩ : ∃ q, (b.p == x) = q := ⟨_, rfl⟩
  obtain ⟨z6, h6⟩ : ∃ q, (a.p == y) = q := ⟨_, rfl⟩
  obtain ⟨z7, h7⟩ : ∃ q, (a.p == b.p) = q := ⟨_, rfl⟩
  rw [h1, h2, h3, h4, h5, h6] at hd2
  rw [h3, h4, h5, h6, h7] at hd3
  rw [h3] at hxn
  rw [hd1, hd2, hd3] at hd
  have HD := Lib.hid hd
  have HPE := Lib.hid hpe
  have HOP := Lib.hid hop
  have HOP2 := Lib.hid hop2
  clear hd hd1 hd2 hd3 hma hmb hma2 hmb2 hnx hny hnp hen hpe hop hop2
  obtain ⟨af, a1, ac, ao, ap⟩ := a
  obtain ⟨bf, b1, bc, bo, bp⟩ := b
  dsimp only at *
  obtain ⟨ba, hba⟩ : ∃ q, w.heap.size = q := ⟨_, rfl⟩
  have hbb : (w.alloc (.cells #[.int .i64 af, .int .i64 a1, .int .i64 ac, .int .i64 ao, .int .i64 ap] 50)).heap.size = ba + 1 := by rw [← hba]; simp
  rw [hbb] at oB
  rw [hba] at oA
  obtain ⟨bb, hb2⟩ : ∃ q, ba + 1 = q := ⟨_, rfl⟩
  rw [hb2] at oB
  go_enter Tryz.func87, Tryz.ntmps87
  go_upto_region 1 with (fail)
  generalize (w.alloc (.cells #[.int .i64 af, .int .i64 a1, .int .i64 ac, .int .i64 ao, .int .i64 ap] 50)).alloc (.cells #[.int .i64 bf, .int .i64 b1, .int .i64 bc, .int .i64 bo, .int .i64 bp] 50) = w0 at *
  clear hbb hba
  have ka0 : w0.cell? ⟨ba, 0, none⟩ = some (.int .i64 af) := oA.cell 0
  have ka1 : w0.cell? ⟨ba, 1, none⟩ = some (.int .i64 a1) := oA.cell 1
  have ka2 : w0.cell? ⟨ba, 2, none⟩ = some (.int .i64 ac) := oA.cell 2
  have ka3 : w0.cell? ⟨ba, 3, none⟩ = some (.int .i64 ao) := oA.cell 3
  have ka4 : w0.cell? ⟨ba, 4, none⟩ = some (.int .i64 ap) := oA.cell 4
  skip
  clear hb2
  go_wp2_with fail
  clear ka0 ka1 ka2 ka3 ka4
  refine (PA _).mono ?_
  rintro r w1 ⟨rfl, j1⟩
  have oa := below_own j1 oA oA.lt
  have ob := below_own j1 oB oB.lt
  have B1 : Below w.heap.size w w1 := hB.trans (j1.mono hB.size)
  clear hB j1 oA oB
  have ka0 : w1.cell? ⟨ba, 0, none⟩ = some (.int .i64 af) := oa.cell 0
  have ka1 : w1.cell? ⟨ba, 1, none⟩ = some (.int .i64 a1) := oa.cell 1
  have ka2 : w1.cell? ⟨ba, 2, none⟩ = some (.int .i64 ac) := oa.cell 2
  have ka3 : w1.cell? ⟨ba, 3, none⟩ = some (.int .i64 ao) := oa.cell 3
  have ka4 : w1.cell? ⟨ba, 4, none⟩ = some (.int .i64 ap) := oa.cell 4
  have kb0 : w1.cell? ⟨bb, 0, none⟩ = some (.int .i64 bf) := ob.cell 0
  have kb1 : w1.cell? ⟨bb, 1, none⟩ = some (.int .i64 b1) := ob.cell 1
  have kb2 : w1.cell? ⟨bb, 2, none⟩ = some (.int .i64 bc) := ob.cell 2
  have kb3 : w1.cell? ⟨bb, 3, none⟩ = some (.int .i64 bo) := ob.cell 3
  have kb4 : w1.cell? ⟨bb, 4, none⟩ = some (.int .i64 bp) := ob.cell 4
  cases ma
  · go_wp2_with fail
    go_ret
    exact ⟨by rw [HD.out]; rfl, B1⟩
  go_wp2_with fail
  clear ka0 ka1 ka2 ka3 ka4 kb0 kb1 kb2 kb3 kb4
  refine (PB _).mono ?_
  rintro r w2 ⟨rfl, j2⟩
  replace oa := below_own j2 oa oa.lt
  replace ob := below_own j2 ob ob.lt
  have B2 : Below w.heap.size w w2 := B1.trans (j2.mono B1.size)
  clear B1 j2
  have ka0 : w2.cell? ⟨ba, 0, none⟩ = some (.int .i64 af) := oa.cell 0
  have ka1 : w2.cell? ⟨ba, 1, none⟩ = some (.int .i64 a1) := oa.cell 1
  have ka2 : w2.cell? ⟨ba, 2, none⟩ = some (.int .i64 ac) := oa.cell 2
  have ka3 : w2.cell? ⟨ba, 3, none⟩ = some (.int .i64 ao) := oa.cell 3
  have ka4 : w2.cell? ⟨ba, 4, none⟩ = some (.int .i64 ap) := oa.cell 4
  have kb0 : w2.cell? ⟨bb, 0, none⟩ = some (.int .i64 bf) := ob.cell 0
  have kb1 : w2.cell? ⟨bb, 1, none⟩ = some (.int .i64 b1) := ob.cell 1
  have kb2 : w2.cell? ⟨bb, 2, none⟩ = some (.int .i64 bc) := ob.cell 2
  have kb3 : w2.cell? ⟨bb, 3, none⟩ = some (.int .i64 bo) := ob.cell 3
  have kb4 : w2.cell? ⟨bb, 4, none⟩ = some (.int .i64 bp) := ob.cell 4
  cases mb
  · go_wp2_with fail
    go_ret
    exact ⟨by rw [HD.out]; rfl, B2⟩
  go_wp2_with fail
  refine (PX _).mono ?_
  rintro r w' ⟨rfl, rfl⟩
  cases nx
  · go_wp2_with fail
    go_ret
    exact ⟨by rw [HD.out]; rfl, B2⟩
  go_wp2_with fail
  refine (PY _).mono ?_
  rintro r w' ⟨rfl, rfl⟩
  cases ny
  · go_wp2_with fail
    go_ret
    exact ⟨by rw [HD.out]; rfl, B2⟩
  cases z1
  rotate_left 1
  · go_wp2_with fail
    go_ret
    exact ⟨by rw [HD.out]; rfl, B2⟩
  cases z2
  rotate_left 1
  · go_wp2_with fail
    go_ret
    exact ⟨by rw [HD.out]; rfl, B2⟩
  have h8 := HPE.out (by first | rfl | trivial)
  cases z3
  rotate_left 1
  · go_wp2_with fail
    go_ret
    exact ⟨by rw [HD.out]; rfl, B2⟩
  cases z6
  · cases z4
    rotate_left 1
    · go_wp2_with fail
      go_ret
      exact ⟨by rw [HD.out]; rfl, B2⟩
    cases z5
    rotate_left 1
    · go_wp2_with fail
      go_ret
      exact ⟨by rw [HD.out]; rfl, B2⟩
    cases z7
    · go_wp2_with fail
      go_ret
      exact ⟨by rw [HD.out]; rfl, B2⟩
    cases np
    · go_wp2_with fail
      go_ret
      exact ⟨by rw [HD.out]; rfl, B2⟩
    · go_wp2_with fail
      go_ret
      exact ⟨by rw [HD.out]; rfl, B2⟩
  cases z5
  · cases z4
    rotate_left 1
    · go_wp2_with fail
      go_ret
      exact ⟨by rw [HD.out]; rfl, B2⟩
    · go_wp2_with fail
      go_ret
      exact ⟨by rw [HD.out]; rfl, B2⟩
  cases z4
  · go_wp2_with fail
    go_ret
    exact ⟨by rw [HD.out]; rfl, B2⟩
  go_wp2_with fail
  clear ka0 ka1 ka2 ka3 ka4 kb0 kb1 kb2 kb3 kb4
  refine (PL _ (HOP.out (by first | rfl | trivial)) (HOP2.out (by first | rfl | trivial))).mono ?_
  rintro r w3 ⟨rfl, j3⟩
  replace oa := below_own j3 oa oa.lt
  replace ob := below_own j3 ob ob.lt
  have B3 : Below w.heap.size w w3 := B2.trans (j3.mono B2.size)
  clear B2 j3
  have ka0 : w3.cell? ⟨ba, 0, none⟩ = some (.int .i64 af) := oa.cell 0
  have ka1 : w3.cell? ⟨ba, 1, none⟩ = some (.int .i64 a1) := oa.cell 1
  have ka2 : w3.cell? ⟨ba, 2, none⟩ = some (.int .i64 ac) := oa.cell 2
  have ka3 : w3.cell? ⟨ba, 3, none⟩ = some (.int .i64 ao) := oa.cell 3
  have ka4 : w3.cell? ⟨ba, 4, none⟩ = some (.int .i64 ap) := oa.cell 4
  have kb0 : w3.cell? ⟨bb, 0, none⟩ = some (.int .i64 bf) := ob.cell 0
  have kb1 : w3.cell? ⟨bb, 1, none⟩ = some (.int .i64 b1) := ob.cell 1
  have kb2 : w3.cell? ⟨bb, 2, none⟩ = some (.int .i64 bc) := ob.cell 2
  have kb3 : w3.cell? ⟨bb, 3, none⟩ = some (.int .i64 bo) := ob.cell 3
  have kb4 : w3.cell? ⟨bb, 4, none⟩ = some (.int .i64 bp) := ob.cell 4
  cases en
  · go_wp2_with fail
    go_ret
    exact ⟨by rw [HD.out]; rfl, B3⟩
  · go_wp2_with fail
    go_ret
    exact ⟨by rw [HD.out]; rfl, B3⟩
end Go.Proofs.YtahcplddonipcaaGreat.Al
set_option maxRecDepth 100000
namespace Go.Proofs.YtahcplddonipcaaGreat.Al
set_option linter.unusedVariables false
open Go.RowKit Lb Cl Ce Mi

/-- The reference's cells by node. -/
structure Rd (w : World) (lo db : Nat) (vs : Nat → Value) (F : Hs) : Prop where
  blk : Blk w db 37 16 vs
  rows : Rows16 w lo vs F
  few : ∀ k, (F k).length ≤ 64
  le : lo ≤ w.heap.size
theorem Rd.below {w w' : World} {lo db : Nat} {vs : Nat → Value} {F : Hs} (h : Rd w lo db vs F) (j : Below w.heap.size w w') : Rd w' lo db vs F := ⟨below_blk j h.blk h.blk.lt, h.rows.below j, h.few, Nat.le_trans h.le j.size⟩
theorem index_rd (S : Nat → Value) (k : Nat) (hk : k < 16) (w : World) : (Instr.index 35 (.agg #[S 0, S 1, S 2, S 3, S 4, S 5, S 6, S 7, S 8, S 9, S 10, S 11, S 12, S 13, S 14, S 15]) (.int .i64 (k : Int))).run Tryz.prog w = .ok (S k) w := by
  rcases (show k = 0 ∨ k = 1 ∨ k = 2 ∨ k = 3 ∨ k = 4 ∨ k = 5 ∨ k = 6 ∨ k = 7 ∨ k = 8 ∨ k = 9 ∨ k = 10 ∨ k = 11 ∨ k = 12 ∨ k = 13 ∨ k = 14 ∨ k = 15 by omega) with rfl | rfl | rfl | rfl | rfl | rfl | rfl | rfl | rfl | rfl | rfl | rfl | rfl | rfl | rfl | rfl <;> kernel_rfl
theorem rd_own {w : World} {b : Nat} {t : TypeId} {S : Nat → Value} (h : Blk w b t 16 S) : Own w b t #[S 0, S 1, S 2, S 3, S 4, S 5, S 6, S 7, S 8, S 9, S 10, S 11, S 12, S 13, S 14, S 15] := by
  have e : Array.ofFn (n := 16) (fun i => S i) = #[S 0, S 1, S 2, S 3, S 4, S 5, S 6, S 7, S 8, S 9, S 10, S 11, S 12, S 13, S 14, S 15] := rfl
  exact e ▸ h
set_option maxHeartbeats 4000000 in
theorem rfits_d (lo db x : Nat) (vs : Nat → Value) (F : Hs) (c : C) (w : World) (h : Rd w lo db vs F) (hx : x < 16) :
    Calls Tryz.prog 56 #[.pointer (some ⟨db, 0, none⟩), .agg #[.int .i64 c.f, .int .i64 c.s, .int .i64 c.c, .int .i64 c.o, .int .i64 c.p], .int .i64 (x : Nat)] w fun r w' => r = .returned (.bool (decide ((F x).length < 64) && fitsF F c x)) ∧ Below w.heap.size w w' := by
  obtain ⟨cf, cs, cc, co, cp⟩ := c
  dsimp only
  obtain ⟨ax, nx, hvx, hnx, hcx, _⟩ := (h.rows.row x hx).row
  obtain ⟨mx, hmx⟩ : ∃ q, (F x).length = q := ⟨_, rfl⟩
  have hm64 := h.few x
  rw [hmx] at hvx hm64 ⊢
  have b1 := (Below.refl w.heap.size w).alloc (Nat.le_refl _) (.cells #[.int .i64 cf, .int .i64 cs, .int .i64 cc, .int .i64 co, .int .i64 cp] 50)
  have o1 := Own.new w 50 #[.int .i64 cf, .int .i64 cs, .int .i64 cc, .int .i64 co, .int .i64 cp]
  have h1 := h.below b1
  have cx : (w.alloc (.cells #[.int .i64 cf, .int .i64 cs, .int .i64 cc, .int .i64 co, .int .i64 cp] 50)).cell? ⟨db, x, none⟩ = some (.slice ax mx nx) := by rw [← hvx]; exact h1.blk.cell hx
  have hxi : (x : Int) < 16 := by omega
  have H := Lib.hid h
  clear h h1 hvx hmx
  go_enter Tryz.func56, Tryz.ntmps56
  go_upto_region 1 with (fail)
  obtain ⟨r0, hr0⟩ : ∃ q, w.heap.size = q := ⟨_, rfl⟩
  have HR0 := Lib.hid hr0
  have hs1 := b1.size
  rw [hr0] at o1 b1 hs1 ⊢
  clear hr0
  generalize w.alloc (.cells #[.int .i64 cf, .int .i64 cs, .int .i64 cc, .int .i64 co, .int .i64 cp] 50) = w1 at *
  by_cases h64 : 64 ≤ mx
  · have g1 : decide ((64 : Int) ≤ (mx : Int)) = true := by simp; omega
    have g1' : decide (64 ≤ mx) = true := by simp; omega
    have E1 : Hid (decide (mx < 64) = false) := Lib.hid (by simp; omega)
    clear h64
    go_wp2_with fail
    go_ret
    exact ⟨by rw [E1.out]; rfl, by rw [HR0.out]; exact b1⟩
  have g1 : decide ((64 : Int) ≤ (mx : Int)) = false := by simp; omega
  have g1' : decide (64 ≤ mx) = false := by simp; omega
  have E1 : Hid (decide (mx < 64) = true) := Lib.hid (by simp; omega)
  have hB1 := H.out.below (HR0.out.symm ▸ b1)
  have oR := rd_own hB1.blk
  have HI := Lib.hid (fun k (hk : k < 16) w => index_rd vs k hk w)
  clear h64 hm64
  go_wp2_with (refine wpList_load_row rfl 35 (.tmp 21) rfl db rfl 37 _ (0, 0) _ oR Tryz.underlying35 rfl (by kernel_rfl) ?_)
  clear cx g1 g1' oR
  go_loopw [23] (fun i wr => ∃ y : Nat, i = .int .i64 y ∧ y ≤ 16 ∧ Hid (∀ y', y' < y → ∀ o ∈ F y', clashB ⟨cf, cs, cc, co, cp⟩ o x (y' : Int) = false) ∧ Below w1.heap.size w1 wr) (fun i _ => 16 - (intOf i).toNat)
  case atStart => exact ⟨0, rfl, Nat.zero_le _, Lib.hid (fun y' h => by omega), Below.refl _ _⟩
  case round =>
    generalize wr = wo at *
    obtain ⟨y, rfl, hy, HY, b2⟩ := hrel
    by_cases hy16 : y < 16
    rotate_left 1
    · obtain rfl : y = 16 := by omega
      have HYES : Hid (fitsF F ⟨cf, cs, cc, co, cp⟩ x = true) := Lib.hid (fitsF_yes.2 (fun y hy o ho => HY.out y hy o ho))
      go_wp2_with fail
      go_ret
      exact ⟨by rw [E1.out, HYES.out]; rfl, by rw [HR0.out]; exact b1.trans (b2.mono hs1)⟩
    have hyi : (y : Int) < 16 := by omega
    have hI := HI.out y hy16
    obtain ⟨ay, ny, hvy, hny, hcy, hrow⟩ := ((hB1.below b2).rows.row y hy16).row
    obtain ⟨l, hl⟩ : ∃ l, F y = l := ⟨_, rfl⟩
    have HL := Lib.hid hl
    rw [hl] at hvy hrow hny
    obtain ⟨m, hm⟩ : ∃ m, l.length = m := ⟨_, rfl⟩
    have HMM := Lib.hid hm
    rw [hm] at hvy hrow hny
    simp only [hvy] at hI
    unfold maxLen at hcy
    have hm63 : (m : Int) ≤ 9223372036854775807 := by omega
    have o2 := below_own b2 o1 o1.lt
    have hs2 := b2.size
    clear hl hm hvy
    go_wp2_with fail
    clear hI
    go_loopw [29] (fun i wz => ∃ t : Nat, i = .int .i64 t ∧ t ≤ m ∧ Hid (∀ i, i < t → clashB ⟨cf, cs, cc, co, cp⟩ (at_ l i) x (y : Int) = false) ∧ Below wo.heap.size wo wz) (fun i _ => m - (intOf i).toNat)
    case atStart => exact ⟨0, rfl, Nat.zero_le _, Lib.hid (fun i hi => by omega), Below.refl _ _⟩
    case round =>
      obtain ⟨t, rfl, ht, HT, b6⟩ := hrel
      have o6 := below_own b6 o2 o2.lt
      by_cases htl : t < m
      · obtain ⟨bo, off, rfl, hbo, d0, d1, d2, d3, d4⟩ := crow hrow b6 htl
        obtain ⟨z, hz⟩ : ∃ z, at_ l t = z := ⟨_, rfl⟩
        have HZ := Lib.hid hz
        rw [hz] at d0 d1 d2 d3 d4
        have PC : ∀ w, _ := fun w => rclash_any ⟨cf, cs, cc, co, cp⟩ z x (y : Int) w
        obtain ⟨cq, hcq⟩ : ∃ q, clashB ⟨cf, cs, cc, co, cp⟩ z x (y : Int) = q := ⟨_, rfl⟩
        rw [hcq] at PC
        have HCQ := Lib.hid hcq
        obtain ⟨yf, ys, yc, yo, yp⟩ := z
        dsimp only at *
        have oy := Own.new wr 50 #[.int .i64 yf, .int .i64 ys, .int .i64 yc, .int .i64 yo, .int .i64 yp]
        have bz : Below wo.heap.size wo (wr.alloc (.cells #[.int .i64 yf, .int .i64 ys, .int .i64 yc, .int .i64 yo, .int .i64 yp] 50)) := b6.alloc b6.size _
        have oz := o6.alloc (.cells #[.int .i64 yf, .int .i64 ys, .int .i64 yc, .int .i64 yo, .int .i64 yp] 50)
        clear hz hcq
        go_upto_region 9 with (fail)
        generalize wr.alloc (.cells #[.int .i64 yf, .int .i64 ys, .int .i64 yc, .int .i64 yo, .int .i64 yp] 50) = wy at *
        obtain ⟨r1, hr1⟩ : ∃ q, wr.heap.size = q := ⟨_, rfl⟩
        rw [hr1] at oy ⊢
        clear hr1 d0 d1 d2 d3 d4 b6 o6
        clear wr
        have k0 : wy.cell? ⟨r0, 0, none⟩ = some (.int .i64 cf) := oz.cell 0
        have k1 : wy.cell? ⟨r0, 1, none⟩ = some (.int .i64 cs) := oz.cell 1
        have k2 : wy.cell? ⟨r0, 2, none⟩ = some (.int .i64 cc) := oz.cell 2
        have k3 : wy.cell? ⟨r0, 3, none⟩ = some (.int .i64 co) := oz.cell 3
        have k4 : wy.cell? ⟨r0, 4, none⟩ = some (.int .i64 cp) := oz.cell 4
        have l0 : wy.cell? ⟨r1, 0, none⟩ = some (.int .i64 yf) := oy.cell 0
        have l1 : wy.cell? ⟨r1, 1, none⟩ = some (.int .i64 ys) := oy.cell 1
        have l2 : wy.cell? ⟨r1, 2, none⟩ = some (.int .i64 yc) := oy.cell 2
        have l3 : wy.cell? ⟨r1, 3, none⟩ = some (.int .i64 yo) := oy.cell 3
        have l4 : wy.cell? ⟨r1, 4, none⟩ = some (.int .i64 yp) := oy.cell 4
        go_wp2_with fail
        clear k0 k1 k2 k3 k4 l0 l1 l2 l3 l4
        refine (PC _).mono ?_
        rintro q w8 ⟨rfl, j8⟩
        have b8 : Below wo.heap.size wo w8 := bz.trans (j8.mono bz.size)
        cases cq
        · have HT2 : Hid (∀ i, i < t + 1 → clashB ⟨cf, cs, cc, co, cp⟩ (at_ l i) x (y : Int) = false) := Lib.hid (fun i hi => by
            by_cases e' : i = t
            · rw [e', HZ.out, HCQ.out]
            · exact HT.out i (by omega))
          go_wp2_with fail
          exact ⟨⟨t + 1, by simp, by omega, HT2, b8⟩, by simp [intOf]; omega⟩
        · have HNO : Hid (fitsF F ⟨cf, cs, cc, co, cp⟩ x = false) := Lib.hid (fitsF_no hy16 (o := at_ l t) (by
            rw [HL.out]
            exact Ce.at_mem (by rw [HMM.out]; exact htl)) (by rw [HZ.out, HCQ.out]))
          go_wp2_with fail
          go_ret
          exact ⟨by rw [E1.out, HNO.out]; rfl, by rw [HR0.out]; exact (b1.trans (b2.mono hs1)).trans (b8.mono (Nat.le_trans hs1 hs2))⟩
      · obtain rfl : t = m := by omega
        have g6 : decide ((t : Int) < (t : Int)) = false := by simp
        have HY2 : Hid (∀ y', y' < y + 1 → ∀ o ∈ F y', clashB ⟨cf, cs, cc, co, cp⟩ o x (y' : Int) = false) := Lib.hid (fun y' hy' o ho => by
          by_cases e : y' = y
          · subst e
            rw [HL.out] at ho
            obtain ⟨i, hi, e1⟩ := List.mem_iff_getElem.1 ho
            have h2 := HT.out i (by rw [← HMM.out]; exact hi)
            have h3 : at_ l i = o := by
              unfold at_
              rw [List.getD_eq_getElem?_getD, List.getElem?_eq_getElem hi, e1]
              rfl
            rw [h3] at h2
            exact h2
          · exact HY.out y' (by omega) o ho)
        have b9 := b2.trans (b6.mono hs2)
        go_wp2_with fail
        exact ⟨⟨y + 1, by simp, by omega, HY2, b9⟩, by simp [intOf]; omega⟩
end Go.Proofs.YtahcplddonipcaaGreat.Al
set_option maxRecDepth 100000
namespace Go.Proofs.YtahcplddonipcaaGreat.Al
set_option linter.unusedVariables false
open Go.RowKit Lb Cl Ce Mi

theorem rd_ne : (37 : TypeId) ≠ 50 := by decide
/-- A cell was appended to a row, which is stored then; the elder rows still read as they did. -/
theorem rd_app {wA wB w6 : World} {lo db x : Nat} {vs : Nat → Value} {F : Hs} {c : C} {v6 vx : Value} (D : Rd wA lo db vs F) (hx : x < 16) (hv : vs x = vx) (hb : Below wA.heap.size wA wB) (h64 : (F x).length < 64)
    (m6 : MineK w6 lo 50 5 v6 ((F x).length + 1) (fun i => if i < (F x).length * 5 then lv (F x) i else lv [c] (i - (F x).length * 5))) (g6 : wB.grownBy w6 vx.ownBlock) (l6 : v6.ownBlock = vx.ownBlock ∨ v6.ownBlock = some wB.heap.size) (old : MineK w6 lo 50 5 vx (F x).length (lv (F x))) :
    w6.cell? ⟨db, x, none⟩ = some vx ∧ w6.frozen? ⟨db, x, none⟩ = false ∧ Rd (w6.setCell ⟨db, x, none⟩ v6) lo db (fun j => if j = x then v6 else vs j) (addF F x c) ∧ (∀ us K, Rows16 wA lo us K → us x = vs x → K x = F x → Rows16 (w6.setCell ⟨db, x, none⟩ v6) lo us K) ∧ Jb lo db wA (w6.setCell ⟨db, x, none⟩ v6) ∧ ∀ r t cs, Own wB r t cs → vx.ownBlock ≠ some r → r ≠ db → Own (w6.setCell ⟨db, x, none⟩ v6) r t cs := by
  have DB := D.below hb
  have hmx := DB.rows.row x hx
  rw [hv] at hmx
  have hne : vx.ownBlock ≠ some db := mineK_ne hmx (rd_own DB.blk) rd_ne
  have blk6 : Blk w6 db 37 16 vs := (g6.block db DB.blk.lt (fun e => hne e.symm)).trans DB.blk
  have hlv : ∀ i, i < (F x ++ [c]).length * 5 → (if i < (F x).length * 5 then lv (F x) i else lv [c] (i - (F x).length * 5)) = lv (F x ++ [c]) i := fun i hi => (lv_snoc (F x) c i).resolve_right (by rw [List.length_append, List.length_singleton] at hi; omega)
  have m6' : MineK w6 lo 50 5 v6 (F x ++ [c]).length (lv (F x ++ [c])) := by
    rw [List.length_append, List.length_singleton]
    exact m6.ext (fun i hi => hlv i (by rw [List.length_append, List.length_singleton]; exact hi))
  have fam : ∀ us K, Rows16 wA lo us K → us x = vs x → K x = F x → Rows16 w6 lo us K := fun us K hK hu hKx => ⟨fun k hk => by
    by_cases e : k = x
    · subst e
      rw [hu, hv, hKx]
      exact old
    · have KB := hK.below hb
      refine (KB.row k hk).kept (fun b _ => ?_)
      by_cases hlt : b < wB.heap.size
      · by_cases e2 : vx.ownBlock = some b
        · exact .inr (KB.apart x k hx hk (fun q => e q.symm) b (by rw [hu, hv]; exact e2))
        · exact .inl (g6.block b hlt (fun q => e2 q.symm))
      · exact .inr (fun e => by have := ((KB.row k hk).lt b e).2; omega), hK.apart⟩
  have old16 := fam vs F D.rows rfl rfl
  have hv6 : ∀ z, z < 16 → z ≠ x → ∀ q, v6.ownBlock = some q → (vs z).ownBlock ≠ some q := fun z hz hzx q hq hz2 => by
    rcases l6 with e | e
    · rw [e] at hq
      exact DB.rows.apart x z hx hz (fun y => hzx y.symm) q (by rw [hv]; exact hq) hz2
    · rw [e] at hq
      injection hq with hq
      have := ((DB.rows.row z hz).lt _ hz2).2
      omega
  have new16 : Rows16 w6 lo (fun j => if j = x then v6 else vs j) (addF F x c) := by
    refine ⟨fun j hj => ?_, fun i j hi hj hij q => ?_⟩
    · by_cases e : j = x
      · subst e
        simp only [if_pos rfl]
        rw [add_at]
        exact m6'
      · simp only [if_neg e]
        rw [add_off _ _ e]
        exact old16.row j hj
    · by_cases e1 : i = x
      · have e2 : ¬ j = x := fun y => hij (e1.trans y.symm)
        simp only [if_pos e1, if_neg e2]
        exact hv6 j hj e2 q
      · by_cases e2 : j = x
        · simp only [if_neg e1, if_pos e2]
          exact fun a b => hv6 i hi e1 q b a
        · simp only [if_neg e1, if_neg e2]
          exact DB.rows.apart i j hi hj hij q
  have j7 := Just.set db w6 x v6
  have keep : ∀ (us : Nat → Value) (G : Hs), Rows16 w6 lo us G → Rows16 (w6.setCell ⟨db, x, none⟩ v6) lo us G := fun us G h => ⟨fun k hk => (h.row k hk).kept (fun b _ => by
    by_cases e : (us k).ownBlock = some b
    · obtain ⟨_, cs, o⟩ := owns_at (h.row k hk) e
      refine .inl (j7.block b o.lt (fun e2 => ?_))
      subst e2
      exact rd_ne (own_type (rd_own blk6) o)
    · exact .inr e), h.apart⟩
  have hs7 := j7.size
  have b6 : Jb lo db wA w6 := (Jb.of_below hb D.le).trans (Jb.of_grown g6 (fun q e => owns_at hmx e) (Nat.le_trans D.le hb.size))
  have hl6 : lo ≤ w6.heap.size := Nat.le_trans D.le b6.size
  refine ⟨by rw [← hv]; exact blk6.cell hx, blk6.free x, ⟨(blk6.put x v6).ext (fun i _ => rfl), keep _ _ new16, few_add D.few h64, Nat.le_trans hl6 hs7⟩, fun us K hK hu hKx => keep _ _ (fam us K hK hu hKx), b6.trans (Jb.of_just j7 hl6), fun r t cs ho hr hrb => ?_⟩
  have o6 := grown_own g6 ho hr
  exact (j7.block r o6.lt hrb).trans o6
def RLinkPost (lo db : Nat) (f : Int) (len chans x y : Nat) (o : Int) (vs : Nat → Value) (F : Hs) (w : World) (r : Ending) (w' : World) : Prop :=
  (r = .returned (.bool false) ∧ linkF F f len chans x y o = none ∧ Below w.heap.size w w') ∨ ∃ G, r = .returned (.bool true) ∧ linkF F f len chans x y o = some G ∧ (∃ vs', Rd w' lo db vs' G) ∧ Rows16 w' lo vs F ∧ Jb lo db w w'
set_option maxHeartbeats 8000000 in
theorem rlink_d (lo db x y len chans : Nat) (f tm o : Int) (ho : Go.bits .or .i64 2 tm = o) (vs : Nat → Value) (F : Hs) (w : World) (h : Rd w lo db vs F) (hx : x < 16) (hy : y < 16) (hxy : x ≠ y) (hlen : len ≤ 200) (hch : chans ≤ 16) :
    Calls Tryz.prog 31 #[.pointer (some ⟨db, 0, none⟩), .int .i64 (x : Nat), .int .i64 (y : Nat), .int .i64 f, .int .i64 (len : Nat), .int .i64 (chans : Nat), .int .i64 tm] w (RLinkPost lo db f len chans x y o vs F w) := by
  obtain ⟨i0, hi0, hz0, hz1, hz2⟩ := info_parts infoC5
  have hxi : (x : Int) < 16 := by omega
  have hyi : (y : Int) < 16 := by omega
  have H := Lib.hid h
  have hlo := h.le
  clear h
  go_enter Tryz.func31, Tryz.ntmps31
  go_wp2_with fail
  go_loopw [20] (fun i wr => ∃ s : Nat, i = .int .i64 s ∧ s ≤ len ∧ Hid (∀ j, j < s * chans → placeF F f len chans x y o ≠ some j) ∧ Below w.heap.size w wr) (fun i _ => len - (intOf i).toNat)
  case atStart => exact ⟨0, rfl, Nat.zero_le _, Lib.hid (fun j hj => by simp at hj), Below.refl _ _⟩
  case round =>
    obtain ⟨s, rfl, hs, HS, b1⟩ := hrel
    by_cases hlt : s < len
    rotate_left 1
    · obtain rfl : s = len := by omega
      have g6 : decide ((s : Int) < (s : Int)) = false := by simp
      have HN : Hid (linkF F f s chans x y o = none) := Lib.hid (by
        unfold linkF
        cases hp : placeF F f s chans x y o with
        | none => rfl
        | some i => exact absurd hp (HS.out i (place_is hp).2.2.1))
      go_wp2_with fail
      go_ret
      exact .inl ⟨rfl, HN.out, b1⟩
    have g3 : decide ((s : Int) < (len : Int)) = true := by simp; omega
    go_wp2_with fail
    go_loopw [24] (fun i wz => ∃ ch : Nat, i = .int .i64 ch ∧ ch ≤ chans ∧ Hid (∀ j, j < s * chans + ch → placeF F f len chans x y o ≠ some j) ∧ Below w.heap.size w wz) (fun i _ => chans - (intOf i).toNat)
    case atStart => exact ⟨0, rfl, Nat.zero_le _, Lib.hid (fun j hj => HS.out j (by omega)), b1⟩
    case round =>
      clear b1 g3
      obtain ⟨ch, rfl, hc, HC, b2⟩ := hrel
      by_cases hcl : ch < chans
      rotate_left 1
      · obtain rfl : ch = chans := by omega
        have g6 : decide ((ch : Int) < (ch : Int)) = false := by simp
        have HS2 : Hid (∀ j, j < (s + 1) * ch → placeF F f len ch x y o ≠ some j) := Lib.hid (fun j hj => HC.out j (by rw [Nat.succ_mul] at hj; exact hj))
        go_wp2_with fail
        exact ⟨⟨s + 1, by simp, by omega, HS2, b2⟩, by simp [intOf]; omega⟩
      have g4 : decide ((ch : Int) < (chans : Int)) = true := by simp; omega
      obtain ⟨hp1, hp2⟩ := place_div (s := s) hcl
      have hfit : fitAt F f chans x y o (s * chans + ch) = (fitsF F ⟨f, s, ch, 1, y⟩ x && fitsF F ⟨f, s, ch, o, x⟩ y) := by
        unfold fitAt
        rw [hp1, hp2]
        rfl
      have hto : linkTo F f chans x y o (s * chans + ch) = addF (addF F x ⟨f, s, ch, 1, y⟩) y ⟨f, s, ch, o, x⟩ := by
        unfold linkTo
        rw [hp1, hp2]
        rfl
      have hpl : s * chans + ch < len * chans := by
        have : (s + 1) * chans ≤ len * chans := Nat.mul_le_mul_right _ (by omega)
        rw [Nat.succ_mul] at this
        omega
      have HPL := Lib.hid hpl
      have HFIT := Lib.hid hfit
      have HTO := Lib.hid hto
      clear hp1 hp2 hfit hto hpl
      have D2 := H.out.below b2
      have oa := (Own.new wr 50 #[.int .i64 f, .int .i64 (s : Nat), .int .i64 (ch : Nat), .int .i64 1, .int .i64 (y : Nat)]).alloc (.cells #[.int .i64 f, .int .i64 (s : Nat), .int .i64 (ch : Nat), .int .i64 o, .int .i64 (x : Nat)] 50)
      have ob := Own.new (wr.alloc (.cells #[.int .i64 f, .int .i64 (s : Nat), .int .i64 (ch : Nat), .int .i64 1, .int .i64 (y : Nat)] 50)) 50 #[.int .i64 f, .int .i64 (s : Nat), .int .i64 (ch : Nat), .int .i64 o, .int .i64 (x : Nat)]
      have b3 : Below w.heap.size w ((wr.alloc (.cells #[.int .i64 f, .int .i64 (s : Nat), .int .i64 (ch : Nat), .int .i64 1, .int .i64 (y : Nat)] 50)).alloc (.cells #[.int .i64 f, .int .i64 (s : Nat), .int .i64 (ch : Nat), .int .i64 o, .int .i64 (x : Nat)] 50)) := (b2.alloc b2.size _).alloc (by have := b2.size; simp; omega) _
      go_upto_region 9 with (fail)
      obtain ⟨ra, hra⟩ : ∃ q, wr.heap.size = q := ⟨_, rfl⟩
      have hsz : (wr.alloc (.cells #[.int .i64 f, .int .i64 (s : Nat), .int .i64 (ch : Nat), .int .i64 1, .int .i64 (y : Nat)] 50)).heap.size = ra + 1 := by rw [← hra]; simp
      have hwra : w.heap.size ≤ ra := by rw [← hra]; exact b2.size
      rw [hsz] at ob
      rw [hra] at oa
      try rw [hra]
      try rw [hsz]
      generalize (wr.alloc (.cells #[.int .i64 f, .int .i64 (s : Nat), .int .i64 (ch : Nat), .int .i64 1, .int .i64 (y : Nat)] 50)).alloc (.cells #[.int .i64 f, .int .i64 (s : Nat), .int .i64 (ch : Nat), .int .i64 o, .int .i64 (x : Nat)] 50) = w3 at *
      clear D2 b2 hra hsz
      have D3 := H.out.below b3
      have P1 : ∀ wz, Below w3.heap.size w3 wz → _ := fun wz hz => rfits_d lo db x vs F ⟨f, s, ch, 1, y⟩ wz (D3.below hz) hx
      have P2 : ∀ wz, Below w3.heap.size w3 wz → _ := fun wz hz => rfits_d lo db y vs F ⟨f, s, ch, o, x⟩ wz (D3.below hz) hy
      obtain ⟨q1, hq1⟩ : ∃ q, (decide ((F x).length < 64) && fitsF F ⟨f, s, ch, 1, y⟩ x) = q := ⟨_, rfl⟩
      obtain ⟨q2, hq2⟩ : ∃ q, (decide ((F y).length < 64) && fitsF F ⟨f, s, ch, o, x⟩ y) = q := ⟨_, rfl⟩
      simp only [hq1] at P1
      simp only [hq2] at P2
      have HNX : Hid ((q1 && q2) = false → ∀ j, j < s * chans + (ch + 1) → placeF F f len chans x y o ≠ some j) := Lib.hid (fun h j hj hp => by
        by_cases e : j = s * chans + ch
        · obtain ⟨h1, h2, _, h3, _⟩ := place_is hp
          rw [e, HFIT.out, Bool.and_eq_true] at h3
          rw [← hq1, ← hq2, h3.1, h3.2, decide_eq_true h1, decide_eq_true h2] at h
          cases h
        · exact HC.out j (by omega) hp)
      have HYS : Hid ((q1 && q2) = true → (F x).length < 64 ∧ (F y).length < 64 ∧ linkF F f len chans x y o = some (addF (addF F x ⟨f, s, ch, 1, y⟩) y ⟨f, s, ch, o, x⟩)) := Lib.hid (fun h => by
        rw [← hq1, ← hq2] at h
        simp only [Bool.and_eq_true, decide_eq_true_eq] at h
        refine ⟨h.1.1, h.2.1, ?_⟩
        have hnot : ¬ (64 ≤ (F x).length ∨ 64 ≤ (F y).length) := by omega
        have hfa : fitAt F f chans x y o (s * chans + ch) = true := by rw [HFIT.out, h.1.2, h.2.2]; rfl
        have hpn : ∀ j, j < s * chans + ch → fitAt F f chans x y o j = false := fun j => by
          induction j using Nat.strongRecOn with
          | _ j ih =>
            intro hj
            cases hfj : fitAt F f chans x y o j with
            | false => rfl
            | true => exact absurd (place_at hnot (Nat.lt_trans hj HPL.out) hfj (fun i hi => ih i hi (by omega))) (HC.out j hj)
        unfold linkF
        rw [place_at hnot HPL.out hfa hpn, Option.map_some, HTO.out])
      clear hq1 hq2 D3 HFIT
      have k0 : w3.cell? ⟨ra, 0, none⟩ = some (.int .i64 f) := oa.cell 0
      have k1 : w3.cell? ⟨ra, 1, none⟩ = some (.int .i64 (s : Nat)) := oa.cell 1
      have k2 : w3.cell? ⟨ra, 2, none⟩ = some (.int .i64 (ch : Nat)) := oa.cell 2
      have k3 : w3.cell? ⟨ra, 3, none⟩ = some (.int .i64 1) := oa.cell 3
      have k4 : w3.cell? ⟨ra, 4, none⟩ = some (.int .i64 (y : Nat)) := oa.cell 4
      go_wp2_with fail
      clear k0 k1 k2 k3 k4
      refine (P1 _ (Below.refl _ _)).mono ?_
      rintro q w4 ⟨rfl, b4⟩
      cases q1
      · have HC2 := Lib.hid (HNX.out rfl)
        have b5 := b3.trans (b4.mono b3.size)
        go_wp2_with fail
        exact ⟨⟨ch + 1, by simp, by omega, HC2, b5⟩, by simp [intOf]; omega⟩
      have oa4 := below_own b4 oa oa.lt
      have ob4 := below_own b4 ob ob.lt
      have k0 : w4.cell? ⟨ra + 1, 0, none⟩ = some (.int .i64 f) := ob4.cell 0
      have k1 : w4.cell? ⟨ra + 1, 1, none⟩ = some (.int .i64 (s : Nat)) := ob4.cell 1
      have k2 : w4.cell? ⟨ra + 1, 2, none⟩ = some (.int .i64 (ch : Nat)) := ob4.cell 2
      have k3 : w4.cell? ⟨ra + 1, 3, none⟩ = some (.int .i64 o) := ob4.cell 3
      have k4 : w4.cell? ⟨ra + 1, 4, none⟩ = some (.int .i64 (x : Nat)) := ob4.cell 4
      go_wp2_with fail
      clear k0 k1 k2 k3 k4
      refine (P2 _ b4).mono ?_
      rintro q w5 ⟨rfl, b5⟩
      have b6 := (b3.trans (b4.mono b3.size)).trans (b5.mono (Nat.le_trans b3.size b4.size))
      cases q2
      · have HC2 := Lib.hid (HNX.out rfl)
        go_wp2_with fail
        exact ⟨⟨ch + 1, by simp, by omega, HC2, b6⟩, by simp [intOf]; omega⟩
      obtain ⟨h64, h64y, hlink⟩ := HYS.out rfl
      have HLINK := Lib.hid hlink
      have oa5 := below_own b5 oa4 oa4.lt
      have ob5 := below_own b5 ob4 ob4.lt
      clear P1 P2 HNX HYS HC HS HTO HPL oa4 ob4 oa ob b4 b5 b3 g4 hlink w4 w3
      have hlo5 : lo ≤ w5.heap.size := Nat.le_trans hlo b6.size
      have D5 : Rd w5.drew lo db vs F := (H.out.below b6).below (below_drewN (Below.refl _ _) 1)
      have bl5 : Jb lo db w w5 := Jb.of_below b6 hlo
      clear b6
      have a0 : w5.drew.cell? ⟨ra, 0, none⟩ = some (.int .i64 f) := oa5.cell 0
      have a1 : w5.drew.cell? ⟨ra, 1, none⟩ = some (.int .i64 (s : Nat)) := oa5.cell 1
      have a2 : w5.drew.cell? ⟨ra, 2, none⟩ = some (.int .i64 (ch : Nat)) := oa5.cell 2
      have a3 : w5.drew.cell? ⟨ra, 3, none⟩ = some (.int .i64 1) := oa5.cell 3
      have a4 : w5.drew.cell? ⟨ra, 4, none⟩ = some (.int .i64 (y : Nat)) := oa5.cell 4
      have mx5 := D5.rows.row x hx
      have a5 : w5.drew.cell? ⟨db, x, none⟩ = some (vs x) := D5.blk.cell hx
      obtain ⟨vx, hvx⟩ : ∃ q, vs x = q := ⟨_, rfl⟩
      rw [hvx] at a5 mx5
      have HVX := Lib.hid hvx
      clear hvx
      have hbB : Below w5.drew.heap.size w5.drew (w5.drew.alloc (.cells #[.int .i64 f, .int .i64 (s : Nat), .int .i64 (ch : Nat), .int .i64 1, .int .i64 (y : Nat)] 50)) := (Below.refl _ _).alloc (Nat.le_refl _) _
      have hlo6 : lo ≤ (w5.drew.alloc (.cells #[.int .i64 f, .int .i64 (s : Nat), .int .i64 (ch : Nat), .int .i64 1, .int .i64 (y : Nat)] 50)).heap.size := by simp; exact Nat.le_succ_of_le hlo5
      have a7 : (w5.alloc (.cells #[.int .i64 f, .int .i64 (s : Nat), .int .i64 (ch : Nat), .int .i64 1, .int .i64 (y : Nat)] 50)).drew.cell? ⟨db, x, none⟩ = some vx := by
        rw [← HVX.out]
        exact (D5.below hbB).blk.cell hx
      have mx6 : MineK (w5.drew.alloc (.cells #[.int .i64 f, .int .i64 (s : Nat), .int .i64 (ch : Nat), .int .i64 1, .int .i64 (y : Nat)] 50)) lo 50 5 vx (F x).length (lv (F x)) := mx5.alloc _
      clear mx5
      go_wp2_with fail
      go_cut [] from 49 to 62 (fun wz => (∃ v6, Rd wz lo db (fun j => if j = x then v6 else vs j) (addF F x ⟨f, s, ch, 1, y⟩)) ∧ Rows16 wz lo vs F ∧ Own wz (ra + 1) 50 #[.int .i64 f, .int .i64 (s : Nat), .int .i64 (ch : Nat), .int .i64 o, .int .i64 (x : Nat)] ∧ Jb lo db w wz)
      case first =>
       go_region_law (first
        | (refine step_appK_old rfl (.tmp 56) (.tmp 58) 34 rfl lo 50 i0 _ 5 40 Tryz.underlying34 hi0 hz0 hz1 hz2 rfl (by decide) _ (F x).length (lv (F x)) (by rfl) mx6 _ 1 _ (lv [⟨f, s, ch, 1, y⟩]) (by decide) (by rfl) (row_new _ _ _ _ (fun i hi => by rcases (show i = 0 ∨ i = 1 ∨ i = 2 ∨ i = 3 ∨ i = 4 by omega) with rfl | rfl | rfl | rfl | rfl <;> rfl)) (fun i _ => lv_one _ i) (by unfold maxLen; omega) (by omega) hlo6 ?_; intro v6 w6 m6 g6 q6 old6; obtain ⟨s3, f3, D7, R7, bl7, ow7⟩ := rd_app D5 hx HVX.out hbB h64 m6 g6 q6 old6; obtain ⟨a6, c6, rfl, _, _, _⟩ := m6.row)
        | fail)
       all_goals
        have ob7 : Own (w6.setCell ⟨db, x, none⟩ (.slice a6 ((F x).length + 1) c6)) (ra + 1) 50 #[.int .i64 f, .int .i64 (s : Nat), .int .i64 (ch : Nat), .int .i64 o, .int .i64 (x : Nat)] := ow7 (ra + 1) 50 _ (Own.alloc (ob5.drewN 1) _) (fun e => by
          have := ((H.out.rows.row x hx).lt (ra + 1) (by rw [HVX.out]; exact e)).2
          omega) (by have := H.out.blk.lt; omega)
        have bl8 : Jb lo db w (w6.setCell ⟨db, x, none⟩ (.slice a6 ((F x).length + 1) c6)) := bl5.trans ((Jb.of_below (below_drewN (Below.refl _ _) 1) hlo5).trans bl7)
        go_wp2_with fail
        go_meet
        exact ⟨⟨_, D7⟩, R7 vs F D5.rows rfl rfl, ob7, bl8⟩
      case rest =>
        obtain ⟨⟨v6, D7⟩, R7, ob7, bl8⟩ := hcut
        have hsy : (fun j => if j = x then v6 else vs j) y = vs y := if_neg (fun e => hxy e.symm)
        have hFy : addF F x ⟨f, s, ch, 1, y⟩ y = F y := add_off _ _ (fun e => hxy e.symm)
        obtain ⟨vs7, hvs7⟩ : ∃ q, (fun j => if j = x then v6 else vs j) = q := ⟨_, rfl⟩
        rw [hvs7] at D7 hsy
        have hlo7 : lo ≤ wc.heap.size := D7.le
        have hGy : (addF F x ⟨f, s, ch, 1, y⟩ y).length < 64 := by rw [add_off _ _ (fun e => hxy e.symm)]; exact h64y
        obtain ⟨G, hG⟩ : ∃ G, addF F x ⟨f, s, ch, 1, y⟩ = G := ⟨_, rfl⟩
        rw [hG] at D7 hGy hFy
        have HSY := Lib.hid (And.intro hsy hFy)
        have HLG : Hid (linkF F f len chans x y o = some (addF G y ⟨f, s, ch, o, x⟩)) := Lib.hid (by rw [← hG]; exact HLINK.out)
        clear hG hsy hFy hvs7 mx6 hlo6 hbB h64 a0 a1 a2 a3 a4 a5 a7 oa5 ob5 bl5 hlo5 HLINK HVX D5
        have E7 : Rd wc.drew lo db vs7 G := D7.below (below_drewN (Below.refl _ _) 1)
        have b0 : wc.drew.cell? ⟨ra + 1, 0, none⟩ = some (.int .i64 f) := ob7.cell 0
        have b1 : wc.drew.cell? ⟨ra + 1, 1, none⟩ = some (.int .i64 (s : Nat)) := ob7.cell 1
        have b2 : wc.drew.cell? ⟨ra + 1, 2, none⟩ = some (.int .i64 (ch : Nat)) := ob7.cell 2
        have b3 : wc.drew.cell? ⟨ra + 1, 3, none⟩ = some (.int .i64 o) := ob7.cell 3
        have b4 : wc.drew.cell? ⟨ra + 1, 4, none⟩ = some (.int .i64 (x : Nat)) := ob7.cell 4
        have my5 := E7.rows.row y hy
        have b5 : wc.drew.cell? ⟨db, y, none⟩ = some (vs7 y) := E7.blk.cell hy
        obtain ⟨vy, hvy⟩ : ∃ q, vs7 y = q := ⟨_, rfl⟩
        rw [hvy] at b5 my5
        have HVY := Lib.hid hvy
        clear hvy
        have hcB : Below wc.drew.heap.size wc.drew (wc.drew.alloc (.cells #[.int .i64 f, .int .i64 (s : Nat), .int .i64 (ch : Nat), .int .i64 o, .int .i64 (x : Nat)] 50)) := (Below.refl _ _).alloc (Nat.le_refl _) _
        have hlo8 : lo ≤ (wc.drew.alloc (.cells #[.int .i64 f, .int .i64 (s : Nat), .int .i64 (ch : Nat), .int .i64 o, .int .i64 (x : Nat)] 50)).heap.size := by simp; exact Nat.le_succ_of_le hlo7
        have b6 : (wc.alloc (.cells #[.int .i64 f, .int .i64 (s : Nat), .int .i64 (ch : Nat), .int .i64 o, .int .i64 (x : Nat)] 50)).drew.cell? ⟨db, y, none⟩ = some vy := by
          rw [← HVY.out]
          exact (E7.below hcB).blk.cell hy
        have my6 : MineK (wc.drew.alloc (.cells #[.int .i64 f, .int .i64 (s : Nat), .int .i64 (ch : Nat), .int .i64 o, .int .i64 (x : Nat)] 50)) lo 50 5 vy (G y).length (lv (G y)) := my5.alloc _
        clear my5 D7
        have HR7 := Lib.hid (R7.below (below_drewN (Below.refl _ _) 1))
        clear R7
        go_wp2_with fail
        go_region_law (first
          | (refine step_appK_old rfl (.tmp 70) (.tmp 72) 34 rfl lo 50 i0 _ 5 40 Tryz.underlying34 hi0 hz0 hz1 hz2 rfl (by decide) _ (G y).length (lv (G y)) (by rfl) my6 _ 1 _ (lv [⟨f, s, ch, o, x⟩]) (by decide) (by rfl) (row_new _ _ _ _ (fun i hi => by rcases (show i = 0 ∨ i = 1 ∨ i = 2 ∨ i = 3 ∨ i = 4 by omega) with rfl | rfl | rfl | rfl | rfl <;> rfl)) (fun i _ => lv_one _ i) (by unfold maxLen; omega) (by omega) hlo8 ?_; intro v8 w8 m8 g8 q8 old8; obtain ⟨s5, f5, D9, R9, bl9, _⟩ := rd_app E7 hy HVY.out hcB hGy m8 g8 q8 old8; obtain ⟨a8, c8, rfl, _, _, _⟩ := m8.row)
          | fail)
        all_goals
          have R10 := R9 vs F HR7.out HSY.out.1.symm HSY.out.2.symm
          have bl10 : Jb lo db w (w8.setCell ⟨db, y, none⟩ (.slice a8 ((G y).length + 1) c8)) := bl8.trans ((Jb.of_below (below_drewN (Below.refl _ _) 1) hlo7).trans bl9)
          clear R9 bl9 m8 g8 q8 old8 s5 f5 my6
          go_wp2_with fail
          go_ret
          exact .inr ⟨_, rfl, HLG.out, ⟨_, D9⟩, R10, bl10⟩
end Go.Proofs.YtahcplddonipcaaGreat.Al
