/-
  The reference's answer (chapter 22) which cells clash: the package's.
-/
import Derived.Test.YtdpkiolngglpaaaAlClash
import Derived.Test.YtdpkiolngglpaaaCeRMay
import Derived.Deep.Cut
import Derived.Deep.CutRange
import Derived.BigRegion
set_option maxRecDepth 100000
namespace Go.Proofs.Ytdpkiolngglpaaa.Al
set_option linter.unusedVariables false
set_option linter.unusedSimpArgs false
open Go.RowKit Lb Cl

theorem wy_bd {o : Int} (h : opB o = true) : 0 ≤ wy o ∧ wy o ≤ 3 := by
  unfold opB at h
  rw [decide_eq_true_eq] at h
  rcases h with rfl | rfl | rfl | rfl | rfl | rfl | rfl | rfl | rfl | rfl <;> exact ⟨by decide, by decide⟩
theorem may_op {a : C} (h : a.may = true) : opB a.o = true := by
  unfold C.may mayC at h
  rw [Bool.and_eq_true] at h
  exact h.2
theorem may_pe {a : C} (h : a.may = true) : (a.p != 64) = ndB a.p := by
  unfold C.may mayC at h
  rw [Bool.and_eq_true, Bool.and_eq_true] at h
  have h := h.1.2
  unfold peB at h
  rw [decide_eq_true_eq] at h
  unfold ndB
  rw [Bool.eq_iff_iff, bne_iff_ne, decide_eq_true_eq]
  omega
def endsB (a b : C) : Bool := (wy a.o == 1 && wy b.o == 2) || (wy a.o == 2 && wy b.o == 1)
theorem ends_any (a b : C) (w : World) (ha : opB a.o = true) (hb : opB b.o = true) : Calls Try.prog 57 #[.agg #[.int .i64 a.f, .int .i64 a.s, .int .i64 a.c, .int .i64 a.o, .int .i64 a.p], .agg #[.int .i64 b.f, .int .i64 b.s, .int .i64 b.c, .int .i64 b.o, .int .i64 b.p]] w fun r w' => r = .returned (.bool (endsB a b)) ∧ Below w.heap.size w w' := by
  have h1 := wy_bd ha
  have h2 := wy_bd hb
  have hd : endsB a b = ((wy a.o == 1 && wy b.o == 2) || (wy a.o == 2 && wy b.o == 1)) := rfl
  unfold wy at hd h1 h2
  obtain ⟨x, hx⟩ : ∃ q, Go.bits .and .i64 a.o 3 = q := ⟨_, rfl⟩
  obtain ⟨y, hy⟩ : ∃ q, Go.bits .and .i64 b.o 3 = q := ⟨_, rfl⟩
  rw [hx] at hd h1
  rw [hy] at hd h2
  clear ha hb
  obtain ⟨af, a1, ac, ao, ap⟩ := a
  obtain ⟨bf, b1, bc, bo, bp⟩ := b
  dsimp only at *
  have hA := (Below.refl w.heap.size w).alloc (Nat.le_refl _) (.cells #[.int .i64 af, .int .i64 a1, .int .i64 ac, .int .i64 ao, .int .i64 ap] 69)
  have hB := hA.alloc (by simp) (.cells #[.int .i64 bf, .int .i64 b1, .int .i64 bc, .int .i64 bo, .int .i64 bp] 69)
  have HD := Lib.hid hd
  clear hd hA
  rcases (show x = 0 ∨ x = 1 ∨ x = 2 ∨ x = 3 by omega) with rfl | rfl | rfl | rfl
  all_goals
    rcases (show y = 0 ∨ y = 1 ∨ y = 2 ∨ y = 3 by omega) with rfl | rfl | rfl | rfl
    all_goals
      clear h1 h2
      go_enter Try.func57, Try.ntmps57
      go_wp2_with fail
      go_quiet (fail)
      have hC := below_drewN hB nq
      go_wp2_with fail
      go_ret
      exact ⟨by rw [HD.out]; rfl, hC⟩
set_option maxHeartbeats 4000000 in
theorem rclash_any (a b : C) (x y : Int) (w : World) : Calls Try.prog 42 #[.agg #[.int .i64 a.f, .int .i64 a.s, .int .i64 a.c, .int .i64 a.o, .int .i64 a.p], .agg #[.int .i64 b.f, .int .i64 b.s, .int .i64 b.c, .int .i64 b.o, .int .i64 b.p], .int .i64 x, .int .i64 y] w fun r w' => r = .returned (.bool (clashB a b x y)) ∧ Below w.heap.size w w' := by
  have hd : clashB a b x y = (if okB a b x y then (if apartB a b x y then false else nearB a b x y) else true) := rfl
  have hd1 : okB a b x y = (a.may && (b.may && (ndB x && ndB y))) := rfl
  have hd2 : apartB a b x y = ((a.f != b.f) || ((a.s != b.s) || ((x != y) && ((a.p == y) && ((b.p == x) && ((a.c == b.c) && endsB a b)))))) := rfl
  have hd3 : nearB a b x y = ((x == y) || ((a.c == b.c) || ((b.p == x) || ((a.p == y) || ((a.p == b.p) && ndB a.p))))) := rfl
  have hop := fun (h : a.may = true) => may_op h
  have hop2 := fun (h : b.may = true) => may_op h
  have hpe := fun (h : a.may = true) => may_pe h
  have hB := ((Below.refl w.heap.size w).alloc (Nat.le_refl _) (.cells #[.int .i64 a.f, .int .i64 a.s, .int .i64 a.c, .int .i64 a.o, .int .i64 a.p] 69)).alloc (by simp) (.cells #[.int .i64 b.f, .int .i64 b.s, .int .i64 b.c, .int .i64 b.o, .int .i64 b.p] 69)
  have oA := (Own.new w 69 #[.int .i64 a.f, .int .i64 a.s, .int .i64 a.c, .int .i64 a.o, .int .i64 a.p]).alloc (.cells #[.int .i64 b.f, .int .i64 b.s, .int .i64 b.c, .int .i64 b.o, .int .i64 b.p] 69)
  have oB := Own.new (w.alloc (.cells #[.int .i64 a.f, .int .i64 a.s, .int .i64 a.c, .int .i64 a.o, .int .i64 a.p] 69)) 69 #[.int .i64 b.f, .int .i64 b.s, .int .i64 b.c, .int .i64 b.o, .int .i64 b.p]
  have PA : ∀ w, _ := fun w => ref_may a.f a.s a.c a.o a.p w
  have PB : ∀ w, _ := fun w => ref_may b.f b.s b.c b.o b.p w
  have PX : ∀ w, _ := fun w => ref_node x w
  have PY : ∀ w, _ := fun w => ref_node y w
  have PL : ∀ w, opB a.o = true → opB b.o = true → _ := fun w h1 h2 => ends_any a b w h1 h2
  obtain ⟨ma, hma⟩ : ∃ q, mayC a.f a.s a.c a.o a.p = q := ⟨_, rfl⟩
  obtain ⟨mb, hmb⟩ : ∃ q, mayC b.f b.s b.c b.o b.p = q := ⟨_, rfl⟩
  have hma2 : a.may = ma := hma
  have hmb2 : b.may = mb := hmb
  rw [hma2, hmb2] at hd1
  rw [hma2] at hop hpe
  rw [hmb2] at hop2
  rw [hma] at PA
  rw [hmb] at PB
  obtain ⟨nx, hnx⟩ : ∃ q, ndB x = q := ⟨_, rfl⟩
  obtain ⟨ny, hny⟩ : ∃ q, ndB y = q := ⟨_, rfl⟩
  obtain ⟨np, hnp⟩ : ∃ q, ndB a.p = q := ⟨_, rfl⟩
  obtain ⟨en, hen⟩ : ∃ q, endsB a b = q := ⟨_, rfl⟩
  rw [hnx] at PX hd1
  rw [hny] at PY hd1
  rw [hnp] at hpe hd3
  rw [hen] at PL hd2
  have hxn : (x != y) = !(x == y) := rfl
  rw [hxn] at hd2
  obtain ⟨z1, h1⟩ : ∃ q, (a.f != b.f) = q := ⟨_, rfl⟩
  obtain ⟨z2, h2⟩ : ∃ q, (a.s != b.s) = q := ⟨_, rfl⟩
  obtain ⟨z3, h3⟩ : ∃ q, (x == y) = q := ⟨_, rfl⟩
  obtain ⟨z4, h4⟩ : ∃ q, (a.c == b.c) = q := ⟨_, rfl⟩
  obtain ⟨z5, h5⟩ : ∃ q, (b.p == x) = q := ⟨_, rfl⟩
  obtain ⟨z6, h6⟩ : ∃ q, (a.p == y) = q := ⟨_, rfl⟩
  obtain ⟨z7, h7⟩ : ∃ q, (a.p == b.p) = q := ⟨_, rfl⟩
  rw [h1, h2, h3, h4, h5, h6] at hd2
  rw [h3, h4, h5, h6, h7] at hd3
  rw [h3] at hxn
  rw [hd1, hd2, hd3] at hd
  have HD := Lib.hid hd
  have HPE := Lib.hid hpe
  have HOP := Lib.hid hop
  have HOP2 := Lib.hid hop2
  clear hd hd1 hd2 hd3 hma hmb hma2 hmb2 hnx hny hnp hen hpe hop hop2
  obtain ⟨af, a1, ac, ao, ap⟩ := a
  obtain ⟨bf, b1, bc, bo, bp⟩ := b
  dsimp only at *
  obtain ⟨ba, hba⟩ : ∃ q, w.heap.size = q := ⟨_, rfl⟩
  have hbb : (w.alloc (.cells #[.int .i64 af, .int .i64 a1, .int .i64 ac, .int .i64 ao, .int .i64 ap] 69)).heap.size = ba + 1 := by rw [← hba]; simp
  rw [hbb] at oB
  rw [hba] at oA
  obtain ⟨bb, hb2⟩ : ∃ q, ba + 1 = q := ⟨_, rfl⟩
  rw [hb2] at oB
  go_enter Try.func42, Try.ntmps42
  go_upto_region 1 with (fail)
  generalize (w.alloc (.cells #[.int .i64 af, .int .i64 a1, .int .i64 ac, .int .i64 ao, .int .i64 ap] 69)).alloc (.cells #[.int .i64 bf, .int .i64 b1, .int .i64 bc, .int .i64 bo, .int .i64 bp] 69) = w0 at *
  clear hbb hba
  have ka0 : w0.cell? ⟨ba, 0, none⟩ = some (.int .i64 af) := oA.cell 0
  have ka1 : w0.cell? ⟨ba, 1, none⟩ = some (.int .i64 a1) := oA.cell 1
  have ka2 : w0.cell? ⟨ba, 2, none⟩ = some (.int .i64 ac) := oA.cell 2
  have ka3 : w0.cell? ⟨ba, 3, none⟩ = some (.int .i64 ao) := oA.cell 3
  have ka4 : w0.cell? ⟨ba, 4, none⟩ = some (.int .i64 ap) := oA.cell 4
  skip
  clear hb2
  go_wp2_with fail
  clear ka0 ka1 ka2 ka3 ka4
  refine (PA _).mono ?_
  rintro r w1 ⟨rfl, j1⟩
  have oa := below_own j1 oA oA.lt
  have ob := below_own j1 oB oB.lt
  have B1 : Below w.heap.size w w1 := hB.trans (j1.mono hB.size)
  clear hB j1 oA oB
  have ka0 : w1.cell? ⟨ba, 0, none⟩ = some (.int .i64 af) := oa.cell 0
  have ka1 : w1.cell? ⟨ba, 1, none⟩ = some (.int .i64 a1) := oa.cell 1
  have ka2 : w1.cell? ⟨ba, 2, none⟩ = some (.int .i64 ac) := oa.cell 2
  have ka3 : w1.cell? ⟨ba, 3, none⟩ = some (.int .i64 ao) := oa.cell 3
  have ka4 : w1.cell? ⟨ba, 4, none⟩ = some (.int .i64 ap) := oa.cell 4
  have kb0 : w1.cell? ⟨bb, 0, none⟩ = some (.int .i64 bf) := ob.cell 0
  have kb1 : w1.cell? ⟨bb, 1, none⟩ = some (.int .i64 b1) := ob.cell 1
  have kb2 : w1.cell? ⟨bb, 2, none⟩ = some (.int .i64 bc) := ob.cell 2
  have kb3 : w1.cell? ⟨bb, 3, none⟩ = some (.int .i64 bo) := ob.cell 3
  have kb4 : w1.cell? ⟨bb, 4, none⟩ = some (.int .i64 bp) := ob.cell 4
  cases ma
  · go_wp2_with fail
    go_ret
    exact ⟨by rw [HD.out]; rfl, B1⟩
  go_wp2_with fail
  clear ka0 ka1 ka2 ka3 ka4 kb0 kb1 kb2 kb3 kb4
  refine (PB _).mono ?_
  rintro r w2 ⟨rfl, j2⟩
  replace oa := below_own j2 oa oa.lt
  replace ob := below_own j2 ob ob.lt
  have B2 : Below w.heap.size w w2 := B1.trans (j2.mono B1.size)
  clear B1 j2
  have ka0 : w2.cell? ⟨ba, 0, none⟩ = some (.int .i64 af) := oa.cell 0
  have ka1 : w2.cell? ⟨ba, 1, none⟩ = some (.int .i64 a1) := oa.cell 1
  have ka2 : w2.cell? ⟨ba, 2, none⟩ = some (.int .i64 ac) := oa.cell 2
  have ka3 : w2.cell? ⟨ba, 3, none⟩ = some (.int .i64 ao) := oa.cell 3
  have ka4 : w2.cell? ⟨ba, 4, none⟩ = some (.int .i64 ap) := oa.cell 4
  have kb0 : w2.cell? ⟨bb, 0, none⟩ = some (.int .i64 bf) := ob.cell 0
  have kb1 : w2.cell? ⟨bb, 1, none⟩ = some (.int .i64 b1) := ob.cell 1
  have kb2 : w2.cell? ⟨bb, 2, none⟩ = some (.int .i64 bc) := ob.cell 2
  have kb3 : w2.cell? ⟨bb, 3, none⟩ = some (.int .i64 bo) := ob.cell 3
  have kb4 : w2.cell? ⟨bb, 4, none⟩ = some (.int .i64 bp) := ob.cell 4
  cases mb
  · go_wp2_with fail
    go_ret
    exact ⟨by rw [HD.out]; rfl, B2⟩
  go_wp2_with fail
  refine (PX _).mono ?_
  rintro r w' ⟨rfl, rfl⟩
  cases nx
  · go_wp2_with fail
    go_ret
    exact ⟨by rw [HD.out]; rfl, B2⟩
  go_wp2_with fail
  refine (PY _).mono ?_
  rintro r w' ⟨rfl, rfl⟩
  cases ny
  · go_wp2_with fail
    go_ret
    exact ⟨by rw [HD.out]; rfl, B2⟩
  cases z1
  rotate_left 1
  · go_wp2_with fail
    go_ret
    exact ⟨by rw [HD.out]; rfl, B2⟩
  cases z2
  rotate_left 1
  · go_wp2_with fail
    go_ret
    exact ⟨by rw [HD.out]; rfl, B2⟩
  have h8 := HPE.out (by first | rfl | trivial)
  cases z3
  rotate_left 1
  · go_wp2_with fail
    go_ret
    exact ⟨by rw [HD.out]; rfl, B2⟩
  cases z6
  · cases z4
    rotate_left 1
    · go_wp2_with fail
      go_ret
      exact ⟨by rw [HD.out]; rfl, B2⟩
    cases z5
    rotate_left 1
    · go_wp2_with fail
      go_ret
      exact ⟨by rw [HD.out]; rfl, B2⟩
    cases z7
    · go_wp2_with fail
      go_ret
      exact ⟨by rw [HD.out]; rfl, B2⟩
    cases np
    · go_wp2_with fail
      go_ret
      exact ⟨by rw [HD.out]; rfl, B2⟩
    · go_wp2_with fail
      go_ret
      exact ⟨by rw [HD.out]; rfl, B2⟩
  cases z5
  · cases z4
    rotate_left 1
    · go_wp2_with fail
      go_ret
      exact ⟨by rw [HD.out]; rfl, B2⟩
    · go_wp2_with fail
      go_ret
      exact ⟨by rw [HD.out]; rfl, B2⟩
  cases z4
  · go_wp2_with fail
    go_ret
    exact ⟨by rw [HD.out]; rfl, B2⟩
  go_wp2_with fail
  clear ka0 ka1 ka2 ka3 ka4 kb0 kb1 kb2 kb3 kb4
  refine (PL _ (HOP.out (by first | rfl | trivial)) (HOP2.out (by first | rfl | trivial))).mono ?_
  rintro r w3 ⟨rfl, j3⟩
  replace oa := below_own j3 oa oa.lt
  replace ob := below_own j3 ob ob.lt
  have B3 : Below w.heap.size w w3 := B2.trans (j3.mono B2.size)
  clear B2 j3
  have ka0 : w3.cell? ⟨ba, 0, none⟩ = some (.int .i64 af) := oa.cell 0
  have ka1 : w3.cell? ⟨ba, 1, none⟩ = some (.int .i64 a1) := oa.cell 1
  have ka2 : w3.cell? ⟨ba, 2, none⟩ = some (.int .i64 ac) := oa.cell 2
  have ka3 : w3.cell? ⟨ba, 3, none⟩ = some (.int .i64 ao) := oa.cell 3
  have ka4 : w3.cell? ⟨ba, 4, none⟩ = some (.int .i64 ap) := oa.cell 4
  have kb0 : w3.cell? ⟨bb, 0, none⟩ = some (.int .i64 bf) := ob.cell 0
  have kb1 : w3.cell? ⟨bb, 1, none⟩ = some (.int .i64 b1) := ob.cell 1
  have kb2 : w3.cell? ⟨bb, 2, none⟩ = some (.int .i64 bc) := ob.cell 2
  have kb3 : w3.cell? ⟨bb, 3, none⟩ = some (.int .i64 bo) := ob.cell 3
  have kb4 : w3.cell? ⟨bb, 4, none⟩ = some (.int .i64 bp) := ob.cell 4
  cases en
  · go_wp2_with fail
    go_ret
    exact ⟨by rw [HD.out]; rfl, B3⟩
  · go_wp2_with fail
    go_ret
    exact ⟨by rw [HD.out]; rfl, B3⟩
end Go.Proofs.Ytdpkiolngglpaaa.Al
