/-
  Package alloc (chapter 22): which cells clash.
-/
import Derived.Test.YtdpkiolngglpaaaCeMay
import Derived.Test.YtdpkiolngglpaaaOwn
import Derived.ChangeKeysEq
import Derived.DeepKeys
set_option maxRecDepth 100000
namespace Go.Proofs.Ytdpkiolngglpaaa.Al
set_option linter.unusedVariables false
set_option linter.unusedSimpArgs false
open Go.RowKit Lb Cl

/-- The ways of a cell: it sends, it listens. -/
def wy (o : Int) : Int := Go.bits .and .i64 o 3
def linkB (a b : C) (x y : Int) : Bool := (x != y) && ((a.p == y) && ((b.p == x) && ((a.c == b.c) && ((wy a.o == 1 && wy b.o == 2) || (wy a.o == 2 && wy b.o == 1)))))
def okB (a b : C) (x y : Int) : Bool := a.may && (b.may && (ndB x && ndB y))
def apartB (a b : C) (x y : Int) : Bool := (a.f != b.f) || ((a.s != b.s) || linkB a b x y)
def nearB (a b : C) (x y : Int) : Bool := (x == y) || ((a.c == b.c) || ((b.p == x) || ((a.p == y) || ((a.p == b.p) && ndB a.p))))
def clashB (a b : C) (x y : Int) : Bool := if okB a b x y then (if apartB a b x y then false else nearB a b x y) else true
theorem and5 (q1 q2 q3 q4 q5 : Bool) : q1 = false ∨ (q1 = true ∧ q2 = false) ∨ (q1 = true ∧ q2 = true ∧ q3 = false) ∨ (q1 = true ∧ q2 = true ∧ q3 = true ∧ q4 = false) ∨ (q1 = true ∧ q2 = true ∧ q3 = true ∧ q4 = true) := by
  cases q1 <;> cases q2 <;> cases q3 <;> cases q4 <;> simp
theorem isNode_any (n : Int) (w : World) : Calls Try.prog 44 #[.int .i64 n] w fun r w' => r = .returned (.bool (ndB n)) ∧ w = w' := by
  by_cases h0 : 0 ≤ n
  · by_cases h1 : n < 16
    · have HD : Hid (ndB n = true) := Lib.hid (by simp [ndB, h0, h1])
      go_enter Try.func44, Try.ntmps44
      go_wp2_with fail
      go_ret
      exact ⟨by rw [HD.out]; rfl, rfl⟩
    · have HD : Hid (ndB n = false) := Lib.hid (by simp [ndB]; omega)
      have h2 : decide (n < 16) = false := by simp; omega
      clear h1
      go_enter Try.func44, Try.ntmps44
      go_wp2_with fail
      go_ret
      exact ⟨by rw [HD.out]; rfl, rfl⟩
  · have HD : Hid (ndB n = false) := Lib.hid (by simp [ndB]; omega)
    have h2 : n < 0 := by omega
    clear h0
    go_enter Try.func44, Try.ntmps44
    go_wp2_with fail
    go_ret
    exact ⟨by rw [HD.out]; rfl, rfl⟩
theorem equal_pair (p q r t : Int) (w : World) : (Op.equalIn 10000 107 (.agg #[.int .i64 p, .int .i64 q]) (.agg #[.int .i64 r, .int .i64 t])).run Try.prog w = .ok (p == r && q == t) w := by
  obtain ⟨i, hi⟩ : ∃ i, Try.prog.info? 3 = some i := ⟨_, rfl⟩
  rw [run_equalIn_array w 9999 _ _ (show Try.prog.underlying 107 = some (.array 2 3) by kernel_rfl) hi]
  have p1 : ∀ a b : Int, (part 3 #[.int .i64 a, .int .i64 b] 0).run Try.prog w = .ok (.int .i64 a) w := fun a b => run_part_plain w (by kernel_rfl) rfl
  have p2 : ∀ a b : Int, (part 3 #[.int .i64 a, .int .i64 b] 1).run Try.prog w = .ok (.int .i64 b) w := fun a b => run_part_plain w (by kernel_rfl) rfl
  have e : ∀ a b : Int, (Op.equalIn 9999 3 (.int .i64 a) (.int .i64 b)).run Try.prog w = .ok (a == b) w := fun a b => run_equalIn_int w 9998 3 .i64 .i64 a b (by kernel_rfl)
  have hc : Try.prog.cellsOf 3 = 1 := by kernel_rfl
  simp only [hc, show List.range 2 = [0, 1] from rfl, Op.eqItems, Sem.run_bind, Nat.mul_one, p1, p2, e, Result.andThen_ok]
  cases h1 : p == r <;> cases h2 : q == t <;> simp [Result.andThen, p2, e, h2]
theorem isLink_any (a b : C) (x y : Int) (w : World) : Calls Try.prog 63 #[.agg #[.int .i64 a.f, .int .i64 a.s, .int .i64 a.c, .int .i64 a.o, .int .i64 a.p], .agg #[.int .i64 b.f, .int .i64 b.s, .int .i64 b.c, .int .i64 b.o, .int .i64 b.p], .int .i64 x, .int .i64 y] w fun r w' => r = .returned (.bool (linkB a b x y)) ∧ Below w.heap.size w w' := by
  have hd : linkB a b x y = ((x != y) && ((a.p == y) && ((b.p == x) && ((a.c == b.c) && ((wy a.o == 1 && wy b.o == 2) || (wy a.o == 2 && wy b.o == 1)))))) := rfl
  unfold wy at hd
  obtain ⟨wa, hwa⟩ : ∃ q, Go.bits .and .i64 a.o 3 = q := ⟨_, rfl⟩
  obtain ⟨wb, hwb⟩ : ∃ q, Go.bits .and .i64 b.o 3 = q := ⟨_, rfl⟩
  rw [hwa, hwb] at hd
  obtain ⟨q1, h1⟩ : ∃ q, (x != y) = q := ⟨_, rfl⟩
  obtain ⟨q2, h2⟩ : ∃ q, (a.p == y) = q := ⟨_, rfl⟩
  obtain ⟨q3, h3⟩ : ∃ q, (b.p == x) = q := ⟨_, rfl⟩
  obtain ⟨q4, h4⟩ : ∃ q, (a.c == b.c) = q := ⟨_, rfl⟩
  rw [h1, h2, h3, h4] at hd
  obtain ⟨af, a1, ac, ao, ap⟩ := a
  obtain ⟨bf, b1, bc, bo, bp⟩ := b
  dsimp only at *
  have hA := (Below.refl w.heap.size w).alloc (Nat.le_refl _) (.cells #[.int .i64 af, .int .i64 a1, .int .i64 ac, .int .i64 ao, .int .i64 ap] 69)
  have hB := hA.alloc (by simp) (.cells #[.int .i64 bf, .int .i64 b1, .int .i64 bc, .int .i64 bo, .int .i64 bp] 69)
  have hW := hB.alloc (by simp; omega) (.cells #[.int .i64 wa, .int .i64 wb] 107)
  have eqp := fun p q r t => equal_pair p q r t
  clear hA hB
  rcases and5 q1 q2 q3 q4 true with e | ⟨e, e2⟩ | ⟨e, e2, e3⟩ | ⟨e, e2, e3, e4⟩ | ⟨e, e2, e3, e4⟩
  rotate_left 4
  · subst e e2 e3 e4
    obtain ⟨u, hu⟩ : ∃ u, (wa == 1 && wb == 2) = u := ⟨_, rfl⟩
    obtain ⟨v, hv⟩ : ∃ v, (wa == 2 && wb == 1) = v := ⟨_, rfl⟩
    rw [hu, hv] at hd
    have HD := Lib.hid hd
    clear hd
    have eq1 : ∀ w : World, (Op.equalIn 10000 107 (.agg #[.int .i64 wa, .int .i64 wb]) (.agg #[.int .i64 1, .int .i64 2])).run Try.prog w = .ok u w := fun w => by rw [equal_pair, hu]
    have eq2 : ∀ w : World, (Op.equalIn 10000 107 (.agg #[.int .i64 wa, .int .i64 wb]) (.agg #[.int .i64 2, .int .i64 1])).run Try.prog w = .ok v w := fun w => by rw [equal_pair, hv]
    clear hu hv eqp
    cases u
    · go_enter Try.func63, Try.ntmps63
      go_wp2_with fail
      go_ret
      exact ⟨by rw [HD.out]; cases v <;> rfl, hW⟩
    · go_enter Try.func63, Try.ntmps63
      go_wp2_with fail
      go_ret
      exact ⟨by rw [HD.out]; rfl, hW⟩
  · subst e
    have HD := Lib.hid hd
    clear hd
    go_enter Try.func63, Try.ntmps63
    go_wp2_with fail
    go_ret
    exact ⟨by rw [HD.out]; rfl, hW⟩
  · subst e e2
    have HD := Lib.hid hd
    clear hd
    go_enter Try.func63, Try.ntmps63
    go_wp2_with fail
    go_ret
    exact ⟨by rw [HD.out]; rfl, hW⟩
  · subst e e2 e3
    have HD := Lib.hid hd
    clear hd
    go_enter Try.func63, Try.ntmps63
    go_wp2_with fail
    go_ret
    exact ⟨by rw [HD.out]; rfl, hW⟩
  · subst e e2 e3 e4
    have HD := Lib.hid hd
    clear hd
    go_enter Try.func63, Try.ntmps63
    go_wp2_with fail
    go_ret
    exact ⟨by rw [HD.out]; rfl, hW⟩
set_option maxHeartbeats 4000000 in
theorem clash_any (a b : C) (x y : Int) (w : World) : Calls Try.prog 50 #[.agg #[.int .i64 a.f, .int .i64 a.s, .int .i64 a.c, .int .i64 a.o, .int .i64 a.p], .agg #[.int .i64 b.f, .int .i64 b.s, .int .i64 b.c, .int .i64 b.o, .int .i64 b.p], .int .i64 x, .int .i64 y] w fun r w' => r = .returned (.bool (clashB a b x y)) ∧ Below w.heap.size w w' := by
  have hd : clashB a b x y = (if okB a b x y then (if apartB a b x y then false else nearB a b x y) else true) := rfl
  have hd1 : okB a b x y = (mayC a.f a.s a.c a.o a.p && (mayC b.f b.s b.c b.o b.p && (ndB x && ndB y))) := rfl
  have hd2 : apartB a b x y = ((a.f != b.f) || ((a.s != b.s) || linkB a b x y)) := rfl
  have hd3 : nearB a b x y = ((x == y) || ((a.c == b.c) || ((b.p == x) || ((a.p == y) || ((a.p == b.p) && ndB a.p))))) := rfl
  have hA := (Below.refl w.heap.size w).alloc (Nat.le_refl _) (.cells #[.int .i64 a.f, .int .i64 a.s, .int .i64 a.c, .int .i64 a.o, .int .i64 a.p] 69)
  have hB := hA.alloc (by simp) (.cells #[.int .i64 b.f, .int .i64 b.s, .int .i64 b.c, .int .i64 b.o, .int .i64 b.p] 69)
  have oA := (Own.new w 69 #[.int .i64 a.f, .int .i64 a.s, .int .i64 a.c, .int .i64 a.o, .int .i64 a.p]).alloc (.cells #[.int .i64 b.f, .int .i64 b.s, .int .i64 b.c, .int .i64 b.o, .int .i64 b.p] 69)
  have oB := Own.new (w.alloc (.cells #[.int .i64 a.f, .int .i64 a.s, .int .i64 a.c, .int .i64 a.o, .int .i64 a.p] 69)) 69 #[.int .i64 b.f, .int .i64 b.s, .int .i64 b.c, .int .i64 b.o, .int .i64 b.p]
  obtain ⟨ma, hma⟩ : ∃ q, mayC a.f a.s a.c a.o a.p = q := ⟨_, rfl⟩
  obtain ⟨mb, hmb⟩ : ∃ q, mayC b.f b.s b.c b.o b.p = q := ⟨_, rfl⟩
  obtain ⟨nx, hnx⟩ : ∃ q, ndB x = q := ⟨_, rfl⟩
  obtain ⟨ny, hny⟩ : ∃ q, ndB y = q := ⟨_, rfl⟩
  obtain ⟨np, hnp⟩ : ∃ q, ndB a.p = q := ⟨_, rfl⟩
  obtain ⟨lk, hlk⟩ : ∃ q, linkB a b x y = q := ⟨_, rfl⟩
  have PA : ∀ w, _ := fun w => may_any a.f a.s a.c a.o a.p w
  have PB : ∀ w, _ := fun w => may_any b.f b.s b.c b.o b.p w
  have PX : ∀ w, _ := fun w => isNode_any x w
  have PY : ∀ w, _ := fun w => isNode_any y w
  have PP : ∀ w, _ := fun w => isNode_any a.p w
  have PL : ∀ w, _ := fun w => isLink_any a b x y w
  rw [hma] at PA hd1
  rw [hmb] at PB hd1
  rw [hnx] at PX hd1
  rw [hny] at PY hd1
  rw [hnp] at PP hd3
  rw [hlk] at PL hd2
  obtain ⟨z1, h1⟩ : ∃ q, (a.f != b.f) = q := ⟨_, rfl⟩
  obtain ⟨z2, h2⟩ : ∃ q, (a.s != b.s) = q := ⟨_, rfl⟩
  obtain ⟨z3, h3⟩ : ∃ q, (x == y) = q := ⟨_, rfl⟩
  obtain ⟨z4, h4⟩ : ∃ q, (a.c == b.c) = q := ⟨_, rfl⟩
  obtain ⟨z5, h5⟩ : ∃ q, (b.p == x) = q := ⟨_, rfl⟩
  obtain ⟨z6, h6⟩ : ∃ q, (a.p == y) = q := ⟨_, rfl⟩
  obtain ⟨z7, h7⟩ : ∃ q, (a.p == b.p) = q := ⟨_, rfl⟩
  rw [h1, h2] at hd2
  rw [h3, h4, h5, h6, h7] at hd3
  rw [hd1, hd2, hd3] at hd
  have HD := Lib.hid hd
  clear hd hd1 hd2 hd3 hma hmb hnx hny hnp hlk
  obtain ⟨af, a1, ac, ao, ap⟩ := a
  obtain ⟨bf, b1, bc, bo, bp⟩ := b
  dsimp only at *
  go_enter Try.func50, Try.ntmps50
  go_wp2_with fail
  generalize hw0 : (w.alloc (.cells #[.int .i64 af, .int .i64 a1, .int .i64 ac, .int .i64 ao, .int .i64 ap] 69)).alloc (.cells #[.int .i64 bf, .int .i64 b1, .int .i64 bc, .int .i64 bo, .int .i64 bp] 69) = w0 at *
  obtain ⟨ba, hba⟩ : ∃ q, w.heap.size = q := ⟨_, rfl⟩
  obtain ⟨bb, hbb⟩ : ∃ q, w.heap.size + 1 = q := ⟨_, rfl⟩
  have oB : Own w0 bb 69 #[.int .i64 bf, .int .i64 b1, .int .i64 bc, .int .i64 bo, .int .i64 bp] := by
    rw [← hbb]
    simpa using oB
  have oA : Own w0 ba 69 #[.int .i64 af, .int .i64 a1, .int .i64 ac, .int .i64 ao, .int .i64 ap] := by
    rw [← hba]
    exact oA
  rw [hbb, hba]
  clear hw0 hA
  have B0 := Lib.hid hB
  refine (PA _).mono ?_
  rintro r w1 ⟨rfl, j1⟩
  have oa := below_own j1 oA oA.lt
  have ob := below_own j1 oB oB.lt
  have B1 : Below w.heap.size w w1 := hB.trans (j1.mono hB.size)
  clear hB B0 j1 oA oB
  have ka0 : w1.cell? ⟨ba, 0, none⟩ = some (.int .i64 af) := oa.cell 0
  have ka1 : w1.cell? ⟨ba, 1, none⟩ = some (.int .i64 a1) := oa.cell 1
  have ka2 : w1.cell? ⟨ba, 2, none⟩ = some (.int .i64 ac) := oa.cell 2
  have ka3 : w1.cell? ⟨ba, 3, none⟩ = some (.int .i64 ao) := oa.cell 3
  have ka4 : w1.cell? ⟨ba, 4, none⟩ = some (.int .i64 ap) := oa.cell 4
  have kb0 : w1.cell? ⟨bb, 0, none⟩ = some (.int .i64 bf) := ob.cell 0
  have kb1 : w1.cell? ⟨bb, 1, none⟩ = some (.int .i64 b1) := ob.cell 1
  have kb2 : w1.cell? ⟨bb, 2, none⟩ = some (.int .i64 bc) := ob.cell 2
  have kb3 : w1.cell? ⟨bb, 3, none⟩ = some (.int .i64 bo) := ob.cell 3
  have kb4 : w1.cell? ⟨bb, 4, none⟩ = some (.int .i64 bp) := ob.cell 4
  cases ma
  · go_wp2_with fail
    go_ret
    exact ⟨by rw [HD.out]; rfl, B1⟩
  go_wp2_with fail
  clear ka0 ka1 ka2 ka3 ka4 kb0 kb1 kb2 kb3 kb4
  refine (PB _).mono ?_
  rintro r w2 ⟨rfl, j2⟩
  have oa := below_own j2 oa oa.lt
  have ob := below_own j2 ob ob.lt
  have B2 : Below w.heap.size w w2 := B1.trans (j2.mono B1.size)
  clear B1 j2
  have ka0 : w2.cell? ⟨ba, 0, none⟩ = some (.int .i64 af) := oa.cell 0
  have ka1 : w2.cell? ⟨ba, 1, none⟩ = some (.int .i64 a1) := oa.cell 1
  have ka2 : w2.cell? ⟨ba, 2, none⟩ = some (.int .i64 ac) := oa.cell 2
  have ka3 : w2.cell? ⟨ba, 3, none⟩ = some (.int .i64 ao) := oa.cell 3
  have ka4 : w2.cell? ⟨ba, 4, none⟩ = some (.int .i64 ap) := oa.cell 4
  have kb0 : w2.cell? ⟨bb, 0, none⟩ = some (.int .i64 bf) := ob.cell 0
  have kb1 : w2.cell? ⟨bb, 1, none⟩ = some (.int .i64 b1) := ob.cell 1
  have kb2 : w2.cell? ⟨bb, 2, none⟩ = some (.int .i64 bc) := ob.cell 2
  have kb3 : w2.cell? ⟨bb, 3, none⟩ = some (.int .i64 bo) := ob.cell 3
  have kb4 : w2.cell? ⟨bb, 4, none⟩ = some (.int .i64 bp) := ob.cell 4
  cases mb
  · go_wp2_with fail
    go_ret
    exact ⟨by rw [HD.out]; rfl, B2⟩
  go_wp2_with fail
  refine (PX _).mono ?_
  rintro r w' ⟨rfl, rfl⟩
  cases nx
  · go_wp2_with fail
    go_ret
    exact ⟨by rw [HD.out]; rfl, B2⟩
  go_wp2_with fail
  refine (PY _).mono ?_
  rintro r w' ⟨rfl, rfl⟩
  cases ny
  · go_wp2_with fail
    go_ret
    exact ⟨by rw [HD.out]; rfl, B2⟩
  cases z1
  rotate_left 1
  · go_wp2_with fail
    go_ret
    exact ⟨by rw [HD.out]; rfl, B2⟩
  cases z2
  rotate_left 1
  · go_wp2_with fail
    go_ret
    exact ⟨by rw [HD.out]; rfl, B2⟩
  go_wp2_with fail
  clear ka0 ka1 ka2 ka3 ka4 kb0 kb1 kb2 kb3 kb4
  refine (PL _).mono ?_
  rintro r w3 ⟨rfl, j3⟩
  have oa := below_own j3 oa oa.lt
  have ob := below_own j3 ob ob.lt
  have B3 : Below w.heap.size w w3 := B2.trans (j3.mono B2.size)
  clear B2 j3
  have ka0 : w3.cell? ⟨ba, 0, none⟩ = some (.int .i64 af) := oa.cell 0
  have ka1 : w3.cell? ⟨ba, 1, none⟩ = some (.int .i64 a1) := oa.cell 1
  have ka2 : w3.cell? ⟨ba, 2, none⟩ = some (.int .i64 ac) := oa.cell 2
  have ka3 : w3.cell? ⟨ba, 3, none⟩ = some (.int .i64 ao) := oa.cell 3
  have ka4 : w3.cell? ⟨ba, 4, none⟩ = some (.int .i64 ap) := oa.cell 4
  have kb0 : w3.cell? ⟨bb, 0, none⟩ = some (.int .i64 bf) := ob.cell 0
  have kb1 : w3.cell? ⟨bb, 1, none⟩ = some (.int .i64 b1) := ob.cell 1
  have kb2 : w3.cell? ⟨bb, 2, none⟩ = some (.int .i64 bc) := ob.cell 2
  have kb3 : w3.cell? ⟨bb, 3, none⟩ = some (.int .i64 bo) := ob.cell 3
  have kb4 : w3.cell? ⟨bb, 4, none⟩ = some (.int .i64 bp) := ob.cell 4
  cases lk
  rotate_left 1
  · go_wp2_with fail
    go_ret
    exact ⟨by rw [HD.out]; rfl, B3⟩
  cases z7
  rotate_left 1
  · go_wp2_with fail
    refine (PP _).mono ?_
    rintro r w' ⟨rfl, rfl⟩
    cases z3
    rotate_left 1
    · go_wp2_with fail
      go_ret
      exact ⟨by rw [HD.out]; rfl, B3⟩
    cases z4
    rotate_left 1
    · go_wp2_with fail
      go_ret
      exact ⟨by rw [HD.out]; rfl, B3⟩
    cases z5
    rotate_left 1
    · go_wp2_with fail
      go_ret
      exact ⟨by rw [HD.out]; rfl, B3⟩
    cases z6
    rotate_left 1
    · go_wp2_with fail
      go_ret
      exact ⟨by rw [HD.out]; rfl, B3⟩
    go_wp2_with fail
    go_ret
    exact ⟨by rw [HD.out]; rfl, B3⟩
  cases z3
  rotate_left 1
  · go_wp2_with fail
    go_ret
    exact ⟨by rw [HD.out]; rfl, B3⟩
  cases z4
  rotate_left 1
  · go_wp2_with fail
    go_ret
    exact ⟨by rw [HD.out]; rfl, B3⟩
  cases z5
  rotate_left 1
  · go_wp2_with fail
    go_ret
    exact ⟨by rw [HD.out]; rfl, B3⟩
  cases z6
  rotate_left 1
  · go_wp2_with fail
    go_ret
    exact ⟨by rw [HD.out]; rfl, B3⟩
  go_wp2_with fail
  go_ret
  exact ⟨by rw [HD.out]; rfl, B3⟩
end Go.Proofs.Ytdpkiolngglpaaa.Al
