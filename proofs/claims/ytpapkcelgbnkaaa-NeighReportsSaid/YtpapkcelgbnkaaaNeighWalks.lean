/-
  Package neigh (chapter 16): how well each is heard, as a function of the node; what each method but Report makes of it.
-/
import Derived.Test.YtpapkcelgbnkaaaBlk
import Derived.Test.YtpapkcelgbnkaaaMid
import Derived.Test.YtpapkcelgbnkaaaRowOut
import Derived.Lib.Hide
import Derived.Deep.RegionHeld3
set_option maxRecDepth 100000
namespace Go.Proofs.Ytpapkcelgbnkaaa.Ng
set_option linter.unusedVariables false
open Go.RowKit Lb

def ndB (x : Int) : Bool := decide (0 ≤ x ∧ x < 16)
def knB (me x : Int) : Bool := ndB x && x != me
def tv (me : Int) (Q : Nat → Int) (j : Nat) : Value := .int .i64 (if j = 0 then me else Q (j - 1))
def Tb (w : World) (b : Nat) (t : TypeId) (me : Int) (Q : Nat → Int) : Prop := Blk w b t 17 (tv me Q)
theorem Tb.me {w : World} {b : Nat} {t : TypeId} {me : Int} {Q : Nat → Int} (h : Tb w b t me Q) : w.cell? ⟨b, 0, none⟩ = some (.int .i64 me) := Blk.cell h (by decide)
theorem Tb.q {w : World} {b : Nat} {t : TypeId} {me : Int} {Q : Nat → Int} (h : Tb w b t me Q) {a : Nat} (ha : a < 16) : w.cell? ⟨b, 1 + a, none⟩ = some (.int .i64 (Q a)) := by
  rw [Blk.cell h (i := 1 + a) (by omega)]
  unfold tv
  rw [if_neg (by omega), show 1 + a - 1 = a by omega]
theorem Tb.f {w : World} {b : Nat} {t : TypeId} {me : Int} {Q : Nat → Int} (h : Tb w b t me Q) (i : Nat) : w.frozen? ⟨b, i, none⟩ = false := Blk.free h i
theorem Tb.lt {w : World} {b : Nat} {t : TypeId} {me : Int} {Q : Nat → Int} (h : Tb w b t me Q) : b < w.heap.size := Blk.lt h
theorem Tb.put {w : World} {b : Nat} {t : TypeId} {me : Int} {Q : Nat → Int} (h : Tb w b t me Q) {a : Nat} (x : Int) :
    Tb (w.setCell ⟨b, 1 + a, none⟩ (.int .i64 x)) b t me (fun i => if i = a then x else Q i) :=
  Blk.ext (Blk.put h (1 + a) (.int .i64 x)) fun i hi => by
    unfold tv
    dsimp only
    by_cases h0 : i = 1 + a
    · subst h0
      rw [if_pos rfl, if_neg (by omega), if_pos (by omega)]
    · rw [if_neg h0]
      by_cases h1 : i = 0
      · rw [if_pos h1, if_pos h1]
      · rw [if_neg h1, if_neg h1, if_neg (by omega)]
/-- One more that was heard, one that was missed. -/
def up (q : Int) : Int := q + (255 - q + 7) / 8
def down (q : Int) : Int := q - (q + 7) / 8
def upTo (me : Int) (Q : Nat → Int) (x : Int) : Nat → Int := if knB me x = true then fun i => if i = x.toNat then up (Q i) else Q i else Q
def downTo (me : Int) (Q : Nat → Int) (x : Int) : Nat → Int := if knB me x = true then fun i => if i = x.toNat then down (Q i) else Q i else Q
def qOf (me : Int) (Q : Nat → Int) (x : Int) : Int := if knB me x = true then Q x.toNat else 0
def Good (Q : Nat → Int) : Prop := ∀ i, 0 ≤ Q i ∧ Q i ≤ 255
theorem good_up {Q : Nat → Int} (h : Good Q) (me x : Int) : Good (upTo me Q x) := by
  unfold upTo
  split
  · intro i
    have := h i
    dsimp only
    unfold up
    split <;> omega
  · exact h
theorem good_down {Q : Nat → Int} (h : Good Q) (me x : Int) : Good (downTo me Q x) := by
  unfold downTo
  split
  · intro i
    have := h i
    dsimp only
    unfold down
    split <;> omega
  · exact h
theorem isNode_any (x : Int) (w : World) :
    Calls Try.prog 20 #[.int .i64 x] w fun r w' => r = .returned (.bool (ndB x)) ∧ w = w' := by
  by_cases h0 : 0 ≤ x
  · by_cases h1 : x < 16
    · have HD : Hid (ndB x = true) := Lib.hid (by simp [ndB, h0, h1])
      go_enter Try.func20, Try.ntmps20
      go_wp2_with fail
      go_ret
      exact ⟨by rw [HD.out]; rfl, rfl⟩
    · have HD : Hid (ndB x = false) := Lib.hid (by simp [ndB]; omega)
      have h2 : decide (x < 16) = false := by simp; omega
      clear h1
      go_enter Try.func20, Try.ntmps20
      go_wp2_with fail
      go_ret
      exact ⟨by rw [HD.out]; rfl, rfl⟩
  · have HD : Hid (ndB x = false) := Lib.hid (by simp [ndB]; omega)
    have h2 : x < 0 := by omega
    clear h0
    go_enter Try.func20, Try.ntmps20
    go_wp2_with fail
    go_ret
    exact ⟨by rw [HD.out]; rfl, rfl⟩
theorem knows_any (b : Nat) (t : TypeId) (me : Int) (Q : Nat → Int) (x : Int) (w : World) (h : Tb w b t me Q) :
    Calls Try.prog 22 #[.pointer (some ⟨b, 0, none⟩), .int .i64 x] w fun r w' => r = .returned (.bool (knB me x)) ∧ w = w' := by
  have c0 := h.me
  cases hx : ndB x
  · have HX := Lib.hid hx
    have HD : Hid (knB me x = false) := Lib.hid (by unfold knB; rw [hx]; rfl)
    clear hx
    go_enter Try.func22, Try.ntmps22
    go_wp2_with fail
    refine (isNode_any x _).mono ?_
    rintro r w' ⟨rfl, rfl⟩
    rw [HX.out]
    go_wp2_with fail
    go_ret
    exact ⟨by rw [HD.out]; rfl, rfl⟩
  · have HX := Lib.hid hx
    obtain ⟨n, hn⟩ : ∃ n, (x != me) = n := ⟨_, rfl⟩
    have HD : Hid (knB me x = n) := Lib.hid (by unfold knB; rw [hx, hn]; rfl)
    clear hx
    cases n
    all_goals
      go_enter Try.func22, Try.ntmps22
      go_wp2_with fail
      refine (isNode_any x _).mono ?_
      rintro r w' ⟨rfl, rfl⟩
      rw [HX.out]
      go_wp2_with fail
      go_ret
      exact ⟨by rw [HD.out]; first | rfl | (show Ending.returned (.bool (x != me)) = _; rw [hn]), rfl⟩
theorem knows_nil (x : Int) (w : World) :
    Calls Try.prog 22 #[.pointer none, .int .i64 x] w fun r w' => r = .returned (.bool false) ∧ w = w' := by
  go_enter Try.func22, Try.ntmps22
  go_wp2_with fail
  go_ret
  exact ⟨rfl, rfl⟩
theorem part_any (n : Int) (w : World) (h0 : 0 ≤ n) (h1 : n ≤ 1000) :
    Calls Try.prog 23 #[.int .i64 n] w fun r w' => r = .returned (.int .i64 ((n + 7) / 8)) ∧ w = w' := by
  have e : Hid ((n + 8 - 1) / 8 = (n + 7) / 8) := Lib.hid (by omega)
  have e2 : Hid ((n + 8 - 1).tdiv 8 = (n + 7) / 8) := Lib.hid (by rw [Int.tdiv_eq_ediv_of_nonneg (by omega)]; omega)
  go_enter Try.func23, Try.ntmps23
  go_wp2_with fail
  go_ret
  exact ⟨by first | (rw [← e2.out]; rfl) | (rw [← e.out]; rfl), rfl⟩
theorem quality_any (b : Nat) (t : TypeId) (me : Int) (Q : Nat → Int) (x : Int) (w : World) (h : Tb w b t me Q) :
    Calls Try.prog 15 #[.pointer (some ⟨b, 0, none⟩), .int .i64 x] w fun r w' => r = .returned (.int .i64 (qOf me Q x)) ∧ w = w' := by
  cases hx : knB me x
  · have HX := Lib.hid hx
    have HD : Hid (qOf me Q x = 0) := Lib.hid (by unfold qOf; rw [hx]; rfl)
    clear hx
    go_enter Try.func15, Try.ntmps15
    go_wp2_with fail
    refine (knows_any b t me Q x _ h).mono ?_
    rintro r w' ⟨rfl, rfl⟩
    rw [HX.out]
    go_wp2_with fail
    go_ret
    exact ⟨by rw [HD.out]; rfl, rfl⟩
  · have HX := Lib.hid hx
    have HD : Hid (qOf me Q x = Q x.toNat) := Lib.hid (by unfold qOf; rw [hx]; rfl)
    unfold knB ndB at hx
    simp only [Bool.and_eq_true, decide_eq_true_eq] at hx
    obtain ⟨a, rfl⟩ := Int.eq_ofNat_of_zero_le hx.1.1
    have ha : a < 16 := by omega
    have g1 : (a : Int) < 16 := by omega
    have c1 := h.q ha
    clear hx
    go_enter Try.func15, Try.ntmps15
    go_wp2_with fail
    refine (knows_any b t me Q a _ h).mono ?_
    rintro r w' ⟨rfl, rfl⟩
    rw [HX.out]
    go_wp2_with fail
    go_ret
    exact ⟨by rw [HD.out]; rfl, rfl⟩
set_option maxHeartbeats 1000000 in
theorem heard_any (b : Nat) (t : TypeId) (me : Int) (Q : Nat → Int) (x : Int) (w : World) (h : Tb w b t me Q) (hg : Good Q) :
    Calls Try.prog 13 #[.pointer (some ⟨b, 0, none⟩), .int .i64 x] w fun r w' => r = .returned (.tuple #[]) ∧ Tb w' b t me (upTo me Q x) ∧ Just b w w' := by
  cases hx : knB me x
  · have HX := Lib.hid hx
    have HD : Hid (upTo me Q x = Q) := Lib.hid (by unfold upTo; rw [hx]; rfl)
    clear hx
    go_enter Try.func13, Try.ntmps13
    go_wp2_with fail
    refine (knows_any b t me Q x _ h).mono ?_
    rintro r w' ⟨rfl, rfl⟩
    rw [HX.out]
    go_wp2_with fail
    go_end0
    exact ⟨rfl, by rw [HD.out]; exact h, Just.refl _ _⟩
  · have HX := Lib.hid hx
    have HD : Hid (upTo me Q x = fun i => if i = x.toNat then up (Q i) else Q i) := Lib.hid (by unfold upTo; rw [hx]; rfl)
    unfold knB ndB at hx
    simp only [Bool.and_eq_true, decide_eq_true_eq] at hx
    obtain ⟨a, rfl⟩ := Int.eq_ofNat_of_zero_le hx.1.1
    have ha : a < 16 := by omega
    have g1 : (a : Int) < 16 := by omega
    obtain ⟨q0, q1⟩ := hg a
    have hput : Hid (∀ m, Tb ((w.setCell ⟨b, 1 + a, none⟩ (.int .i64 (up (Q a)))).drewN m) b t me (upTo me Q a)) := Lib.hid (fun m => by
      rw [HD.out]
      refine Blk.drewN ((h.put (a := a) (up (Q a))).ext fun i _ => ?_) m
      unfold tv
      dsimp only
      simp only [Int.toNat_natCast]
      by_cases h0 : i = 0
      · rw [if_pos h0, if_pos h0]
      · rw [if_neg h0, if_neg h0]
        by_cases h1 : i - 1 = a
        · rw [if_pos h1, if_pos h1, h1]
        · rw [if_neg h1, if_neg h1])
    have c1 := h.q ha
    have f1 := h.f (1 + a)
    obtain ⟨q, hq⟩ : ∃ q, Q a = q := ⟨_, rfl⟩
    rw [hq] at c1 q0 q1 hput
    clear hx hq
    go_enter Try.func13, Try.ntmps13
    go_wp2_with fail
    refine (knows_any b t me Q a _ h).mono ?_
    rintro r w' ⟨rfl, rfl⟩
    rw [HX.out]
    go_wp2_with fail
    have hwr : IntKind.i64.wrap (q + (255 - q + 7) / 8) = q + (255 - q + 7) / 8 := by
      simp only [IntKind.wrap, IntKind.signed, IntKind.bits]
      simp
      omega
    have hwr2 : wrap64 (q + (255 - q + 7) / 8) = q + (255 - q + 7) / 8 := by unfold wrap64; omega
    have hwr3 : IntKind.i64.wrap (255 - q) = 255 - q := by
      simp only [IntKind.wrap, IntKind.signed, IntKind.bits]
      simp
      omega
    have hwr4 : wrap64 (255 - q) = 255 - q := by unfold wrap64; omega
    refine wp_region_still_tail 18 (by kernel_rfl) (by kernel_rfl) ?_
    simp only [List.take_succ_cons, List.take_zero, List.drop_succ_cons, List.drop_zero]
    repeat still_step
    still_call ((part_any (255 - q) _ (by omega) (by omega)).mono fun _ _ h => ⟨h.1, h.2.symm⟩)
    repeat still_step
    refine wpStill_nil ?_
    change wpList _ _ _ _ _ w.drew
    go_wp2_with fail
    go_end0
    exact ⟨rfl, hput.out 1, ((Just.set b w _ _).drewN 1)⟩
set_option maxHeartbeats 1000000 in
theorem missed_any (b : Nat) (t : TypeId) (me : Int) (Q : Nat → Int) (x : Int) (w : World) (h : Tb w b t me Q) (hg : Good Q) :
    Calls Try.prog 11 #[.pointer (some ⟨b, 0, none⟩), .int .i64 x] w fun r w' => r = .returned (.tuple #[]) ∧ Tb w' b t me (downTo me Q x) ∧ Just b w w' := by
  cases hx : knB me x
  · have HX := Lib.hid hx
    have HD : Hid (downTo me Q x = Q) := Lib.hid (by unfold downTo; rw [hx]; rfl)
    clear hx
    go_enter Try.func11, Try.ntmps11
    go_wp2_with fail
    refine (knows_any b t me Q x _ h).mono ?_
    rintro r w' ⟨rfl, rfl⟩
    rw [HX.out]
    go_wp2_with fail
    go_end0
    exact ⟨rfl, by rw [HD.out]; exact h, Just.refl _ _⟩
  · have HX := Lib.hid hx
    have HD : Hid (downTo me Q x = fun i => if i = x.toNat then down (Q i) else Q i) := Lib.hid (by unfold downTo; rw [hx]; rfl)
    unfold knB ndB at hx
    simp only [Bool.and_eq_true, decide_eq_true_eq] at hx
    obtain ⟨a, rfl⟩ := Int.eq_ofNat_of_zero_le hx.1.1
    have ha : a < 16 := by omega
    have g1 : (a : Int) < 16 := by omega
    obtain ⟨q0, q1⟩ := hg a
    have hput : Hid (∀ m, Tb ((w.setCell ⟨b, 1 + a, none⟩ (.int .i64 (down (Q a)))).drewN m) b t me (downTo me Q a)) := Lib.hid (fun m => by
      rw [HD.out]
      refine Blk.drewN ((h.put (a := a) (down (Q a))).ext fun i _ => ?_) m
      unfold tv
      dsimp only
      simp only [Int.toNat_natCast]
      by_cases h0 : i = 0
      · rw [if_pos h0, if_pos h0]
      · rw [if_neg h0, if_neg h0]
        by_cases h1 : i - 1 = a
        · rw [if_pos h1, if_pos h1, h1]
        · rw [if_neg h1, if_neg h1])
    have c1 := h.q ha
    have f1 := h.f (1 + a)
    obtain ⟨q, hq⟩ : ∃ q, Q a = q := ⟨_, rfl⟩
    rw [hq] at c1 q0 q1 hput
    clear hx hq
    go_enter Try.func11, Try.ntmps11
    go_wp2_with fail
    refine (knows_any b t me Q a _ h).mono ?_
    rintro r w' ⟨rfl, rfl⟩
    rw [HX.out]
    go_wp2_with fail
    have hwr : IntKind.i64.wrap (q - (q + 7) / 8) = q - (q + 7) / 8 := by
      simp only [IntKind.wrap, IntKind.signed, IntKind.bits]
      simp
      omega
    have hwr2 : wrap64 (q - (q + 7) / 8) = q - (q + 7) / 8 := by unfold wrap64; omega
    have hwr3 : IntKind.i64.wrap (255 - q) = 255 - q := by
      simp only [IntKind.wrap, IntKind.signed, IntKind.bits]
      simp
      omega
    have hwr4 : wrap64 (255 - q) = 255 - q := by unfold wrap64; omega
    refine wp_region_still_tail 17 (by kernel_rfl) (by kernel_rfl) ?_
    simp only [List.take_succ_cons, List.take_zero, List.drop_succ_cons, List.drop_zero]
    repeat still_step
    still_call ((part_any (q) _ (by omega) (by omega)).mono fun _ _ h => ⟨h.1, h.2.symm⟩)
    repeat still_step
    refine wpStill_nil ?_
    change wpList _ _ _ _ _ w.drew
    go_wp2_with fail
    go_end0
    exact ⟨rfl, hput.out 1, ((Just.set b w _ _).drewN 1)⟩
end Go.Proofs.Ytpapkcelgbnkaaa.Ng
