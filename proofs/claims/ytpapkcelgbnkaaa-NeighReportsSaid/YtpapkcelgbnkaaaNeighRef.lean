/-
  The reference's table of neighbours: what each method answers, and what the table is then.
-/
import Derived.Test.YtpapkcelgbnkaaaNeighTiers
set_option maxRecDepth 100000
namespace Go.Proofs.Ytpapkcelgbnkaaa.Ng
set_option linter.unusedVariables false
open Go.RowKit Lb Go.Sort

/-- A table in which its own node is never heard. -/
def Own0 (me : Int) (Q : Nat → Int) : Prop := Q me.toNat = 0
theorem own0_up {me : Int} {Q : Nat → Int} (h : Own0 me Q) (hm : 0 ≤ me) (x : Int) : Own0 me (upTo me Q x) := by
  unfold Own0 upTo at *
  split
  · rename_i hk
    unfold knB ndB at hk
    simp only [Bool.and_eq_true, decide_eq_true_eq, bne_iff_ne] at hk
    dsimp only
    rw [if_neg (by omega)]
    exact h
  · exact h
theorem own0_down {me : Int} {Q : Nat → Int} (h : Own0 me Q) (hm : 0 ≤ me) (x : Int) : Own0 me (downTo me Q x) := by
  unfold Own0 downTo at *
  split
  · rename_i hk
    unfold knB ndB at hk
    simp only [Bool.and_eq_true, decide_eq_true_eq, bne_iff_ne] at hk
    dsimp only
    rw [if_neg (by omega)]
    exact h
  · exact h
theorem own0_q {me : Int} {Q : Nat → Int} (h : Own0 me Q) (x : Int) (hx : ndB x = true) : qOf me Q x = Q x.toNat := by
  unfold qOf
  by_cases hk : knB me x = true
  · rw [if_pos hk]
  · rw [if_neg hk]
    unfold knB at hk
    rw [hx] at hk
    simp at hk
    subst hk
    exact h.symm
theorem node_any (x : Int) (w : World) :
    Calls Try.prog 21 #[.int .i64 x] w fun r w' => r = .returned (.bool (ndB x)) ∧ w = w' := by
  by_cases h0 : 0 ≤ x
  · by_cases h1 : x < 16
    · have HD : Hid (ndB x = true) := Lib.hid (by simp [ndB, h0, h1])
      go_enter Try.func21, Try.ntmps21
      go_wp2_with fail
      go_ret
      exact ⟨by rw [HD.out]; rfl, rfl⟩
    · have HD : Hid (ndB x = false) := Lib.hid (by simp [ndB]; omega)
      have h2 : decide (x < 16) = false := by simp; omega
      clear h1
      go_enter Try.func21, Try.ntmps21
      go_wp2_with fail
      go_ret
      exact ⟨by rw [HD.out]; rfl, rfl⟩
  · have HD : Hid (ndB x = false) := Lib.hid (by simp [ndB]; omega)
    have h2 : x < 0 := by omega
    clear h0
    go_enter Try.func21, Try.ntmps21
    go_wp2_with fail
    go_ret
    exact ⟨by rw [HD.out]; rfl, rfl⟩
theorem rbuilt (v : Int) : Try.prog.built 49 [(0, .int .i64 v)] = some ((.int .i64 v :: List.replicate 16 (.int .i64 0)).toArray) := by kernel_rfl
theorem rnew_no (x : Int) (w : World) (hx : ndB x = false) :
    Calls Try.prog 9 #[.int .i64 x] w fun r w' => r = .returned (.pointer none) ∧ w = w' := by
  have HX := Lib.hid hx
  clear hx
  go_enter Try.func9, Try.ntmps9
  go_wp2_with fail
  refine (node_any x _).mono ?_
  rintro r w' ⟨rfl, rfl⟩
  rw [HX.out]
  go_wp2_with fail
  go_ret
  exact ⟨rfl, rfl⟩
theorem rnew_yes (x : Int) (w : World) (hx : ndB x = true) :
    Calls Try.prog 9 #[.int .i64 x] w fun r w' => r = .returned (.pointer (some ⟨w.heap.size, 0, none⟩)) ∧ Tb w' w.heap.size 49 x (fun _ => 0) ∧ Below w.heap.size w w' ∧ w.heap.size < w'.heap.size := by
  have HX := Lib.hid hx
  obtain ⟨cs, hcs⟩ : ∃ cs : Array Value, cs = (Value.int .i64 x :: List.replicate 16 (Value.int .i64 0)).toArray := ⟨_, rfl⟩
  have HB := Lib.hid (rbuilt x)
  rw [← hcs] at HB
  have ho : Tb (w.alloc (.cells cs 49)) w.heap.size 49 x (fun _ => 0) := Blk.of (Own.new w _ cs) (by rw [hcs]; simp) (fun i hi => by
    rw [hcs]
    unfold tv
    rcases i with _ | i
    · rfl
    · rw [if_neg (by omega), List.getElem?_toArray, List.getElem?_cons_succ, List.getElem?_replicate, if_pos (by omega)])
  have hb := (Below.refl w.heap.size w).alloc (Nat.le_refl _) (.cells cs 49)
  have hs : w.heap.size < (w.alloc (.cells cs 49)).heap.size := by simp
  clear hcs hx
  go_enter Try.func9, Try.ntmps9
  go_wp2_with fail
  refine (node_any x _).mono ?_
  rintro r w' ⟨rfl, rfl⟩
  rw [HX.out]
  go_wp2_with (refine wpList_built cs rfl rfl HB.out ?_)
  go_ret
  exact ⟨rfl, ho, hb, hs⟩
theorem rquality (b : Nat) (me : Int) (Q : Nat → Int) (x : Int) (w : World) (h : Tb w b 49 me Q) (h0 : Own0 me Q) :
    Calls Try.prog 16 #[.pointer (some ⟨b, 0, none⟩), .int .i64 x] w fun r w' => r = .returned (.int .i64 (qOf me Q x)) ∧ w = w' := by
  cases hx : ndB x
  · have HX := Lib.hid hx
    have HD : Hid (qOf me Q x = 0) := Lib.hid (by unfold qOf knB; rw [hx]; rfl)
    clear hx
    go_enter Try.func16, Try.ntmps16
    go_wp2_with fail
    refine (node_any x _).mono ?_
    rintro r w' ⟨rfl, rfl⟩
    rw [HX.out]
    go_wp2_with fail
    go_ret
    exact ⟨by rw [HD.out]; rfl, rfl⟩
  · have HX := Lib.hid hx
    have HD := Lib.hid (own0_q h0 x hx)
    unfold ndB at hx
    simp only [decide_eq_true_eq] at hx
    obtain ⟨a, rfl⟩ := Int.eq_ofNat_of_zero_le hx.1
    have ha : a < 16 := by omega
    have g1 : (a : Int) < 16 := by omega
    have c1 := h.q ha
    clear hx
    go_enter Try.func16, Try.ntmps16
    go_wp2_with fail
    refine (node_any a _).mono ?_
    rintro r w' ⟨rfl, rfl⟩
    rw [HX.out]
    go_wp2_with fail
    go_ret
    exact ⟨by rw [HD.out]; rfl, rfl⟩
theorem kn_no {me x : Int} (h : knB me x = false) (hx : ndB x = true) : (x != me) = false := by
  unfold knB at h
  rw [hx] at h
  simpa using h
set_option maxHeartbeats 1000000 in
theorem rheard (b : Nat) (me : Int) (Q : Nat → Int) (x : Int) (w : World) (h : Tb w b 49 me Q) (hg : Good Q) :
    Calls Try.prog 14 #[.pointer (some ⟨b, 0, none⟩), .int .i64 x] w fun r w' => r = .returned (.tuple #[]) ∧ Tb w' b 49 me (upTo me Q x) ∧ Just b w w' := by
  have c0 := h.me
  cases hx : knB me x
  · have HD : Hid (upTo me Q x = Q) := Lib.hid (by unfold upTo; rw [hx]; rfl)
    cases hn : ndB x
    · have HX := Lib.hid hn
      clear hx hn
      go_enter Try.func14, Try.ntmps14
      go_wp2_with fail
      refine (node_any x _).mono ?_
      rintro r w' ⟨rfl, rfl⟩
      rw [HX.out]
      go_wp2_with fail
      go_end0
      exact ⟨rfl, by rw [HD.out]; exact h, Just.refl _ _⟩
    · have HX := Lib.hid hn
      have hm := kn_no hx hn
      clear hx hn
      go_enter Try.func14, Try.ntmps14
      go_wp2_with fail
      refine (node_any x _).mono ?_
      rintro r w' ⟨rfl, rfl⟩
      rw [HX.out]
      go_wp2_with fail
      go_end0
      exact ⟨rfl, by rw [HD.out]; exact h, Just.refl _ _⟩
  · have HD : Hid (upTo me Q x = fun i => if i = x.toNat then up (Q i) else Q i) := Lib.hid (by unfold upTo; rw [hx]; rfl)
    have HX : Hid (ndB x = true) := Lib.hid (by unfold knB at hx; simp only [Bool.and_eq_true] at hx; exact hx.1)
    have hm : (x != me) = true := by unfold knB at hx; simp only [Bool.and_eq_true] at hx; exact hx.2
    unfold knB ndB at hx
    simp only [Bool.and_eq_true, decide_eq_true_eq] at hx
    obtain ⟨a, rfl⟩ := Int.eq_ofNat_of_zero_le hx.1.1
    have ha : a < 16 := by omega
    have g1 : (a : Int) < 16 := by omega
    obtain ⟨q0, q1⟩ := hg a
    have hput : Hid (∀ m, Tb ((w.setCell ⟨b, 1 + a, none⟩ (.int .i64 (up (Q a)))).drewN m) b 49 me (upTo me Q a)) := Lib.hid (fun m => by
      rw [HD.out]
      refine Blk.drewN ((h.put (a := a) (up (Q a))).ext fun i _ => ?_) m
      unfold tv
      dsimp only
      simp only [Int.toNat_natCast]
      by_cases h0 : i = 0
      · rw [if_pos h0, if_pos h0]
      · rw [if_neg h0, if_neg h0]
        by_cases h1 : i - 1 = a
        · rw [if_pos h1, if_pos h1, h1]
        · rw [if_neg h1, if_neg h1])
    have c1 := h.q ha
    have f1 := h.f (1 + a)
    obtain ⟨q, hq⟩ : ∃ q, Q a = q := ⟨_, rfl⟩
    rw [hq] at c1 q0 q1 hput
    clear hx hq
    go_enter Try.func14, Try.ntmps14
    go_wp2_with fail
    refine (node_any a _).mono ?_
    rintro r w' ⟨rfl, rfl⟩
    rw [HX.out]
    go_wp2_with fail
    have e2 : (255 - q + 7).tdiv 8 = (255 - q + 7) / 8 := Int.tdiv_eq_ediv_of_nonneg (by omega)
    have hwr : IntKind.i64.wrap (q + (255 - q + 7) / 8) = q + (255 - q + 7) / 8 := by
      simp only [IntKind.wrap, IntKind.signed, IntKind.bits]
      simp
      omega
    have hwr3 : IntKind.i64.wrap (255 - q) = 255 - q := by
      simp only [IntKind.wrap, IntKind.signed, IntKind.bits]
      simp
      omega
    have hwr5 : IntKind.i64.wrap (255 - q + 7) = 255 - q + 7 := by
      simp only [IntKind.wrap, IntKind.signed, IntKind.bits]
      simp
      omega
    have hwr6 : IntKind.i64.wrap ((255 - q + 7) / 8) = (255 - q + 7) / 8 := by
      simp only [IntKind.wrap, IntKind.signed, IntKind.bits]
      simp
      omega
    refine wp_region_still_tail 19 (by kernel_rfl) (by kernel_rfl) ?_
    simp only [List.take_succ_cons, List.take_zero, List.drop_succ_cons, List.drop_zero]
    repeat still_step
    refine wpStill_nil ?_
    change wpList _ _ _ _ _ w.drew
    go_wp2_with fail
    go_end0
    exact ⟨rfl, hput.out 1, ((Just.set b w _ _).drewN 1)⟩
set_option maxHeartbeats 1000000 in
theorem rmissed (b : Nat) (me : Int) (Q : Nat → Int) (x : Int) (w : World) (h : Tb w b 49 me Q) (hg : Good Q) :
    Calls Try.prog 12 #[.pointer (some ⟨b, 0, none⟩), .int .i64 x] w fun r w' => r = .returned (.tuple #[]) ∧ Tb w' b 49 me (downTo me Q x) ∧ Just b w w' := by
  have c0 := h.me
  cases hx : knB me x
  · have HD : Hid (downTo me Q x = Q) := Lib.hid (by unfold downTo; rw [hx]; rfl)
    cases hn : ndB x
    · have HX := Lib.hid hn
      clear hx hn
      go_enter Try.func12, Try.ntmps12
      go_wp2_with fail
      refine (node_any x _).mono ?_
      rintro r w' ⟨rfl, rfl⟩
      rw [HX.out]
      go_wp2_with fail
      go_end0
      exact ⟨rfl, by rw [HD.out]; exact h, Just.refl _ _⟩
    · have HX := Lib.hid hn
      have hm := kn_no hx hn
      clear hx hn
      go_enter Try.func12, Try.ntmps12
      go_wp2_with fail
      refine (node_any x _).mono ?_
      rintro r w' ⟨rfl, rfl⟩
      rw [HX.out]
      go_wp2_with fail
      go_end0
      exact ⟨rfl, by rw [HD.out]; exact h, Just.refl _ _⟩
  · have HD : Hid (downTo me Q x = fun i => if i = x.toNat then down (Q i) else Q i) := Lib.hid (by unfold downTo; rw [hx]; rfl)
    have HX : Hid (ndB x = true) := Lib.hid (by unfold knB at hx; simp only [Bool.and_eq_true] at hx; exact hx.1)
    have hm : (x != me) = true := by unfold knB at hx; simp only [Bool.and_eq_true] at hx; exact hx.2
    unfold knB ndB at hx
    simp only [Bool.and_eq_true, decide_eq_true_eq] at hx
    obtain ⟨a, rfl⟩ := Int.eq_ofNat_of_zero_le hx.1.1
    have ha : a < 16 := by omega
    have g1 : (a : Int) < 16 := by omega
    obtain ⟨q0, q1⟩ := hg a
    have hput : Hid (∀ m, Tb ((w.setCell ⟨b, 1 + a, none⟩ (.int .i64 (down (Q a)))).drewN m) b 49 me (downTo me Q a)) := Lib.hid (fun m => by
      rw [HD.out]
      refine Blk.drewN ((h.put (a := a) (down (Q a))).ext fun i _ => ?_) m
      unfold tv
      dsimp only
      simp only [Int.toNat_natCast]
      by_cases h0 : i = 0
      · rw [if_pos h0, if_pos h0]
      · rw [if_neg h0, if_neg h0]
        by_cases h1 : i - 1 = a
        · rw [if_pos h1, if_pos h1, h1]
        · rw [if_neg h1, if_neg h1])
    have c1 := h.q ha
    have f1 := h.f (1 + a)
    obtain ⟨q, hq⟩ : ∃ q, Q a = q := ⟨_, rfl⟩
    rw [hq] at c1 q0 q1 hput
    clear hx hq
    go_enter Try.func12, Try.ntmps12
    go_wp2_with fail
    refine (node_any a _).mono ?_
    rintro r w' ⟨rfl, rfl⟩
    rw [HX.out]
    go_wp2_with fail
    have e2 : (q + 7).tdiv 8 = (q + 7) / 8 := Int.tdiv_eq_ediv_of_nonneg (by omega)
    have hwr : IntKind.i64.wrap (q - (q + 7) / 8) = q - (q + 7) / 8 := by
      simp only [IntKind.wrap, IntKind.signed, IntKind.bits]
      simp
      omega
    have hwr5 : IntKind.i64.wrap (q + 7) = q + 7 := by
      simp only [IntKind.wrap, IntKind.signed, IntKind.bits]
      simp
      omega
    have hwr6 : IntKind.i64.wrap ((q + 7) / 8) = (q + 7) / 8 := by
      simp only [IntKind.wrap, IntKind.signed, IntKind.bits]
      simp
      omega
    refine wp_region_still_tail 18 (by kernel_rfl) (by kernel_rfl) ?_
    simp only [List.take_succ_cons, List.take_zero, List.drop_succ_cons, List.drop_zero]
    repeat still_step
    refine wpStill_nil ?_
    change wpList _ _ _ _ _ w.drew
    go_wp2_with fail
    go_end0
    exact ⟨rfl, hput.out 1, ((Just.set b w _ _).drewN 1)⟩
end Go.Proofs.Ytpapkcelgbnkaaa.Ng
