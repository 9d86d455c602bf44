/-
  Law CellApart: in a slotframe two are not in one slot on one channel; in another slotframe they may be; what is removed makes room; the call returns true. No condition.
-/
import Derived.Test.YtdknacbdkekfnaaCeRem
import Derived.Deep.Strs
import Derived.Deep.CutRange
set_option maxRecDepth 100000
namespace Go.Proofs.Ytdknacbdkekfnaa.CellApart
set_option linter.unusedVariables false
open Go.RowKit Go.ChangeShapes Go.WideShapes Go.ChangeAt Go.Deep Lb Cl Ce
set_option linter.unusedVariables false
theorem own : ownKnob Try.prog.godebug = none := by kernel_rfl
theorem laidOut : laidOutB Try.prog = true := by kernel_rfl
def NN (k : Nat) (i : Nat) : Int := if i < k then 200 else 0
theorem nn_fr (k : Nat) (hk : k < 4) : frE [] (k : Int) 200 = 0 := fr_empty (by omega) (by omega) (by decide) (by decide)
theorem nn_up (k : Nat) (hk : k < 4) : frN (NN k) [] (k : Int) 200 = NN (k + 1) := by
  unfold frN
  rw [nn_fr k hk, if_pos rfl]
  funext i
  unfold NN
  rw [Int.toNat_natCast]
  by_cases h : i = k
  · rw [if_pos h, if_pos (by omega)]
  · rw [if_neg h]
    by_cases h2 : i < k
    · rw [if_pos h2, if_pos (by omega)]
    · rw [if_neg h2, if_neg (by omega)]
theorem nn_zero : NN 0 = fun _ => 0 := by funext i; simp [NN]
theorem nn_at {c : C} (h : c.may = true) : NN 4 c.f.toNat = 200 := by
  have := may_in h
  unfold NN
  rw [if_pos (by omega)]
theorem a_first {c : C} (h : c.may = true) : addE (NN 4) [] c = 0 := by
  rw [add_first h, nn_at h, if_neg (by have := may_in h; omega)]
theorem a_second {c d : C} (h : d.may = true) : addE (NN 4) [c] d = if same c d = true then 9 else 0 := by
  unfold addE
  rw [h, nn_at h]
  have := may_in h
  have e : ¬ (200 : Int) ≤ d.s := by omega
  simp [e, taken]
theorem same_self (d : C) : same d d = true := by simp [same]
theorem same_ne {c d : C} (h : same c d = false) : c ≠ d := fun e => by rw [e, same_self] at h; cases h
theorem two {c d : C} (h : c ≠ d) : ins [c] (pos [c] d) d = [c, d] ∧ cf c d < 0 ∨ ins [c] (pos [c] d) d = [d, c] ∧ cf d c < 0 := by
  by_cases h1 : cf c d < 0
  · refine .inl ⟨?_, h1⟩
    unfold pos pos
    rw [if_pos h1]
    rfl
  · by_cases h2 : cf d c < 0
    · refine .inr ⟨?_, h2⟩
      unfold pos
      rw [if_neg h1]
      rfl
    · exact absurd (cf_total h1 h2) h
/-- Taken out of two: the other one is left. -/
theorem rem_two {c d : C} (h : c ≠ d) : remE (ins [c] (pos [c] d) d) c = 0 ∧ remL (ins [c] (pos [c] d) d) c = [d] := by
  have h0 : ¬ cf c c < 0 := fun e => cf_asym e e
  have he : cf c c = 0 := (cf_eq c c).2 rfl
  rcases two h with ⟨e, h1⟩ | ⟨e, h1⟩
  · rw [e]
    have hp : pos [c, d] c = 0 := by unfold pos; rw [if_neg h0]
    have hr : remE [c, d] c = 0 := by unfold remE; rw [hp, if_pos ⟨by simp, he⟩]
    refine ⟨hr, ?_⟩
    unfold remL
    rw [hr, if_pos rfl, hp]
    rfl
  · rw [e]
    have hp : pos [d, c] c = 1 := by unfold pos pos; rw [if_pos h1, if_neg h0]
    have hr : remE [d, c] c = 0 := by unfold remE; rw [hp, if_pos ⟨by simp, he⟩]
    refine ⟨hr, ?_⟩
    unfold remL
    rw [hr, if_pos rfl, hp]
    rfl
theorem rem_one (c : C) : remE [c] c = 0 ∧ remL [c] c = [] := by
  have h0 : ¬ cf c c < 0 := fun e => cf_asym e e
  have he : cf c c = 0 := (cf_eq c c).2 rfl
  have hp : pos [c] c = 0 := by unfold pos; rw [if_neg h0]
  have hr : remE [c] c = 0 := by unfold remE; rw [hp, if_pos ⟨by simp, he⟩]
  refine ⟨hr, ?_⟩
  unfold remL
  rw [hr, if_pos rfl, hp]
  rfl
theorem rem_gone {c d : C} (h : c ≠ d) : remE [d] c = 6 := by
  unfold remE
  rw [if_neg]
  rintro ⟨h1, h2⟩
  have h3 := (cf_eq _ _).1 h2
  have hp : pos [d] c = 0 := by simp at h1; exact h1
  rw [hp] at h3
  exact h h3.symm
theorem rem_nothing (c : C) : remE [] c = 6 := by
  unfold remE
  rw [if_neg (by simp)]
theorem remL_no {l : List C} {c : C} (h : remE l c = 6) : remL l c = l := by
  unfold remL
  rw [h, if_neg (by decide)]
theorem s10 {w W : World} {c d : C} (h : Own W w.heap.size 31 c.vals) (k : Own W (w.heap.size + 1) 31 d.vals) : (fun w' : World => w'.cell? ⟨w.heap.size, 0, none⟩ = some (.int .i64 c.f) ∧ w'.cell? ⟨w.heap.size, 1, none⟩ = some (.int .i64 c.s) ∧ w'.cell? ⟨w.heap.size, 2, none⟩ = some (.int .i64 c.c) ∧ w'.cell? ⟨w.heap.size, 3, none⟩ = some (.int .i64 c.o) ∧ w'.cell? ⟨w.heap.size, 4, none⟩ = some (.int .i64 c.p) ∧ w'.cell? ⟨w.heap.size + 1, 0, none⟩ = some (.int .i64 d.f) ∧ w'.cell? ⟨w.heap.size + 1, 1, none⟩ = some (.int .i64 d.s) ∧ w'.cell? ⟨w.heap.size + 1, 2, none⟩ = some (.int .i64 d.c) ∧ w'.cell? ⟨w.heap.size + 1, 3, none⟩ = some (.int .i64 d.o) ∧ w'.cell? ⟨w.heap.size + 1, 4, none⟩ = some (.int .i64 d.p)) W := by
  obtain ⟨a0, a1, a2, a3, a4⟩ := own_c h
  obtain ⟨b0, b1, b2, b3, b4⟩ := own_c k
  exact ⟨a0, a1, a2, a3, a4, b0, b1, b2, b3, b4⟩
theorem keep5 {w W W' : World} {d : C} (hb : Below W.heap.size W W') (h : (fun w' : World => w'.cell? ⟨w.heap.size + 1, 0, none⟩ = some (.int .i64 d.f) ∧ w'.cell? ⟨w.heap.size + 1, 1, none⟩ = some (.int .i64 d.s) ∧ w'.cell? ⟨w.heap.size + 1, 2, none⟩ = some (.int .i64 d.c) ∧ w'.cell? ⟨w.heap.size + 1, 3, none⟩ = some (.int .i64 d.o) ∧ w'.cell? ⟨w.heap.size + 1, 4, none⟩ = some (.int .i64 d.p)) W) : (fun w' : World => w'.cell? ⟨w.heap.size + 1, 0, none⟩ = some (.int .i64 d.f) ∧ w'.cell? ⟨w.heap.size + 1, 1, none⟩ = some (.int .i64 d.s) ∧ w'.cell? ⟨w.heap.size + 1, 2, none⟩ = some (.int .i64 d.c) ∧ w'.cell? ⟨w.heap.size + 1, 3, none⟩ = some (.int .i64 d.o) ∧ w'.cell? ⟨w.heap.size + 1, 4, none⟩ = some (.int .i64 d.p)) W' :=
  ⟨keep_cell hb h.1, keep_cell hb h.2.1, keep_cell hb h.2.2.1, keep_cell hb h.2.2.2.1, keep_cell hb h.2.2.2.2⟩
theorem add_no9 {l : List C} {d : C} (h : addE (NN 4) l d = 9) : addL (NN 4) l d = l := by
  unfold addL
  rw [h, if_neg (by decide)]
set_option maxHeartbeats 4000000 in
theorem body (c d : C) (w : World) :
    Calls Try.prog 7 #[.agg #[.int .i64 c.f, .int .i64 c.s, .int .i64 c.c, .int .i64 c.o, .int .i64 c.p], .agg #[.int .i64 d.f, .int .i64 d.s, .int .i64 d.c, .int .i64 d.o, .int .i64 d.p]] w fun r w' => r = .returned (.bool true) ∧ Below w.heap.size w w' := by
  have o1 : Own ((w.alloc (.cells #[.int .i64 c.f, .int .i64 c.s, .int .i64 c.c, .int .i64 c.o, .int .i64 c.p] 31)).alloc (.cells #[.int .i64 d.f, .int .i64 d.s, .int .i64 d.c, .int .i64 d.o, .int .i64 d.p] 31)) w.heap.size 31 c.vals := (Own.new w _ _).alloc _
  have o2 : Own ((w.alloc (.cells #[.int .i64 c.f, .int .i64 c.s, .int .i64 c.c, .int .i64 c.o, .int .i64 c.p] 31)).alloc (.cells #[.int .i64 d.f, .int .i64 d.s, .int .i64 d.c, .int .i64 d.o, .int .i64 d.p] 31)) (w.heap.size + 1) 31 d.vals := by
    have := Own.new (w.alloc (.cells #[.int .i64 c.f, .int .i64 c.s, .int .i64 c.c, .int .i64 c.o, .int .i64 c.p] 31)) 31 d.vals
    rwa [show (w.alloc (.cells #[.int .i64 c.f, .int .i64 c.s, .int .i64 c.c, .int .i64 c.o, .int .i64 c.p] 31)).heap.size = w.heap.size + 1 by simp] at this
  have b0 := ((Below.refl w.heap.size w).alloc (Nat.le_refl _) (.cells #[.int .i64 c.f, .int .i64 c.s, .int .i64 c.c, .int .i64 c.o, .int .i64 c.p] 31)).alloc (by simp) (.cells #[.int .i64 d.f, .int .i64 d.s, .int .i64 d.c, .int .i64 d.o, .int .i64 d.p] 31)
  have hmc := fun w => may_any c.f c.s c.c c.o c.p w
  have hmd := fun w => may_any d.f d.s d.c d.o d.p w
  cases hc : c.may
  · have hc' : mayC c.f c.s c.c c.o c.p = false := hc
    rw [hc'] at hmc
    clear hc hc'
    go_enter Try.func7, Try.ntmps7
    go_wp2_with fail
    generalize (w.alloc (.cells #[.int .i64 c.f, .int .i64 c.s, .int .i64 c.c, .int .i64 c.o, .int .i64 c.p] 31)).alloc (.cells #[.int .i64 d.f, .int .i64 d.s, .int .i64 d.c, .int .i64 d.o, .int .i64 d.p] 31) = w1 at *
    obtain ⟨d0, d1, d2, d3, d4⟩ := own_c o1
    go_wp2_with fail
    refine (hmc _).mono ?_
    rintro r w2 ⟨rfl, b2⟩
    have b2 := b0.trans (b2.mono b0.size)
    go_wp2_with fail
    refine (awake_any _).mono ?_
    rintro r w3 ⟨rfl, b3⟩
    go_wp2_with fail
    go_ret
    exact ⟨rfl, b2.trans (b3.mono b2.size)⟩
  · have hc' : mayC c.f c.s c.c c.o c.p = true := hc
    rw [hc'] at hmc
    cases hd : d.may
    · have hd' : mayC d.f d.s d.c d.o d.p = false := hd
      rw [hd'] at hmd
      clear hc hc' hd hd'
      go_enter Try.func7, Try.ntmps7
      go_wp2_with fail
      generalize (w.alloc (.cells #[.int .i64 c.f, .int .i64 c.s, .int .i64 c.c, .int .i64 c.o, .int .i64 c.p] 31)).alloc (.cells #[.int .i64 d.f, .int .i64 d.s, .int .i64 d.c, .int .i64 d.o, .int .i64 d.p] 31) = w1 at *
      obtain ⟨d0, d1, d2, d3, d4⟩ := own_c o1
      go_wp2_with fail
      refine (hmc _).mono ?_
      rintro r w2 ⟨rfl, b2⟩
      have o2 := below_own b2 o2 o2.lt
      have b2 := b0.trans (b2.mono b0.size)
      clear d0 d1 d2 d3 d4
      obtain ⟨d0, d1, d2, d3, d4⟩ := own_c o2
      go_wp2_with fail
      refine (hmd _).mono ?_
      rintro r w3 ⟨rfl, b3⟩
      have b3 := b2.trans (b3.mono b2.size)
      go_wp2_with fail
      refine (awake_any _).mono ?_
      rintro r w4 ⟨rfl, b4⟩
      go_wp2_with fail
      go_ret
      exact ⟨rfl, b3.trans (b4.mono b3.size)⟩
    · have hd' : mayC d.f d.s d.c d.o d.p = true := hd
      rw [hd'] at hmd
      have HA1 := Lib.hid (a_first hc)
      have HA1d := Lib.hid (a_first hd)
      have HA2 := Lib.hid (a_second (c := c) hd)
      have HA3 := Lib.hid (a_second (c := d) hd)
      obtain ⟨s1, hs1⟩ : ∃ s1, (c.f == d.f) = s1 := ⟨_, rfl⟩
      obtain ⟨s2, hs2⟩ : ∃ s2, (c.s == d.s) = s2 := ⟨_, rfl⟩
      obtain ⟨s3, hs3⟩ : ∃ s3, (c.c == d.c) = s3 := ⟨_, rfl⟩
      have HSM : Hid (same c d = (s1 && (s2 && s3))) := Lib.hid (by unfold same; rw [hs1, hs2, hs3])
      clear hc hc' hd hd'
      go_enter Try.func7, Try.ntmps7
      go_wp2_with fail
      generalize (w.alloc (.cells #[.int .i64 c.f, .int .i64 c.s, .int .i64 c.c, .int .i64 c.o, .int .i64 c.p] 31)).alloc (.cells #[.int .i64 d.f, .int .i64 d.s, .int .i64 d.c, .int .i64 d.o, .int .i64 d.p] 31) = w1 at *
      obtain ⟨d0, d1, d2, d3, d4⟩ := own_c o1
      go_wp2_with fail
      refine (hmc _).mono ?_
      rintro r w2 ⟨rfl, b2⟩
      have o2 := below_own b2 o2 o2.lt
      have o1 := below_own b2 o1 o1.lt
      have b2 := b0.trans (b2.mono b0.size)
      clear d0 d1 d2 d3 d4
      obtain ⟨d0, d1, d2, d3, d4⟩ := own_c o2
      go_wp2_with fail
      refine (hmd _).mono ?_
      rintro r w3 ⟨rfl, b3⟩
      have o2 := below_own b3 o2 o2.lt
      have o1 := below_own b3 o1 o1.lt
      have b3 := b2.trans (b3.mono b2.size)
      clear d0 d1 d2 d3 d4 hmc hmd b0
      go_wp2_with fail
      refine (new_any _).mono ?_
      rintro r w4 ⟨rfl, t4, b4⟩
      obtain ⟨B, hB⟩ : ∃ B, w3.heap.size = B := ⟨_, rfl⟩
      have hlB : w.heap.size + 1 < B := by rw [← hB]; exact o2.lt
      have o2 := below_own b4 o2 o2.lt
      have o1 := below_own b4 o1 o1.lt
      have b4 := b3.trans (b4.mono b3.size)
      rw [hB, ← nn_zero] at t4
      rw [hB]
      clear hB b3
      go_wp2_with fail
      go_loopw [21] (fun i wr => ∃ k : Nat, i = .int .i64 k ∧ k ≤ 4 ∧ Tab wr B B (NN k) [] (.slice none 0 0) ∧ Own wr w.heap.size 31 c.vals ∧ Own wr (w.heap.size + 1) 31 d.vals ∧ Below w.heap.size w wr) (fun i _ => 4 - (intOf i).toNat)
      case atStart => exact ⟨0, rfl, by omega, t4, o1, o2, b4⟩
      case round =>
        clear t4 o1 o2 b4
        obtain ⟨k, rfl, hk, t5, o1, o2, b5⟩ := hrel
        by_cases hlt : k < 4
        · have HF := Lib.hid (nn_fr k hlt)
          have HN := Lib.hid (nn_up k hlt)
          have g1 : (k : Int) < 4 := by omega
          go_wp2_with fail
          refine (frm_any B B (NN k) [] _ (k : Int) 200 _ t5).mono ?_
          rintro r w6 ⟨rfl, t6, j6⟩
          have k6 := j6.old t5
          have o1 := below_own k6 o1 (by omega)
          have o2 := below_own k6 o2 hlB
          have b6 := b5.trans (k6.mono (by omega))
          rw [HF.out]
          rw [HN.out] at t6
          clear t5 j6 k6 b5
          go_wp2_with fail
          exact ⟨⟨k + 1, by simp, by omega, t6, o1, o2, b6⟩, by simp [intOf]; omega⟩
        · obtain rfl : 4 = k := by omega
          obtain ⟨sm, hsm⟩ : ∃ sm, same c d = sm := ⟨_, rfl⟩
          have HSM2 := Lib.hid hsm
          have HSM3 : Hid (sm = (s1 && (s2 && s3))) := Lib.hid (by rw [← hsm]; exact HSM.out)
          obtain ⟨d0, d1, d2, d3, d4⟩ := own_c o1
          obtain ⟨e0, e1, e2, e3, e4⟩ := own_c o2
          clear hsm hlt hk
          go_upto_region 10 with (fail)
          go_cut [7] from 29 to 47 (fun s wz => s = .bool sm ∧ wr = wz)
          case first =>
            cases s1
            · clear hs2 hs3
              go_wp2_with fail
              go_meet
              exact ⟨by rw [HSM3.out]; rfl, rfl⟩
            · cases s2
              · clear hs3
                go_wp2_with fail
                go_meet
                exact ⟨by rw [HSM3.out]; rfl, rfl⟩
              · cases s3
                all_goals
                  go_wp2_with fail
                  go_meet
                  exact ⟨by rw [HSM3.out]; rfl, rfl⟩
          case rest =>
            obtain ⟨rfl, rfl⟩ := hcut
            clear hs1 hs2 hs3
            cases sm
            · skip
              have hsame : same c d = false := HSM2.out
              have hcd : c ≠ d := same_ne hsame
              have hE2 : addE (NN 4) [c] d = 0 := by rw [HA2.out, hsame]; rfl
              have hL2 : addL (NN 4) [c] d = ins [c] (pos [c] d) d := by unfold addL; rw [hE2, if_pos rfl]
              have hR1 := (rem_two hcd).1
              have hRL1 := (rem_two hcd).2
              have hR2 := rem_gone hcd
              have hRL2 := remL_no hR2
              have hE3 : addE (NN 4) [d] d = 9 := by rw [HA3.out, same_self]; rfl
              have hL3 := add_no9 hE3
              generalize ins [c] (pos [c] d) d = l2 at *
              clear hcd
              have hL1 := addL_first HA1.out
              have HE2 := Lib.hid hE2
              have HL2 := Lib.hid hL2
              have HR1 := Lib.hid hR1
              have HRL1 := Lib.hid hRL1
              have HR2 := Lib.hid hR2
              have HRL2 := Lib.hid hRL2
              have HE3 := Lib.hid hE3
              have HL3 := Lib.hid hL3
              have HL1 := Lib.hid hL1
              clear hsame hE2 hL2 hR1 hRL1 hR2 hRL2 hE3 hL3 hL1
              go_wp2_with fail
              have t5d : Tab wr.drew B B (NN 4) [] (.slice none 0 0) := ⟨t5.blk.drewN 1, t5.row.drewN 1, t5.good, t5.low⟩
              have o1d : Own wr.drew w.heap.size 31 c.vals := o1.drewN 1
              have o2d : Own wr.drew (w.heap.size + 1) 31 d.vals := o2.drewN 1
              have b5d : Below w.heap.size w wr.drew := below_drewN b5 1
              have s0 := s10 o1d o2d
              clear d0 d1 d2 d3 d4 e0 e1 e2 e3 e4 t5 o1 o2 b5
              go_region_held3 (fun w' : World => w'.cell? ⟨w.heap.size, 0, none⟩ = some (.int .i64 c.f) ∧ w'.cell? ⟨w.heap.size, 1, none⟩ = some (.int .i64 c.s) ∧ w'.cell? ⟨w.heap.size, 2, none⟩ = some (.int .i64 c.c) ∧ w'.cell? ⟨w.heap.size, 3, none⟩ = some (.int .i64 c.o) ∧ w'.cell? ⟨w.heap.size, 4, none⟩ = some (.int .i64 c.p) ∧ w'.cell? ⟨w.heap.size + 1, 0, none⟩ = some (.int .i64 d.f) ∧ w'.cell? ⟨w.heap.size + 1, 1, none⟩ = some (.int .i64 d.s) ∧ w'.cell? ⟨w.heap.size + 1, 2, none⟩ = some (.int .i64 d.c) ∧ w'.cell? ⟨w.heap.size + 1, 3, none⟩ = some (.int .i64 d.o) ∧ w'.cell? ⟨w.heap.size + 1, 4, none⟩ = some (.int .i64 d.p)) (first | exact s0 | exact s2 | exact s3) ((go_at_call 12; first
                | ((with_reducible refine (add_any B B (NN 4) [] _ c _ t5d).mono ?_); rintro r w6 ⟨rfl, v6, t6, j6⟩; rw [HA1.out]; rw [HL1.out] at t6; have p1 := below_own (j6.old t5d) o1d (by omega); have p2 := below_own (j6.old t5d) o2d hlB; have s2 := s10 p1 p2)
                | ((with_reducible refine (add_any B B (NN 4) [c] v6 d _ t6).mono ?_); rintro r w7 ⟨rfl, v7, t7, j7⟩; rw [HE2.out]; rw [HL2.out] at t7; have p3 := below_own (j7.old t6) p1 (by omega); have p4 := below_own (j7.old t6) p2 hlB; have s3 := s10 p3 p4)))
              have bb : Below w.heap.size w w7 := (b5d.trans ((j6.old t5d).mono (by omega))).trans ((j7.old t6).mono (by omega))
              have o1 := p3
              have o2 := p4
              clear s0 s2 s3 p1 p2 p3 p4 j6 j7 t6 t5d o1d o2d b5d
              obtain ⟨d0, d1, d2, d3, d4⟩ := own_c o1
              obtain ⟨e0, e1, e2, e3, e4⟩ := own_c o2
              go_wp2_with fail
              refine (rem_any B B (NN 4) l2 v7 c _ t7).mono ?_
              rintro r w8 ⟨rfl, v8, t8, j8⟩
              have kk := j8.old t7
              have o1 := below_own kk o1 (by omega)
              have o2 := below_own kk o2 hlB
              have bb := bb.trans (kk.mono (by omega))
              rw [HR1.out]
              rw [HRL1.out] at t8
              clear d0 d1 d2 d3 d4 e0 e1 e2 e3 e4 t7 j8 kk
              obtain ⟨d0, d1, d2, d3, d4⟩ := own_c o1
              obtain ⟨e0, e1, e2, e3, e4⟩ := own_c o2
              go_wp2_with fail
              refine (rem_any B B (NN 4) [d] v8 c _ t8).mono ?_
              rintro r w9 ⟨rfl, v9, t9, j9⟩
              have kk := j9.old t8
              have o1 := below_own kk o1 (by omega)
              have o2 := below_own kk o2 hlB
              have bb := bb.trans (kk.mono (by omega))
              rw [HR2.out]
              rw [HRL2.out] at t9
              clear d0 d1 d2 d3 d4 e0 e1 e2 e3 e4 t8 j9 kk
              obtain ⟨d0, d1, d2, d3, d4⟩ := own_c o1
              obtain ⟨e0, e1, e2, e3, e4⟩ := own_c o2
              go_wp2_with fail
              refine (add_any B B (NN 4) [d] v9 d _ t9).mono ?_
              rintro r w10 ⟨rfl, v10, t10, j10⟩
              have kk := j10.old t9
              have o1 := below_own kk o1 (by omega)
              have o2 := below_own kk o2 hlB
              have bb := bb.trans (kk.mono (by omega))
              rw [HE3.out]
              rw [HL3.out] at t10
              clear d0 d1 d2 d3 d4 e0 e1 e2 e3 e4 t9 j10 kk
              obtain ⟨d0, d1, d2, d3, d4⟩ := own_c o1
              obtain ⟨e0, e1, e2, e3, e4⟩ := own_c o2
              go_wp2_with fail
              have t10d : Tab w10.drew B B (NN 4) [d] v10 := ⟨t10.blk.drewN 1, t10.row.drewN 1, t10.good, t10.low⟩
              have c10 : Below w.heap.size w w10.drew := below_drewN bb 1
              have s4 : (fun w' : World => w'.cell? ⟨w.heap.size + 1, 0, none⟩ = some (.int .i64 d.f) ∧ w'.cell? ⟨w.heap.size + 1, 1, none⟩ = some (.int .i64 d.s) ∧ w'.cell? ⟨w.heap.size + 1, 2, none⟩ = some (.int .i64 d.c) ∧ w'.cell? ⟨w.heap.size + 1, 3, none⟩ = some (.int .i64 d.o) ∧ w'.cell? ⟨w.heap.size + 1, 4, none⟩ = some (.int .i64 d.p)) w10.drew := ⟨e0, e1, e2, e3, e4⟩
              clear d0 d1 d2 d3 d4 t10 o1 o2 bb e0 e1 e2 e3 e4
              have s4c := s4
              obtain ⟨e0, e1, e2, e3, e4⟩ := s4c
              go_region_with (first
                | (go_at_call 17; refine (all_any B B (NN 4) [d] v10 _ (by first | exact t10d | exact t11)).mono ?_; rintro r w11 ⟨va, rfl, m11, b11⟩; have m11 : MineK w11 _ 31 5 va 1 (lv [d]) := m11; have c11 : Below w.heap.size w w11 := (by first | exact c10.trans (b11.mono c10.size) | exact c11.trans (b11.mono c11.size)); have s5 : (fun w' : World => w'.cell? ⟨w.heap.size + 1, 0, none⟩ = some (.int .i64 d.f) ∧ w'.cell? ⟨w.heap.size + 1, 1, none⟩ = some (.int .i64 d.s) ∧ w'.cell? ⟨w.heap.size + 1, 2, none⟩ = some (.int .i64 d.c) ∧ w'.cell? ⟨w.heap.size + 1, 3, none⟩ = some (.int .i64 d.o) ∧ w'.cell? ⟨w.heap.size + 1, 4, none⟩ = some (.int .i64 d.p)) w11 := (by first | exact keep5 b11 s4 | exact keep5 b11 s5); have s5c := s5; obtain ⟨e0, e1, e2, e3, e4⟩ := s5c; have t11 : Tab w11 B B (NN 4) [d] v10 := (by first | exact t10d.below b11 | exact t11.below b11); obtain ⟨A11, cc11, rfl, hc11, hd11, hR11⟩ := m11.row; obtain ⟨bo, off, rfl, hbo, g0, g1, g2, g3, g4⟩ := row_c (k := 0) hR11 (Below.refl _ _) (by omega); have g0 : w11.cell? ⟨bo, off, none⟩ = some (.int .i64 d.f) := g0; have g1 : w11.cell? ⟨bo, off + 1, none⟩ = some (.int .i64 d.s) := g1; have g2 : w11.cell? ⟨bo, off + 2, none⟩ = some (.int .i64 d.c) := g2; have g3 : w11.cell? ⟨bo, off + 3, none⟩ = some (.int .i64 d.o) := g3; have g4 : w11.cell? ⟨bo, off + 4, none⟩ = some (.int .i64 d.p) := g4; have hc11 : 1 ≤ cc11 := hc11)
                | (go_at_call 23; refine (awake_any _).mono ?_; rintro r w12 ⟨rfl, b12⟩; have s6 : (fun w' : World => w'.cell? ⟨w.heap.size + 1, 0, none⟩ = some (.int .i64 d.f) ∧ w'.cell? ⟨w.heap.size + 1, 1, none⟩ = some (.int .i64 d.s) ∧ w'.cell? ⟨w.heap.size + 1, 2, none⟩ = some (.int .i64 d.c) ∧ w'.cell? ⟨w.heap.size + 1, 3, none⟩ = some (.int .i64 d.o) ∧ w'.cell? ⟨w.heap.size + 1, 4, none⟩ = some (.int .i64 d.p)) w12 := keep5 b12 s5; have c12 := c11.trans (b12.mono c11.size)))
              all_goals
                go_wp2_with fail
                go_ret
                exact ⟨rfl, c12⟩
            · skip
              have hsame : same c d = true := HSM2.out
              have hE2 : addE (NN 4) [c] d = 9 := by rw [HA2.out, hsame]; rfl
              have hL2 : addL (NN 4) [c] d = [c] := add_no9 hE2
              have hR1 := (rem_one c).1
              have hRL1 := (rem_one c).2
              have hR2 := rem_nothing c
              have hRL2 := remL_no hR2
              have hE3 := HA1d.out
              have hL3 := addL_first hE3
              have hL1 := addL_first HA1.out
              have HE2 := Lib.hid hE2
              have HL2 := Lib.hid hL2
              have HR1 := Lib.hid hR1
              have HRL1 := Lib.hid hRL1
              have HR2 := Lib.hid hR2
              have HRL2 := Lib.hid hRL2
              have HE3 := Lib.hid hE3
              have HL3 := Lib.hid hL3
              have HL1 := Lib.hid hL1
              clear hsame hE2 hL2 hR1 hRL1 hR2 hRL2 hE3 hL3 hL1
              go_wp2_with fail
              have t5d : Tab wr.drew B B (NN 4) [] (.slice none 0 0) := ⟨t5.blk.drewN 1, t5.row.drewN 1, t5.good, t5.low⟩
              have o1d : Own wr.drew w.heap.size 31 c.vals := o1.drewN 1
              have o2d : Own wr.drew (w.heap.size + 1) 31 d.vals := o2.drewN 1
              have b5d : Below w.heap.size w wr.drew := below_drewN b5 1
              have s0 := s10 o1d o2d
              clear d0 d1 d2 d3 d4 e0 e1 e2 e3 e4 t5 o1 o2 b5
              go_region_held3 (fun w' : World => w'.cell? ⟨w.heap.size, 0, none⟩ = some (.int .i64 c.f) ∧ w'.cell? ⟨w.heap.size, 1, none⟩ = some (.int .i64 c.s) ∧ w'.cell? ⟨w.heap.size, 2, none⟩ = some (.int .i64 c.c) ∧ w'.cell? ⟨w.heap.size, 3, none⟩ = some (.int .i64 c.o) ∧ w'.cell? ⟨w.heap.size, 4, none⟩ = some (.int .i64 c.p) ∧ w'.cell? ⟨w.heap.size + 1, 0, none⟩ = some (.int .i64 d.f) ∧ w'.cell? ⟨w.heap.size + 1, 1, none⟩ = some (.int .i64 d.s) ∧ w'.cell? ⟨w.heap.size + 1, 2, none⟩ = some (.int .i64 d.c) ∧ w'.cell? ⟨w.heap.size + 1, 3, none⟩ = some (.int .i64 d.o) ∧ w'.cell? ⟨w.heap.size + 1, 4, none⟩ = some (.int .i64 d.p)) (first | exact s0 | exact s2 | exact s3) ((go_at_call 12; first
                | ((with_reducible refine (add_any B B (NN 4) [] _ c _ t5d).mono ?_); rintro r w6 ⟨rfl, v6, t6, j6⟩; rw [HA1.out]; rw [HL1.out] at t6; have p1 := below_own (j6.old t5d) o1d (by omega); have p2 := below_own (j6.old t5d) o2d hlB; have s2 := s10 p1 p2)
                | ((with_reducible refine (add_any B B (NN 4) [c] v6 d _ t6).mono ?_); rintro r w7 ⟨rfl, v7, t7, j7⟩; rw [HE2.out]; rw [HL2.out] at t7; have p3 := below_own (j7.old t6) p1 (by omega); have p4 := below_own (j7.old t6) p2 hlB; have s3 := s10 p3 p4)))
              have bb : Below w.heap.size w w7 := (b5d.trans ((j6.old t5d).mono (by omega))).trans ((j7.old t6).mono (by omega))
              have o1 := p3
              have o2 := p4
              clear s0 s2 s3 p1 p2 p3 p4 j6 j7 t6 t5d o1d o2d b5d
              obtain ⟨d0, d1, d2, d3, d4⟩ := own_c o1
              obtain ⟨e0, e1, e2, e3, e4⟩ := own_c o2
              go_wp2_with fail
              refine (rem_any B B (NN 4) [c] v7 c _ t7).mono ?_
              rintro r w8 ⟨rfl, v8, t8, j8⟩
              have kk := j8.old t7
              have o1 := below_own kk o1 (by omega)
              have o2 := below_own kk o2 hlB
              have bb := bb.trans (kk.mono (by omega))
              rw [HR1.out]
              rw [HRL1.out] at t8
              clear d0 d1 d2 d3 d4 e0 e1 e2 e3 e4 t7 j8 kk
              obtain ⟨d0, d1, d2, d3, d4⟩ := own_c o1
              obtain ⟨e0, e1, e2, e3, e4⟩ := own_c o2
              go_wp2_with fail
              refine (rem_any B B (NN 4) [] v8 c _ t8).mono ?_
              rintro r w9 ⟨rfl, v9, t9, j9⟩
              have kk := j9.old t8
              have o1 := below_own kk o1 (by omega)
              have o2 := below_own kk o2 hlB
              have bb := bb.trans (kk.mono (by omega))
              rw [HR2.out]
              rw [HRL2.out] at t9
              clear d0 d1 d2 d3 d4 e0 e1 e2 e3 e4 t8 j9 kk
              obtain ⟨d0, d1, d2, d3, d4⟩ := own_c o1
              obtain ⟨e0, e1, e2, e3, e4⟩ := own_c o2
              go_wp2_with fail
              refine (add_any B B (NN 4) [] v9 d _ t9).mono ?_
              rintro r w10 ⟨rfl, v10, t10, j10⟩
              have kk := j10.old t9
              have o1 := below_own kk o1 (by omega)
              have o2 := below_own kk o2 hlB
              have bb := bb.trans (kk.mono (by omega))
              rw [HE3.out]
              rw [HL3.out] at t10
              clear d0 d1 d2 d3 d4 e0 e1 e2 e3 e4 t9 j10 kk
              obtain ⟨d0, d1, d2, d3, d4⟩ := own_c o1
              obtain ⟨e0, e1, e2, e3, e4⟩ := own_c o2
              go_wp2_with fail
              have t10d : Tab w10.drew B B (NN 4) [d] v10 := ⟨t10.blk.drewN 1, t10.row.drewN 1, t10.good, t10.low⟩
              have c10 : Below w.heap.size w w10.drew := below_drewN bb 1
              have s4 : (fun w' : World => w'.cell? ⟨w.heap.size + 1, 0, none⟩ = some (.int .i64 d.f) ∧ w'.cell? ⟨w.heap.size + 1, 1, none⟩ = some (.int .i64 d.s) ∧ w'.cell? ⟨w.heap.size + 1, 2, none⟩ = some (.int .i64 d.c) ∧ w'.cell? ⟨w.heap.size + 1, 3, none⟩ = some (.int .i64 d.o) ∧ w'.cell? ⟨w.heap.size + 1, 4, none⟩ = some (.int .i64 d.p)) w10.drew := ⟨e0, e1, e2, e3, e4⟩
              clear d0 d1 d2 d3 d4 t10 o1 o2 bb e0 e1 e2 e3 e4
              have s4c := s4
              obtain ⟨e0, e1, e2, e3, e4⟩ := s4c
              go_region_with (first
                | (go_at_call 17; refine (all_any B B (NN 4) [d] v10 _ (by first | exact t10d | exact t11)).mono ?_; rintro r w11 ⟨va, rfl, m11, b11⟩; have m11 : MineK w11 _ 31 5 va 1 (lv [d]) := m11; have c11 : Below w.heap.size w w11 := (by first | exact c10.trans (b11.mono c10.size) | exact c11.trans (b11.mono c11.size)); have s5 : (fun w' : World => w'.cell? ⟨w.heap.size + 1, 0, none⟩ = some (.int .i64 d.f) ∧ w'.cell? ⟨w.heap.size + 1, 1, none⟩ = some (.int .i64 d.s) ∧ w'.cell? ⟨w.heap.size + 1, 2, none⟩ = some (.int .i64 d.c) ∧ w'.cell? ⟨w.heap.size + 1, 3, none⟩ = some (.int .i64 d.o) ∧ w'.cell? ⟨w.heap.size + 1, 4, none⟩ = some (.int .i64 d.p)) w11 := (by first | exact keep5 b11 s4 | exact keep5 b11 s5); have s5c := s5; obtain ⟨e0, e1, e2, e3, e4⟩ := s5c; have t11 : Tab w11 B B (NN 4) [d] v10 := (by first | exact t10d.below b11 | exact t11.below b11); obtain ⟨A11, cc11, rfl, hc11, hd11, hR11⟩ := m11.row; obtain ⟨bo, off, rfl, hbo, g0, g1, g2, g3, g4⟩ := row_c (k := 0) hR11 (Below.refl _ _) (by omega); have g0 : w11.cell? ⟨bo, off, none⟩ = some (.int .i64 d.f) := g0; have g1 : w11.cell? ⟨bo, off + 1, none⟩ = some (.int .i64 d.s) := g1; have g2 : w11.cell? ⟨bo, off + 2, none⟩ = some (.int .i64 d.c) := g2; have g3 : w11.cell? ⟨bo, off + 3, none⟩ = some (.int .i64 d.o) := g3; have g4 : w11.cell? ⟨bo, off + 4, none⟩ = some (.int .i64 d.p) := g4; have hc11 : 1 ≤ cc11 := hc11)
                | (go_at_call 23; refine (awake_any _).mono ?_; rintro r w12 ⟨rfl, b12⟩; have s6 : (fun w' : World => w'.cell? ⟨w.heap.size + 1, 0, none⟩ = some (.int .i64 d.f) ∧ w'.cell? ⟨w.heap.size + 1, 1, none⟩ = some (.int .i64 d.s) ∧ w'.cell? ⟨w.heap.size + 1, 2, none⟩ = some (.int .i64 d.c) ∧ w'.cell? ⟨w.heap.size + 1, 3, none⟩ = some (.int .i64 d.o) ∧ w'.cell? ⟨w.heap.size + 1, 4, none⟩ = some (.int .i64 d.p)) w12 := keep5 b12 s5; have c12 := c11.trans (b12.mono c11.size)))
              all_goals
                go_wp2_with fail
                go_ret
                exact ⟨rfl, c12⟩
theorem open_c {H : Type} {enc : TypeId × Value → H} (W : World) (base : Nat) (v : Value) {d : DataW H} {p : List MemPlace} (hv : Value.okWide Try.prog W .any base 31 v) (h : DataW.Trod enc Try.prog W 0 (fun _ => true) true 31 v d p) :
    ∃ x : C, v = .agg #[.int .i64 x.f, .int .i64 x.s, .int .i64 x.c, .int .i64 x.o, .int .i64 x.p] := by
  have hX : Try.prog.cellsOf 31 = 5 := by kernel_rfl
  have hI : Try.prog.cellsOf 3 = 1 := by kernel_rfl
  obtain ⟨cs, rfl, hsz⟩ := okWide_struct Try.underlying31 hv
  rw [hX] at hsz
  obtain ⟨l⟩ := cs
  match l, hsz with
  | [x0, x1, x2, x3, x4], _ =>
  obtain ⟨fuel, hf⟩ := h
  obtain ⟨xs, k, _, _, _, hlen, hfs⟩ := DataW.trod_struct Try.underlying31 hf
  match xs, hlen with
  | [z0, z1, z2, z3, z4], _ =>
  obtain ⟨q0, f0, _⟩ := DataW.trod_int Try.underlying3 (hfs 0 _ rfl)
  obtain ⟨q1, f1, _⟩ := DataW.trod_int Try.underlying3 (hfs 1 _ rfl)
  obtain ⟨q2, f2, _⟩ := DataW.trod_int Try.underlying3 (hfs 2 _ rfl)
  obtain ⟨q3, f3, _⟩ := DataW.trod_int Try.underlying3 (hfs 3 _ rfl)
  obtain ⟨q4, f4, _⟩ := DataW.trod_int Try.underlying3 (hfs 4 _ rfl)
  simp [Value.cells, hI] at f0 f1 f2 f3 f4
  subst f0 f1 f2 f3 f4
  exact ⟨⟨q0, q1, q2, q3, q4⟩, rfl⟩
theorem walk (H : Type) (enc : TypeId × Value → H) : Walk H enc Try.prog 7 Try.f7 := by
  intro W base args ds p hval hA
  rw [Try.params7] at hA hval
  obtain ⟨v0, v1, d0, d1, p0, p1, rfl, rfl, rfl, h0, h1⟩ := trodAll_two hA
  obtain ⟨a, rfl⟩ := open_c W base v0 (hval 0 _ v0 rfl rfl) h0
  obtain ⟨b, rfl⟩ := open_c W base v1 (hval 1 _ v1 rfl rfl) h1
  exact body a b W

set_option maxRecDepth 100000 in
theorem lifted (os : Os) (started : os.Started) (H : Type) (enc : TypeId × Value → H) :
    ReturnsInHanded {} Try.checked os 7 .any (Rows.cellApartSpec.pre6 enc Try.prog Try.f7 Rows.cellApartRow.domain false) (Rows.cellApartSpec.post enc Try.prog Try.f7 false true false false) :=
  returnsInHanded_of_change (C := Try.checked) own started (by kernel_rfl) Try.func7
    (ChangeSpec.witness6 (enc := enc) (C := Try.checked) false ⟨#[], #[.agg #[.int .i64 0, .int .i64 0, .int .i64 0, .int .i64 0, .int .i64 0], .agg #[.int .i64 0, .int .i64 0, .int .i64 0, .int .i64 0, .int .i64 0]], []⟩ 8 (by kernel_rfl) (by kernel_rfl) (by kernel_rfl) (by kernel_rfl))
    fun W base args ds gs before hval hW _ _ => step_of_walk laidOut (by rw [Try.params7]; exact of_decide_eq_true (by kernel_rfl)) (by kernel_rfl) Try.underlying4 rfl
      (fun ds h => by
        rw [Try.params7] at h
        match ds, h with
        | [_, _], _ => rfl) (walk H enc) W base args ds gs before hval hW

theorem holds : Rows.CellApartSaid :=
  OpenClaim.holds_of_wide 7 Try.f7 rfl rfl rfl rfl rfl rfl rfl ⟨rfl, rfl, rfl, rfl, rfl⟩ rfl rfl rfl rfl rfl (by kernel_rfl) Try.func7 (by kernel_rfl)
    (of_decide_eq_true (by kernel_rfl)) (by unfold Func.isWrapper; first | (rw [if_pos (by decide +kernel)]; kernel_rfl) | (rw [if_neg (by decide +kernel)]; exact ⟨rfl, rfl⟩))
    (fun os started H enc _ => lifted os started H enc)
#print axioms holds
end Go.Proofs.Ytdknacbdkekfnaa.CellApart
