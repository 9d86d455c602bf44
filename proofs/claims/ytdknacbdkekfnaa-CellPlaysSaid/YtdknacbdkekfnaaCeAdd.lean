/-
  Package cell: Add, Remove.
-/
import Derived.Test.YtdknacbdkekfnaaCeTab
import Derived.Deep.RegionLaw
set_option maxRecDepth 100000
namespace Go.Proofs.Ytdknacbdkekfnaa.Ce
set_option linter.unusedVariables false
open Go.RowKit Lb Cl

theorem tak_any (base b : Nat) (N : Nat → Int) (l : List C) (v : Value) (x : C) (w : World) (t : Tab w base b N l v) :
    Calls Try.prog 27 #[.pointer (some ⟨b, 0, none⟩), .agg #[.int .i64 x.f, .int .i64 x.s, .int .i64 x.c, .int .i64 x.o, .int .i64 x.p]] w fun r w' => r = .returned (.bool (taken l x)) ∧ Below w.heap.size w w' := by
  have o0 : Own (w.alloc (.cells #[.int .i64 x.f, .int .i64 x.s, .int .i64 x.c, .int .i64 x.o, .int .i64 x.p] 31)) w.heap.size 31 x.vals := Own.new w _ _
  have b0 := (Below.refl w.heap.size w).alloc (Nat.le_refl _) (.cells #[.int .i64 x.f, .int .i64 x.s, .int .i64 x.c, .int .i64 x.o, .int .i64 x.p] 31)
  have t1 := t.below b0
  obtain ⟨A, c, rfl, hc1, hc2, hR⟩ := t1.row.row
  have hcon := con_any A l.length c l x w.heap.size _ hR rfl (by have := t.good.few; omega) o0
  have c4 := t1.v4
  clear t t1 hR o0
  go_enter Try.func27, Try.ntmps27
  go_wp2_with (go_at_call 37; refine hcon.mono ?_; rintro r w5 ⟨rfl, b5⟩)
  go_ret
  exact ⟨rfl, b0.trans (b5.mono b0.size)⟩
theorem ins_any (base n i gb : Nat) (v : Value) (V U : Nat → Value) (us : Array Value) (w : World) (h : MineK w base 31 5 v n V) (hi : i ≤ n) (hn : n ≤ 100000) (hb : base ≤ w.heap.size) (hu : Own w gb 31 us) (hus : us.size = 5) (hU : ∀ q, q < 5 → us[q]? = some (U q)) (h1 : ∀ q, (U q).oneCell' = true) (hV1 : ∀ q, (V q).oneCell' = true) (hg : v.ownBlock ≠ some gb) :
    Calls Try.prog 30 #[v, .int .i64 (i : Nat), .slice (some ⟨gb, 0, none⟩) 1 1] w fun r w' => ∃ v', r = .returned v' ∧ MineK w' base 31 5 v' (n + 1) (insK 5 i V U) ∧ w.grownBy w' v.ownBlock ∧ (∀ q, v'.ownBlock = some q → v.ownBlock = some q ∨ w.heap.size ≤ q) := by
  by_cases e : i = n
  · subst e
    refine (ins_end base i gb v V U us w h hn hb hu hU h1).mono ?_
    rintro r w' ⟨v', rfl, m, g, q⟩
    refine ⟨v', rfl, m, g, fun q' e' => ?_⟩
    rcases q with q | q
    · exact .inl (q ▸ e')
    · rw [q] at e'
      injection e' with e'
      exact .inr (by omega)
  · obtain ⟨g, c, cs, rfl, _, _, _, _, _, _⟩ := h.block (by omega)
    have hne : gb ≠ g := fun e' => hg (by subst e'; rfl)
    by_cases hr : n + 1 ≤ c
    · refine (ins_shift base n i c g gb V U us w h (by omega) hn hr hu hus hU h1 hV1 hne).mono ?_
      rintro r w' ⟨rfl, m, g'⟩
      exact ⟨_, rfl, m, g', fun q e' => .inl e'⟩
    · refine (ins_grow base n i c g gb V U us w h (by omega) hn (by omega) hb hu hU h1 hV1).mono ?_
      rintro r w' ⟨v', rfl, m, g', q⟩
      refine ⟨v', rfl, m, g', fun q' e' => ?_⟩
      rw [q] at e'
      injection e' with e'
      exact .inr (by omega)
theorem add_nil (x : C) (w : World) : Calls Try.prog 12 #[.pointer none, .agg #[.int .i64 x.f, .int .i64 x.s, .int .i64 x.c, .int .i64 x.o, .int .i64 x.p]] w fun r w' => r = .returned (.int .i64 1) ∧ Below w.heap.size w w' := by
  have b0 := (Below.refl w.heap.size w).alloc (Nat.le_refl _) (.cells #[.int .i64 x.f, .int .i64 x.s, .int .i64 x.c, .int .i64 x.o, .int .i64 x.p] 31)
  go_enter Try.func12, Try.ntmps12
  go_wp2_with fail
  go_ret
  exact ⟨rfl, b0⟩
def AddPost (base b : Nat) (N : Nat → Int) (l : List C) (v : Value) (x : C) (w : World) (r : Ending) (w' : World) : Prop :=
  r = .returned (.int .i64 (addE N l x)) ∧ ∃ v', Tab w' base b N (addL N l x) v' ∧ Turn w w' b v v'
theorem add_no {base b : Nat} {N : Nat → Int} {l : List C} {v : Value} {x : C} {w w' : World} {e : Int} (t : Tab w base b N l v) (he : addE N l x = e) (h0 : e ≠ 0) (hb : Below w.heap.size w w') : AddPost base b N l v x w (.returned (.int .i64 e)) w' := by
  refine ⟨by rw [he], v, ?_, Turn.of_below hb _ _⟩
  unfold addL
  rw [he, if_neg h0]
  exact t.below hb
set_option maxHeartbeats 1000000 in
theorem add_any (base b : Nat) (N : Nat → Int) (l : List C) (v : Value) (x : C) (w : World) (t : Tab w base b N l v) :
    Calls Try.prog 12 #[.pointer (some ⟨b, 0, none⟩), .agg #[.int .i64 x.f, .int .i64 x.s, .int .i64 x.c, .int .i64 x.o, .int .i64 x.p]] w (AddPost base b N l v x w) := by
  have o0 : Own (w.alloc (.cells #[.int .i64 x.f, .int .i64 x.s, .int .i64 x.c, .int .i64 x.o, .int .i64 x.p] 31)) w.heap.size 31 x.vals := Own.new w _ _
  have b0 := (Below.refl w.heap.size w).alloc (Nat.le_refl _) (.cells #[.int .i64 x.f, .int .i64 x.s, .int .i64 x.c, .int .i64 x.o, .int .i64 x.p] 31)
  have t1 := t.below b0
  have hmay := fun w => may_any x.f x.s x.c x.o x.p w
  have hz0 : (w.alloc (.cells #[.int .i64 x.f, .int .i64 x.s, .int .i64 x.c, .int .i64 x.o, .int .i64 x.p] 31)).heap.size = w.heap.size + 1 := by simp
  cases hm : x.may
  · have HD := fun w' hb => Lib.hid (add_no (w' := w') (e := 1) t (by unfold addE; rw [hm]; rfl) (by decide) hb)
    have hm' : mayC x.f x.s x.c x.o x.p = false := hm
    rw [hm'] at hmay
    obtain ⟨d0, d1, d2, d3, d4⟩ := own_c o0
    clear o0 t1 t hm hm'
    go_enter Try.func12, Try.ntmps12
    go_wp2_with fail
    generalize w.alloc (.cells #[.int .i64 x.f, .int .i64 x.s, .int .i64 x.c, .int .i64 x.o, .int .i64 x.p] 31) = w1 at *
    go_wp2_with (go_at_call 20; refine (hmay _).mono ?_; rintro r w5 ⟨rfl, b5⟩)
    go_ret
    exact (HD _ (b0.trans (b5.mono b0.size))).out
  · have hm' : mayC x.f x.s x.c x.o x.p = true := hm
    rw [hm'] at hmay
    have hin : 0 ≤ x.f ∧ x.f < 4 := by
      unfold mayC inB at hm'
      simp only [Bool.and_eq_true, decide_eq_true_eq] at hm'
      omega
    obtain ⟨a, ha0⟩ := Int.eq_ofNat_of_zero_le hin.1
    have ha : a < 4 := by omega
    have g0 : (0 : Int) ≤ (a : Int) := by omega
    have g1 : (a : Int) < 4 := by omega
    have HA := Lib.hid ha0
    obtain ⟨n0, hn0⟩ : ∃ n0, N a = n0 := ⟨_, rfl⟩
    have hE : addE N l x = if n0 ≤ x.s then 6 else if taken l x = true then 9 else if 64 ≤ l.length then 5 else 0 := by
      unfold addE
      rw [hm, ha0, Int.toNat_natCast, hn0]
      rfl
    have HE := Lib.hid hE
    have HNN := Lib.hid hn0
    obtain ⟨A, c, rfl, hc1, hc2, hR⟩ := t.row.row
    unfold maxLen at hc2
    have hfew := t.good.few
    obtain ⟨m, hmm⟩ : ∃ m, l.length = m := ⟨_, rfl⟩
    have HM := Lib.hid hmm
    have HT := Lib.hid t
    rw [hmm] at hc1 hfew HT t1 ⊢
    clear hm hm' hin hE hR t hmm ha0 hn0
    have hb0 := b0.size
    go_enter Try.func12, Try.ntmps12
    go_wp2_with fail
    generalize w.alloc (.cells #[.int .i64 x.f, .int .i64 x.s, .int .i64 x.c, .int .i64 x.o, .int .i64 x.p] 31) = w1 at *
    obtain ⟨d0, d1, d2, d3, d4⟩ := own_c o0
    have hol := o0.lt
    go_wp2_with (go_at_call 20; refine (hmay _).mono ?_; rintro r w5 ⟨rfl, b5⟩)
    have t5 := t1.below b5
    have o5 := below_own b5 o0 hol
    have bb5 := b0.trans (b5.mono hb0)
    clear d0 d1 d2 d3 d4 hmay t1 o0 b0 b5
    obtain ⟨d0, d1, d2, d3, d4⟩ := own_c o5
    have cN := t5.n ha
    rw [HNN.out] at cN
    rw [HA.out] at d0
    by_cases hs : n0 ≤ x.s
    · have HD := fun w' hb => Lib.hid (add_no (w' := w') (e := 6) HT.out (by rw [HE.out, if_pos hs]) (by decide) hb)
      go_quiet (fail)
      go_wp2_with fail
      go_ret
      exact (HD _ (below_drewN bb5 _)).out
    · have gs : decide (n0 ≤ x.s) = false := by simpa using hs
      cases htk : taken l x
      · have hgo : addE N l x = if 64 ≤ m then 5 else 0 := by rw [HE.out, if_neg hs, htk, HM.out]; rfl
        have HTK := Lib.hid htk
        have HGO := Lib.hid hgo
        clear hs htk hgo
        go_quiet (fail)
        generalize hw6 : w5.drewN _ = w6 at *
        have t6 : Tab w6 base b N l (.slice A m c) := by rw [← hw6]; exact ⟨t5.blk.drewN _, t5.row.drewN _, t5.good, t5.low⟩
        have o6 : Own w6 w.heap.size 31 x.vals := by rw [← hw6]; exact o5.drewN _
        have bb6 : Below w.heap.size w w6 := by rw [← hw6]; exact below_drewN bb5 _
        clear d0 d1 d2 d3 d4 cN t5 o5 bb5 hw6
        obtain ⟨d0, d1, d2, d3, d4⟩ := own_c o6
        have hol6 := o6.lt
        by_cases h64 : 64 ≤ m
        · have g64 : (64 : Int) ≤ (m : Int) := by omega
          have HD := fun w' hb => Lib.hid (add_no (w' := w') (e := 5) HT.out (by rw [HGO.out, if_pos h64]) (by decide) hb)
          have hk4 := fun (w' : World) (hb : Below w6.heap.size w6 w') => keep_cell hb t6.v4
          have HK4 := Lib.hid hk4
          clear hk4
          go_wp2_with (go_at_call 27; refine (tak_any base b N l (.slice A m c) x _ t6).mono ?_; rintro r w7 ⟨rfl, b7⟩; rw [HTK.out]; have k4 := HK4.out _ b7)
          go_ret
          exact (HD _ (bb6.trans (b7.mono bb6.size))).out
        · have g64 : decide ((64 : Int) ≤ (m : Int)) = false := by simp; omega
          have g65 : decide (64 ≤ m) = false := by simp; omega
          have h0 : addE N l x = 0 := by rw [HGO.out, if_neg h64]
          have H0 := Lib.hid h0
          have hk4 := fun (w' : World) (hb : Below w6.heap.size w6 w') => keep_cell hb t6.v4
          have HK4 := Lib.hid hk4
          clear hk4 h0 h64
          go_wp2_with (go_at_call 27; refine (tak_any base b N l (.slice A m c) x _ t6).mono ?_; rintro r w7 ⟨rfl, b7⟩; rw [HTK.out]; have k4 := HK4.out _ b7)
          have t7 := t6.below b7
          have o7 := below_own b7 o6 hol6
          have bb7 := bb6.trans (b7.mono bb6.size)
          clear d0 d1 d2 d3 d4 t6 o6 bb6 b7 k4
          obtain ⟨d0, d1, d2, d3, d4⟩ := own_c o7
          have k4 := t7.v4
          have hol7 := o7.lt
          have hr7 : MineK w7 base 31 5 (.slice A m c) m (lv l) := by have := t7.row; rwa [HM.out] at this
          have hbs := bsf_any A m c l x w7.drew (hr7.drewN 1).rowAt HM.out (by omega) t7.good.srt
          obtain ⟨p, hp⟩ : ∃ p, pos l x = p := ⟨_, rfl⟩
          have HP := Lib.hid hp
          have hple : p ≤ m := by rw [← hp, ← HM.out]; exact pos_le l x
          rw [hp] at hbs
          clear hp
          have s0 : (fun w' : World => w'.cell? ⟨b, 4, none⟩ = some (.slice A m c) ∧ w'.cell? ⟨w.heap.size, 0, none⟩ = some (.int .i64 x.f) ∧ w'.cell? ⟨w.heap.size, 1, none⟩ = some (.int .i64 x.s) ∧ w'.cell? ⟨w.heap.size, 2, none⟩ = some (.int .i64 x.c) ∧ w'.cell? ⟨w.heap.size, 3, none⟩ = some (.int .i64 x.o) ∧ w'.cell? ⟨w.heap.size, 4, none⟩ = some (.int .i64 x.p)) w7.drew := ⟨k4, d0, d1, d2, d3, d4⟩
          go_region_held3 (fun w' : World => w'.cell? ⟨b, 4, none⟩ = some (.slice A m c) ∧ w'.cell? ⟨w.heap.size, 0, none⟩ = some (.int .i64 x.f) ∧ w'.cell? ⟨w.heap.size, 1, none⟩ = some (.int .i64 x.s) ∧ w'.cell? ⟨w.heap.size, 2, none⟩ = some (.int .i64 x.c) ∧ w'.cell? ⟨w.heap.size, 3, none⟩ = some (.int .i64 x.o) ∧ w'.cell? ⟨w.heap.size, 4, none⟩ = some (.int .i64 x.p)) (first | exact s0 | exact s2) ((go_at_call 28; refine hbs.mono ?_; rintro r w8 ⟨rfl, b8⟩; have s2 : (fun w' : World => w'.cell? ⟨b, 4, none⟩ = some (.slice A m c) ∧ w'.cell? ⟨w.heap.size, 0, none⟩ = some (.int .i64 x.f) ∧ w'.cell? ⟨w.heap.size, 1, none⟩ = some (.int .i64 x.s) ∧ w'.cell? ⟨w.heap.size, 2, none⟩ = some (.int .i64 x.c) ∧ w'.cell? ⟨w.heap.size, 3, none⟩ = some (.int .i64 x.o) ∧ w'.cell? ⟨w.heap.size, 4, none⟩ = some (.int .i64 x.p)) w8 := ⟨keep_cell (W := w7.drew) b8 k4, keep_cell (W := w7.drew) b8 d0, keep_cell (W := w7.drew) b8 d1, keep_cell (W := w7.drew) b8 d2, keep_cell (W := w7.drew) b8 d3, keep_cell (W := w7.drew) b8 d4⟩))
          go_wp2_with fail
          have b8' : Below w7.heap.size w7 w8 := (below_drewN (Below.refl w7.heap.size w7) 1).trans b8
          have t8 := t7.below b8'
          have o8 := below_own b8' o7 hol7
          have bb8 := bb7.trans (b8'.mono bb7.size)
          have hr8 : MineK w8 base 31 5 (.slice A m c) m (lv l) := by have := t8.row; rwa [HM.out] at this
          clear d0 d1 d2 d3 d4 k4 s0 hbs t7 o7 bb7 b8 b8' hr7 s2
          obtain ⟨d0, d1, d2, d3, d4⟩ := own_c o8
          have k4 := t8.v4
          have f4 : w8.frozen? ⟨b, 4, none⟩ = false := t8.blk.free 4
          have hbase : base ≤ w8.heap.size := by have := t8.blk.lt; have := t8.low; omega
          have hins := ins_any base m p w8.heap.size (.slice A m c) (lv l) (lv [x]) x.vals (w8.alloc (.cells #[.int .i64 x.f, .int .i64 x.s, .int .i64 x.c, .int .i64 x.o, .int .i64 x.p] 31)).drew ((hr8.alloc _).drewN 1) hple (by omega) (by simp; exact Nat.le_succ_of_le hbase) ((Own.new w8 31 _).drewN 1) rfl (fun q hq => by
            rcases (show q = 0 ∨ q = 1 ∨ q = 2 ∨ q = 3 ∨ q = 4 by omega) with rfl | rfl | rfl | rfl | rfl <;> rfl) (lv_one _) (lv_one _) (fun e => by have := (t8.own _ e).2; omega)
          have kA : (w8.alloc (.cells #[.int .i64 x.f, .int .i64 x.s, .int .i64 x.c, .int .i64 x.o, .int .i64 x.p] 31)).cell? ⟨b, 4, none⟩ = some (.slice A m c) := (t8.blk.alloc _).cell (show 4 < 5 by omega)
          have oA : Blk (w8.alloc (.cells #[.int .i64 x.f, .int .i64 x.s, .int .i64 x.c, .int .i64 x.o, .int .i64 x.p] 31)).drew b 51 5 (tv N (.slice A m c)) := (t8.blk.alloc _).drewN 1
          have hneA := t8.ne
          have bA : Below w.heap.size w (w8.alloc (.cells #[.int .i64 x.f, .int .i64 x.s, .int .i64 x.c, .int .i64 x.o, .int .i64 x.p] 31)).drew := below_drewN (bb8.alloc bb8.size _) 1
          have HG := Lib.hid (good_add t8.good x)
          have HLO := Lib.hid t8.low
          go_region_law (go_simp; go_at_call 30; refine hins.mono ?_; rintro r w9 ⟨v9, rfl, m9, g9, q9⟩; obtain ⟨a9, c9, rfl, hc9, hd9, hR9⟩ := m9.row; have o9 : Blk w9 b 51 5 (tv N (.slice A m c)) := grown_own g9 oA hneA; have s3 : w9.cell? ⟨b, 4, none⟩ = some (.slice A m c) := o9.cell (by omega); have f9 : w9.frozen? ⟨b, 4, none⟩ = false := o9.free 4)
          all_goals
            go_wp2_with fail
            go_ret
            have hL : addL N l x = ins l p x := by unfold addL; rw [H0.out, if_pos rfl, HP.out]
            have hlen : (ins l p x).length = m + 1 := by rw [ins_len x (by rw [HM.out]; exact hple), HM.out]
            have hne9 := mine_ne m9 o9
            refine ⟨by rw [H0.out]; rfl, .slice a9 (m + 1) c9, ⟨(o9.put 4 _).ext (fun j hj => tv_row N _ _ j hj), ?_, HG.out, HLO.out⟩, ((Turn.of_below bA b _).trans (Turn.of_grown g9 q9 b)).put 4 _⟩
            rw [hL, hlen]
            refine MineK.kept (m9.ext (fun q _ => lv_ins x (by rw [HM.out]; exact hple) q)) (fun q _ => ?_)
            by_cases e : q = b
            · exact .inr (fun e' => hne9 (e ▸ e'))
            · exact .inl (Below.heap_setCell _ _ _ _ e)
      · have HD := fun w' hb => Lib.hid (add_no (w' := w') (e := 9) HT.out (by rw [HE.out, if_neg hs, htk]; rfl) (by decide) hb)
        have HTK := Lib.hid htk
        clear hs htk
        go_quiet (fail)
        generalize hw6 : w5.drewN _ = w6 at *
        have t6 : Tab w6 base b N l (.slice A m c) := by rw [← hw6]; exact ⟨t5.blk.drewN _, t5.row.drewN _, t5.good, t5.low⟩
        have bb6 : Below w.heap.size w w6 := by rw [← hw6]; exact below_drewN bb5 _
        obtain ⟨d0, d1, d2, d3, d4⟩ := own_c (show Own w6 w.heap.size 31 x.vals by rw [← hw6]; exact o5.drewN _)
        clear cN t5 o5 bb5 hw6
        go_wp2_with (go_at_call 27; refine (tak_any base b N l (.slice A m c) x _ t6).mono ?_; rintro r w7 ⟨rfl, b7⟩; rw [HTK.out])
        go_ret
        exact (HD _ (bb6.trans (b7.mono bb6.size))).out
end Go.Proofs.Ytdknacbdkekfnaa.Ce
