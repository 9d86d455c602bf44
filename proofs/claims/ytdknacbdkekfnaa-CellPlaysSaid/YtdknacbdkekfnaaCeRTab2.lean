/-
  The reference's table: Add, Remove, Active; rows that are alike.
-/
import Derived.Test.YtdknacbdkekfnaaCeRTab
import Derived.Deep.RegionLaw
import Derived.Deep.Cut
import Derived.Deep.CutRange
import Derived.BigRegion
set_option maxRecDepth 100000
namespace Go.Proofs.Ytdknacbdkekfnaa.Ce
set_option linter.unusedVariables false
open Go.RowKit Lb Cl
theorem srtU_take {l : List C} (h : Srt l) : ∀ k, k ≤ l.length → srtU (l.take k) = l.take k
  | 0, _ => by rw [List.take_zero]; rfl
  | k + 1, hk => by
    have hl : (l.take k).length = k := by simp; omega
    have ht : ∀ t, t < k → at_ (l.take k) t = at_ l t := fun t ht => by
      unfold at_
      rw [List.getD_eq_getElem?_getD, List.getD_eq_getElem?_getD, List.getElem?_take, if_pos ht]
    rw [srtU_succ l k (by omega), srtU_take h k (by omega)]
    unfold insU
    have hp : posU (l.take k) (at_ l k) = k := posU_is _ k (by omega) (fun t htk => by rw [ht t htk]; exact cf_asym (h t k htk (by omega))) (fun hi => by omega)
    rw [hp]
    unfold ins
    rw [List.take_of_length_le (by omega), List.drop_of_length_le (by omega), List.take_succ_eq_append_getElem (by omega)]
    unfold at_
    rw [List.getD_eq_getElem?_getD, List.getElem?_eq_getElem (by omega)]
    rfl
theorem srtU_srt {l : List C} (h : Srt l) : srtU l = l := by
  have := srtU_take h l.length (Nat.le_refl _)
  rwa [List.take_length] at this
theorem srtU_snoc {l : List C} (h : Srt l) {x : C} (hne : ∀ t, t < l.length → at_ l t ≠ x) : srtU (l ++ [x]) = ins l (pos l x) x := by
  unfold srtU
  rw [List.foldl_append]
  show insU (srtU l) x = _
  rw [srtU_srt h]
  unfold insU
  congr 1
  refine posU_is l _ (pos_le l x) (fun t ht => cf_asym (pos_lt l t ht)) (fun hi => ?_)
  have h1 := pos_ge l hi
  cases Decidable.em (cf x (at_ l (pos l x)) < 0) with
  | inl h2 => exact h2
  | inr h2 => exact absurd (cf_total h1 h2) (hne _ hi)
theorem asn_any (t : Int) (w : World) : Calls Try.prog 34 #[.int .i64 t] w fun r w' => r = .returned (.bool (decide (0 ≤ t ∧ t < 1099511627776))) ∧ w = w' := by
  by_cases h1 : 0 ≤ t
  · have g1 : decide (0 ≤ t) = true := by simpa using h1
    by_cases h2 : t < 1099511627776
    · have g2 : decide (t < 1099511627776) = true := by simpa using h2
      have HB : Hid (decide (0 ≤ t ∧ t < 1099511627776) = true) := Lib.hid (by simp [h1, h2])
      clear h1 h2
      go_enter Try.func34, Try.ntmps34
      go_wp2_with fail
      go_ret
      exact ⟨by rw [HB.out]; rfl, rfl⟩
    · have g2 : decide (t < 1099511627776) = false := by simpa using h2
      have HB : Hid (decide (0 ≤ t ∧ t < 1099511627776) = false) := Lib.hid (by simp; omega)
      clear h1 h2
      go_enter Try.func34, Try.ntmps34
      go_wp2_with fail
      go_ret
      exact ⟨by rw [HB.out]; rfl, rfl⟩
  · have g1 : decide (0 ≤ t) = false := by simpa using h1
    have HB : Hid (decide (0 ≤ t ∧ t < 1099511627776) = false) := Lib.hid (by simp; omega)
    clear h1
    go_enter Try.func34, Try.ntmps34
    go_wp2_with fail
    go_ret
    exact ⟨by rw [HB.out]; rfl, rfl⟩
theorem same_cells (a b : Option Addr) (n c d : Nat) (l : List C) (w : World) (hn : n ≤ c) (hm : n ≤ d) (hc : c ≤ maxLen) (hd : d ≤ maxLen) (hX : Row w a (n * 5) (lv l)) (hY : Row w b (n * 5) (lv l)) :
    Calls Try.prog 16 #[.slice a n c, .slice b n d] w fun r w' => r = .returned (.bool true) ∧ ∃ m, w.drewN m = w' := by
  unfold maxLen at hc hd
  go_enter Try.func16, Try.ntmps16
  go_wp2_with fail
  go_loopw [13] (fun i wr => ∃ (k m : Nat), i = .int .i64 k ∧ k ≤ n ∧ w.drewN m = wr) (fun i _ => n - (intOf i).toNat)
  case atStart => exact ⟨0, 0, rfl, by omega, rfl⟩
  case round =>
    obtain ⟨k, m, rfl, hk, rfl⟩ := hrel
    by_cases hlt : k < n
    · obtain ⟨p, o, rfl, _, d0, d1, d2, d3, d4⟩ := row_c5 hX hlt
      obtain ⟨q, s, rfl, _, e0, e1, e2, e3, e4⟩ := row_c5 hY hlt
      have hq := neq_c (at_ l k) (at_ l k)
      have hs : eqC (at_ l k) (at_ l k) = true := (eqC_is _ _).2 rfl
      simp only [hs, Bool.not_true] at hq
      generalize at_ l k = x at *
      clear hs
      go_wp2_with fail
      go_quiet (fail)
      go_wp2_with fail
      exact ⟨⟨k + 1, _, by go_num, by omega, rfl⟩, by simp [intOf]; omega⟩
    · obtain rfl : k = n := by omega
      go_wp2_with fail
      go_ret
      exact ⟨rfl, m, rfl⟩
theorem rt_set {w : World} {base n b : Nat} {v : Value} {V F : Nat → Value} {m : Nat} (h : MineK w base 31 5 v n V) (ho : Blk w b 29 m F) (i : Nat) (u : Value) : MineK (w.setCell ⟨b, i, none⟩ u) base 31 5 v n V :=
  h.kept (fun q _ => by
    by_cases e : q = b
    · refine .inr (fun e' => ?_)
      subst e
      obtain ⟨ds, hd⟩ := mineK_own h e'
      exact absurd (Lb.own_ty hd ho) (by decide)
    · exact .inl (Below.heap_setCell _ _ _ _ e))
def RAddPost (base b : Nat) (N : Nat → Int) (l : List C) (v : Value) (x : C) (w : World) (r : Ending) (w' : World) : Prop :=
  r = .returned (.int .i64 (addE N l x)) ∧ ∃ v', Rtb w' base b N (addL N l x) v' ∧ Turn w w' b v v'
theorem radd_no {base b : Nat} {N : Nat → Int} {l : List C} {v : Value} {x : C} {w w' : World} {e : Int} (t : Rtb w base b N l v) (he : addE N l x = e) (h0 : e ≠ 0) (hb : Below w.heap.size w w') : RAddPost base b N l v x w (.returned (.int .i64 e)) w' := by
  refine ⟨by rw [he], v, ?_, Turn.of_below hb _ _⟩
  unfold addL
  rw [he, if_neg h0]
  exact t.below hb
set_option maxHeartbeats 4000000 in
theorem radd_any (base b : Nat) (N : Nat → Int) (l : List C) (v : Value) (x : C) (w : World) (t : Rtb w base b N l v) :
    Calls Try.prog 13 #[.pointer (some ⟨b, 0, none⟩), .agg #[.int .i64 x.f, .int .i64 x.s, .int .i64 x.c, .int .i64 x.o, .int .i64 x.p]] w (RAddPost base b N l v x w) := by
  have o0 := Own.new w 31 #[.int .i64 x.f, .int .i64 x.s, .int .i64 x.c, .int .i64 x.o, .int .i64 x.p]
  have b0 := (Below.refl w.heap.size w).alloc (Nat.le_refl _) (.cells #[.int .i64 x.f, .int .i64 x.s, .int .i64 x.c, .int .i64 x.o, .int .i64 x.p] 31)
  have HT := Lib.hid t
  have t0 := t.below b0
  clear t
  go_enter Try.func13, Try.ntmps13
  go_upto_region 1 with (fail)
  have hs0 : w.heap.size < (w.alloc (.cells #[.int .i64 x.f, .int .i64 x.s, .int .i64 x.c, .int .i64 x.o, .int .i64 x.p] 31)).heap.size := by simp
  generalize w.alloc (.cells #[.int .i64 x.f, .int .i64 x.s, .int .i64 x.c, .int .i64 x.o, .int .i64 x.p] 31) = w1 at *
  obtain ⟨r0, hr0⟩ : ∃ r, w.heap.size = r := ⟨_, rfl⟩
  have HR0 := Lib.hid hr0
  rw [hr0] at o0 hs0 b0 ⊢
  clear hr0
  have x0 : w1.cell? ⟨r0, 0, none⟩ = some (.int .i64 x.f) := o0.cell 0
  have x1 : w1.cell? ⟨r0, 1, none⟩ = some (.int .i64 x.s) := o0.cell 1
  have x2 : w1.cell? ⟨r0, 2, none⟩ = some (.int .i64 x.c) := o0.cell 2
  have x3 : w1.cell? ⟨r0, 3, none⟩ = some (.int .i64 x.o) := o0.cell 3
  have x4 : w1.cell? ⟨r0, 4, none⟩ = some (.int .i64 x.p) := o0.cell 4
  go_wp2_with fail
  refine (ref_may x.f x.s x.c x.o x.p _).mono ?_
  rintro r w2 ⟨rfl, b2⟩
  have b02 : Below w.heap.size w w2 := by rw [HR0.out]; exact b0.trans (b2.mono (by omega))
  have t2 := t0.below b2
  have o2 := below_own b2 o0 hs0
  clear x0 x1 x2 x3 x4 t0 b0 b2 o0
  obtain ⟨mb, hmb⟩ : ∃ q, mayC x.f x.s x.c x.o x.p = q := ⟨_, rfl⟩
  have HMB : Hid (x.may = mb) := Lib.hid hmb
  rw [hmb]
  have hmb2 := hmb
  clear hmb
  cases mb
  · have hE : addE N l x = 1 := by unfold addE; rw [if_pos HMB.out]
    have HD := Lib.hid (radd_no HT.out hE (by decide) b02)
    clear hE hmb2
    go_wp2_with fail
    go_ret
    exact HD.out
  have hin : 0 ≤ x.f ∧ x.f < 4 ∧ 0 ≤ x.s := by
    unfold mayC inB at hmb2
    simp at hmb2
    omega
  obtain ⟨ff, hff⟩ := Int.eq_ofNat_of_zero_le hin.1
  have hff4 : ff < 4 := by omega
  have hff4' : (ff : Int) < 4 := by omega
  have HFF := Lib.hid hff
  obtain ⟨nn, hnn⟩ : ∃ q, N ff = q := ⟨_, rfl⟩
  have HNN : Hid (N x.f.toNat = nn) := Lib.hid (by rw [hff, Int.toNat_natCast]; exact hnn)
  have cN : w2.cell? ⟨b, ff, none⟩ = some (.int .i64 nn) := by rw [← hnn]; exact t2.n hff4
  have x0 : w2.cell? ⟨r0, 0, none⟩ = some (.int .i64 (ff : Int)) := by rw [← hff]; exact o2.cell 0
  have x1 : w2.cell? ⟨r0, 1, none⟩ = some (.int .i64 x.s) := o2.cell 1
  have hmt : x.may = true := HMB.out
  clear hnn hff hmb2
  by_cases hs : nn ≤ x.s
  · have g0 : decide (nn ≤ x.s) = true := by simpa using hs
    have hE : addE N l x = 6 := by unfold addE; rw [hmt, if_neg (by decide), HNN.out, if_pos hs]
    have HD := Lib.hid (fun w' hb => radd_no (w' := w') HT.out hE (by decide) hb)
    clear hE hs
    go_wp2_with fail
    go_quiet (fail)
    go_wp2_with fail
    go_ret
    exact HD.out _ (below_drewN b02 _)
  have g0 : decide (nn ≤ x.s) = false := by simpa using hs
  have HS : Hid (¬ nn ≤ x.s) := Lib.hid hs
  clear hs
  go_wp2_with fail
  go_quiet (fail)
  go_upto_region 5 with (fail)
  generalize hw3 : w2.drewN _ = w3 at *
  have b3 : Below w.heap.size w w3 := by rw [← hw3]; exact below_drewN b02 _
  have t3 : Rtb w3 base b N l v := t2.below (by rw [← hw3]; exact below_drewN (Below.refl _ _) _)
  have o3 : Own w3 r0 31 #[.int .i64 x.f, .int .i64 x.s, .int .i64 x.c, .int .i64 x.o, .int .i64 x.p] := by rw [← hw3]; exact o2.drewN _
  clear hw3 t2 o2 cN x0 x1 b02 g0
  obtain ⟨A, c, hv, hc1, hc2, hR⟩ := t3.row.row
  subst hv
  have HR := Lib.hid hR
  unfold maxLen at hc2
  have HT3 := Lib.hid t3
  have c4 : w3.cell? ⟨b, 4, none⟩ = some (.slice A l.length c) := t3.v4
  have hfew := t3.good.few
  obtain ⟨m, hm⟩ : ∃ m, l.length = m := ⟨_, rfl⟩
  have HM := Lib.hid hm
  rw [hm] at c4 hc1 hfew HR
  clear hR hm
  have hr3 : r0 < w3.heap.size := o3.lt
  go_wp2_with fail
  go_loopw [25] (fun i wz => ∃ k : Nat, i = .int .i64 k ∧ k ≤ m ∧ Hid (∀ j, j < k → same (at_ l j) x = false) ∧ Below w3.heap.size w3 wz) (fun i _ => m - (intOf i).toNat)
  case atStart => exact ⟨0, rfl, by omega, Lib.hid (fun j hj => by omega), Below.refl _ _⟩
  case round =>
    clear t3 c4
    obtain ⟨k, rfl, hk, HN, b4⟩ := hrel
    have o4 := below_own b4 o3 hr3
    by_cases hlt : k < m
    · obtain ⟨bo, off, rfl, hbo, d0, d1, d2, d3, d4⟩ := row_c5 (HR.out.below b4) hlt
      obtain ⟨y, hy⟩ : ∃ y, at_ l k = y := ⟨_, rfl⟩
      have HY := Lib.hid hy
      rw [hy] at d0 d1 d2 d3 d4
      clear hy
      have ob := Own.new wr 31 #[.int .i64 y.f, .int .i64 y.s, .int .i64 y.c, .int .i64 y.o, .int .i64 y.p]
      have bA := (Below.refl wr.heap.size wr).alloc (Nat.le_refl _) (.cells #[.int .i64 y.f, .int .i64 y.s, .int .i64 y.c, .int .i64 y.o, .int .i64 y.p] 31)
      have b5 := b4.trans (bA.mono b4.size)
      have o5 := below_own bA o4 o4.lt
      go_upto_region 8 with (fail)
      generalize wr.alloc (.cells #[.int .i64 y.f, .int .i64 y.s, .int .i64 y.c, .int .i64 y.o, .int .i64 y.p] 31) = w5 at *
      obtain ⟨g, hg⟩ : ∃ g, wr.heap.size = g := ⟨_, rfl⟩
      rw [hg] at ob ⊢
      clear hg d0 d1 d2 d3 d4 bA o4
      have y0 : w5.cell? ⟨g, 0, none⟩ = some (.int .i64 y.f) := ob.cell 0
      have y1 : w5.cell? ⟨g, 1, none⟩ = some (.int .i64 y.s) := ob.cell 1
      have y2 : w5.cell? ⟨g, 2, none⟩ = some (.int .i64 y.c) := ob.cell 2
      have x0 : w5.cell? ⟨r0, 0, none⟩ = some (.int .i64 x.f) := o5.cell 0
      have x1 : w5.cell? ⟨r0, 1, none⟩ = some (.int .i64 x.s) := o5.cell 1
      have x2 : w5.cell? ⟨r0, 2, none⟩ = some (.int .i64 x.c) := o5.cell 2
      obtain ⟨e1, he1⟩ : ∃ e, (y.f == x.f) = e := ⟨_, rfl⟩
      obtain ⟨e2, he2⟩ : ∃ e, (y.s == x.s) = e := ⟨_, rfl⟩
      obtain ⟨e3, he3⟩ : ∃ e, (y.c == x.c) = e := ⟨_, rfl⟩
      have HSM : Hid (same (at_ l k) x = (e1 && (e2 && e3))) := Lib.hid (by rw [HY.out]; unfold same; rw [he1, he2, he3])
      have hno : (e1 && (e2 && e3)) = false → Hid (∀ j, j < k + 1 → same (at_ l j) x = false) := fun he => Lib.hid (fun j hj => by
        by_cases e : j = k
        · subst e; rw [HSM.out]; exact he
        · exact HN.out j (by omega))
      have hyes : (e1 && (e2 && e3)) = true → Hid (∀ w', Below w.heap.size w w' → RAddPost base b N l (.slice (some ⟨bo, off, none⟩) l.length c) x w (.returned (.int .i64 9)) w') := fun he => Lib.hid (fun w' hb => by
        have htk : taken l x = true := by
          unfold taken
          rw [List.any_eq_true]
          exact ⟨at_ l k, at_mem (by rw [HM.out]; exact hlt), by rw [HSM.out]; exact he⟩
        refine radd_no HT.out ?_ (by decide) hb
        unfold addE
        rw [hmt, if_neg (by decide), HNN.out, if_neg (by have := HS.out; omega), if_pos htk])
      cases e1
      · have HN2 := hno rfl
        clear hno hyes he2 he3
        go_wp2_with fail
        exact ⟨⟨k + 1, by simp, by omega, HN2, b5⟩, by simp [intOf]; omega⟩
      cases e2
      · have HN2 := hno rfl
        clear hno hyes he3
        go_wp2_with fail
        exact ⟨⟨k + 1, by simp, by omega, HN2, b5⟩, by simp [intOf]; omega⟩
      cases e3
      · have HN2 := hno rfl
        clear hno hyes
        go_wp2_with fail
        exact ⟨⟨k + 1, by simp, by omega, HN2, b5⟩, by simp [intOf]; omega⟩
      · have HD := hyes rfl
        clear hno hyes
        go_wp2_with fail
        go_ret
        exact HD.out _ (b3.trans (b5.mono b3.size))
    · have HTK : Hid (taken l x = false) := Lib.hid (by
        unfold taken
        rw [List.any_eq_false]
        intro y hy
        obtain ⟨j, hj, rfl⟩ := mem_at hy
        rw [HN.out j (by rw [HM.out] at hj; omega)]
        decide)
      have b14 := b3.trans (b4.mono b3.size)
      have t4 := HT3.out.below b4
      have c4 : wr.cell? ⟨b, 4, none⟩ = some (.slice A m c) := by have := t4.v4; rw [HM.out] at this; exact this
      by_cases hful : 64 ≤ m
      · have g1 : decide ((64 : Int) ≤ (m : Int)) = true := by simp; omega
        have hE : addE N l x = 5 := by
          unfold addE
          rw [hmt, if_neg (by decide), HNN.out, if_neg (by have := HS.out; omega), HTK.out, if_neg (by decide), if_pos (by rw [HM.out]; exact hful)]
        have HD := Lib.hid (fun w' hb => radd_no (w' := w') HT.out hE (by decide) hb)
        clear hE
        go_wp2_with fail
        go_ret
        exact HD.out _ b14
      have g1 : decide ((64 : Int) ≤ (m : Int)) = false := by simp; omega
      have hE : Hid (addE N l x = 0) := Lib.hid (by
        unfold addE
        rw [hmt, if_neg (by decide), HNN.out, if_neg (by have := HS.out; omega), HTK.out, if_neg (by decide), if_neg (by rw [HM.out]; exact hful)])
      have o4 := below_own b4 o3 hr3
      have x0 : wr.cell? ⟨r0, 0, none⟩ = some (.int .i64 x.f) := o4.cell 0
      have x1 : wr.cell? ⟨r0, 1, none⟩ = some (.int .i64 x.s) := o4.cell 1
      have x2 : wr.cell? ⟨r0, 2, none⟩ = some (.int .i64 x.c) := o4.cell 2
      have x3 : wr.cell? ⟨r0, 3, none⟩ = some (.int .i64 x.o) := o4.cell 3
      have x4 : wr.cell? ⟨r0, 4, none⟩ = some (.int .i64 x.p) := o4.cell 4
      obtain ⟨i0, hi0, hz0, hz1, hz2⟩ := info_parts infoC
      have s1 : wr.drew.cell? ⟨b, 4, none⟩ = some (.slice A m c) := c4
      have s2 : (wr.drew.alloc (.cells #[.int .i64 x.f, .int .i64 x.s, .int .i64 x.c, .int .i64 x.o, .int .i64 x.p] 31)).cell? ⟨b, 4, none⟩ = some (.slice A m c) := (((below_drewN (Below.refl wr.heap.size wr) 1).alloc (Nat.le_refl _) _).cell (p := ⟨b, 4, none⟩) t4.blk.lt).trans c4
      have hbw : base ≤ wr.heap.size := by have := t4.low; have := t4.blk.lt; omega
      have hbl4 := t4.blk.lt
      have hne4 := t4.ne
      have hrow4 := t4.row
      have hblk4 := t4.blk
      rw [HM.out] at hne4 hrow4 hblk4
      have hS := Lib.hid (srtU_snoc (l := l) (x := x) t4.good.srt (taken_no HTK.out))
      have HG := Lib.hid (good_add t4.good x)
      have hll : (l ++ [x]).length = m + 1 := by rw [List.length_append, HM.out]; rfl
      clear t4
      go_wp2_with fail
      go_region_law (first
        | (refine step_appK (w := wr.drew.alloc (.cells #[.int .i64 x.f, .int .i64 x.s, .int .i64 x.c, .int .i64 x.o, .int .i64 x.p] 31)) rfl (.tmp 59) (.tmp 61) 27 rfl base 31 i0 _ 5 40 Try.underlying27 hi0 hz0 hz1 hz2 rfl (by decide) (.slice A m c) m (lv l) (by rfl) ((hrow4.drewN 1).alloc _) _ 1 _ (lv [x]) (by rfl) (lv_one_row wr.drew x) (fun i _ => lv_one _ i) (by unfold maxLen; omega) (by omega) (by simp; omega) ?_; intro v6 w6 m6 g6 l6; have k6 : Blk w6 b 29 5 (tv N (.slice A m c)) := grown_own g6 (Blk.alloc (hblk4.drewN 1) _) (fun e => hne4 e); have M6 : MineK w6 base 31 5 v6 (m + 1) (lv (l ++ [x])) := m6.ext (fun q hq => by rw [← HM.out] at hq ⊢; exact (lv_snoc l x q).resolve_right (by omega)); obtain ⟨a6, c6, hv6, hc6, hd6, hR6⟩ := M6.row; subst hv6)
        | (go_simp; go_at_call 31; refine (sorted_any a6 (m + 1) c6 (l ++ [x]) w6 hR6 hll (by omega)).mono ?_; rintro q w7 ⟨v7, rfl, m7, b7⟩; have k7 : Blk w7 b 29 5 (tv N (.slice A m c)) := below_blk b7 k6 k6.lt; have y4 : w7.cell? ⟨b, 4, none⟩ = some (.slice A m c) := k7.cell (i := 4) (by decide); have f4 : w7.frozen? ⟨b, 4, none⟩ = false := k7.free 4; obtain ⟨a7, c7, hv7, _, _, _⟩ := m7.row; subst hv7)
        | fail)
      all_goals
        go_wp2_with fail
        go_ret
        have hbw6 : wr.heap.size ≤ w6.heap.size := by have := g6.size; simp at this; omega
        have hins : ins l (pos l x) x = addL N l x := by unfold addL; rw [if_pos hE.out]
        have m8 : MineK w7 base 31 5 (.slice a7 (m + 1) c7) (addL N l x).length (lv (addL N l x)) := by
          have h1 := mk_low m7 (show base ≤ w6.heap.size by omega)
          rw [hS.out, hins] at h1
          have h2 : (addL N l x).length = m + 1 := by rw [← hins, ins_len x (pos_le l x), HM.out]
          rw [h2]
          exact h1
        have T1 : Turn wr w6 b (.slice A m c) (.slice a6 (m + 1) c6) := ⟨g6.os, g6.tape, g6.output, hbw6, fun q h1 h2 h3 => (g6.block q (by simp; omega) (fun e => h3 e.symm)).trans (((below_drewN (Below.refl wr.heap.size wr) 1).alloc (Nat.le_refl _) _).block q h1), fun q e => by
          rcases l6 with l6 | l6
          · exact .inl (l6 ▸ e)
          · rw [l6] at e; injection e with e; simp at e; exact .inr (by omega)⟩
        have T2 : Turn w6 w7 b (.slice a6 (m + 1) c6) (.slice a7 (m + 1) c7) := ⟨b7.os, b7.tape, b7.output, b7.size, fun q h1 _ _ => b7.block q h1, fun q e => .inr (m7.lt q e).1⟩
        have T0 : Turn w wr b (.slice A m c) (.slice A m c) := Turn.of_below b14 _ _
        have TT := ((T0.trans T1).trans T2).put 4 (.slice a7 (m + 1) c7)
        refine ⟨by rw [hE.out]; rfl, .slice a7 (m + 1) c7, ⟨(k7.put 4 _).ext (fun j hj => tv_row N _ _ j hj), rt_set m8 k7 4 _, HG.out, HT.out.low⟩, ?_⟩
        rw [HM.out]
        exact ⟨TT.os, TT.tape, TT.output, TT.size, TT.keep, TT.own⟩
def RRemPost (base b : Nat) (N : Nat → Int) (l : List C) (v : Value) (x : C) (w : World) (r : Ending) (w' : World) : Prop :=
  r = .returned (.int .i64 (remE l x)) ∧ ∃ v', Rtb w' base b N (remL l x) v' ∧ Turn w w' b v v'
theorem rem_at {l : List C} (h : Srt l) {k : Nat} (hk : k < l.length) : pos l (at_ l k) = k :=
  pos_is l k (by omega) (fun t ht => h t k ht hk) (fun _ h2 => by have := cf_asym h2; exact this h2)
theorem remE_yes {l : List C} (h : Srt l) {k : Nat} (hk : k < l.length) : remE l (at_ l k) = 0 ∧ remL l (at_ l k) = l.eraseIdx k := by
  have hp := rem_at h hk
  have e : remE l (at_ l k) = 0 := by
    unfold remE
    rw [hp, if_pos ⟨hk, (cf_eq _ _).2 rfl⟩]
  refine ⟨e, ?_⟩
  unfold remL
  rw [e, if_pos rfl, hp]
theorem remE_no {l : List C} {x : C} (h : ∀ t, t < l.length → at_ l t ≠ x) : remE l x = 6 ∧ remL l x = l := by
  have e : remE l x = 6 := by
    unfold remE
    rw [if_neg]
    rintro ⟨h1, h2⟩
    exact h _ h1 ((cf_eq _ _).1 h2)
  refine ⟨e, ?_⟩
  unfold remL
  rw [e, if_neg (by decide)]
set_option maxHeartbeats 4000000 in
theorem rrem_any (base b : Nat) (N : Nat → Int) (l : List C) (v : Value) (x : C) (w : World) (t : Rtb w base b N l v) :
    Calls Try.prog 15 #[.pointer (some ⟨b, 0, none⟩), .agg #[.int .i64 x.f, .int .i64 x.s, .int .i64 x.c, .int .i64 x.o, .int .i64 x.p]] w (RRemPost base b N l v x w) := by
  have o0 := Own.new w 31 #[.int .i64 x.f, .int .i64 x.s, .int .i64 x.c, .int .i64 x.o, .int .i64 x.p]
  have b0 := (Below.refl w.heap.size w).alloc (Nat.le_refl _) (.cells #[.int .i64 x.f, .int .i64 x.s, .int .i64 x.c, .int .i64 x.o, .int .i64 x.p] 31)
  have hsrt := Lib.hid t.good.srt
  have t3 := t.below b0
  have hlow := t.low
  have hbw : b < w.heap.size := t.blk.lt
  clear t
  obtain ⟨A, c, hv, hc1, hc2, hR⟩ := t3.row.row
  subst hv
  go_enter Try.func15, Try.ntmps15
  go_upto_region 1 with (fail)
  have hs0 : w.heap.size < (w.alloc (.cells #[.int .i64 x.f, .int .i64 x.s, .int .i64 x.c, .int .i64 x.o, .int .i64 x.p] 31)).heap.size := by simp
  generalize w.alloc (.cells #[.int .i64 x.f, .int .i64 x.s, .int .i64 x.c, .int .i64 x.o, .int .i64 x.p] 31) = w3 at *
  obtain ⟨r0, hr0⟩ : ∃ r, w.heap.size = r := ⟨_, rfl⟩
  have HR0 := Lib.hid hr0
  rw [hr0] at o0 hs0 hbw ⊢
  clear hr0
  have HR := Lib.hid hR
  unfold maxLen at hc2
  have HT3 := Lib.hid t3
  have c4 : w3.cell? ⟨b, 4, none⟩ = some (.slice A l.length c) := t3.v4
  have hfew := t3.good.few
  obtain ⟨m, hm⟩ : ∃ m, l.length = m := ⟨_, rfl⟩
  have HM := Lib.hid hm
  rw [hm] at c4 hc1 hfew HR
  clear hR hm t3
  go_wp2_with fail
  go_loopw [12] (fun i wz => ∃ k : Nat, i = .int .i64 k ∧ k ≤ m ∧ Hid (∀ j, j < k → at_ l j ≠ x) ∧ Below w3.heap.size w3 wz) (fun i _ => m - (intOf i).toNat)
  case atStart => exact ⟨0, rfl, by omega, Lib.hid (fun j hj => by omega), Below.refl _ _⟩
  case round =>
    clear c4
    obtain ⟨k, rfl, hk, HN, b4⟩ := hrel
    have o4 := below_own b4 o0 hs0
    by_cases hlt : k < m
    · obtain ⟨bo, off, rfl, hbo, d0, d1, d2, d3, d4⟩ := row_c5 (HR.out.below b4) hlt
      obtain ⟨y, hy⟩ : ∃ y, at_ l k = y := ⟨_, rfl⟩
      have HY := Lib.hid hy
      rw [hy] at d0 d1 d2 d3 d4
      clear hy
      have ob := Own.new wr 31 #[.int .i64 y.f, .int .i64 y.s, .int .i64 y.c, .int .i64 y.o, .int .i64 y.p]
      have bA := (Below.refl wr.heap.size wr).alloc (Nat.le_refl _) (.cells #[.int .i64 y.f, .int .i64 y.s, .int .i64 y.c, .int .i64 y.o, .int .i64 y.p] 31)
      have b5 := b4.trans (bA.mono b4.size)
      have o5 := below_own bA o4 o4.lt
      go_upto_region 4 with (fail)
      generalize wr.alloc (.cells #[.int .i64 y.f, .int .i64 y.s, .int .i64 y.c, .int .i64 y.o, .int .i64 y.p] 31) = w5 at *
      obtain ⟨g, hg⟩ : ∃ g, wr.heap.size = g := ⟨_, rfl⟩
      rw [hg] at ob ⊢
      clear hg d0 d1 d2 d3 d4 bA o4
      have y0 : w5.cell? ⟨g, 0, none⟩ = some (.int .i64 y.f) := ob.cell 0
      have y1 : w5.cell? ⟨g, 1, none⟩ = some (.int .i64 y.s) := ob.cell 1
      have y2 : w5.cell? ⟨g, 2, none⟩ = some (.int .i64 y.c) := ob.cell 2
      have y3 : w5.cell? ⟨g, 3, none⟩ = some (.int .i64 y.o) := ob.cell 3
      have y4 : w5.cell? ⟨g, 4, none⟩ = some (.int .i64 y.p) := ob.cell 4
      have x0 : w5.cell? ⟨r0, 0, none⟩ = some (.int .i64 x.f) := o5.cell 0
      have x1 : w5.cell? ⟨r0, 1, none⟩ = some (.int .i64 x.s) := o5.cell 1
      have x2 : w5.cell? ⟨r0, 2, none⟩ = some (.int .i64 x.c) := o5.cell 2
      have x3 : w5.cell? ⟨r0, 3, none⟩ = some (.int .i64 x.o) := o5.cell 3
      have x4 : w5.cell? ⟨r0, 4, none⟩ = some (.int .i64 x.p) := o5.cell 4
      have hq := eql_c y x
      obtain ⟨e, he⟩ : ∃ e, eqC y x = e := ⟨_, rfl⟩
      simp only [he] at hq
      have HE := Lib.hid he
      clear he
      cases e
      · have HN2 : Hid (∀ j, j < k + 1 → at_ l j ≠ x) := Lib.hid (fun j hj => by
          by_cases e : j = k
          · subst e; rw [HY.out]; intro e2; have := (eqC_is y x).2 e2; rw [HE.out] at this; cases this
          · exact HN.out j (by omega))
        clear y0
        have y0 : w5.cell? ⟨g, 0, none⟩ = some (.int .i64 y.f) := ob.cell 0
        go_wp2_with fail
        exact ⟨⟨k + 1, by simp, by omega, HN2, b5⟩, by simp [intOf]; omega⟩
      · have hyx : y = x := (eqC_is y x).1 HE.out
        obtain ⟨hre, hrl⟩ := remE_yes hsrt.out (k := k) (by rw [HM.out]; exact hlt)
        rw [HY.out, hyx] at hre hrl
        have HRE := Lib.hid hre
        have HRL := Lib.hid hrl
        clear hre hrl hyx
        have t5 := HT3.out.below b5
        have c4 : w5.cell? ⟨b, 4, none⟩ = some (.slice (some ⟨bo, off, none⟩) m c) := by have := t5.v4; rw [HM.out] at this; exact this
        have hblk5 := t5.blk
        have hne5 := t5.ne
        have hG5 := Lib.hid (good_rem t5.good x)
        rw [HM.out] at hblk5 hne5
        go_upto_region 5 with (fail)
        clear y0 y1 y2 y3 y4 x0 x1 x2 x3 x4 hq
        obtain ⟨i0, hi0, hz0, hz1, hz2⟩ := info_parts infoC
        have q1 : ∀ wq : World, (Instr.slice 27 (.slice (some ⟨bo, off, none⟩) m c) none (some (.int .i64 (k : Int))) none).run Try.prog wq = .ok (.slice (some ⟨bo, off, none⟩) k c) wq := cut_to 27 31 5 Try.underlying27 size_c _ m c k (by omega)
        have q2 : ∀ wq : World, (Instr.slice 27 (.slice (some ⟨bo, off, none⟩) m c) (some (.int .i64 ((k : Int) + 1))) none none).run Try.prog wq = .ok (.slice (cutA (some ⟨bo, off, none⟩) c (k + 1) 5) (m - (k + 1)) (c - (k + 1))) wq := fun wq => cut_from 27 31 5 Try.underlying27 size_c _ m c (k + 1) hlt wq
        have hR5 := HR.out.below b5
        have HRs : Hid (Row w5 (cutA (some ⟨bo, off, none⟩) c (k + 1) 5) ((m - (k + 1)) * 5) (lv (l.drop (k + 1)))) := Lib.hid (row_extC (cut_row hR5 hc1) (fun i _ => lv_drop l (k + 1) i))
        have HRp : Hid (Row w5 (some ⟨bo, off, none⟩) (k * 5) (lv l)) := Lib.hid (hR5.cut (Nat.mul_le_mul_right 5 (by omega)))
        have hwr : IntKind.i64.wrap ((k : Int) + 1) = (k : Int) + 1 := IntWalk.i64_in _ (by omega)
        obtain ⟨A2, hA2⟩ : ∃ A2, cutA (some ⟨bo, off, none⟩) c (k + 1) 5 = A2 := ⟨_, rfl⟩
        rw [hA2] at q2 HRs
        have s1 : w5.drew.cell? ⟨b, 4, none⟩ = some (.slice (some ⟨bo, off, none⟩) m c) := c4
        have hb5 := hblk5.lt
        have hbw5 : base ≤ w5.heap.size := by omega
        clear hA2 hR5 t5
        go_region_law (first
          | (refine step_appK (w := w5.drew) rfl (.const (.slice none 0 0)) (.tmp 26) 27 rfl w5.heap.size 31 i0 _ 5 40 Try.underlying27 hi0 hz0 hz1 hz2 rfl (by decide) (.slice none 0 0) 0 (lv []) (by rfl) (MineK.nil _ _ _ _ _) _ k c (lv l) (by rfl) HRp.out (fun i _ => lv_one _ i) (by unfold maxLen; omega) (by omega) (Nat.le_refl _) ?_; intro v6 w6 m6 g6 l6; have j6 : Below w5.heap.size w5 w6 := (below_drewN (Below.refl _ _) 1).grown g6 (Nat.le_refl _) (fun q e => by cases e); have s6 : w6.cell? ⟨b, 4, none⟩ = some (.slice (some ⟨bo, off, none⟩) m c) := (below_blk j6 hblk5 hb5).cell (i := 4) (by decide))
          | (refine step_appK (w := w6) rfl (.tmp 27) (.tmp 34) 27 rfl w5.heap.size 31 i0 _ 5 40 Try.underlying27 hi0 hz0 hz1 hz2 rfl (by decide) v6 (0 + k) _ (by rfl) m6 A2 (m - (k + 1)) (c - (k + 1)) (lv (l.drop (k + 1))) (by rfl) (HRs.out.below j6) (fun q _ => lv_one _ _) (by unfold maxLen; omega) (by omega) j6.size ?_; intro v8 w8 m8 g8 l8; have j8 : Below w5.heap.size w5 w8 := j6.grown g8 j6.size (fun q e => (m6.lt q e).1); have s8 : w8.cell? ⟨b, 4, none⟩ = some (.slice (some ⟨bo, off, none⟩) m c) := (below_blk j8 hblk5 hb5).cell (i := 4) (by decide); have f8 : w8.frozen? ⟨b, 4, none⟩ = false := (below_blk j8 hblk5 hb5).free 4; have M8 := Lib.hid m8; obtain ⟨a8, c8, hv8, _, _, _⟩ := m8.row; subst hv8)
          | fail)
        all_goals
          go_wp2_with fail
          go_ret
          have hle : k + (m - (k + 1)) = (l.eraseIdx k).length := by rw [List.length_eraseIdx, if_pos (by rw [HM.out]; exact hlt), HM.out]; omega
          have e8 : 0 + k + (m - (k + 1)) = (l.eraseIdx k).length := by omega
          have h8 := M8.out
          rw [e8] at h8
          rw [hle]
          have k8 := below_blk j8 hblk5 hb5
          have h9 : MineK w8 w5.heap.size 31 5 (.slice a8 (l.eraseIdx k).length c8) (l.eraseIdx k).length (lv (l.eraseIdx k)) := h8.ext (fun q _ => by
            rw [← lv_erase]
            by_cases h1 : q < k * 5
            · rw [if_pos (by omega), if_neg (by omega), if_pos h1, show q - 0 * 5 = q by omega]
            · rw [if_neg (by omega), if_neg h1, ← lv_drop]
              congr 1
              omega)
          have hj := (Turn.of_below (j8.mono (by have := b5.size; have := b0.size; omega) : Below w5.heap.size w5 w8) b (.slice (some ⟨bo, off, none⟩) m c)).put 4 (.slice a8 (l.eraseIdx k).length c8)
          have hj0 := Turn.of_below (b0.trans (b5.mono b0.size)) b (.slice (some ⟨bo, off, none⟩) m c)
          have TT := hj0.trans (⟨hj.os, hj.tape, hj.output, hj.size, hj.keep, fun q e => .inr (h9.lt q e).1⟩ : Turn w5 (w8.setCell ⟨b, 4, none⟩ (.slice a8 (l.eraseIdx k).length c8)) b (.slice (some ⟨bo, off, none⟩) m c) (.slice a8 (l.eraseIdx k).length c8))
          refine ⟨by rw [HRE.out]; rfl, .slice a8 (l.eraseIdx k).length c8, ⟨(k8.put 4 _).ext (fun j hj => tv_row N _ _ j hj), ?_, hG5.out, hlow⟩, ?_⟩
          · rw [HRL.out]
            exact rt_set (mk_low h9 hbw5) k8 4 _
          · rw [HM.out]
            exact ⟨TT.os, TT.tape, TT.output, TT.size, TT.keep, TT.own⟩
    · obtain ⟨hre, hrl⟩ := remE_no (l := l) (x := x) (fun j hj => HN.out j (by rw [HM.out] at hj; omega))
      have HRE := Lib.hid hre
      have HRL := Lib.hid hrl
      clear hre hrl
      go_wp2_with fail
      go_ret
      refine ⟨by rw [HRE.out]; rfl, _, by rw [HRL.out]; exact HT3.out.below b4, Turn.of_below (b0.trans (b4.mono b0.size)) _ _⟩
end Go.Proofs.Ytdknacbdkekfnaa.Ce
