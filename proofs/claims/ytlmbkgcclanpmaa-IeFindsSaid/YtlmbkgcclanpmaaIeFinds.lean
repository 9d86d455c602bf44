/-
  Law IeFinds: the first of a kind is found, whatever stands behind it; of no such kind nothing; the call returns true. No condition.
-/
import Derived.Test.YtlmbkgcclanpmaaIeLaw
import Derived.Test.YtlmbkgcclanpmaaIeFind
import Derived.Test.YtlmbkgcclanpmaaOwnK
set_option maxRecDepth 100000
namespace Go.Proofs.Ytlmbkgcclanpmaa.IeFinds
set_option linter.unusedVariables false
open Go.RowKit Go.ChangeShapes Go.WideShapes Go.ChangeAt Go.Deep Lb Bf Ie
set_option linter.unusedVariables false
theorem own : ownKnob Try.prog.godebug = none := by kernel_rfl
theorem laidOut : laidOutB Try.prog = true := by kernel_rfl
/-- The next world is one of them, too. -/
theorem ext_next {v w' : World} (x : Ext v) (h : Below x.toW.heap.size x.toW w') : ∃ y : Ext v, w' = y.toW := ⟨⟨w', x.ok.trans (h.mono x.ok.size)⟩, rfl⟩
theorem ext_own {v : World} {b : Nat} {t : TypeId} {cs : Array Value} (x : Ext v) (h : Lb.Own v b t cs) : Lb.Own x.toW b t cs := below_own x.ok h h.lt
theorem info22 : (Try.prog.info? 27).map (fun i => (i.zero, i.size, i.bytes)) = some (some (.agg #[.int .i64 0, .int .i64 0, .int .i64 0, .int .i64 0, .slice none 0 0]), 5, 56) := by kernel_rfl
theorem ev_one (L : List EP) (q : Nat) : (ev L q).oneCell' = true := by
  have hm : q % 5 = 0 ∨ q % 5 = 1 ∨ q % 5 = 2 ∨ q % 5 = 3 ∨ q % 5 = 4 := by omega
  rcases hm with hm | hm | hm | hm | hm
  · rw [show q = q / 5 * 5 by omega, ev0]; rfl
  · rw [show q = q / 5 * 5 + 1 by omega, ev1]; rfl
  · rw [show q = q / 5 * 5 + 2 by omega, ev2]; rfl
  · rw [show q = q / 5 * 5 + 3 by omega, ev3]; rfl
  · rw [show q = q / 5 * 5 + 4 by omega, ev4]; rfl
theorem ev_app (L M : List EP) (q : Nat) : (if q < L.length * 5 then ev L q else ev M (q - L.length * 5)) = ev (L ++ M) q := by
  unfold ev
  by_cases h : q < L.length * 5
  · rw [if_pos h]
    have : q / 5 < L.length := by omega
    rw [List.getD_eq_getElem?_getD, List.getD_eq_getElem?_getD, List.getElem?_append_left this]
  · rw [if_neg h]
    have h1 : (q - L.length * 5) / 5 = q / 5 - L.length := by omega
    have h2 : (q - L.length * 5) % 5 = q % 5 := by omega
    rw [h1, h2, List.getD_eq_getElem?_getD, List.getD_eq_getElem?_getD, List.getElem?_append_right (by omega)]
theorem fst_app {L M : List El} {kind : Int} {e : El} (h : fstE L kind = some e) : fstE (L ++ M) kind = some e := by
  unfold fstE at *
  rw [List.find?_append, h]
  rfl
theorem els_app (L M : List EP) : els (L ++ M) = els L ++ els M := by simp [els]
theorem els_take (L : List EP) (k : Nat) : els (L.take k) = (els L).take k := by simp [els]
theorem fst_take {L : List EP} {kind : Int} {k : Nat} (hk : k ≤ L.length) (hno : ∀ j, j < k → (L.getD j ep0).e.k ≠ kind) : fstE (els (L.take k)) kind = none := by
  refine fst_no fun j hj => ?_
  rw [List.length_take] at hj
  have := hno j (by omega)
  rwa [List.getD_eq_getElem?_getD, List.getElem?_take_of_lt (by omega), ← List.getD_eq_getElem?_getD]
theorem els_cut {w : World} {L : List EP} {a : Option Addr} {c k : Nat} (h : Els w L a c) (hk : k ≤ L.length) : Els w (L.take k) a c := by
  have hl : (L.take k).length = k := by rw [List.length_take]; omega
  refine ⟨by rw [hl]; exact Nat.le_trans hk h.lc, h.cm, ?_, fun j hj => ?_⟩
  · rw [hl]
    refine row_ext (h.row.cut (Nat.mul_le_mul_right 5 hk)) fun q hq => ?_
    unfold ev
    rw [List.getD_eq_getElem?_getD, List.getD_eq_getElem?_getD, List.getElem?_take_of_lt (by omega)]
  · rw [hl] at hj
    have := h.els j (by omega)
    rwa [List.getD_eq_getElem?_getD, List.getElem?_take_of_lt (by omega), ← List.getD_eq_getElem?_getD]
set_option maxHeartbeats 1000000 in
theorem body (L : List EP) (a : Option Addr) (c : Nat) (kind : Int) (w : World) (h : Els w L a c) :
    Calls Try.prog 5 #[.slice a L.length c, .int .i64 kind] w fun r w' => r = .returned (.bool true) ∧ Below w.heap.size w w' := by
  have hL := light_any L a c w h
  have hHels := Lib.hid h
  obtain ⟨n, hn⟩ : ∃ n, L.length = n := ⟨_, rfl⟩
  have HN := Lib.hid hn
  rw [hn] at hL ⊢
  clear hn h
  go_enter Try.func5, Try.ntmps5
  go_wp2_with fail
  refine hL.mono ?_
  rintro r w1 ⟨x, rfl, hx, b1⟩
  have HX := Lib.hid hx
  clear hx hL
  by_cases hx0 : 0 < x
  · have g1 : decide ((0 : Int) < (x : Int)) = true := by simp; omega
    have g1' : decide (0 < x) = true := by simp; omega
    go_wp2_with fail
    refine (awake_any _).mono ?_
    rintro r w9 ⟨rfl, b9⟩
    go_wp2_with fail
    go_ret
    exact ⟨rfl, b1.trans (b9.mono b1.size)⟩
  have g1 : decide ((0 : Int) < (x : Int)) = false := by simp; omega
  have g1' : decide (0 < x) = false := by simp; omega
  have hlight : lightB L = true := HX.out.1 (by omega)
  unfold lightB at hlight
  rw [decide_eq_true_eq, HN.out] at hlight
  obtain ⟨h20, hli⟩ := hlight
  have HLI : Hid (∀ k, k < n → (L.getD k ep0).e.list.length ≤ 100) := Lib.hid hli
  clear hli
  go_wp2_with fail
  rw [← HN.out]
  refine (find_any L a c kind w1 (hHels.out.below b1) (fun k hk => by rw [HN.out] at hk; have := HLI.out k hk; omega)).mono ?_
  rw [HN.out]
  rintro r w2 ⟨a2, c2, rfl, hat, b2⟩
  have b3 := b1.trans (b2.mono b1.size)
  obtain ⟨fe, hfe⟩ : ∃ f, foundE (els L) kind = f := ⟨_, rfl⟩
  rw [hfe] at hat
  rw [hfe]
  have HFE := Lib.hid hfe
  obtain ⟨ok, hok⟩ : ∃ f, (fstE (els L) kind).isSome = f := ⟨_, rfl⟩
  rw [hok]
  have HOK := Lib.hid hok
  clear b1 b2 hfe hok HX hx0 g1 g1'
  obtain ⟨fk, fa, fr, ft, fl⟩ := fe
  have o5 := Own.new w2 27 #[.int .i64 fk, .int .i64 fa, .int .i64 fr, .int .i64 ft, .slice a2 fl.length c2]
  have bb := (Below.refl w2.heap.size w2).alloc (Nat.le_refl _) (.cells #[.int .i64 fk, .int .i64 fa, .int .i64 fr, .int .i64 ft, .slice a2 fl.length c2] 27)
  have b4 := b3.trans (bb.mono b3.size)
  have hat4 := hat.below bb
  have hgw := b3.size
  unfold El.vals
  simp only
  go_upto_region 4 with (fail)
  generalize w2.alloc (.cells #[.int .i64 fk, .int .i64 fa, .int .i64 fr, .int .i64 ft, .slice a2 fl.length c2] 27) = v4 at *
  obtain ⟨g5, hg5⟩ : ∃ g, w2.heap.size = g := ⟨_, rfl⟩
  rw [hg5] at o5 hgw ⊢
  clear hg5 bb b3 hat
  obtain ⟨z0, hz0⟩ : ∃ x : Ext v4, x.toW = v4 := ⟨⟨v4, Below.refl _ _⟩, rfl⟩
  rw [← hz0]
  clear hz0
  have hnm : n ≤ maxLen := by rw [← HN.out]; exact Nat.le_trans hHels.out.lc hHels.out.cm
  unfold maxLen at hnm
  have hrow := hHels.out.row
  rw [HN.out] at hrow
  go_wp2_with fail
  go_loopw [25] (fun i wr => ∃ (k : Nat) (y : Ext v4), i = .int .i64 k ∧ k ≤ n ∧ Hid (∀ j, j < k → (L.getD j ep0).e.k ≠ kind) ∧ y.toW = wr) (fun i _ => n - (intOf i).toNat)
  case atStart => exact ⟨0, z0, rfl, by omega, Lib.hid (fun j hj => by omega), rfl⟩
  case round =>
    clear z0
    obtain ⟨k, y, rfl, hk, HE, rfl⟩ := hrel
    have b5 := b4.trans (y.ok.mono b4.size)
    by_cases hlt : k < n
    · obtain ⟨x, hx⟩ : ∃ x, L.getD k ep0 = x := ⟨_, rfl⟩
      obtain ⟨pb, po, rfl, hpb, x0, x1, x2, x3, x4⟩ := erow hrow b5 hlt hx
      have hatx := hHels.out.els k (by rw [HN.out]; exact hlt)
      rw [hx] at hatx
      have hm := HLI.out k hlt
      rw [hx] at hm
      have HX := Lib.hid hx
      clear hx
      obtain ⟨⟨ek, easn, erank, et, el⟩, ea, ec⟩ := x
      simp only at x0 x1 x2 x3 x4 hatx hm
      have o2 := Own.new y.toW 27 #[.int .i64 ek, .int .i64 easn, .int .i64 erank, .int .i64 et, .slice ea el.length ec]
      have b2 := (Below.refl y.toW.heap.size y.toW).alloc (Nat.le_refl _) (.cells #[.int .i64 ek, .int .i64 easn, .int .i64 erank, .int .i64 et, .slice ea el.length ec] 27)
      obtain ⟨y2, hy2⟩ := ext_next y b2
      go_upto_region 7 with (fail)
      rw [hy2] at o2
      clear hy2 x0 x1 x2 x3 x4
      obtain ⟨g8, hg8⟩ : ∃ g, y.toW.heap.size = g := ⟨_, rfl⟩
      rw [hg8] at o2 ⊢
      clear hg8 b2 b5
      have x0 : y2.toW.cell? ⟨g8, 0, none⟩ = some (.int .i64 ek) := o2.cell 0
      by_cases hkk : ek = kind
      · have g1 : (ek == kind) = true := by simpa using hkk
        have HF : Hid (fstE (els L) kind = some ⟨ek, easn, erank, et, el⟩) := Lib.hid (by
          have := fst_yes (L := L) (kind := kind) (k := k) (by rw [HN.out]; exact hlt) (by rw [HX.out]; exact hkk) HE.out
          rw [HX.out] at this
          exact this)
        clear hkk
        have hkc : k ≤ c := Nat.le_trans (Nat.le_of_lt hlt) (by rw [← HN.out]; exact hHels.out.lc)
        have hcm := hHels.out.cm
        unfold maxLen at hcm
        have b5 := b4.trans (y2.ok.mono b4.size)
        have hF1 := find_any (L.take k) (some ⟨pb, po, none⟩) c kind y2.toW (els_cut (hHels.out.below b5) (by rw [HN.out]; omega)) (fun j hj => by
          rw [List.length_take] at hj
          have := HLI.out j (by omega)
          rw [List.getD_eq_getElem?_getD, List.getElem?_take_of_lt (by omega), ← List.getD_eq_getElem?_getD]
          omega)
        rw [show (L.take k).length = k by rw [List.length_take, HN.out]; omega] at hF1
        unfold FindPost foundE at hF1
        rw [fst_take (by rw [HN.out]; omega) HE.out] at hF1
        simp only [Option.getD_none, Option.isSome_none] at hF1
        have HF1 := Lib.hid hF1
        clear hF1 b5
        go_wp2_with fail
        refine HF1.out.mono ?_
        rintro r w6 ⟨a6, c6, rfl, hat6, b6⟩
        have e6 : zE.vals a6 c6 = #[.int .i64 0, .int .i64 0, .int .i64 0, .int .i64 0, .slice a6 0 c6] := rfl
        rw [e6]
        clear e6 HF1
        have o9 := Own.new w6 27 #[.int .i64 0, .int .i64 0, .int .i64 0, .int .i64 0, .slice a6 0 c6]
        have bb := (Below.refl w6.heap.size w6).alloc (Nat.le_refl _) (.cells #[.int .i64 0, .int .i64 0, .int .i64 0, .int .i64 0, .slice a6 0 c6] 27)
        have b7 := b6.trans (bb.mono b6.size)
        have p5 := ext_own y2 o5
        have p5 := below_own b7 p5 p5.lt
        have p8 := below_own b7 o2 o2.lt
        have b8 := (b4.trans (y2.ok.mono b4.size)).trans (b7.mono (Nat.le_trans b4.size y2.ok.size))
        have hatF := hat4.below (y2.ok.trans (b7.mono y2.ok.size))
        have hatX := hatx.below b8
        have hatZ := hat6.below bb
        go_upto_region 9 with (fail)
        generalize w6.alloc (.cells #[.int .i64 0, .int .i64 0, .int .i64 0, .int .i64 0, .slice a6 0 c6] 27) = v6 at *
        obtain ⟨g9, hg9⟩ : ∃ g, w6.heap.size = g := ⟨_, rfl⟩
        rw [hg9] at o9 ⊢
        clear hg9 b6 bb b7 hat6 x0
        have h0 : MineK (v6.alloc (.cells #[] 27)) v6.heap.size 27 5 (.slice (some ⟨v6.heap.size, 0, none⟩) 0 0) 0 (ev []) := MineK.made (c := 0) (Own.new v6 27 #[]) (Nat.le_refl _) rfl (by decide) (by decide) (fun i hi => by omega)
        have hr : Row (v6.alloc (.cells #[] 27)) (some ⟨pb, po, none⟩) (n * 5) (ev L) := (hrow.below b8).below ((Below.refl _ _).alloc (Nat.le_refl _) _)
        have b10 := (Below.refl v6.heap.size v6).alloc (Nat.le_refl _) (.cells #[] 27)
        have H0 := Lib.hid h0
        have HR := Lib.hid hr
        have HNM : Hid (0 + n ≤ maxLen) := Lib.hid (by unfold maxLen; omega)
        have hbs : v6.heap.size ≤ (v6.alloc (.cells #[] 27)).heap.size := b10.size
        obtain ⟨i0, hi0, hz0, hz1, hz2⟩ := info_parts info22
        clear h0 hr
        go_wp2_with (at_builtin; go_must (refine wp_appK rfl (.tmp 43) (.tmp 44) _ rfl v6.heap.size 27 i0 _ 5 56 Try.underlying22 hi0 hz0 hz1 hz2 rfl (by decide) _ 0 (ev []) rfl H0.out _ n _ (ev L) rfl HR.out (fun i _ => ev_one L i) HNM.out ?c2 hbs ?_))
        case c2 => omega
        intro u7 w7 m7 q7 _
        have M7 : Hid (MineK w7 v6.heap.size 27 5 u7 n (ev L)) := Lib.hid (by
          have := m7.ext (U := ev L) (fun i hi => ev_app [] L i)
          exact this)
        have b11 := b10.grown q7 hbs (fun q e => by
          have e : some v6.heap.size = some q := e
          injection e with e
          omega)
        have HR2 : Hid (Row w7 (some ⟨pb, po, none⟩) (n * 5) (ev L)) := Lib.hid ((hrow.below b8).below b11)
        have HNM2 : Hid (n + n ≤ maxLen) := Lib.hid (by unfold maxLen; omega)
        have hbs2 : v6.heap.size ≤ w7.heap.size := b11.size
        clear m7 q7 H0 HR HNM hbs b10
        go_wp2_with (at_builtin; go_must (refine wp_appK rfl (.tmp 45) (.tmp 46) _ rfl v6.heap.size 27 i0 _ 5 56 Try.underlying22 hi0 hz0 hz1 hz2 rfl (by decide) _ n (ev L) rfl M7.out _ n _ (ev L) rfl HR2.out (fun i _ => ev_one L i) HNM2.out ?c3 hbs2 ?_))
        case c3 => omega
        intro u8 w8 m8 q8 _
        have hll : (L ++ L).length = n + n := by rw [List.length_append, HN.out]
        have M8 : MineK w8 v6.heap.size 27 5 u8 (n + n) (ev (L ++ L)) := m8.ext (fun i hi => by rw [← HN.out]; exact ev_app L L i)
        have b12 := b11.grown q8 hbs2 (fun q e => (M7.out.lt q e).1)
        obtain ⟨aL, cL, rfl, lc, lm, RL⟩ := M8.row
        have hElL : Els w8 (L ++ L) aL cL := ⟨by rw [hll]; exact lc, lm, by rw [hll]; exact RL, fun j hj => by
          have hb := b8.trans (b12.mono b8.size)
          rw [List.getD_eq_getElem?_getD]
          by_cases h : j < L.length
          · rw [List.getElem?_append_left h, ← List.getD_eq_getElem?_getD]
            exact (hHels.out.els j h).below hb
          · rw [List.getElem?_append_right (by omega), ← List.getD_eq_getElem?_getD]
            exact (hHels.out.els _ (by rw [hll] at hj; rw [HN.out] at h ⊢; omega)).below hb⟩
        have hF2 := find_any (L ++ L) aL cL kind w8 hElL (fun j hj => by
          rw [List.getD_eq_getElem?_getD]
          by_cases h : j < L.length
          · rw [List.getElem?_append_left h, ← List.getD_eq_getElem?_getD]
            have := HLI.out j (by rw [← HN.out]; exact h)
            omega
          · rw [List.getElem?_append_right (by omega), ← List.getD_eq_getElem?_getD]
            have := HLI.out (j - L.length) (by rw [hll] at hj; rw [HN.out] at h ⊢; omega)
            omega)
        rw [hll] at hF2
        unfold FindPost foundE at hF2
        rw [els_app, fst_app HF.out] at hF2
        simp only [Option.getD_some, Option.isSome_some] at hF2
        have HF2 := Lib.hid hF2
        clear hF2 hElL RL M8 m8 q8 M7 hll HR2 HNM2 hbs2 lc lm
        go_wp2_with fail
        refine HF2.out.mono ?_
        rintro r w10 ⟨a10, c10, rfl, hat10, b13⟩
        have e10 : (⟨ek, easn, erank, et, el⟩ : El).vals a10 c10 = #[.int .i64 ek, .int .i64 easn, .int .i64 erank, .int .i64 et, .slice a10 el.length c10] := rfl
        rw [e10]
        clear e10 HF2
        have o11 := Own.new w10 27 #[.int .i64 ek, .int .i64 easn, .int .i64 erank, .int .i64 et, .slice a10 el.length c10]
        have bb := (Below.refl w10.heap.size w10).alloc (Nat.le_refl _) (.cells #[.int .i64 ek, .int .i64 easn, .int .i64 erank, .int .i64 et, .slice a10 el.length c10] 27)
        have b7 := (b12.trans (b13.mono b12.size)).trans (bb.mono (Nat.le_trans b12.size b13.size))
        have p5 := below_own b7 p5 p5.lt
        have p8 := below_own b7 p8 p8.lt
        have p9 := below_own b7 o9 o9.lt
        have b8 := b8.trans (b7.mono b8.size)
        have hatF := hatF.below b7
        have hatX := hatX.below b7
        have hatZ := hatZ.below b7
        have hatY := hat10.below bb
        go_upto_region 10 with (fail)
        generalize w10.alloc (.cells #[.int .i64 ek, .int .i64 easn, .int .i64 erank, .int .i64 et, .slice a10 el.length c10] 27) = v10 at *
        obtain ⟨g11, hg11⟩ : ∃ g, w10.heap.size = g := ⟨_, rfl⟩
        rw [hg11] at o11 ⊢
        clear hg11 b13 bb b7 hat10 b12 b11 o9 o2
        have hok : ok = true := by rw [← HOK.out, HF.out]; rfl
        subst hok
        have hfe : foundE (els L) kind = ⟨ek, easn, erank, et, el⟩ := by unfold foundE; rw [HF.out]; rfl
        have heq : (⟨fk, fa, fr, ft, fl⟩ : El) = ⟨ek, easn, erank, et, el⟩ := by rw [← HFE.out, hfe]
        injection heq with h1 h2 h3 h4 h5
        subst h1 h2 h3 h4 h5
        have x0 : ∀ x : Ext v10, x.toW.cell? ⟨g5, 0, none⟩ = some (.int .i64 fk) := fun x => (ext_own x p5).cell 0
        have x1 : ∀ x : Ext v10, x.toW.cell? ⟨g5, 1, none⟩ = some (.int .i64 fa) := fun x => (ext_own x p5).cell 1
        have x2 : ∀ x : Ext v10, x.toW.cell? ⟨g5, 2, none⟩ = some (.int .i64 fr) := fun x => (ext_own x p5).cell 2
        have x3 : ∀ x : Ext v10, x.toW.cell? ⟨g5, 3, none⟩ = some (.int .i64 ft) := fun x => (ext_own x p5).cell 3
        have x4 : ∀ x : Ext v10, x.toW.cell? ⟨g5, 4, none⟩ = some (.slice a2 fl.length c2) := fun x => (ext_own x p5).cell 4
        have y0 : ∀ x : Ext v10, x.toW.cell? ⟨g8, 0, none⟩ = some (.int .i64 fk) := fun x => (ext_own x p8).cell 0
        have y1 : ∀ x : Ext v10, x.toW.cell? ⟨g8, 1, none⟩ = some (.int .i64 fa) := fun x => (ext_own x p8).cell 1
        have y2 : ∀ x : Ext v10, x.toW.cell? ⟨g8, 2, none⟩ = some (.int .i64 fr) := fun x => (ext_own x p8).cell 2
        have y3 : ∀ x : Ext v10, x.toW.cell? ⟨g8, 3, none⟩ = some (.int .i64 ft) := fun x => (ext_own x p8).cell 3
        have y4 : ∀ x : Ext v10, x.toW.cell? ⟨g8, 4, none⟩ = some (.slice ea fl.length ec) := fun x => (ext_own x p8).cell 4
        have z0 : ∀ x : Ext v10, x.toW.cell? ⟨g9, 0, none⟩ = some (.int .i64 0) := fun x => (ext_own x p9).cell 0
        have z1 : ∀ x : Ext v10, x.toW.cell? ⟨g9, 1, none⟩ = some (.int .i64 0) := fun x => (ext_own x p9).cell 1
        have z2 : ∀ x : Ext v10, x.toW.cell? ⟨g9, 2, none⟩ = some (.int .i64 0) := fun x => (ext_own x p9).cell 2
        have z3 : ∀ x : Ext v10, x.toW.cell? ⟨g9, 3, none⟩ = some (.int .i64 0) := fun x => (ext_own x p9).cell 3
        have z4 : ∀ x : Ext v10, x.toW.cell? ⟨g9, 4, none⟩ = some (.slice a6 0 c6) := fun x => (ext_own x p9).cell 4
        have q0 : ∀ x : Ext v10, x.toW.cell? ⟨g11, 0, none⟩ = some (.int .i64 fk) := fun x => (ext_own x o11).cell 0
        have q1 : ∀ x : Ext v10, x.toW.cell? ⟨g11, 1, none⟩ = some (.int .i64 fa) := fun x => (ext_own x o11).cell 1
        have q2 : ∀ x : Ext v10, x.toW.cell? ⟨g11, 2, none⟩ = some (.int .i64 fr) := fun x => (ext_own x o11).cell 2
        have q3 : ∀ x : Ext v10, x.toW.cell? ⟨g11, 3, none⟩ = some (.int .i64 ft) := fun x => (ext_own x o11).cell 3
        have q4 : ∀ x : Ext v10, x.toW.cell? ⟨g11, 4, none⟩ = some (.slice a10 fl.length c10) := fun x => (ext_own x o11).cell 4
        have S1 : Hid (∀ x : Ext v10, Calls Try.prog 12 #[.agg #[.int .i64 fk, .int .i64 fa, .int .i64 fr, .int .i64 ft, .slice a2 fl.length c2], .agg #[.int .i64 fk, .int .i64 fa, .int .i64 fr, .int .i64 ft, .slice ea fl.length ec]] x.toW fun r w' => r = .returned (.bool true) ∧ Below x.toW.heap.size x.toW w') := Lib.hid (fun x => by
          have := rsameE_any ⟨fk, fa, fr, ft, fl⟩ ⟨fk, fa, fr, ft, fl⟩ a2 c2 ea ec x.toW (hatF.below x.ok) (hatX.below x.ok)
          rw [sameE_self] at this
          exact this)
        have S2 : Hid (∀ x : Ext v10, Calls Try.prog 12 #[.agg #[.int .i64 0, .int .i64 0, .int .i64 0, .int .i64 0, .slice a6 0 c6], .agg #[.int .i64 0, .int .i64 0, .int .i64 0, .int .i64 0, .slice none 0 0]] x.toW fun r w' => r = .returned (.bool true) ∧ Below x.toW.heap.size x.toW w') := Lib.hid (fun x => by
          have := rsameE_any zE zE a6 c6 none 0 x.toW (hatZ.below x.ok) (El.At.none _ _ _ _ _)
          rw [sameE_self] at this
          exact this)
        have S3 : Hid (∀ x : Ext v10, Calls Try.prog 12 #[.agg #[.int .i64 fk, .int .i64 fa, .int .i64 fr, .int .i64 ft, .slice a10 fl.length c10], .agg #[.int .i64 fk, .int .i64 fa, .int .i64 fr, .int .i64 ft, .slice ea fl.length ec]] x.toW fun r w' => r = .returned (.bool true) ∧ Below x.toW.heap.size x.toW w') := Lib.hid (fun x => by
          have := rsameE_any ⟨fk, fa, fr, ft, fl⟩ ⟨fk, fa, fr, ft, fl⟩ a10 c10 ea ec x.toW (hatY.below x.ok) (hatX.below x.ok)
          rw [sameE_self] at this
          exact this)
        obtain ⟨m0, hm0⟩ : ∃ x : Ext v10, x.toW = v10 := ⟨⟨v10, Below.refl _ _⟩, rfl⟩
        rw [← hm0]
        clear hm0 p5 p8 p9 o11 o5 hatF hatX hatZ hatY
        go_wp2_with fail
        with_reducible refine (S1.out _).mono ?_
        rintro r w8 ⟨rfl, bb⟩
        obtain ⟨m1, rfl⟩ := ext_next m0 bb
        clear bb
        go_wp2_with fail
        with_reducible refine (S2.out _).mono ?_
        rintro r w8 ⟨rfl, bb⟩
        obtain ⟨m2, rfl⟩ := ext_next m1 bb
        clear bb
        go_wp2_with fail
        with_reducible refine (S3.out _).mono ?_
        rintro r w8 ⟨rfl, bb⟩
        obtain ⟨m3, rfl⟩ := ext_next m2 bb
        clear bb
        go_wp2_with fail
        refine (awake_any _).mono ?_
        rintro r w8 ⟨rfl, bb⟩
        obtain ⟨m4, rfl⟩ := ext_next m3 bb
        clear bb
        go_wp2_with fail
        go_ret
        exact ⟨rfl, b8.trans (m4.ok.mono b8.size)⟩
      · have g1 : (ek == kind) = false := by simpa using hkk
        have HE2 : Hid (∀ j, j < k + 1 → (L.getD j ep0).e.k ≠ kind) := Lib.hid (fun j hj => by
          by_cases e : j = k
          · subst e; rw [HX.out]; exact hkk
          · exact HE.out j (by omega))
        clear hkk
        go_wp2_with fail
        exact ⟨⟨k + 1, y2, by simp, by omega, HE2, rfl⟩, by simp [intOf]; omega⟩
    · obtain rfl : n = k := by omega
      have HD : fstE (els L) kind = none := fst_no (by rw [HN.out]; exact HE.out)
      have hok : ok = false := by rw [← HOK.out, HD]; rfl
      subst hok
      have hfe : foundE (els L) kind = zE := by unfold foundE; rw [HD]; rfl
      have heq : (⟨fk, fa, fr, ft, fl⟩ : El) = ⟨0, 0, 0, 0, []⟩ := by rw [← HFE.out, hfe]; rfl
      injection heq with h1 h2 h3 h4 h5
      subst h1 h2 h3 h4 h5
      have x0 : ∀ x : Ext v4, x.toW.cell? ⟨g5, 0, none⟩ = some (.int .i64 0) := fun x => (ext_own x o5).cell 0
      have x1 : ∀ x : Ext v4, x.toW.cell? ⟨g5, 1, none⟩ = some (.int .i64 0) := fun x => (ext_own x o5).cell 1
      have x2 : ∀ x : Ext v4, x.toW.cell? ⟨g5, 2, none⟩ = some (.int .i64 0) := fun x => (ext_own x o5).cell 2
      have x3 : ∀ x : Ext v4, x.toW.cell? ⟨g5, 3, none⟩ = some (.int .i64 0) := fun x => (ext_own x o5).cell 3
      have x4 : ∀ x : Ext v4, x.toW.cell? ⟨g5, 4, none⟩ = some (.slice a2 0 c2) := fun x => (ext_own x o5).cell 4
      have S2 : Hid (∀ x : Ext v4, Calls Try.prog 12 #[.agg #[.int .i64 0, .int .i64 0, .int .i64 0, .int .i64 0, .slice a2 0 c2], .agg #[.int .i64 0, .int .i64 0, .int .i64 0, .int .i64 0, .slice none 0 0]] x.toW fun r w' => r = .returned (.bool true) ∧ Below x.toW.heap.size x.toW w') := Lib.hid (fun x => by
        have := rsameE_any zE zE a2 c2 none 0 x.toW (hat4.below x.ok) (El.At.none _ _ _ _ _)
        rw [sameE_self] at this
        exact this)
      clear HD hfe
      go_wp2_with fail
      with_reducible refine (S2.out _).mono ?_
      rintro r w8 ⟨rfl, bb⟩
      obtain ⟨m2, rfl⟩ := ext_next y bb
      clear bb
      go_wp2_with fail
      refine (awake_any _).mono ?_
      rintro r w8 ⟨rfl, bb⟩
      obtain ⟨m4, rfl⟩ := ext_next m2 bb
      clear bb
      go_wp2_with fail
      go_ret
      exact ⟨rfl, b4.trans (m4.ok.mono b4.size)⟩

theorem walk (H : Type) (enc : TypeId × Value → H) : Walk H enc Try.prog 5 Try.f5 := by
  intro W base args ds p hval hA
  rw [Try.params5] at hA hval
  obtain ⟨v0, v1, d0, d1, p0, p1, rfl, rfl, rfl, h0, h1⟩ := trodAll_two hA
  obtain ⟨L, a, c, rfl, hel, _⟩ := open_els (hval 0 _ v0 rfl rfl) h0
  obtain ⟨n, rfl, rfl, rfl, _⟩ := open_int Try.underlying3 (hval 1 _ v1 rfl rfl) h1
  exact body L a c n W hel

set_option maxRecDepth 100000 in
theorem lifted (os : Os) (started : os.Started) (H : Type) (enc : TypeId × Value → H) :
    ReturnsInHanded {} Try.checked os 5 .any (Rows.ieFindsSpec.pre6 enc Try.prog Try.f5 Rows.ieFindsRow.domain false) (Rows.ieFindsSpec.post enc Try.prog Try.f5 false true false false) :=
  returnsInHanded_of_change (C := Try.checked) own started (by kernel_rfl) Try.func5
    (ChangeSpec.witness6 (enc := enc) (C := Try.checked) false ⟨#[], #[(.slice none 0 0), (.int .i64 0)], []⟩ 8 (by kernel_rfl) (by kernel_rfl) (by kernel_rfl) (by kernel_rfl))
    fun W base args ds gs before hval hW _ _ => step_of_walk laidOut (by rw [Try.params5]; exact of_decide_eq_true (by kernel_rfl)) (by kernel_rfl) Try.underlying4 rfl
      (fun ds h => by
        rw [Try.params5] at h
        match ds, h with
        | [_, _], _ => rfl) (walk H enc) W base args ds gs before hval hW

theorem holds : Rows.IeFindsSaid :=
  OpenClaim.holds_of_wide 5 Try.f5 rfl rfl rfl rfl rfl rfl rfl ⟨rfl, rfl, rfl, rfl, rfl⟩ rfl rfl rfl rfl rfl (by kernel_rfl) Try.func5 (by kernel_rfl)
    (of_decide_eq_true (by kernel_rfl)) (by unfold Func.isWrapper; first | (rw [if_pos (by decide +kernel)]; kernel_rfl) | (rw [if_neg (by decide +kernel)]; exact ⟨rfl, rfl⟩))
    (fun os started H enc _ => lifted os started H enc)
#print axioms holds
end Go.Proofs.Ytlmbkgcclanpmaa.IeFinds
