/-
  Law IeForms: any elements, any kind: may each be, its bytes, which is found; the call returns true. No condition.
-/
import Derived.Test.YtlmbkgcclanpmaaIeLaw
import Derived.Test.YtlmbkgcclanpmaaIeFind
import Derived.Test.YtlmbkgcclanpmaaIeREnc
set_option maxRecDepth 100000
namespace Go.Proofs.Ytlmbkgcclanpmaa.IeForms
set_option linter.unusedVariables false
open Go.RowKit Go.ChangeShapes Go.WideShapes Go.ChangeAt Go.Deep Lb Bf Ie
set_option linter.unusedVariables false
theorem own : ownKnob Try.prog.godebug = none := by kernel_rfl
theorem laidOut : laidOutB Try.prog = true := by kernel_rfl
/-- The next world is one of them, too. -/
theorem ext_next {v w' : World} (x : Ext v) (h : Below x.toW.heap.size x.toW w') : ∃ y : Ext v, w' = y.toW := ⟨⟨w', x.ok.trans (h.mono x.ok.size)⟩, rfl⟩
theorem ext_own {v : World} {b : Nat} {t : TypeId} {cs : Array Value} (x : Ext v) (h : Lb.Own v b t cs) : Lb.Own x.toW b t cs := below_own x.ok h h.lt
/-- Encode's answer, whether they may be or not. -/
theorem enc_out {l : List El} {w w' : World} {r : Ending} (h : EncPost l w r w') : ∃ a c, r = .returned (.tuple #[.slice a (if mayL l = true then encI l else []).length c, .int .i64 (if mayL l = true then 0 else 1)]) ∧ Row w' a (if mayL l = true then encI l else []).length (bval (if mayL l = true then encI l else [])) ∧ Below w.heap.size w w' := by
  unfold EncPost at h
  by_cases hm : mayL l = true
  · rw [if_pos hm] at h
    obtain ⟨a, c, h1, _, _, h2, h3⟩ := h
    exact ⟨a, c, by rw [if_pos hm, if_pos hm]; exact h1, by rw [if_pos hm]; exact h2, h3⟩
  · rw [if_neg hm] at h
    exact ⟨none, 0, by rw [if_neg hm, if_neg hm]; exact h.1, by rw [if_neg hm]; exact Row.nil _ _ _, h.2⟩
set_option maxHeartbeats 2000000 in
theorem body (L : List EP) (a : Option Addr) (c : Nat) (kind : Int) (w : World) (h : Els w L a c) :
    Calls Try.prog 3 #[.slice a L.length c, .int .i64 kind] w fun r w' => r = .returned (.bool true) ∧ Below w.heap.size w w' := by
  have hL := light_any L a c w h
  have hHels := Lib.hid h
  obtain ⟨n, hn⟩ : ∃ n, L.length = n := ⟨_, rfl⟩
  have HN := Lib.hid hn
  rw [hn] at hL ⊢
  clear hn h
  go_enter Try.func3, Try.ntmps3
  go_wp2_with fail
  refine hL.mono ?_
  rintro r w1 ⟨x, rfl, hx, b1⟩
  have HX := Lib.hid hx
  clear hx hL
  by_cases hx0 : 0 < x
  · have g1 : decide ((0 : Int) < (x : Int)) = true := by simp; omega
    have g1' : decide (0 < x) = true := by simp; omega
    go_wp2_with fail
    refine (awake_any _).mono ?_
    rintro r w9 ⟨rfl, b9⟩
    go_wp2_with fail
    go_ret
    exact ⟨rfl, b1.trans (b9.mono b1.size)⟩
  have g1 : decide ((0 : Int) < (x : Int)) = false := by simp; omega
  have g1' : decide (0 < x) = false := by simp; omega
  have hlight : lightB L = true := HX.out.1 (by omega)
  unfold lightB at hlight
  rw [decide_eq_true_eq, HN.out] at hlight
  obtain ⟨h20, hli⟩ := hlight
  have HLI : Hid (∀ k, k < n → (L.getD k ep0).e.list.length ≤ 100) := Lib.hid hli
  have hHels1 := Lib.hid (hHels.out.below b1)
  clear hli HX hHels hx0
  have hlc := hHels1.out.lc
  rw [HN.out] at hlc
  have hcm := hHels1.out.cm
  unfold maxLen at hcm
  have hrow := hHels1.out.row
  rw [HN.out] at hrow
  obtain ⟨z0, hz0⟩ : ∃ x : Ext w1, x.toW = w1 := ⟨⟨w1, Below.refl _ _⟩, rfl⟩
  rw [← hz0]
  clear hz0
  go_wp2_with fail
  go_loopw [21] (fun i wr => ∃ (k : Nat) (y : Ext w1), i = .int .i64 k ∧ k ≤ n ∧ y.toW = wr) (fun i _ => n - (intOf i).toNat)
  case atStart => exact ⟨0, z0, rfl, by omega, rfl⟩
  case round =>
    clear z0
    obtain ⟨k, y, rfl, hk, rfl⟩ := hrel
    by_cases hlt : k < n
    · obtain ⟨x, hx⟩ : ∃ x, L.getD k ep0 = x := ⟨_, rfl⟩
      obtain ⟨x0', hx0'⟩ : ∃ x, L.getD 0 ep0 = x := ⟨_, rfl⟩
      obtain ⟨pb, po, rfl, hpb, x0, x1, x2, x3, x4⟩ := erow hrow y.ok hlt hx
      have hat := hHels1.out.els k (by rw [HN.out]; exact hlt)
      have hat0 := hHels1.out.els 0 (by rw [HN.out]; omega)
      rw [hx] at hat
      rw [hx0'] at hat0
      have HX := Lib.hid hx
      have HX0 := Lib.hid hx0'
      clear hx hx0'
      obtain ⟨⟨ek, easn, erank, et, el⟩, ea, ec⟩ := x
      obtain ⟨⟨dk, dasn, drank, dt, dl⟩, da, dc⟩ := x0'
      simp only at x0 x1 x2 x3 x4 hat hat0
      have o2 := Own.new y.toW 27 #[.int .i64 ek, .int .i64 easn, .int .i64 erank, .int .i64 et, .slice ea el.length ec]
      have b2 := (Below.refl y.toW.heap.size y.toW).alloc (Nat.le_refl _) (.cells #[.int .i64 ek, .int .i64 easn, .int .i64 erank, .int .i64 et, .slice ea el.length ec] 27)
      have b3 := y.ok.trans (b2.mono y.ok.size)
      go_upto_region 6 with (fail)
      generalize y.toW.alloc (.cells #[.int .i64 ek, .int .i64 easn, .int .i64 erank, .int .i64 et, .slice ea el.length ec] 27) = v2 at *
      obtain ⟨g6, hg6⟩ : ∃ g, y.toW.heap.size = g := ⟨_, rfl⟩
      rw [hg6] at o2 ⊢
      clear hg6 b2 x0 x1 x2 x3 x4
      have hn0 : 0 < n := by omega
      have x0 : ∀ x : Ext v2, x.toW.cell? ⟨g6, 0, none⟩ = some (.int .i64 ek) := fun x => (ext_own x o2).cell 0
      have x1 : ∀ x : Ext v2, x.toW.cell? ⟨g6, 1, none⟩ = some (.int .i64 easn) := fun x => (ext_own x o2).cell 1
      have x2 : ∀ x : Ext v2, x.toW.cell? ⟨g6, 2, none⟩ = some (.int .i64 erank) := fun x => (ext_own x o2).cell 2
      have x3 : ∀ x : Ext v2, x.toW.cell? ⟨g6, 3, none⟩ = some (.int .i64 et) := fun x => (ext_own x o2).cell 3
      have x4 : ∀ x : Ext v2, x.toW.cell? ⟨g6, 4, none⟩ = some (.slice ea el.length ec) := fun x => (ext_own x o2).cell 4
      have hr : ∀ x : Ext v2, Below w1.heap.size w1 x.toW := fun x => b3.trans (x.ok.mono b3.size)
      have row0 : ∀ x : Ext v2, x.toW.cell? ⟨pb, po, none⟩ = some (.int .i64 dk) ∧ x.toW.cell? ⟨pb, po + 1, none⟩ = some (.int .i64 dasn) ∧ x.toW.cell? ⟨pb, po + 2, none⟩ = some (.int .i64 drank) ∧ x.toW.cell? ⟨pb, po + 3, none⟩ = some (.int .i64 dt) ∧ x.toW.cell? ⟨pb, po + 4, none⟩ = some (.slice da dl.length dc) := fun x => by
        obtain ⟨b, o, h1, _, h2, h3, h4, h5, h6⟩ := erow hrow (hr x) hn0 HX0.out
        injection h1 with h1
        injection h1 with h1 h1' _
        subst h1 h1'
        simp only [Nat.zero_mul, Nat.add_zero] at h2 h3 h4 h5 h6
        exact ⟨h2, h3, h4, h5, h6⟩
      have rowk : ∀ x : Ext v2, x.toW.cell? ⟨pb, po + k * 5, none⟩ = some (.int .i64 ek) ∧ x.toW.cell? ⟨pb, po + k * 5 + 1, none⟩ = some (.int .i64 easn) ∧ x.toW.cell? ⟨pb, po + k * 5 + 2, none⟩ = some (.int .i64 erank) ∧ x.toW.cell? ⟨pb, po + k * 5 + 3, none⟩ = some (.int .i64 et) ∧ x.toW.cell? ⟨pb, po + k * 5 + 4, none⟩ = some (.slice ea el.length ec) := fun x => by
        obtain ⟨b, o, h1, _, h2, h3, h4, h5, h6⟩ := erow hrow (hr x) hlt HX.out
        injection h1 with h1
        injection h1 with h1 h1' _
        subst h1 h1'
        exact ⟨h2, h3, h4, h5, h6⟩
      have d0 := fun x => (row0 x).1
      have d1 := fun x => (row0 x).2.1
      have d2 := fun x => (row0 x).2.2.1
      have d3 := fun x => (row0 x).2.2.2.1
      have d4 := fun x => (row0 x).2.2.2.2
      have k0 := fun x => (rowk x).1
      have k1 := fun x => (rowk x).2.1
      have k2 := fun x => (rowk x).2.2.1
      have k3 := fun x => (rowk x).2.2.2.1
      have k4 := fun x => (rowk x).2.2.2.2
      obtain ⟨q, hq⟩ : ∃ q, mayE ⟨ek, easn, erank, et, el⟩ = q := ⟨_, rfl⟩
      obtain ⟨s, hs⟩ : ∃ q, sameE ⟨ek, easn, erank, et, el⟩ ⟨dk, dasn, drank, dt, dl⟩ = q := ⟨_, rfl⟩
      have hatx := fun x : Ext v2 => hat.below (hr x)
      have hatx0 := fun x : Ext v2 => hat0.below (hr x)
      have M1 : Hid (∀ x : Ext v2, Calls Try.prog 9 #[.agg #[.int .i64 ek, .int .i64 easn, .int .i64 erank, .int .i64 et, .slice ea el.length ec]] x.toW fun r w' => r = .returned (.bool q) ∧ Below x.toW.heap.size x.toW w') := Lib.hid (fun x => by
        have := may_any ⟨ek, easn, erank, et, el⟩ ea ec x.toW (hatx x)
        rw [hq] at this
        exact this)
      have M2 : Hid (∀ x : Ext v2, Calls Try.prog 10 #[.agg #[.int .i64 ek, .int .i64 easn, .int .i64 erank, .int .i64 et, .slice ea el.length ec]] x.toW fun r w' => r = .returned (.bool q) ∧ Below x.toW.heap.size x.toW w') := Lib.hid (fun x => by
        have := rmay_any ⟨ek, easn, erank, et, el⟩ ea ec x.toW (hatx x)
        rw [hq] at this
        exact this)
      have S1 : Hid (∀ x : Ext v2, Calls Try.prog 11 #[.agg #[.int .i64 ek, .int .i64 easn, .int .i64 erank, .int .i64 et, .slice ea el.length ec], .agg #[.int .i64 dk, .int .i64 dasn, .int .i64 drank, .int .i64 dt, .slice da dl.length dc]] x.toW fun r w' => r = .returned (.bool s) ∧ Below x.toW.heap.size x.toW w') := Lib.hid (fun x => by
        have := sameE_any ⟨ek, easn, erank, et, el⟩ ⟨dk, dasn, drank, dt, dl⟩ ea ec da dc x.toW (hatx x) (hatx0 x)
        rw [hs] at this
        exact this)
      have S2 : Hid (∀ x : Ext v2, Calls Try.prog 12 #[.agg #[.int .i64 ek, .int .i64 easn, .int .i64 erank, .int .i64 et, .slice ea el.length ec], .agg #[.int .i64 dk, .int .i64 dasn, .int .i64 drank, .int .i64 dt, .slice da dl.length dc]] x.toW fun r w' => r = .returned (.bool s) ∧ Below x.toW.heap.size x.toW w') := Lib.hid (fun x => by
        have := rsameE_any ⟨ek, easn, erank, et, el⟩ ⟨dk, dasn, drank, dt, dl⟩ ea ec da dc x.toW (hatx x) (hatx0 x)
        rw [hs] at this
        exact this)
      have S3 : Hid (∀ x : Ext v2, Calls Try.prog 11 #[.agg #[.int .i64 ek, .int .i64 easn, .int .i64 erank, .int .i64 et, .slice ea el.length ec], .agg #[.int .i64 ek, .int .i64 easn, .int .i64 erank, .int .i64 et, .slice ea el.length ec]] x.toW fun r w' => r = .returned (.bool true) ∧ Below x.toW.heap.size x.toW w') := Lib.hid (fun x => by
        have := sameE_any ⟨ek, easn, erank, et, el⟩ ⟨ek, easn, erank, et, el⟩ ea ec ea ec x.toW (hatx x) (hatx x)
        rw [sameE_self] at this
        exact this)
      have t1 : (q != q) = false := by simp
      have t2 : (s != s) = false := by simp
      have t3 : ((n : Nat) : Int) ≤ 20 := by omega
      clear hatx hatx0 hq hs row0 rowk hr hat hat0 o2
      refine wp_region_ext v2 (by kernel_rfl) (by kernel_rfl) (Below.refl _ _) ?_
      repeat (go_big_quiet_step (first
        | (go_at_call 9; with_reducible exact ext_below _ (u := .bool q) (M1.out _))
        | (go_at_call 10; with_reducible exact ext_below _ (u := .bool q) (M2.out _))
        | (go_at_call 12; with_reducible exact ext_below _ (u := .bool s) (S2.out _))
        | (go_at_call 11; first
            | (with_reducible exact ext_below _ (u := .bool s) (S1.out _))
            | (with_reducible exact ext_below _ (u := .bool true) (S3.out _)))))
      refine wpQuiet_nil ?_
      rintro w9 ⟨x9, rfl⟩
      obtain ⟨y9, hy9⟩ : ∃ y : Ext w1, x9.toW = y.toW := ⟨⟨x9.toW, b3.trans (x9.ok.mono b3.size)⟩, rfl⟩
      rw [hy9]
      clear hy9 M1 M2 S1 S2 S3 d0 d1 d2 d3 d4 k0 k1 k2 k3 k4 x0 x1 x2 x3 x4
      go_wp2_with fail
      exact ⟨⟨k + 1, y9, by simp, by omega, rfl⟩, by simp [intOf]; omega⟩
    · obtain rfl : n = k := by omega
      have hE := encode_any L a c y.toW (hHels1.out.below y.ok)
      rw [HN.out] at hE
      have HE := Lib.hid hE
      clear hE
      go_wp2_with fail
      refine HE.out.mono ?_
      intro r w2 hp
      obtain ⟨a2, c2, rfl, R2, b2⟩ := enc_out hp
      clear hp HE
      obtain ⟨y2, rfl⟩ := ext_next y b2
      obtain ⟨X, hX⟩ : ∃ X, (if mayL (els L) = true then encI (els L) else []) = X := ⟨_, rfl⟩
      obtain ⟨er, her⟩ : ∃ X, (if mayL (els L) = true then (0 : Int) else 1) = X := ⟨_, rfl⟩
      rw [hX] at R2
      rw [hX, her]
      have hE := rencode_any L a c y2.toW (hHels1.out.below y2.ok)
      rw [HN.out] at hE
      have HE := Lib.hid hE
      have HX2 := Lib.hid hX
      have HER := Lib.hid her
      obtain ⟨nx, hnx⟩ : ∃ m, X.length = m := ⟨_, rfl⟩
      have HNX := Lib.hid hnx
      rw [hnx]
      clear hE hX her hnx
      go_wp2_with fail
      refine HE.out.mono ?_
      intro r w3 hp
      obtain ⟨a3, c3, rfl, R3, b3⟩ := enc_out hp
      clear hp HE
      have R2 := R2.below b3
      obtain ⟨y3, rfl⟩ := ext_next y2 b3
      rw [HX2.out] at R3
      rw [HX2.out, HER.out, HNX.out]
      have hf := find_any L a c kind y3.toW (hHels1.out.below y3.ok) (fun k hk => by rw [HN.out] at hk; have := HLI.out k hk; omega)
      rw [HN.out] at hf
      have HF := Lib.hid hf
      clear hf b2 b3 HX2 HER
      go_wp2_with fail
      refine HF.out.mono ?_
      rintro r w4 ⟨a4, c4, rfl, hat4, b4⟩
      obtain ⟨fe, hfe⟩ : ∃ f, foundE (els L) kind = f := ⟨_, rfl⟩
      rw [hfe] at hat4
      rw [hfe]
      have HFE := Lib.hid hfe
      obtain ⟨ok, hok⟩ : ∃ f, (fstE (els L) kind).isSome = f := ⟨_, rfl⟩
      rw [hok]
      have HOK := Lib.hid hok
      clear hfe hok HF
      obtain ⟨fk, fa, fr, ft, fl⟩ := fe
      have R2 := R2.below b4
      have R3 := R3.below b4
      obtain ⟨y4, rfl⟩ := ext_next y3 b4
      have o11 := Own.new y4.toW 27 #[.int .i64 fk, .int .i64 fa, .int .i64 fr, .int .i64 ft, .slice a4 fl.length c4]
      have bb := (Below.refl y4.toW.heap.size y4.toW).alloc (Nat.le_refl _) (.cells #[.int .i64 fk, .int .i64 fa, .int .i64 fr, .int .i64 ft, .slice a4 fl.length c4] 27)
      have b5 := y4.ok.trans (bb.mono y4.ok.size)
      have hat5 := hat4.below bb
      have R2 := R2.below bb
      have R3 := R3.below bb
      unfold El.vals
      simp only
      go_upto_region 12 with (fail)
      generalize y4.toW.alloc (.cells #[.int .i64 fk, .int .i64 fa, .int .i64 fr, .int .i64 ft, .slice a4 fl.length c4] 27) = v5 at *
      obtain ⟨g11, hg11⟩ : ∃ g, y4.toW.heap.size = g := ⟨_, rfl⟩
      rw [hg11] at o11 ⊢
      have hf := rfind_any L a c kind v5 (hHels1.out.below b5) (fun k hk => by rw [HN.out] at hk; have := HLI.out k hk; omega)
      rw [HN.out] at hf
      have HF := Lib.hid hf
      clear hg11 bb hat4 b4 hf
      go_wp2_with fail
      refine HF.out.mono ?_
      rintro r w6 ⟨a6, c6, rfl, hat6, b6⟩
      rw [HFE.out] at hat6
      rw [HFE.out, HOK.out]
      clear HF HFE HOK
      have o13 := Own.new w6 27 #[.int .i64 fk, .int .i64 fa, .int .i64 fr, .int .i64 ft, .slice a6 fl.length c6]
      have bb := (Below.refl w6.heap.size w6).alloc (Nat.le_refl _) (.cells #[.int .i64 fk, .int .i64 fa, .int .i64 fr, .int .i64 ft, .slice a6 fl.length c6] 27)
      have bq := b6.trans (bb.mono b6.size)
      have b7 := b5.trans (bq.mono b5.size)
      have hat7 := hat6.below bb
      have hat5 := hat5.below bq
      have o11 := below_own bq o11 o11.lt
      have R2 := R2.below bq
      have R3 := R3.below bq
      unfold El.vals
      simp only
      go_upto_region 13 with (fail)
      generalize w6.alloc (.cells #[.int .i64 fk, .int .i64 fa, .int .i64 fr, .int .i64 ft, .slice a6 fl.length c6] 27) = v7 at *
      obtain ⟨g13, hg13⟩ : ∃ g, w6.heap.size = g := ⟨_, rfl⟩
      rw [hg13] at o13 ⊢
      clear hg13 bb bq hat6 b6 b5
      have x0 : ∀ x : Ext v7, x.toW.cell? ⟨g11, 0, none⟩ = some (.int .i64 fk) := fun x => (ext_own x o11).cell 0
      have x1 : ∀ x : Ext v7, x.toW.cell? ⟨g11, 1, none⟩ = some (.int .i64 fa) := fun x => (ext_own x o11).cell 1
      have x2 : ∀ x : Ext v7, x.toW.cell? ⟨g11, 2, none⟩ = some (.int .i64 fr) := fun x => (ext_own x o11).cell 2
      have x3 : ∀ x : Ext v7, x.toW.cell? ⟨g11, 3, none⟩ = some (.int .i64 ft) := fun x => (ext_own x o11).cell 3
      have x4 : ∀ x : Ext v7, x.toW.cell? ⟨g11, 4, none⟩ = some (.slice a4 fl.length c4) := fun x => (ext_own x o11).cell 4
      have q0 : ∀ x : Ext v7, x.toW.cell? ⟨g13, 0, none⟩ = some (.int .i64 fk) := fun x => (ext_own x o13).cell 0
      have q1 : ∀ x : Ext v7, x.toW.cell? ⟨g13, 1, none⟩ = some (.int .i64 fa) := fun x => (ext_own x o13).cell 1
      have q2 : ∀ x : Ext v7, x.toW.cell? ⟨g13, 2, none⟩ = some (.int .i64 fr) := fun x => (ext_own x o13).cell 2
      have q3 : ∀ x : Ext v7, x.toW.cell? ⟨g13, 3, none⟩ = some (.int .i64 ft) := fun x => (ext_own x o13).cell 3
      have q4 : ∀ x : Ext v7, x.toW.cell? ⟨g13, 4, none⟩ = some (.slice a6 fl.length c6) := fun x => (ext_own x o13).cell 4
      have v1 : ∀ x : Ext v7, (convert 30 9 (.slice a2 nx c2)).run Try.prog x.toW = .ok (.string (bstr X)) x.toW := fun x => by
        have := conv_b c2 (R2.below x.ok)
        rwa [HNX.out] at this
      have v2 : ∀ x : Ext v7, (convert 30 9 (.slice a3 nx c3)).run Try.prog x.toW = .ok (.string (bstr X)) x.toW := fun x => by
        have := conv_b c3 (R3.below x.ok)
        rwa [HNX.out] at this
      obtain ⟨T, hT⟩ : ∃ T, bstr X = T := ⟨_, rfl⟩
      rw [hT] at v1 v2
      have t1 : (T.toList == T.toList) = true := beq_self_eq_true _
      have t2 : (er == er) = true := beq_self_eq_true _
      have t3 : (ok == ok) = true := beq_self_eq_true _
      have S1 : Hid (∀ x : Ext v7, Calls Try.prog 12 #[.agg #[.int .i64 fk, .int .i64 fa, .int .i64 fr, .int .i64 ft, .slice a4 fl.length c4], .agg #[.int .i64 fk, .int .i64 fa, .int .i64 fr, .int .i64 ft, .slice a6 fl.length c6]] x.toW fun r w' => r = .returned (.bool true) ∧ Below x.toW.heap.size x.toW w') := Lib.hid (fun x => by
        have := rsameE_any ⟨fk, fa, fr, ft, fl⟩ ⟨fk, fa, fr, ft, fl⟩ a4 c4 a6 c6 x.toW (hat5.below x.ok) (hat7.below x.ok)
        rw [sameE_self] at this
        exact this)
      obtain ⟨m0, hm0⟩ : ∃ x : Ext v7, x.toW = v7 := ⟨⟨v7, Below.refl _ _⟩, rfl⟩
      rw [← hm0]
      clear hm0 o11 o13 hat5 hat7 R2 R3 hT
      go_wp2_with fail
      with_reducible refine (S1.out _).mono ?_
      rintro r w8 ⟨rfl, bb⟩
      obtain ⟨m1, rfl⟩ := ext_next m0 bb
      clear bb
      go_wp2_with fail
      refine (awake_any _).mono ?_
      rintro r w8 ⟨rfl, bb⟩
      obtain ⟨m4, rfl⟩ := ext_next m1 bb
      clear bb
      go_wp2_with fail
      go_ret
      exact ⟨rfl, b1.trans ((b7.trans (m4.ok.mono b7.size)).mono b1.size)⟩

theorem walk (H : Type) (enc : TypeId × Value → H) : Walk H enc Try.prog 3 Try.f3 := by
  intro W base args ds p hval hA
  rw [Try.params3] at hA hval
  obtain ⟨v0, v1, d0, d1, p0, p1, rfl, rfl, rfl, h0, h1⟩ := trodAll_two hA
  obtain ⟨L, a, c, rfl, hel, _⟩ := open_els (hval 0 _ v0 rfl rfl) h0
  obtain ⟨n, rfl, rfl, rfl, _⟩ := open_int Try.underlying3 (hval 1 _ v1 rfl rfl) h1
  exact body L a c n W hel

set_option maxRecDepth 100000 in
theorem lifted (os : Os) (started : os.Started) (H : Type) (enc : TypeId × Value → H) :
    ReturnsInHanded {} Try.checked os 3 .any (Rows.ieFormsSpec.pre6 enc Try.prog Try.f3 Rows.ieFormsRow.domain false) (Rows.ieFormsSpec.post enc Try.prog Try.f3 false true false false) :=
  returnsInHanded_of_change (C := Try.checked) own started (by kernel_rfl) Try.func3
    (ChangeSpec.witness6 (enc := enc) (C := Try.checked) false ⟨#[], #[(.slice none 0 0), (.int .i64 0)], []⟩ 8 (by kernel_rfl) (by kernel_rfl) (by kernel_rfl) (by kernel_rfl))
    fun W base args ds gs before hval hW _ _ => step_of_walk laidOut (by rw [Try.params3]; exact of_decide_eq_true (by kernel_rfl)) (by kernel_rfl) Try.underlying4 rfl
      (fun ds h => by
        rw [Try.params3] at h
        match ds, h with
        | [_, _], _ => rfl) (walk H enc) W base args ds gs before hval hW

theorem holds : Rows.IeFormsSaid :=
  OpenClaim.holds_of_wide 3 Try.f3 rfl rfl rfl rfl rfl rfl rfl ⟨rfl, rfl, rfl, rfl, rfl⟩ rfl rfl rfl rfl rfl (by kernel_rfl) Try.func3 (by kernel_rfl)
    (of_decide_eq_true (by kernel_rfl)) (by unfold Func.isWrapper; first | (rw [if_pos (by decide +kernel)]; kernel_rfl) | (rw [if_neg (by decide +kernel)]; exact ⟨rfl, rfl⟩))
    (fun os started H enc _ => lifted os started H enc)
#print axioms holds
end Go.Proofs.Ytlmbkgcclanpmaa.IeForms
