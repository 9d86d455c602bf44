/-
  The reference: two rows of elements: alike or not.
-/
import Derived.Test.YtoconkgemakboaaIeDec
set_option maxRecDepth 100000
namespace Go.Proofs.Ytoconkgemakboaa.Ie
set_option linter.unusedVariables false
open Go.RowKit Lb Go.Shelf

instance : DecidableEq El := fun a b => if h : sameE a b = true then isTrue (sameE_eq h) else isFalse (fun e => h (by rw [e]; exact sameE_self b))
theorem els_ext {L M : List EP} (h : L.length = M.length) (hk : ∀ j, j < L.length → (L.getD j ep0).e = (M.getD j ep0).e) : els L = els M := by
  apply List.ext_getElem (by rw [els_len, els_len, h])
  intro i h1 h2
  rw [els_len] at h1 h2
  rw [els_at h1 rfl, els_at h2 rfl]
  exact hk i h1
theorem els_get {L M : List EP} (h : els L = els M) {j : Nat} (hj : j < L.length) (hm : j < M.length) : (L.getD j ep0).e = (M.getD j ep0).e := by
  rw [← els_at hj rfl, ← els_at hm rfl]
  simp only [h]
set_option maxHeartbeats 1000000 in
theorem rsames_any (L M : List EP) (a : Option Addr) (c : Nat) (a2 : Option Addr) (c2 : Nat) (w : World) (h : Els w L a c) (g : Els w M a2 c2) :
    Calls Try.prog 36 #[.slice a L.length c, .slice a2 M.length c2] w fun r w' => r = .returned (.bool (decide (els L = els M))) ∧ Below w.heap.size w w' := by
  by_cases hlm : L.length = M.length
  · have HLM := Lib.hid hlm
    have hc1 := h.lc
    have hc2 := g.lc
    have hm1 := h.cm
    have hm2 := g.cm
    unfold maxLen at hm1 hm2
    have hr1 := h.row
    have hr2 := g.row
    have HE := Lib.hid h.els
    have GE := Lib.hid g.els
    obtain ⟨n, hn⟩ : ∃ n, L.length = n := ⟨_, rfl⟩
    have HN := Lib.hid hn
    have hn2 : M.length = n := by omega
    have HN2 := Lib.hid hn2
    rw [hn] at hc1 hr1 ⊢
    rw [hn2] at hc2 hr2 ⊢
    clear hn hn2 hlm h g
    obtain ⟨z0, hz0⟩ : ∃ x : Ext w, x.toW = w := ⟨⟨w, Below.refl _ _⟩, rfl⟩
    have HZ := Lib.hid hz0
    clear hz0
    go_enter Try.func36, Try.ntmps36
    go_wp2_with fail
    go_loopw [13] (fun i wr => ∃ (k : Nat), i = .int .i64 k ∧ k ≤ n ∧ Hid (∀ j, j < k → (L.getD j ep0).e = (M.getD j ep0).e) ∧ Below w.heap.size w wr) (fun i _ => n - (intOf i).toNat)
    case atStart => exact ⟨0, rfl, by omega, Lib.hid (fun j hj => by omega), Below.refl _ _⟩
    case round =>
      obtain ⟨k, rfl, hk, HS, bb⟩ := hrel
      by_cases hlt : k < n
      · obtain ⟨x, hx⟩ : ∃ x, L.getD k ep0 = x := ⟨_, rfl⟩
        obtain ⟨y, hy⟩ : ∃ y, M.getD k ep0 = y := ⟨_, rfl⟩
        obtain ⟨pb, po, rfl, hpb, _⟩ := erow hr1 bb hlt hx
        obtain ⟨qb, qo, rfl, hqb, _⟩ := erow hr2 bb hlt hy
        have hat := HE.out k (by rw [HN.out]; exact hlt)
        have hau := GE.out k (by rw [HN2.out]; exact hlt)
        rw [hx] at hat
        rw [hy] at hau
        have HX := Lib.hid hx
        have HY := Lib.hid hy
        have hb : ∀ x : Ext wr, Below w.heap.size w x.toW := fun x => bb.trans (x.ok.mono bb.size)
        have HB := Lib.hid hb
        clear hx hy hb
        obtain ⟨⟨xk, xa, xr, xt, xl⟩, ea, ec⟩ := x
        obtain ⟨⟨yk, ya, yr, yt, yl⟩, fa, fc⟩ := y
        simp only at hat hau
        have rowx : ∀ x : Ext wr, x.toW.cell? ⟨pb, po + k * 5, none⟩ = some (.int .i64 xk) ∧ x.toW.cell? ⟨pb, po + k * 5 + 1, none⟩ = some (.int .i64 xa) ∧ x.toW.cell? ⟨pb, po + k * 5 + 2, none⟩ = some (.int .i64 xr) ∧ x.toW.cell? ⟨pb, po + k * 5 + 3, none⟩ = some (.int .i64 xt) ∧ x.toW.cell? ⟨pb, po + k * 5 + 4, none⟩ = some (.slice ea xl.length ec) := fun x => by
          obtain ⟨b, o, h1, _, h2, h3, h4, h5, h6⟩ := erow hr1 (HB.out x) hlt HX.out
          injection h1 with h1
          injection h1 with h1 h1' _
          subst h1 h1'
          exact ⟨h2, h3, h4, h5, h6⟩
        have rowy : ∀ x : Ext wr, x.toW.cell? ⟨qb, qo + k * 5, none⟩ = some (.int .i64 yk) ∧ x.toW.cell? ⟨qb, qo + k * 5 + 1, none⟩ = some (.int .i64 ya) ∧ x.toW.cell? ⟨qb, qo + k * 5 + 2, none⟩ = some (.int .i64 yr) ∧ x.toW.cell? ⟨qb, qo + k * 5 + 3, none⟩ = some (.int .i64 yt) ∧ x.toW.cell? ⟨qb, qo + k * 5 + 4, none⟩ = some (.slice fa yl.length fc) := fun x => by
          obtain ⟨b, o, h1, _, h2, h3, h4, h5, h6⟩ := erow hr2 (HB.out x) hlt HY.out
          injection h1 with h1
          injection h1 with h1 h1' _
          subst h1 h1'
          exact ⟨h2, h3, h4, h5, h6⟩
        have x0 := fun x => (rowx x).1
        have x1 := fun x => (rowx x).2.1
        have x2 := fun x => (rowx x).2.2.1
        have x3 := fun x => (rowx x).2.2.2.1
        have x4 := fun x => (rowx x).2.2.2.2
        have y0 := fun x => (rowy x).1
        have y1 := fun x => (rowy x).2.1
        have y2 := fun x => (rowy x).2.2.1
        have y3 := fun x => (rowy x).2.2.2.1
        have y4 := fun x => (rowy x).2.2.2.2
        obtain ⟨s, hs⟩ : ∃ q, sameE ⟨xk, xa, xr, xt, xl⟩ ⟨yk, ya, yr, yt, yl⟩ = q := ⟨_, rfl⟩
        have S1 : Hid (∀ x : Ext wr, Calls Try.prog 60 #[.agg #[.int .i64 xk, .int .i64 xa, .int .i64 xr, .int .i64 xt, .slice ea xl.length ec], .agg #[.int .i64 yk, .int .i64 ya, .int .i64 yr, .int .i64 yt, .slice fa yl.length fc]] x.toW fun r w' => r = .returned (.bool s) ∧ Below x.toW.heap.size x.toW w') := Lib.hid (fun x => by
          have := rsameE_any ⟨xk, xa, xr, xt, xl⟩ ⟨yk, ya, yr, yt, yl⟩ ea ec fa fc x.toW (hat.below (HB.out x)) (hau.below (HB.out x))
          rw [hs] at this
          exact this)
        have HSS := Lib.hid hs
        clear rowx rowy hs hat hau
        go_upto_region 6 with (fail)
        refine wp_region_ext wr (by kernel_rfl) (by kernel_rfl) (Below.refl _ _) ?_
        repeat (go_big_quiet_step (first
          | (go_at_call 60; with_reducible exact ext_below _ (u := .bool s) (S1.out _))))
        refine wpQuiet_nil ?_
        rintro w9 ⟨x9, rfl⟩
        have b9 := HB.out x9
        clear S1 x0 x1 x2 x3 x4 y0 y1 y2 y3 y4
        cases s
        · have HD : Hid (decide (els L = els M) = false) := Lib.hid (by
            rw [decide_eq_false_iff_not]
            intro e
            have := els_get e (j := k) (by rw [HN.out]; exact hlt) (by rw [HN2.out]; exact hlt)
            rw [HX.out, HY.out] at this
            have h1 := HSS.out
            have : (⟨xk, xa, xr, xt, xl⟩ : El) = ⟨yk, ya, yr, yt, yl⟩ := this
            rw [this, sameE_self] at h1
            cases h1)
          go_wp2_with fail
          go_ret
          exact ⟨by rw [HD.out]; rfl, b9⟩
        · have HS2 : Hid (∀ j, j < k + 1 → (L.getD j ep0).e = (M.getD j ep0).e) := Lib.hid (fun j hj => by
            by_cases e : j = k
            · subst e
              rw [HX.out, HY.out]
              exact sameE_eq HSS.out
            · exact HS.out j (by omega))
          go_wp2_with fail
          exact ⟨⟨k + 1, by simp, by omega, HS2, b9⟩, by simp [intOf]; omega⟩
      · obtain rfl : n = k := by omega
        have HD : Hid (decide (els L = els M) = true) := Lib.hid (by
          rw [decide_eq_true_eq]
          exact els_ext HLM.out (by rw [HN.out]; exact HS.out))
        go_wp2_with fail
        go_ret
        exact ⟨by rw [HD.out]; rfl, bb⟩
  · have HD : Hid (decide (els L = els M) = false) := Lib.hid (by
      rw [decide_eq_false_iff_not]
      intro e
      exact hlm (by rw [← els_len, ← els_len, e]))
    obtain ⟨n, hn⟩ : ∃ n, L.length = n := ⟨_, rfl⟩
    obtain ⟨m, hm⟩ : ∃ n, M.length = n := ⟨_, rfl⟩
    rw [hn, hm] at hlm
    rw [hn, hm]
    have g1 : ((n : Int) == (m : Int)) = false := by simp; omega
    have g2 : ((n : Int) != (m : Int)) = true := by simp; omega
    clear hn hm hlm h g
    go_enter Try.func36, Try.ntmps36
    go_wp2_with fail
    go_ret
    exact ⟨by rw [HD.out]; rfl, Below.refl _ _⟩
end Go.Proofs.Ytoconkgemakboaa.Ie
