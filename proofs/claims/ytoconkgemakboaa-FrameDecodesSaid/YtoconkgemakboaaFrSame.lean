/-
  Package frame: two frames, alike or not; the reference's too.
-/
import Derived.Test.YtoconkgemakboaaFrLaw
set_option maxRecDepth 100000
namespace Go.Proofs.Ytoconkgemakboaa.Fm
set_option linter.unusedVariables false
open Go.RowKit Lb Bf Ie

/-- Alike in all. -/
def sameF (f g : Fr) : Bool := (f.k == g.k) && ((f.s == g.s) && ((f.d == g.d) && ((f.q == g.q) && (decide (els' f = els' g) && (f.data == g.data)))))
where els' (f : Fr) : List El := f.ies
theorem sameF_self (f : Fr) : sameF f f = true := by simp [sameF]
theorem sameF_eq {f g : Fr} (h : sameF f g = true) : f = g := by
  unfold sameF sameF.els' at h
  simp only [Bool.and_eq_true, beq_iff_eq, decide_eq_true_eq] at h
  obtain ⟨h1, h2, h3, h4, h5, h6⟩ := h
  obtain ⟨a, b, c, d, e, f⟩ := f
  simp only at *
  subst h1 h2 h3 h4 h5 h6
  rfl
theorem fr_ext_own {v : World} {b : Nat} {t : TypeId} {cs : Array Value} (x : Ext v) (h : Lb.Own v b t cs) : Lb.Own x.toW b t cs := below_own x.ok h h.lt
set_option maxHeartbeats 1000000 in
theorem eqf_any (L M : List EP) (a : Option Addr) (c : Nat) (a2 : Option Addr) (c2 : Nat) (w : World) (h : Els w L a c) (g : Els w M a2 c2) :
    Calls Try.prog 33 #[.slice a L.length c, .slice a2 M.length c2, .func (.func 34) #[] #[]] w fun r w' => r = .returned (.bool (decide (els L = els M))) ∧ Below w.heap.size w w' := by
  by_cases hlm : L.length = M.length
  · have HLM := Lib.hid hlm
    have hc1 := h.lc
    have hc2 := g.lc
    have hm1 := h.cm
    have hm2 := g.cm
    unfold maxLen at hm1 hm2
    have hr1 := h.row
    have hr2 := g.row
    have HE := Lib.hid h.els
    have GE := Lib.hid g.els
    obtain ⟨n, hn⟩ : ∃ n, L.length = n := ⟨_, rfl⟩
    have HN := Lib.hid hn
    have hn2 : M.length = n := by omega
    have HN2 := Lib.hid hn2
    rw [hn] at hc1 hr1 ⊢
    rw [hn2] at hc2 hr2 ⊢
    clear hn hn2 hlm h g
    go_enter Try.func33, Try.ntmps33
    go_wp2_with fail
    go_loopw [17] (fun i wr => ∃ (k : Nat), i = .int .i64 k ∧ k ≤ n ∧ Hid (∀ j, j < k → (L.getD j ep0).e = (M.getD j ep0).e) ∧ Below w.heap.size w wr) (fun i _ => n - (intOf i).toNat)
    case atStart => exact ⟨0, rfl, by omega, Lib.hid (fun j hj => by omega), Below.refl _ _⟩
    case round =>
      obtain ⟨k, rfl, hk, HS, bb⟩ := hrel
      by_cases hlt : k < n
      · obtain ⟨x, hx⟩ : ∃ x, L.getD k ep0 = x := ⟨_, rfl⟩
        obtain ⟨y, hy⟩ : ∃ y, M.getD k ep0 = y := ⟨_, rfl⟩
        have b2 := (Below.refl wr.heap.size wr).alloc (Nat.le_refl _) (.cells x.vals 52)
        have bb2 := bb.trans (b2.mono bb.size)
        obtain ⟨pb, po, rfl, hpb, x0, x1, x2, x3, x4⟩ := erow hr1 bb hlt hx
        obtain ⟨qb, qo, rfl, hqb, y0, y1, y2, y3, y4⟩ := erow hr2 bb2 hlt hy
        have hat := HE.out k (by rw [HN.out]; exact hlt)
        have hau := GE.out k (by rw [HN2.out]; exact hlt)
        rw [hx] at hat
        rw [hy] at hau
        have HX := Lib.hid hx
        have HY := Lib.hid hy
        have o2 := Own.new wr 52 x.vals
        clear hx hy
        obtain ⟨⟨xk, xa, xr, xt, xl⟩, ea, ec⟩ := x
        obtain ⟨⟨yk, ya, yr, yt, yl⟩, fa, fc⟩ := y
        unfold EP.vals El.vals at *
        simp only at *
        go_upto_region 6 with (fail)
        generalize wr.alloc (.cells #[.int .i64 xk, .int .i64 xa, .int .i64 xr, .int .i64 xt, .slice ea xl.length ec] 52) = v1 at *
        obtain ⟨g1, hg1⟩ : ∃ g, wr.heap.size = g := ⟨_, rfl⟩
        rw [hg1] at o2 ⊢
        have o3 := Own.new v1 52 #[.int .i64 yk, .int .i64 ya, .int .i64 yr, .int .i64 yt, .slice fa yl.length fc]
        have b3 := (Below.refl v1.heap.size v1).alloc (Nat.le_refl _) (.cells #[.int .i64 yk, .int .i64 ya, .int .i64 yr, .int .i64 yt, .slice fa yl.length fc] 52)
        have bb3 := bb2.trans (b3.mono bb2.size)
        have o2 := below_own b3 o2 o2.lt
        go_upto_region 7 with (fail)
        generalize v1.alloc (.cells #[.int .i64 yk, .int .i64 ya, .int .i64 yr, .int .i64 yt, .slice fa yl.length fc] 52) = v2 at *
        obtain ⟨g2, hg2⟩ : ∃ g, v1.heap.size = g := ⟨_, rfl⟩
        rw [hg2] at o3 ⊢
        clear hg1 hg2 b2 b3 bb2 x0 x1 x2 x3 x4 y0 y1 y2 y3 y4
        have x0 : ∀ x : Ext v2, x.toW.cell? ⟨g1, 0, none⟩ = some (.int .i64 xk) := fun x => (fr_ext_own x o2).cell 0
        have x1 : ∀ x : Ext v2, x.toW.cell? ⟨g1, 1, none⟩ = some (.int .i64 xa) := fun x => (fr_ext_own x o2).cell 1
        have x2 : ∀ x : Ext v2, x.toW.cell? ⟨g1, 2, none⟩ = some (.int .i64 xr) := fun x => (fr_ext_own x o2).cell 2
        have x3 : ∀ x : Ext v2, x.toW.cell? ⟨g1, 3, none⟩ = some (.int .i64 xt) := fun x => (fr_ext_own x o2).cell 3
        have x4 : ∀ x : Ext v2, x.toW.cell? ⟨g1, 4, none⟩ = some (.slice ea xl.length ec) := fun x => (fr_ext_own x o2).cell 4
        have y0 : ∀ x : Ext v2, x.toW.cell? ⟨g2, 0, none⟩ = some (.int .i64 yk) := fun x => (fr_ext_own x o3).cell 0
        have y1 : ∀ x : Ext v2, x.toW.cell? ⟨g2, 1, none⟩ = some (.int .i64 ya) := fun x => (fr_ext_own x o3).cell 1
        have y2 : ∀ x : Ext v2, x.toW.cell? ⟨g2, 2, none⟩ = some (.int .i64 yr) := fun x => (fr_ext_own x o3).cell 2
        have y3 : ∀ x : Ext v2, x.toW.cell? ⟨g2, 3, none⟩ = some (.int .i64 yt) := fun x => (fr_ext_own x o3).cell 3
        have y4 : ∀ x : Ext v2, x.toW.cell? ⟨g2, 4, none⟩ = some (.slice fa yl.length fc) := fun x => (fr_ext_own x o3).cell 4
        obtain ⟨s, hs⟩ : ∃ q, sameE ⟨xk, xa, xr, xt, xl⟩ ⟨yk, ya, yr, yt, yl⟩ = q := ⟨_, rfl⟩
        have S1 : Hid (∀ x : Ext v2, Calls Try.prog 34 #[.agg #[.int .i64 xk, .int .i64 xa, .int .i64 xr, .int .i64 xt, .slice ea xl.length ec], .agg #[.int .i64 yk, .int .i64 ya, .int .i64 yr, .int .i64 yt, .slice fa yl.length fc]] x.toW fun r w' => r = .returned (.bool s) ∧ Below x.toW.heap.size x.toW w') := Lib.hid (fun x => by
          have := sameE_any ⟨xk, xa, xr, xt, xl⟩ ⟨yk, ya, yr, yt, yl⟩ ea ec fa fc x.toW (hat.below (bb3.trans (x.ok.mono bb3.size))) (hau.below (bb3.trans (x.ok.mono bb3.size)))
          rw [hs] at this
          exact this)
        have HSS := Lib.hid hs
        have HB3 := Lib.hid bb3
        clear o2 o3 hs hat hau bb3
        obtain ⟨z0, hz0⟩ : ∃ x : Ext v2, x.toW = v2 := ⟨⟨v2, Below.refl _ _⟩, rfl⟩
        rw [← hz0]
        clear hz0
        go_wp2_with fail
        with_reducible refine (S1.out _).mono ?_
        rintro r w9 ⟨rfl, b9⟩
        have b9 := HB3.out.trans ((z0.ok.trans (b9.mono z0.ok.size)).mono HB3.out.size)
        clear S1 x0 x1 x2 x3 x4 y0 y1 y2 y3 y4
        cases s
        · have HD : Hid (decide (els L = els M) = false) := Lib.hid (by
            rw [decide_eq_false_iff_not]
            intro e
            have := els_get e (j := k) (by rw [HN.out]; exact hlt) (by rw [HN2.out]; exact hlt)
            rw [HX.out, HY.out] at this
            have h1 := HSS.out
            have : (⟨xk, xa, xr, xt, xl⟩ : El) = ⟨yk, ya, yr, yt, yl⟩ := this
            rw [this, sameE_self] at h1
            cases h1)
          go_wp2_with fail
          go_ret
          exact ⟨by rw [HD.out]; rfl, b9⟩
        · have HS2 : Hid (∀ j, j < k + 1 → (L.getD j ep0).e = (M.getD j ep0).e) := Lib.hid (fun j hj => by
            by_cases e : j = k
            · subst e
              rw [HX.out, HY.out]
              exact sameE_eq HSS.out
            · exact HS.out j (by omega))
          go_wp2_with fail
          exact ⟨⟨k + 1, by simp, by omega, HS2, b9⟩, by simp [intOf]; omega⟩
      · obtain rfl : n = k := by omega
        have HD : Hid (decide (els L = els M) = true) := Lib.hid (by
          rw [decide_eq_true_eq]
          exact els_ext HLM.out (by rw [HN.out]; exact HS.out))
        go_wp2_with fail
        go_ret
        exact ⟨by rw [HD.out]; rfl, bb⟩
  · have HD : Hid (decide (els L = els M) = false) := Lib.hid (by
      rw [decide_eq_false_iff_not]
      intro e
      exact hlm (by rw [← els_len, ← els_len, e]))
    obtain ⟨n, hn⟩ : ∃ n, L.length = n := ⟨_, rfl⟩
    obtain ⟨m, hm⟩ : ∃ n, M.length = n := ⟨_, rfl⟩
    rw [hn, hm] at hlm ⊢
    have g1 : ((n : Int) != (m : Int)) = true := by simp; omega
    clear hn hm hlm h g
    go_enter Try.func33, Try.ntmps33
    go_wp2_with fail
    go_ret
    exact ⟨by rw [HD.out]; rfl, Below.refl _ _⟩
theorem beq_any (l m : List Int) (a : Option Addr) (c : Nat) (a2 : Option Addr) (c2 : Nat) (w : World) (h : Row w a l.length (bval l)) (g : Row w a2 m.length (bval m)) (hl : okD' l) (hm : okD' m) :
    Calls Try.prog 35 #[.slice a l.length c, .slice a2 m.length c2] w fun r w' => r = .returned (.bool (decide (l = m))) ∧ Below w.heap.size w w' := by
  have v1 := conv_b c h
  have v2 := conv_b c2 g
  have t1 := bstr_beq (l := l) (m := m) hl hm
  generalize bstr l = s1 at *
  generalize bstr m = s2 at *
  generalize decide (l = m) = d at *
  generalize l.length = n at *
  generalize m.length = n2 at *
  clear h g
  go_enter Try.func35, Try.ntmps35
  go_wp2_with fail
  go_ret
  exact ⟨rfl, Below.refl _ _⟩
set_option maxHeartbeats 1000000 in
theorem sameF_any (p p' : Fp) (w : World) (h : p.At w) (h' : p'.At w) :
    Calls Try.prog 15 #[.agg p.vals, .agg p'.vals] w fun r w' => r = .returned (.bool (sameF p.fr p'.fr)) ∧ Below w.heap.size w w' := by
  have o1 := Own.new w 25 p.vals
  have b0 := (Below.refl w.heap.size w).alloc (Nat.le_refl _) (.cells p.vals 25)
  have o2 := Own.new (w.alloc (.cells p.vals 25)) 25 p'.vals
  have b1 := (Below.refl (w.alloc (.cells p.vals 25)).heap.size (w.alloc (.cells p.vals 25))).alloc (Nat.le_refl _) (.cells p'.vals 25)
  have b2 := b0.trans (b1.mono b0.size)
  have o1 := below_own b1 o1 o1.lt
  have HA := Lib.hid (h.below b2)
  have HA' := Lib.hid (h'.below b2)
  clear h h' b0 b1
  obtain ⟨S, hS⟩ : ∃ s, sameF p.fr p'.fr = s := ⟨_, rfl⟩
  have HS := Lib.hid hS
  rw [hS]
  clear hS
  obtain ⟨pk, ps, pd, pq, pL, pa, pc, pdata, pb, pe⟩ := p
  obtain ⟨qk, qs, qd, qq, qL, qa, qc, qdata, qb, qe⟩ := p'
  have HSV : Hid (S = ((pk == qk) && ((ps == qs) && ((pd == qd) && ((pq == qq) && (decide (els pL = els qL) && decide (pdata = qdata))))))) := Lib.hid (by
    rw [← HS.out]
    have : (pdata == qdata) = decide (pdata = qdata) := by
      cases h : pdata == qdata
      · exact (decide_eq_false (by simpa using h)).symm
      · exact (decide_eq_true (by simpa using h)).symm
    rw [← this]
    rfl)
  unfold Fp.vals at *
  simp only at *
  clear HS
  obtain ⟨d5, hd5⟩ : ∃ b, decide (els pL = els qL) = b := ⟨_, rfl⟩
  obtain ⟨d6, hd6⟩ : ∃ b, decide (pdata = qdata) = b := ⟨_, rfl⟩
  rw [hd5, hd6] at HSV
  have HD5 := Lib.hid hd5
  have HD6 := Lib.hid hd6
  clear hd5 hd6
  obtain ⟨nd, hnd⟩ : ∃ n, pdata.length = n := ⟨_, rfl⟩
  have HND := Lib.hid hnd
  rw [hnd] at o1 o2 b2 HA HA' ⊢
  obtain ⟨nl, hnl⟩ : ∃ n, pL.length = n := ⟨_, rfl⟩
  have HNL := Lib.hid hnl
  rw [hnl] at o1 o2 b2 HA HA' ⊢
  obtain ⟨md, hmd⟩ : ∃ n, qdata.length = n := ⟨_, rfl⟩
  have HMD := Lib.hid hmd
  rw [hmd] at o1 o2 b2 HA HA' ⊢
  obtain ⟨ml, hml⟩ : ∃ n, qL.length = n := ⟨_, rfl⟩
  have HML := Lib.hid hml
  rw [hml] at o1 o2 b2 HA HA' ⊢
  clear hnd hnl hmd hml
  go_enter Try.func15, Try.ntmps15
  go_upto_region 1 with (fail)
  have hsz : (w.alloc (.cells #[.int .i64 pk, .int .i64 ps, .int .i64 pd, .int .i64 pq, .slice pa nl pc, .slice pb nd pe] 25)).heap.size = w.heap.size + 1 := by simp
  rw [hsz] at o2
  obtain ⟨g2, hg2⟩ : ∃ g, w.heap.size + 1 = g := ⟨_, rfl⟩
  rw [hg2] at o2 ⊢
  clear hsz
  generalize (w.alloc (.cells #[.int .i64 pk, .int .i64 ps, .int .i64 pd, .int .i64 pq, .slice pa nl pc, .slice pb nd pe] 25)).alloc (.cells #[.int .i64 qk, .int .i64 qs, .int .i64 qd, .int .i64 qq, .slice qa ml qc, .slice qb md qe] 25) = v2 at *
  have hgs := b2.size
  obtain ⟨g1, hg1⟩ : ∃ g, w.heap.size = g := ⟨_, rfl⟩
  rw [hg1] at o1 b2 hgs ⊢
  have HG := Lib.hid hg1
  clear hg1 hg2
  have x0 : ∀ x : Ext v2, x.toW.cell? ⟨g1, 0, none⟩ = some (.int .i64 pk) := fun x => (fr_ext_own x o1).cell 0
  have x1 : ∀ x : Ext v2, x.toW.cell? ⟨g1, 1, none⟩ = some (.int .i64 ps) := fun x => (fr_ext_own x o1).cell 1
  have x2 : ∀ x : Ext v2, x.toW.cell? ⟨g1, 2, none⟩ = some (.int .i64 pd) := fun x => (fr_ext_own x o1).cell 2
  have x3 : ∀ x : Ext v2, x.toW.cell? ⟨g1, 3, none⟩ = some (.int .i64 pq) := fun x => (fr_ext_own x o1).cell 3
  have x4 : ∀ x : Ext v2, x.toW.cell? ⟨g1, 4, none⟩ = some (.slice pa nl pc) := fun x => (fr_ext_own x o1).cell 4
  have x5 : ∀ x : Ext v2, x.toW.cell? ⟨g1, 5, none⟩ = some (.slice pb nd pe) := fun x => (fr_ext_own x o1).cell 5
  have y0 : ∀ x : Ext v2, x.toW.cell? ⟨g2, 0, none⟩ = some (.int .i64 qk) := fun x => (fr_ext_own x o2).cell 0
  have y1 : ∀ x : Ext v2, x.toW.cell? ⟨g2, 1, none⟩ = some (.int .i64 qs) := fun x => (fr_ext_own x o2).cell 1
  have y2 : ∀ x : Ext v2, x.toW.cell? ⟨g2, 2, none⟩ = some (.int .i64 qd) := fun x => (fr_ext_own x o2).cell 2
  have y3 : ∀ x : Ext v2, x.toW.cell? ⟨g2, 3, none⟩ = some (.int .i64 qq) := fun x => (fr_ext_own x o2).cell 3
  have y4 : ∀ x : Ext v2, x.toW.cell? ⟨g2, 4, none⟩ = some (.slice qa ml qc) := fun x => (fr_ext_own x o2).cell 4
  have y5 : ∀ x : Ext v2, x.toW.cell? ⟨g2, 5, none⟩ = some (.slice qb md qe) := fun x => (fr_ext_own x o2).cell 5
  have S1 : Hid (∀ x : Ext v2, Calls Try.prog 33 #[.slice pa nl pc, .slice qa ml qc, .func (.func 34) #[] #[]] x.toW fun r w' => r = .returned (.bool d5) ∧ Below x.toW.heap.size x.toW w') := Lib.hid (fun x => by
    have := eqf_any pL qL pa pc qa qc x.toW ((HA.out.below x.ok).els) ((HA'.out.below x.ok).els)
    rw [HNL.out, HML.out, HD5.out] at this
    exact this)
  have S2 : Hid (∀ x : Ext v2, Calls Try.prog 35 #[.slice pb nd pe, .slice qb md qe] x.toW fun r w' => r = .returned (.bool d6) ∧ Below x.toW.heap.size x.toW w') := Lib.hid (fun x => by
    have := beq_any pdata qdata pb pe qb qe x.toW ((HA.out.below x.ok).row) ((HA'.out.below x.ok).row) HA.out.ok HA'.out.ok
    rw [HND.out, HMD.out, HD6.out] at this
    exact this)
  clear o1 o2
  obtain ⟨z0, hz0⟩ : ∃ x : Ext v2, x.toW = v2 := ⟨⟨v2, Below.refl _ _⟩, rfl⟩
  rw [← hz0]
  clear hz0
  obtain ⟨d1, e1⟩ : ∃ b, (pk == qk) = b := ⟨_, rfl⟩
  obtain ⟨d2, e2⟩ : ∃ b, (ps == qs) = b := ⟨_, rfl⟩
  obtain ⟨d3, e3⟩ : ∃ b, (pd == qd) = b := ⟨_, rfl⟩
  obtain ⟨d4, e4⟩ : ∃ b, (pq == qq) = b := ⟨_, rfl⟩
  rw [e1, e2, e3, e4] at HSV
  cases d1
  · go_wp2_with fail
    go_ret
    exact ⟨by rw [HSV.out]; try rfl, by rw [HG.out]; exact b2.trans (z0.ok.mono hgs)⟩
  cases d2
  · go_wp2_with fail
    go_ret
    exact ⟨by rw [HSV.out]; try rfl, by rw [HG.out]; exact b2.trans (z0.ok.mono hgs)⟩
  cases d3
  · go_wp2_with fail
    go_ret
    exact ⟨by rw [HSV.out]; try rfl, by rw [HG.out]; exact b2.trans (z0.ok.mono hgs)⟩
  cases d4
  · go_wp2_with fail
    go_ret
    exact ⟨by rw [HSV.out]; try rfl, by rw [HG.out]; exact b2.trans (z0.ok.mono hgs)⟩
  go_wp2_with fail
  with_reducible refine (S1.out _).mono ?_
  rintro r w9 ⟨rfl, bb⟩
  obtain ⟨z1, hz1⟩ : ∃ y : Ext v2, w9 = y.toW := ⟨⟨w9, z0.ok.trans (bb.mono z0.ok.size)⟩, rfl⟩
  subst hz1
  clear bb
  cases d5
  · go_wp2_with fail
    go_ret
    exact ⟨by rw [HSV.out]; try rfl, by rw [HG.out]; exact b2.trans (z1.ok.mono hgs)⟩
  go_wp2_with fail
  with_reducible refine (S2.out _).mono ?_
  rintro r w9 ⟨rfl, bb⟩
  obtain ⟨z2, hz2⟩ : ∃ y : Ext v2, w9 = y.toW := ⟨⟨w9, z1.ok.trans (bb.mono z1.ok.size)⟩, rfl⟩
  subst hz2
  clear bb
  go_wp2_with fail
  go_ret
  exact ⟨by rw [HSV.out]; try rfl, by rw [HG.out]; exact b2.trans (z2.ok.mono hgs)⟩
set_option maxHeartbeats 1000000 in
theorem rsameF_any (p p' : Fp) (w : World) (h : p.At w) (h' : p'.At w) :
    Calls Try.prog 16 #[.agg p.vals, .agg p'.vals] w fun r w' => r = .returned (.bool (sameF p.fr p'.fr)) ∧ Below w.heap.size w w' := by
  have o1 := Own.new w 25 p.vals
  have b0 := (Below.refl w.heap.size w).alloc (Nat.le_refl _) (.cells p.vals 25)
  have o2 := Own.new (w.alloc (.cells p.vals 25)) 25 p'.vals
  have b1 := (Below.refl (w.alloc (.cells p.vals 25)).heap.size (w.alloc (.cells p.vals 25))).alloc (Nat.le_refl _) (.cells p'.vals 25)
  have b2 := b0.trans (b1.mono b0.size)
  have o1 := below_own b1 o1 o1.lt
  have HA := Lib.hid (h.below b2)
  have HA' := Lib.hid (h'.below b2)
  clear h h' b0 b1
  obtain ⟨S, hS⟩ : ∃ s, sameF p.fr p'.fr = s := ⟨_, rfl⟩
  have HS := Lib.hid hS
  rw [hS]
  clear hS
  obtain ⟨pk, ps, pd, pq, pL, pa, pc, pdata, pb, pe⟩ := p
  obtain ⟨qk, qs, qd, qq, qL, qa, qc, qdata, qb, qe⟩ := p'
  have HSV : Hid (S = ((pk == qk) && ((ps == qs) && ((pd == qd) && ((pq == qq) && (decide (els pL = els qL) && decide (pdata = qdata))))))) := Lib.hid (by
    rw [← HS.out]
    have : (pdata == qdata) = decide (pdata = qdata) := by
      cases h : pdata == qdata
      · exact (decide_eq_false (by simpa using h)).symm
      · exact (decide_eq_true (by simpa using h)).symm
    rw [← this]
    rfl)
  unfold Fp.vals at *
  simp only at *
  clear HS
  obtain ⟨d5, hd5⟩ : ∃ b, decide (els pL = els qL) = b := ⟨_, rfl⟩
  obtain ⟨d6, hd6⟩ : ∃ b, decide (pdata = qdata) = b := ⟨_, rfl⟩
  rw [hd5, hd6] at HSV
  have HD5 := Lib.hid hd5
  have HD6 := Lib.hid hd6
  clear hd5 hd6
  obtain ⟨nd, hnd⟩ : ∃ n, pdata.length = n := ⟨_, rfl⟩
  have HND := Lib.hid hnd
  rw [hnd] at o1 o2 b2 HA HA' ⊢
  obtain ⟨nl, hnl⟩ : ∃ n, pL.length = n := ⟨_, rfl⟩
  have HNL := Lib.hid hnl
  rw [hnl] at o1 o2 b2 HA HA' ⊢
  obtain ⟨md, hmd⟩ : ∃ n, qdata.length = n := ⟨_, rfl⟩
  have HMD := Lib.hid hmd
  rw [hmd] at o1 o2 b2 HA HA' ⊢
  obtain ⟨ml, hml⟩ : ∃ n, qL.length = n := ⟨_, rfl⟩
  have HML := Lib.hid hml
  rw [hml] at o1 o2 b2 HA HA' ⊢
  clear hnd hnl hmd hml
  go_enter Try.func16, Try.ntmps16
  go_upto_region 1 with (fail)
  have hsz : (w.alloc (.cells #[.int .i64 pk, .int .i64 ps, .int .i64 pd, .int .i64 pq, .slice pa nl pc, .slice pb nd pe] 25)).heap.size = w.heap.size + 1 := by simp
  rw [hsz] at o2
  obtain ⟨g2, hg2⟩ : ∃ g, w.heap.size + 1 = g := ⟨_, rfl⟩
  rw [hg2] at o2 ⊢
  clear hsz
  generalize (w.alloc (.cells #[.int .i64 pk, .int .i64 ps, .int .i64 pd, .int .i64 pq, .slice pa nl pc, .slice pb nd pe] 25)).alloc (.cells #[.int .i64 qk, .int .i64 qs, .int .i64 qd, .int .i64 qq, .slice qa ml qc, .slice qb md qe] 25) = v2 at *
  have hgs := b2.size
  obtain ⟨g1, hg1⟩ : ∃ g, w.heap.size = g := ⟨_, rfl⟩
  rw [hg1] at o1 b2 hgs ⊢
  have HG := Lib.hid hg1
  clear hg1 hg2
  have x0 : ∀ x : Ext v2, x.toW.cell? ⟨g1, 0, none⟩ = some (.int .i64 pk) := fun x => (fr_ext_own x o1).cell 0
  have x1 : ∀ x : Ext v2, x.toW.cell? ⟨g1, 1, none⟩ = some (.int .i64 ps) := fun x => (fr_ext_own x o1).cell 1
  have x2 : ∀ x : Ext v2, x.toW.cell? ⟨g1, 2, none⟩ = some (.int .i64 pd) := fun x => (fr_ext_own x o1).cell 2
  have x3 : ∀ x : Ext v2, x.toW.cell? ⟨g1, 3, none⟩ = some (.int .i64 pq) := fun x => (fr_ext_own x o1).cell 3
  have x4 : ∀ x : Ext v2, x.toW.cell? ⟨g1, 4, none⟩ = some (.slice pa nl pc) := fun x => (fr_ext_own x o1).cell 4
  have x5 : ∀ x : Ext v2, x.toW.cell? ⟨g1, 5, none⟩ = some (.slice pb nd pe) := fun x => (fr_ext_own x o1).cell 5
  have y0 : ∀ x : Ext v2, x.toW.cell? ⟨g2, 0, none⟩ = some (.int .i64 qk) := fun x => (fr_ext_own x o2).cell 0
  have y1 : ∀ x : Ext v2, x.toW.cell? ⟨g2, 1, none⟩ = some (.int .i64 qs) := fun x => (fr_ext_own x o2).cell 1
  have y2 : ∀ x : Ext v2, x.toW.cell? ⟨g2, 2, none⟩ = some (.int .i64 qd) := fun x => (fr_ext_own x o2).cell 2
  have y3 : ∀ x : Ext v2, x.toW.cell? ⟨g2, 3, none⟩ = some (.int .i64 qq) := fun x => (fr_ext_own x o2).cell 3
  have y4 : ∀ x : Ext v2, x.toW.cell? ⟨g2, 4, none⟩ = some (.slice qa ml qc) := fun x => (fr_ext_own x o2).cell 4
  have y5 : ∀ x : Ext v2, x.toW.cell? ⟨g2, 5, none⟩ = some (.slice qb md qe) := fun x => (fr_ext_own x o2).cell 5
  have S1 : Hid (∀ x : Ext v2, Calls Try.prog 36 #[.slice pa nl pc, .slice qa ml qc] x.toW fun r w' => r = .returned (.bool d5) ∧ Below x.toW.heap.size x.toW w') := Lib.hid (fun x => by
    have := rsames_any pL qL pa pc qa qc x.toW ((HA.out.below x.ok).els) ((HA'.out.below x.ok).els)
    rw [HNL.out, HML.out, HD5.out] at this
    exact this)
  have v1 : ∀ x : Ext v2, (convert 23 9 (.slice pb nd pe)).run Try.prog x.toW = .ok (.string (bstr pdata)) x.toW := fun x => by
    have := conv_b pe ((HA.out.below x.ok).row)
    simp only at this
    rwa [HND.out] at this
  have v3 : ∀ x : Ext v2, (convert 23 9 (.slice qb md qe)).run Try.prog x.toW = .ok (.string (bstr qdata)) x.toW := fun x => by
    have := conv_b qe ((HA'.out.below x.ok).row)
    simp only at this
    rwa [HMD.out] at this
  have t1 := bstr_beq (l := pdata) (m := qdata) HA.out.ok HA'.out.ok
  rw [HD6.out] at t1
  generalize bstr pdata = s1 at *
  generalize bstr qdata = s2 at *
  clear o1 o2
  obtain ⟨z0, hz0⟩ : ∃ x : Ext v2, x.toW = v2 := ⟨⟨v2, Below.refl _ _⟩, rfl⟩
  rw [← hz0]
  clear hz0
  obtain ⟨d1, e1⟩ : ∃ b, (pk == qk) = b := ⟨_, rfl⟩
  obtain ⟨d2, e2⟩ : ∃ b, (ps == qs) = b := ⟨_, rfl⟩
  obtain ⟨d3, e3⟩ : ∃ b, (pd == qd) = b := ⟨_, rfl⟩
  obtain ⟨d4, e4⟩ : ∃ b, (pq == qq) = b := ⟨_, rfl⟩
  rw [e1, e2, e3, e4] at HSV
  cases d1
  · go_wp2_with fail
    go_ret
    exact ⟨by rw [HSV.out]; try rfl, by rw [HG.out]; exact b2.trans (z0.ok.mono hgs)⟩
  cases d2
  · go_wp2_with fail
    go_ret
    exact ⟨by rw [HSV.out]; try rfl, by rw [HG.out]; exact b2.trans (z0.ok.mono hgs)⟩
  cases d3
  · go_wp2_with fail
    go_ret
    exact ⟨by rw [HSV.out]; try rfl, by rw [HG.out]; exact b2.trans (z0.ok.mono hgs)⟩
  cases d4
  · go_wp2_with fail
    go_ret
    exact ⟨by rw [HSV.out]; try rfl, by rw [HG.out]; exact b2.trans (z0.ok.mono hgs)⟩
  go_wp2_with fail
  with_reducible refine (S1.out _).mono ?_
  rintro r w9 ⟨rfl, bb⟩
  obtain ⟨z1, hz1⟩ : ∃ y : Ext v2, w9 = y.toW := ⟨⟨w9, z0.ok.trans (bb.mono z0.ok.size)⟩, rfl⟩
  subst hz1
  clear bb
  cases d5
  · go_wp2_with fail
    go_ret
    exact ⟨by rw [HSV.out]; try rfl, by rw [HG.out]; exact b2.trans (z1.ok.mono hgs)⟩
  go_wp2_with fail
  go_ret
  exact ⟨by rw [HSV.out]; try rfl, by rw [HG.out]; exact b2.trans (z1.ok.mono hgs)⟩
end Go.Proofs.Ytoconkgemakboaa.Fm
