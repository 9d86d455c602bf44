/-
  Package frame: the reference: which frames may be. The reference's reader: bytes taken apart.
-/
import Derived.Test.YtiflmdekcjbmbaaGreatGNodeNil28
import Derived.Test.YtiflmdekcjbmbaaGreatGNodeNil21
import Derived.Test.YtiflmdekcjbmbaaGreatGNodeNil27
set_option maxRecDepth 100000
namespace Go.Proofs.YtiflmdekcjbmbaaGreat.Fm
set_option linter.unusedVariables false
set_option linter.unusedSimpArgs false
open Go.RowKit Lb Bf Ie

theorem rnode_any (x : Int) (w : World) : Calls Tryz.prog 122 #[.int .i64 x] w fun r w' => r = .returned (.bool (ndB x)) ∧ w = w' := by
  by_cases h1 : 0 ≤ x
  · by_cases h2 : x < 16
    · have HD : Hid (ndB x = true) := Lib.hid (decide_eq_true (And.intro h1 h2))
      go_enter Tryz.func122, Tryz.ntmps122
      go_wp2_with fail
      go_ret
      exact ⟨by rw [HD.out]; rfl, rfl⟩
    · have HD : Hid (ndB x = false) := Lib.hid (decide_eq_false (fun h => h2 h.2))
      go_enter Tryz.func122, Tryz.ntmps122
      go_wp2_with fail
      go_ret
      exact ⟨by rw [HD.out]; rfl, rfl⟩
  · have HD : Hid (ndB x = false) := Lib.hid (decide_eq_false (fun h => h1 h.1))
    go_enter Tryz.func122, Tryz.ntmps122
    go_wp2_with fail
    go_ret
    exact ⟨by rw [HD.out]; rfl, rfl⟩
theorem mayF_nok {f : Fr} (h : f.k < 1 ∨ 5 < f.k) : mayF f = false := by
  cases hm : mayF f
  · rfl
  · have := (mayF_out hm).2.2.2.2.2
    omega
theorem mayL_long {l : List El} (h : ¬ l.length ≤ 4) : mayL l = false := by
  unfold mayL
  rw [decide_eq_false h]
  rfl
set_option maxHeartbeats 4000000 in
theorem rmayF_any (p : Fp) (w : World) (h : p.At w) (hm : ∀ k, k < p.L.length → (p.L.getD k ep0).e.list.length ≤ 1000000) :
    Calls Tryz.prog 53 #[.agg p.vals] w fun r w' => r = .returned (.bool (mayF p.fr)) ∧ Below w.heap.size w w' := by
  have o1 := Own.new w 37 p.vals
  have b0 := (Below.refl w.heap.size w).alloc (Nat.le_refl _) (.cells p.vals 37)
  have h1 := h.below b0
  have hdm := h.dm
  have hdc := h.dc
  have hlc := h.els.lc
  have hlm := h.els.cm
  unfold maxLen at hdm hlm
  have HMM := Lib.hid hm
  clear h hm
  obtain ⟨pk, ps, pd, pq, pL, pa, pc, pdata, pb, pe⟩ := p
  have HF : Hid ((⟨pk, ps, pd, pq, pL, pa, pc, pdata, pb, pe⟩ : Fp).fr = ⟨pk, ps, pd, pq, els pL, pdata⟩) := Lib.hid rfl
  unfold Fp.vals at *
  simp only at *
  obtain ⟨nd, hnd⟩ : ∃ n, pdata.length = n := ⟨_, rfl⟩
  have HND := Lib.hid hnd
  rw [hnd] at o1 b0 h1 hdc ⊢
  obtain ⟨nl, hnl⟩ : ∃ n, pL.length = n := ⟨_, rfl⟩
  have HNL := Lib.hid hnl
  rw [hnl] at o1 b0 h1 hlc ⊢
  go_enter Tryz.func53, Tryz.ntmps53
  go_upto_region 1 with (fail)
  generalize w.alloc (.cells #[.int .i64 pk, .int .i64 ps, .int .i64 pd, .int .i64 pq, .slice pa nl pc, .slice pb nd pe] 37) = w1 at *
  have x0 : w1.cell? ⟨w.heap.size, 0, none⟩ = some (.int .i64 pk) := o1.cell 0
  have x1 : w1.cell? ⟨w.heap.size, 1, none⟩ = some (.int .i64 ps) := o1.cell 1
  have x2 : w1.cell? ⟨w.heap.size, 2, none⟩ = some (.int .i64 pd) := o1.cell 2
  have x3 : w1.cell? ⟨w.heap.size, 3, none⟩ = some (.int .i64 pq) := o1.cell 3
  have x4 : w1.cell? ⟨w.heap.size, 4, none⟩ = some (.slice pa nl pc) := o1.cell 4
  have x5 : w1.cell? ⟨w.heap.size, 5, none⟩ = some (.slice pb nd pe) := o1.cell 5
  have HH1 := Lib.hid h1
  clear hnd hnl h1
  by_cases k0 : pk < 1
  · clear hlm hdm
    have HD : Hid (mayF ⟨pk, ps, pd, pq, els pL, pdata⟩ = false) := Lib.hid (mayF_nok (.inl k0))
    have t0 : decide (pk < 1) = true := decide_eq_true k0
    clear k0
    go_wp2_with fail
    go_ret
    exact ⟨by rw [HF.out, HD.out]; rfl, b0⟩
  have t0 : decide (pk < 1) = false := decide_eq_false k0
  by_cases k5 : 5 < pk
  · clear hlm hdm
    have HD : Hid (mayF ⟨pk, ps, pd, pq, els pL, pdata⟩ = false) := Lib.hid (mayF_nok (.inr k5))
    have t1 : decide (5 < pk) = true := decide_eq_true k5
    clear k5 k0
    go_wp2_with fail
    go_ret
    exact ⟨by rw [HF.out, HD.out]; rfl, b0⟩
  have t1 : decide (5 < pk) = false := decide_eq_false k5
  cases hs : ndB ps
  · clear hlm hdm
    have HD : Hid (mayF ⟨pk, ps, pd, pq, els pL, pdata⟩ = false) := Lib.hid (mayF_no1 hs)
    clear k0 k5
    go_wp2_with fail
    with_reducible refine (rnode_any _ _).mono ?_
    rintro r w' ⟨rfl, rfl⟩
    go_wp2_with fail
    go_ret
    exact ⟨by rw [HF.out, HD.out]; rfl, b0⟩
  have hDST : dstB ⟨pk, ps, pd, pq, els pL, pdata⟩ = (!(pd == ps) && ((pd == 64) || ndB pd)) := rfl
  obtain ⟨e6, he6⟩ : ∃ e, (pd == ps) = e := ⟨_, rfl⟩
  obtain ⟨e7, he7⟩ : ∃ e, (pd == 64) = e := ⟨_, rfl⟩
  have he7' : (pd != 64) = !e7 := by rw [← he7]; rfl
  obtain ⟨e8, he8⟩ : ∃ e, ndB pd = e := ⟨_, rfl⟩
  rw [he6, he7, he8] at hDST
  have HDST := Lib.hid hDST
  clear hDST
  by_cases hd78 : e8 = false ∧ e7 = false
  · obtain ⟨rfl, rfl⟩ := hd78
    simp only [Bool.not_false] at he7'
    clear hlm hdm
    have HD : Hid (mayF ⟨pk, ps, pd, pq, els pL, pdata⟩ = false) := Lib.hid (mayF_no6 (by rw [HDST.out]; simp))
    go_wp2_with fail
    with_reducible refine (rnode_any _ _).mono ?_
    rintro r w' ⟨rfl, rfl⟩
    go_wp2_with fail
    with_reducible refine (rnode_any _ _).mono ?_
    rintro r w' ⟨rfl, rfl⟩
    go_wp2_with fail
    go_ret
    exact ⟨by rw [HF.out, HD.out]; rfl, b0⟩
  have e7t : (e8 = true ∨ (e8 = false ∧ e7 = true)) := by cases e7 <;> cases e8 <;> simp at hd78 ⊢
  clear hd78
  cases e6 with
  | true =>
    clear hlm hdm
    have HD : Hid (mayF ⟨pk, ps, pd, pq, els pL, pdata⟩ = false) := Lib.hid (mayF_no6 (by rw [HDST.out]; rfl))
    rcases e7t with h8 | ⟨h8, h7⟩
    · subst h8
      go_wp2_with fail
      with_reducible refine (rnode_any _ _).mono ?_
      rintro r w' ⟨rfl, rfl⟩
      go_wp2_with fail
      with_reducible refine (rnode_any _ _).mono ?_
      rintro r w' ⟨rfl, rfl⟩
      go_wp2_with fail
      go_ret
      exact ⟨by rw [HF.out, HD.out]; rfl, b0⟩
    · subst h8 h7
      simp only [Bool.not_true] at he7'
      go_wp2_with fail
      with_reducible refine (rnode_any _ _).mono ?_
      rintro r w' ⟨rfl, rfl⟩
      go_wp2_with fail
      with_reducible refine (rnode_any _ _).mono ?_
      rintro r w' ⟨rfl, rfl⟩
      go_wp2_with fail
      go_ret
      exact ⟨by rw [HF.out, HD.out]; rfl, b0⟩
  | false =>
    by_cases q0 : ¬ 0 ≤ pq
    · clear hlm hdm
      have HD : Hid (mayF ⟨pk, ps, pd, pq, els pL, pdata⟩ = false) := Lib.hid (mayF_no2 q0)
      have t2 : decide (pq < 0) = true := by simp; omega
      clear q0
      rcases e7t with h8 | ⟨h8, h7⟩
      · subst h8
        go_wp2_with fail
        with_reducible refine (rnode_any _ _).mono ?_
        rintro r w' ⟨rfl, rfl⟩
        go_wp2_with fail
        with_reducible refine (rnode_any _ _).mono ?_
        rintro r w' ⟨rfl, rfl⟩
        go_wp2_with fail
        go_ret
        exact ⟨by rw [HF.out, HD.out]; rfl, b0⟩
      · subst h8 h7
        simp only [Bool.not_true] at he7'
        go_wp2_with fail
        with_reducible refine (rnode_any _ _).mono ?_
        rintro r w' ⟨rfl, rfl⟩
        go_wp2_with fail
        with_reducible refine (rnode_any _ _).mono ?_
        rintro r w' ⟨rfl, rfl⟩
        go_wp2_with fail
        go_ret
        exact ⟨by rw [HF.out, HD.out]; rfl, b0⟩
    have q0 : 0 ≤ pq := by omega
    have t2 : decide (pq < 0) = false := by simp; omega
    by_cases q1 : ¬ pq ≤ 255
    · clear hlm hdm
      have HD : Hid (mayF ⟨pk, ps, pd, pq, els pL, pdata⟩ = false) := Lib.hid (mayF_no3 q1)
      have t3 : decide (255 < pq) = true := by simp; omega
      clear q1
      rcases e7t with h8 | ⟨h8, h7⟩
      · subst h8
        go_wp2_with fail
        with_reducible refine (rnode_any _ _).mono ?_
        rintro r w' ⟨rfl, rfl⟩
        go_wp2_with fail
        with_reducible refine (rnode_any _ _).mono ?_
        rintro r w' ⟨rfl, rfl⟩
        go_wp2_with fail
        go_ret
        exact ⟨by rw [HF.out, HD.out]; rfl, b0⟩
      · subst h8 h7
        simp only [Bool.not_true] at he7'
        go_wp2_with fail
        with_reducible refine (rnode_any _ _).mono ?_
        rintro r w' ⟨rfl, rfl⟩
        go_wp2_with fail
        with_reducible refine (rnode_any _ _).mono ?_
        rintro r w' ⟨rfl, rfl⟩
        go_wp2_with fail
        go_ret
        exact ⟨by rw [HF.out, HD.out]; rfl, b0⟩
    have q1 : pq ≤ 255 := by omega
    have t3 : decide (255 < pq) = false := by simp; omega
    by_cases q4 : ¬ nl ≤ 4
    · clear hlm hdm
      have HD : Hid (mayF ⟨pk, ps, pd, pq, els pL, pdata⟩ = false) := Lib.hid (mayF_no5 (mayL_long (by show ¬ (els pL).length ≤ 4; rw [els_len, HNL.out]; exact q4)))
      have t5 : decide ((4 : Int) < (nl : Int)) = true := by simp; omega
      have t5' : decide (4 < nl) = true := by simp; omega
      clear q4
      rcases e7t with h8 | ⟨h8, h7⟩
      · subst h8
        go_wp2_with fail
        with_reducible refine (rnode_any _ _).mono ?_
        rintro r w' ⟨rfl, rfl⟩
        go_wp2_with fail
        with_reducible refine (rnode_any _ _).mono ?_
        rintro r w' ⟨rfl, rfl⟩
        go_wp2_with fail
        go_ret
        exact ⟨by rw [HF.out, HD.out]; rfl, b0⟩
      · subst h8 h7
        simp only [Bool.not_true] at he7'
        go_wp2_with fail
        with_reducible refine (rnode_any _ _).mono ?_
        rintro r w' ⟨rfl, rfl⟩
        go_wp2_with fail
        with_reducible refine (rnode_any _ _).mono ?_
        rintro r w' ⟨rfl, rfl⟩
        go_wp2_with fail
        go_ret
        exact ⟨by rw [HF.out, HD.out]; rfl, b0⟩
    have q4 : nl ≤ 4 := by omega
    have t5 : decide ((4 : Int) < (nl : Int)) = false := by simp; omega
    have t5' : decide (4 < nl) = false := by simp; omega
    by_cases q2 : ¬ nd ≤ 64
    · clear hlm hdm
      have HD : Hid (mayF ⟨pk, ps, pd, pq, els pL, pdata⟩ = false) := Lib.hid (mayF_no4 (by show ¬ pdata.length ≤ 64; rw [HND.out]; exact q2))
      have t4 : decide ((64 : Int) < (nd : Int)) = true := by simp; omega
      have t4' : decide (64 < nd) = true := by simp; omega
      clear q2
      rcases e7t with h8 | ⟨h8, h7⟩
      · subst h8
        go_wp2_with fail
        with_reducible refine (rnode_any _ _).mono ?_
        rintro r w' ⟨rfl, rfl⟩
        go_wp2_with fail
        with_reducible refine (rnode_any _ _).mono ?_
        rintro r w' ⟨rfl, rfl⟩
        go_wp2_with fail
        go_ret
        exact ⟨by rw [HF.out, HD.out]; rfl, b0⟩
      · subst h8 h7
        simp only [Bool.not_true] at he7'
        go_wp2_with fail
        with_reducible refine (rnode_any _ _).mono ?_
        rintro r w' ⟨rfl, rfl⟩
        go_wp2_with fail
        with_reducible refine (rnode_any _ _).mono ?_
        rintro r w' ⟨rfl, rfl⟩
        go_wp2_with fail
        go_ret
        exact ⟨by rw [HF.out, HD.out]; rfl, b0⟩
    have q2 : nd ≤ 64 := by omega
    have t4 : decide ((64 : Int) < (nd : Int)) = false := by simp; omega
    have t4' : decide (64 < nd) = false := by simp; omega
    go_cut [60] from 7 to 60 (fun v wx => v = .bool false ∧ w1 = wx)
    case first =>
      rcases e7t with h8 | ⟨h8, h7⟩
      · subst h8
        go_wp2_with fail
        with_reducible refine (rnode_any _ _).mono ?_
        rintro r w' ⟨rfl, rfl⟩
        go_wp2_with fail
        with_reducible refine (rnode_any _ _).mono ?_
        rintro r w' ⟨rfl, rfl⟩
        go_wp2_with fail
        go_meet
        exact ⟨rfl, rfl⟩
      · subst h8 h7
        simp only [Bool.not_true] at he7'
        go_wp2_with fail
        with_reducible refine (rnode_any _ _).mono ?_
        rintro r w' ⟨rfl, rfl⟩
        go_wp2_with fail
        with_reducible refine (rnode_any _ _).mono ?_
        rintro r w' ⟨rfl, rfl⟩
        go_wp2_with fail
        go_meet
        exact ⟨rfl, rfl⟩
    case rest =>
      obtain ⟨rfl, rfl⟩ := hcut
      have hdst : dstB ⟨pk, ps, pd, pq, els pL, pdata⟩ = true := by
        rw [HDST.out]
        rcases e7t with h8 | ⟨h8, h7⟩
        · rw [h8]; simp
        · rw [h8, h7]; simp
      have HDS := Lib.hid hdst
      have HSS := Lib.hid hs
      have K0 := Lib.hid k0
      have K5 := Lib.hid k5
      clear e7t he6 he8 t0 t1 t2 t3 t4 t4' t5 t5' hdst hs k0 k5 HDST x0 x1 x2 x3
      have hrow := HH1.out.els.row
      rw [HNL.out] at hrow
      have HELS := Lib.hid HH1.out.els.els
      go_wp2_with fail
      go_loopw [64] (fun i wr => ∃ (k : Nat), i = .int .i64 k ∧ k ≤ nl ∧ Hid (∀ j, j < k → mayE (pL.getD j ep0).e = true) ∧ Below w1.heap.size w1 wr) (fun i _ => nl - (intOf i).toNat)
      case atStart => exact ⟨0, rfl, by omega, Lib.hid (fun j hj => by omega), Below.refl _ _⟩
      case round =>
        obtain ⟨k, rfl, hk, HE, bb⟩ := hrel
        by_cases hlt : k < nl
        · obtain ⟨x, hx⟩ : ∃ x, pL.getD k ep0 = x := ⟨_, rfl⟩
          obtain ⟨pb', po, rfl, hpb, x0, x1, x2, x3, x4⟩ := erow hrow bb hlt hx
          have hat := HELS.out k (by rw [HNL.out]; exact hlt)
          rw [hx] at hat
          have HX := Lib.hid hx
          have hl1 := els_at (k := k) (by rw [HNL.out]; exact hlt) hx
          have HL1 := Lib.hid hl1
          clear hx hl1
          obtain ⟨⟨ek, easn, erank, et, el⟩, ea, ec⟩ := x
          simp only at x0 x1 x2 x3 x4 hat
          have o2 := Own.new wr 59 #[.int .i64 ek, .int .i64 easn, .int .i64 erank, .int .i64 et, .slice ea el.length ec]
          have b2 := (Below.refl wr.heap.size wr).alloc (Nat.le_refl _) (.cells #[.int .i64 ek, .int .i64 easn, .int .i64 erank, .int .i64 et, .slice ea el.length ec] 59)
          have b3 := bb.trans (b2.mono bb.size)
          have hm := rmay_any ⟨ek, easn, erank, et, el⟩ ea ec _ (hat.below b3)
          unfold El.vals at hm
          simp only at hm
          go_upto_region 6 with (fail)
          generalize wr.alloc (.cells #[.int .i64 ek, .int .i64 easn, .int .i64 erank, .int .i64 et, .slice ea el.length ec] 59) = v2 at *
          obtain ⟨g6, hg6⟩ : ∃ g, wr.heap.size = g := ⟨_, rfl⟩
          rw [hg6] at o2 ⊢
          obtain ⟨q, hq⟩ : ∃ q, mayE ⟨ek, easn, erank, et, el⟩ = q := ⟨_, rfl⟩
          rw [hq] at hm
          have HM := Lib.hid hm
          have HQ := Lib.hid hq
          have y0 : v2.cell? ⟨g6, 0, none⟩ = some (.int .i64 ek) := o2.cell 0
          have y1 : v2.cell? ⟨g6, 1, none⟩ = some (.int .i64 easn) := o2.cell 1
          have y2 : v2.cell? ⟨g6, 2, none⟩ = some (.int .i64 erank) := o2.cell 2
          have y3 : v2.cell? ⟨g6, 3, none⟩ = some (.int .i64 et) := o2.cell 3
          have y4 : v2.cell? ⟨g6, 4, none⟩ = some (.slice ea el.length ec) := o2.cell 4
          clear hg6 b2 hm hq x0 x1 x2 x3 x4 bb hat o2
          cases q
          · have HD : Hid (mayF ⟨pk, ps, pd, pq, els pL, pdata⟩ = false) := Lib.hid (mayF_no5 (mayL_no (k := k) (by show k < (els pL).length; rw [els_len, HNL.out]; exact hlt) (by rw [HL1.out]; exact HQ.out)))
            go_wp2_with fail
            refine HM.out.mono ?_
            rintro r w4 ⟨rfl, b4⟩
            go_wp2_with fail
            go_ret
            exact ⟨by rw [HF.out, HD.out]; rfl, b0.trans ((b3.trans (b4.mono b3.size)).mono b0.size)⟩
          · have HE2 : Hid (∀ j, j < k + 1 → mayE (pL.getD j ep0).e = true) := Lib.hid (fun j hj => by
              by_cases e : j = k
              · subst e; rw [HX.out]; exact HQ.out
              · exact HE.out j (by omega))
            go_wp2_with fail
            refine HM.out.mono ?_
            rintro r w4 ⟨rfl, b4⟩
            have b5 := b3.trans (b4.mono b3.size)
            clear y0 y1 y2 y3 y4 b3 b4
            go_wp2_with fail
            exact ⟨⟨k + 1, by simp, by omega, HE2, b5⟩, by simp [intOf]; omega⟩
        · obtain rfl : nl = k := by omega
          have hml : mayL (els pL) = true := mayL_yes (by rw [els_len, HNL.out]; exact q4) (fun j hj => by
            have e1 := els_at (L := pL) (k := j) (by rw [els_len] at hj; exact hj) rfl
            rw [e1]
            exact HE.out j (by rw [els_len, HNL.out] at hj; exact hj))
          have HD : Hid (mayF ⟨pk, ps, pd, pq, els pL, pdata⟩ = kindB ⟨pk, ps, pd, pq, els pL, pdata⟩) := Lib.hid (mayF_yes HSS.out q0 q1 (by show pdata.length ≤ 64; rw [HND.out]; exact q2) hml HDS.out)
          have o2 := below_own bb o1 o1.lt
          have b3 := b0.trans (bb.mono b0.size)
          have h2 := HH1.out.below bb
          clear hml x4 x5
          have x0 : wr.cell? ⟨w.heap.size, 0, none⟩ = some (.int .i64 pk) := o2.cell 0
          have x2 : wr.cell? ⟨w.heap.size, 2, none⟩ = some (.int .i64 pd) := o2.cell 2
          have x4 : wr.cell? ⟨w.heap.size, 4, none⟩ = some (.slice pa nl pc) := o2.cell 4
          have x5 : wr.cell? ⟨w.heap.size, 5, none⟩ = some (.slice pb nd pe) := o2.cell 5
          obtain ⟨z, hz⟩ : ∃ z, (nd == 0) = z := ⟨_, rfl⟩
          have hz' : ((nd : Int) == 0) = z := by rw [← hz, Bool.eq_iff_iff]; simp
          have hzp : decide (0 < nd) = !z := by rw [← hz, Bool.eq_iff_iff]; simp; omega
          have hzp' : decide ((0 : Int) < (nd : Int)) = !z := by rw [← hz, Bool.eq_iff_iff]; simp; omega
          by_cases k24 : pk = 2 ∨ pk = 4
          · have hK : kindB ⟨pk, ps, pd, pq, els pL, pdata⟩ = (!e7 && z) := by
              unfold kindB
              rw [if_pos k24]
              show ((pd != 64) && (pdata.length == 0)) = _
              rw [he7', HND.out, hz]
            have HK := Lib.hid hK
            by_cases k2 : pk = 2
            · subst k2
              clear k24 hK
              cases e7
              · cases z
                all_goals
                  simp only [Bool.not_false, Bool.not_true] at he7' hzp hzp'
                  go_wp2_with fail
                  go_ret
                  exact ⟨by rw [HF.out, HD.out, HK.out]; rfl, b3⟩
              · simp only [Bool.not_true] at he7'
                go_wp2_with fail
                go_ret
                exact ⟨by rw [HF.out, HD.out, HK.out]; rfl, b3⟩
            · have k4 : pk = 4 := by omega
              subst k4
              clear k24 hK k2
              cases e7
              · cases z
                all_goals
                  simp only [Bool.not_false, Bool.not_true] at he7' hzp hzp'
                  go_wp2_with fail
                  go_ret
                  exact ⟨by rw [HF.out, HD.out, HK.out]; rfl, b3⟩
              · simp only [Bool.not_true] at he7'
                go_wp2_with fail
                go_ret
                exact ⟨by rw [HF.out, HD.out, HK.out]; rfl, b3⟩
          · have s2 : (pk == 2) = false := by simp; omega
            have s4 : (pk == 4) = false := by simp; omega
            by_cases k3 : pk = 3
            · have hK : kindB ⟨pk, ps, pd, pq, els pL, pdata⟩ = (e7 && (z && (fstE (els pL) 1).isSome)) := by
                unfold kindB
                rw [if_neg k24, if_pos k3]
                show ((pd == 64) && ((pdata.length == 0) && _)) = _
                rw [he7, HND.out, hz]
              have HK := Lib.hid hK
              have hf := rfind_any pL pa pc 1 wr h2.els HMM.out
              rw [HNL.out] at hf
              have HFD := Lib.hid hf
              subst k3
              clear k24 hK hf
              go_wp2_with fail
              refine HFD.out.mono ?_
              rintro r w4 ⟨a4, c4, rfl, hat4, b4⟩
              obtain ⟨fe, hfe⟩ : ∃ f, foundE (els pL) 1 = f := ⟨_, rfl⟩
              rw [hfe]
              obtain ⟨ok, hok⟩ : ∃ f, (fstE (els pL) 1).isSome = f := ⟨_, rfl⟩
              have HK2 : Hid (kindB ⟨3, ps, pd, pq, els pL, pdata⟩ = (e7 && (z && ok))) := Lib.hid (by rw [HK.out, hok])
              rw [hok]
              obtain ⟨fk, fa, fr, ft, fl⟩ := fe
              have o4 := below_own b4 o2 (by have := o2.lt; omega)
              have b5 := b3.trans (b4.mono b3.size)
              unfold El.vals
              simp only
              have o5 := o4.alloc (.cells #[.int .i64 fk, .int .i64 fa, .int .i64 fr, .int .i64 ft, .slice a4 fl.length c4] 59)
              have b6 := b5.alloc b5.size (.cells #[.int .i64 fk, .int .i64 fa, .int .i64 fr, .int .i64 ft, .slice a4 fl.length c4] 59)
              clear hfe hok hat4 HFD HK b4 o4 b5 x0 x2 x4 x5 h2 o2 b3
              go_upto_region 15 with (fail)
              generalize w4.alloc (.cells #[.int .i64 fk, .int .i64 fa, .int .i64 fr, .int .i64 ft, .slice a4 fl.length c4] 59) = w5 at *
              have x2 : w5.cell? ⟨w.heap.size, 2, none⟩ = some (.int .i64 pd) := o5.cell 2
              have x5 : w5.cell? ⟨w.heap.size, 5, none⟩ = some (.slice pb nd pe) := o5.cell 5
              cases e7
              · go_wp2_with fail
                go_ret
                exact ⟨by rw [HF.out, HD.out, HK2.out]; rfl, b6⟩
              · cases z
                all_goals
                  go_wp2_with fail
                  go_ret
                  exact ⟨by rw [HF.out, HD.out, HK2.out]; rfl, b6⟩
            · have s3 : (pk == 3) = false := by simp; omega
              have k15 : pk = 1 ∨ pk = 5 := by have := K0.out; have := K5.out; omega
              have hK : kindB ⟨pk, ps, pd, pq, els pL, pdata⟩ = (!e7 && !z) := by
                unfold kindB
                rw [if_neg k24, if_neg k3, if_pos k15]
                show ((pd != 64) && decide (0 < pdata.length)) = _
                rw [he7', HND.out, hzp]
              have HK := Lib.hid hK
              clear k24 hK k3 k15
              cases e7
              · cases z
                all_goals
                  simp only [Bool.not_false, Bool.not_true] at he7' hzp hzp'
                  go_wp2_with fail
                  go_ret
                  exact ⟨by rw [HF.out, HD.out, HK.out]; rfl, b3⟩
              · simp only [Bool.not_true] at he7'
                go_wp2_with fail
                go_ret
                exact ⟨by rw [HF.out, HD.out, HK.out]; rfl, b3⟩
end Go.Proofs.YtiflmdekcjbmbaaGreat.Fm
set_option maxRecDepth 100000
namespace Go.Proofs.YtiflmdekcjbmbaaGreat.Ie
set_option linter.unusedVariables false
set_option linter.unusedSimpArgs false
open Go.RowKit Lb Go.Shelf Bf

/-- A reader: what is left, the error that was met. -/
def Rq (w : World) (lo b : Nat) (l : List Int) (err : Int) : Prop :=
  ∃ a c, Own w b 122 #[.slice a l.length c, .int .i64 err] ∧ l.length ≤ c ∧ c ≤ maxLen ∧ Row w a l.length (bval l) ∧ ∀ p, a = some p → lo ≤ p.block ∧ p.block < b
theorem Rq.kept {w w' : World} {lo b H : Nat} {l : List Int} {err : Int} (h : Rq w lo b l err) (k : Below H w w') (hb : b < H) : Rq w' lo b l err := by
  obtain ⟨a, c, h1, h2, h3, h4, h5⟩ := h
  exact ⟨a, c, below_own k h1 hb, h2, h3, Row.same h4 (fun p e _ => k.block _ (Nat.lt_trans (h5 p e).2 hb)), h5⟩
theorem Rq.just {w w' : World} {lo b g : Nat} {l : List Int} {err : Int} (h : Rq w lo b l err) (j : Just g w w') (hg : g < lo) (hb : g ≠ b) : Rq w' lo b l err := by
  obtain ⟨a, c, h1, h2, h3, h4, h5⟩ := h
  exact ⟨a, c, j.own h1 (fun e => hb e.symm), h2, h3, Row.same h4 (fun p e _ => j.block _ (Nat.lt_trans (h5 p e).2 h1.lt) (by have := (h5 p e).1; omega)), h5⟩
theorem Rq.lt {w : World} {lo b : Nat} {l : List Int} {err : Int} (h : Rq w lo b l err) : b < w.heap.size := by
  obtain ⟨a, c, h1, _⟩ := h
  exact h1.lt
def badQ (l : List Int) (err : Int) (n : Nat) : Prop := err ≠ 0 ∨ l.length < n
theorem rq_put {w : World} {lo b len n c : Nat} {l : List Int} {a' : Option Addr} {v : Value} (h1 : Lb.Own w b 122 #[v, .int .i64 0]) (hl : l.length = len) (hc : len - n ≤ c) (hm : c ≤ maxLen) (hr : Row w a' (len - n) (bval (l.drop n))) (hp : ∀ p, a' = some p → lo ≤ p.block ∧ p.block < b) : Rq (w.setCell ⟨b, 0, none⟩ (.slice a' (len - n) c)) lo b (l.drop n) 0 := by
  have e : (l.drop n).length = len - n := by rw [List.length_drop, hl]
  refine ⟨a', c, ?_, by rw [e]; exact hc, hm, ?_, hp⟩
  · rw [e]; exact h1.put 0 _
  · rw [e]
    exact Row.same hr (fun p e _ => (Just.set b w 0 _).block p.block (Nat.lt_trans (hp p e).2 h1.lt) (Nat.ne_of_lt (hp p e).2))
theorem row_add {w : World} {p : Addr} {len n : Nat} {l : List Int} (h : Row w (some p) len (bval l)) (hn : n ≤ len) : Row w (some (p.add n)) (len - n) (bval (l.drop n)) := by
  intro h0
  obtain ⟨b, off, e, h1, h2⟩ := h (by omega)
  injection e with e
  subst e
  refine ⟨b, off + n, by rw [Addr.add_lit], h1, fun i hi => ?_⟩
  rw [Nat.add_assoc, h2 (n + i) (by omega)]
  unfold bval
  rw [lft_get]
theorem raw_bad (lo b : Nat) (l : List Int) (err : Int) (n : Nat) (w : World) (h : Rq w lo b l err) (hb : badQ l err n) (hn : n ≤ 100000) :
    Calls Tryz.prog 70 #[.pointer (some ⟨b, 0, none⟩), .int .i64 (n : Int)] w fun r w' => r = .returned (.slice none 0 0) ∧ Rq w' lo b [] 2 ∧ Just b w w' := by
  obtain ⟨a, c, h1, h2, h3, h4, h5⟩ := h
  unfold maxLen at h3
  obtain ⟨len, hlen⟩ : ∃ len, l.length = len := ⟨_, rfl⟩
  unfold badQ at hb
  rw [hlen] at hb h1 h2
  have c0 : w.cell? ⟨b, 0, none⟩ = some (.slice a len c) := h1.cell 0
  have c1 : w.cell? ⟨b, 1, none⟩ = some (.int .i64 err) := h1.cell 1
  have f0 := h1.free 0
  have f1 := h1.free 1
  have hq : Rq ((w.setCell ⟨b, 1, none⟩ (.int .i64 2)).setCell ⟨b, 0, none⟩ (.slice none 0 0)) lo b [] 2 := ⟨none, 0, (h1.put 1 _).put 0 _, Nat.le_refl _, Nat.zero_le _, Row.nil _ _ _, fun p e => by cases e⟩
  have hj : Just b w ((w.setCell ⟨b, 1, none⟩ (.int .i64 2)).setCell ⟨b, 0, none⟩ (.slice none 0 0)) := (Just.set b w 1 _).put 0 _
  have g0 : max (0 : Int) (n : Int) = (n : Int) := by omega
  clear hlen
  by_cases he : err = 0
  · have hl : len < n := by omega
    have g1 : (err != 0) = false := by simpa using he
    have g2 : decide (len < n) = true := by simpa using hl
    have g3 : decide ((len : Int) < (n : Int)) = true := by simp; omega
    clear hb he hl
    go_enter Tryz.func70, Tryz.ntmps70
    go_wp2_with fail
    go_ret
    exact ⟨rfl, hq, hj⟩
  · have g1 : (err != 0) = true := by simpa using he
    clear hb he
    go_enter Tryz.func70, Tryz.ntmps70
    go_wp2_with fail
    go_ret
    exact ⟨rfl, hq, hj⟩
set_option maxHeartbeats 1000000 in
theorem raw_ok (lo b : Nat) (l : List Int) (n : Nat) (w : World) (h : Rq w lo b l 0) (hl : n ≤ l.length) (hn : n ≤ 100000) :
    Calls Tryz.prog 70 #[.pointer (some ⟨b, 0, none⟩), .int .i64 (n : Int)] w fun r w' => ∃ v, r = .returned v ∧ Mine w' w.heap.size 5 v n (bval (l.take n)) ∧ Rq w' lo b (l.drop n) 0 ∧ Just b w w' := by
  obtain ⟨a, c, h1, h2, h3, h4, h5⟩ := h
  unfold maxLen at h3
  obtain ⟨len, hlen⟩ : ∃ len, l.length = len := ⟨_, rfl⟩
  have HLEN := Lib.hid hlen
  rw [hlen] at h1 h2 hl h4
  have c0 : w.cell? ⟨b, 0, none⟩ = some (.slice a len c) := h1.cell 0
  have c1 : w.cell? ⟨b, 1, none⟩ = some (.int .i64 0) := h1.cell 1
  have f0 := h1.free 0
  have g0 : max (0 : Int) (n : Int) = (n : Int) := by omega
  have g2 : decide (len < n) = false := by simpa using hl
  have g3 : decide ((len : Int) < (n : Int)) = false := by simp; omega
  obtain ⟨i0, hi0, hz0, hz1, hz2⟩ := info_parts info8
  have HNM : Hid (0 + n ≤ maxLen) := Lib.hid (by unfold maxLen; omega)
  have HR : Hid (Row w a n (bval l)) := Lib.hid (h4.cut hl)
  have HB : Hid (b < w.heap.size) := Lib.hid h1.lt
  clear hlen
  go_enter Tryz.func70, Tryz.ntmps70
  go_wp2_with (at_builtin; go_must (refine wp_app rfl (.const (.slice none 0 0)) (.tmp 33) _ rfl w.heap.size 5 i0 _ 1 Tryz.underlying35 hi0 hz0 hz1 hz2 rfl (.slice none 0 0) 0 (bval []) rfl (Mine.nil _ _ _ _) _ n _ (bval l) rfl HR.out (fun _ _ => rfl) HNM.out ?c2 (Nat.le_refl _) ?_))
  case c2 => omega
  intro v5 w5 m5 g5
  have b5 := (Below.refl w.heap.size w).grown g5 (Nat.le_refl _) (fun q e => by cases e)
  have o5 := below_own b5 h1 h1.lt
  have k0 : w5.cell? ⟨b, 0, none⟩ = some (.slice a len c) := o5.cell 0
  have p0 := o5.free 0
  have M5 : Hid (Mine w5 w.heap.size 5 v5 n (bval (l.take n))) := Lib.hid (by
    exact m5.ext (U := bval (l.take n)) (fun i hi => by
      show bval l i = _
      unfold bval
      rw [tk_get hi]))
  clear m5 g5 HNM HR c0 c1 f0 h1
  have hr5 := h4.below b5
  have HJ : Hid (∀ u, Just b w (w5.setCell ⟨b, 0, none⟩ u)) := Lib.hid (fun u => (show Just b w w5 from ⟨b5.os, b5.tape, b5.output, b5.size, fun k hk _ => b5.block k hk⟩).put 0 u)
  cases a with
  | none =>
    have h0 := row_none h4 rfl
    have HQ : Hid (Rq (w5.setCell ⟨b, 0, none⟩ (.slice none (len - n) (c - n))) lo b (l.drop n) 0) := Lib.hid (rq_put o5 HLEN.out (by omega) (by unfold maxLen; omega) (by rw [show len - n = 0 by omega]; exact Row.nil _ _ _) (fun p e => by cases e))
    clear h0 hr5 h4
    go_wp2_with fail
    go_ret
    exact ⟨v5, rfl, M5.out.just (Just.set b w5 0 _) (HB.out), HQ.out, HJ.out _⟩
  | some p =>
    have hp : lo ≤ p.block ∧ p.block < b := h5 p rfl
    by_cases hc : n = c
    · subst hc
      have HQ : Hid (Rq (w5.setCell ⟨b, 0, none⟩ (.slice (some p) 0 0)) lo b (l.drop n) 0) := Lib.hid (by
        have := rq_put (n := n) (c := 0) (a' := some p) o5 HLEN.out (by omega) (Nat.zero_le _) (by rw [show len - n = 0 by omega]; exact Row.nil _ _ _) (fun q e => by injection e with e; rw [← e]; exact hp)
        rwa [show len - n = 0 by omega] at this)
      clear hr5 h4
      obtain ⟨pb, po, ps⟩ := p
      go_wp2_with fail
      go_ret
      exact ⟨v5, rfl, M5.out.just (Just.set b w5 0 _) (HB.out), HQ.out, HJ.out _⟩
    · have HQ : Hid (Rq (w5.setCell ⟨b, 0, none⟩ (.slice (some (p.add n)) (len - n) (c - n))) lo b (l.drop n) 0) := Lib.hid (rq_put o5 HLEN.out (by omega) (by unfold maxLen; omega) (row_add hr5 hl) (fun q e => by injection e with e; rw [← e]; unfold Addr.add; split <;> exact hp))
      clear hr5 h4
      obtain ⟨pb, po, ps⟩ := p
      go_wp2_with fail
      go_ret
      exact ⟨v5, rfl, M5.out.just (Just.set b w5 0 _) (HB.out), HQ.out, HJ.out _⟩
theorem num_bad (lo b : Nat) (l : List Int) (err : Int) (n : Nat) (w : World) (h : Rq w lo b l err) (hb : badQ l err n) (hn : n ≤ 100000) :
    Calls Tryz.prog 141 #[.pointer (some ⟨b, 0, none⟩), .int .i64 (n : Int)] w fun r w' => r = .returned (.int .u64 0) ∧ Rq w' lo b [] 2 ∧ Just b w w' := by
  go_enter Tryz.func141, Tryz.ntmps141
  go_wp2_with fail
  refine (raw_bad lo b l err n w h hb hn).mono ?_
  rintro r w2 ⟨rfl, h2, j2⟩
  go_wp2_with fail
  go_loopw [5, 12] (fun x i wr => x = .int .u64 0 ∧ i = .int .i64 0 ∧ w2 = wr) (fun _ _ _ => 0)
  case atStart => exact ⟨rfl, rfl, rfl⟩
  case round =>
    obtain ⟨rfl, rfl, rfl⟩ := hrel
    go_wp2_with fail
    go_ret
    exact ⟨rfl, h2, j2⟩
theorem numB_step {l : List Int} {k : Nat} {X c : Nat} (hX : numB (l.take k) = (X : Int)) (hk : k < l.length) (hc : l.getD k 0 = (c : Int)) : numB (l.take (k + 1)) = ((X * 256 + c : Nat) : Int) := by
  rw [tk_snoc hk, numB_snoc, hX, hc]
  push_cast
  rfl
theorem or_low (X c : Nat) (hc : c < 256) : X * 256 ||| c = X * 256 + c := by
  have := Nat.two_pow_add_eq_or_of_lt (i := 8) (b := c) hc X
  rw [Nat.mul_comm X 256]
  exact this.symm
set_option maxHeartbeats 1000000 in
theorem num_ok (lo b : Nat) (l : List Int) (n : Nat) (w : World) (h : Rq w lo b l 0) (hd : okD' l) (hl : n ≤ l.length) (hn : n ≤ 8) :
    Calls Tryz.prog 141 #[.pointer (some ⟨b, 0, none⟩), .int .i64 (n : Int)] w fun r w' => r = .returned (.int .u64 (numB (l.take n))) ∧ Rq w' lo b (l.drop n) 0 ∧ Just b w w' := by
  have HD := Lib.hid hd
  have HL := Lib.hid hl
  go_enter Tryz.func141, Tryz.ntmps141
  go_wp2_with fail
  refine (raw_ok lo b l n w h hl (by omega)).mono ?_
  rintro r w2 ⟨v, rfl, hV, h2, j2⟩
  obtain ⟨a, c, rfl, l1, l2, hR⟩ := hV.row
  unfold maxLen at l2
  clear hd hl hV h
  go_wp2_with fail
  go_loopw [5, 12] (fun x i wr => ∃ (k X : Nat), x = .int .u64 (X : Int) ∧ i = .int .i64 k ∧ k ≤ n ∧ Hid (numB (l.take k) = (X : Int)) ∧ X < 256 ^ k ∧ w2 = wr) (fun _ i _ => n - (intOf i).toNat)
  case atStart => exact ⟨0, 0, rfl, rfl, by omega, Lib.hid rfl, by decide, rfl⟩
  case round =>
    obtain ⟨k, X, rfl, rfl, hk, HX, hXb, rfl⟩ := hrel
    by_cases hlt : k < n
    · obtain ⟨p, o, rfl, _, x1⟩ := hR.at_ hlt
      unfold bval at x1
      rw [tk_get hlt] at x1
      have hcb : 0 ≤ l.getD k 0 ∧ l.getD k 0 < 256 := by
        have := HL.out
        rw [List.getD_eq_getElem?_getD, List.getElem?_eq_getElem (by omega)]
        exact HD.out _ (List.getElem_mem _)
      obtain ⟨c0, hc0⟩ : ∃ c0 : Nat, l.getD k 0 = (c0 : Int) := ⟨(l.getD k 0).toNat, by omega⟩
      rw [hc0] at x1 hcb
      have hX8 : X < 72057594037927936 := Nat.lt_of_lt_of_le hXb (show 256 ^ k ≤ 256 ^ 7 from Nat.pow_le_pow_right (by decide) (by omega))
      have HS := Lib.hid (numB_step HX.out (by have := HL.out; omega) hc0)
      have hb1 : X * 256 + c0 < 256 ^ (k + 1) := by
        rw [Nat.pow_succ]
        omega
      have HB := Lib.hid hb1
      have e9 : bits .or .u64 ((X : Int) * 256) (c0 : Int) = ((X * 256 + c0 : Nat) : Int) := by
        have := u64_or_nat (X * 256) c0 (by omega) (by omega)
        rw [or_low X c0 (by omega)] at this
        rw [← this]
        push_cast
        rfl
      clear hc0 hb1 hXb
      go_wp2_with fail
      exact ⟨⟨k + 1, X * 256 + c0, by simp, by simp, by omega, HS, HB.out, by first | trivial | rfl⟩, by simp [intOf]; omega⟩
    · obtain rfl : n = k := by omega
      go_wp2_with fail
      go_ret
      exact ⟨by rw [HX.out]; rfl, h2, j2⟩
theorem ru8_bad (lo b : Nat) (l : List Int) (err : Int) (w : World) (h : Rq w lo b l err) (hb : badQ l err 1) :
    Calls Tryz.prog 69 #[.pointer (some ⟨b, 0, none⟩)] w fun r w' => r = .returned (.int .i64 0) ∧ Rq w' lo b [] 2 ∧ Just b w w' := by
  go_enter Tryz.func69, Tryz.ntmps69
  go_wp2_with fail
  refine (num_bad lo b l err 1 w h hb (by omega)).mono ?_
  rintro r w2 ⟨rfl, h2, j2⟩
  go_wp2_with fail
  go_ret
  exact ⟨rfl, h2, j2⟩
theorem ru8_ok (lo b : Nat) (x : Int) (l : List Int) (w : World) (h : Rq w lo b (x :: l) 0) (hd : okD' (x :: l)) :
    Calls Tryz.prog 69 #[.pointer (some ⟨b, 0, none⟩)] w fun r w' => r = .returned (.int .i64 x) ∧ Rq w' lo b l 0 ∧ Just b w w' := by
  have hx := hd x (by simp)
  have hn := num_ok lo b (x :: l) 1 w h hd (by simp) (by omega)
  have e : numB ((x :: l).take 1) = x := by simp [numB]
  rw [e] at hn
  have HN := Lib.hid hn
  clear hn e
  go_enter Tryz.func69, Tryz.ntmps69
  go_wp2_with fail
  refine HN.out.mono ?_
  rintro r w2 ⟨rfl, h2, j2⟩
  go_wp2_with fail
  go_ret
  exact ⟨rfl, h2, j2⟩
theorem rend_any (lo b : Nat) (l : List Int) (err : Int) (w : World) (h : Rq w lo b l err) :
    Calls Tryz.prog 71 #[.pointer (some ⟨b, 0, none⟩)] w fun r w' => r = .returned (.int .i64 (endE l err)) ∧ w = w' := by
  obtain ⟨a, c, h1, h2, h3, h4, h5⟩ := h
  unfold maxLen at h3
  obtain ⟨len, hlen⟩ : ∃ len, l.length = len := ⟨_, rfl⟩
  rw [hlen] at h1 h2
  have c0 : w.cell? ⟨b, 0, none⟩ = some (.slice a len c) := h1.cell 0
  have c1 : w.cell? ⟨b, 1, none⟩ = some (.int .i64 err) := h1.cell 1
  by_cases he : err = 0
  · subst he
    by_cases hl : len = 0
    · have HE : Hid (endE l 0 = 0) := Lib.hid (by unfold endE; rw [if_pos rfl, if_pos (List.length_eq_zero_iff.1 (by omega))])
      subst hl
      clear hlen
      go_enter Tryz.func71, Tryz.ntmps71
      go_wp2_with fail
      go_ret
      exact ⟨by rw [HE.out]; rfl, rfl⟩
    · have HE : Hid (endE l 0 = 3) := Lib.hid (by unfold endE; rw [if_pos rfl, if_neg (fun e => hl (by rw [← hlen, e]; rfl))])
      have g1 : decide (0 < len) = true := by simp; omega
      have g2 : decide ((0 : Int) < (len : Int)) = true := by simp; omega
      clear hlen hl
      go_enter Tryz.func71, Tryz.ntmps71
      go_wp2_with fail
      go_ret
      exact ⟨by rw [HE.out]; rfl, rfl⟩
  · have HE : Hid (endE l err = err) := Lib.hid (by unfold endE; rw [if_neg he])
    have g1 : (err == 0) = false := by simpa using he
    clear hlen he
    go_enter Tryz.func71, Tryz.ntmps71
    go_wp2_with fail
    go_ret
    exact ⟨by rw [HE.out]; rfl, rfl⟩
end Go.Proofs.YtiflmdekcjbmbaaGreat.Ie
