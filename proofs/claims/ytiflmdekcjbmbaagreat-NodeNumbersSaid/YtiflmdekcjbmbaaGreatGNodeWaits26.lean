/-
  Package frame: the reference: which frames may be. The reference's sum (chapter 2), for those that stand on it. Package frame: the reference: a frame's bytes.
-/
import Derived.Test.YtiflmdekcjbmbaaGreatGNodeWaits22
import Derived.Test.YtiflmdekcjbmbaaGreatGNodeWaits17
import Derived.Test.YtiflmdekcjbmbaaGreatGNodeWaits23
import Derived.Test.YtiflmdekcjbmbaaGreatGNodeWaits19
import Derived.Deep.RegionHeld3
set_option maxRecDepth 100000
namespace Go.Proofs.YtiflmdekcjbmbaaGreat.Fm
set_option linter.unusedVariables false
set_option linter.unusedSimpArgs false
open Go.RowKit Lb Bf Ie

theorem rnode_any (x : Int) (w : World) : Calls Tryz.prog 122 #[.int .i64 x] w fun r w' => r = .returned (.bool (ndB x)) ∧ w = w' := by
  by_cases h1 : 0 ≤ x
  · by_cases h2 : x < 16
    · have HD : Hid (ndB x = true) := Lib.hid (decide_eq_true (And.intro h1 h2))
      go_enter Tryz.func122, Tryz.ntmps122
      go_wp2_with fail
      go_ret
      exact ⟨by rw [HD.out]; rfl, rfl⟩
    · have HD : Hid (ndB x = false) := Lib.hid (decide_eq_false (fun h => h2 h.2))
      go_enter Tryz.func122, Tryz.ntmps122
      go_wp2_with fail
      go_ret
      exact ⟨by rw [HD.out]; rfl, rfl⟩
  · have HD : Hid (ndB x = false) := Lib.hid (decide_eq_false (fun h => h1 h.1))
    go_enter Tryz.func122, Tryz.ntmps122
    go_wp2_with fail
    go_ret
    exact ⟨by rw [HD.out]; rfl, rfl⟩
theorem mayF_nok {f : Fr} (h : f.k < 1 ∨ 5 < f.k) : mayF f = false := by
  cases hm : mayF f
  · rfl
  · have := (mayF_out hm).2.2.2.2.2
    omega
theorem mayL_long {l : List El} (h : ¬ l.length ≤ 4) : mayL l = false := by
  unfold mayL
  rw [decide_eq_false h]
  rfl
set_option maxHeartbeats 4000000 in
theorem rmayF_any (p : Fp) (w : World) (h : p.At w) (hm : ∀ k, k < p.L.length → (p.L.getD k ep0).e.list.length ≤ 1000000) :
    Calls Tryz.prog 53 #[.agg p.vals] w fun r w' => r = .returned (.bool (mayF p.fr)) ∧ Below w.heap.size w w' := by
  have o1 := Own.new w 37 p.vals
  have b0 := (Below.refl w.heap.size w).alloc (Nat.le_refl _) (.cells p.vals 37)
  have h1 := h.below b0
  have hdm := h.dm
  have hdc := h.dc
  have hlc := h.els.lc
  have hlm := h.els.cm
  unfold maxLen at hdm hlm
  have HMM := Lib.hid hm
  clear h hm
  obtain ⟨pk, ps, pd, pq, pL, pa, pc, pdata, pb, pe⟩ := p
  have HF : Hid ((⟨pk, ps, pd, pq, pL, pa, pc, pdata, pb, pe⟩ : Fp).fr = ⟨pk, ps, pd, pq, els pL, pdata⟩) := Lib.hid rfl
  unfold Fp.vals at *
  simp only at *
  obtain ⟨nd, hnd⟩ : ∃ n, pdata.length = n := ⟨_, rfl⟩
  have HND := Lib.hid hnd
  rw [hnd] at o1 b0 h1 hdc ⊢
  obtain ⟨nl, hnl⟩ : ∃ n, pL.length = n := ⟨_, rfl⟩
  have HNL := Lib.hid hnl
  rw [hnl] at o1 b0 h1 hlc ⊢
  go_enter Tryz.func53, Tryz.ntmps53
  go_upto_region 1 with (fail)
  generalize w.alloc (.cells #[.int .i64 pk, .int .i64 ps, .int .i64 pd, .int .i64 pq, .slice pa nl pc, .slice pb nd pe] 37) = w1 at *
  have x0 : w1.cell? ⟨w.heap.size, 0, none⟩ = some (.int .i64 pk) := o1.cell 0
  have x1 : w1.cell? ⟨w.heap.size, 1, none⟩ = some (.int .i64 ps) := o1.cell 1
  have x2 : w1.cell? ⟨w.heap.size, 2, none⟩ = some (.int .i64 pd) := o1.cell 2
  have x3 : w1.cell? ⟨w.heap.size, 3, none⟩ = some (.int .i64 pq) := o1.cell 3
  have x4 : w1.cell? ⟨w.heap.size, 4, none⟩ = some (.slice pa nl pc) := o1.cell 4
  have x5 : w1.cell? ⟨w.heap.size, 5, none⟩ = some (.slice pb nd pe) := o1.cell 5
  have HH1 := Lib.hid h1
  clear hnd hnl h1
  by_cases k0 : pk < 1
  · clear hlm hdm
    have HD : Hid (mayF ⟨pk, ps, pd, pq, els pL, pdata⟩ = false) := Lib.hid (mayF_nok (.inl k0))
    have t0 : decide (pk < 1) = true := decide_eq_true k0
    clear k0
    go_wp2_with fail
    go_ret
    exact ⟨by rw [HF.out, HD.out]; rfl, b0⟩
  have t0 : decide (pk < 1) = false := decide_eq_false k0
  by_cases k5 : 5 < pk
  · clear hlm hdm
    have HD : Hid (mayF ⟨pk, ps, pd, pq, els pL, pdata⟩ = false) := Lib.hid (mayF_nok (.inr k5))
    have t1 : decide (5 < pk) = true := decide_eq_true k5
    clear k5 k0
    go_wp2_with fail
    go_ret
    exact ⟨by rw [HF.out, HD.out]; rfl, b0⟩
  have t1 : decide (5 < pk) = false := decide_eq_false k5
  cases hs : ndB ps
  · clear hlm hdm
    have HD : Hid (mayF ⟨pk, ps, pd, pq, els pL, pdata⟩ = false) := Lib.hid (mayF_no1 hs)
    clear k0 k5
    go_wp2_with fail
    with_reducible refine (rnode_any _ _).mono ?_
    rintro r w' ⟨rfl, rfl⟩
    go_wp2_with fail
    go_ret
    exact ⟨by rw [HF.out, HD.out]; rfl, b0⟩
  have hDST : dstB ⟨pk, ps, pd, pq, els pL, pdata⟩ = (!(pd == ps) && ((pd == 64) || ndB pd)) := rfl
  obtain ⟨e6, he6⟩ : ∃ e, (pd == ps) = e := ⟨_, rfl⟩
  obtain ⟨e7, he7⟩ : ∃ e, (pd == 64) = e := ⟨_, rfl⟩
  have he7' : (pd != 64) = !e7 := by rw [← he7]; rfl
  obtain ⟨e8, he8⟩ : ∃ e, ndB pd = e := ⟨_, rfl⟩
  rw [he6, he7, he8] at hDST
  have HDST := Lib.hid hDST
  clear hDST
  by_cases hd78 : e8 = false ∧ e7 = false
  · obtain ⟨rfl, rfl⟩ := hd78
    simp only [Bool.not_false] at he7'
    clear hlm hdm
    have HD : Hid (mayF ⟨pk, ps, pd, pq, els pL, pdata⟩ = false) := Lib.hid (mayF_no6 (by rw [HDST.out]; simp))
    go_wp2_with fail
    with_reducible refine (rnode_any _ _).mono ?_
    rintro r w' ⟨rfl, rfl⟩
    go_wp2_with fail
    with_reducible refine (rnode_any _ _).mono ?_
    rintro r w' ⟨rfl, rfl⟩
    go_wp2_with fail
    go_ret
    exact ⟨by rw [HF.out, HD.out]; rfl, b0⟩
  have e7t : (e8 = true ∨ (e8 = false ∧ e7 = true)) := by cases e7 <;> cases e8 <;> simp at hd78 ⊢
  clear hd78
  cases e6 with
  | true =>
    clear hlm hdm
    have HD : Hid (mayF ⟨pk, ps, pd, pq, els pL, pdata⟩ = false) := Lib.hid (mayF_no6 (by rw [HDST.out]; rfl))
    rcases e7t with h8 | ⟨h8, h7⟩
    · subst h8
      go_wp2_with fail
      with_reducible refine (rnode_any _ _).mono ?_
      rintro r w' ⟨rfl, rfl⟩
      go_wp2_with fail
      with_reducible refine (rnode_any _ _).mono ?_
      rintro r w' ⟨rfl, rfl⟩
      go_wp2_with fail
      go_ret
      exact ⟨by rw [HF.out, HD.out]; rfl, b0⟩
    · subst h8 h7
      simp only [Bool.not_true] at he7'
      go_wp2_with fail
      with_reducible refine (rnode_any _ _).mono ?_
      rintro r w' ⟨rfl, rfl⟩
      go_wp2_with fail
      with_reducible refine (rnode_any _ _).mono ?_
      rintro r w' ⟨rfl, rfl⟩
      go_wp2_with fail
      go_ret
      exact ⟨by rw [HF.out, HD.out]; rfl, b0⟩
  | false =>
    by_cases q0 : ¬ 0 ≤ pq
    · clear hlm hdm
      have HD : Hid (mayF ⟨pk, ps, pd, pq, els pL, pdata⟩ = false) := Lib.hid (mayF_no2 q0)
      have t2 : decide (pq < 0) = true := by simp; omega
      clear q0
      rcases e7t with h8 | ⟨h8, h7⟩
      · subst h8
        go_wp2_with fail
        with_reducible refine (rnode_any _ _).mono ?_
        rintro r w' ⟨rfl, rfl⟩
        go_wp2_with fail
        with_reducible refine (rnode_any _ _).mono ?_
        rintro r w' ⟨rfl, rfl⟩
        go_wp2_with fail
        go_ret
        exact ⟨by rw [HF.out, HD.out]; rfl, b0⟩
      · subst h8 h7
        simp only [Bool.not_true] at he7'
        go_wp2_with fail
        with_reducible refine (rnode_any _ _).mono ?_
        rintro r w' ⟨rfl, rfl⟩
        go_wp2_with fail
        with_reducible refine (rnode_any _ _).mono ?_
        rintro r w' ⟨rfl, rfl⟩
        go_wp2_with fail
        go_ret
        exact ⟨by rw [HF.out, HD.out]; rfl, b0⟩
    have q0 : 0 ≤ pq := by omega
    have t2 : decide (pq < 0) = false := by simp; omega
    by_cases q1 : ¬ pq ≤ 255
    · clear hlm hdm
      have HD : Hid (mayF ⟨pk, ps, pd, pq, els pL, pdata⟩ = false) := Lib.hid (mayF_no3 q1)
      have t3 : decide (255 < pq) = true := by simp; omega
      clear q1
      rcases e7t with h8 | ⟨h8, h7⟩
      · subst h8
        go_wp2_with fail
        with_reducible refine (rnode_any _ _).mono ?_
        rintro r w' ⟨rfl, rfl⟩
        go_wp2_with fail
        with_reducible refine (rnode_any _ _).mono ?_
        rintro r w' ⟨rfl, rfl⟩
        go_wp2_with fail
        go_ret
        exact ⟨by rw [HF.out, HD.out]; rfl, b0⟩
      · subst h8 h7
        simp only [Bool.not_true] at he7'
        go_wp2_with fail
        with_reducible refine (rnode_any _ _).mono ?_
        rintro r w' ⟨rfl, rfl⟩
        go_wp2_with fail
        with_reducible refine (rnode_any _ _).mono ?_
        rintro r w' ⟨rfl, rfl⟩
        go_wp2_with fail
        go_ret
        exact ⟨by rw [HF.out, HD.out]; rfl, b0⟩
    have q1 : pq ≤ 255 := by omega
    have t3 : decide (255 < pq) = false := by simp; omega
    by_cases q4 : ¬ nl ≤ 4
    · clear hlm hdm
      have HD : Hid (mayF ⟨pk, ps, pd, pq, els pL, pdata⟩ = false) := Lib.hid (mayF_no5 (mayL_long (by show ¬ (els pL).length ≤ 4; rw [els_len, HNL.out]; exact q4)))
      have t5 : decide ((4 : Int) < (nl : Int)) = true := by simp; omega
      have t5' : decide (4 < nl) = true := by simp; omega
      clear q4
      rcases e7t with h8 | ⟨h8, h7⟩
      · subst h8
        go_wp2_with fail
        with_reducible refine (rnode_any _ _).mono ?_
        rintro r w' ⟨rfl, rfl⟩
        go_wp2_with fail
        with_reducible refine (rnode_any _ _).mono ?_
        rintro r w' ⟨rfl, rfl⟩
        go_wp2_with fail
        go_ret
        exact ⟨by rw [HF.out, HD.out]; rfl, b0⟩
      · subst h8 h7
        simp only [Bool.not_true] at he7'
        go_wp2_with fail
        with_reducible refine (rnode_any _ _).mono ?_
        rintro r w' ⟨rfl, rfl⟩
        go_wp2_with fail
        with_reducible refine (rnode_any _ _).mono ?_
        rintro r w' ⟨rfl, rfl⟩
        go_wp2_with fail
        go_ret
        exact ⟨by rw [HF.out, HD.out]; rfl, b0⟩
    have q4 : nl ≤ 4 := by omega
    have t5 : decide ((4 : Int) < (nl : Int)) = false := by simp; omega
    have t5' : decide (4 < nl) = false := by simp; omega
    by_cases q2 : ¬ nd ≤ 64
    · clear hlm hdm
      have HD : Hid (mayF ⟨pk, ps, pd, pq, els pL, pdata⟩ = false) := Lib.hid (mayF_no4 (by show ¬ pdata.length ≤ 64; rw [HND.out]; exact q2))
      have t4 : decide ((64 : Int) < (nd : Int)) = true := by simp; omega
      have t4' : decide (64 < nd) = true := by simp; omega
      clear q2
      rcases e7t with h8 | ⟨h8, h7⟩
      · subst h8
        go_wp2_with fail
        with_reducible refine (rnode_any _ _).mono ?_
        rintro r w' ⟨rfl, rfl⟩
        go_wp2_with fail
        with_reducible refine (rnode_any _ _).mono ?_
        rintro r w' ⟨rfl, rfl⟩
        go_wp2_with fail
        go_ret
        exact ⟨by rw [HF.out, HD.out]; rfl, b0⟩
      · subst h8 h7
        simp only [Bool.not_true] at he7'
        go_wp2_with fail
        with_reducible refine (rnode_any _ _).mono ?_
        rintro r w' ⟨rfl, rfl⟩
        go_wp2_with fail
        with_reducible refine (rnode_any _ _).mono ?_
        rintro r w' ⟨rfl, rfl⟩
        go_wp2_with fail
        go_ret
        exact ⟨by rw [HF.out, HD.out]; rfl, b0⟩
    have q2 : nd ≤ 64 := by omega
    have t4 : decide ((64 : Int) < (nd : Int)) = false := by simp; omega
    have t4' : decide (64 < nd) = false := by simp; omega
    go_cut [60] from 7 to 60 (fun v wx => v = .bool false ∧ w1 = wx)
    case first =>
      rcases e7t with h8 | ⟨h8, h7⟩
      · subst h8
        go_wp2_with fail
        with_reducible refine (rnode_any _ _).mono ?_
        rintro r w' ⟨rfl, rfl⟩
        go_wp2_with fail
        with_reducible refine (rnode_any _ _).mono ?_
        rintro r w' ⟨rfl, rfl⟩
        go_wp2_with fail
        go_meet
        exact ⟨rfl, rfl⟩
      · subst h8 h7
        simp only [Bool.not_true] at he7'
        go_wp2_with fail
        with_reducible refine (rnode_any _ _).mono ?_
        rintro r w' ⟨rfl, rfl⟩
        go_wp2_with fail
        with_reducible refine (rnode_any _ _).mono ?_
        rintro r w' ⟨rfl, rfl⟩
        go_wp2_with fail
        go_meet
        exact ⟨rfl, rfl⟩
    case rest =>
      obtain ⟨rfl, rfl⟩ := hcut
      have hdst : dstB ⟨pk, ps, pd, pq, els pL, pdata⟩ = true := by
        rw [HDST.out]
        rcases e7t with h8 | ⟨h8, h7⟩
        · rw [h8]; simp
        · rw [h8, h7]; simp
      have HDS := Lib.hid hdst
      have HSS := Lib.hid hs
      have K0 := Lib.hid k0
      have K5 := Lib.hid k5
      clear e7t he6 he8 t0 t1 t2 t3 t4 t4' t5 t5' hdst hs k0 k5 HDST x0 x1 x2 x3
      have hrow := HH1.out.els.row
      rw [HNL.out] at hrow
      have HELS := Lib.hid HH1.out.els.els
      go_wp2_with fail
      go_loopw [64] (fun i wr => ∃ (k : Nat), i = .int .i64 k ∧ k ≤ nl ∧ Hid (∀ j, j < k → mayE (pL.getD j ep0).e = true) ∧ Below w1.heap.size w1 wr) (fun i _ => nl - (intOf i).toNat)
      case atStart => exact ⟨0, rfl, by omega, Lib.hid (fun j hj => by omega), Below.refl _ _⟩
      case round =>
        obtain ⟨k, rfl, hk, HE, bb⟩ := hrel
        by_cases hlt : k < nl
        · obtain ⟨x, hx⟩ : ∃ x, pL.getD k ep0 = x := ⟨_, rfl⟩
          obtain ⟨pb', po, rfl, hpb, x0, x1, x2, x3, x4⟩ := erow hrow bb hlt hx
          have hat := HELS.out k (by rw [HNL.out]; exact hlt)
          rw [hx] at hat
          have HX := Lib.hid hx
          have hl1 := els_at (k := k) (by rw [HNL.out]; exact hlt) hx
          have HL1 := Lib.hid hl1
          clear hx hl1
          obtain ⟨⟨ek, easn, erank, et, el⟩, ea, ec⟩ := x
          simp only at x0 x1 x2 x3 x4 hat
          have o2 := Own.new wr 59 #[.int .i64 ek, .int .i64 easn, .int .i64 erank, .int .i64 et, .slice ea el.length ec]
          have b2 := (Below.refl wr.heap.size wr).alloc (Nat.le_refl _) (.cells #[.int .i64 ek, .int .i64 easn, .int .i64 erank, .int .i64 et, .slice ea el.length ec] 59)
          have b3 := bb.trans (b2.mono bb.size)
          have hm := rmay_any ⟨ek, easn, erank, et, el⟩ ea ec _ (hat.below b3)
          unfold El.vals at hm
          simp only at hm
          go_upto_region 6 with (fail)
          generalize wr.alloc (.cells #[.int .i64 ek, .int .i64 easn, .int .i64 erank, .int .i64 et, .slice ea el.length ec] 59) = v2 at *
          obtain ⟨g6, hg6⟩ : ∃ g, wr.heap.size = g := ⟨_, rfl⟩
          rw [hg6] at o2 ⊢
          obtain ⟨q, hq⟩ : ∃ q, mayE ⟨ek, easn, erank, et, el⟩ = q := ⟨_, rfl⟩
          rw [hq] at hm
          have HM := Lib.hid hm
          have HQ := Lib.hid hq
          have y0 : v2.cell? ⟨g6, 0, none⟩ = some (.int .i64 ek) := o2.cell 0
          have y1 : v2.cell? ⟨g6, 1, none⟩ = some (.int .i64 easn) := o2.cell 1
          have y2 : v2.cell? ⟨g6, 2, none⟩ = some (.int .i64 erank) := o2.cell 2
          have y3 : v2.cell? ⟨g6, 3, none⟩ = some (.int .i64 et) := o2.cell 3
          have y4 : v2.cell? ⟨g6, 4, none⟩ = some (.slice ea el.length ec) := o2.cell 4
          clear hg6 b2 hm hq x0 x1 x2 x3 x4 bb hat o2
          cases q
          · have HD : Hid (mayF ⟨pk, ps, pd, pq, els pL, pdata⟩ = false) := Lib.hid (mayF_no5 (mayL_no (k := k) (by show k < (els pL).length; rw [els_len, HNL.out]; exact hlt) (by rw [HL1.out]; exact HQ.out)))
            go_wp2_with fail
            refine HM.out.mono ?_
            rintro r w4 ⟨rfl, b4⟩
            go_wp2_with fail
            go_ret
            exact ⟨by rw [HF.out, HD.out]; rfl, b0.trans ((b3.trans (b4.mono b3.size)).mono b0.size)⟩
          · have HE2 : Hid (∀ j, j < k + 1 → mayE (pL.getD j ep0).e = true) := Lib.hid (fun j hj => by
              by_cases e : j = k
              · subst e; rw [HX.out]; exact HQ.out
              · exact HE.out j (by omega))
            go_wp2_with fail
            refine HM.out.mono ?_
            rintro r w4 ⟨rfl, b4⟩
            have b5 := b3.trans (b4.mono b3.size)
            clear y0 y1 y2 y3 y4 b3 b4
            go_wp2_with fail
            exact ⟨⟨k + 1, by simp, by omega, HE2, b5⟩, by simp [intOf]; omega⟩
        · obtain rfl : nl = k := by omega
          have hml : mayL (els pL) = true := mayL_yes (by rw [els_len, HNL.out]; exact q4) (fun j hj => by
            have e1 := els_at (L := pL) (k := j) (by rw [els_len] at hj; exact hj) rfl
            rw [e1]
            exact HE.out j (by rw [els_len, HNL.out] at hj; exact hj))
          have HD : Hid (mayF ⟨pk, ps, pd, pq, els pL, pdata⟩ = kindB ⟨pk, ps, pd, pq, els pL, pdata⟩) := Lib.hid (mayF_yes HSS.out q0 q1 (by show pdata.length ≤ 64; rw [HND.out]; exact q2) hml HDS.out)
          have o2 := below_own bb o1 o1.lt
          have b3 := b0.trans (bb.mono b0.size)
          have h2 := HH1.out.below bb
          clear hml x4 x5
          have x0 : wr.cell? ⟨w.heap.size, 0, none⟩ = some (.int .i64 pk) := o2.cell 0
          have x2 : wr.cell? ⟨w.heap.size, 2, none⟩ = some (.int .i64 pd) := o2.cell 2
          have x4 : wr.cell? ⟨w.heap.size, 4, none⟩ = some (.slice pa nl pc) := o2.cell 4
          have x5 : wr.cell? ⟨w.heap.size, 5, none⟩ = some (.slice pb nd pe) := o2.cell 5
          obtain ⟨z, hz⟩ : ∃ z, (nd == 0) = z := ⟨_, rfl⟩
          have hz' : ((nd : Int) == 0) = z := by rw [← hz, Bool.eq_iff_iff]; simp
          have hzp : decide (0 < nd) = !z := by rw [← hz, Bool.eq_iff_iff]; simp; omega
          have hzp' : decide ((0 : Int) < (nd : Int)) = !z := by rw [← hz, Bool.eq_iff_iff]; simp; omega
          by_cases k24 : pk = 2 ∨ pk = 4
          · have hK : kindB ⟨pk, ps, pd, pq, els pL, pdata⟩ = (!e7 && z) := by
              unfold kindB
              rw [if_pos k24]
              show ((pd != 64) && (pdata.length == 0)) = _
              rw [he7', HND.out, hz]
            have HK := Lib.hid hK
            by_cases k2 : pk = 2
            · subst k2
              clear k24 hK
              cases e7
              · cases z
                all_goals
                  simp only [Bool.not_false, Bool.not_true] at he7' hzp hzp'
                  go_wp2_with fail
                  go_ret
                  exact ⟨by rw [HF.out, HD.out, HK.out]; rfl, b3⟩
              · simp only [Bool.not_true] at he7'
                go_wp2_with fail
                go_ret
                exact ⟨by rw [HF.out, HD.out, HK.out]; rfl, b3⟩
            · have k4 : pk = 4 := by omega
              subst k4
              clear k24 hK k2
              cases e7
              · cases z
                all_goals
                  simp only [Bool.not_false, Bool.not_true] at he7' hzp hzp'
                  go_wp2_with fail
                  go_ret
                  exact ⟨by rw [HF.out, HD.out, HK.out]; rfl, b3⟩
              · simp only [Bool.not_true] at he7'
                go_wp2_with fail
                go_ret
                exact ⟨by rw [HF.out, HD.out, HK.out]; rfl, b3⟩
          · have s2 : (pk == 2) = false := by simp; omega
            have s4 : (pk == 4) = false := by simp; omega
            by_cases k3 : pk = 3
            · have hK : kindB ⟨pk, ps, pd, pq, els pL, pdata⟩ = (e7 && (z && (fstE (els pL) 1).isSome)) := by
                unfold kindB
                rw [if_neg k24, if_pos k3]
                show ((pd == 64) && ((pdata.length == 0) && _)) = _
                rw [he7, HND.out, hz]
              have HK := Lib.hid hK
              have hf := rfind_any pL pa pc 1 wr h2.els HMM.out
              rw [HNL.out] at hf
              have HFD := Lib.hid hf
              subst k3
              clear k24 hK hf
              go_wp2_with fail
              refine HFD.out.mono ?_
              rintro r w4 ⟨a4, c4, rfl, hat4, b4⟩
              obtain ⟨fe, hfe⟩ : ∃ f, foundE (els pL) 1 = f := ⟨_, rfl⟩
              rw [hfe]
              obtain ⟨ok, hok⟩ : ∃ f, (fstE (els pL) 1).isSome = f := ⟨_, rfl⟩
              have HK2 : Hid (kindB ⟨3, ps, pd, pq, els pL, pdata⟩ = (e7 && (z && ok))) := Lib.hid (by rw [HK.out, hok])
              rw [hok]
              obtain ⟨fk, fa, fr, ft, fl⟩ := fe
              have o4 := below_own b4 o2 (by have := o2.lt; omega)
              have b5 := b3.trans (b4.mono b3.size)
              unfold El.vals
              simp only
              have o5 := o4.alloc (.cells #[.int .i64 fk, .int .i64 fa, .int .i64 fr, .int .i64 ft, .slice a4 fl.length c4] 59)
              have b6 := b5.alloc b5.size (.cells #[.int .i64 fk, .int .i64 fa, .int .i64 fr, .int .i64 ft, .slice a4 fl.length c4] 59)
              clear hfe hok hat4 HFD HK b4 o4 b5 x0 x2 x4 x5 h2 o2 b3
              go_upto_region 15 with (fail)
              generalize w4.alloc (.cells #[.int .i64 fk, .int .i64 fa, .int .i64 fr, .int .i64 ft, .slice a4 fl.length c4] 59) = w5 at *
              have x2 : w5.cell? ⟨w.heap.size, 2, none⟩ = some (.int .i64 pd) := o5.cell 2
              have x5 : w5.cell? ⟨w.heap.size, 5, none⟩ = some (.slice pb nd pe) := o5.cell 5
              cases e7
              · go_wp2_with fail
                go_ret
                exact ⟨by rw [HF.out, HD.out, HK2.out]; rfl, b6⟩
              · cases z
                all_goals
                  go_wp2_with fail
                  go_ret
                  exact ⟨by rw [HF.out, HD.out, HK2.out]; rfl, b6⟩
            · have s3 : (pk == 3) = false := by simp; omega
              have k15 : pk = 1 ∨ pk = 5 := by have := K0.out; have := K5.out; omega
              have hK : kindB ⟨pk, ps, pd, pq, els pL, pdata⟩ = (!e7 && !z) := by
                unfold kindB
                rw [if_neg k24, if_neg k3, if_pos k15]
                show ((pd != 64) && decide (0 < pdata.length)) = _
                rw [he7', HND.out, hzp]
              have HK := Lib.hid hK
              clear k24 hK k3 k15
              cases e7
              · cases z
                all_goals
                  simp only [Bool.not_false, Bool.not_true] at he7' hzp hzp'
                  go_wp2_with fail
                  go_ret
                  exact ⟨by rw [HF.out, HD.out, HK.out]; rfl, b3⟩
              · simp only [Bool.not_true] at he7'
                go_wp2_with fail
                go_ret
                exact ⟨by rw [HF.out, HD.out, HK.out]; rfl, b3⟩
end Go.Proofs.YtiflmdekcjbmbaaGreat.Fm
set_option maxRecDepth 100000
namespace Go.Proofs.YtiflmdekcjbmbaaGreat.Cr
set_option linter.unusedVariables false
set_option linter.unusedSimpArgs false
open Go.RowKit Lb
set_option linter.unusedVariables false

set_option maxHeartbeats 2000000 in
theorem rsum_any (a : Option Addr) (n c : Nat) (Z : Nat → Int) (w : World) (hm : n ≤ maxLen) (hZ : Row w a n (fun i => .int .u8 (Z i))) (hz : Byte Z) :
    Calls Tryz.prog 124 #[.slice a n c] w fun r w' => r = .returned (.int .u16 ((crc Z n : Nat) : Int)) ∧ w = w' := by
  unfold maxLen at hm
  go_enter Tryz.func124, Tryz.ntmps124
  go_wp2_with fail
  go_loop [3, 8] (fun u q => ∃ k : Nat, u = .int .u16 ((crc Z k : Nat) : Int) ∧ q = .int .i64 k ∧ k ≤ n) (fun _ q => n - (intOf q).toNat)
  case atStart => exact ⟨0, rfl, rfl, by omega⟩
  case round =>
    obtain ⟨k, rfl, rfl, hk⟩ := hrel
    by_cases hlt : k < n
    · obtain ⟨b, o, rfl, hb, hc⟩ := hZ.at_ hlt
      have hl := crc_lt hz k
      obtain ⟨z0, z1⟩ := hz k
      have hx := u16_xor (crc Z k : Int) (Z k) (by omega) (by omega) (hz k).1 (by have := (hz k).2; omega)
      simp only [Int.toNat_natCast] at hx
      have hl2 : crc Z k ^^^ (Z k).toNat < 65536 := xor_lt hl (by have := hz k; omega)
      have hq : crc Z (k + 1) = bits_ 8 (crc Z k ^^^ (Z k).toNat) := rfl
      have HQ := Lib.hid hq
      clear hq
      go_wp2_with fail
      generalize crc Z k ^^^ (Z k).toNat = s0 at *
      clear hx hc
      go_loop [3, 16] (fun u q => ∃ (j s : Nat), u = .int .u16 (s : Int) ∧ q = .int .i64 j ∧ j ≤ 8 ∧ s < 65536 ∧ Hid (bits_ (8 - j) s = bits_ 8 s0)) (fun _ q => 8 - (intOf q).toNat)
      case atStart => exact ⟨0, s0, rfl, rfl, by omega, hl2, Lib.hid rfl⟩
      case round =>
        obtain ⟨j, s, rfl, rfl, hj, hs, HS⟩ := hrel
        by_cases hj8 : j < 8
        · have HS' : Hid (bits_ (8 - (j + 1)) (bit s) = bits_ 8 s0) := Lib.hid (by rw [← HS.out, show 8 - j = (8 - (j + 1)) + 1 from by omega]; rfl)
          have hb' := bit_lt hs
          rcases Nat.mod_two_eq_zero_or_one s with h2 | h2
          · have e1 := even_bits hs h2
            have E := Lib.hid (even_step h2)
            clear h2
            go_wp2_with fail
            exact ⟨⟨j + 1, bit s, by rw [E.out], by go_num, by omega, hb', HS'⟩, by simp [intOf]; omega⟩
          · have e1 := odd_bits hs h2
            have E := Lib.hid (odd_step hs h2)
            clear h2
            go_wp2_with fail
            exact ⟨⟨j + 1, bit s, by rw [E.out], by go_num, by omega, hb', HS'⟩, by simp [intOf]; omega⟩
        · obtain rfl : j = 8 := by omega
          go_wp2_with fail
          exact ⟨⟨k + 1, by rw [HQ.out, ← HS.out]; rfl, by go_num, by omega⟩, by simp [intOf]; omega⟩
    · obtain rfl : k = n := by omega
      go_wp2_with fail
      go_ret
      exact ⟨rfl, rfl⟩

set_option maxHeartbeats 2000000 in
theorem rappend_any (a : Option Addr) (n c : Nat) (Z : Nat → Int) (w : World) (hn : n ≤ 140737488351232) (hZ : Row w a n (fun i => .int .u8 (Z i))) (hz : Byte Z) :
    Calls Tryz.prog 55 #[.slice a n c] w fun r w' => ∃ v, r = .returned v ∧ Mine w' w.heap.size 5 v (n + 2) (fun i => .int .u8 (app Z n i)) ∧ Below w.heap.size w w' := by
  obtain ⟨i0, hi0, hz0, hz1, hz2⟩ := info_parts info8
  have M := Lib.hid (show n + 2 ≤ maxLen by unfold maxLen; omega)
  have M' := Lib.hid (show n ≤ maxLen by unfold maxLen; omega)
  have hl := crc_lt hz n
  go_enter Tryz.func55, Tryz.ntmps55
  go_wp2_with fail
  refine (rsum_any _ _ _ Z _ M'.out hZ hz).mono ?_
  rintro r w' ⟨rfl, rfl⟩
  go_wp2_with (at_builtin; go_must (refine wp_app rfl (.const (.slice none 0 0)) (.tmp 6) _ rfl w.heap.size 5 i0 _ 1 Tryz.underlying35 hi0 hz0 hz1 hz2 rfl _ 0 (fun i => .int .u8 (app Z n i)) rfl (Mine.nil _ _ _ _) a n c (fun i => .int .u8 (Z i)) rfl hZ (fun _ _ => rfl) ?c1 ?c2 ?c3 ?_))
  case c1 => rw [Nat.zero_add]; exact M'.out
  case c2 => omega
  case c3 => exact Nat.le_refl _
  intro v2 w2 hv2 hg2
  have b2 : Below w.heap.size w w2 := (Below.refl _ _).grown hg2 (Nat.le_refl _) (fun k hk => by cases hk)
  have hv2' : Mine w2 w.heap.size 5 v2 n (fun i => .int .u8 (app Z n i)) := by
    have h9 : Mine w2 w.heap.size 5 v2 n (fun i => if i < 0 then Value.int .u8 (app Z n i) else Value.int .u8 (Z (i - 0))) := by
      rw [show n = 0 + n by omega]; first | exact hv2 | simpa using hv2
    exact h9.ext fun i hi => by rw [app_low hi]; simp
  clear hv2
  have hs := b2.size
  go_wp2_with (at_builtin; go_must (refine wp_app rfl (.tmp 7) (.tmp 13) _ rfl w.heap.size 5 i0 _ 1 Tryz.underlying35 hi0 hz0 hz1 hz2 rfl v2 n _ rfl (hv2'.alloc _) _ 2 _ (fun i => if i = 0 then .int .u8 ((crc Z n : Int) % 256) else .int .u8 ((crc Z n : Int) / 256)) rfl (two_row w2 _ _ _) (two_one _ _) M.out ?c2 ?c3 ?_))
  case c2 => omega
  case c3 => simp; omega
  intro v3 w3 hv3 hg3
  have b3 : Below w.heap.size w w3 := (b2.alloc hs _).grown hg3 (by simp; omega) (fun q hq => (hv2'.lt q hq).1)
  have hv3' : Mine w3 w.heap.size 5 v3 (n + 2) (fun i => .int .u8 (app Z n i)) := hv3.ext fun i hi => by
    by_cases h : i < n
    · simp only [h, if_true]
    · have e : ¬ i < n := h
      simp only [e, if_false]
      unfold app
      rw [if_neg e]
      by_cases h2 : i = n
      · subst h2; simp
      · have h3 : i - n ≠ 0 := by omega
        simp [h2, h3]
  clear hv3
  go_wp2_with fail
  go_ret
  exact ⟨_, rfl, hv3', b3⟩

theorem app_good {Z : Nat → Int} (hz : Byte Z) (m : Nat) : ((str (app Z m) (m + 2)).toList == (str Z (m + 2)).toList) = goodb Z (m + 2) := by
  rw [Bool.eq_iff_iff, goodb_iff hz m, beq_iff_eq]
  constructor
  · intro h
    have h' := (str_list_inj (app_byte hz m) hz h).2
    have e0 := h' m (by omega)
    have e1 := h' (m + 1) (by omega)
    unfold app at e0 e1
    simp at e0 e1
    constructor
    · rw [← e0]; simp
    · rw [← e1]; simp
  · rintro ⟨h0, h1⟩
    rw [str_congr (Z := app Z m) (Y := Z)]
    intro i hi
    unfold app
    by_cases h : i < m
    · rw [if_pos h]
    · rw [if_neg h]
      by_cases h2 : i = m
      · subst h2; rw [if_pos rfl, h0]
      · obtain rfl : i = m + 1 := by omega
        rw [if_neg h2, h1]

theorem rappend_conv (a : Option Addr) (m n c : Nat) (Z : Nat → Int) (w : World) (hn : n ≤ 140737488351232) (hmn : m ≤ n) (hZ : Row w a n (fun i => .int .u8 (Z i))) (hz : Byte Z) :
    Calls Tryz.prog 55 #[.slice a m c] w fun r w' => ∃ va vc, r = .returned (.slice va (m + 2) vc) ∧
      (convert 35 9 (.slice va (m + 2) vc)).run Tryz.prog w' = .ok (.string (str (app Z m) (m + 2))) w' ∧
      (∀ d, (convert 35 9 (.slice a n d)).run Tryz.prog w' = .ok (.string (str Z n)) w') ∧ Below w.heap.size w w' := by
  refine (rappend_any a m c Z w (by omega) (hZ.cut hmn) hz).mono ?_
  rintro r w2 ⟨v, rfl, hv, hb⟩
  obtain ⟨va, vc, rfl, hvc, hvm, hR⟩ := hv.row
  exact ⟨va, vc, rfl, conv_string (P := Tryz.prog) Tryz.underlying35 Tryz.underlying5 Tryz.underlying9 hR,
    fun d => conv_string (P := Tryz.prog) Tryz.underlying35 Tryz.underlying5 Tryz.underlying9 (Row.below hZ hb), hb⟩

set_option maxHeartbeats 4000000 in
theorem rgood_any (a : Option Addr) (n c : Nat) (Z : Nat → Int) (w : World) (hn : n ≤ 140737488351232) (hc : n ≤ c) (hm : c ≤ maxLen) (hZ : Row w a n (fun i => .int .u8 (Z i))) (hz : Byte Z) :
    Calls Tryz.prog 68 #[.slice a n c] w fun r w' => r = .returned (.bool (goodb Z n)) ∧ Below w.heap.size w w' := by
  unfold maxLen at hm
  by_cases h2 : n < 2
  · have hg : goodb Z n = false := by unfold goodb; simp; omega
    rcases (show n = 0 ∨ n = 1 by omega) with h | h
    all_goals
      subst h
      go_enter Tryz.func68, Tryz.ntmps68
      go_wp2_with fail
      go_quiet (fail)
      go_wp2_with fail
      go_ret
      exact ⟨by rw [hg]; rfl, below_drewN (Below.refl _ _) _⟩
  · obtain ⟨m, rfl⟩ := Nat.exists_eq_add_of_le' (show 2 ≤ n by omega)
    have E := Lib.hid (app_good hz m)
    have k0 := fun d => conv_string (P := Tryz.prog) (dst := 9) (c := d) Tryz.underlying35 Tryz.underlying5 Tryz.underlying9 (show Row w.drew a (m + 2) (fun i => .int .u8 (Z i)) from hZ)
    go_enter Tryz.func68, Tryz.ntmps68
    go_wp2_with fail
    go_region_with (go_at_call 55; refine (rappend_conv a m (m + 2) c Z _ hn (by omega) ?_ hz).mono ?_; (exact hZ); rintro r w2 ⟨va, vc, rfl, k1, k2, hb⟩)
    all_goals
      go_wp2_with fail
      go_ret
      exact ⟨by rw [← E.out]; rfl, (below_drewN (Below.refl _ w) 1).trans hb⟩

end Go.Proofs.YtiflmdekcjbmbaaGreat.Cr
set_option maxRecDepth 100000
namespace Go.Proofs.YtiflmdekcjbmbaaGreat.Fm
set_option linter.unusedVariables false
set_option linter.unusedSimpArgs false
open Go.RowKit Lb Bf Ie Go.Deep

set_option maxHeartbeats 4000000 in
theorem rencF_any (p : Fp) (w : World) (h : p.At w) (hm : ∀ k, k < p.L.length → (p.L.getD k ep0).e.list.length ≤ 1000000) :
    Calls Tryz.prog 16 #[.agg p.vals] w (EncFPost p.fr w) := by
  have o1 := Own.new w 37 p.vals
  have b0 := (Below.refl w.heap.size w).alloc (Nat.le_refl _) (.cells p.vals 37)
  have h1 := h.below b0
  have hM := rmayF_any p _ h1 hm
  have HDO := Lib.hid h.ok
  clear h hm
  obtain ⟨i0, hi0, hz0, hz1, hz2⟩ := info_parts info8
  obtain ⟨pk, ps, pd, pq, pL, pa, pc, pdata, pb, pe⟩ := p
  have HF : Hid ((⟨pk, ps, pd, pq, pL, pa, pc, pdata, pb, pe⟩ : Fp).fr = ⟨pk, ps, pd, pq, els pL, pdata⟩) := Lib.hid rfl
  rw [HF.out] at hM ⊢
  unfold Fp.vals at *
  simp only at *
  obtain ⟨nd, hnd⟩ : ∃ n, pdata.length = n := ⟨_, rfl⟩
  have HND := Lib.hid hnd
  rw [hnd] at o1 b0 h1 hM ⊢
  obtain ⟨nl, hnl⟩ : ∃ n, pL.length = n := ⟨_, rfl⟩
  have HNL := Lib.hid hnl
  rw [hnl] at o1 b0 h1 hM ⊢
  go_enter Tryz.func16, Tryz.ntmps16
  go_upto_region 1 with (fail)
  generalize w.alloc (.cells #[.int .i64 pk, .int .i64 ps, .int .i64 pd, .int .i64 pq, .slice pa nl pc, .slice pb nd pe] 37) = w1 at *
  have x0 : w1.cell? ⟨w.heap.size, 0, none⟩ = some (.int .i64 pk) := o1.cell 0
  have x1 : w1.cell? ⟨w.heap.size, 1, none⟩ = some (.int .i64 ps) := o1.cell 1
  have x2 : w1.cell? ⟨w.heap.size, 2, none⟩ = some (.int .i64 pd) := o1.cell 2
  have x3 : w1.cell? ⟨w.heap.size, 3, none⟩ = some (.int .i64 pq) := o1.cell 3
  have x4 : w1.cell? ⟨w.heap.size, 4, none⟩ = some (.slice pa nl pc) := o1.cell 4
  have x5 : w1.cell? ⟨w.heap.size, 5, none⟩ = some (.slice pb nd pe) := o1.cell 5
  have HM := Lib.hid hM
  clear hnd hnl hM
  cases hmay : mayF ⟨pk, ps, pd, pq, els pL, pdata⟩
  · rw [hmay] at HM
    have HMAY := Lib.hid hmay
    clear hmay
    go_wp2_with fail
    refine HM.out.mono ?_
    rintro r w2 ⟨rfl, b2⟩
    go_wp2_with fail
    go_ret2
    unfold EncFPost
    rw [HMAY.out]
    exact ⟨rfl, b0.trans (b2.mono b0.size)⟩
  rw [hmay] at HM
  have HMAY := Lib.hid hmay
  obtain ⟨m1, m2, m3, m4, m5, m6⟩ := mayF_out hmay
  simp only at m1 m2 m3 m4 m5 m6
  rw [HND.out] at m3
  clear hmay
  go_wp2_with fail
  refine HM.out.mono ?_
  rintro r w2 ⟨rfl, b2⟩
  have o2 := below_own b2 o1 o1.lt
  have h2 := h1.below b2
  have b3 := b0.trans (b2.mono b0.size)
  clear x0 x1 x2 x3 x4 x5 o1 h1 b0 HM
  have x4 : w2.cell? ⟨w.heap.size, 4, none⟩ = some (.slice pa nl pc) := o2.cell 4
  have hE := rencode_own pL pa pc w2 h2.els
  rw [HNL.out] at hE
  have HE := Lib.hid hE
  clear hE
  go_wp2_with fail
  refine HE.out.mono ?_
  intro r w3 hp
  unfold REncPost at hp
  rw [if_pos m4] at hp
  obtain ⟨v3, rfl, M3, b4⟩ := hp
  have o3 := below_own b4 o2 o2.lt
  have h3 := h2.below b4
  have b5 := b3.trans (b4.mono b3.size)
  obtain ⟨hX1, hX2⟩ := encI_ok m4
  obtain ⟨X, hX⟩ : ∃ X, Ie.encI (els pL) = X := ⟨_, rfl⟩
  rw [hX] at M3 hX1 hX2
  have HX := Lib.hid hX
  obtain ⟨nx, hnx⟩ : ∃ n, X.length = n := ⟨_, rfl⟩
  rw [hnx] at M3 hX2
  have HNX := Lib.hid hnx
  have HXO := Lib.hid hX1
  obtain ⟨a3, c3, rfl, l3, lm3, R3⟩ := M3.row
  unfold maxLen at lm3
  have hR5 : Row w3 pb nd (bval pdata) := by have := h3.row; simp only at this; rwa [HND.out] at this
  have x0 : w3.cell? ⟨w.heap.size, 0, none⟩ = some (.int .i64 pk) := o3.cell 0
  have x1 : w3.cell? ⟨w.heap.size, 1, none⟩ = some (.int .i64 ps) := o3.cell 1
  have x2 : w3.cell? ⟨w.heap.size, 2, none⟩ = some (.int .i64 pd) := o3.cell 2
  have x3 : w3.cell? ⟨w.heap.size, 3, none⟩ = some (.int .i64 pq) := o3.cell 3
  have u0 : IntKind.u8.wrap pk = pk := u8_id (by omega)
  have u1 : IntKind.u8.wrap ps = ps := u8_id (by omega)
  have u2 : IntKind.u8.wrap pd = pd := u8_id (by omega)
  have u3 : IntKind.u8.wrap pq = pq := u8_id (by omega)
  have u4 : IntKind.u8.wrap (nx : Int) = (nx : Int) := u8_id (by omega)
  have hB := Own.new w3 5 #[.int .u8 197, .int .u8 pk, .int .u8 ps, .int .u8 pd, .int .u8 pq, .int .u8 (nx : Int)]
  have MB : Mine (w3.alloc (.cells #[.int .u8 197, .int .u8 pk, .int .u8 ps, .int .u8 pd, .int .u8 pq, .int .u8 (nx : Int)] 5)) w3.heap.size 5 (.slice (some ⟨w3.heap.size, 0, none⟩) 6 6) 6 (bval [197, pk, ps, pd, pq, (nx : Int)]) :=
    Mine.made hB (Nat.le_refl _) (by show 6 ≤ maxLen; unfold maxLen; decide) (Nat.le_refl _) (fun i hi => by rcases (show i = 0 ∨ i = 1 ∨ i = 2 ∨ i = 3 ∨ i = 4 ∨ i = 5 by omega) with rfl | rfl | rfl | rfl | rfl | rfl <;> rfl)
  have bB := (Below.refl w3.heap.size w3).alloc (Nat.le_refl _) (.cells #[.int .u8 197, .int .u8 pk, .int .u8 ps, .int .u8 pd, .int .u8 pq, .int .u8 (nx : Int)] 5)
  have RX : Row (w3.alloc (.cells #[.int .u8 197, .int .u8 pk, .int .u8 ps, .int .u8 pd, .int .u8 pq, .int .u8 (nx : Int)] 5)) a3 nx (bval X) := R3.below bB
  have Hm1 : Hid (6 + nx ≤ maxLen) := Lib.hid (by unfold maxLen; omega)
  have HMB := Lib.hid MB
  have HRX := Lib.hid RX
  clear hX hX1 hnx o2 h2 b3 b4 x4 hB MB RX M3 R3
  go_wp2_with (at_builtin; go_must (refine wp_app rfl (.tmp 31) (.tmp 32) _ rfl w3.heap.size 5 i0 _ 1 Tryz.underlying35 hi0 hz0 hz1 hz2 rfl _ 6 (bval [197, pk, ps, pd, pq, (nx : Int)]) rfl HMB.out _ nx _ (bval X) rfl HRX.out (fun _ _ => rfl) Hm1.out ?c2 ?c3 ?_))
  case c2 => omega
  case c3 => first | omega | (simp; done) | (simp; omega)
  intro v6 w6 M6 g6
  have b6 : Below w3.heap.size w3 w6 := bB.grown g6 (by simp) (fun q hq => (HMB.out.lt q hq).1)
  have M6' : Mine w6 w3.heap.size 5 v6 (6 + nx) (bval ([197, pk, ps, pd, pq, (nx : Int)] ++ X)) := M6.ext (fun i _ => bval_app [197, pk, ps, pd, pq, (nx : Int)] X i)
  have o6 := below_own b6 o3 o3.lt
  have R6 := hR5.below b6
  have HM6 := Lib.hid M6'
  clear M6 M6' g6 x0 x1 x2 x3 bB HMB HRX
  go_upto_region 5 with (fail)
  have hl6 : ([197, pk, ps, pd, pq, (nx : Int)] ++ X).length = 6 + nx := by rw [List.length_append, HNX.out]; simp
  obtain ⟨Y, hY⟩ : ∃ Y, [197, pk, ps, pd, pq, (nx : Int)] ++ X = Y := ⟨_, rfl⟩
  rw [hY] at HM6 hl6
  have HY := Lib.hid hY
  have HL6 := Lib.hid hl6
  clear hY hl6
  obtain ⟨g, hg⟩ : ∃ g, w.heap.size = g := ⟨_, rfl⟩
  rw [hg] at o6 o3 b5 ⊢
  have HG := Lib.hid hg
  clear hg
  have u5 : IntKind.u8.wrap (nd : Int) = (nd : Int) := u8_id (by omega)
  have oA : Lb.Own w6.drew g 37 #[.int .i64 pk, .int .i64 ps, .int .i64 pd, .int .i64 pq, .slice pa nl pc, .slice pb nd pe] := o6.drewN 1
  have oB : Lb.Own (w6.alloc (.cells #[.int .u8 (nd : Int)] 5)).drew g 37 #[.int .i64 pk, .int .i64 ps, .int .i64 pd, .int .i64 pq, .slice pa nl pc, .slice pb nd pe] := (o6.alloc (.cells #[.int .u8 (nd : Int)] 5)).drewN 1
  have s0 : w6.drew.cell? ⟨g, 5, none⟩ = some (.slice pb nd pe) := oA.cell 5
  have s1 : (w6.alloc (.cells #[.int .u8 (nd : Int)] 5)).drew.cell? ⟨g, 5, none⟩ = some (.slice pb nd pe) := oB.cell 5
  have rB : Row (w6.alloc (.cells #[.int .u8 (nd : Int)] 5)).drew (some ⟨w6.heap.size, 0, none⟩) 1 (bval [(nd : Int)]) := (row_new _ _ _ _ (fun i hi => by cases Nat.lt_one_iff.1 hi; rfl)).drewN 1
  have dB : Below w3.heap.size w3 (w6.alloc (.cells #[.int .u8 (nd : Int)] 5)).drew := below_drewN (b6.alloc b6.size _) 1
  have mB : Mine (w6.alloc (.cells #[.int .u8 (nd : Int)] 5)).drew w3.heap.size 5 v6 (6 + nx) (bval Y) := (HM6.out.alloc (.cells #[.int .u8 (nd : Int)] 5)).drewN 1
  have qB : Row (w6.alloc (.cells #[.int .u8 (nd : Int)] 5)).drew pb nd (bval pdata) := (hR5.below (b6.alloc b6.size (.cells #[.int .u8 (nd : Int)] 5))).drewN 1
  have hlt3 := o3.lt
  have H1 : Hid (6 + nx + 1 ≤ maxLen) := Lib.hid (by unfold maxLen; omega)
  have H2 : Hid (6 + nx + 1 + nd ≤ maxLen) := Lib.hid (by unfold maxLen; omega)
  have HH := Lib.hid hR5
  have HALL : Hid (∀ W : World, Lb.Own W g 37 #[.int .i64 pk, .int .i64 ps, .int .i64 pd, .int .i64 pq, .slice pa nl pc, .slice pb nd pe] → W.cell? ⟨g, 5, none⟩ = some (.slice pb nd pe)) := Lib.hid (fun W o => o.cell 5)
  clear hR5 R6 h3 oA
  go_region_held3 (fun w' => w'.cell? ⟨g, 5, none⟩ = some (.slice pb nd pe)) (with_reducible first | exact s0 | exact s1 | exact s2 | exact s3 | fail) (first
    | (with_reducible refine at_app ?_; refine step_app rfl (.tmp 34) (.tmp 39) 35 rfl w3.heap.size 5 i0 _ 1 Tryz.underlying35 hi0 hz0 hz1 hz2 rfl v6 (6 + nx) (bval Y) rfl mB _ 1 1 (bval [(nd : Int)]) rfl rB (fun _ _ => rfl) H1.out (by omega) dB.size ?_; intro v8 w8 m8 g8 _; have b8 : Below w3.heap.size w3 w8 := dB.grown g8 dB.size (fun q hq => (mB.lt q hq).1); have s2 : w8.cell? ⟨g, 5, none⟩ = some (.slice pb nd pe) := HALL.out _ (below_own b8 o3 hlt3); have r8 : Row w8 pb nd (bval pdata) := HH.out.below b8)
    | (with_reducible refine at_app ?_; refine step_app rfl (.tmp 40) (.tmp 42) 35 rfl w3.heap.size 5 i0 _ 1 Tryz.underlying35 hi0 hz0 hz1 hz2 rfl v8 (6 + nx + 1) (fun i => if i < 6 + nx then bval Y i else bval [(nd : Int)] (i - (6 + nx))) rfl m8 _ nd pe (bval pdata) rfl r8 (fun _ _ => rfl) H2.out (by omega) b8.size ?_; intro v9 w9 m9 g9 _; have b9 : Below w3.heap.size w3 w9 := b8.grown g9 b8.size (fun q hq => (m8.lt q hq).1); have s3 : w9.cell? ⟨g, 5, none⟩ = some (.slice pb nd pe) := HALL.out _ (below_own b9 o3 hlt3))
    | fail)
  all_goals
    have hR : Y ++ [(nd : Int)] ++ pdata = encR ⟨pk, ps, pd, pq, els pL, pdata⟩ := by
      unfold encR
      rw [HX.out, HNX.out, HND.out, ← HY.out]
    have M9 : Mine w9 w3.heap.size 5 v9 (Y ++ [(nd : Int)] ++ pdata).length (bval (Y ++ [(nd : Int)] ++ pdata)) := by
      have e1 : (Y ++ [(nd : Int)]).length = 6 + nx + 1 := by rw [List.length_append, HL6.out]; rfl
      have e2 : (Y ++ [(nd : Int)] ++ pdata).length = 6 + nx + 1 + nd := by rw [List.length_append, e1, HND.out]
      rw [e2]
      refine m9.ext fun i _ => ?_
      rw [← bval_app (Y ++ [(nd : Int)]) pdata i, e1]
      by_cases h : i < 6 + nx + 1
      · rw [if_pos h, if_pos h, ← bval_app Y [(nd : Int)] i, HL6.out]
      · rw [if_neg h, if_neg h]
    rw [hR] at M9
    have hRl := encR_len ⟨pk, ps, pd, pq, els pL, pdata⟩
    rw [HX.out, HNX.out] at hRl
    simp only at hRl
    rw [HND.out] at hRl
    have hRo := encR_ok HMAY.out HDO.out
    obtain ⟨R, hRR⟩ : ∃ R, encR ⟨pk, ps, pd, pq, els pL, pdata⟩ = R := ⟨_, rfl⟩
    rw [hRR] at M9 hRl hRo
    have HRR := Lib.hid hRR
    obtain ⟨nr, hnr⟩ : ∃ n, R.length = n := ⟨_, rfl⟩
    rw [hnr] at hRl M9
    have HNR := Lib.hid hnr
    have hRle : nr ≤ 144 + nd := by omega
    obtain ⟨a9, c9, rfl, _, _, R9⟩ := M9.row
    have hAp := Cr.rappend_any a9 nr c9 (fn R) w9 (by omega) (row_ext R9 (fun i hi => rfl)) (fn_byte hRo)
    have HAP := Lib.hid hAp
    clear hAp hR m9 g9 M9 R9 hRl hRR hnr m8 g8 s0 s1 s2 s3 rB dB mB qB oB r8 b8
    go_wp2_with fail
    with_reducible refine HAP.out.mono ?_
    rintro r w10 ⟨v10, rfl, hM10, b10⟩
    have h10 := mine_app HNR.out hM10
    rw [← HRR.out] at h10
    have hbw : Below g w w10 := b5.trans ((b9.trans (b10.mono b9.size)).mono (Nat.le_of_lt hlt3))
    have H10 := Lib.hid (Ie.Mine.low h10 (show g ≤ w9.heap.size from Nat.le_trans (Nat.le_of_lt hlt3) b9.size))
    clear h10 hM10 b10
    go_wp2_with fail
    go_ret2
    unfold EncFPost
    rw [HMAY.out, if_pos rfl, HG.out]
    exact ⟨v10, rfl, H10.out, hbw⟩
end Go.Proofs.YtiflmdekcjbmbaaGreat.Fm
