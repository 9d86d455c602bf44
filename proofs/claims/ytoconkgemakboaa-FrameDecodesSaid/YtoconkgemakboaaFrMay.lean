/-
  Package frame (chapter 7): which frames may be.
-/
import Derived.Test.YtoconkgemakboaaFrMath
import Derived.Deep.CutBlock
set_option maxRecDepth 100000
namespace Go.Proofs.Ytoconkgemakboaa.Fm
set_option linter.unusedVariables false
open Go.RowKit Lb Bf Ie

/-- A frame with where its rows lie. -/
structure Fp where
  k : Int
  s : Int
  d : Int
  q : Int
  L : List EP
  a : Option Addr
  c : Nat
  data : List Int
  b : Option Addr
  e : Nat
def Fp.fr (p : Fp) : Fr := ⟨p.k, p.s, p.d, p.q, els p.L, p.data⟩
def Fp.vals (p : Fp) : Array Value := #[.int .i64 p.k, .int .i64 p.s, .int .i64 p.d, .int .i64 p.q, .slice p.a p.L.length p.c, .slice p.b p.data.length p.e]
structure Fp.At (w : World) (p : Fp) : Prop where
  els : Els w p.L p.a p.c
  dc : p.data.length ≤ p.e
  dm : p.e ≤ maxLen
  row : Row w p.b p.data.length (bval p.data)
  ok : okD' p.data
theorem Fp.At.below {w w' : World} {p : Fp} (h : p.At w) (b : Below w.heap.size w w') : p.At w' := ⟨h.els.below b, h.dc, h.dm, h.row.below b, h.ok⟩
theorem isNode_any (x : Int) (w : World) : Calls Try.prog 27 #[.int .i64 x] w fun r w' => r = .returned (.bool (ndB x)) ∧ w = w' := by
  by_cases h1 : 0 ≤ x
  · by_cases h2 : x < 16
    · have HD : Hid (ndB x = true) := Lib.hid (decide_eq_true (And.intro h1 h2))
      go_enter Try.func27, Try.ntmps27
      go_wp2_with fail
      go_ret
      exact ⟨by rw [HD.out]; rfl, rfl⟩
    · have HD : Hid (ndB x = false) := Lib.hid (decide_eq_false (fun h => h2 h.2))
      go_enter Try.func27, Try.ntmps27
      go_wp2_with fail
      go_ret
      exact ⟨by rw [HD.out]; rfl, rfl⟩
  · have HD : Hid (ndB x = false) := Lib.hid (decide_eq_false (fun h => h1 h.1))
    go_enter Try.func27, Try.ntmps27
    go_wp2_with fail
    go_ret
    exact ⟨by rw [HD.out]; rfl, rfl⟩
set_option maxHeartbeats 1000000 in
theorem emay_any (L : List EP) (a : Option Addr) (c : Nat) (w : World) (h : Els w L a c) :
    Calls Try.prog 28 #[.slice a L.length c] w fun r w' => r = .returned (.bool (mayL (els L))) ∧ Below w.heap.size w w' := by
  have hlc := h.lc
  have hcm := h.cm
  unfold maxLen at hcm
  have hrow := h.row
  have HELS := Lib.hid h.els
  clear h
  obtain ⟨n, hn⟩ : ∃ n, L.length = n := ⟨_, rfl⟩
  have HN := Lib.hid hn
  rw [hn] at hlc hrow ⊢
  clear hn
  by_cases h4 : n ≤ 4
  · have g1 : decide ((4 : Int) < (n : Int)) = false := by simp; omega
    have g2 : decide (4 < n) = false := by simp; omega
    go_enter Try.func28, Try.ntmps28
    go_wp2_with fail
    go_loopw [10] (fun i wr => ∃ (k : Nat), i = .int .i64 k ∧ k ≤ n ∧ Hid (∀ j, j < k → mayE (L.getD j ep0).e = true) ∧ Below w.heap.size w wr) (fun i _ => n - (intOf i).toNat)
    case atStart => exact ⟨0, rfl, by omega, Lib.hid (fun j hj => by omega), Below.refl _ _⟩
    case round =>
      obtain ⟨k, rfl, hk, HE, bb⟩ := hrel
      by_cases hlt : k < n
      · obtain ⟨x, hx⟩ : ∃ x, L.getD k ep0 = x := ⟨_, rfl⟩
        obtain ⟨pb, po, rfl, hpb, x0, x1, x2, x3, x4⟩ := erow hrow bb hlt hx
        have hat := HELS.out k (by rw [HN.out]; exact hlt)
        rw [hx] at hat
        have HX := Lib.hid hx
        have hl1 := els_at (k := k) (by rw [HN.out]; exact hlt) hx
        have HL1 := Lib.hid hl1
        clear hx hl1
        obtain ⟨⟨ek, easn, erank, et, el⟩, ea, ec⟩ := x
        simp only at x0 x1 x2 x3 x4 hat
        have o2 := Own.new wr 52 #[.int .i64 ek, .int .i64 easn, .int .i64 erank, .int .i64 et, .slice ea el.length ec]
        have b2 := (Below.refl wr.heap.size wr).alloc (Nat.le_refl _) (.cells #[.int .i64 ek, .int .i64 easn, .int .i64 erank, .int .i64 et, .slice ea el.length ec] 52)
        have b3 := bb.trans (b2.mono bb.size)
        have hm := may_any ⟨ek, easn, erank, et, el⟩ ea ec _ (hat.below b3)
        unfold El.vals at hm
        simp only at hm
        go_upto_region 6 with (fail)
        generalize wr.alloc (.cells #[.int .i64 ek, .int .i64 easn, .int .i64 erank, .int .i64 et, .slice ea el.length ec] 52) = v2 at *
        obtain ⟨g6, hg6⟩ : ∃ g, wr.heap.size = g := ⟨_, rfl⟩
        rw [hg6] at o2 ⊢
        obtain ⟨q, hq⟩ : ∃ q, mayE ⟨ek, easn, erank, et, el⟩ = q := ⟨_, rfl⟩
        rw [hq] at hm
        have HM := Lib.hid hm
        have HQ := Lib.hid hq
        have y0 : v2.cell? ⟨g6, 0, none⟩ = some (.int .i64 ek) := o2.cell 0
        have y1 : v2.cell? ⟨g6, 1, none⟩ = some (.int .i64 easn) := o2.cell 1
        have y2 : v2.cell? ⟨g6, 2, none⟩ = some (.int .i64 erank) := o2.cell 2
        have y3 : v2.cell? ⟨g6, 3, none⟩ = some (.int .i64 et) := o2.cell 3
        have y4 : v2.cell? ⟨g6, 4, none⟩ = some (.slice ea el.length ec) := o2.cell 4
        clear hg6 b2 hm hq x0 x1 x2 x3 x4 bb hat o2
        cases q
        · have HD : Hid (mayL (els L) = false) := Lib.hid (mayL_no (k := k) (by rw [els_len, HN.out]; exact hlt) (by rw [HL1.out]; exact HQ.out))
          go_wp2_with fail
          refine HM.out.mono ?_
          rintro r w4 ⟨rfl, b4⟩
          go_wp2_with fail
          go_ret
          exact ⟨by rw [HD.out]; rfl, b3.trans (b4.mono b3.size)⟩
        · have HE2 : Hid (∀ j, j < k + 1 → mayE (L.getD j ep0).e = true) := Lib.hid (fun j hj => by
            by_cases e : j = k
            · subst e; rw [HX.out]; exact HQ.out
            · exact HE.out j (by omega))
          go_wp2_with fail
          refine HM.out.mono ?_
          rintro r w4 ⟨rfl, b4⟩
          have b5 := b3.trans (b4.mono b3.size)
          clear y0 y1 y2 y3 y4 b3 b4
          go_wp2_with fail
          exact ⟨⟨k + 1, by simp, by omega, HE2, b5⟩, by simp [intOf]; omega⟩
      · obtain rfl : n = k := by omega
        have HD : Hid (mayL (els L) = true) := Lib.hid (mayL_yes (by rw [els_len, HN.out]; exact h4) (fun j hj => by
          have e1 := els_at (L := L) (k := j) (by rw [els_len] at hj; exact hj) rfl
          rw [e1]
          exact HE.out j (by rw [els_len, HN.out] at hj; exact hj)))
        go_wp2_with fail
        go_ret
        exact ⟨by rw [HD.out]; rfl, bb⟩
  · have g1 : decide ((4 : Int) < (n : Int)) = true := by simp; omega
    have g2 : decide (4 < n) = true := by simp; omega
    have HD : Hid (mayL (els L) = false) := Lib.hid (by
      unfold mayL
      rw [els_len, HN.out, decide_eq_false h4]
      rfl)
    clear h4
    go_enter Try.func28, Try.ntmps28
    go_wp2_with fail
    go_ret
    exact ⟨by rw [HD.out]; rfl, Below.refl _ _⟩
/-- The frame's cells at a world. -/
theorem fr_cells {w : World} {g : Nat} {p : Fp} (h : Lb.Own w g 25 p.vals) : w.cell? ⟨g, 0, none⟩ = some (.int .i64 p.k) ∧ w.cell? ⟨g, 1, none⟩ = some (.int .i64 p.s) ∧ w.cell? ⟨g, 2, none⟩ = some (.int .i64 p.d) ∧ w.cell? ⟨g, 3, none⟩ = some (.int .i64 p.q) ∧ w.cell? ⟨g, 4, none⟩ = some (.slice p.a p.L.length p.c) ∧ w.cell? ⟨g, 5, none⟩ = some (.slice p.b p.data.length p.e) :=
  ⟨h.cell 0, h.cell 1, h.cell 2, h.cell 3, h.cell 4, h.cell 5⟩
theorem mayF_no1 {f : Fr} (h : ndB f.s = false) : mayF f = false := by unfold mayF; rw [h]; rfl
theorem mayF_no2 {f : Fr} (h : ¬ (0 ≤ f.q)) : mayF f = false := by unfold mayF; rw [decide_eq_false h]; simp
theorem mayF_no3 {f : Fr} (h : ¬ (f.q ≤ 255)) : mayF f = false := by unfold mayF; rw [decide_eq_false h]; simp
theorem mayF_no4 {f : Fr} (h : ¬ (f.data.length ≤ 64)) : mayF f = false := by unfold mayF; rw [decide_eq_false h]; simp
theorem mayF_no5 {f : Fr} (h : mayL f.ies = false) : mayF f = false := by unfold mayF; rw [h]; simp
theorem mayF_no6 {f : Fr} (h : dstB f = false) : mayF f = false := by unfold mayF; rw [h]; simp
theorem mayF_yes {f : Fr} (h1 : ndB f.s = true) (h2 : 0 ≤ f.q) (h3 : f.q ≤ 255) (h4 : f.data.length ≤ 64) (h5 : mayL f.ies = true) (h6 : dstB f = true) : mayF f = kindB f := by
  unfold mayF
  rw [h1, decide_eq_true h2, decide_eq_true h3, decide_eq_true h4, h5, h6]
  simp
set_option maxHeartbeats 4000000 in
theorem mayF_any (p : Fp) (w : World) (h : p.At w) (hm : ∀ k, k < p.L.length → (p.L.getD k ep0).e.list.length ≤ 1000000) :
    Calls Try.prog 13 #[.agg p.vals] w fun r w' => r = .returned (.bool (mayF p.fr)) ∧ Below w.heap.size w w' := by
  have o1 := Own.new w 25 p.vals
  have b0 := (Below.refl w.heap.size w).alloc (Nat.le_refl _) (.cells p.vals 25)
  have h1 := h.below b0
  have hdm := h.dm
  have hdc := h.dc
  unfold maxLen at hdm
  have HMM := Lib.hid hm
  clear h hm
  obtain ⟨pk, ps, pd, pq, pL, pa, pc, pdata, pb, pe⟩ := p
  have HF : Hid ((⟨pk, ps, pd, pq, pL, pa, pc, pdata, pb, pe⟩ : Fp).fr = ⟨pk, ps, pd, pq, els pL, pdata⟩) := Lib.hid rfl
  unfold Fp.vals at *
  simp only at *
  obtain ⟨nd, hnd⟩ : ∃ n, pdata.length = n := ⟨_, rfl⟩
  have HND := Lib.hid hnd
  rw [hnd] at o1 b0 h1 hdc ⊢
  go_enter Try.func13, Try.ntmps13
  go_upto_region 1 with (fail)
  generalize w.alloc (.cells #[.int .i64 pk, .int .i64 ps, .int .i64 pd, .int .i64 pq, .slice pa pL.length pc, .slice pb nd pe] 25) = w1 at *
  have x0 : w1.cell? ⟨w.heap.size, 0, none⟩ = some (.int .i64 pk) := o1.cell 0
  have x1 : w1.cell? ⟨w.heap.size, 1, none⟩ = some (.int .i64 ps) := o1.cell 1
  have x2 : w1.cell? ⟨w.heap.size, 2, none⟩ = some (.int .i64 pd) := o1.cell 2
  have x3 : w1.cell? ⟨w.heap.size, 3, none⟩ = some (.int .i64 pq) := o1.cell 3
  have x4 : w1.cell? ⟨w.heap.size, 4, none⟩ = some (.slice pa pL.length pc) := o1.cell 4
  have x5 : w1.cell? ⟨w.heap.size, 5, none⟩ = some (.slice pb nd pe) := o1.cell 5
  have HEM := Lib.hid (emay_any pL pa pc w1 h1.els)
  clear hnd
  cases hs : ndB ps
  · have HD : Hid (mayF ⟨pk, ps, pd, pq, els pL, pdata⟩ = false) := Lib.hid (mayF_no1 hs)
    go_wp2_with (refine (isNode_any _ _).mono ?_; rintro r w' ⟨rfl, rfl⟩)
    go_ret
    exact ⟨by rw [HF.out, HD.out]; rfl, b0⟩
  by_cases q0 : ¬ 0 ≤ pq
  · have HD : Hid (mayF ⟨pk, ps, pd, pq, els pL, pdata⟩ = false) := Lib.hid (mayF_no2 q0)
    have t2 : decide (pq < 0) = true := by simp; omega
    clear q0
    go_wp2_with (refine (isNode_any _ _).mono ?_; rintro r w' ⟨rfl, rfl⟩)
    go_ret
    exact ⟨by rw [HF.out, HD.out]; rfl, b0⟩
  have q0 : 0 ≤ pq := by omega
  have t2 : decide (pq < 0) = false := by simp; omega
  by_cases q1 : ¬ pq ≤ 255
  · have HD : Hid (mayF ⟨pk, ps, pd, pq, els pL, pdata⟩ = false) := Lib.hid (mayF_no3 q1)
    have t3 : decide (255 < pq) = true := by simp; omega
    clear q1
    go_wp2_with (refine (isNode_any _ _).mono ?_; rintro r w' ⟨rfl, rfl⟩)
    go_ret
    exact ⟨by rw [HF.out, HD.out]; rfl, b0⟩
  have q1 : pq ≤ 255 := by omega
  have t3 : decide (255 < pq) = false := by simp; omega
  by_cases q2 : ¬ nd ≤ 64
  · have HD : Hid (mayF ⟨pk, ps, pd, pq, els pL, pdata⟩ = false) := Lib.hid (mayF_no4 (by show ¬ pdata.length ≤ 64; rw [HND.out]; exact q2))
    have t4 : decide ((64 : Int) < (nd : Int)) = true := by simp; omega
    have t4' : decide (64 < nd) = true := by simp; omega
    clear q2
    go_wp2_with (refine (isNode_any _ _).mono ?_; rintro r w' ⟨rfl, rfl⟩)
    go_ret
    exact ⟨by rw [HF.out, HD.out]; rfl, b0⟩
  have q2 : nd ≤ 64 := by omega
  have t4 : decide ((64 : Int) < (nd : Int)) = false := by simp; omega
  have t4' : decide (64 < nd) = false := by simp; omega
  cases hml : mayL (els pL)
  · have HD : Hid (mayF ⟨pk, ps, pd, pq, els pL, pdata⟩ = false) := Lib.hid (mayF_no5 hml)
    rw [hml] at HEM
    go_wp2_with fail
    refine (isNode_any _ _).mono ?_
    rintro r w' ⟨rfl, rfl⟩
    go_wp2_with fail
    refine HEM.out.mono ?_
    rintro r w2 ⟨rfl, b2⟩
    go_wp2_with fail
    go_ret
    exact ⟨by rw [HF.out, HD.out]; rfl, b0.trans (b2.mono b0.size)⟩
  rw [hml] at HEM
  go_wp2_with fail
  refine (isNode_any _ _).mono ?_
  rintro r w' ⟨rfl, rfl⟩
  go_wp2_with fail
  refine HEM.out.mono ?_
  rintro r w2 ⟨rfl, b2⟩
  have HML := Lib.hid hml
  have HNS := Lib.hid hs
  have h2 := h1.below b2
  have o2 := below_own b2 o1 (by have := o1.lt; omega)
  have b3 := b0.trans (b2.mono b0.size)
  clear x0 x1 x2 x3 x4 x5 hml hs HEM h1 o1 b0 b2 t2 t3 t4 t4'
  have x0 : w2.cell? ⟨w.heap.size, 0, none⟩ = some (.int .i64 pk) := o2.cell 0
  have x1 : w2.cell? ⟨w.heap.size, 1, none⟩ = some (.int .i64 ps) := o2.cell 1
  have x2 : w2.cell? ⟨w.heap.size, 2, none⟩ = some (.int .i64 pd) := o2.cell 2
  have x4 : w2.cell? ⟨w.heap.size, 4, none⟩ = some (.slice pa pL.length pc) := o2.cell 4
  have x5 : w2.cell? ⟨w.heap.size, 5, none⟩ = some (.slice pb nd pe) := o2.cell 5
  have hDST : dstB ⟨pk, ps, pd, pq, els pL, pdata⟩ = (!(pd == ps) && ((pd == 64) || ndB pd)) := rfl
  obtain ⟨e6, he6⟩ : ∃ e, (pd == ps) = e := ⟨_, rfl⟩
  obtain ⟨e7, he7⟩ : ∃ e, (pd == 64) = e := ⟨_, rfl⟩
  have he7' : (pd != 64) = !e7 := by rw [← he7]; rfl
  obtain ⟨e8, he8⟩ : ∃ e, ndB pd = e := ⟨_, rfl⟩
  rw [he6, he7, he8] at hDST
  have HDST := Lib.hid hDST
  clear hDST
  rcases Bool.eq_false_or_eq_true e6 with h6 | h6
  · subst h6
    have HD : Hid (mayF ⟨pk, ps, pd, pq, els pL, pdata⟩ = false) := Lib.hid (mayF_no6 (by rw [HDST.out]; rfl))
    go_wp2_with fail
    go_ret
    exact ⟨by rw [HF.out, HD.out]; rfl, b3⟩
  subst h6
  by_cases hd78 : e7 = false ∧ e8 = false
  · obtain ⟨rfl, rfl⟩ := hd78
    have HD : Hid (mayF ⟨pk, ps, pd, pq, els pL, pdata⟩ = false) := Lib.hid (mayF_no6 (by rw [HDST.out]; rfl))
    simp only [Bool.not_false] at he7'
    go_wp2_with (refine (isNode_any _ _).mono ?_; rintro r w' ⟨rfl, rfl⟩)
    go_ret
    exact ⟨by rw [HF.out, HD.out]; rfl, b3⟩
  have hdst : dstB ⟨pk, ps, pd, pq, els pL, pdata⟩ = true := by
    rw [HDST.out]
    cases e7 <;> cases e8 <;> simp at hd78 ⊢
  have HD : Hid (mayF ⟨pk, ps, pd, pq, els pL, pdata⟩ = kindB ⟨pk, ps, pd, pq, els pL, pdata⟩) := Lib.hid (mayF_yes HNS.out q0 q1 (by show pdata.length ≤ 64; rw [HND.out]; exact q2) HML.out hdst)
  clear hdst HDST
  have e7t : (e7 = true ∨ (e7 = false ∧ e8 = true)) := by cases e7 <;> cases e8 <;> simp at hd78 ⊢
  clear hd78
  go_upto_region 3 with (fail)
  go_cut [46] from 31 to 46 (fun v wx => v = .bool false ∧ w2 = wx)
  case first =>
    rcases e7t with h | ⟨h, h8⟩
    · subst h
      simp only [Bool.not_true] at he7'
      go_wp2_with fail
      go_meet
      exact ⟨rfl, rfl⟩
    · subst h h8
      simp only [Bool.not_false] at he7'
      go_wp2_with fail
      refine (isNode_any _ _).mono ?_
      rintro r w' ⟨rfl, rfl⟩
      go_wp2_with fail
      go_meet
      exact ⟨rfl, rfl⟩
  case rest =>
    obtain ⟨rfl, rfl⟩ := hcut
    clear e7t he6 he8
    obtain ⟨z, hz⟩ : ∃ z, (nd == 0) = z := ⟨_, rfl⟩
    have hz' : ((nd : Int) == 0) = z := by rw [← hz, Bool.eq_iff_iff]; simp
    have hzp : decide (0 < nd) = !z := by rw [← hz, Bool.eq_iff_iff]; simp; omega
    have hzp' : decide ((0 : Int) < (nd : Int)) = !z := by rw [← hz, Bool.eq_iff_iff]; simp; omega
    by_cases k24 : pk = 2 ∨ pk = 4
    · have hK : kindB ⟨pk, ps, pd, pq, els pL, pdata⟩ = (!e7 && z) := by
        unfold kindB
        rw [if_pos k24]
        show ((pd != 64) && (pdata.length == 0)) = _
        rw [he7', HND.out, hz]
      have HK := Lib.hid hK
      by_cases k2 : pk = 2
      · subst k2
        clear k24 hK
        cases e7
        · cases z
          all_goals
            simp only [Bool.not_false, Bool.not_true] at he7' hzp hzp'
            go_wp2_with fail
            go_ret
            exact ⟨by rw [HF.out, HD.out, HK.out]; rfl, b3⟩
        · simp only [Bool.not_true] at he7'
          go_wp2_with fail
          go_ret
          exact ⟨by rw [HF.out, HD.out, HK.out]; rfl, b3⟩
      · have k4 : pk = 4 := by omega
        subst k4
        clear k24 hK k2
        cases e7
        · cases z
          all_goals
            simp only [Bool.not_false, Bool.not_true] at he7' hzp hzp'
            go_wp2_with fail
            go_ret
            exact ⟨by rw [HF.out, HD.out, HK.out]; rfl, b3⟩
        · simp only [Bool.not_true] at he7'
          go_wp2_with fail
          go_ret
          exact ⟨by rw [HF.out, HD.out, HK.out]; rfl, b3⟩
    · have s2 : (pk == 2) = false := by simp; omega
      have s4 : (pk == 4) = false := by simp; omega
      by_cases k3 : pk = 3
      · have hK : kindB ⟨pk, ps, pd, pq, els pL, pdata⟩ = (e7 && (z && (fstE (els pL) 1).isSome)) := by
          unfold kindB
          rw [if_neg k24, if_pos k3]
          show ((pd == 64) && ((pdata.length == 0) && _)) = _
          rw [he7, HND.out, hz]
        have HK := Lib.hid hK
        have hf := find_any pL pa pc 1 w2 h2.els HMM.out
        have HFD := Lib.hid hf
        subst k3
        clear k24 hK hf
        go_wp2_with fail
        refine HFD.out.mono ?_
        rintro r w4 ⟨a4, c4, rfl, hat4, b4⟩
        obtain ⟨fe, hfe⟩ : ∃ f, foundE (els pL) 1 = f := ⟨_, rfl⟩
        rw [hfe]
        obtain ⟨ok, hok⟩ : ∃ f, (fstE (els pL) 1).isSome = f := ⟨_, rfl⟩
        have HK2 : Hid (kindB ⟨3, ps, pd, pq, els pL, pdata⟩ = (e7 && (z && ok))) := Lib.hid (by rw [HK.out, hok])
        rw [hok]
        obtain ⟨fk, fa, fr, ft, fl⟩ := fe
        have o4 := below_own b4 o2 (by have := o2.lt; omega)
        have b5 := b3.trans (b4.mono b3.size)
        unfold El.vals
        simp only
        have o5 := o4.alloc (.cells #[.int .i64 fk, .int .i64 fa, .int .i64 fr, .int .i64 ft, .slice a4 fl.length c4] 52)
        have b6 := b5.alloc b5.size (.cells #[.int .i64 fk, .int .i64 fa, .int .i64 fr, .int .i64 ft, .slice a4 fl.length c4] 52)
        clear hfe hok hat4 HFD HK b4 o4 b5 x0 x1 x2 x4 x5 h2 o2 b3
        go_upto_region 11 with (fail)
        generalize w4.alloc (.cells #[.int .i64 fk, .int .i64 fa, .int .i64 fr, .int .i64 ft, .slice a4 fl.length c4] 52) = w5 at *
        have x2 : w5.cell? ⟨w.heap.size, 2, none⟩ = some (.int .i64 pd) := o5.cell 2
        have x5 : w5.cell? ⟨w.heap.size, 5, none⟩ = some (.slice pb nd pe) := o5.cell 5
        cases e7
        · go_wp2_with fail
          go_ret
          exact ⟨by rw [HF.out, HD.out, HK2.out]; rfl, b6⟩
        · cases z
          all_goals
            go_wp2_with fail
            go_ret
            exact ⟨by rw [HF.out, HD.out, HK2.out]; rfl, b6⟩
      · have s3 : (pk == 3) = false := by simp; omega
        by_cases k15 : pk = 1 ∨ pk = 5
        · have hK : kindB ⟨pk, ps, pd, pq, els pL, pdata⟩ = (!e7 && !z) := by
            unfold kindB
            rw [if_neg k24, if_neg k3, if_pos k15]
            show ((pd != 64) && decide (0 < pdata.length)) = _
            rw [he7', HND.out, hzp]
          have HK := Lib.hid hK
          by_cases k1 : pk = 1
          · subst k1
            clear k24 hK k3 k15
            cases e7
            · cases z
              all_goals
                simp only [Bool.not_false, Bool.not_true] at he7' hzp hzp'
                go_wp2_with fail
                go_ret
                exact ⟨by rw [HF.out, HD.out, HK.out]; rfl, b3⟩
            · simp only [Bool.not_true] at he7'
              go_wp2_with fail
              go_ret
              exact ⟨by rw [HF.out, HD.out, HK.out]; rfl, b3⟩
          · have k5 : pk = 5 := by omega
            subst k5
            clear k24 hK k3 k15 k1
            cases e7
            · cases z
              all_goals
                simp only [Bool.not_false, Bool.not_true] at he7' hzp hzp'
                go_wp2_with fail
                go_ret
                exact ⟨by rw [HF.out, HD.out, HK.out]; rfl, b3⟩
            · simp only [Bool.not_true] at he7'
              go_wp2_with fail
              go_ret
              exact ⟨by rw [HF.out, HD.out, HK.out]; rfl, b3⟩
        · have s1 : (pk == 1) = false := by simp; omega
          have s5 : (pk == 5) = false := by simp; omega
          have HK : Hid (kindB ⟨pk, ps, pd, pq, els pL, pdata⟩ = false) := Lib.hid (by
            unfold kindB
            rw [if_neg k24, if_neg k3, if_neg k15])
          clear k24 k3 k15
          go_wp2_with fail
          go_ret
          exact ⟨by rw [HF.out, HD.out, HK.out]; rfl, b3⟩
end Go.Proofs.Ytoconkgemakboaa.Fm
