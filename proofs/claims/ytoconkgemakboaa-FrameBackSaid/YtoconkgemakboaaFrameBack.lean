/-
  Law FrameBack: there and back again; the call returns true. No condition.
-/
import Derived.Test.YtoconkgemakboaaFrSame
import Derived.Test.YtoconkgemakboaaFrREnc
import Derived.Test.YtoconkgemakboaaFrDec
set_option maxRecDepth 100000
namespace Go.Proofs.Ytoconkgemakboaa.FrameBack
set_option linter.unusedVariables false
open Go.RowKit Go.ChangeShapes Go.WideShapes Go.ChangeAt Go.Deep Lb Bf Ie Fm
set_option linter.unusedVariables false
theorem own : ownKnob Try.prog.godebug = none := by kernel_rfl
theorem laidOut : laidOutB Try.prog = true := by kernel_rfl
/-- The next world is one of them, too. -/
theorem ext_next {v w' : World} (x : Ext v) (h : Below x.toW.heap.size x.toW w') : ∃ y : Ext v, w' = y.toW := ⟨⟨w', x.ok.trans (h.mono x.ok.size)⟩, rfl⟩
theorem decR_errs {R : List Int} {e : Int} (h : decR R = .error e) : e = 2 ∨ e = 3 := by
  unfold decR at h
  match R, h with
  | m :: k :: s :: d :: q :: ne :: R6, h =>
    simp only at h
    split at h
    · injection h with h; exact .inr h.symm
    · cases hR : R6.drop ne.toNat with
      | nil => rw [hR] at h; injection h with h; exact .inr h.symm
      | cons nd R8 =>
        rw [hR] at h
        simp only at h
        split at h
        · injection h with h; exact .inr h.symm
        · split at h
          · injection h with h; exact .inr h.symm
          · cases hI : decI (R6.take ne.toNat) with
            | error x =>
              rw [hI] at h
              simp only at h
              injection h with h
              subst h
              exact decI_errs hI
            | ok l =>
              rw [hI] at h
              simp only at h
              split at h
              · cases h
              · injection h with h; exact .inr h.symm
  | [], h => injection h with h; exact .inr h.symm
  | [_], h => injection h with h; exact .inr h.symm
  | [_, _], h => injection h with h; exact .inr h.symm
  | [_, _, _], h => injection h with h; exact .inr h.symm
  | [_, _, _, _], h => injection h with h; exact .inr h.symm
  | [_, _, _, _, _], h => injection h with h; exact .inr h.symm
theorem decF_errs {L : List Int} {e : Int} (h : decF L = .error e) : e ≠ 0 := by
  unfold decF at h
  split at h
  · injection h with h; omega
  · split at h
    · injection h with h; omega
    · have := decR_errs h; omega
theorem may_lists {p : Fp} (h : mayF p.fr = true) : ∀ k, k < p.L.length → (p.L.getD k ep0).e.list.length ≤ 1000000 := fun k hk => by
  have hm := (mayF_out h).2.2.2.1
  unfold mayL at hm
  rw [Bool.and_eq_true, List.all_eq_true] at hm
  have h1 := hm.2 _ (List.getElem_mem (by show k < (els p.L).length; rw [els_len]; exact hk : k < p.fr.ies.length))
  have h2 : p.fr.ies[k]'(by show k < (els p.L).length; rw [els_len]; exact hk) = (p.L.getD k ep0).e := els_at hk rfl
  rw [h2] at h1
  exact may_small h1
theorem xor8 {z x : Int} (z0 : 0 ≤ z) (z1 : z < 256) (x0 : 0 ≤ x) (x1 : x < 256) : (0 ≤ bits .xor .u8 z x ∧ bits .xor .u8 z x < 256) ∧ (bits .xor .u8 z x).toNat = z.toNat ^^^ x.toNat := by
  have hlt : z.toNat ^^^ x.toNat < 2 ^ 8 := Nat.xor_lt_two_pow (by omega) (by omega)
  rw [u8_xor _ _ z0 z1 x0 x1]
  exact ⟨by omega, by omega⟩
def chgL (L : List Int) (j : Nat) (u v : Int) : List Int := (L.set j u).set (j + 1) v
theorem chg_len (L : List Int) (j : Nat) (u v : Int) : (chgL L j u v).length = L.length := by simp [chgL]
theorem chg_get {L : List Int} {j : Nat} {u v : Int} (hj : j + 2 ≤ L.length) (i : Nat) : (chgL L j u v).getD i 0 = if i = j + 1 then v else if i = j then u else L.getD i 0 := by
  unfold chgL
  rw [List.getD_eq_getElem?_getD, List.getElem?_set, List.getElem?_set, List.getD_eq_getElem?_getD]
  by_cases h1 : i = j + 1
  · subst h1
    rw [if_pos rfl, if_pos rfl, if_pos (by rw [List.length_set]; omega)]
    rfl
  · rw [if_neg (fun e => h1 e.symm), if_neg h1]
    by_cases h2 : i = j
    · subst h2
      rw [if_pos rfl, if_pos rfl, if_pos (by omega)]
      rfl
    · rw [if_neg (fun e => h2 e.symm), if_neg h2]
theorem chg {L : List Int} (hd : okD' L) (h0 : Cr.crc (fn L) L.length = 0) {j : Nat} (hj : j + 2 ≤ L.length) {x y : Int} (hx : 0 ≤ x ∧ x < 256) (hy : 0 ≤ y ∧ y < 256) (hxy : ¬ (x = 0 ∧ y = 0)) :
    okD' (chgL L j (bits .xor .u8 (L.getD j 0) x) (bits .xor .u8 (L.getD (j + 1) 0) y)) ∧ goodL (chgL L j (bits .xor .u8 (L.getD j 0) x) (bits .xor .u8 (L.getD (j + 1) 0) y)) = false := by
  have b0 := fn_byte hd j
  have b1 := fn_byte hd (j + 1)
  unfold fn at b0 b1
  obtain ⟨p1, p2⟩ := xor8 b0.1 b0.2 hx.1 hx.2
  obtain ⟨q1, q2⟩ := xor8 b1.1 b1.2 hy.1 hy.2
  obtain ⟨u, hu⟩ : ∃ u, bits .xor .u8 (L.getD j 0) x = u := ⟨_, rfl⟩
  obtain ⟨v, hv⟩ : ∃ u, bits .xor .u8 (L.getD (j + 1) 0) y = u := ⟨_, rfl⟩
  rw [hu] at p1 p2
  rw [hv] at q1 q2
  rw [hu, hv]
  have hok : okD' (chgL L j u v) := fun z hz => by
    unfold chgL at hz
    rcases List.mem_or_eq_of_mem_set hz with h | h
    · rcases List.mem_or_eq_of_mem_set h with h | h
      · exact hd z h
      · rw [h]; exact p1
    · rw [h]; exact q1
  refine ⟨hok, ?_⟩
  have hne := Cr.crc_tells (Z := fn L) (Y := fn (chgL L j u v)) (fn_byte hd) (fn_byte hok) j L.length x.toNat y.toNat (by omega) (by omega) (fun h => hxy ⟨by omega, by omega⟩) hj
    (by unfold fn; rw [chg_get hj, if_neg (by omega), if_pos rfl]; exact p2) (by unfold fn; rw [chg_get hj, if_pos rfl]; exact q2)
    (fun i _ h1 h2 => by unfold fn; rw [chg_get hj, if_neg h2, if_neg h1])
  rw [h0] at hne
  unfold goodL Cr.goodb
  rw [chg_len]
  simp [hne]
theorem encF_zero {f : Fr} (h : mayF f = true) (hd : okD' f.data) : Cr.crc (fn (encF f)) (encF f).length = 0 := by
  have hR := encR_ok h hd
  unfold encF
  rw [appL_len]
  have e : Cr.crc (fn (appL (encR f))) ((encR f).length + 2) = Cr.crc (Cr.app (fn (encR f)) (encR f).length) ((encR f).length + 2) := Cr.crc_same _ (fun i hi => appL_fn (encR f) i hi)
  rw [e, Cr.app_zero (fn_byte hR)]
theorem chg_err {L : List Int} {j : Nat} {u v : Int} (hl : 9 ≤ L.length) (h : goodL (chgL L j u v) = false) : decF (chgL L j u v) = .error 4 := by
  unfold decF
  rw [if_neg (by rw [chg_len]; omega), if_pos h]
theorem mine_chg {w : World} {base b n c : Nat} {L : List Int} {j : Nat} {u v : Int} (hn : L.length = n) (hj : j + 2 ≤ n) (h : Mine w base 5 (.slice (some ⟨b, 0, none⟩) n c) n (bval L)) :
    Mine ((w.setCell ⟨b, j, none⟩ (.int .u8 u)).setCell ⟨b, j + 1, none⟩ (.int .u8 v)) base 5 (.slice (some ⟨b, 0, none⟩) n c) n (bval (chgL L j u v)) := by
  refine ((h.store (by omega) _).store (by omega) _).ext fun i hi => ?_
  unfold bval
  rw [chg_get (by omega)]
  by_cases h1 : i = j + 1
  · rw [if_pos h1, if_pos h1]
  · rw [if_neg h1, if_neg h1]
    by_cases h2 : i = j
    · rw [if_pos h2, if_pos h2]
    · rw [if_neg h2, if_neg h2]
set_option maxHeartbeats 4000000 in
theorem body (p : Fp) (at_ x y : Int) (R : List Int) (a5 : Option Addr) (c5 : Nat) (w : World) (h : p.At w) (hx : 0 ≤ x ∧ x < 256) (hy : 0 ≤ y ∧ y < 256)
    (hR : Row w a5 R.length (bval R)) (hRc : R.length ≤ c5) (hRm : c5 ≤ maxLen) (hRb : okD' R) :
    Calls Try.prog 5 #[.agg p.vals, .int .i64 at_, .int .u8 x, .int .u8 y, .slice a5 R.length c5] w fun r w' => r = .returned (.bool true) ∧ Below w.heap.size w w' := by
  have o1 := Own.new w 25 p.vals
  have b0 := (Below.refl w.heap.size w).alloc (Nat.le_refl _) (.cells p.vals 25)
  have h1 := h.below b0
  have HL := Lib.hid (lightF_any p _ h1)
  have HLO := Lib.hid (@lightF_out p)
  obtain ⟨lt, hlt⟩ : ∃ b, lightF p = b := ⟨_, rfl⟩
  have HLT := Lib.hid hlt
  rw [hlt] at HL
  have hR := hR.below b0
  obtain ⟨f, hf⟩ : ∃ f, p.fr = f := ⟨_, rfl⟩
  have HE := Lib.hid (fun W hW hm => encF_any p W hW hm)
  have HM := Lib.hid (fun W hW hm => mayF_any p W hW hm)
  have HS := Lib.hid (fun p' W h h' => rsameF_any p' p W h h')
  rw [hf] at HE HM HS
  have HF := Lib.hid hf
  have HDO : Hid (okD' f.data) := Lib.hid (by rw [← hf]; exact h.ok)
  have HA := Lib.hid h1
  clear h hlt hf h1
  have hRm2 := hRm
  unfold maxLen at hRm
  obtain ⟨pk, ps, pd, pq, pL, pa, pc, pdata, pb, pe⟩ := p
  unfold Fp.vals at *
  simp only at *
  obtain ⟨pnd, hpnd⟩ : ∃ n, pdata.length = n := ⟨_, rfl⟩
  have HpND := Lib.hid hpnd
  rw [hpnd] at o1 b0 HL HE HM HS HA hR HLO ⊢
  obtain ⟨pnl, hpnl⟩ : ∃ n, pL.length = n := ⟨_, rfl⟩
  have HpNL := Lib.hid hpnl
  rw [hpnl] at o1 b0 HL HE HM HS HA hR HLO ⊢
  clear hpnd hpnl
  obtain ⟨nr, hnr⟩ : ∃ n, R.length = n := ⟨_, rfl⟩
  have HNR := Lib.hid hnr
  rw [hnr] at hR hRc ⊢
  have HRB := Lib.hid hRb
  clear hnr hRb
  go_enter Try.func5, Try.ntmps5
  go_upto_region 1 with (fail)
  generalize w.alloc (.cells #[.int .i64 pk, .int .i64 ps, .int .i64 pd, .int .i64 pq, .slice pa pnl pc, .slice pb pnd pe] 25) = w1 at *
  obtain ⟨g0, hg⟩ : ∃ g, w.heap.size = g := ⟨_, rfl⟩
  have hgs := b0.size
  rw [hg] at o1 b0 hgs ⊢
  have HG := Lib.hid hg
  clear hg
  have x0 : w1.cell? ⟨g0, 0, none⟩ = some (.int .i64 pk) := o1.cell 0
  have x1 : w1.cell? ⟨g0, 1, none⟩ = some (.int .i64 ps) := o1.cell 1
  have x2 : w1.cell? ⟨g0, 2, none⟩ = some (.int .i64 pd) := o1.cell 2
  have x3 : w1.cell? ⟨g0, 3, none⟩ = some (.int .i64 pq) := o1.cell 3
  have x4 : w1.cell? ⟨g0, 4, none⟩ = some (.slice pa pnl pc) := o1.cell 4
  have x5 : w1.cell? ⟨g0, 5, none⟩ = some (.slice pb pnd pe) := o1.cell 5
  go_wp2_with fail
  refine HL.out.mono ?_
  rintro r w2 ⟨rfl, b1⟩
  have o2 := below_own b1 o1 o1.lt
  have bA := b0.trans (b1.mono hgs)
  have hgs2 := Nat.le_trans hgs b1.size
  have hR2 := hR.below b1
  have hA2 := HA.out.below b1
  clear HL x0 x1 x2 x3 x4 x5 o1 b0 hR hgs HA
  cases lt
  · go_wp2_with fail
    refine (awakeF_any _).mono ?_
    rintro r w9 ⟨rfl, bb⟩
    go_wp2_with fail
    go_ret
    exact ⟨rfl, by rw [HG.out]; exact bA.trans (bb.mono hgs2)⟩
  by_cases h300 : 300 < nr
  · have g3 : decide ((300 : Int) < (nr : Int)) = true := by simp; omega
    have g3' : decide (300 < nr) = true := by simp; omega
    clear h300
    go_wp2_with fail
    refine (awakeF_any _).mono ?_
    rintro r w9 ⟨rfl, bb⟩
    go_wp2_with fail
    go_ret
    exact ⟨rfl, by rw [HG.out]; exact bA.trans (bb.mono hgs2)⟩
  have g3 : decide ((300 : Int) < (nr : Int)) = false := by simp; omega
  have g3' : decide (300 < nr) = false := by simp; omega
  have hl1 := (HLO.out HLT.out).1
  have Hl1 := Lib.hid hl1
  -- what is kept of f and of raw
  have HKO : Hid (∀ W, Below w2.heap.size w2 W → Lb.Own W g0 25 #[.int .i64 pk, .int .i64 ps, .int .i64 pd, .int .i64 pq, .slice pa pnl pc, .slice pb pnd pe]) := Lib.hid (fun W hW => below_own hW o2 o2.lt)
  have HKA : Hid (∀ W, Below w2.heap.size w2 W → (⟨pk, ps, pd, pq, pL, pa, pc, pdata, pb, pe⟩ : Fp).At W) := Lib.hid (fun W hW => hA2.below hW)
  have HKR : Hid (∀ W, Below w2.heap.size w2 W → Row W a5 nr (bval R)) := Lib.hid (fun W hW => hR2.below hW)
  have hD := decF_any a5 c5 R w2 (by rw [HNR.out]; exact hRc) hRm2 (by rw [HNR.out]; omega) (by rw [HNR.out]; exact hR2) HRB.out
  rw [HNR.out] at hD
  have HD := Lib.hid hD
  clear hD hl1 HLO HLT o2 hA2 hR2 hRm2
  go_wp2_with fail
  refine HD.out.mono ?_
  intro r w3 hp
  have hz : ∃ p1 : Fp, ∃ e1 : Int, r = .returned (.tuple #[.agg p1.vals, .int .i64 e1]) ∧ Hid (e1 = 0 → mayF p1.fr = true ∧ encF p1.fr = R) ∧ p1.At w3 ∧ Below w2.heap.size w2 w3 := by
    unfold DecFPost at hp
    cases hd : decF R with
    | ok f1 =>
      rw [hd] at hp
      obtain ⟨p1, h1, h2, h3, h4⟩ := hp
      obtain ⟨k1, k2, _⟩ := decF_back HRB.out hd
      exact ⟨p1, 0, h2, Lib.hid (fun _ => by rw [h1]; exact ⟨k1, k2⟩), h3, h4⟩
    | error e =>
      rw [hd] at hp
      exact ⟨zF, e, hp.1, Lib.hid (fun h => absurd h (decF_errs hd)), zF_at _, hp.2⟩
  clear hp HD
  obtain ⟨p, e1, rfl, HP1, hpa, b3⟩ := hz
  have bo := (Below.refl w3.heap.size w3).alloc (Nat.le_refl _) (.cells p.vals 25)
  have o4 := Own.new w3 25 p.vals
  have hpa := hpa.below bo
  have b4 := b3.trans (bo.mono b3.size)
  have HE1 := Lib.hid (fun W hW hm => encF_any p W hW hm)
  have HM1 := Lib.hid (fun W hW hm => mayF_any p W hW hm)
  have HML : Hid (mayF p.fr = true → ∀ k, k < p.L.length → (p.L.getD k ep0).e.list.length ≤ 1000000) := Lib.hid may_lists
  obtain ⟨f1, hf1⟩ : ∃ f, p.fr = f := ⟨_, rfl⟩
  rw [hf1] at HP1 HE1 HM1 HML
  clear hf1
  have HPA := Lib.hid hpa
  obtain ⟨rk, rs, rd, rq, rL, ra, rc, rdata, rb, re⟩ := p
  unfold Fp.vals at *
  simp only at *
  obtain ⟨rnd, hrnd⟩ : ∃ n, rdata.length = n := ⟨_, rfl⟩
  have HrND := Lib.hid hrnd
  rw [hrnd] at o4 b4 HPA HE1 HM1 bo ⊢
  obtain ⟨rnl, hrnl⟩ : ∃ n, rL.length = n := ⟨_, rfl⟩
  have HrNL := Lib.hid hrnl
  rw [hrnl] at HML o4 b4 HPA HE1 HM1 bo ⊢
  clear hrnd hrnl
  go_upto_region 4 with (fail)
  generalize w3.alloc (.cells #[.int .i64 rk, .int .i64 rs, .int .i64 rd, .int .i64 rq, .slice ra rnl rc, .slice rb rnd re] 25) = w4 at *
  obtain ⟨g1, hg1⟩ : ∃ g, w3.heap.size = g := ⟨_, rfl⟩
  rw [hg1] at o4 ⊢
  clear hg1 bo b3 hpa
  have x0 : w4.cell? ⟨g1, 0, none⟩ = some (.int .i64 rk) := o4.cell 0
  have x1 : w4.cell? ⟨g1, 1, none⟩ = some (.int .i64 rs) := o4.cell 1
  have x2 : w4.cell? ⟨g1, 2, none⟩ = some (.int .i64 rd) := o4.cell 2
  have x3 : w4.cell? ⟨g1, 3, none⟩ = some (.int .i64 rq) := o4.cell 3
  have x4 : w4.cell? ⟨g1, 4, none⟩ = some (.slice ra rnl rc) := o4.cell 4
  have x5 : w4.cell? ⟨g1, 5, none⟩ = some (.slice rb rnd re) := o4.cell 5
  go_upto_if 36 with (fail)
  go_cut [13] from 36 to 55 (fun v wx => Below w4.heap.size w4 wx)
  case first =>
    by_cases he : e1 = 0
    · subst he
      obtain ⟨k1, k2⟩ := HP1.out rfl
      have hE := HE1.out w4 HPA.out (HML.out k1)
      have HE2 := Lib.hid hE
      have K1 := Lib.hid k1
      have K2 := Lib.hid k2
      clear hE HE1 k1 k2
      go_wp2_with fail
      refine HE2.out.mono ?_
      intro r w5 hp
      unfold EncFPost at hp
      rw [if_pos K1.out, K2.out] at hp
      obtain ⟨v, rfl, hM, b5⟩ := hp
      obtain ⟨a6, c6, rfl, l6, m6, R6⟩ := hM.row
      have hRr := HKR.out w5 (b4.trans (b5.mono b4.size))
      have v1 := conv_b c6 R6
      rw [← HNR.out] at hRr
      have v2 := conv_b c5 hRr
      rw [HNR.out] at v1 v2 ⊢
      obtain ⟨T, hT⟩ : ∃ T, bstr R = T := ⟨_, rfl⟩
      rw [hT] at v1 v2
      have t1 : (T.toList == T.toList) = true := beq_self_eq_true _
      have t1' : (T.toList != T.toList) = false := by simp
      have o5 := below_own b5 o4 o4.lt
      have hm1 := HM1.out w5 (HPA.out.below b5) (HML.out K1.out)
      rw [K1.out] at hm1
      have HM2 := Lib.hid hm1
      clear x0 x1 x2 x3 x4 x5 hM R6 hRr hT HE2 hm1 l6 m6
      have x0 : w5.cell? ⟨g1, 0, none⟩ = some (.int .i64 rk) := o5.cell 0
      have x1 : w5.cell? ⟨g1, 1, none⟩ = some (.int .i64 rs) := o5.cell 1
      have x2 : w5.cell? ⟨g1, 2, none⟩ = some (.int .i64 rd) := o5.cell 2
      have x3 : w5.cell? ⟨g1, 3, none⟩ = some (.int .i64 rq) := o5.cell 3
      have x4 : w5.cell? ⟨g1, 4, none⟩ = some (.slice ra rnl rc) := o5.cell 4
      have x5 : w5.cell? ⟨g1, 5, none⟩ = some (.slice rb rnd re) := o5.cell 5
      clear o5
      go_wp2_with fail
      refine HM2.out.mono ?_
      rintro r w6 ⟨rfl, b6⟩
      have b7 := b5.trans (b6.mono b5.size)
      clear x0 x1 x2 x3 x4 x5 HM2 b5 b6 v1 v2
      go_wp2_with fail
      go_meet
      exact b7
    · have g1' : (e1 == 0) = false := by simpa using he
      clear he
      go_wp2_with fail
      go_meet
      exact Below.refl _ _
  case rest =>
    have b5 := b4.trans (hcut.mono b4.size)
    clear x0 x1 x2 x3 x4 x5 HE1 HM1 HML HP1 HPA o4
    have o5 := HKO.out wc b5
    have hbc : Below g0 w wc := bA.trans (b5.mono hgs2)
    have hgc : g0 ≤ wc.heap.size := Nat.le_trans hgs2 b5.size
    have x0 : wc.cell? ⟨g0, 0, none⟩ = some (.int .i64 pk) := o5.cell 0
    have x1 : wc.cell? ⟨g0, 1, none⟩ = some (.int .i64 ps) := o5.cell 1
    have x2 : wc.cell? ⟨g0, 2, none⟩ = some (.int .i64 pd) := o5.cell 2
    have x3 : wc.cell? ⟨g0, 3, none⟩ = some (.int .i64 pq) := o5.cell 3
    have x4 : wc.cell? ⟨g0, 4, none⟩ = some (.slice pa pnl pc) := o5.cell 4
    have x5 : wc.cell? ⟨g0, 5, none⟩ = some (.slice pb pnd pe) := o5.cell 5
    have HE2 := Lib.hid (HE.out wc (HKA.out wc b5) Hl1.out)
    clear HE o5 hcut b4 bA hgs2
    go_wp2_with fail
    refine HE2.out.mono ?_
    intro r w6 hp
    unfold EncFPost at hp
    clear HE2
    cases hmay : mayF f
    · rw [hmay] at hp
      obtain ⟨rfl, b6⟩ := hp
      have b7 := b5.trans (b6.mono b5.size)
      have o7 := HKO.out w6 b7
      have hm1 := HM.out w6 (HKA.out w6 b7) Hl1.out
      rw [hmay] at hm1
      have HM2 := Lib.hid hm1
      have bq := hbc.trans (b6.mono hgc)
      have hgq := Nat.le_trans hgc b6.size
      clear x0 x1 x2 x3 x4 x5 hm1 hmay b5 b6
      have x0 : w6.cell? ⟨g0, 0, none⟩ = some (.int .i64 pk) := o7.cell 0
      have x1 : w6.cell? ⟨g0, 1, none⟩ = some (.int .i64 ps) := o7.cell 1
      have x2 : w6.cell? ⟨g0, 2, none⟩ = some (.int .i64 pd) := o7.cell 2
      have x3 : w6.cell? ⟨g0, 3, none⟩ = some (.int .i64 pq) := o7.cell 3
      have x4 : w6.cell? ⟨g0, 4, none⟩ = some (.slice pa pnl pc) := o7.cell 4
      have x5 : w6.cell? ⟨g0, 5, none⟩ = some (.slice pb pnd pe) := o7.cell 5
      clear o7
      go_wp2_with fail
      refine HM2.out.mono ?_
      rintro r w7 ⟨rfl, b8⟩
      have bq2 := bq.trans (b8.mono hgq)
      have hgq2 := Nat.le_trans hgq b8.size
      clear x0 x1 x2 x3 x4 x5 bq b8
      go_wp2_with fail
      refine (awakeF_any _).mono ?_
      rintro r w9 ⟨rfl, bb⟩
      go_wp2_with fail
      go_ret
      exact ⟨rfl, by rw [HG.out]; exact bq2.trans (bb.mono hgq2)⟩
    rw [hmay, if_pos rfl] at hp
    obtain ⟨v, rfl, hM, b6⟩ := hp
    have b7 := b5.trans (b6.mono b5.size)
    have bq := hbc.trans (b6.mono hgc)
    have hgq := Nat.le_trans hgc b6.size
    have hlen := encF_len f
    have hX1 : 1 ≤ (encI f.ies).length := by unfold encI; simp
    have hX2 := (encI_ok (mayF_out hmay).2.2.2.1).2
    have hnd := (mayF_out hmay).2.2.1
    have hde := decF_enc hmay HDO.out
    have hko := encF_ok hmay HDO.out
    have hz0 := encF_zero hmay HDO.out
    obtain ⟨Y, hY⟩ : ∃ Y, encF f = Y := ⟨_, rfl⟩
    rw [hY] at hlen hde hko hz0 hM
    obtain ⟨n, hn⟩ : ∃ n, Y.length = n := ⟨_, rfl⟩
    have HN := Lib.hid hn
    rw [hn] at hlen hM
    have hn10 : 10 ≤ n := by omega
    have hn300 : n ≤ 300 := by omega
    obtain ⟨gb, cs, rfl, hgb, hob, hcn, hcm, hcs⟩ := hM.block (by omega)
    obtain ⟨cb, hcb⟩ : ∃ c, cs.size = c := ⟨_, rfl⟩
    have HKB := Lib.hid hko
    have HZ0 := Lib.hid hz0
    have HDE := Lib.hid hde
    rw [hcb] at hM hcn hcm ⊢
    have hgb0 : g0 ≤ gb := Nat.le_trans hgc hgb
    have hMr := hM.rowAt
    have hD := decF_any (some ⟨gb, 0, none⟩) cb Y w6 (by rw [hn]; exact hcn) hcm (by omega) (by rw [hn]; exact hMr) hko
    rw [hn] at hD
    have HD := Lib.hid hD
    have HM6 := Lib.hid hM
    unfold maxLen at hcm
    clear x0 x1 x2 x3 x4 x5 hD hlen hX1 hX2 hnd hde hko hz0 hY hob hcs hcb hMr hmay hbc hgc b5 b6 hM hn
    go_wp2_with fail
    refine HD.out.mono ?_
    intro r w8 hp
    unfold DecFPost at hp
    rw [HDE.out] at hp
    obtain ⟨p, hpf, rfl, hpa, b8⟩ := hp
    have bo := (Below.refl w8.heap.size w8).alloc (Nat.le_refl _) (.cells p.vals 25)
    have o9 := Own.new w8 25 p.vals
    have hpa := hpa.below bo
    have b9 := b8.trans (bo.mono b8.size)
    have b10 := b7.trans (b9.mono b7.size)
    have bq9 := bq.trans (b9.mono hgq)
    have hgq9 := Nat.le_trans hgq b9.size
    have hS := HS.out p _ hpa (HKA.out _ b10)
    rw [hpf, sameF_self] at hS
    have HM9 := Lib.hid (HM6.out.kept (w' := w8.alloc (.cells p.vals 25)) (fun q hq => by
      by_cases hq2 : q < w6.heap.size
      · exact .inl (b9.block q hq2)
      · exact .inr (fun e => hq2 ((HM6.out.lt q e).2))))
    have o10 := HKO.out _ b10
    obtain ⟨qk, qs, qd, qq, qL, qa, qc, qdata, qb, qe⟩ := p
    unfold Fp.vals at *
    simp only at *
    obtain ⟨qnd, hqnd⟩ : ∃ n, qdata.length = n := ⟨_, rfl⟩
    have HqND := Lib.hid hqnd
    rw [hqnd] at o9 bo b10 hS o10 HM9 bq9 hgq9 ⊢
    obtain ⟨qnl, hqnl⟩ : ∃ n, qL.length = n := ⟨_, rfl⟩
    have HqNL := Lib.hid hqnl
    rw [hqnl] at o9 bo b10 hS o10 HM9 bq9 hgq9 ⊢
    clear hqnd hqnl
    have HSS := Lib.hid hS
    have hb9s := b9.size
    clear HD hpf hpa hS HS HM6 b8 b9 b7 bq hgq HKA HKR HM HDE
    go_upto_region 12 with (fail)
    generalize w8.alloc (.cells #[.int .i64 qk, .int .i64 qs, .int .i64 qd, .int .i64 qq, .slice qa qnl qc, .slice qb qnd qe] 25) = w9 at *
    obtain ⟨g2, hg2⟩ : ∃ g, w8.heap.size = g := ⟨_, rfl⟩
    rw [hg2] at o9 ⊢
    clear hg2 bo
    have x0 : w9.cell? ⟨g2, 0, none⟩ = some (.int .i64 qk) := o9.cell 0
    have x1 : w9.cell? ⟨g2, 1, none⟩ = some (.int .i64 qs) := o9.cell 1
    have x2 : w9.cell? ⟨g2, 2, none⟩ = some (.int .i64 qd) := o9.cell 2
    have x3 : w9.cell? ⟨g2, 3, none⟩ = some (.int .i64 qq) := o9.cell 3
    have x4 : w9.cell? ⟨g2, 4, none⟩ = some (.slice qa qnl qc) := o9.cell 4
    have x5 : w9.cell? ⟨g2, 5, none⟩ = some (.slice qb qnd qe) := o9.cell 5
    have y0 : w9.cell? ⟨g0, 0, none⟩ = some (.int .i64 pk) := o10.cell 0
    have y1 : w9.cell? ⟨g0, 1, none⟩ = some (.int .i64 ps) := o10.cell 1
    have y2 : w9.cell? ⟨g0, 2, none⟩ = some (.int .i64 pd) := o10.cell 2
    have y3 : w9.cell? ⟨g0, 3, none⟩ = some (.int .i64 pq) := o10.cell 3
    have y4 : w9.cell? ⟨g0, 4, none⟩ = some (.slice pa pnl pc) := o10.cell 4
    have y5 : w9.cell? ⟨g0, 5, none⟩ = some (.slice pb pnd pe) := o10.cell 5
    have t0 : decide ((n : Int) < 10) = false := by simp; omega
    have t0' : decide (n < 10) = false := by simp; omega
    clear o9 o10
    go_wp2_with fail
    refine HSS.out.mono ?_
    rintro r w11 ⟨rfl, b11⟩
    have HM11 := Lib.hid (HM9.out.kept (w' := w11) (fun q hq => by
      by_cases hq2 : q < w9.heap.size
      · exact .inl (b11.block q hq2)
      · exact .inr (fun e => hq2 ((HM9.out.lt q e).2))))
    have bq11 := bq9.trans (b11.mono hgq9)
    have hgq11 := Nat.le_trans hgq9 b11.size
    clear x0 x1 x2 x3 x4 x5 y0 y1 y2 y3 y4 y5 HSS HM9 b11 bq9
    by_cases hxy : x = 0 ∧ y = 0
    · obtain ⟨rfl, rfl⟩ := hxy
      go_wp2_with fail
      refine (awakeF_any _).mono ?_
      rintro r w9 ⟨rfl, bb⟩
      go_wp2_with fail
      go_ret
      exact ⟨rfl, by rw [HG.out]; exact bq11.trans (bb.mono hgq11)⟩
    go_upto_region 14 with (fail)
    go_cut [97] from 92 to 97 (fun v wx => v = .bool false ∧ w11 = wx)
    case first =>
      by_cases hx0 : x = 0
      · have e0 : (x == 0) = true := by simpa using hx0
        have e2 : (y == 0) = false := by simp; exact fun h => hxy ⟨hx0, h⟩
        clear hxy hx0
        go_wp2_with fail
        go_meet
        exact ⟨rfl, rfl⟩
      · have e0 : (x == 0) = false := by simpa using hx0
        clear hxy hx0
        go_wp2_with fail
        go_meet
        exact ⟨rfl, rfl⟩
    case rest =>
      obtain ⟨rfl, rfl⟩ := hcut
      have hu : 0 ≤ IntKind.u64.wrap at_ := u64_pos at_
      obtain ⟨q, hq⟩ : ∃ q, IntKind.u64.wrap at_ = q := ⟨_, rfl⟩
      rw [hq] at hu
      obtain ⟨m, hm⟩ : ∃ m : Nat, n - 1 = m := ⟨_, rfl⟩
      have hmi : (n : Int) - 1 = (m : Int) := by omega
      have hm64 : IntKind.u64.wrap (m : Int) = (m : Int) := u64_id (by omega)
      obtain ⟨d, hd⟩ : ∃ d : Nat, q % (m : Int) = (d : Int) := ⟨(q % (m : Int)).toNat, by have := Int.emod_nonneg q (show (m : Int) ≠ 0 by omega); omega⟩
      have hdl : d < m := by have := Int.emod_lt_of_pos q (show (0 : Int) < m by omega); omega
      have hdt : q.tmod (m : Int) = (d : Int) := by rw [Int.tmod_eq_emod_of_nonneg hu, hd]
      have hd2 : d + 2 ≤ n := by omega
      have hd1 : d + 1 < n := by omega
      have hdn : d < n := by omega
      obtain ⟨_, _, cj, fj⟩ := HM11.out.at_ hdn
      obtain ⟨_, _, cj1, fj1⟩ := HM11.out.at_ hd1
      obtain ⟨k1, k2⟩ := chg HKB.out (by rw [HN.out]; rw [HN.out] at HZ0; exact HZ0.out) (j := d) (by rw [HN.out]; exact hd2) hx hy hxy
      have k3 := chg_err (by rw [HN.out]; omega) k2
      have hMc := mine_chg (u := bits .xor .u8 (Y.getD d 0) x) (v := bits .xor .u8 (Y.getD (d + 1) 0) y) HN.out hd2 HM11.out
      unfold bval at cj cj1
      obtain ⟨z, hz⟩ : ∃ z, Y.getD d 0 = z := ⟨_, rfl⟩
      obtain ⟨z', hz'⟩ : ∃ z, Y.getD (d + 1) 0 = z := ⟨_, rfl⟩
      rw [hz] at cj hMc k1 k3
      rw [hz'] at cj1 hMc k1 k3
      have b12 : Below g0 w ((w11.setCell ⟨gb, d, none⟩ (.int .u8 (bits .xor .u8 z x))).setCell ⟨gb, d + 1, none⟩ (.int .u8 (bits .xor .u8 z' y))) := (bq11.setCell (p := ⟨gb, d, none⟩) hgb0 _).setCell (p := ⟨gb, d + 1, none⟩) hgb0 _
      have hlc : (chgL Y d (bits .xor .u8 z x) (bits .xor .u8 z' y)).length = n := by rw [chg_len, HN.out]
      have hgq12 : g0 ≤ ((w11.setCell ⟨gb, d, none⟩ (.int .u8 (bits .xor .u8 z x))).setCell ⟨gb, d + 1, none⟩ (.int .u8 (bits .xor .u8 z' y))).heap.size := by simp [World.setCell]; exact hgq11
      have K1 := Lib.hid k1
      have K3 := Lib.hid k3
      have HMC := Lib.hid hMc
      have HLC := Lib.hid hlc
      clear k1 k2 k3 hMc hlc hz hz' hm hd hxy
      go_upto_region 19 with (fail)
      generalize (w11.setCell ⟨gb, d, none⟩ (.int .u8 (bits .xor .u8 z x))).setCell ⟨gb, d + 1, none⟩ (.int .u8 (bits .xor .u8 z' y)) = w12 at *
      obtain ⟨L, hL⟩ : ∃ L, chgL Y d (bits .xor .u8 z x) (bits .xor .u8 z' y) = L := ⟨_, rfl⟩
      rw [hL] at K1 K3 HMC HLC
      have hD := decF_any (some ⟨gb, 0, none⟩) cb L w12 (by rw [HLC.out]; exact hcn) (by unfold maxLen; exact hcm) (by rw [HLC.out]; omega) (by rw [HLC.out]; exact HMC.out.rowAt) K1.out
      rw [HLC.out] at hD
      have HD := Lib.hid hD
      clear hD hL cj cj1 fj fj1
      go_wp2_with fail
      refine HD.out.mono ?_
      intro r w13 hp
      unfold DecFPost at hp
      rw [K3.out] at hp
      obtain ⟨rfl, b13⟩ := hp
      unfold zF Fp.vals
      simp only [List.length_nil]
      have b14 := b12.trans (b13.mono hgq12)
      have hgq13 := Nat.le_trans hgq12 b13.size
      have b15 := b14.alloc hgq13 (.cells #[.int .i64 0, .int .i64 0, .int .i64 0, .int .i64 0, .slice none 0 0, .slice none 0 0] 25)
      have hgq15 : g0 ≤ (w13.alloc (.cells #[.int .i64 0, .int .i64 0, .int .i64 0, .int .i64 0, .slice none 0 0, .slice none 0 0] 25)).heap.size := by simp; omega
      go_upto_region 20 with (fail)
      generalize w13.alloc (.cells #[.int .i64 0, .int .i64 0, .int .i64 0, .int .i64 0, .slice none 0 0, .slice none 0 0] 25) = w15 at *
      go_wp2_with fail
      refine (awakeF_any _).mono ?_
      rintro r w9 ⟨rfl, bb⟩
      go_wp2_with fail
      go_ret
      exact ⟨rfl, by rw [HG.out]; exact b15.trans (bb.mono hgq15)⟩

theorem walk (H : Type) (enc : TypeId × Value → H) : Walk H enc Try.prog 5 Try.f5 := by
  intro W base args ds p hval hA
  rw [Try.params5] at hA hval
  obtain ⟨v0, vs, d0, ds', p0, q0, e0, rfl, rfl, h0, hA⟩ := trodAll_cons hA
  obtain ⟨v1, vs1, d1, ds1, p1, q1, rfl, rfl, rfl, h1, hA⟩ := trodAll_cons hA
  obtain ⟨v2, vs2, d2, ds2, p2, q2, rfl, rfl, rfl, h2, hA⟩ := trodAll_cons hA
  obtain ⟨v3, vs3, d3, ds3, p3, q3, rfl, rfl, rfl, h3, hA⟩ := trodAll_cons hA
  obtain ⟨v4, vs4, d4, ds4, p4, q4, rfl, rfl, rfl, h4, hA⟩ := trodAll_cons hA
  obtain ⟨rfl, rfl, rfl⟩ := trodAll_nil hA
  obtain ⟨l⟩ := args
  dsimp only at e0
  subst e0
  obtain ⟨p, rfl, hp⟩ := open_frame (hval 0 _ v0 rfl rfl) h0
  obtain ⟨at_, rfl, rfl, rfl, _⟩ := open_int Try.underlying3 (hval 1 _ v1 rfl rfl) h1
  obtain ⟨x, rfl, rfl, rfl, wx⟩ := open_int Try.underlying5 (hval 2 _ v2 rfl rfl) h2
  obtain ⟨y, rfl, rfl, rfl, wy⟩ := open_int Try.underlying5 (hval 3 _ v3 rfl rfl) h3
  obtain ⟨a5, R, c5, rfl, hc5, hm5, hR5, _, hok5⟩ := open_bytes (hval 4 _ v4 rfl rfl) h4
  exact body p at_ x y R a5 c5 W hp (u8_bd wx) (u8_bd wy) hR5 hc5 hm5 hok5

set_option maxRecDepth 100000 in
theorem lifted (os : Os) (started : os.Started) (H : Type) (enc : TypeId × Value → H) :
    ReturnsInHanded {} Try.checked os 5 .any (Rows.frameBackSpec.pre6 enc Try.prog Try.f5 Rows.frameBackRow.domain false) (Rows.frameBackSpec.post enc Try.prog Try.f5 false true false false) :=
  returnsInHanded_of_change (C := Try.checked) own started (by kernel_rfl) Try.func5
    (ChangeSpec.witness6 (enc := enc) (C := Try.checked) false ⟨#[], #[.agg #[.int .i64 0, .int .i64 0, .int .i64 0, .int .i64 0, .slice none 0 0, .slice none 0 0], (.int .i64 0), (.int .u8 0), (.int .u8 0), (.slice none 0 0)], []⟩ 8 (by kernel_rfl) (by kernel_rfl) (by kernel_rfl) (by kernel_rfl))
    fun W base args ds gs before hval hW _ _ => step_of_walk laidOut (by rw [Try.params5]; exact of_decide_eq_true (by kernel_rfl)) (by kernel_rfl) Try.underlying4 rfl
      (fun ds h => by
        rw [Try.params5] at h
        match ds, h with
        | [_, _, _, _, _], _ => rfl) (walk H enc) W base args ds gs before hval hW

theorem holds : Rows.FrameBackSaid :=
  OpenClaim.holds_of_wide 5 Try.f5 rfl rfl rfl rfl rfl rfl rfl ⟨rfl, rfl, rfl, rfl, rfl⟩ rfl rfl rfl rfl rfl (by kernel_rfl) Try.func5 (by kernel_rfl)
    (of_decide_eq_true (by kernel_rfl)) (by unfold Func.isWrapper; first | (rw [if_pos (by decide +kernel)]; kernel_rfl) | (rw [if_neg (by decide +kernel)]; exact ⟨rfl, rfl⟩))
    (fun os started H enc _ => lifted os started H enc)
#print axioms holds
end Go.Proofs.Ytoconkgemakboaa.FrameBack
