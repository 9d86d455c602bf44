/-
  Law FrameShort: each shorter beginning is told; the call returns true. No condition.
-/
import Derived.Test.YtoconkgemakboaaFrSame
set_option maxRecDepth 100000
namespace Go.Proofs.Ytoconkgemakboaa.FrameShort
set_option linter.unusedVariables false
open Go.RowKit Go.ChangeShapes Go.WideShapes Go.ChangeAt Go.Deep Lb Bf Ie Fm
set_option linter.unusedVariables false
theorem own : ownKnob Try.prog.godebug = none := by kernel_rfl
theorem laidOut : laidOutB Try.prog = true := by kernel_rfl
/-- The next world is one of them, too. -/
theorem ext_next {v w' : World} (x : Ext v) (h : Below x.toW.heap.size x.toW w') : ∃ y : Ext v, w' = y.toW := ⟨⟨w', x.ok.trans (h.mono x.ok.size)⟩, rfl⟩
theorem ext_own {v : World} {b : Nat} {t : TypeId} {cs : Array Value} (x : Ext v) (h : Lb.Own v b t cs) : Lb.Own x.toW b t cs := below_own x.ok h h.lt
theorem row_le {w : World} {a : Option Addr} {n m : Nat} {V : Nat → Value} (h : Row w a n V) (hm : m ≤ n) : Row w a m V := fun h0 => by
  obtain ⟨b, o, e1, e2, e3⟩ := h (by omega)
  exact ⟨b, o, e1, e2, fun i hi => e3 i (by omega)⟩
theorem take_enc {f : Fr} {n : Nat} (h : mayF f = true) (h1 : 7 ≤ n) (h2 : n < (encR f).length) : decR ((encF f).take n) = .error 3 := by
  obtain ⟨m1, m2, m3, m4, m5, m6⟩ := mayF_out h
  rw [encR_len] at h2
  have e : encR f = 197 :: f.k :: f.s :: f.d :: f.q :: ((encI f.ies).length : Int) :: (encI f.ies ++ ((f.data.length : Int) :: f.data)) := by unfold encR; simp
  have h3 : (encF f).take n = (encR f).take n := by
    unfold encF appL
    rw [List.take_append_of_le_length (by rw [encR_len]; omega)]
  rw [h3, e]
  obtain ⟨j, rfl⟩ : ∃ j, n = j + 6 := ⟨n - 6, by omega⟩
  simp only [List.take_succ_cons]
  unfold decR
  simp only
  rw [Int.toNat_natCast]
  split
  · rfl
  · rename_i hl
    rw [List.length_take, List.length_append, List.length_cons] at hl
    rw [List.drop_take, List.drop_left]
    obtain ⟨i, hi⟩ : ∃ i, j - (encI f.ies).length = i := ⟨_, rfl⟩
    rw [hi]
    cases i with
    | zero => rfl
    | succ i =>
      simp only [List.take_succ_cons]
      rw [if_pos (by rw [List.length_take, Int.toNat_natCast]; omega)]
def shortE (f : Fr) (n : Nat) : Int := match decF ((encF f).take n) with | .ok _ => 0 | .error e => e
theorem short_dec {f : Fr} {n : Nat} (h : mayF f = true) (h2 : n < (encF f).length) : decF ((encF f).take n) = .error (shortE f n) ∧ (n < 9 → shortE f n = 2) ∧ (¬ n < 9 → shortE f n = 3 ∨ shortE f n = 4) := by
  have hl : ((encF f).take n).length = n := by rw [List.length_take]; omega
  have hcase : (n < 9 ∧ decF ((encF f).take n) = .error 2) ∨ (¬ n < 9 ∧ (decF ((encF f).take n) = .error 3 ∨ decF ((encF f).take n) = .error 4)) := by
    unfold decF
    rw [hl]
    by_cases h9 : n < 9
    · exact .inl ⟨h9, by rw [if_pos h9]⟩
    · refine .inr ⟨h9, ?_⟩
      rw [if_neg h9]
      split
      · exact .inr rfl
      · rw [List.take_take, show min (n - 2) n = n - 2 by omega]
        refine .inl (take_enc h (by omega) ?_)
        rw [encF_len] at h2
        rw [encR_len]
        omega
  unfold shortE
  rcases hcase with ⟨h9, e⟩ | ⟨h9, e | e⟩
  · rw [e]; exact ⟨rfl, fun _ => rfl, fun k => absurd h9 k⟩
  · rw [e]; exact ⟨rfl, fun k => absurd k h9, fun _ => .inl rfl⟩
  · rw [e]; exact ⟨rfl, fun k => absurd k h9, fun _ => .inr rfl⟩
set_option maxHeartbeats 1000000 in
theorem body (p : Fp) (cut : Int) (w : World) (h : p.At w) :
    Calls Try.prog 7 #[.agg p.vals, .int .i64 cut] w fun r w' => r = .returned (.bool true) ∧ Below w.heap.size w w' := by
  have o1 := Own.new w 25 p.vals
  have b0 := (Below.refl w.heap.size w).alloc (Nat.le_refl _) (.cells p.vals 25)
  have h1 := h.below b0
  have hL := lightF_any p _ h1
  have hlo := @lightF_out p
  have HLO := Lib.hid hlo
  obtain ⟨lt, hlt⟩ : ∃ b, lightF p = b := ⟨_, rfl⟩
  have HLT := Lib.hid hlt
  rw [hlt] at hL
  clear h hlo hlt
  obtain ⟨pk, ps, pd, pq, pL, pa, pc, pdata, pb, pe⟩ := p
  have HF : Hid ((⟨pk, ps, pd, pq, pL, pa, pc, pdata, pb, pe⟩ : Fp).fr = ⟨pk, ps, pd, pq, els pL, pdata⟩) := Lib.hid rfl
  have HA := Lib.hid h1
  have HE := Lib.hid (fun W hW hm => encF_any ⟨pk, ps, pd, pq, pL, pa, pc, pdata, pb, pe⟩ W hW hm)
  unfold Fp.vals at *
  simp only at *
  obtain ⟨nd, hnd⟩ : ∃ n, pdata.length = n := ⟨_, rfl⟩
  have HND := Lib.hid hnd
  rw [hnd] at o1 b0 hL h1 HE HA ⊢
  obtain ⟨nl, hnl⟩ : ∃ n, pL.length = n := ⟨_, rfl⟩
  have HNL := Lib.hid hnl
  rw [hnl] at o1 b0 hL h1 HE HA ⊢
  have HL := Lib.hid hL
  clear hnd hnl hL h1
  go_enter Try.func7, Try.ntmps7
  go_upto_region 1 with (fail)
  generalize w.alloc (.cells #[.int .i64 pk, .int .i64 ps, .int .i64 pd, .int .i64 pq, .slice pa nl pc, .slice pb nd pe] 25) = w1 at *
  obtain ⟨g, hg⟩ : ∃ g, w.heap.size = g := ⟨_, rfl⟩
  have hgs := b0.size
  rw [hg] at o1 b0 hgs ⊢
  have HG := Lib.hid hg
  clear hg
  have x0 : ∀ x : Ext w1, x.toW.cell? ⟨g, 0, none⟩ = some (.int .i64 pk) := fun x => (ext_own x o1).cell 0
  have x1 : ∀ x : Ext w1, x.toW.cell? ⟨g, 1, none⟩ = some (.int .i64 ps) := fun x => (ext_own x o1).cell 1
  have x2 : ∀ x : Ext w1, x.toW.cell? ⟨g, 2, none⟩ = some (.int .i64 pd) := fun x => (ext_own x o1).cell 2
  have x3 : ∀ x : Ext w1, x.toW.cell? ⟨g, 3, none⟩ = some (.int .i64 pq) := fun x => (ext_own x o1).cell 3
  have x4 : ∀ x : Ext w1, x.toW.cell? ⟨g, 4, none⟩ = some (.slice pa nl pc) := fun x => (ext_own x o1).cell 4
  have x5 : ∀ x : Ext w1, x.toW.cell? ⟨g, 5, none⟩ = some (.slice pb nd pe) := fun x => (ext_own x o1).cell 5
  obtain ⟨z0, hz0⟩ : ∃ x : Ext w1, x.toW = w1 := ⟨⟨w1, Below.refl _ _⟩, rfl⟩
  rw [← hz0] at HL ⊢
  clear hz0
  go_wp2_with fail
  refine HL.out.mono ?_
  rintro r w2 ⟨rfl, bb⟩
  obtain ⟨z1, rfl⟩ := ext_next z0 bb
  clear HL bb
  cases lt
  · go_wp2_with fail
    refine (awakeF_any _).mono ?_
    rintro r w9 ⟨rfl, bb⟩
    obtain ⟨z9, rfl⟩ := ext_next z1 bb
    clear bb
    go_wp2_with fail
    go_ret
    exact ⟨rfl, by rw [HG.out]; exact b0.trans (z9.ok.mono hgs)⟩
  obtain ⟨hl1, hl2, hl3⟩ := HLO.out HLT.out
  rw [HND.out] at hl3
  rw [HNL.out] at hl1
  have hE := HE.out z1.toW (HA.out.below z1.ok) hl1
  have HE2 := Lib.hid hE
  clear HE hE hl1
  go_wp2_with fail
  refine HE2.out.mono ?_
  intro r w2 hp
  unfold EncFPost at hp
  rw [HF.out] at hp
  clear HE2
  cases hmay : mayF ⟨pk, ps, pd, pq, els pL, pdata⟩
  · rw [hmay] at hp
    obtain ⟨rfl, bb⟩ := hp
    obtain ⟨z2, rfl⟩ := ext_next z1 bb
    clear bb hmay
    go_wp2_with fail
    refine (awakeF_any _).mono ?_
    rintro r w9 ⟨rfl, bb⟩
    obtain ⟨z9, rfl⟩ := ext_next z2 bb
    clear bb
    go_wp2_with fail
    go_ret
    exact ⟨rfl, by rw [HG.out]; exact b0.trans (z9.ok.mono hgs)⟩
  rw [hmay, if_pos rfl] at hp
  obtain ⟨v, rfl, hM, bb⟩ := hp
  obtain ⟨z2, hz2⟩ := ext_next z1 bb
  subst hz2
  have hd := HA.out.ok
  simp only at hd
  obtain ⟨f, hf⟩ : ∃ f, (⟨pk, ps, pd, pq, els pL, pdata⟩ : Fr) = f := ⟨_, rfl⟩
  have hd : okD' f.data := by rw [← hf]; exact hd
  rw [hf] at hmay hM
  have hko := encF_ok hmay hd
  have hsd := fun n h2 => @short_dec f n hmay h2
  obtain ⟨m1, m2, m3, m4, m5, m6⟩ := mayF_out hmay
  have hlen := encF_len f
  obtain ⟨_, hX2⟩ := encI_ok m4
  obtain ⟨a, c, rfl, l1, l2, hRow⟩ := hM.row
  obtain ⟨Y, hY⟩ : ∃ Y, encF f = Y := ⟨_, rfl⟩
  rw [hY] at hlen hRow l1 hko ⊢
  have HY := Lib.hid hY
  have HKO := Lib.hid hko
  have HRow := Lib.hid hRow
  have HSD := Lib.hid hsd
  obtain ⟨n, hn⟩ : ∃ n, Y.length = n := ⟨_, rfl⟩
  rw [hn] at hlen l1 ⊢
  have HN := Lib.hid hn
  have hX1 : 1 ≤ (encI f.ies).length := by unfold encI; simp
  have hls : 10 ≤ n ∧ n ≤ 300 := by omega
  have hc := l2
  unfold maxLen at l2
  obtain ⟨hn9, hn3⟩ := hls
  clear hX1 hX2 m1 m2 m3 m4 m5 m6 hsd hn hko hY hd hf hM hmay bb hRow hlen
  have h10 : ¬ n < 10 := by omega
  have g1 : decide ((n : Int) < 10) = false := by simp; omega
  have g2 : decide (n < 10) = false := by simpa using h10
  have hu : 0 ≤ IntKind.u64.wrap cut := u64_pos cut
  obtain ⟨q, hq⟩ : ∃ q, IntKind.u64.wrap cut = q := ⟨_, rfl⟩
  rw [hq] at hu
  have hn64 : IntKind.u64.wrap (n : Int) = (n : Int) := u64_id (by omega)
  obtain ⟨d, hd⟩ : ∃ d : Nat, q % (n : Int) = (d : Int) := ⟨(q % (n : Int)).toNat, by have := Int.emod_nonneg q (show (n : Int) ≠ 0 by omega); omega⟩
  have hdl : d < n := by have := Int.emod_lt_of_pos q (show (0 : Int) < n by omega); omega
  have hdt : q.tmod (n : Int) = (d : Int) := by rw [Int.tmod_eq_emod_of_nonneg hu, hd]
  have hdc : d ≤ c := by omega
  obtain ⟨s1, s2, s3⟩ := HSD.out d (by rw [HY.out, HN.out]; exact hdl)
  have htl : (Y.take d).length = d := by rw [List.length_take, HN.out]; omega
  have hD := decF_any a c (Y.take d) z2.toW (by rw [htl]; exact hdc) hc (by rw [htl]; omega) (by rw [htl]; exact row_ext (row_le HRow.out (by rw [HN.out]; omega)) (fun i hi => by unfold bval; rw [tk_get hi])) (okD_take' HKO.out)
  rw [htl] at hD
  have HD := Lib.hid hD
  clear hD htl
  go_wp2_with fail
  refine HD.out.mono ?_
  intro r w3 hp
  unfold DecFPost at hp
  rw [← HY.out, s1] at hp
  obtain ⟨rfl, bb⟩ := hp
  obtain ⟨z3, hz3⟩ := ext_next z2 bb
  subst hz3
  clear bb HD s1
  unfold zF Fp.vals
  simp only [List.length_nil]
  have b5 := (Below.refl z3.toW.heap.size z3.toW).alloc (Nat.le_refl _) (.cells #[.int .i64 0, .int .i64 0, .int .i64 0, .int .i64 0, .slice none 0 0, .slice none 0 0] 25)
  obtain ⟨z4, hz4⟩ := ext_next z3 b5
  have HZ4 := Lib.hid hz4
  clear hz4
  obtain ⟨E, hE⟩ : ∃ E, shortE f d = E := ⟨_, rfl⟩
  rw [hE] at s2 s3 ⊢
  clear hE b5 HRow HSD HN HY HKO
  by_cases h9 : d < 9
  · have e0 := s2 h9
    subst e0
    have g3 : decide (d < 9) = true := by simpa using h9
    have g4 : decide ((d : Int) < 9) = true := by simp; omega
    clear s2 s3 h9
    go_upto_region 8 with (fail)
    rw [HZ4.out]
    clear HZ4
    go_wp2_with fail
    refine (awakeF_any _).mono ?_
    rintro r w9 ⟨rfl, bb⟩
    obtain ⟨z9, rfl⟩ := ext_next z4 bb
    clear bb
    go_wp2_with fail
    go_ret
    exact ⟨rfl, by rw [HG.out]; exact b0.trans (z9.ok.mono hgs)⟩
  · have e0 := s3 h9
    have g3 : decide (d < 9) = false := by simpa using h9
    have g4 : decide ((d : Int) < 9) = false := by simp; omega
    have g5 : (E == 2) = false := by simp; omega
    have g6 : (E != 0) = true := by simp; omega
    clear s2 s3 h9
    go_upto_region 8 with (fail)
    rw [HZ4.out]
    clear HZ4
    go_wp2_with fail
    refine (awakeF_any _).mono ?_
    rintro r w9 ⟨rfl, bb⟩
    obtain ⟨z9, rfl⟩ := ext_next z4 bb
    clear bb
    go_wp2_with fail
    go_ret
    exact ⟨rfl, by rw [HG.out]; exact b0.trans (z9.ok.mono hgs)⟩

theorem walk (H : Type) (enc : TypeId × Value → H) : Walk H enc Try.prog 7 Try.f7 := by
  intro W base args ds p hval hA
  rw [Try.params7] at hA hval
  obtain ⟨v0, v1, d0, d1, p0, p1, rfl, rfl, rfl, h0, h1⟩ := trodAll_two hA
  obtain ⟨p, rfl, hp⟩ := open_frame (hval 0 _ v0 rfl rfl) h0
  obtain ⟨n, rfl, rfl, rfl, _⟩ := open_int Try.underlying3 (hval 1 _ v1 rfl rfl) h1
  exact body p n W hp

set_option maxRecDepth 100000 in
theorem lifted (os : Os) (started : os.Started) (H : Type) (enc : TypeId × Value → H) :
    ReturnsInHanded {} Try.checked os 7 .any (Rows.frameShortSpec.pre6 enc Try.prog Try.f7 Rows.frameShortRow.domain false) (Rows.frameShortSpec.post enc Try.prog Try.f7 false true false false) :=
  returnsInHanded_of_change (C := Try.checked) own started (by kernel_rfl) Try.func7
    (ChangeSpec.witness6 (enc := enc) (C := Try.checked) false ⟨#[], #[.agg #[.int .i64 0, .int .i64 0, .int .i64 0, .int .i64 0, .slice none 0 0, .slice none 0 0], .int .i64 0], []⟩ 8 (by kernel_rfl) (by kernel_rfl) (by kernel_rfl) (by kernel_rfl))
    fun W base args ds gs before hval hW _ _ => step_of_walk laidOut (by rw [Try.params7]; exact of_decide_eq_true (by kernel_rfl)) (by kernel_rfl) Try.underlying4 rfl
      (fun ds h => by
        rw [Try.params7] at h
        match ds, h with
        | [_, _], _ => rfl) (walk H enc) W base args ds gs before hval hW

theorem holds : Rows.FrameShortSaid :=
  OpenClaim.holds_of_wide 7 Try.f7 rfl rfl rfl rfl rfl rfl rfl ⟨rfl, rfl, rfl, rfl, rfl⟩ rfl rfl rfl rfl rfl (by kernel_rfl) Try.func7 (by kernel_rfl)
    (of_decide_eq_true (by kernel_rfl)) (by unfold Func.isWrapper; first | (rw [if_pos (by decide +kernel)]; kernel_rfl) | (rw [if_neg (by decide +kernel)]; exact ⟨rfl, rfl⟩))
    (fun os started H enc _ => lifted os started H enc)
#print axioms holds
end Go.Proofs.Ytoconkgemakboaa.FrameShort
