/-
  Package frame: the reference: a frame's bytes.
-/
import Derived.Test.YtoconkgemakboaaFrRMay
import Derived.Test.YtoconkgemakboaaFrEnc
import Derived.Test.YtoconkgemakboaaIeREnc
import Derived.Test.YtoconkgemakboaaCrcB
import Derived.Deep.RegionHeld3
set_option maxRecDepth 100000
namespace Go.Proofs.Ytoconkgemakboaa.Fm
set_option linter.unusedVariables false
open Go.RowKit Lb Bf Ie Go.Deep

set_option maxHeartbeats 4000000 in
theorem rencF_any (p : Fp) (w : World) (h : p.At w) (hm : ∀ k, k < p.L.length → (p.L.getD k ep0).e.list.length ≤ 1000000) :
    Calls Try.prog 12 #[.agg p.vals] w (EncFPost p.fr w) := by
  have o1 := Own.new w 25 p.vals
  have b0 := (Below.refl w.heap.size w).alloc (Nat.le_refl _) (.cells p.vals 25)
  have h1 := h.below b0
  have hM := rmayF_any p _ h1 hm
  have HDO := Lib.hid h.ok
  clear h hm
  obtain ⟨i0, hi0, hz0, hz1, hz2⟩ := info_parts info8
  obtain ⟨pk, ps, pd, pq, pL, pa, pc, pdata, pb, pe⟩ := p
  have HF : Hid ((⟨pk, ps, pd, pq, pL, pa, pc, pdata, pb, pe⟩ : Fp).fr = ⟨pk, ps, pd, pq, els pL, pdata⟩) := Lib.hid rfl
  rw [HF.out] at hM ⊢
  unfold Fp.vals at *
  simp only at *
  obtain ⟨nd, hnd⟩ : ∃ n, pdata.length = n := ⟨_, rfl⟩
  have HND := Lib.hid hnd
  rw [hnd] at o1 b0 h1 hM ⊢
  obtain ⟨nl, hnl⟩ : ∃ n, pL.length = n := ⟨_, rfl⟩
  have HNL := Lib.hid hnl
  rw [hnl] at o1 b0 h1 hM ⊢
  go_enter Try.func12, Try.ntmps12
  go_upto_region 1 with (fail)
  generalize w.alloc (.cells #[.int .i64 pk, .int .i64 ps, .int .i64 pd, .int .i64 pq, .slice pa nl pc, .slice pb nd pe] 25) = w1 at *
  have x0 : w1.cell? ⟨w.heap.size, 0, none⟩ = some (.int .i64 pk) := o1.cell 0
  have x1 : w1.cell? ⟨w.heap.size, 1, none⟩ = some (.int .i64 ps) := o1.cell 1
  have x2 : w1.cell? ⟨w.heap.size, 2, none⟩ = some (.int .i64 pd) := o1.cell 2
  have x3 : w1.cell? ⟨w.heap.size, 3, none⟩ = some (.int .i64 pq) := o1.cell 3
  have x4 : w1.cell? ⟨w.heap.size, 4, none⟩ = some (.slice pa nl pc) := o1.cell 4
  have x5 : w1.cell? ⟨w.heap.size, 5, none⟩ = some (.slice pb nd pe) := o1.cell 5
  have HM := Lib.hid hM
  clear hnd hnl hM
  cases hmay : mayF ⟨pk, ps, pd, pq, els pL, pdata⟩
  · rw [hmay] at HM
    have HMAY := Lib.hid hmay
    clear hmay
    go_wp2_with fail
    refine HM.out.mono ?_
    rintro r w2 ⟨rfl, b2⟩
    go_wp2_with fail
    go_ret2
    unfold EncFPost
    rw [HMAY.out]
    exact ⟨rfl, b0.trans (b2.mono b0.size)⟩
  rw [hmay] at HM
  have HMAY := Lib.hid hmay
  obtain ⟨m1, m2, m3, m4, m5, m6⟩ := mayF_out hmay
  simp only at m1 m2 m3 m4 m5 m6
  rw [HND.out] at m3
  clear hmay
  go_wp2_with fail
  refine HM.out.mono ?_
  rintro r w2 ⟨rfl, b2⟩
  have o2 := below_own b2 o1 o1.lt
  have h2 := h1.below b2
  have b3 := b0.trans (b2.mono b0.size)
  clear x0 x1 x2 x3 x4 x5 o1 h1 b0 HM
  have x4 : w2.cell? ⟨w.heap.size, 4, none⟩ = some (.slice pa nl pc) := o2.cell 4
  have hE := rencode_own pL pa pc w2 h2.els
  rw [HNL.out] at hE
  have HE := Lib.hid hE
  clear hE
  go_wp2_with fail
  refine HE.out.mono ?_
  intro r w3 hp
  unfold REncPost at hp
  rw [if_pos m4] at hp
  obtain ⟨v3, rfl, M3, b4⟩ := hp
  have o3 := below_own b4 o2 o2.lt
  have h3 := h2.below b4
  have b5 := b3.trans (b4.mono b3.size)
  obtain ⟨hX1, hX2⟩ := encI_ok m4
  obtain ⟨X, hX⟩ : ∃ X, encI (els pL) = X := ⟨_, rfl⟩
  rw [hX] at M3 hX1 hX2
  have HX := Lib.hid hX
  obtain ⟨nx, hnx⟩ : ∃ n, X.length = n := ⟨_, rfl⟩
  rw [hnx] at M3 hX2
  have HNX := Lib.hid hnx
  have HXO := Lib.hid hX1
  obtain ⟨a3, c3, rfl, l3, lm3, R3⟩ := M3.row
  unfold maxLen at lm3
  have hR5 : Row w3 pb nd (bval pdata) := by have := h3.row; simp only at this; rwa [HND.out] at this
  have x0 : w3.cell? ⟨w.heap.size, 0, none⟩ = some (.int .i64 pk) := o3.cell 0
  have x1 : w3.cell? ⟨w.heap.size, 1, none⟩ = some (.int .i64 ps) := o3.cell 1
  have x2 : w3.cell? ⟨w.heap.size, 2, none⟩ = some (.int .i64 pd) := o3.cell 2
  have x3 : w3.cell? ⟨w.heap.size, 3, none⟩ = some (.int .i64 pq) := o3.cell 3
  have u0 : IntKind.u8.wrap pk = pk := u8_id (by omega)
  have u1 : IntKind.u8.wrap ps = ps := u8_id (by omega)
  have u2 : IntKind.u8.wrap pd = pd := u8_id (by omega)
  have u3 : IntKind.u8.wrap pq = pq := u8_id (by omega)
  have u4 : IntKind.u8.wrap (nx : Int) = (nx : Int) := u8_id (by omega)
  have hB := Own.new w3 5 #[.int .u8 197, .int .u8 pk, .int .u8 ps, .int .u8 pd, .int .u8 pq, .int .u8 (nx : Int)]
  have MB : Mine (w3.alloc (.cells #[.int .u8 197, .int .u8 pk, .int .u8 ps, .int .u8 pd, .int .u8 pq, .int .u8 (nx : Int)] 5)) w3.heap.size 5 (.slice (some ⟨w3.heap.size, 0, none⟩) 6 6) 6 (bval [197, pk, ps, pd, pq, (nx : Int)]) :=
    Mine.made hB (Nat.le_refl _) (by show 6 ≤ maxLen; unfold maxLen; decide) (Nat.le_refl _) (fun i hi => by rcases (show i = 0 ∨ i = 1 ∨ i = 2 ∨ i = 3 ∨ i = 4 ∨ i = 5 by omega) with rfl | rfl | rfl | rfl | rfl | rfl <;> rfl)
  have bB := (Below.refl w3.heap.size w3).alloc (Nat.le_refl _) (.cells #[.int .u8 197, .int .u8 pk, .int .u8 ps, .int .u8 pd, .int .u8 pq, .int .u8 (nx : Int)] 5)
  have RX : Row (w3.alloc (.cells #[.int .u8 197, .int .u8 pk, .int .u8 ps, .int .u8 pd, .int .u8 pq, .int .u8 (nx : Int)] 5)) a3 nx (bval X) := R3.below bB
  have Hm1 : Hid (6 + nx ≤ maxLen) := Lib.hid (by unfold maxLen; omega)
  have HMB := Lib.hid MB
  have HRX := Lib.hid RX
  clear hX hX1 hnx o2 h2 b3 b4 x4 hB MB RX M3 R3
  go_wp2_with (at_builtin; go_must (refine wp_app rfl (.tmp 31) (.tmp 32) _ rfl w3.heap.size 5 i0 _ 1 Try.underlying23 hi0 hz0 hz1 hz2 rfl _ 6 (bval [197, pk, ps, pd, pq, (nx : Int)]) rfl HMB.out _ nx _ (bval X) rfl HRX.out (fun _ _ => rfl) Hm1.out ?c2 ?c3 ?_))
  case c2 => omega
  case c3 => first | omega | (simp; done) | (simp; omega)
  intro v6 w6 M6 g6
  have b6 : Below w3.heap.size w3 w6 := bB.grown g6 (by simp) (fun q hq => (HMB.out.lt q hq).1)
  have M6' : Mine w6 w3.heap.size 5 v6 (6 + nx) (bval ([197, pk, ps, pd, pq, (nx : Int)] ++ X)) := M6.ext (fun i _ => bval_app [197, pk, ps, pd, pq, (nx : Int)] X i)
  have o6 := below_own b6 o3 o3.lt
  have R6 := hR5.below b6
  have HM6 := Lib.hid M6'
  clear M6 M6' g6 x0 x1 x2 x3 bB HMB HRX
  go_upto_region 5 with (fail)
  have hl6 : ([197, pk, ps, pd, pq, (nx : Int)] ++ X).length = 6 + nx := by rw [List.length_append, HNX.out]; simp
  obtain ⟨Y, hY⟩ : ∃ Y, [197, pk, ps, pd, pq, (nx : Int)] ++ X = Y := ⟨_, rfl⟩
  rw [hY] at HM6 hl6
  have HY := Lib.hid hY
  have HL6 := Lib.hid hl6
  clear hY hl6
  obtain ⟨g, hg⟩ : ∃ g, w.heap.size = g := ⟨_, rfl⟩
  rw [hg] at o6 o3 b5 ⊢
  have HG := Lib.hid hg
  clear hg
  have u5 : IntKind.u8.wrap (nd : Int) = (nd : Int) := u8_id (by omega)
  have oA : Lb.Own w6.drew g 25 #[.int .i64 pk, .int .i64 ps, .int .i64 pd, .int .i64 pq, .slice pa nl pc, .slice pb nd pe] := o6.drewN 1
  have oB : Lb.Own (w6.alloc (.cells #[.int .u8 (nd : Int)] 5)).drew g 25 #[.int .i64 pk, .int .i64 ps, .int .i64 pd, .int .i64 pq, .slice pa nl pc, .slice pb nd pe] := (o6.alloc (.cells #[.int .u8 (nd : Int)] 5)).drewN 1
  have s0 : w6.drew.cell? ⟨g, 5, none⟩ = some (.slice pb nd pe) := oA.cell 5
  have s1 : (w6.alloc (.cells #[.int .u8 (nd : Int)] 5)).drew.cell? ⟨g, 5, none⟩ = some (.slice pb nd pe) := oB.cell 5
  have rB : Row (w6.alloc (.cells #[.int .u8 (nd : Int)] 5)).drew (some ⟨w6.heap.size, 0, none⟩) 1 (bval [(nd : Int)]) := (row_new _ _ _ _ (fun i hi => by cases Nat.lt_one_iff.1 hi; rfl)).drewN 1
  have dB : Below w3.heap.size w3 (w6.alloc (.cells #[.int .u8 (nd : Int)] 5)).drew := below_drewN (b6.alloc b6.size _) 1
  have mB : Mine (w6.alloc (.cells #[.int .u8 (nd : Int)] 5)).drew w3.heap.size 5 v6 (6 + nx) (bval Y) := (HM6.out.alloc (.cells #[.int .u8 (nd : Int)] 5)).drewN 1
  have qB : Row (w6.alloc (.cells #[.int .u8 (nd : Int)] 5)).drew pb nd (bval pdata) := (hR5.below (b6.alloc b6.size (.cells #[.int .u8 (nd : Int)] 5))).drewN 1
  have hlt3 := o3.lt
  have H1 : Hid (6 + nx + 1 ≤ maxLen) := Lib.hid (by unfold maxLen; omega)
  have H2 : Hid (6 + nx + 1 + nd ≤ maxLen) := Lib.hid (by unfold maxLen; omega)
  have HH := Lib.hid hR5
  have HALL : Hid (∀ W : World, Lb.Own W g 25 #[.int .i64 pk, .int .i64 ps, .int .i64 pd, .int .i64 pq, .slice pa nl pc, .slice pb nd pe] → W.cell? ⟨g, 5, none⟩ = some (.slice pb nd pe)) := Lib.hid (fun W o => o.cell 5)
  clear hR5 R6 h3 oA
  go_region_held3 (fun w' => w'.cell? ⟨g, 5, none⟩ = some (.slice pb nd pe)) (with_reducible first | exact s0 | exact s1 | exact s2 | exact s3 | fail) (first
    | (with_reducible refine at_app ?_; refine step_app rfl (.tmp 34) (.tmp 39) 23 rfl w3.heap.size 5 i0 _ 1 Try.underlying23 hi0 hz0 hz1 hz2 rfl v6 (6 + nx) (bval Y) rfl mB _ 1 1 (bval [(nd : Int)]) rfl rB (fun _ _ => rfl) H1.out (by omega) dB.size ?_; intro v8 w8 m8 g8 _; have b8 : Below w3.heap.size w3 w8 := dB.grown g8 dB.size (fun q hq => (mB.lt q hq).1); have s2 : w8.cell? ⟨g, 5, none⟩ = some (.slice pb nd pe) := HALL.out _ (below_own b8 o3 hlt3); have r8 : Row w8 pb nd (bval pdata) := HH.out.below b8)
    | (with_reducible refine at_app ?_; refine step_app rfl (.tmp 40) (.tmp 42) 23 rfl w3.heap.size 5 i0 _ 1 Try.underlying23 hi0 hz0 hz1 hz2 rfl v8 (6 + nx + 1) (fun i => if i < 6 + nx then bval Y i else bval [(nd : Int)] (i - (6 + nx))) rfl m8 _ nd pe (bval pdata) rfl r8 (fun _ _ => rfl) H2.out (by omega) b8.size ?_; intro v9 w9 m9 g9 _; have b9 : Below w3.heap.size w3 w9 := b8.grown g9 b8.size (fun q hq => (m8.lt q hq).1); have s3 : w9.cell? ⟨g, 5, none⟩ = some (.slice pb nd pe) := HALL.out _ (below_own b9 o3 hlt3))
    | fail)
  all_goals
    have hR : Y ++ [(nd : Int)] ++ pdata = encR ⟨pk, ps, pd, pq, els pL, pdata⟩ := by
      unfold encR
      rw [HX.out, HNX.out, HND.out, ← HY.out]
    have M9 : Mine w9 w3.heap.size 5 v9 (Y ++ [(nd : Int)] ++ pdata).length (bval (Y ++ [(nd : Int)] ++ pdata)) := by
      have e1 : (Y ++ [(nd : Int)]).length = 6 + nx + 1 := by rw [List.length_append, HL6.out]; rfl
      have e2 : (Y ++ [(nd : Int)] ++ pdata).length = 6 + nx + 1 + nd := by rw [List.length_append, e1, HND.out]
      rw [e2]
      refine m9.ext fun i _ => ?_
      rw [← bval_app (Y ++ [(nd : Int)]) pdata i, e1]
      by_cases h : i < 6 + nx + 1
      · rw [if_pos h, if_pos h, ← bval_app Y [(nd : Int)] i, HL6.out]
      · rw [if_neg h, if_neg h]
    rw [hR] at M9
    have hRl := encR_len ⟨pk, ps, pd, pq, els pL, pdata⟩
    rw [HX.out, HNX.out] at hRl
    simp only at hRl
    rw [HND.out] at hRl
    have hRo := encR_ok HMAY.out HDO.out
    obtain ⟨R, hRR⟩ : ∃ R, encR ⟨pk, ps, pd, pq, els pL, pdata⟩ = R := ⟨_, rfl⟩
    rw [hRR] at M9 hRl hRo
    have HRR := Lib.hid hRR
    obtain ⟨nr, hnr⟩ : ∃ n, R.length = n := ⟨_, rfl⟩
    rw [hnr] at hRl M9
    have HNR := Lib.hid hnr
    have hRle : nr ≤ 144 + nd := by omega
    obtain ⟨a9, c9, rfl, _, _, R9⟩ := M9.row
    have hAp := Cr.rappend_any a9 nr c9 (fn R) w9 (by omega) (row_ext R9 (fun i hi => rfl)) (fn_byte hRo)
    have HAP := Lib.hid hAp
    clear hAp hR m9 g9 M9 R9 hRl hRR hnr m8 g8 s0 s1 s2 s3 rB dB mB qB oB r8 b8
    go_wp2_with fail
    with_reducible refine HAP.out.mono ?_
    rintro r w10 ⟨v10, rfl, hM10, b10⟩
    have h10 := mine_app HNR.out hM10
    rw [← HRR.out] at h10
    have hbw : Below g w w10 := b5.trans ((b9.trans (b10.mono b9.size)).mono (Nat.le_of_lt hlt3))
    have H10 := Lib.hid (Ie.Mine.low h10 (show g ≤ w9.heap.size from Nat.le_trans (Nat.le_of_lt hlt3) b9.size))
    clear h10 hM10 b10
    go_wp2_with fail
    go_ret2
    unfold EncFPost
    rw [HMAY.out, if_pos rfl, HG.out]
    exact ⟨v10, rfl, H10.out, hbw⟩
end Go.Proofs.Ytoconkgemakboaa.Fm
