/-
  Package frame (chapter 7): Encode: a frame's bytes.
-/
import Derived.Test.YtoconkgemakboaaFrMay
set_option maxRecDepth 100000
namespace Go.Proofs.Ytoconkgemakboaa.Fm
set_option linter.unusedVariables false
open Go.RowKit Lb Bf Ie

theorem idx6 (x0 x1 x2 x3 x4 x5 : Int) (k : Nat) (h : k < 6) (w : World) : (Instr.index 45 (.agg #[.int .i64 x0, .int .i64 x1, .int .i64 x2, .int .i64 x3, .int .i64 x4, .int .i64 x5]) (.int .i64 (k : Int))).run Try.prog w = .ok (.int .i64 ([x0, x1, x2, x3, x4, x5].getD k 0)) w := by
  rcases (show k = 0 ∨ k = 1 ∨ k = 2 ∨ k = 3 ∨ k = 4 ∨ k = 5 by omega) with rfl | rfl | rfl | rfl | rfl | rfl
  · clear h; kernel_rfl
  · clear h; kernel_rfl
  · clear h; kernel_rfl
  · clear h; kernel_rfl
  · clear h; kernel_rfl
  · clear h; kernel_rfl
def EncFPost (f : Fr) (w : World) (r : Ending) (w' : World) : Prop :=
  if mayF f = true then ∃ v, r = .returned (.tuple #[v, .int .i64 0]) ∧ Mine w' w.heap.size 5 v (encF f).length (bval (encF f)) ∧ Below w.heap.size w w'
  else r = .returned (.tuple #[.slice none 0 0, .int .i64 1]) ∧ Below w.heap.size w w'
theorem mine_app {w : World} {base : Nat} {v : Value} {l : List Int} {n : Nat} (hn : l.length = n) (h : Mine w base 5 v (n + 2) (fun i => .int .u8 (Cr.app (fn l) n i))) : Mine w base 5 v (appL l).length (bval (appL l)) := by
  subst hn
  rw [appL_len]
  refine h.ext fun i hi => ?_
  unfold bval
  rw [← appL_fn l i hi]
  rfl
set_option maxHeartbeats 4000000 in
theorem encF_any (p : Fp) (w : World) (h : p.At w) (hm : ∀ k, k < p.L.length → (p.L.getD k ep0).e.list.length ≤ 1000000) :
    Calls Try.prog 11 #[.agg p.vals] w (EncFPost p.fr w) := by
  have o1 := Own.new w 25 p.vals
  have b0 := (Below.refl w.heap.size w).alloc (Nat.le_refl _) (.cells p.vals 25)
  have h1 := h.below b0
  have hM := mayF_any p _ h1 hm
  have HDO := Lib.hid h.ok
  clear h hm
  obtain ⟨pk, ps, pd, pq, pL, pa, pc, pdata, pb, pe⟩ := p
  have HF : Hid ((⟨pk, ps, pd, pq, pL, pa, pc, pdata, pb, pe⟩ : Fp).fr = ⟨pk, ps, pd, pq, els pL, pdata⟩) := Lib.hid rfl
  rw [HF.out] at hM ⊢
  unfold Fp.vals at *
  simp only at *
  obtain ⟨nd, hnd⟩ : ∃ n, pdata.length = n := ⟨_, rfl⟩
  have HND := Lib.hid hnd
  rw [hnd] at o1 b0 h1 hM ⊢
  obtain ⟨nl, hnl⟩ : ∃ n, pL.length = n := ⟨_, rfl⟩
  have HNL := Lib.hid hnl
  rw [hnl] at o1 b0 h1 hM ⊢
  have hsz : w.heap.size < (w.alloc (.cells #[.int .i64 pk, .int .i64 ps, .int .i64 pd, .int .i64 pq, .slice pa nl pc, .slice pb nd pe] 25)).heap.size := by simp
  go_enter Try.func11, Try.ntmps11
  go_upto_region 1 with (fail)
  generalize w.alloc (.cells #[.int .i64 pk, .int .i64 ps, .int .i64 pd, .int .i64 pq, .slice pa nl pc, .slice pb nd pe] 25) = w1 at *
  have x0 : w1.cell? ⟨w.heap.size, 0, none⟩ = some (.int .i64 pk) := o1.cell 0
  have x1 : w1.cell? ⟨w.heap.size, 1, none⟩ = some (.int .i64 ps) := o1.cell 1
  have x2 : w1.cell? ⟨w.heap.size, 2, none⟩ = some (.int .i64 pd) := o1.cell 2
  have x3 : w1.cell? ⟨w.heap.size, 3, none⟩ = some (.int .i64 pq) := o1.cell 3
  have x4 : w1.cell? ⟨w.heap.size, 4, none⟩ = some (.slice pa nl pc) := o1.cell 4
  have x5 : w1.cell? ⟨w.heap.size, 5, none⟩ = some (.slice pb nd pe) := o1.cell 5
  have HM := Lib.hid hM
  clear hnd hnl hM
  cases hmay : mayF ⟨pk, ps, pd, pq, els pL, pdata⟩
  · rw [hmay] at HM
    have HMAY := Lib.hid hmay
    clear hmay
    go_wp2_with fail
    refine HM.out.mono ?_
    rintro r w2 ⟨rfl, b2⟩
    go_wp2_with fail
    go_ret2
    unfold EncFPost
    rw [HMAY.out]
    exact ⟨rfl, b0.trans (b2.mono b0.size)⟩
  rw [hmay] at HM
  have HMAY := Lib.hid hmay
  obtain ⟨m1, m2, m3, m4, m5, m6⟩ := mayF_out hmay
  simp only at m1 m2 m3 m4 m5 m6
  rw [HND.out] at m3
  clear hmay
  go_wp2_with fail
  refine HM.out.mono ?_
  rintro r w2 ⟨rfl, b2⟩
  have o2 := below_own b2 o1 o1.lt
  have h2 := h1.below b2
  have b3 := b0.trans (b2.mono b0.size)
  clear x0 x1 x2 x3 x4 x5 o1 h1 b0 HM
  have x4 : w2.cell? ⟨w.heap.size, 4, none⟩ = some (.slice pa nl pc) := o2.cell 4
  have hE := encode_any pL pa pc w2 h2.els
  rw [HNL.out] at hE
  have HE := Lib.hid hE
  clear hE
  go_wp2_with fail
  refine HE.out.mono ?_
  intro r w3 hp
  unfold EncPost at hp
  rw [if_pos m4] at hp
  obtain ⟨a3, c3, rfl, l3, lm3, R3, b4⟩ := hp
  have o3 := below_own b4 o2 o2.lt
  have h3 := h2.below b4
  have b5 := b3.trans (b4.mono b3.size)
  obtain ⟨hX1, hX2⟩ := encI_ok m4
  obtain ⟨X, hX⟩ : ∃ X, encI (els pL) = X := ⟨_, rfl⟩
  rw [hX] at R3 l3 hX1 hX2 ⊢
  have HX := Lib.hid hX
  obtain ⟨nx, hnx⟩ : ∃ n, X.length = n := ⟨_, rfl⟩
  rw [hnx] at R3 l3 hX2 ⊢
  have HNX := Lib.hid hnx
  have HXO := Lib.hid hX1
  have ho := Own.new w3 44 #[.slice none 0 0, .int .i64 0]
  have bW := (Below.refl w3.heap.size w3).alloc (Nat.le_refl _) (.cells #[.slice none 0 0, .int .i64 0] 44)
  have hW : Wb (w3.alloc (.cells #[.slice none 0 0, .int .i64 0] 44)) w3.heap.size w3.heap.size [] (.slice none 0 0) :=
    ⟨fun _ => 0, fun _ => false, ⟨⟨ho, Mine.nil _ _ _ _, ⟨fun k hk => by simp at hk, fun k hk => by simp at hk⟩, Nat.le_refl _⟩, by simp, by simp⟩, fun k hk => by simp at hk⟩
  have hs3 : w.heap.size < w3.heap.size := o3.lt
  have hsW : w3.heap.size < (w3.alloc (.cells #[.slice none 0 0, .int .i64 0] 44)).heap.size := by simp
  have hR5 : Row w3 pb nd (bval pdata) := by have := h3.row; simp only at this; rwa [HND.out] at this
  clear hX hX1 hnx ho o2 h2 b3 b4 x4
  go_upto_region 7 with (fail)
  generalize w3.alloc (.cells #[.slice none 0 0, .int .i64 0] 44) = w4 at *
  obtain ⟨g, hg⟩ : ∃ g, w3.heap.size = g := ⟨_, rfl⟩
  have HG := Lib.hid hg
  rw [hg] at hW bW hs3 hsW ⊢
  clear hg
  have HOWN : Hid (∀ W, Below g w4 W → Lb.Own W w.heap.size 25 #[.int .i64 pk, .int .i64 ps, .int .i64 pd, .int .i64 pq, .slice pa nl pc, .slice pb nd pe] ∧ Row W a3 nx (bval X) ∧ Row W pb nd (bval pdata)) := Lib.hid (fun W hb => by
    have hb2 : Below w3.heap.size w3 W := by rw [HG.out]; exact bW.trans hb
    exact ⟨below_own hb2 o3 (by rw [HG.out]; exact hs3), R3.below hb2, hR5.below hb2⟩)
  have o4 := (HOWN.out w4 (Below.refl _ _)).1
  have x0 : w4.cell? ⟨w.heap.size, 0, none⟩ = some (.int .i64 pk) := o4.cell 0
  have x1 : w4.cell? ⟨w.heap.size, 1, none⟩ = some (.int .i64 ps) := o4.cell 1
  have x2 : w4.cell? ⟨w.heap.size, 2, none⟩ = some (.int .i64 pd) := o4.cell 2
  have x3 : w4.cell? ⟨w.heap.size, 3, none⟩ = some (.int .i64 pq) := o4.cell 3
  have hI := fun k hk (w : World) => idx6 197 pk ps pd pq (nx : Int) k hk w
  have HI := Lib.hid hI
  clear hI R3 hR5 o3 o4
  go_wp2_with fail
  go_loopw [32] (fun i wr => ∃ (k : Nat) (v : Value), i = .int .i64 k ∧ k ≤ 6 ∧ Wb wr g g ([197, pk, ps, pd, pq, (nx : Int)].take k) v ∧ Below g w4 wr) (fun i _ => 6 - (intOf i).toNat)
  case atStart => exact ⟨0, _, rfl, by omega, hW, Below.refl _ _⟩
  case round =>
    clear hW
    obtain ⟨k, v, rfl, hk, hW, bb⟩ := hrel
    by_cases hlt : k < 6
    · have hi := HI.out k hlt
      have hxb : 0 ≤ [197, pk, ps, pd, pq, (nx : Int)].getD k 0 ∧ [197, pk, ps, pd, pq, (nx : Int)].getD k 0 < 256 := by
        match k, hlt with
        | 0, _ => simp
        | 1, _ => simp; omega
        | 2, _ => simp; omega
        | 3, _ => simp; omega
        | 4, _ => simp; omega
        | 5, _ => simp; omega
      have hsn := tk_snoc (l := [197, pk, ps, pd, pq, (nx : Int)]) (k := k) (by simpa using hlt)
      have hll : ([197, pk, ps, pd, pq, (nx : Int)].take k).length ≤ 6 := by rw [List.length_take]; simp; omega
      obtain ⟨x, hx⟩ : ∃ x, [197, pk, ps, pd, pq, (nx : Int)].getD k 0 = x := ⟨_, rfl⟩
      rw [hx] at hi hxb hsn
      have HSN := Lib.hid hsn
      have HLL := Lib.hid hll
      have u1 : IntKind.u64.wrap x = x := u64_id (by omega)
      clear hx hsn hll
      go_wp2_with fail
      refine (put1_any g g _ v x wr hW hxb (by have := HLL.out; omega)).mono ?_
      rintro r x1 ⟨rfl, v1, hW1, b1, lo⟩
      rw [← HSN.out] at hW1
      have b2 := bb.trans b1
      clear hi u1 lo b1 hW bb
      go_wp2_with fail
      exact ⟨⟨k + 1, v1, by simp, by omega, hW1, b2⟩, by simp [intOf]; omega⟩
    · obtain rfl : k = 6 := by omega
      have htk : [197, pk, ps, pd, pq, (nx : Int)].take 6 = [197, pk, ps, pd, pq, (nx : Int)] := rfl
      rw [htk] at hW
      have q1 := (HOWN.out wr bb).2.1
      clear htk HI x0 x1 x2 x3
      have hQ1 : Row wr a3 X.length (fun i => .int .u8 (X.getD i 0)) := by rw [HNX.out]; exact q1
      have hT1 := textb_any g g [197, pk, ps, pd, pq, (nx : Int)] X v a3 c3 wr hW (by simp) (by rw [HNX.out]; omega) hQ1 HXO.out
      rw [HNX.out] at hT1
      have HT1 := Lib.hid hT1
      clear hT1 hQ1 q1 hW
      go_wp2_with fail
      refine HT1.out.mono ?_
      rintro r w5 ⟨rfl, v5, hW5, b5', lo5⟩
      have bb5 := bb.trans b5'
      have o5 := (HOWN.out w5 bb5).1
      have y5 : w5.cell? ⟨w.heap.size, 5, none⟩ = some (.slice pb nd pe) := o5.cell 5
      have u1 : IntKind.u64.wrap (nd : Int) = (nd : Int) := u64_id (by omega)
      have hl6 : ([197, pk, ps, pd, pq, (nx : Int)] ++ X).length = 6 + nx := by rw [List.length_append, HNX.out]; simp
      have HL6 := Lib.hid hl6
      clear HT1 bb b5' lo5 hl6
      go_wp2_with fail
      refine (put1_any g g _ v5 (nd : Int) w5 hW5 (by omega) (by rw [HL6.out]; omega)).mono ?_
      rintro r w6 ⟨rfl, v6, hW6, b6', lo6⟩
      have bb6 := bb5.trans b6'
      have o6 := (HOWN.out w6 bb6).1
      have y5 : w6.cell? ⟨w.heap.size, 5, none⟩ = some (.slice pb nd pe) := o6.cell 5
      have q2 := (HOWN.out w6 bb6).2.2
      have hQ2 : Row w6 pb pdata.length (fun i => .int .u8 (pdata.getD i 0)) := by rw [HND.out]; exact q2
      have hl7 : ([197, pk, ps, pd, pq, (nx : Int)] ++ X ++ [(nd : Int)]).length = 7 + nx := by rw [List.length_append, HL6.out]; simp; omega
      have hT2 := textb_any g g _ pdata v6 pb pe w6 hW6 (by rw [hl7]; omega) (by rw [HND.out]; omega) hQ2 HDO.out
      rw [HND.out] at hT2
      have HT2 := Lib.hid hT2
      clear hT2 hQ2 q2 hW6 bb5 b6' lo6 u1 hl7 hW5 o5 o6
      go_wp2_with fail
      refine HT2.out.mono ?_
      rintro r w7 ⟨rfl, v7, hW7, b7', lo7⟩
      have bb7 := bb6.trans b7'
      have hR : [197, pk, ps, pd, pq, (nx : Int)] ++ X ++ [(nd : Int)] ++ pdata = encR ⟨pk, ps, pd, pq, els pL, pdata⟩ := by
        unfold encR
        rw [HX.out, HNX.out, HND.out]
      have hRl := encR_len ⟨pk, ps, pd, pq, els pL, pdata⟩
      rw [HX.out, HNX.out] at hRl
      simp only at hRl
      rw [HND.out] at hRl
      have hRo := encR_ok HMAY.out HDO.out
      rw [hR] at hW7
      obtain ⟨R, hRR⟩ : ∃ R, encR ⟨pk, ps, pd, pq, els pL, pdata⟩ = R := ⟨_, rfl⟩
      rw [hRR] at hW7 hRl hRo
      have HRR := Lib.hid hRR
      obtain ⟨Z, B, hw1, hw2⟩ := hW7
      have hB := Bf.bytes_any g g _ _ Z B v7 w7 hw1 (by omega)
      have HZ := Lib.hid hw2
      have HRO := Lib.hid hRo
      obtain ⟨nr, hnr⟩ : ∃ n, R.length = n := ⟨_, rfl⟩
      rw [hnr] at hB hRl
      have HNR := Lib.hid hnr
      have HB := Lib.hid hB
      have hRle : nr ≤ 144 + nd := by omega
      have hgw : g ≤ w7.heap.size := by have := hw1.own.lt; omega
      clear hRl hB HT2 bb6 b7' lo7 hR hRR hw1 hw2 hRo hnr y5
      go_wp2_with fail
      refine HB.out.mono ?_
      rintro r w8 ⟨a8, c8, rfl, hc8, hd8, hR8, b8'⟩
      have bb8 := bb7.trans (b8'.mono hgw)
      have hR9 : Row w8 a8 nr (fun i => .int .u8 (fn R i)) := row_ext hR8 (fun i hi => by rw [HZ.out i (by rw [HNR.out]; exact hi)]; rfl)
      have hAp := Cr.append_any a8 nr c8 (fn R) w8 (by omega) hR9 (fn_byte HRO.out)
      have HAP := Lib.hid hAp
      have hgw8 : g ≤ w8.heap.size := Nat.le_trans hgw b8'.size
      clear hAp hR8 hR9 b8' HB bb7
      go_wp2_with fail
      with_reducible refine HAP.out.mono ?_
      rintro r w9 ⟨v9, rfl, hM9, b9'⟩
      have bb9 := bb8.trans (b9'.mono hgw8)
      have h9 := mine_app HNR.out hM9
      rw [← HRR.out] at h9
      have hbw : Below w.heap.size w w9 := b5.trans ((bW.trans bb9).mono (by omega))
      have hlow : w.heap.size ≤ w8.heap.size := by omega
      have H9 := Lib.hid (Ie.Mine.low h9 hlow)
      clear h9 hM9 b9' bb8
      go_wp2_with fail
      go_ret2
      unfold EncFPost
      rw [HMAY.out, if_pos rfl]
      exact ⟨v9, rfl, H9.out, hbw⟩
end Go.Proofs.Ytoconkgemakboaa.Fm
