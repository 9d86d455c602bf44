/-
  Package frame (chapter 7): Encode: a frame's bytes. Package frame (chapter 7): a reader's way through a frame's bytes, plain and by contract: texts of any length. Package frame (chapter 7): Decode: the frame that bytes are.
-/
import Derived.Test.YtiflmdekcjbmbaaGreatGNodeWaits22
import Derived.Test.YtiflmdekcjbmbaaGreatGNodeWaits18
set_option maxRecDepth 100000
namespace Go.Proofs.YtiflmdekcjbmbaaGreat.Fm
set_option linter.unusedVariables false
set_option linter.unusedSimpArgs false
open Go.RowKit Lb Bf Ie

theorem idx6 (x0 x1 x2 x3 x4 x5 : Int) (k : Nat) (h : k < 6) (w : World) : (Instr.index 181 (.agg #[.int .i64 x0, .int .i64 x1, .int .i64 x2, .int .i64 x3, .int .i64 x4, .int .i64 x5]) (.int .i64 (k : Int))).run Tryz.prog w = .ok (.int .i64 ([x0, x1, x2, x3, x4, x5].getD k 0)) w := by
  rcases (show k = 0 ∨ k = 1 ∨ k = 2 ∨ k = 3 ∨ k = 4 ∨ k = 5 by omega) with rfl | rfl | rfl | rfl | rfl | rfl
  · clear h; kernel_rfl
  · clear h; kernel_rfl
  · clear h; kernel_rfl
  · clear h; kernel_rfl
  · clear h; kernel_rfl
  · clear h; kernel_rfl
def EncFPost (f : Fr) (w : World) (r : Ending) (w' : World) : Prop :=
  if mayF f = true then ∃ v, r = .returned (.tuple #[v, .int .i64 0]) ∧ Mine w' w.heap.size 5 v (encF f).length (bval (encF f)) ∧ Below w.heap.size w w'
  else r = .returned (.tuple #[.slice none 0 0, .int .i64 1]) ∧ Below w.heap.size w w'
theorem mine_app {w : World} {base : Nat} {v : Value} {l : List Int} {n : Nat} (hn : l.length = n) (h : Mine w base 5 v (n + 2) (fun i => .int .u8 (Cr.app (fn l) n i))) : Mine w base 5 v (appL l).length (bval (appL l)) := by
  subst hn
  rw [appL_len]
  refine h.ext fun i hi => ?_
  unfold bval
  rw [← appL_fn l i hi]
  rfl
set_option maxHeartbeats 4000000 in
theorem encF_any (p : Fp) (w : World) (h : p.At w) (hm : ∀ k, k < p.L.length → (p.L.getD k ep0).e.list.length ≤ 1000000) :
    Calls Tryz.prog 65 #[.agg p.vals] w (EncFPost p.fr w) := by
  have o1 := Own.new w 37 p.vals
  have b0 := (Below.refl w.heap.size w).alloc (Nat.le_refl _) (.cells p.vals 37)
  have h1 := h.below b0
  have hM := mayF_any p _ h1 hm
  have HDO := Lib.hid h.ok
  clear h hm
  obtain ⟨pk, ps, pd, pq, pL, pa, pc, pdata, pb, pe⟩ := p
  have HF : Hid ((⟨pk, ps, pd, pq, pL, pa, pc, pdata, pb, pe⟩ : Fp).fr = ⟨pk, ps, pd, pq, els pL, pdata⟩) := Lib.hid rfl
  rw [HF.out] at hM ⊢
  unfold Fp.vals at *
  simp only at *
  obtain ⟨nd, hnd⟩ : ∃ n, pdata.length = n := ⟨_, rfl⟩
  have HND := Lib.hid hnd
  rw [hnd] at o1 b0 h1 hM ⊢
  obtain ⟨nl, hnl⟩ : ∃ n, pL.length = n := ⟨_, rfl⟩
  have HNL := Lib.hid hnl
  rw [hnl] at o1 b0 h1 hM ⊢
  have hsz : w.heap.size < (w.alloc (.cells #[.int .i64 pk, .int .i64 ps, .int .i64 pd, .int .i64 pq, .slice pa nl pc, .slice pb nd pe] 37)).heap.size := by simp
  go_enter Tryz.func65, Tryz.ntmps65
  go_upto_region 1 with (fail)
  generalize w.alloc (.cells #[.int .i64 pk, .int .i64 ps, .int .i64 pd, .int .i64 pq, .slice pa nl pc, .slice pb nd pe] 37) = w1 at *
  have x0 : w1.cell? ⟨w.heap.size, 0, none⟩ = some (.int .i64 pk) := o1.cell 0
  have x1 : w1.cell? ⟨w.heap.size, 1, none⟩ = some (.int .i64 ps) := o1.cell 1
  have x2 : w1.cell? ⟨w.heap.size, 2, none⟩ = some (.int .i64 pd) := o1.cell 2
  have x3 : w1.cell? ⟨w.heap.size, 3, none⟩ = some (.int .i64 pq) := o1.cell 3
  have x4 : w1.cell? ⟨w.heap.size, 4, none⟩ = some (.slice pa nl pc) := o1.cell 4
  have x5 : w1.cell? ⟨w.heap.size, 5, none⟩ = some (.slice pb nd pe) := o1.cell 5
  have HM := Lib.hid hM
  clear hnd hnl hM
  cases hmay : mayF ⟨pk, ps, pd, pq, els pL, pdata⟩
  · rw [hmay] at HM
    have HMAY := Lib.hid hmay
    clear hmay
    go_wp2_with fail
    refine HM.out.mono ?_
    rintro r w2 ⟨rfl, b2⟩
    go_wp2_with fail
    go_ret2
    unfold EncFPost
    rw [HMAY.out]
    exact ⟨rfl, b0.trans (b2.mono b0.size)⟩
  rw [hmay] at HM
  have HMAY := Lib.hid hmay
  obtain ⟨m1, m2, m3, m4, m5, m6⟩ := mayF_out hmay
  simp only at m1 m2 m3 m4 m5 m6
  rw [HND.out] at m3
  clear hmay
  go_wp2_with fail
  refine HM.out.mono ?_
  rintro r w2 ⟨rfl, b2⟩
  have o2 := below_own b2 o1 o1.lt
  have h2 := h1.below b2
  have b3 := b0.trans (b2.mono b0.size)
  clear x0 x1 x2 x3 x4 x5 o1 h1 b0 HM
  have x4 : w2.cell? ⟨w.heap.size, 4, none⟩ = some (.slice pa nl pc) := o2.cell 4
  have hE := encode_any pL pa pc w2 h2.els
  rw [HNL.out] at hE
  have HE := Lib.hid hE
  clear hE
  go_wp2_with fail
  refine HE.out.mono ?_
  intro r w3 hp
  unfold EncPost at hp
  rw [if_pos m4] at hp
  obtain ⟨a3, c3, rfl, l3, lm3, R3, b4⟩ := hp
  have o3 := below_own b4 o2 o2.lt
  have h3 := h2.below b4
  have b5 := b3.trans (b4.mono b3.size)
  obtain ⟨hX1, hX2⟩ := encI_ok m4
  obtain ⟨X, hX⟩ : ∃ X, Ie.encI (els pL) = X := ⟨_, rfl⟩
  rw [hX] at R3 l3 hX1 hX2 ⊢
  have HX := Lib.hid hX
  obtain ⟨nx, hnx⟩ : ∃ n, X.length = n := ⟨_, rfl⟩
  rw [hnx] at R3 l3 hX2 ⊢
  have HNX := Lib.hid hnx
  have HXO := Lib.hid hX1
  have ho := Own.new w3 180 #[.slice none 0 0, .int .i64 0]
  have bW := (Below.refl w3.heap.size w3).alloc (Nat.le_refl _) (.cells #[.slice none 0 0, .int .i64 0] 180)
  have hW : Wb (w3.alloc (.cells #[.slice none 0 0, .int .i64 0] 180)) w3.heap.size w3.heap.size [] (.slice none 0 0) :=
    ⟨fun _ => 0, fun _ => false, ⟨⟨ho, Mine.nil _ _ _ _, ⟨fun k hk => by simp at hk, fun k hk => by simp at hk⟩, Nat.le_refl _⟩, by simp, by simp⟩, fun k hk => by simp at hk⟩
  have hs3 : w.heap.size < w3.heap.size := o3.lt
  have hsW : w3.heap.size < (w3.alloc (.cells #[.slice none 0 0, .int .i64 0] 180)).heap.size := by simp
  have hR5 : Row w3 pb nd (bval pdata) := by have := h3.row; simp only at this; rwa [HND.out] at this
  clear hX hX1 hnx ho o2 h2 b3 b4 x4
  go_upto_region 7 with (fail)
  generalize w3.alloc (.cells #[.slice none 0 0, .int .i64 0] 180) = w4 at *
  obtain ⟨g, hg⟩ : ∃ g, w3.heap.size = g := ⟨_, rfl⟩
  have HG := Lib.hid hg
  rw [hg] at hW bW hs3 hsW ⊢
  clear hg
  have HOWN : Hid (∀ W, Below g w4 W → Lb.Own W w.heap.size 37 #[.int .i64 pk, .int .i64 ps, .int .i64 pd, .int .i64 pq, .slice pa nl pc, .slice pb nd pe] ∧ Row W a3 nx (bval X) ∧ Row W pb nd (bval pdata)) := Lib.hid (fun W hb => by
    have hb2 : Below w3.heap.size w3 W := by rw [HG.out]; exact bW.trans hb
    exact ⟨below_own hb2 o3 (by rw [HG.out]; exact hs3), R3.below hb2, hR5.below hb2⟩)
  have o4 := (HOWN.out w4 (Below.refl _ _)).1
  have x0 : w4.cell? ⟨w.heap.size, 0, none⟩ = some (.int .i64 pk) := o4.cell 0
  have x1 : w4.cell? ⟨w.heap.size, 1, none⟩ = some (.int .i64 ps) := o4.cell 1
  have x2 : w4.cell? ⟨w.heap.size, 2, none⟩ = some (.int .i64 pd) := o4.cell 2
  have x3 : w4.cell? ⟨w.heap.size, 3, none⟩ = some (.int .i64 pq) := o4.cell 3
  have hI := fun k hk (w : World) => idx6 197 pk ps pd pq (nx : Int) k hk w
  have HI := Lib.hid hI
  clear hI R3 hR5 o3 o4
  go_wp2_with fail
  go_loopw [32] (fun i wr => ∃ (k : Nat) (v : Value), i = .int .i64 k ∧ k ≤ 6 ∧ Wb wr g g ([197, pk, ps, pd, pq, (nx : Int)].take k) v ∧ Below g w4 wr) (fun i _ => 6 - (intOf i).toNat)
  case atStart => exact ⟨0, _, rfl, by omega, hW, Below.refl _ _⟩
  case round =>
    clear hW
    obtain ⟨k, v, rfl, hk, hW, bb⟩ := hrel
    by_cases hlt : k < 6
    · have hi := HI.out k hlt
      have hxb : 0 ≤ [197, pk, ps, pd, pq, (nx : Int)].getD k 0 ∧ [197, pk, ps, pd, pq, (nx : Int)].getD k 0 < 256 := by
        match k, hlt with
        | 0, _ => simp
        | 1, _ => simp; omega
        | 2, _ => simp; omega
        | 3, _ => simp; omega
        | 4, _ => simp; omega
        | 5, _ => simp; omega
      have hsn := tk_snoc (l := [197, pk, ps, pd, pq, (nx : Int)]) (k := k) (by simpa using hlt)
      have hll : ([197, pk, ps, pd, pq, (nx : Int)].take k).length ≤ 6 := by rw [List.length_take]; simp; omega
      obtain ⟨x, hx⟩ : ∃ x, [197, pk, ps, pd, pq, (nx : Int)].getD k 0 = x := ⟨_, rfl⟩
      rw [hx] at hi hxb hsn
      have HSN := Lib.hid hsn
      have HLL := Lib.hid hll
      have u1 : IntKind.u64.wrap x = x := u64_id (by omega)
      clear hx hsn hll
      go_wp2_with fail
      refine (put1_any g g _ v x wr hW hxb (by have := HLL.out; omega)).mono ?_
      rintro r x1 ⟨rfl, v1, hW1, b1, lo⟩
      rw [← HSN.out] at hW1
      have b2 := bb.trans b1
      clear hi u1 lo b1 hW bb
      go_wp2_with fail
      exact ⟨⟨k + 1, v1, by simp, by omega, hW1, b2⟩, by simp [intOf]; omega⟩
    · obtain rfl : k = 6 := by omega
      have htk : [197, pk, ps, pd, pq, (nx : Int)].take 6 = [197, pk, ps, pd, pq, (nx : Int)] := rfl
      rw [htk] at hW
      have q1 := (HOWN.out wr bb).2.1
      clear htk HI x0 x1 x2 x3
      have hQ1 : Row wr a3 X.length (fun i => .int .u8 (X.getD i 0)) := by rw [HNX.out]; exact q1
      have hT1 := textb_any g g [197, pk, ps, pd, pq, (nx : Int)] X v a3 c3 wr hW (by simp) (by rw [HNX.out]; omega) hQ1 HXO.out
      rw [HNX.out] at hT1
      have HT1 := Lib.hid hT1
      clear hT1 hQ1 q1 hW
      go_wp2_with fail
      refine HT1.out.mono ?_
      rintro r w5 ⟨rfl, v5, hW5, b5', lo5⟩
      have bb5 := bb.trans b5'
      have o5 := (HOWN.out w5 bb5).1
      have y5 : w5.cell? ⟨w.heap.size, 5, none⟩ = some (.slice pb nd pe) := o5.cell 5
      have u1 : IntKind.u64.wrap (nd : Int) = (nd : Int) := u64_id (by omega)
      have hl6 : ([197, pk, ps, pd, pq, (nx : Int)] ++ X).length = 6 + nx := by rw [List.length_append, HNX.out]; simp
      have HL6 := Lib.hid hl6
      clear HT1 bb b5' lo5 hl6
      go_wp2_with fail
      refine (put1_any g g _ v5 (nd : Int) w5 hW5 (by omega) (by rw [HL6.out]; omega)).mono ?_
      rintro r w6 ⟨rfl, v6, hW6, b6', lo6⟩
      have bb6 := bb5.trans b6'
      have o6 := (HOWN.out w6 bb6).1
      have y5 : w6.cell? ⟨w.heap.size, 5, none⟩ = some (.slice pb nd pe) := o6.cell 5
      have q2 := (HOWN.out w6 bb6).2.2
      have hQ2 : Row w6 pb pdata.length (fun i => .int .u8 (pdata.getD i 0)) := by rw [HND.out]; exact q2
      have hl7 : ([197, pk, ps, pd, pq, (nx : Int)] ++ X ++ [(nd : Int)]).length = 7 + nx := by rw [List.length_append, HL6.out]; simp; omega
      have hT2 := textb_any g g _ pdata v6 pb pe w6 hW6 (by rw [hl7]; omega) (by rw [HND.out]; omega) hQ2 HDO.out
      rw [HND.out] at hT2
      have HT2 := Lib.hid hT2
      clear hT2 hQ2 q2 hW6 bb5 b6' lo6 u1 hl7 hW5 o5 o6
      go_wp2_with fail
      refine HT2.out.mono ?_
      rintro r w7 ⟨rfl, v7, hW7, b7', lo7⟩
      have bb7 := bb6.trans b7'
      have hR : [197, pk, ps, pd, pq, (nx : Int)] ++ X ++ [(nd : Int)] ++ pdata = encR ⟨pk, ps, pd, pq, els pL, pdata⟩ := by
        unfold encR
        rw [HX.out, HNX.out, HND.out]
      have hRl := encR_len ⟨pk, ps, pd, pq, els pL, pdata⟩
      rw [HX.out, HNX.out] at hRl
      simp only at hRl
      rw [HND.out] at hRl
      have hRo := encR_ok HMAY.out HDO.out
      rw [hR] at hW7
      obtain ⟨R, hRR⟩ : ∃ R, encR ⟨pk, ps, pd, pq, els pL, pdata⟩ = R := ⟨_, rfl⟩
      rw [hRR] at hW7 hRl hRo
      have HRR := Lib.hid hRR
      obtain ⟨Z, B, hw1, hw2⟩ := hW7
      have hB := Bf.bytes_any g g _ _ Z B v7 w7 hw1 (by omega)
      have HZ := Lib.hid hw2
      have HRO := Lib.hid hRo
      obtain ⟨nr, hnr⟩ : ∃ n, R.length = n := ⟨_, rfl⟩
      rw [hnr] at hB hRl
      have HNR := Lib.hid hnr
      have HB := Lib.hid hB
      have hRle : nr ≤ 144 + nd := by omega
      have hgw : g ≤ w7.heap.size := by have := hw1.own.lt; omega
      clear hRl hB HT2 bb6 b7' lo7 hR hRR hw1 hw2 hRo hnr y5
      go_wp2_with fail
      refine HB.out.mono ?_
      rintro r w8 ⟨a8, c8, rfl, hc8, hd8, hR8, b8'⟩
      have bb8 := bb7.trans (b8'.mono hgw)
      have hR9 : Row w8 a8 nr (fun i => .int .u8 (fn R i)) := row_ext hR8 (fun i hi => by rw [HZ.out i (by rw [HNR.out]; exact hi)]; rfl)
      have hAp := Cr.append_any a8 nr c8 (fn R) w8 (by omega) hR9 (fn_byte HRO.out)
      have HAP := Lib.hid hAp
      have hgw8 : g ≤ w8.heap.size := Nat.le_trans hgw b8'.size
      clear hAp hR8 hR9 b8' HB bb7
      go_wp2_with fail
      with_reducible refine HAP.out.mono ?_
      rintro r w9 ⟨v9, rfl, hM9, b9'⟩
      have bb9 := bb8.trans (b9'.mono hgw8)
      have h9 := mine_app HNR.out hM9
      rw [← HRR.out] at h9
      have hbw : Below w.heap.size w w9 := b5.trans ((bW.trans bb9).mono (by omega))
      have hlow : w.heap.size ≤ w8.heap.size := by omega
      have H9 := Lib.hid (Ie.Mine.low h9 hlow)
      clear h9 hM9 b9' bb8
      go_wp2_with fail
      go_ret2
      unfold EncFPost
      rw [HMAY.out, if_pos rfl]
      exact ⟨v9, rfl, H9.out, hbw⟩
end Go.Proofs.YtiflmdekcjbmbaaGreat.Fm
set_option maxRecDepth 100000
namespace Go.Proofs.YtiflmdekcjbmbaaGreat.Fm
set_option linter.unusedVariables false
set_option linter.unusedSimpArgs false
open Go.RowKit Lb Bf Ie

/-- The text that is told. -/
def txt (l : List Int) (n : Nat) : List Int := if l.length < n then [] else l.take n
theorem lft_zero (l : List Int) : lft l 0 = l := by unfold lft; rw [if_neg (by omega), List.drop_zero]
theorem er_zero (l : List Int) (e : Int) : er l 0 e = e := by unfold er; rw [if_neg (by omega)]
theorem txt_zero (l : List Int) : txt l 0 = [] := by unfold txt; rw [if_neg (by omega), List.take_zero]
theorem txt_ok {l : List Int} {n : Nat} (h : okD' l) : okD' (txt l n) := by
  unfold txt
  split
  · exact okD_nil
  · exact okD_take' h
theorem lft_ok {l : List Int} {n : Nat} (h : okD' l) : okD' (lft l n) := by
  unfold lft
  split
  · exact okD_nil
  · exact okD_drop' h
theorem lft_len (l : List Int) (n : Nat) : (lft l n).length ≤ l.length := by
  unfold lft
  split
  · simp
  · rw [List.length_drop]; omega
theorem txt_len (l : List Int) (n : Nat) : (txt l n).length ≤ l.length := by
  unfold txt
  split
  · simp
  · rw [List.length_take]; omega
theorem get0_ok {l : List Int} (h : okD' l) : 0 ≤ l.getD 0 0 ∧ l.getD 0 0 < 256 := by
  cases l with
  | nil => exact ⟨by decide, by decide⟩
  | cons x m => exact h x (by simp)
/-- What is behind the elements' length. -/
def l1 (R : List Int) (n : Nat) : List Int := lft R n
def e1 (R : List Int) (n : Nat) : Int := er R n 0
def nd (R : List Int) (n : Nat) : Nat := ((l1 R n).getD 0 0).toNat
def l2 (R : List Int) (n : Nat) : List Int := lft (l1 R n) 1
def e2 (R : List Int) (n : Nat) : Int := er (l1 R n) 1 (e1 R n)
def l3 (R : List Int) (n : Nat) : List Int := lft (l2 R n) (nd R n)
def e3 (R : List Int) (n : Nat) : Int := er (l2 R n) (nd R n) (e2 R n)
def dat (R : List Int) (n : Nat) : List Int := txt (l2 R n) (nd R n)
theorem er_two {l : List Int} {n : Nat} : er l n 2 = 2 := by unfold er fst_; split <;> simp
theorem end_two (l : List Int) : endE l 2 = 2 := rfl
theorem parse {R : List Int} {n : Nat} (hd : okD' R) : (endE (l3 R n) (e3 R n) = 0 ∧ ∃ x R8, n ≤ R.length ∧ R.drop n = x :: R8 ∧ R8.length = x.toNat ∧ txt R n = R.take n ∧ dat R n = R8) ∨
    (endE (l3 R n) (e3 R n) ≠ 0 ∧ (R.length < n ∨ R.drop n = [] ∨ ∃ x R8, R.drop n = x :: R8 ∧ R8.length ≠ x.toNat)) := by
  by_cases h1 : R.length < n
  · right
    have a1 : e1 R n = 2 := by unfold e1 er fst_; rw [if_pos h1]; rfl
    have a3 : e3 R n = 2 := by unfold e3 e2; rw [a1, er_two, er_two]
    rw [a3]
    exact ⟨by rw [end_two]; decide, .inl h1⟩
  · have hl1 : l1 R n = R.drop n := by unfold l1 lft; rw [if_neg h1]
    have a1 : e1 R n = 0 := by unfold e1 er; rw [if_neg h1]
    cases hR : R.drop n with
    | nil =>
      right
      have a2 : e2 R n = 2 := by unfold e2; rw [hl1, hR, a1]; rfl
      have a3 : e3 R n = 2 := by unfold e3; rw [a2, er_two]
      rw [a3]
      exact ⟨by rw [end_two]; decide, .inr (.inl rfl)⟩
    | cons x R8 =>
      have hx : nd R n = x.toNat := by unfold nd; rw [hl1, hR]; rfl
      have hl2 : l2 R n = R8 := by unfold l2; rw [hl1, hR]; rfl
      have a2 : e2 R n = 0 := by unfold e2; rw [hl1, hR, a1]; rfl
      by_cases h8 : R8.length < x.toNat
      · right
        have a3 : e3 R n = 2 := by unfold e3 er fst_; rw [hl2, hx, a2, if_pos h8]; rfl
        rw [a3]
        exact ⟨by rw [end_two]; decide, .inr (.inr ⟨x, R8, rfl, by omega⟩)⟩
      · have a3 : e3 R n = 0 := by unfold e3 er; rw [hl2, hx, a2, if_neg h8]
        have hl3 : l3 R n = R8.drop x.toNat := by unfold l3 lft; rw [hl2, hx, if_neg h8]
        by_cases h9 : R8.length = x.toNat
        · left
          refine ⟨?_, x, R8, by omega, rfl, h9, ?_, ?_⟩
          · rw [a3, hl3, List.drop_of_length_le (by omega)]
            rfl
          · unfold txt; rw [if_neg h1]
          · unfold dat txt; rw [hl2, hx, if_neg h8, List.take_of_length_le (by omega)]
        · right
          refine ⟨?_, .inr (.inr ⟨x, R8, rfl, h9⟩)⟩
          rw [a3, hl3]
          unfold endE
          rw [if_pos rfl, if_neg (fun h => by have := congrArg List.length h; rw [List.length_drop] at this; simp at this; omega)]
          decide
theorem decR_no {m k s d q : Int} {n : Nat} {R : List Int} (h : R.length < n ∨ R.drop n = [] ∨ ∃ x R8, R.drop n = x :: R8 ∧ R8.length ≠ x.toNat) : decR (m :: k :: s :: d :: q :: (n : Int) :: R) = .error 3 := by
  unfold decR
  simp only
  rw [Int.toNat_natCast]
  by_cases h1 : R.length < n
  · rw [if_pos h1]
  · rw [if_neg h1]
    rcases h with h | h | ⟨x, R8, h, h8⟩
    · exact absurd h h1
    · rw [h]
    · rw [h]
      simp only
      rw [if_pos h8]
theorem decR_mark {m k s d q : Int} {n : Nat} {R : List Int} (hm : m ≠ 197) : decR (m :: k :: s :: d :: q :: (n : Int) :: R) = .error 3 := by
  unfold decR
  simp only
  rw [Int.toNat_natCast]
  split
  · rfl
  · split
    · rfl
    · split
      · rfl
      · first | rfl | rw [if_pos hm]
theorem decR_e {k s d q x e : Int} {n : Nat} {R R8 : List Int} (h1 : n ≤ R.length) (h2 : R.drop n = x :: R8) (h3 : R8.length = x.toNat) (h4 : decI (R.take n) = .error e) :
    decR (197 :: k :: s :: d :: q :: (n : Int) :: R) = .error e := by
  unfold decR
  simp only
  rw [Int.toNat_natCast, if_neg (by omega), h2]
  simp only
  rw [if_neg (by omega), if_neg (by simp), h4]
theorem decR_ok {k s d q x : Int} {n : Nat} {R R8 : List Int} {l : List El} (h1 : n ≤ R.length) (h2 : R.drop n = x :: R8) (h3 : R8.length = x.toNat) (h4 : decI (R.take n) = .ok l) (hm : mayF ⟨k, s, d, q, l, R8⟩ = true) :
    decR (197 :: k :: s :: d :: q :: (n : Int) :: R) = .ok ⟨k, s, d, q, l, R8⟩ := by
  unfold decR
  simp only
  rw [Int.toNat_natCast, if_neg (by omega), h2]
  simp only
  rw [if_neg (by omega), if_neg (by simp), h4]
  simp only
  rw [if_pos hm]
theorem decR_nm {k s d q x : Int} {n : Nat} {R R8 : List Int} {l : List El} (h1 : n ≤ R.length) (h2 : R.drop n = x :: R8) (h3 : R8.length = x.toNat) (h4 : decI (R.take n) = .ok l) (hm : mayF ⟨k, s, d, q, l, R8⟩ = false) :
    decR (197 :: k :: s :: d :: q :: (n : Int) :: R) = .error 3 := by
  unfold decR
  simp only
  rw [Int.toNat_natCast, if_neg (by omega), h2]
  simp only
  rw [if_neg (by omega), if_neg (by simp), h4]
  simp only
  rw [if_neg (by rw [hm]; simp)]
theorem texth_J (base H b : Nat) (l : List Int) (err : Int) (x : Nat) (w : World) (h : Rh w base H b l err) (hx : 0 < x) :
    Calls Tryz.prog 190 #[.pointer (some ⟨b, 0, none⟩), .int .i64 (x : Nat)] w fun r w' =>
      Rh w' base H b (lft l x) (er l x err) ∧ Just b w w' ∧ ((x ≤ l.length ∧ r = .returned (.slice (some ⟨w.heap.size, 0, none⟩) x x) ∧ Blk w' w.heap.size 5 x (fun i => .int .u8 (l.getD i 0))) ∨ (l.length < x ∧ r = .returned (.slice none 0 0))) := by
  obtain ⟨hb, j, n, Z, v, h1, hv, h2, h3, h4⟩ := h
  unfold lft er
  by_cases hl : l.length < x
  · rw [if_pos hl, if_pos hl]
    refine (textShortJ base b (8 * j) n Z err (x : Int) v w h1 (by omega) (by omega) (by rw [Int.toNat_natCast]; omega) h3).mono ?_
    rintro r w' ⟨rfl, h5, b5⟩
    exact ⟨rh_nil h5 hb, b5, .inr ⟨hl, rfl⟩⟩
  · rw [if_neg hl, if_neg hl]
    refine (textJ base b j n x Z err v w h1 hx (by omega) h3).mono ?_
    rintro r w' ⟨rfl, hB, h5, b5⟩
    refine ⟨Rh.skip (k := x) hb h5 hv h2 h3 h4 (by omega), b5, .inl ⟨by omega, rfl, hB.ext (fun i hi => by rw [h4 i (by omega)])⟩⟩
theorem textf_any (base H b : Nat) (l : List Int) (err : Int) (x : Nat) (w : World) (h : Rh w base H b l err) :
    Calls Tryz.prog 190 #[.pointer (some ⟨b, 0, none⟩), .int .i64 (x : Nat)] w fun r w' =>
      ∃ a c, r = .returned (.slice a (txt l x).length c) ∧ (txt l x).length ≤ c ∧ c ≤ maxLen ∧ Row w' a (txt l x).length (bval (txt l x)) ∧ (∀ q, a = some q → w.heap.size ≤ q.block ∧ q.block < w'.heap.size) ∧ Rh w' base H b (lft l x) (er l x err) ∧ Just b w w' := by
  by_cases h0 : x = 0
  · subst h0
    rw [txt_zero, lft_zero, er_zero]
    refine (text_neg b ((0 : Nat) : Int) w (by omega)).mono ?_
    rintro r w' ⟨rfl, rfl⟩
    exact ⟨none, 0, rfl, Nat.le_refl _, Nat.zero_le _, Row.nil _ _ _, (fun q e => by cases e), h, Just.refl _ _⟩
  · have hb : l.length ≤ 100000 := by
      obtain ⟨_, j, n, Z, v, _, _, h1, h2, _⟩ := h
      omega
    refine (texth_J base H b l err x w h (by omega)).mono ?_
    rintro r w' ⟨h1, h2, ⟨h3, rfl, h4⟩ | ⟨h3, rfl⟩⟩
    · have ht : txt l x = l.take x := by unfold txt; rw [if_neg (by omega)]
      have hl : (l.take x).length = x := by rw [List.length_take]; omega
      rw [ht]
      refine ⟨some ⟨w.heap.size, 0, none⟩, x, by rw [hl], by rw [hl]; exact Nat.le_refl _, by unfold maxLen; omega, ?_, (fun q e => by injection e with e; subst e; exact ⟨Nat.le_refl _, h4.lt⟩), h1, h2⟩
      rw [hl]
      exact Row.own h4 (fun i hi => by simp [hi, bval])
    · have ht : txt l x = [] := by unfold txt; rw [if_pos h3]
      rw [ht]
      exact ⟨none, 0, rfl, Nat.le_refl _, Nat.zero_le _, Row.nil _ _ _, (fun q e => by cases e), h1, h2⟩
theorem ftake_any (base H b : Nat) (l : List Int) (err : Int) (w : World) (h : Rh w base H b l err) (hd : okD' l) :
    Calls Tryz.prog 189 #[.pointer (some ⟨b, 0, none⟩)] w fun r w' => r = .returned (.int .i64 (l.getD 0 0)) ∧ Rh w' base H b (lft l 1) (er l 1 err) ∧ Just b w w' := by
  have hx := get0_ok hd
  have ht := take8h_any base H b l err w h
  obtain ⟨x, hxx⟩ : ∃ x, l.getD 0 0 = x := ⟨_, rfl⟩
  rw [hxx] at hx ht ⊢
  have HT := Lib.hid ht
  clear hxx ht
  go_enter Tryz.func189, Tryz.ntmps189
  go_wp2_with fail
  refine HT.out.mono ?_
  rintro r w2 ⟨rfl, h2, j2⟩
  go_wp2_with fail
  go_ret
  exact ⟨rfl, h2, j2⟩
theorem ftake_cons (base H b : Nat) (x : Int) (l : List Int) (w : World) (h : Rh w base H b (x :: l) 0) (hd : okD' (x :: l)) :
    Calls Tryz.prog 189 #[.pointer (some ⟨b, 0, none⟩)] w fun r w' => r = .returned (.int .i64 x) ∧ Rh w' base H b l 0 ∧ Just b w w' := by
  refine (ftake_any base H b (x :: l) 0 w h hd).mono ?_
  rintro r w' ⟨rfl, h1, h2⟩
  unfold lft er at h1
  rw [if_neg (by simp), if_neg (by simp)] at h1
  exact ⟨rfl, h1, h2⟩
theorem take8_cons (base H b : Nat) (x : Int) (l : List Int) (w : World) (h : Rh w base H b (x :: l) 0) :
    Calls Tryz.prog 188 #[.pointer (some ⟨b, 0, none⟩), .int .i64 8] w fun r w' => r = .returned (.int .u64 x) ∧ Rh w' base H b l 0 ∧ Just b w w' := by
  refine (take8h_any base H b (x :: l) 0 w h).mono ?_
  rintro r w' ⟨rfl, h1, h2⟩
  unfold lft er at h1
  rw [if_neg (by simp), if_neg (by simp)] at h1
  exact ⟨rfl, h1, h2⟩
end Go.Proofs.YtiflmdekcjbmbaaGreat.Fm
set_option maxRecDepth 100000
namespace Go.Proofs.YtiflmdekcjbmbaaGreat.Fm
set_option linter.unusedVariables false
set_option linter.unusedSimpArgs false
open Go.RowKit Lb Bf Ie

def zF : Fp := ⟨0, 0, 0, 0, [], none, 0, [], none, 0⟩
theorem zF_at (w : World) : zF.At w := ⟨⟨Nat.le_refl _, Nat.zero_le _, Row.nil _ _ _, fun k hk => by cases hk⟩, Nat.le_refl _, Nat.zero_le _, Row.nil _ _ _, okD_nil⟩
theorem builtF : Tryz.prog.built 37 [] = some #[.int .i64 0, .int .i64 0, .int .i64 0, .int .i64 0, .slice none 0 0, .slice none 0 0] := by kernel_rfl
theorem cells6 (a b c d : Int) (p q : Option Addr) {n m k l : Nat} : (#[.int .i64 a, .int .i64 b, .int .i64 c, .int .i64 d, .slice p n m, .slice q k l] : Array Value).all (·.oneCell') = true := by
  simp [Value.oneCell']
theorem seven_of {R : List Int} (h : 7 ≤ R.length) : ∃ m k s d q ne R6, R = m :: k :: s :: d :: q :: ne :: R6 := by
  match R, h with
  | m :: k :: s :: d :: q :: ne :: R6, _ => exact ⟨m, k, s, d, q, ne, R6, rfl⟩
theorem okD_tail {x : Int} {l : List Int} (h : okD' (x :: l)) : okD' l := fun y hy => h y (List.mem_cons_of_mem _ hy)
theorem decN_errs : ∀ (n : Nat) (L : List Int) {e : Int}, decN n L = .error e → e = 2 ∨ e = 3 := by
  intro n
  induction n with
  | zero => intro L e h; cases h
  | succ n ih =>
    intro L e h
    rw [decN] at h
    cases h1 : dec1 L with
    | error x =>
      rw [h1] at h
      simp only at h
      injection h with h
      subst h
      exact dec1_err h1
    | ok p =>
      obtain ⟨x, R⟩ := p
      rw [h1] at h
      simp only at h
      cases h2 : decN n R with
      | error y =>
        rw [h2] at h
        simp only at h
        injection h with h
        subst h
        exact ih R h2
      | ok p => obtain ⟨m, S⟩ := p; rw [h2] at h; cases h
theorem may_small {e : El} (h : mayE e = true) : e.list.length ≤ 1000000 := by
  obtain ⟨k, a, r, t, l⟩ := e
  rcases mayE_kind h with h1 | h1 | h1 | h1
  · have h1 : k = 1 := h1
    subst h1
    rw [may1] at h
    simp at h
    simp [h.2.2.2.2]
  · have h1 : k = 2 := h1
    subst h1
    rw [may2] at h
    simp at h
    simp [h.2.2.2.2]
  all_goals
    have h1 : k = _ := h1
    subst h1
    rw [may3 _ _ _ _ _ (by omega)] at h
    simp at h
    show l.length ≤ 1000000
    omega
theorem decI_errs {L : List Int} {e : Int} (h : decI L = .error e) : e = 2 ∨ e = 3 := by
  unfold decI at h
  match L, h with
  | [], h => injection h with h; exact .inl h.symm
  | n :: L1, h =>
    simp only at h
    split at h
    · injection h with h; exact .inr h.symm
    · cases h1 : decN n.toNat L1 with
      | error x =>
        rw [h1] at h
        simp only at h
        injection h with h
        subst h
        exact decN_errs _ _ h1
      | ok p =>
        obtain ⟨m, R⟩ := p
        rw [h1] at h
        simp only at h
        split at h
        · cases h
        · injection h with h; exact .inr h.symm
theorem els_small {L : List Int} {LL : List EP} (hd : okD' L) (h : decI L = .ok (els LL)) : ∀ j, j < LL.length → (LL.getD j ep0).e.list.length ≤ 1000000 := fun j hj => by
  have hm := (decI_back hd h).1
  unfold mayL at hm
  rw [Bool.and_eq_true, List.all_eq_true] at hm
  have h1 := hm.2 _ (List.getElem_mem (by rw [els_len]; exact hj : j < (els LL).length))
  rw [els_at hj rfl] at h1
  exact may_small h1
def DecFPost (L : List Int) (w : World) (r : Ending) (w' : World) : Prop :=
  match decF L with
  | .ok f => ∃ p : Fp, p.fr = f ∧ r = .returned (.tuple #[.agg p.vals, .int .i64 0]) ∧ p.At w' ∧ Below w.heap.size w w'
  | .error e => r = .returned (.tuple #[.agg zF.vals, .int .i64 e]) ∧ Below w.heap.size w w'
theorem Els.same {w w' : World} {L : List EP} {a : Option Addr} {c : Nat} (h : Els w L a c) (h1 : ∀ q, a = some q → w'.heap[q.block]? = w.heap[q.block]?) (h2 : ∀ k, k < L.length → ∀ q, (L.getD k ep0).a = some q → 0 < (L.getD k ep0).e.list.length → w'.heap[q.block]? = w.heap[q.block]?) : Els w' L a c :=
  ⟨h.lc, h.cm, Row.same h.row (fun p e _ => h1 p e), fun k hk => (h.els k hk).same (h2 k hk)⟩
/-- A frame all of whose rows lie from base on. -/
structure Fp.Low (base : Nat) (p : Fp) : Prop where
  la : ∀ q, p.a = some q → base ≤ q.block
  le : ∀ k, k < p.L.length → ∀ q, (p.L.getD k ep0).a = some q → 0 < (p.L.getD k ep0).e.list.length → base ≤ q.block
  lb : ∀ q, p.b = some q → base ≤ q.block
theorem Fp.At.apart {w w' : World} {base g : Nat} {p : Fp} (h : p.At w) (l : p.Low base) (hg : g < base) (j : Just g w w') : p.At w' :=
  ⟨⟨h.els.lc, h.els.cm, Row.just h.els.row j (fun q e => by have := l.la q e; omega), fun k hk => El.At.same (h.els.els k hk) (fun q e1 e2 => j.block _ ((h.els.els k hk).lt q e1 e2) (by have := l.le k hk q e1 e2; omega))⟩, h.dc, h.dm, Row.just h.row j (fun q e => by have := l.lb q e; omega), h.ok⟩
def DecFNew (L : List Int) (w : World) (r : Ending) (w' : World) : Prop :=
  match decF L with
  | .ok f => ∃ p : Fp, p.fr = f ∧ r = .returned (.tuple #[.agg p.vals, .int .i64 0]) ∧ p.At w' ∧ p.Low w.heap.size ∧ Below w.heap.size w w'
  | .error e => r = .returned (.tuple #[.agg zF.vals, .int .i64 e]) ∧ Below w.heap.size w w'
set_option maxHeartbeats 4000000 in
theorem decF_new (a : Option Addr) (c : Nat) (L : List Int) (w : World) (hlc : L.length ≤ c) (hcm : c ≤ maxLen) (h5 : L.length ≤ 100000) (hR : Row w a L.length (bval L)) (hd : okD' L) :
    Calls Tryz.prog 142 #[.slice a L.length c] w (DecFNew L w) := by
  have o0 := Own.new w 37 #[.int .i64 0, .int .i64 0, .int .i64 0, .int .i64 0, .slice none 0 0, .slice none 0 0]
  have b0 := (Below.refl w.heap.size w).alloc (Nat.le_refl _) (.cells #[.int .i64 0, .int .i64 0, .int .i64 0, .int .i64 0, .slice none 0 0, .slice none 0 0] 37)
  have hR1 := hR.below b0
  have hsz : w.heap.size < (w.alloc (.cells #[.int .i64 0, .int .i64 0, .int .i64 0, .int .i64 0, .slice none 0 0, .slice none 0 0] 37)).heap.size := by simp
  unfold maxLen at hcm
  have HDL := Lib.hid hd
  obtain ⟨len, hlen⟩ : ∃ len, L.length = len := ⟨_, rfl⟩
  rw [hlen] at hR1 hlc h5 ⊢
  have HLEN := Lib.hid hlen
  clear hR hlen hd
  go_enter Tryz.func142, Tryz.ntmps142
  go_upto_region 1 with (fail)
  generalize w.alloc (.cells #[.int .i64 0, .int .i64 0, .int .i64 0, .int .i64 0, .slice none 0 0, .slice none 0 0] 37) = w1 at *
  by_cases h9 : len < 9
  · have HD : Hid (decF L = .error 2) := Lib.hid (by unfold decF; rw [if_pos (by rw [HLEN.out]; exact h9)])
    have g1 : decide (len < 9) = true := by simpa using h9
    have g2 : decide ((len : Int) < 9) = true := by simp; omega
    clear h9
    go_wp2_with (first | (refine wpList_build_store #[.int .i64 0, .int .i64 0, .int .i64 0, .int .i64 0, .slice none 0 0, .slice none 0 0] rfl rfl rfl rfl builtF rfl rfl o0 (by kernel_rfl) rfl (cells6 _ _ _ _ _ _) ?_))
    refine bodyPost_ret (results_row_tmp rfl _ _ w.heap.size 37 _ (0, 0) _ rfl (o0.setRow _) Tryz.underlying37 rfl (by kernel_rfl)) rfl ?_
    unfold DecFNew
    rw [HD.out]
    exact ⟨rfl, (Just.setRow _ _ _).below b0 (Nat.le_refl _) b0.size⟩
  have g1 : decide (len < 9) = false := by simpa using h9
  have g2 : decide ((len : Int) < 9) = false := by simp; omega
  have hG := Cr.good_any a len c (fn L) w1 hlc (by unfold maxLen; omega) (row_ext hR1 (fun i _ => rfl)) (fn_byte HDL.out)
  have HG := Lib.hid hG
  clear hG
  have hgl : goodL L = Cr.goodb (fn L) len := by unfold goodL; rw [HLEN.out]
  cases hgood : Cr.goodb (fn L) len
  · rw [hgood] at HG
    have HD : Hid (decF L = .error 4) := Lib.hid (by unfold decF; rw [if_neg (by rw [HLEN.out]; exact h9), if_pos (by rw [hgl]; exact hgood)])
    clear h9 hgl hgood
    go_wp2_with fail
    refine HG.out.mono ?_
    rintro r w' ⟨rfl, rfl⟩
    go_wp2_with (first | (refine wpList_build_store #[.int .i64 0, .int .i64 0, .int .i64 0, .int .i64 0, .slice none 0 0, .slice none 0 0] rfl rfl rfl rfl builtF rfl rfl o0 (by kernel_rfl) rfl (cells6 _ _ _ _ _ _) ?_))
    refine bodyPost_ret (results_row_tmp rfl _ _ w.heap.size 37 _ (0, 0) _ rfl (o0.setRow _) Tryz.underlying37 rfl (by kernel_rfl)) rfl ?_
    unfold DecFNew
    rw [HD.out]
    exact ⟨rfl, (Just.setRow _ _ _).below b0 (Nat.le_refl _) b0.size⟩
  rw [hgood] at HG
  have HD : Hid (decF L = decR (L.take (L.length - 2))) := Lib.hid (by unfold decF; rw [if_neg (by rw [HLEN.out]; exact h9), if_neg (by rw [hgl, hgood]; simp)])
  rw [HLEN.out] at HD
  obtain ⟨n2, hn2⟩ : ∃ n2 : Nat, len - 2 = n2 := ⟨_, rfl⟩
  rw [hn2] at HD
  have hn2i : (len : Int) - 2 = (n2 : Int) := by omega
  have hn2c : n2 ≤ c := by omega
  have hRl : (L.take n2).length = n2 := by rw [List.length_take, HLEN.out]; omega
  have hRo : okD' (L.take n2) := okD_take' HDL.out
  have hRr : Row w1 a (L.take n2).length (bval (L.take n2)) := by
    rw [hRl]
    exact row_ext (hR1.cut (by omega)) (fun i hi => by unfold bval; rw [tk_get hi])
  obtain ⟨m, k, s, d, q, ne, R6, hR⟩ := seven_of (R := L.take n2) (by omega)
  have hN := newb_any a c (L.take n2) w1 (by omega) hRr hRo (row_none hRr)
  rw [hRl, hR] at hN
  rw [hR] at HD hRo
  have HN := Lib.hid hN
  have HRO := Lib.hid hRo
  have hR6l : R6.length ≤ 100000 := by rw [hR] at hRl; simp at hRl; omega
  have HR6L := Lib.hid hR6l
  clear hN hRr hRl hR hn2 hgl hgood h9 hRo hR6l hR1
  go_wp2_with fail
  refine HG.out.mono ?_
  rintro r w' ⟨rfl, rfl⟩
  go_wp2_with fail
  refine HN.out.mono ?_
  rintro r w2 ⟨b, rfl, hr2', b2, hb1, hb2⟩
  have hr2 := hr2'.hold
  obtain ⟨H, hH⟩ : ∃ H, w2.heap.size = H := ⟨_, rfl⟩
  rw [hH] at hr2
  have hHle : H ≤ w2.heap.size := by omega
  have hbH : b < H := hr2.lt
  clear hr2' hH
  have z2 := below_own b2 o0 o0.lt
  have b3 := b0.trans (b2.mono b0.size)
  have hzb : w.heap.size < b := by have := o0.lt; omega
  clear HG HN g1 g2 hn2i
  go_wp2_with fail
  refine (take8_cons _ H b m (k :: s :: d :: q :: ne :: R6) w2 hr2).mono ?_
  rintro r w3 ⟨rfl, hr3, j3⟩
  have ok3 := HRO.out m (by simp)
  have z3 := j3.own z2 (by omega)
  have b4 := j3.below b3 (by omega) b3.size
  have hs3 : H ≤ w3.heap.size := Nat.le_trans hHle j3.size
  have HO4 := Lib.hid (okD_tail HRO.out)
  have HO5 := Lib.hid (okD_tail HO4.out)
  have HO6 := Lib.hid (okD_tail HO5.out)
  have HO7 := Lib.hid (okD_tail HO6.out)
  have HO8 := Lib.hid (okD_tail HO7.out)
  have HO9 := Lib.hid (okD_tail HO8.out)
  have hk0 := HO4.out k (by simp)
  have hs0 := HO5.out s (by simp)
  have hd0 := HO6.out d (by simp)
  have hq0 := HO7.out q (by simp)
  have hne0 := HO8.out ne (by simp)
  obtain ⟨mk, hmk⟩ : ∃ e, (m == 197) = e := ⟨_, rfl⟩
  clear hr2 b2 j3 z2 b3 o0 b0 hb2
  go_wp2_with fail
  refine (ftake_cons _ H b k _ w3 hr3 HO4.out).mono ?_
  rintro r w4 ⟨rfl, hr4, j4⟩
  have z4 := j4.own z3 (by omega)
  have b5 := j4.below b4 (by omega) b4.size
  have hs4 := Nat.le_trans hs3 j4.size
  clear hr3 z3 b4 j4 hs3
  go_wp2_with fail
  refine (ftake_cons _ H b s _ w4 hr4 HO5.out).mono ?_
  rintro r w5 ⟨rfl, hr5, j5⟩
  have z5 := j5.own z4 (by omega)
  have b6 := j5.below b5 (by omega) b5.size
  have hs5 := Nat.le_trans hs4 j5.size
  clear hr4 z4 b5 j5 hs4
  go_wp2_with fail
  refine (ftake_cons _ H b d _ w5 hr5 HO6.out).mono ?_
  rintro r w6 ⟨rfl, hr6, j6⟩
  have z6 := j6.own z5 (by omega)
  have b7 := j6.below b6 (by omega) b6.size
  have hs6 := Nat.le_trans hs5 j6.size
  clear hr5 z5 b6 j6 hs5
  go_wp2_with fail
  refine (ftake_cons _ H b q _ w6 hr6 HO7.out).mono ?_
  rintro r w7 ⟨rfl, hr7, j7⟩
  have z7 := j7.own z6 (by omega)
  have b8 := j7.below b7 (by omega) b7.size
  have hs7 := Nat.le_trans hs6 j7.size
  have oF := Own.new w7 37 #[.int .i64 k, .int .i64 s, .int .i64 d, .int .i64 q, .slice none 0 0, .slice none 0 0]
  have bF := (Below.refl w7.heap.size w7).alloc (Nat.le_refl _) (.cells #[.int .i64 k, .int .i64 s, .int .i64 d, .int .i64 q, .slice none 0 0, .slice none 0 0] 37)
  have z8 := below_own bF z7 z7.lt
  have b9 := b8.alloc b8.size (.cells #[.int .i64 k, .int .i64 s, .int .i64 d, .int .i64 q, .slice none 0 0, .slice none 0 0] 37)
  have hr8 := hr7.kept (bF.mono (by omega))
  have hs8 : w7.heap.size < (w7.alloc (.cells #[.int .i64 k, .int .i64 s, .int .i64 d, .int .i64 q, .slice none 0 0, .slice none 0 0] 37)).heap.size := by simp
  clear hr6 z6 b7 j7 hs6 hr7 z7 b8
  go_upto_region 8 with (fail)
  generalize w7.alloc (.cells #[.int .i64 k, .int .i64 s, .int .i64 d, .int .i64 q, .slice none 0 0, .slice none 0 0] 37) = w8 at *
  obtain ⟨gf, hgf⟩ : ∃ g, w7.heap.size = g := ⟨_, rfl⟩
  rw [hgf] at oF hs7 hs8 ⊢
  clear hgf bF
  go_wp2_with fail
  refine (ftake_cons _ H b ne R6 w8 hr8 HO8.out).mono ?_
  rintro r w9 ⟨rfl, hr9, j9⟩
  have z9 := j9.own z8 (by omega)
  have b10 := j9.below b9 (by omega) b9.size
  have o9 := j9.own oF (by omega)
  have hs9 := Nat.lt_of_lt_of_le hs8 j9.size
  obtain ⟨nn, rfl⟩ : ∃ n : Nat, ne = (n : Int) := ⟨ne.toNat, by omega⟩
  clear hr8 z8 b9 j9 hs8 oF
  go_wp2_with fail
  refine (textf_any _ H b R6 0 nn w9 hr9).mono ?_
  rintro r w10 ⟨aE, cE, rfl, hE1, hE2, RE, loE, hr10, j10⟩
  have z10 := j10.own z9 (by omega)
  have b11 := j10.below b10 (by omega) b10.size
  have o10 := j10.own o9 (by omega)
  have hs10 := Nat.lt_of_lt_of_le hs9 j10.size
  have hEo : okD' (txt R6 nn) := txt_ok HO9.out
  have hEl : (txt R6 nn).length ≤ 100000 := Nat.le_trans (txt_len _ _) HR6L.out
  have hloE : ∀ q, aE = some q → gf < q.block ∧ q.block < w10.heap.size := fun q e => by have := loE q e; omega
  clear hr9 z9 b10 o9 loE
  go_wp2_with fail
  refine (ftake_any _ H b (l1 R6 nn) (e1 R6 nn) w10 hr10 (lft_ok HO9.out)).mono ?_
  rintro r w11 ⟨rfl, hr11, j11⟩
  have z11 := j11.own z10 (by omega)
  have b12 := j11.below b11 (by omega) b11.size
  have o11 := j11.own o10 (by omega)
  have hs11 := Nat.lt_of_lt_of_le hs10 j11.size
  have RE11 := Row.just RE j11 (fun p e => by have := hloE p e; omega)
  have hx0 := get0_ok (lft_ok (n := nn) HO9.out)
  have hnd : (l1 R6 nn).getD 0 0 = ((nd R6 nn : Nat) : Int) := by unfold nd l1; omega
  rw [hnd]
  clear hr10 z10 b11 o10 RE hx0 hnd j10
  go_wp2_with fail
  refine (textf_any _ H b (l2 R6 nn) (e2 R6 nn) (nd R6 nn) w11 hr11).mono ?_
  rintro r w12 ⟨aD, cD, rfl, hD1, hD2, RD, loD, hr12, j12⟩
  have z12 := j12.own z11 (by omega)
  have b13 := j12.below b12 (by omega) b12.size
  have o12 := j12.own o11 (by omega)
  have hs12 := Nat.lt_of_lt_of_le hs11 j12.size
  have RE12 := Row.just RE11 j12 (fun p e => by have := hloE p e; omega)
  have hDo : okD' (dat R6 nn) := txt_ok (lft_ok (lft_ok HO9.out))
  have hloD : ∀ q, aD = some q → gf < q.block ∧ q.block < w12.heap.size := fun q e => by have := loD q e; omega
  have hloE : ∀ q, aE = some q → gf < q.block ∧ q.block < w12.heap.size := fun q e => by have := hloE q e; have := j11.size; have := j12.size; omega
  clear hr11 z11 b12 o11 RE11 loD j11
  obtain ⟨D, hDD⟩ : ∃ D, dat R6 nn = D := ⟨_, rfl⟩
  have hDD' : txt (l2 R6 nn) (nd R6 nn) = D := hDD
  rw [hDD'] at hD1 RD ⊢
  rw [hDD] at hDo
  obtain ⟨E, hEE⟩ : ∃ E, txt R6 nn = E := ⟨_, rfl⟩
  rw [hEE] at hE1 RE12 hEo hEl ⊢
  have HDD := Lib.hid hDD
  have HEE := Lib.hid hEE
  clear hDD hDD' hEE
  -- the data goes into the frame
  have y5 : w12.cell? ⟨gf, 5, none⟩ = some (.slice none 0 0) := o12.cell 5
  have f5 := o12.free 5
  have oG : Lb.Own (w12.setCell ⟨gf, 5, none⟩ (.slice aD D.length cD)) gf 37 #[.int .i64 k, .int .i64 s, .int .i64 d, .int .i64 q, .slice none 0 0, .slice aD D.length cD] := o12.put 5 _
  have jG := Just.set gf w12 5 (.slice aD D.length cD)
  have zG := jG.own z12 (by omega)
  have bG := jG.below b13 (by omega) b13.size
  have REG := Row.just RE12 jG (fun p e => by have := hloE p e; omega)
  have RDG := Row.just RD jG (fun p e => by have := hloD p e; omega)
  have hsG : (w12.setCell ⟨gf, 5, none⟩ (.slice aD D.length cD)).heap.size = w12.heap.size := by simp [World.setCell]
  have hrG : Rh (w12.setCell ⟨gf, 5, none⟩ (.slice aD D.length cD)) w1.heap.size H b (l3 R6 nn) (e3 R6 nn) := hr12.kept (jG.below (Below.refl H w12) (by omega) (by omega))
  clear hr12 z12 o12 b13 RE12 RD jG
  go_upto_region 10 with (fail)
  generalize w12.setCell ⟨gf, 5, none⟩ (.slice aD D.length cD) = w13 at *
  clear y5 f5
  have hend := endb_any _ b (l3 R6 nn) (e3 R6 nn) w13 hrG.rb
  have hpar := parse (n := nn) HO9.out
  obtain ⟨ev, hev⟩ : ∃ x, endE (l3 R6 nn) (e3 R6 nn) = x := ⟨_, rfl⟩
  rw [hev] at hend hpar
  have HEND := Lib.hid hend
  have HPAR := Lib.hid hpar
  clear hend hpar hev hrG
  by_cases hm : ¬ m = 197
  · have HDX := Lib.hid (decR_mark (k := k) (s := s) (d := d) (q := q) (n := nn) (R := R6) hm)
    have hmf : mk = false := by rw [← hmk]; simpa using hm
    subst hmf
    clear hm hmk
    go_wp2_with (first | (refine wpList_build_store #[.int .i64 0, .int .i64 0, .int .i64 0, .int .i64 0, .slice none 0 0, .slice none 0 0] rfl rfl rfl rfl builtF rfl rfl zG (by kernel_rfl) rfl (cells6 _ _ _ _ _ _) ?_))
    refine bodyPost_ret (results_row_tmp rfl _ _ w.heap.size 37 _ (0, 0) _ rfl (zG.setRow _) Tryz.underlying37 rfl (by kernel_rfl)) rfl ?_
    unfold DecFNew
    rw [HD.out, HDX.out]
    exact ⟨rfl, (Just.setRow _ _ _).below bG (Nat.le_refl _) bG.size⟩
  have hm : m = 197 := by omega
  have hmt : mk = true := by rw [← hmk, hm]; rfl
  subst hm hmt
  clear hmk
  by_cases hev : ¬ ev = 0
  · have HDX := Lib.hid (decR_no (m := 197) (k := k) (s := s) (d := d) (q := q) (n := nn) (R := R6) (by
      rcases HPAR.out with h | h
      · exact absurd h.1 hev
      · exact h.2))
    have g3 : (ev != 0) = true := by simpa using hev
    clear hev
    go_wp2_with fail
    refine HEND.out.mono ?_
    rintro r w14 ⟨rfl, mm, rfl⟩
    have zH := zG.drewN mm
    have bH := below_drewN bG mm
    go_wp2_with (first | (refine wpList_build_store #[.int .i64 0, .int .i64 0, .int .i64 0, .int .i64 0, .slice none 0 0, .slice none 0 0] rfl rfl rfl rfl builtF rfl rfl zH (by kernel_rfl) rfl (cells6 _ _ _ _ _ _) ?_))
    refine bodyPost_ret (results_row_tmp rfl _ _ w.heap.size 37 _ (0, 0) _ rfl (zH.setRow _) Tryz.underlying37 rfl (by kernel_rfl)) rfl ?_
    unfold DecFNew
    rw [HD.out, HDX.out]
    exact ⟨rfl, (Just.setRow _ _ _).below bH (Nat.le_refl _) bH.size⟩
  have hev0 : ev = 0 := by omega
  subst hev0
  obtain ⟨x, R8, p1, p2, p3, p4, p5⟩ : ∃ x R8, nn ≤ R6.length ∧ R6.drop nn = x :: R8 ∧ R8.length = x.toNat ∧ txt R6 nn = R6.take nn ∧ dat R6 nn = R8 := by
    rcases HPAR.out with h | h
    · exact h.2
    · exact absurd rfl h.1
  rw [HEE.out] at p4
  rw [HDD.out] at p5
  subst p5
  have P2 := Lib.hid p2
  have P3 := Lib.hid p3
  have P4 := Lib.hid p4
  clear hev HPAR p2 p3 p4
  go_wp2_with fail
  refine HEND.out.mono ?_
  rintro r w14 ⟨rfl, mm, rfl⟩
  have zH := zG.drewN mm
  have bH := below_drewN bG mm
  have oH := oG.drewN mm
  have REH := REG.drewN mm
  have RDH := RDG.drewN mm
  have hsH : w12.heap.size ≤ (w13.drewN mm).heap.size := by show w12.heap.size ≤ w13.heap.size; omega
  clear zG bG oG REG RDG HEND
  generalize w13.drewN mm = w15 at *
  have hDC := decode_any aE cE E w15 hEl REH hEo
  have HDC := Lib.hid hDC
  obtain ⟨nE, hnE⟩ : ∃ n, E.length = n := ⟨_, rfl⟩
  rw [hnE] at HDC ⊢
  clear hDC hnE REH hEo hEl hE1 hsG
  go_wp2_with fail
  refine HDC.out.mono ?_
  intro r w16 hp
  unfold DecPost at hp
  cases hI : decI E with
  | error e =>
    rw [hI] at hp
    simp only at hp
    obtain ⟨rfl, b16⟩ := hp
    have he := decI_errs hI
    have HDX := Lib.hid (decR_e (k := k) (s := s) (d := d) (q := q) p1 P2.out P3.out (by rw [← P4.out]; exact hI))
    have oI := below_own b16 oH oH.lt
    have zI := below_own b16 zH zH.lt
    have bI := bH.trans (b16.mono bH.size)
    have y4 : w16.cell? ⟨gf, 4, none⟩ = some (.slice none 0 0) := oI.cell 4
    have f4 := oI.free 4
    have jJ := Just.set gf w16 4 (.slice none 0 0)
    have zJ := jJ.own zI (by omega)
    have bJ := jJ.below bI (by omega) bI.size
    have g3 : (e != 0) = true := by simp; omega
    clear hI he HDC oI zI bI
    go_upto_region 14 with (fail)
    generalize w16.setCell ⟨gf, 4, none⟩ (.slice none 0 0) = w17 at *
    go_wp2_with (first | (refine wpList_built #[.int .i64 0, .int .i64 0, .int .i64 0, .int .i64 0, .slice none 0 0, .slice none 0 0] rfl rfl builtF ?_) | (refine wpList_store_row rfl _ _ _ rfl w.heap.size #[.int .i64 0, .int .i64 0, .int .i64 0, .int .i64 0, .slice none 0 0, .slice none 0 0] rfl rfl 37 _ zJ (by kernel_rfl) rfl (cells6 _ _ _ _ _ _) ?_))
    refine bodyPost_ret (results_row_tmp rfl _ _ w.heap.size 37 _ (0, 0) _ rfl (zJ.setRow _) Tryz.underlying37 rfl (by kernel_rfl)) rfl ?_
    unfold DecFNew
    rw [HD.out, HDX.out]
    exact ⟨rfl, (Just.setRow _ _ _).below bJ (Nat.le_refl _) bJ.size⟩
  | ok l =>
    rw [hI] at hp
    simp only at hp
    obtain ⟨LL, aL, cL, hLL, rfl, hels, hLa, hLe, b16⟩ := hp
    have oI := below_own b16 oH oH.lt
    have zI := below_own b16 zH zH.lt
    have bI := bH.trans (b16.mono bH.size)
    have RDI := RDH.below b16
    have y4 : w16.cell? ⟨gf, 4, none⟩ = some (.slice none 0 0) := oI.cell 4
    have f4 := oI.free 4
    have hg15 := oH.lt
    have jJ := Just.set gf w16 4 (.slice aL LL.length cL)
    have zJ := jJ.own zI (by omega)
    have bJ := jJ.below bI (by omega) bI.size
    have oJ : Lb.Own (w16.setCell ⟨gf, 4, none⟩ (.slice aL LL.length cL)) gf 37 #[.int .i64 k, .int .i64 s, .int .i64 d, .int .i64 q, .slice aL LL.length cL, .slice aD D.length cD] := oI.put 4 _
    have RDJ := Row.just RDI jJ (fun p e => by have := hloD p e; omega)
    have helsJ : Els (w16.setCell ⟨gf, 4, none⟩ (.slice aL LL.length cL)) LL aL cL := ⟨hels.lc, hels.cm, Row.just hels.row jJ (fun q e => by have := hLa q e; omega), fun j hj => El.At.same (hels.els j hj) (fun q e1 e2 => jJ.block _ ((hels.els j hj).lt q e1 e2) (by have := hLe j hj q e1 e2; omega))⟩
    have hIT : decI (R6.take nn) = .ok l := by rw [← P4.out]; exact hI
    have hat : (⟨k, s, d, q, LL, aL, cL, D, aD, cD⟩ : Fp).At (w16.setCell ⟨gf, 4, none⟩ (.slice aL LL.length cL)) := ⟨helsJ, hD1, hD2, RDJ, hDo⟩
    have hfr : (⟨k, s, d, q, LL, aL, cL, D, aD, cD⟩ : Fp).fr = ⟨k, s, d, q, l, D⟩ := by rw [← hLL]; rfl
    have hll : ∀ j, j < LL.length → (LL.getD j ep0).e.list.length ≤ 1000000 := els_small (okD_take' HO9.out) (by rw [hLL]; exact hIT)
    have HIT := Lib.hid hIT
    have HLA := Lib.hid hLa
    have HLE := Lib.hid hLe
    clear hI hIT HDC oI zI bI RDI hels RDJ helsJ hLa hLe oH zH bH RDH
    go_upto_region 14 with (fail)
    generalize w16.setCell ⟨gf, 4, none⟩ (.slice aL LL.length cL) = w17 at *
    clear y4 f4
    have hM := mayF_any _ w17 hat hll
    rw [hfr] at hM
    unfold Fp.vals at hM
    simp only at hM
    have HM := Lib.hid hM
    obtain ⟨nD, hnD⟩ : ∃ n, D.length = n := ⟨_, rfl⟩
    obtain ⟨nL, hnL⟩ : ∃ n, LL.length = n := ⟨_, rfl⟩
    have HND := Lib.hid hnD
    have HNL := Lib.hid hnL
    rw [hnD, hnL] at HM oJ
    rw [hnL]
    have y0 : w17.cell? ⟨gf, 0, none⟩ = some (.int .i64 k) := oJ.cell 0
    have y1 : w17.cell? ⟨gf, 1, none⟩ = some (.int .i64 s) := oJ.cell 1
    have y2 : w17.cell? ⟨gf, 2, none⟩ = some (.int .i64 d) := oJ.cell 2
    have y3 : w17.cell? ⟨gf, 3, none⟩ = some (.int .i64 q) := oJ.cell 3
    have y4 : w17.cell? ⟨gf, 4, none⟩ = some (.slice aL nL cL) := oJ.cell 4
    have y5 : w17.cell? ⟨gf, 5, none⟩ = some (.slice aD nD cD) := oJ.cell 5
    have HFR := Lib.hid hfr
    have hs17 := zJ.lt
    clear hM hnD hnL jJ hfr
    cases hmay : mayF ⟨k, s, d, q, l, D⟩
    · rw [hmay] at HM
      have HDX := Lib.hid (decR_nm (k := k) (s := s) (d := d) (q := q) p1 P2.out P3.out HIT.out hmay)
      clear hmay
      go_wp2_with fail
      refine HM.out.mono ?_
      rintro r w18 ⟨rfl, b18⟩
      have zK := below_own b18 zJ zJ.lt
      have bK := bJ.trans (b18.mono bJ.size)
      go_wp2_with (first | (refine wpList_build_store #[.int .i64 0, .int .i64 0, .int .i64 0, .int .i64 0, .slice none 0 0, .slice none 0 0] rfl rfl rfl rfl builtF rfl rfl zK (by kernel_rfl) rfl (cells6 _ _ _ _ _ _) ?_))
      refine bodyPost_ret (results_row_tmp rfl _ _ w.heap.size 37 _ (0, 0) _ rfl (zK.setRow _) Tryz.underlying37 rfl (by kernel_rfl)) rfl ?_
      unfold DecFNew
      rw [HD.out, HDX.out]
      exact ⟨rfl, (Just.setRow _ _ _).below bK (Nat.le_refl _) bK.size⟩
    · rw [hmay] at HM
      have HDX := Lib.hid (decR_ok (k := k) (s := s) (d := d) (q := q) p1 P2.out P3.out HIT.out hmay)
      clear hmay
      go_wp2_with fail
      refine HM.out.mono ?_
      rintro r w18 ⟨rfl, b18⟩
      have zK := below_own b18 zJ zJ.lt
      have oK := below_own b18 oJ oJ.lt
      have bK := bJ.trans (b18.mono bJ.size)
      have hatK := hat.below b18
      go_wp2_with (first | (refine wpList_load_row rfl _ _ rfl gf rfl 37 #[.int .i64 k, .int .i64 s, .int .i64 d, .int .i64 q, .slice aL nL cL, .slice aD nD cD] (0, 0) _ oK Tryz.underlying37 rfl (by kernel_rfl) ?_) | (refine wpList_store_row rfl _ _ _ rfl w.heap.size #[.int .i64 k, .int .i64 s, .int .i64 d, .int .i64 q, .slice aL nL cL, .slice aD nD cD] rfl rfl 37 _ zK (by kernel_rfl) rfl (cells6 _ _ _ _ _ _) ?_))
      refine bodyPost_ret (results_row_tmp rfl _ _ w.heap.size 37 _ (0, 0) _ rfl (zK.setRow _) Tryz.underlying37 rfl (by kernel_rfl)) rfl ?_
      unfold DecFNew
      rw [HD.out, HDX.out]
      have jK := Just.setRow w.heap.size w18 #[.int .i64 k, .int .i64 s, .int .i64 d, .int .i64 q, .slice aL nL cL, .slice aD nD cD]
      refine ⟨⟨k, s, d, q, LL, aL, cL, D, aD, cD⟩, HFR.out, ?_, ?_, ⟨fun q e => by have := HLA.out q e; omega, fun j hj q e1 e2 => by have := HLE.out j hj q e1 e2; omega, fun q e => by have := hloD q e; omega⟩, jK.below bK (Nat.le_refl _) bK.size⟩
      · unfold Fp.vals
        simp only
        rw [HND.out, HNL.out]
        rfl
      · refine ⟨⟨hatK.els.lc, hatK.els.cm, Row.just hatK.els.row jK (fun q e => by have := HLA.out q e; omega), fun j hj => El.At.same (hatK.els.els j hj) (fun q e1 e2 => jK.block _ ((hatK.els.els j hj).lt q e1 e2) (by have := HLE.out j hj q e1 e2; omega))⟩, hatK.dc, hatK.dm, Row.just hatK.row jK (fun q e => by have := hloD q e; omega), hatK.ok⟩
theorem decF_any (a : Option Addr) (c : Nat) (L : List Int) (w : World) (hlc : L.length ≤ c) (hcm : c ≤ maxLen) (h5 : L.length ≤ 100000) (hR : Row w a L.length (bval L)) (hd : okD' L) :
    Calls Tryz.prog 142 #[.slice a L.length c] w (DecFPost L w) :=
  (decF_new a c L w hlc hcm h5 hR hd).mono (fun r w' hP => by
    unfold DecFNew at hP
    unfold DecFPost
    cases he : decF L with
    | error e =>
      rw [he] at hP
      exact hP
    | ok f =>
      rw [he] at hP
      obtain ⟨p, h1, h2, h3, _, h4⟩ := hP
      exact ⟨p, h1, h2, h3, h4⟩)
end Go.Proofs.YtiflmdekcjbmbaaGreat.Fm
