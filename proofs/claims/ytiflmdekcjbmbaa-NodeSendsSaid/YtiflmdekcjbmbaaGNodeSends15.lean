/-
  Package frame (chapter 7): Encode: a frame's bytes. Package frame (chapter 7): a reader's way through a frame's bytes, plain and by contract: texts of any length. Package frame (chapter 7): Decode: the frame that bytes are. Package frame (chapter 7): frames that come in; which are light; a frame that every program must know. Package frame: the reference: which frames may be.
-/
import Derived.Test.YtiflmdekcjbmbaaGNodeSends14
import Derived.Test.YtiflmdekcjbmbaaGNodeSends10
import Derived.Test.YtiflmdekcjbmbaaGNodeSends03
import Derived.Test.YtiflmdekcjbmbaaGNodeSends11
set_option maxRecDepth 100000
namespace Go.Proofs.Ytiflmdekcjbmbaa.Fm
set_option linter.unusedVariables false
set_option linter.unusedSimpArgs false
open Go.RowKit Lb Bf Ie

theorem idx6 (x0 x1 x2 x3 x4 x5 : Int) (k : Nat) (h : k < 6) (w : World) : (Instr.index 113 (.agg #[.int .i64 x0, .int .i64 x1, .int .i64 x2, .int .i64 x3, .int .i64 x4, .int .i64 x5]) (.int .i64 (k : Int))).run Try.prog w = .ok (.int .i64 ([x0, x1, x2, x3, x4, x5].getD k 0)) w := by
  rcases (show k = 0 ∨ k = 1 ∨ k = 2 ∨ k = 3 ∨ k = 4 ∨ k = 5 by omega) with rfl | rfl | rfl | rfl | rfl | rfl
  · clear h; kernel_rfl
  · clear h; kernel_rfl
  · clear h; kernel_rfl
  · clear h; kernel_rfl
  · clear h; kernel_rfl
  · clear h; kernel_rfl
def EncFPost (f : Fr) (w : World) (r : Ending) (w' : World) : Prop :=
  if mayF f = true then ∃ v, r = .returned (.tuple #[v, .int .i64 0]) ∧ Mine w' w.heap.size 5 v (encF f).length (bval (encF f)) ∧ Below w.heap.size w w'
  else r = .returned (.tuple #[.slice none 0 0, .int .i64 1]) ∧ Below w.heap.size w w'
theorem mine_app {w : World} {base : Nat} {v : Value} {l : List Int} {n : Nat} (hn : l.length = n) (h : Mine w base 5 v (n + 2) (fun i => .int .u8 (Cr.app (fn l) n i))) : Mine w base 5 v (appL l).length (bval (appL l)) := by
  subst hn
  rw [appL_len]
  refine h.ext fun i hi => ?_
  unfold bval
  rw [← appL_fn l i hi]
  rfl
set_option maxHeartbeats 4000000 in
theorem encF_any (p : Fp) (w : World) (h : p.At w) (hm : ∀ k, k < p.L.length → (p.L.getD k ep0).e.list.length ≤ 1000000) :
    Calls Try.prog 26 #[.agg p.vals] w (EncFPost p.fr w) := by
  have o1 := Own.new w 35 p.vals
  have b0 := (Below.refl w.heap.size w).alloc (Nat.le_refl _) (.cells p.vals 35)
  have h1 := h.below b0
  have hM := mayF_any p _ h1 hm
  have HDO := Lib.hid h.ok
  clear h hm
  obtain ⟨pk, ps, pd, pq, pL, pa, pc, pdata, pb, pe⟩ := p
  have HF : Hid ((⟨pk, ps, pd, pq, pL, pa, pc, pdata, pb, pe⟩ : Fp).fr = ⟨pk, ps, pd, pq, els pL, pdata⟩) := Lib.hid rfl
  rw [HF.out] at hM ⊢
  unfold Fp.vals at *
  simp only at *
  obtain ⟨nd, hnd⟩ : ∃ n, pdata.length = n := ⟨_, rfl⟩
  have HND := Lib.hid hnd
  rw [hnd] at o1 b0 h1 hM ⊢
  obtain ⟨nl, hnl⟩ : ∃ n, pL.length = n := ⟨_, rfl⟩
  have HNL := Lib.hid hnl
  rw [hnl] at o1 b0 h1 hM ⊢
  have hsz : w.heap.size < (w.alloc (.cells #[.int .i64 pk, .int .i64 ps, .int .i64 pd, .int .i64 pq, .slice pa nl pc, .slice pb nd pe] 35)).heap.size := by simp
  go_enter Try.func26, Try.ntmps26
  go_upto_region 1 with (fail)
  generalize w.alloc (.cells #[.int .i64 pk, .int .i64 ps, .int .i64 pd, .int .i64 pq, .slice pa nl pc, .slice pb nd pe] 35) = w1 at *
  have x0 : w1.cell? ⟨w.heap.size, 0, none⟩ = some (.int .i64 pk) := o1.cell 0
  have x1 : w1.cell? ⟨w.heap.size, 1, none⟩ = some (.int .i64 ps) := o1.cell 1
  have x2 : w1.cell? ⟨w.heap.size, 2, none⟩ = some (.int .i64 pd) := o1.cell 2
  have x3 : w1.cell? ⟨w.heap.size, 3, none⟩ = some (.int .i64 pq) := o1.cell 3
  have x4 : w1.cell? ⟨w.heap.size, 4, none⟩ = some (.slice pa nl pc) := o1.cell 4
  have x5 : w1.cell? ⟨w.heap.size, 5, none⟩ = some (.slice pb nd pe) := o1.cell 5
  have HM := Lib.hid hM
  clear hnd hnl hM
  cases hmay : mayF ⟨pk, ps, pd, pq, els pL, pdata⟩
  · rw [hmay] at HM
    have HMAY := Lib.hid hmay
    clear hmay
    go_wp2_with fail
    refine HM.out.mono ?_
    rintro r w2 ⟨rfl, b2⟩
    go_wp2_with fail
    go_ret2
    unfold EncFPost
    rw [HMAY.out]
    exact ⟨rfl, b0.trans (b2.mono b0.size)⟩
  rw [hmay] at HM
  have HMAY := Lib.hid hmay
  obtain ⟨m1, m2, m3, m4, m5, m6⟩ := mayF_out hmay
  simp only at m1 m2 m3 m4 m5 m6
  rw [HND.out] at m3
  clear hmay
  go_wp2_with fail
  refine HM.out.mono ?_
  rintro r w2 ⟨rfl, b2⟩
  have o2 := below_own b2 o1 o1.lt
  have h2 := h1.below b2
  have b3 := b0.trans (b2.mono b0.size)
  clear x0 x1 x2 x3 x4 x5 o1 h1 b0 HM
  have x4 : w2.cell? ⟨w.heap.size, 4, none⟩ = some (.slice pa nl pc) := o2.cell 4
  have hE := encode_any pL pa pc w2 h2.els
  rw [HNL.out] at hE
  have HE := Lib.hid hE
  clear hE
  go_wp2_with fail
  refine HE.out.mono ?_
  intro r w3 hp
  unfold EncPost at hp
  rw [if_pos m4] at hp
  obtain ⟨a3, c3, rfl, l3, lm3, R3, b4⟩ := hp
  have o3 := below_own b4 o2 o2.lt
  have h3 := h2.below b4
  have b5 := b3.trans (b4.mono b3.size)
  obtain ⟨hX1, hX2⟩ := encI_ok m4
  obtain ⟨X, hX⟩ : ∃ X, Ie.encI (els pL) = X := ⟨_, rfl⟩
  rw [hX] at R3 l3 hX1 hX2 ⊢
  have HX := Lib.hid hX
  obtain ⟨nx, hnx⟩ : ∃ n, X.length = n := ⟨_, rfl⟩
  rw [hnx] at R3 l3 hX2 ⊢
  have HNX := Lib.hid hnx
  have HXO := Lib.hid hX1
  have ho := Own.new w3 112 #[.slice none 0 0, .int .i64 0]
  have bW := (Below.refl w3.heap.size w3).alloc (Nat.le_refl _) (.cells #[.slice none 0 0, .int .i64 0] 112)
  have hW : Wb (w3.alloc (.cells #[.slice none 0 0, .int .i64 0] 112)) w3.heap.size w3.heap.size [] (.slice none 0 0) :=
    ⟨fun _ => 0, fun _ => false, ⟨⟨ho, Mine.nil _ _ _ _, ⟨fun k hk => by simp at hk, fun k hk => by simp at hk⟩, Nat.le_refl _⟩, by simp, by simp⟩, fun k hk => by simp at hk⟩
  have hs3 : w.heap.size < w3.heap.size := o3.lt
  have hsW : w3.heap.size < (w3.alloc (.cells #[.slice none 0 0, .int .i64 0] 112)).heap.size := by simp
  have hR5 : Row w3 pb nd (bval pdata) := by have := h3.row; simp only at this; rwa [HND.out] at this
  clear hX hX1 hnx ho o2 h2 b3 b4 x4
  go_upto_region 7 with (fail)
  generalize w3.alloc (.cells #[.slice none 0 0, .int .i64 0] 112) = w4 at *
  obtain ⟨g, hg⟩ : ∃ g, w3.heap.size = g := ⟨_, rfl⟩
  have HG := Lib.hid hg
  rw [hg] at hW bW hs3 hsW ⊢
  clear hg
  have HOWN : Hid (∀ W, Below g w4 W → Lb.Own W w.heap.size 35 #[.int .i64 pk, .int .i64 ps, .int .i64 pd, .int .i64 pq, .slice pa nl pc, .slice pb nd pe] ∧ Row W a3 nx (bval X) ∧ Row W pb nd (bval pdata)) := Lib.hid (fun W hb => by
    have hb2 : Below w3.heap.size w3 W := by rw [HG.out]; exact bW.trans hb
    exact ⟨below_own hb2 o3 (by rw [HG.out]; exact hs3), R3.below hb2, hR5.below hb2⟩)
  have o4 := (HOWN.out w4 (Below.refl _ _)).1
  have x0 : w4.cell? ⟨w.heap.size, 0, none⟩ = some (.int .i64 pk) := o4.cell 0
  have x1 : w4.cell? ⟨w.heap.size, 1, none⟩ = some (.int .i64 ps) := o4.cell 1
  have x2 : w4.cell? ⟨w.heap.size, 2, none⟩ = some (.int .i64 pd) := o4.cell 2
  have x3 : w4.cell? ⟨w.heap.size, 3, none⟩ = some (.int .i64 pq) := o4.cell 3
  have hI := fun k hk (w : World) => idx6 197 pk ps pd pq (nx : Int) k hk w
  have HI := Lib.hid hI
  clear hI R3 hR5 o3 o4
  go_wp2_with fail
  go_loopw [32] (fun i wr => ∃ (k : Nat) (v : Value), i = .int .i64 k ∧ k ≤ 6 ∧ Wb wr g g ([197, pk, ps, pd, pq, (nx : Int)].take k) v ∧ Below g w4 wr) (fun i _ => 6 - (intOf i).toNat)
  case atStart => exact ⟨0, _, rfl, by omega, hW, Below.refl _ _⟩
  case round =>
    clear hW
    obtain ⟨k, v, rfl, hk, hW, bb⟩ := hrel
    by_cases hlt : k < 6
    · have hi := HI.out k hlt
      have hxb : 0 ≤ [197, pk, ps, pd, pq, (nx : Int)].getD k 0 ∧ [197, pk, ps, pd, pq, (nx : Int)].getD k 0 < 256 := by
        match k, hlt with
        | 0, _ => simp
        | 1, _ => simp; omega
        | 2, _ => simp; omega
        | 3, _ => simp; omega
        | 4, _ => simp; omega
        | 5, _ => simp; omega
      have hsn := tk_snoc (l := [197, pk, ps, pd, pq, (nx : Int)]) (k := k) (by simpa using hlt)
      have hll : ([197, pk, ps, pd, pq, (nx : Int)].take k).length ≤ 6 := by rw [List.length_take]; simp; omega
      obtain ⟨x, hx⟩ : ∃ x, [197, pk, ps, pd, pq, (nx : Int)].getD k 0 = x := ⟨_, rfl⟩
      rw [hx] at hi hxb hsn
      have HSN := Lib.hid hsn
      have HLL := Lib.hid hll
      have u1 : IntKind.u64.wrap x = x := u64_id (by omega)
      clear hx hsn hll
      go_wp2_with fail
      refine (put1_any g g _ v x wr hW hxb (by have := HLL.out; omega)).mono ?_
      rintro r x1 ⟨rfl, v1, hW1, b1, lo⟩
      rw [← HSN.out] at hW1
      have b2 := bb.trans b1
      clear hi u1 lo b1 hW bb
      go_wp2_with fail
      exact ⟨⟨k + 1, v1, by simp, by omega, hW1, b2⟩, by simp [intOf]; omega⟩
    · obtain rfl : k = 6 := by omega
      have htk : [197, pk, ps, pd, pq, (nx : Int)].take 6 = [197, pk, ps, pd, pq, (nx : Int)] := rfl
      rw [htk] at hW
      have q1 := (HOWN.out wr bb).2.1
      clear htk HI x0 x1 x2 x3
      have hQ1 : Row wr a3 X.length (fun i => .int .u8 (X.getD i 0)) := by rw [HNX.out]; exact q1
      have hT1 := textb_any g g [197, pk, ps, pd, pq, (nx : Int)] X v a3 c3 wr hW (by simp) (by rw [HNX.out]; omega) hQ1 HXO.out
      rw [HNX.out] at hT1
      have HT1 := Lib.hid hT1
      clear hT1 hQ1 q1 hW
      go_wp2_with fail
      refine HT1.out.mono ?_
      rintro r w5 ⟨rfl, v5, hW5, b5', lo5⟩
      have bb5 := bb.trans b5'
      have o5 := (HOWN.out w5 bb5).1
      have y5 : w5.cell? ⟨w.heap.size, 5, none⟩ = some (.slice pb nd pe) := o5.cell 5
      have u1 : IntKind.u64.wrap (nd : Int) = (nd : Int) := u64_id (by omega)
      have hl6 : ([197, pk, ps, pd, pq, (nx : Int)] ++ X).length = 6 + nx := by rw [List.length_append, HNX.out]; simp
      have HL6 := Lib.hid hl6
      clear HT1 bb b5' lo5 hl6
      go_wp2_with fail
      refine (put1_any g g _ v5 (nd : Int) w5 hW5 (by omega) (by rw [HL6.out]; omega)).mono ?_
      rintro r w6 ⟨rfl, v6, hW6, b6', lo6⟩
      have bb6 := bb5.trans b6'
      have o6 := (HOWN.out w6 bb6).1
      have y5 : w6.cell? ⟨w.heap.size, 5, none⟩ = some (.slice pb nd pe) := o6.cell 5
      have q2 := (HOWN.out w6 bb6).2.2
      have hQ2 : Row w6 pb pdata.length (fun i => .int .u8 (pdata.getD i 0)) := by rw [HND.out]; exact q2
      have hl7 : ([197, pk, ps, pd, pq, (nx : Int)] ++ X ++ [(nd : Int)]).length = 7 + nx := by rw [List.length_append, HL6.out]; simp; omega
      have hT2 := textb_any g g _ pdata v6 pb pe w6 hW6 (by rw [hl7]; omega) (by rw [HND.out]; omega) hQ2 HDO.out
      rw [HND.out] at hT2
      have HT2 := Lib.hid hT2
      clear hT2 hQ2 q2 hW6 bb5 b6' lo6 u1 hl7 hW5 o5 o6
      go_wp2_with fail
      refine HT2.out.mono ?_
      rintro r w7 ⟨rfl, v7, hW7, b7', lo7⟩
      have bb7 := bb6.trans b7'
      have hR : [197, pk, ps, pd, pq, (nx : Int)] ++ X ++ [(nd : Int)] ++ pdata = encR ⟨pk, ps, pd, pq, els pL, pdata⟩ := by
        unfold encR
        rw [HX.out, HNX.out, HND.out]
      have hRl := encR_len ⟨pk, ps, pd, pq, els pL, pdata⟩
      rw [HX.out, HNX.out] at hRl
      simp only at hRl
      rw [HND.out] at hRl
      have hRo := encR_ok HMAY.out HDO.out
      rw [hR] at hW7
      obtain ⟨R, hRR⟩ : ∃ R, encR ⟨pk, ps, pd, pq, els pL, pdata⟩ = R := ⟨_, rfl⟩
      rw [hRR] at hW7 hRl hRo
      have HRR := Lib.hid hRR
      obtain ⟨Z, B, hw1, hw2⟩ := hW7
      have hB := Bf.bytes_any g g _ _ Z B v7 w7 hw1 (by omega)
      have HZ := Lib.hid hw2
      have HRO := Lib.hid hRo
      obtain ⟨nr, hnr⟩ : ∃ n, R.length = n := ⟨_, rfl⟩
      rw [hnr] at hB hRl
      have HNR := Lib.hid hnr
      have HB := Lib.hid hB
      have hRle : nr ≤ 144 + nd := by omega
      have hgw : g ≤ w7.heap.size := by have := hw1.own.lt; omega
      clear hRl hB HT2 bb6 b7' lo7 hR hRR hw1 hw2 hRo hnr y5
      go_wp2_with fail
      refine HB.out.mono ?_
      rintro r w8 ⟨a8, c8, rfl, hc8, hd8, hR8, b8'⟩
      have bb8 := bb7.trans (b8'.mono hgw)
      have hR9 : Row w8 a8 nr (fun i => .int .u8 (fn R i)) := row_ext hR8 (fun i hi => by rw [HZ.out i (by rw [HNR.out]; exact hi)]; rfl)
      have hAp := Cr.append_any a8 nr c8 (fn R) w8 (by omega) hR9 (fn_byte HRO.out)
      have HAP := Lib.hid hAp
      have hgw8 : g ≤ w8.heap.size := Nat.le_trans hgw b8'.size
      clear hAp hR8 hR9 b8' HB bb7
      go_wp2_with fail
      with_reducible refine HAP.out.mono ?_
      rintro r w9 ⟨v9, rfl, hM9, b9'⟩
      have bb9 := bb8.trans (b9'.mono hgw8)
      have h9 := mine_app HNR.out hM9
      rw [← HRR.out] at h9
      have hbw : Below w.heap.size w w9 := b5.trans ((bW.trans bb9).mono (by omega))
      have hlow : w.heap.size ≤ w8.heap.size := by omega
      have H9 := Lib.hid (Ie.Mine.low h9 hlow)
      clear h9 hM9 b9' bb8
      go_wp2_with fail
      go_ret2
      unfold EncFPost
      rw [HMAY.out, if_pos rfl]
      exact ⟨v9, rfl, H9.out, hbw⟩
end Go.Proofs.Ytiflmdekcjbmbaa.Fm
set_option maxRecDepth 100000
namespace Go.Proofs.Ytiflmdekcjbmbaa.Fm
set_option linter.unusedVariables false
set_option linter.unusedSimpArgs false
open Go.RowKit Lb Bf Ie

/-- The text that is told. -/
def txt (l : List Int) (n : Nat) : List Int := if l.length < n then [] else l.take n
theorem lft_zero (l : List Int) : lft l 0 = l := by unfold lft; rw [if_neg (by omega), List.drop_zero]
theorem er_zero (l : List Int) (e : Int) : er l 0 e = e := by unfold er; rw [if_neg (by omega)]
theorem txt_zero (l : List Int) : txt l 0 = [] := by unfold txt; rw [if_neg (by omega), List.take_zero]
theorem txt_ok {l : List Int} {n : Nat} (h : okD' l) : okD' (txt l n) := by
  unfold txt
  split
  · exact okD_nil
  · exact okD_take' h
theorem lft_ok {l : List Int} {n : Nat} (h : okD' l) : okD' (lft l n) := by
  unfold lft
  split
  · exact okD_nil
  · exact okD_drop' h
theorem lft_len (l : List Int) (n : Nat) : (lft l n).length ≤ l.length := by
  unfold lft
  split
  · simp
  · rw [List.length_drop]; omega
theorem txt_len (l : List Int) (n : Nat) : (txt l n).length ≤ l.length := by
  unfold txt
  split
  · simp
  · rw [List.length_take]; omega
theorem get0_ok {l : List Int} (h : okD' l) : 0 ≤ l.getD 0 0 ∧ l.getD 0 0 < 256 := by
  cases l with
  | nil => exact ⟨by decide, by decide⟩
  | cons x m => exact h x (by simp)
/-- What is behind the elements' length. -/
def l1 (R : List Int) (n : Nat) : List Int := lft R n
def e1 (R : List Int) (n : Nat) : Int := er R n 0
def nd (R : List Int) (n : Nat) : Nat := ((l1 R n).getD 0 0).toNat
def l2 (R : List Int) (n : Nat) : List Int := lft (l1 R n) 1
def e2 (R : List Int) (n : Nat) : Int := er (l1 R n) 1 (e1 R n)
def l3 (R : List Int) (n : Nat) : List Int := lft (l2 R n) (nd R n)
def e3 (R : List Int) (n : Nat) : Int := er (l2 R n) (nd R n) (e2 R n)
def dat (R : List Int) (n : Nat) : List Int := txt (l2 R n) (nd R n)
theorem er_two {l : List Int} {n : Nat} : er l n 2 = 2 := by unfold er fst_; split <;> simp
theorem end_two (l : List Int) : endE l 2 = 2 := rfl
theorem parse {R : List Int} {n : Nat} (hd : okD' R) : (endE (l3 R n) (e3 R n) = 0 ∧ ∃ x R8, n ≤ R.length ∧ R.drop n = x :: R8 ∧ R8.length = x.toNat ∧ txt R n = R.take n ∧ dat R n = R8) ∨
    (endE (l3 R n) (e3 R n) ≠ 0 ∧ (R.length < n ∨ R.drop n = [] ∨ ∃ x R8, R.drop n = x :: R8 ∧ R8.length ≠ x.toNat)) := by
  by_cases h1 : R.length < n
  · right
    have a1 : e1 R n = 2 := by unfold e1 er fst_; rw [if_pos h1]; rfl
    have a3 : e3 R n = 2 := by unfold e3 e2; rw [a1, er_two, er_two]
    rw [a3]
    exact ⟨by rw [end_two]; decide, .inl h1⟩
  · have hl1 : l1 R n = R.drop n := by unfold l1 lft; rw [if_neg h1]
    have a1 : e1 R n = 0 := by unfold e1 er; rw [if_neg h1]
    cases hR : R.drop n with
    | nil =>
      right
      have a2 : e2 R n = 2 := by unfold e2; rw [hl1, hR, a1]; rfl
      have a3 : e3 R n = 2 := by unfold e3; rw [a2, er_two]
      rw [a3]
      exact ⟨by rw [end_two]; decide, .inr (.inl rfl)⟩
    | cons x R8 =>
      have hx : nd R n = x.toNat := by unfold nd; rw [hl1, hR]; rfl
      have hl2 : l2 R n = R8 := by unfold l2; rw [hl1, hR]; rfl
      have a2 : e2 R n = 0 := by unfold e2; rw [hl1, hR, a1]; rfl
      by_cases h8 : R8.length < x.toNat
      · right
        have a3 : e3 R n = 2 := by unfold e3 er fst_; rw [hl2, hx, a2, if_pos h8]; rfl
        rw [a3]
        exact ⟨by rw [end_two]; decide, .inr (.inr ⟨x, R8, rfl, by omega⟩)⟩
      · have a3 : e3 R n = 0 := by unfold e3 er; rw [hl2, hx, a2, if_neg h8]
        have hl3 : l3 R n = R8.drop x.toNat := by unfold l3 lft; rw [hl2, hx, if_neg h8]
        by_cases h9 : R8.length = x.toNat
        · left
          refine ⟨?_, x, R8, by omega, rfl, h9, ?_, ?_⟩
          · rw [a3, hl3, List.drop_of_length_le (by omega)]
            rfl
          · unfold txt; rw [if_neg h1]
          · unfold dat txt; rw [hl2, hx, if_neg h8, List.take_of_length_le (by omega)]
        · right
          refine ⟨?_, .inr (.inr ⟨x, R8, rfl, h9⟩)⟩
          rw [a3, hl3]
          unfold endE
          rw [if_pos rfl, if_neg (fun h => by have := congrArg List.length h; rw [List.length_drop] at this; simp at this; omega)]
          decide
theorem decR_no {m k s d q : Int} {n : Nat} {R : List Int} (h : R.length < n ∨ R.drop n = [] ∨ ∃ x R8, R.drop n = x :: R8 ∧ R8.length ≠ x.toNat) : decR (m :: k :: s :: d :: q :: (n : Int) :: R) = .error 3 := by
  unfold decR
  simp only
  rw [Int.toNat_natCast]
  by_cases h1 : R.length < n
  · rw [if_pos h1]
  · rw [if_neg h1]
    rcases h with h | h | ⟨x, R8, h, h8⟩
    · exact absurd h h1
    · rw [h]
    · rw [h]
      simp only
      rw [if_pos h8]
theorem decR_mark {m k s d q : Int} {n : Nat} {R : List Int} (hm : m ≠ 197) : decR (m :: k :: s :: d :: q :: (n : Int) :: R) = .error 3 := by
  unfold decR
  simp only
  rw [Int.toNat_natCast]
  split
  · rfl
  · split
    · rfl
    · split
      · rfl
      · first | rfl | rw [if_pos hm]
theorem decR_e {k s d q x e : Int} {n : Nat} {R R8 : List Int} (h1 : n ≤ R.length) (h2 : R.drop n = x :: R8) (h3 : R8.length = x.toNat) (h4 : decI (R.take n) = .error e) :
    decR (197 :: k :: s :: d :: q :: (n : Int) :: R) = .error e := by
  unfold decR
  simp only
  rw [Int.toNat_natCast, if_neg (by omega), h2]
  simp only
  rw [if_neg (by omega), if_neg (by simp), h4]
theorem decR_ok {k s d q x : Int} {n : Nat} {R R8 : List Int} {l : List El} (h1 : n ≤ R.length) (h2 : R.drop n = x :: R8) (h3 : R8.length = x.toNat) (h4 : decI (R.take n) = .ok l) (hm : mayF ⟨k, s, d, q, l, R8⟩ = true) :
    decR (197 :: k :: s :: d :: q :: (n : Int) :: R) = .ok ⟨k, s, d, q, l, R8⟩ := by
  unfold decR
  simp only
  rw [Int.toNat_natCast, if_neg (by omega), h2]
  simp only
  rw [if_neg (by omega), if_neg (by simp), h4]
  simp only
  rw [if_pos hm]
theorem decR_nm {k s d q x : Int} {n : Nat} {R R8 : List Int} {l : List El} (h1 : n ≤ R.length) (h2 : R.drop n = x :: R8) (h3 : R8.length = x.toNat) (h4 : decI (R.take n) = .ok l) (hm : mayF ⟨k, s, d, q, l, R8⟩ = false) :
    decR (197 :: k :: s :: d :: q :: (n : Int) :: R) = .error 3 := by
  unfold decR
  simp only
  rw [Int.toNat_natCast, if_neg (by omega), h2]
  simp only
  rw [if_neg (by omega), if_neg (by simp), h4]
  simp only
  rw [if_neg (by rw [hm]; simp)]
end Go.Proofs.Ytiflmdekcjbmbaa.Fm
set_option maxRecDepth 100000
namespace Go.Proofs.Ytiflmdekcjbmbaa.Fm
set_option linter.unusedVariables false
set_option linter.unusedSimpArgs false
open Go.RowKit Lb Bf Ie

def zF : Fp := ⟨0, 0, 0, 0, [], none, 0, [], none, 0⟩
theorem zF_at (w : World) : zF.At w := ⟨⟨Nat.le_refl _, Nat.zero_le _, Row.nil _ _ _, fun k hk => by cases hk⟩, Nat.le_refl _, Nat.zero_le _, Row.nil _ _ _, okD_nil⟩
theorem builtF : Try.prog.built 35 [] = some #[.int .i64 0, .int .i64 0, .int .i64 0, .int .i64 0, .slice none 0 0, .slice none 0 0] := by kernel_rfl
theorem cells6 (a b c d : Int) (p q : Option Addr) {n m k l : Nat} : (#[.int .i64 a, .int .i64 b, .int .i64 c, .int .i64 d, .slice p n m, .slice q k l] : Array Value).all (·.oneCell') = true := by
  simp [Value.oneCell']
theorem seven_of {R : List Int} (h : 7 ≤ R.length) : ∃ m k s d q ne R6, R = m :: k :: s :: d :: q :: ne :: R6 := by
  match R, h with
  | m :: k :: s :: d :: q :: ne :: R6, _ => exact ⟨m, k, s, d, q, ne, R6, rfl⟩
theorem okD_tail {x : Int} {l : List Int} (h : okD' (x :: l)) : okD' l := fun y hy => h y (List.mem_cons_of_mem _ hy)
theorem decN_errs : ∀ (n : Nat) (L : List Int) {e : Int}, decN n L = .error e → e = 2 ∨ e = 3 := by
  intro n
  induction n with
  | zero => intro L e h; cases h
  | succ n ih =>
    intro L e h
    rw [decN] at h
    cases h1 : dec1 L with
    | error x =>
      rw [h1] at h
      simp only at h
      injection h with h
      subst h
      exact dec1_err h1
    | ok p =>
      obtain ⟨x, R⟩ := p
      rw [h1] at h
      simp only at h
      cases h2 : decN n R with
      | error y =>
        rw [h2] at h
        simp only at h
        injection h with h
        subst h
        exact ih R h2
      | ok p => obtain ⟨m, S⟩ := p; rw [h2] at h; cases h
theorem may_small {e : El} (h : mayE e = true) : e.list.length ≤ 1000000 := by
  obtain ⟨k, a, r, t, l⟩ := e
  rcases mayE_kind h with h1 | h1 | h1 | h1
  · have h1 : k = 1 := h1
    subst h1
    rw [may1] at h
    simp at h
    simp [h.2.2.2.2]
  · have h1 : k = 2 := h1
    subst h1
    rw [may2] at h
    simp at h
    simp [h.2.2.2.2]
  all_goals
    have h1 : k = _ := h1
    subst h1
    rw [may3 _ _ _ _ _ (by omega)] at h
    simp at h
    show l.length ≤ 1000000
    omega
theorem decI_errs {L : List Int} {e : Int} (h : decI L = .error e) : e = 2 ∨ e = 3 := by
  unfold decI at h
  match L, h with
  | [], h => injection h with h; exact .inl h.symm
  | n :: L1, h =>
    simp only at h
    split at h
    · injection h with h; exact .inr h.symm
    · cases h1 : decN n.toNat L1 with
      | error x =>
        rw [h1] at h
        simp only at h
        injection h with h
        subst h
        exact decN_errs _ _ h1
      | ok p =>
        obtain ⟨m, R⟩ := p
        rw [h1] at h
        simp only at h
        split at h
        · cases h
        · injection h with h; exact .inr h.symm
theorem els_small {L : List Int} {LL : List EP} (hd : okD' L) (h : decI L = .ok (els LL)) : ∀ j, j < LL.length → (LL.getD j ep0).e.list.length ≤ 1000000 := fun j hj => by
  have hm := (decI_back hd h).1
  unfold mayL at hm
  rw [Bool.and_eq_true, List.all_eq_true] at hm
  have h1 := hm.2 _ (List.getElem_mem (by rw [els_len]; exact hj : j < (els LL).length))
  rw [els_at hj rfl] at h1
  exact may_small h1
def DecFPost (L : List Int) (w : World) (r : Ending) (w' : World) : Prop :=
  match decF L with
  | .ok f => ∃ p : Fp, p.fr = f ∧ r = .returned (.tuple #[.agg p.vals, .int .i64 0]) ∧ p.At w' ∧ Below w.heap.size w w'
  | .error e => r = .returned (.tuple #[.agg zF.vals, .int .i64 e]) ∧ Below w.heap.size w w'
theorem Els.same {w w' : World} {L : List EP} {a : Option Addr} {c : Nat} (h : Els w L a c) (h1 : ∀ q, a = some q → w'.heap[q.block]? = w.heap[q.block]?) (h2 : ∀ k, k < L.length → ∀ q, (L.getD k ep0).a = some q → 0 < (L.getD k ep0).e.list.length → w'.heap[q.block]? = w.heap[q.block]?) : Els w' L a c :=
  ⟨h.lc, h.cm, Row.same h.row (fun p e _ => h1 p e), fun k hk => (h.els k hk).same (h2 k hk)⟩
/-- A frame all of whose rows lie from base on. -/
structure Fp.Low (base : Nat) (p : Fp) : Prop where
  la : ∀ q, p.a = some q → base ≤ q.block
  le : ∀ k, k < p.L.length → ∀ q, (p.L.getD k ep0).a = some q → 0 < (p.L.getD k ep0).e.list.length → base ≤ q.block
  lb : ∀ q, p.b = some q → base ≤ q.block
theorem Fp.At.apart {w w' : World} {base g : Nat} {p : Fp} (h : p.At w) (l : p.Low base) (hg : g < base) (j : Just g w w') : p.At w' :=
  ⟨⟨h.els.lc, h.els.cm, Row.just h.els.row j (fun q e => by have := l.la q e; omega), fun k hk => El.At.same (h.els.els k hk) (fun q e1 e2 => j.block _ ((h.els.els k hk).lt q e1 e2) (by have := l.le k hk q e1 e2; omega))⟩, h.dc, h.dm, Row.just h.row j (fun q e => by have := l.lb q e; omega), h.ok⟩
def DecFNew (L : List Int) (w : World) (r : Ending) (w' : World) : Prop :=
  match decF L with
  | .ok f => ∃ p : Fp, p.fr = f ∧ r = .returned (.tuple #[.agg p.vals, .int .i64 0]) ∧ p.At w' ∧ p.Low w.heap.size ∧ Below w.heap.size w w'
  | .error e => r = .returned (.tuple #[.agg zF.vals, .int .i64 e]) ∧ Below w.heap.size w w'
end Go.Proofs.Ytiflmdekcjbmbaa.Fm
set_option maxRecDepth 100000
namespace Go.Proofs.Ytiflmdekcjbmbaa.Fm
set_option linter.unusedVariables false
set_option linter.unusedSimpArgs false
open Go.RowKit Go.ChangeShapes Go.WideShapes Go.ChangeAt Go.Deep Lb Bf Ie

section
variable {H : Type} {enc : TypeId × Value → H} {w : World} {base : Nat}
theorem open_cell_els {v : Value} {y : DataW H × List MemPlace} {fuel : Nat} (hf : DataW.trod enc Try.prog w 0 (fun _ => true) true fuel 32 [v] = some y) :
    ∃ L a c, v = .slice a L.length c ∧ Els w L a c := by
  obtain ⟨a, n, c, V, rfl, h1, h2, h3, h4⟩ := open_cell_struct Try.underlying32 Try.underlying49 (by kernel_rfl) (by kernel_rfl) (by decide) hf
  have hn5 : n * (5 : Nat) = n * 5 := rfl
  have key : ∃ f : Nat → EP, ∀ i, i < n → V (i * 5) = .int .i64 (f i).e.k ∧ V (i * 5 + 1) = .int .i64 (f i).e.asn ∧ V (i * 5 + 2) = .int .i64 (f i).e.rank ∧ V (i * 5 + 3) = .int .i64 (f i).e.ticks ∧
      V (i * 5 + 4) = .slice (f i).a (f i).e.list.length (f i).c ∧ (f i).e.At w (f i).a (f i).c := by
    refine choose_fn (q := fun i (x : EP) => V (i * 5) = .int .i64 x.e.k ∧ V (i * 5 + 1) = .int .i64 x.e.asn ∧ V (i * 5 + 2) = .int .i64 x.e.rank ∧ V (i * 5 + 3) = .int .i64 x.e.ticks ∧
      V (i * 5 + 4) = .slice x.a x.e.list.length x.c ∧ x.e.At w x.a x.c) ep0 (fun i hi => ?_)
    obtain ⟨f0, y0, k0⟩ := h4 i hi 0 _ rfl
    obtain ⟨f1, y1, k1⟩ := h4 i hi 1 _ rfl
    obtain ⟨f2, y2, k2⟩ := h4 i hi 2 _ rfl
    obtain ⟨f3, y3, k3⟩ := h4 i hi 3 _ rfl
    obtain ⟨f4, y4, k4⟩ := h4 i hi 4 _ rfl
    obtain ⟨z0, e0, _, _⟩ := DataW.trod_int Try.underlying3 k0
    obtain ⟨z1, e1, _, _⟩ := DataW.trod_int Try.underlying2 k1
    obtain ⟨z2, e2, _, _⟩ := DataW.trod_int Try.underlying3 k2
    obtain ⟨z3, e3, _, _⟩ := DataW.trod_int Try.underlying3 k3
    obtain ⟨b, m, e, Z, e4, g1, g2, g3, g4⟩ := open_cell Try.underlying26 Try.underlying3 (by kernel_rfl) k4
    obtain ⟨l4, hl4, hz4⟩ := list_of m Z
    have r4 := row_z g3 hl4 hz4
    refine ⟨⟨⟨z0, z1, z2, z3, l4⟩, b, e⟩, by simpa using e0, by simpa using e1, by simpa using e2, by simpa using e3, ?_, ⟨by rw [hl4]; exact g1, g2, r4, row_none r4⟩⟩
    simp only [hl4]
    exact e4
  obtain ⟨f, hfk⟩ := key
  have hlen : ((List.range n).map f).length = n := by simp
  have hget : ∀ i, i < n → ((List.range n).map f).getD i ep0 = f i := fun i hi => by simp [List.getD, hi]
  have hrow : Row w a (n * 5) (ev ((List.range n).map f)) := by
    intro h0
    obtain ⟨b, off, e1, e2, e3⟩ := h3 h0
    refine ⟨b, off, e1, e2, fun q hq => ?_⟩
    have hq' : q < n * 5 := hq
    rw [e3 q hq]
    have hi : q / 5 < n := by omega
    obtain ⟨g0, g1, g2, g3, g4, _⟩ := hfk (q / 5) hi
    have hg := hget (q / 5) hi
    have hm : q % 5 = 0 ∨ q % 5 = 1 ∨ q % 5 = 2 ∨ q % 5 = 3 ∨ q % 5 = 4 := by omega
    rcases hm with hm | hm | hm | hm | hm
    · rw [show q = q / 5 * 5 by omega, ev0, hg, g0]
    · rw [show q = q / 5 * 5 + 1 by omega, ev1, hg, g1]
    · rw [show q = q / 5 * 5 + 2 by omega, ev2, hg, g2]
    · rw [show q = q / 5 * 5 + 3 by omega, ev3, hg, g3]
    · rw [show q = q / 5 * 5 + 4 by omega, ev4, hg, g4]
  refine ⟨(List.range n).map f, a, c, by rw [hlen], ⟨by rw [hlen]; exact h1, h2, by rw [hlen]; exact hrow, fun k hk => ?_⟩⟩
  rw [hlen] at hk
  rw [hget k hk]
  exact (hfk k hk).2.2.2.2.2
theorem open_frame {v : Value} {d : DataW H} {pl : List MemPlace} (hv : Value.okWide Try.prog w .any base 35 v)
    (h : DataW.Trod enc Try.prog w 0 (fun _ => true) true 35 v d pl) : ∃ p : Fp, v = .agg p.vals ∧ p.At w := by
  have hC : Try.prog.cellsOf 35 = 6 := by kernel_rfl
  have hI : Try.prog.cellsOf 3 = 1 := by kernel_rfl
  have hS : Try.prog.cellsOf 32 = 1 := by kernel_rfl
  have hB : Try.prog.cellsOf 33 = 1 := by kernel_rfl
  obtain ⟨cs, rfl, hsz⟩ := okWide_struct Try.underlying35 hv
  rw [hC] at hsz
  obtain ⟨l⟩ := cs
  match l, hsz with
  | [x0, x1, x2, x3, x4, x5], _ =>
  obtain ⟨fuel, hf⟩ := h
  obtain ⟨xs, k, _, _, _, hlen, hfs⟩ := DataW.trod_struct Try.underlying35 hf
  match xs, hlen with
  | [y0, y1, y2, y3, y4, y5], _ =>
  obtain ⟨z0, e0, _, w0⟩ := DataW.trod_int Try.underlying3 (hfs 0 _ rfl)
  obtain ⟨z1, e1, _, w1⟩ := DataW.trod_int Try.underlying3 (hfs 1 _ rfl)
  obtain ⟨z2, e2, _, w2⟩ := DataW.trod_int Try.underlying3 (hfs 2 _ rfl)
  obtain ⟨z3, e3, _, w3⟩ := DataW.trod_int Try.underlying3 (hfs 3 _ rfl)
  have e4 := hfs 4 _ rfl
  have e5 := hfs 5 _ rfl
  simp [Value.cells, hI, hS, hB] at e0 e1 e2 e3 e4 e5
  subst e0 e1 e2 e3
  obtain ⟨L, a, c, rfl, hels⟩ := open_cell_els e4
  obtain ⟨b, m, e, Y, rfl, k1, k2, k3, k4⟩ := open_cell Try.underlying33 Try.underlying5 (by kernel_rfl) e5
  obtain ⟨l5, hl5, hz5⟩ := list_of m Y
  have r5 := row_b k3 hl5 hz5
  refine ⟨⟨z0, z1, z2, z3, L, a, c, l5, b, e⟩, ?_, ⟨hels, by rw [hl5]; exact k1, k2, r5, fun x hx => ?_⟩⟩
  · subst hl5
    rfl
  · have hx : x ∈ l5 := hx
    obtain ⟨i, hi, rfl⟩ := List.getElem_of_mem hx
    have h1 := u8_bd (k4 i)
    have h2 := hz5 i (by omega)
    rw [List.getD_eq_getElem?_getD, List.getElem?_eq_getElem hi] at h2
    simp only [Option.getD_some] at h2
    rw [h2]
    exact h1
end
def lightF (p : Fp) : Bool := lightB p.L && decide (p.data.length ≤ 200)
theorem lightF_out {p : Fp} (h : lightF p = true) : (∀ k, k < p.L.length → (p.L.getD k ep0).e.list.length ≤ 1000000) ∧ p.L.length ≤ 20 ∧ p.data.length ≤ 200 := by
  unfold lightF lightB at h
  rw [Bool.and_eq_true, decide_eq_true_eq, decide_eq_true_eq] at h
  exact ⟨fun k hk => by have := h.1.2 k hk; omega, h.1.1, h.2⟩
end Go.Proofs.Ytiflmdekcjbmbaa.Fm
set_option maxRecDepth 100000
namespace Go.Proofs.Ytiflmdekcjbmbaa.Fm
set_option linter.unusedVariables false
set_option linter.unusedSimpArgs false
open Go.RowKit Lb Bf Ie

theorem rnode_any (x : Int) (w : World) : Calls Try.prog 54 #[.int .i64 x] w fun r w' => r = .returned (.bool (ndB x)) ∧ w = w' := by
  by_cases h1 : 0 ≤ x
  · by_cases h2 : x < 16
    · have HD : Hid (ndB x = true) := Lib.hid (decide_eq_true (And.intro h1 h2))
      go_enter Try.func54, Try.ntmps54
      go_wp2_with fail
      go_ret
      exact ⟨by rw [HD.out]; rfl, rfl⟩
    · have HD : Hid (ndB x = false) := Lib.hid (decide_eq_false (fun h => h2 h.2))
      go_enter Try.func54, Try.ntmps54
      go_wp2_with fail
      go_ret
      exact ⟨by rw [HD.out]; rfl, rfl⟩
  · have HD : Hid (ndB x = false) := Lib.hid (decide_eq_false (fun h => h1 h.1))
    go_enter Try.func54, Try.ntmps54
    go_wp2_with fail
    go_ret
    exact ⟨by rw [HD.out]; rfl, rfl⟩
theorem mayF_nok {f : Fr} (h : f.k < 1 ∨ 5 < f.k) : mayF f = false := by
  cases hm : mayF f
  · rfl
  · have := (mayF_out hm).2.2.2.2.2
    omega
theorem mayL_long {l : List El} (h : ¬ l.length ≤ 4) : mayL l = false := by
  unfold mayL
  rw [decide_eq_false h]
  rfl
set_option maxHeartbeats 4000000 in
theorem rmayF_any (p : Fp) (w : World) (h : p.At w) (hm : ∀ k, k < p.L.length → (p.L.getD k ep0).e.list.length ≤ 1000000) :
    Calls Try.prog 32 #[.agg p.vals] w fun r w' => r = .returned (.bool (mayF p.fr)) ∧ Below w.heap.size w w' := by
  have o1 := Own.new w 35 p.vals
  have b0 := (Below.refl w.heap.size w).alloc (Nat.le_refl _) (.cells p.vals 35)
  have h1 := h.below b0
  have hdm := h.dm
  have hdc := h.dc
  have hlc := h.els.lc
  have hlm := h.els.cm
  unfold maxLen at hdm hlm
  have HMM := Lib.hid hm
  clear h hm
  obtain ⟨pk, ps, pd, pq, pL, pa, pc, pdata, pb, pe⟩ := p
  have HF : Hid ((⟨pk, ps, pd, pq, pL, pa, pc, pdata, pb, pe⟩ : Fp).fr = ⟨pk, ps, pd, pq, els pL, pdata⟩) := Lib.hid rfl
  unfold Fp.vals at *
  simp only at *
  obtain ⟨nd, hnd⟩ : ∃ n, pdata.length = n := ⟨_, rfl⟩
  have HND := Lib.hid hnd
  rw [hnd] at o1 b0 h1 hdc ⊢
  obtain ⟨nl, hnl⟩ : ∃ n, pL.length = n := ⟨_, rfl⟩
  have HNL := Lib.hid hnl
  rw [hnl] at o1 b0 h1 hlc ⊢
  go_enter Try.func32, Try.ntmps32
  go_upto_region 1 with (fail)
  generalize w.alloc (.cells #[.int .i64 pk, .int .i64 ps, .int .i64 pd, .int .i64 pq, .slice pa nl pc, .slice pb nd pe] 35) = w1 at *
  have x0 : w1.cell? ⟨w.heap.size, 0, none⟩ = some (.int .i64 pk) := o1.cell 0
  have x1 : w1.cell? ⟨w.heap.size, 1, none⟩ = some (.int .i64 ps) := o1.cell 1
  have x2 : w1.cell? ⟨w.heap.size, 2, none⟩ = some (.int .i64 pd) := o1.cell 2
  have x3 : w1.cell? ⟨w.heap.size, 3, none⟩ = some (.int .i64 pq) := o1.cell 3
  have x4 : w1.cell? ⟨w.heap.size, 4, none⟩ = some (.slice pa nl pc) := o1.cell 4
  have x5 : w1.cell? ⟨w.heap.size, 5, none⟩ = some (.slice pb nd pe) := o1.cell 5
  have HH1 := Lib.hid h1
  clear hnd hnl h1
  by_cases k0 : pk < 1
  · clear hlm hdm
    have HD : Hid (mayF ⟨pk, ps, pd, pq, els pL, pdata⟩ = false) := Lib.hid (mayF_nok (.inl k0))
    have t0 : decide (pk < 1) = true := decide_eq_true k0
    clear k0
    go_wp2_with fail
    go_ret
    exact ⟨by rw [HF.out, HD.out]; rfl, b0⟩
  have t0 : decide (pk < 1) = false := decide_eq_false k0
  by_cases k5 : 5 < pk
  · clear hlm hdm
    have HD : Hid (mayF ⟨pk, ps, pd, pq, els pL, pdata⟩ = false) := Lib.hid (mayF_nok (.inr k5))
    have t1 : decide (5 < pk) = true := decide_eq_true k5
    clear k5 k0
    go_wp2_with fail
    go_ret
    exact ⟨by rw [HF.out, HD.out]; rfl, b0⟩
  have t1 : decide (5 < pk) = false := decide_eq_false k5
  cases hs : ndB ps
  · clear hlm hdm
    have HD : Hid (mayF ⟨pk, ps, pd, pq, els pL, pdata⟩ = false) := Lib.hid (mayF_no1 hs)
    clear k0 k5
    go_wp2_with fail
    with_reducible refine (rnode_any _ _).mono ?_
    rintro r w' ⟨rfl, rfl⟩
    go_wp2_with fail
    go_ret
    exact ⟨by rw [HF.out, HD.out]; rfl, b0⟩
  have hDST : dstB ⟨pk, ps, pd, pq, els pL, pdata⟩ = (!(pd == ps) && ((pd == 64) || ndB pd)) := rfl
  obtain ⟨e6, he6⟩ : ∃ e, (pd == ps) = e := ⟨_, rfl⟩
  obtain ⟨e7, he7⟩ : ∃ e, (pd == 64) = e := ⟨_, rfl⟩
  have he7' : (pd != 64) = !e7 := by rw [← he7]; rfl
  obtain ⟨e8, he8⟩ : ∃ e, ndB pd = e := ⟨_, rfl⟩
  rw [he6, he7, he8] at hDST
  have HDST := Lib.hid hDST
  clear hDST
  by_cases hd78 : e8 = false ∧ e7 = false
  · obtain ⟨rfl, rfl⟩ := hd78
    simp only [Bool.not_false] at he7'
    clear hlm hdm
    have HD : Hid (mayF ⟨pk, ps, pd, pq, els pL, pdata⟩ = false) := Lib.hid (mayF_no6 (by rw [HDST.out]; simp))
    go_wp2_with fail
    with_reducible refine (rnode_any _ _).mono ?_
    rintro r w' ⟨rfl, rfl⟩
    go_wp2_with fail
    with_reducible refine (rnode_any _ _).mono ?_
    rintro r w' ⟨rfl, rfl⟩
    go_wp2_with fail
    go_ret
    exact ⟨by rw [HF.out, HD.out]; rfl, b0⟩
  have e7t : (e8 = true ∨ (e8 = false ∧ e7 = true)) := by cases e7 <;> cases e8 <;> simp at hd78 ⊢
  clear hd78
  cases e6 with
  | true =>
    clear hlm hdm
    have HD : Hid (mayF ⟨pk, ps, pd, pq, els pL, pdata⟩ = false) := Lib.hid (mayF_no6 (by rw [HDST.out]; rfl))
    rcases e7t with h8 | ⟨h8, h7⟩
    · subst h8
      go_wp2_with fail
      with_reducible refine (rnode_any _ _).mono ?_
      rintro r w' ⟨rfl, rfl⟩
      go_wp2_with fail
      with_reducible refine (rnode_any _ _).mono ?_
      rintro r w' ⟨rfl, rfl⟩
      go_wp2_with fail
      go_ret
      exact ⟨by rw [HF.out, HD.out]; rfl, b0⟩
    · subst h8 h7
      simp only [Bool.not_true] at he7'
      go_wp2_with fail
      with_reducible refine (rnode_any _ _).mono ?_
      rintro r w' ⟨rfl, rfl⟩
      go_wp2_with fail
      with_reducible refine (rnode_any _ _).mono ?_
      rintro r w' ⟨rfl, rfl⟩
      go_wp2_with fail
      go_ret
      exact ⟨by rw [HF.out, HD.out]; rfl, b0⟩
  | false =>
    by_cases q0 : ¬ 0 ≤ pq
    · clear hlm hdm
      have HD : Hid (mayF ⟨pk, ps, pd, pq, els pL, pdata⟩ = false) := Lib.hid (mayF_no2 q0)
      have t2 : decide (pq < 0) = true := by simp; omega
      clear q0
      rcases e7t with h8 | ⟨h8, h7⟩
      · subst h8
        go_wp2_with fail
        with_reducible refine (rnode_any _ _).mono ?_
        rintro r w' ⟨rfl, rfl⟩
        go_wp2_with fail
        with_reducible refine (rnode_any _ _).mono ?_
        rintro r w' ⟨rfl, rfl⟩
        go_wp2_with fail
        go_ret
        exact ⟨by rw [HF.out, HD.out]; rfl, b0⟩
      · subst h8 h7
        simp only [Bool.not_true] at he7'
        go_wp2_with fail
        with_reducible refine (rnode_any _ _).mono ?_
        rintro r w' ⟨rfl, rfl⟩
        go_wp2_with fail
        with_reducible refine (rnode_any _ _).mono ?_
        rintro r w' ⟨rfl, rfl⟩
        go_wp2_with fail
        go_ret
        exact ⟨by rw [HF.out, HD.out]; rfl, b0⟩
    have q0 : 0 ≤ pq := by omega
    have t2 : decide (pq < 0) = false := by simp; omega
    by_cases q1 : ¬ pq ≤ 255
    · clear hlm hdm
      have HD : Hid (mayF ⟨pk, ps, pd, pq, els pL, pdata⟩ = false) := Lib.hid (mayF_no3 q1)
      have t3 : decide (255 < pq) = true := by simp; omega
      clear q1
      rcases e7t with h8 | ⟨h8, h7⟩
      · subst h8
        go_wp2_with fail
        with_reducible refine (rnode_any _ _).mono ?_
        rintro r w' ⟨rfl, rfl⟩
        go_wp2_with fail
        with_reducible refine (rnode_any _ _).mono ?_
        rintro r w' ⟨rfl, rfl⟩
        go_wp2_with fail
        go_ret
        exact ⟨by rw [HF.out, HD.out]; rfl, b0⟩
      · subst h8 h7
        simp only [Bool.not_true] at he7'
        go_wp2_with fail
        with_reducible refine (rnode_any _ _).mono ?_
        rintro r w' ⟨rfl, rfl⟩
        go_wp2_with fail
        with_reducible refine (rnode_any _ _).mono ?_
        rintro r w' ⟨rfl, rfl⟩
        go_wp2_with fail
        go_ret
        exact ⟨by rw [HF.out, HD.out]; rfl, b0⟩
    have q1 : pq ≤ 255 := by omega
    have t3 : decide (255 < pq) = false := by simp; omega
    by_cases q4 : ¬ nl ≤ 4
    · clear hlm hdm
      have HD : Hid (mayF ⟨pk, ps, pd, pq, els pL, pdata⟩ = false) := Lib.hid (mayF_no5 (mayL_long (by show ¬ (els pL).length ≤ 4; rw [els_len, HNL.out]; exact q4)))
      have t5 : decide ((4 : Int) < (nl : Int)) = true := by simp; omega
      have t5' : decide (4 < nl) = true := by simp; omega
      clear q4
      rcases e7t with h8 | ⟨h8, h7⟩
      · subst h8
        go_wp2_with fail
        with_reducible refine (rnode_any _ _).mono ?_
        rintro r w' ⟨rfl, rfl⟩
        go_wp2_with fail
        with_reducible refine (rnode_any _ _).mono ?_
        rintro r w' ⟨rfl, rfl⟩
        go_wp2_with fail
        go_ret
        exact ⟨by rw [HF.out, HD.out]; rfl, b0⟩
      · subst h8 h7
        simp only [Bool.not_true] at he7'
        go_wp2_with fail
        with_reducible refine (rnode_any _ _).mono ?_
        rintro r w' ⟨rfl, rfl⟩
        go_wp2_with fail
        with_reducible refine (rnode_any _ _).mono ?_
        rintro r w' ⟨rfl, rfl⟩
        go_wp2_with fail
        go_ret
        exact ⟨by rw [HF.out, HD.out]; rfl, b0⟩
    have q4 : nl ≤ 4 := by omega
    have t5 : decide ((4 : Int) < (nl : Int)) = false := by simp; omega
    have t5' : decide (4 < nl) = false := by simp; omega
    by_cases q2 : ¬ nd ≤ 64
    · clear hlm hdm
      have HD : Hid (mayF ⟨pk, ps, pd, pq, els pL, pdata⟩ = false) := Lib.hid (mayF_no4 (by show ¬ pdata.length ≤ 64; rw [HND.out]; exact q2))
      have t4 : decide ((64 : Int) < (nd : Int)) = true := by simp; omega
      have t4' : decide (64 < nd) = true := by simp; omega
      clear q2
      rcases e7t with h8 | ⟨h8, h7⟩
      · subst h8
        go_wp2_with fail
        with_reducible refine (rnode_any _ _).mono ?_
        rintro r w' ⟨rfl, rfl⟩
        go_wp2_with fail
        with_reducible refine (rnode_any _ _).mono ?_
        rintro r w' ⟨rfl, rfl⟩
        go_wp2_with fail
        go_ret
        exact ⟨by rw [HF.out, HD.out]; rfl, b0⟩
      · subst h8 h7
        simp only [Bool.not_true] at he7'
        go_wp2_with fail
        with_reducible refine (rnode_any _ _).mono ?_
        rintro r w' ⟨rfl, rfl⟩
        go_wp2_with fail
        with_reducible refine (rnode_any _ _).mono ?_
        rintro r w' ⟨rfl, rfl⟩
        go_wp2_with fail
        go_ret
        exact ⟨by rw [HF.out, HD.out]; rfl, b0⟩
    have q2 : nd ≤ 64 := by omega
    have t4 : decide ((64 : Int) < (nd : Int)) = false := by simp; omega
    have t4' : decide (64 < nd) = false := by simp; omega
    go_cut [60] from 7 to 60 (fun v wx => v = .bool false ∧ w1 = wx)
    case first =>
      rcases e7t with h8 | ⟨h8, h7⟩
      · subst h8
        go_wp2_with fail
        with_reducible refine (rnode_any _ _).mono ?_
        rintro r w' ⟨rfl, rfl⟩
        go_wp2_with fail
        with_reducible refine (rnode_any _ _).mono ?_
        rintro r w' ⟨rfl, rfl⟩
        go_wp2_with fail
        go_meet
        exact ⟨rfl, rfl⟩
      · subst h8 h7
        simp only [Bool.not_true] at he7'
        go_wp2_with fail
        with_reducible refine (rnode_any _ _).mono ?_
        rintro r w' ⟨rfl, rfl⟩
        go_wp2_with fail
        with_reducible refine (rnode_any _ _).mono ?_
        rintro r w' ⟨rfl, rfl⟩
        go_wp2_with fail
        go_meet
        exact ⟨rfl, rfl⟩
    case rest =>
      obtain ⟨rfl, rfl⟩ := hcut
      have hdst : dstB ⟨pk, ps, pd, pq, els pL, pdata⟩ = true := by
        rw [HDST.out]
        rcases e7t with h8 | ⟨h8, h7⟩
        · rw [h8]; simp
        · rw [h8, h7]; simp
      have HDS := Lib.hid hdst
      have HSS := Lib.hid hs
      have K0 := Lib.hid k0
      have K5 := Lib.hid k5
      clear e7t he6 he8 t0 t1 t2 t3 t4 t4' t5 t5' hdst hs k0 k5 HDST x0 x1 x2 x3
      have hrow := HH1.out.els.row
      rw [HNL.out] at hrow
      have HELS := Lib.hid HH1.out.els.els
      go_wp2_with fail
      go_loopw [64] (fun i wr => ∃ (k : Nat), i = .int .i64 k ∧ k ≤ nl ∧ Hid (∀ j, j < k → mayE (pL.getD j ep0).e = true) ∧ Below w1.heap.size w1 wr) (fun i _ => nl - (intOf i).toNat)
      case atStart => exact ⟨0, rfl, by omega, Lib.hid (fun j hj => by omega), Below.refl _ _⟩
      case round =>
        obtain ⟨k, rfl, hk, HE, bb⟩ := hrel
        by_cases hlt : k < nl
        · obtain ⟨x, hx⟩ : ∃ x, pL.getD k ep0 = x := ⟨_, rfl⟩
          obtain ⟨pb', po, rfl, hpb, x0, x1, x2, x3, x4⟩ := erow hrow bb hlt hx
          have hat := HELS.out k (by rw [HNL.out]; exact hlt)
          rw [hx] at hat
          have HX := Lib.hid hx
          have hl1 := els_at (k := k) (by rw [HNL.out]; exact hlt) hx
          have HL1 := Lib.hid hl1
          clear hx hl1
          obtain ⟨⟨ek, easn, erank, et, el⟩, ea, ec⟩ := x
          simp only at x0 x1 x2 x3 x4 hat
          have o2 := Own.new wr 49 #[.int .i64 ek, .int .i64 easn, .int .i64 erank, .int .i64 et, .slice ea el.length ec]
          have b2 := (Below.refl wr.heap.size wr).alloc (Nat.le_refl _) (.cells #[.int .i64 ek, .int .i64 easn, .int .i64 erank, .int .i64 et, .slice ea el.length ec] 49)
          have b3 := bb.trans (b2.mono bb.size)
          have hm := rmay_any ⟨ek, easn, erank, et, el⟩ ea ec _ (hat.below b3)
          unfold El.vals at hm
          simp only at hm
          go_upto_region 6 with (fail)
          generalize wr.alloc (.cells #[.int .i64 ek, .int .i64 easn, .int .i64 erank, .int .i64 et, .slice ea el.length ec] 49) = v2 at *
          obtain ⟨g6, hg6⟩ : ∃ g, wr.heap.size = g := ⟨_, rfl⟩
          rw [hg6] at o2 ⊢
          obtain ⟨q, hq⟩ : ∃ q, mayE ⟨ek, easn, erank, et, el⟩ = q := ⟨_, rfl⟩
          rw [hq] at hm
          have HM := Lib.hid hm
          have HQ := Lib.hid hq
          have y0 : v2.cell? ⟨g6, 0, none⟩ = some (.int .i64 ek) := o2.cell 0
          have y1 : v2.cell? ⟨g6, 1, none⟩ = some (.int .i64 easn) := o2.cell 1
          have y2 : v2.cell? ⟨g6, 2, none⟩ = some (.int .i64 erank) := o2.cell 2
          have y3 : v2.cell? ⟨g6, 3, none⟩ = some (.int .i64 et) := o2.cell 3
          have y4 : v2.cell? ⟨g6, 4, none⟩ = some (.slice ea el.length ec) := o2.cell 4
          clear hg6 b2 hm hq x0 x1 x2 x3 x4 bb hat o2
          cases q
          · have HD : Hid (mayF ⟨pk, ps, pd, pq, els pL, pdata⟩ = false) := Lib.hid (mayF_no5 (mayL_no (k := k) (by show k < (els pL).length; rw [els_len, HNL.out]; exact hlt) (by rw [HL1.out]; exact HQ.out)))
            go_wp2_with fail
            refine HM.out.mono ?_
            rintro r w4 ⟨rfl, b4⟩
            go_wp2_with fail
            go_ret
            exact ⟨by rw [HF.out, HD.out]; rfl, b0.trans ((b3.trans (b4.mono b3.size)).mono b0.size)⟩
          · have HE2 : Hid (∀ j, j < k + 1 → mayE (pL.getD j ep0).e = true) := Lib.hid (fun j hj => by
              by_cases e : j = k
              · subst e; rw [HX.out]; exact HQ.out
              · exact HE.out j (by omega))
            go_wp2_with fail
            refine HM.out.mono ?_
            rintro r w4 ⟨rfl, b4⟩
            have b5 := b3.trans (b4.mono b3.size)
            clear y0 y1 y2 y3 y4 b3 b4
            go_wp2_with fail
            exact ⟨⟨k + 1, by simp, by omega, HE2, b5⟩, by simp [intOf]; omega⟩
        · obtain rfl : nl = k := by omega
          have hml : mayL (els pL) = true := mayL_yes (by rw [els_len, HNL.out]; exact q4) (fun j hj => by
            have e1 := els_at (L := pL) (k := j) (by rw [els_len] at hj; exact hj) rfl
            rw [e1]
            exact HE.out j (by rw [els_len, HNL.out] at hj; exact hj))
          have HD : Hid (mayF ⟨pk, ps, pd, pq, els pL, pdata⟩ = kindB ⟨pk, ps, pd, pq, els pL, pdata⟩) := Lib.hid (mayF_yes HSS.out q0 q1 (by show pdata.length ≤ 64; rw [HND.out]; exact q2) hml HDS.out)
          have o2 := below_own bb o1 o1.lt
          have b3 := b0.trans (bb.mono b0.size)
          have h2 := HH1.out.below bb
          clear hml x4 x5
          have x0 : wr.cell? ⟨w.heap.size, 0, none⟩ = some (.int .i64 pk) := o2.cell 0
          have x2 : wr.cell? ⟨w.heap.size, 2, none⟩ = some (.int .i64 pd) := o2.cell 2
          have x4 : wr.cell? ⟨w.heap.size, 4, none⟩ = some (.slice pa nl pc) := o2.cell 4
          have x5 : wr.cell? ⟨w.heap.size, 5, none⟩ = some (.slice pb nd pe) := o2.cell 5
          obtain ⟨z, hz⟩ : ∃ z, (nd == 0) = z := ⟨_, rfl⟩
          have hz' : ((nd : Int) == 0) = z := by rw [← hz, Bool.eq_iff_iff]; simp
          have hzp : decide (0 < nd) = !z := by rw [← hz, Bool.eq_iff_iff]; simp; omega
          have hzp' : decide ((0 : Int) < (nd : Int)) = !z := by rw [← hz, Bool.eq_iff_iff]; simp; omega
          by_cases k24 : pk = 2 ∨ pk = 4
          · have hK : kindB ⟨pk, ps, pd, pq, els pL, pdata⟩ = (!e7 && z) := by
              unfold kindB
              rw [if_pos k24]
              show ((pd != 64) && (pdata.length == 0)) = _
              rw [he7', HND.out, hz]
            have HK := Lib.hid hK
            by_cases k2 : pk = 2
            · subst k2
              clear k24 hK
              cases e7
              · cases z
                all_goals
                  simp only [Bool.not_false, Bool.not_true] at he7' hzp hzp'
                  go_wp2_with fail
                  go_ret
                  exact ⟨by rw [HF.out, HD.out, HK.out]; rfl, b3⟩
              · simp only [Bool.not_true] at he7'
                go_wp2_with fail
                go_ret
                exact ⟨by rw [HF.out, HD.out, HK.out]; rfl, b3⟩
            · have k4 : pk = 4 := by omega
              subst k4
              clear k24 hK k2
              cases e7
              · cases z
                all_goals
                  simp only [Bool.not_false, Bool.not_true] at he7' hzp hzp'
                  go_wp2_with fail
                  go_ret
                  exact ⟨by rw [HF.out, HD.out, HK.out]; rfl, b3⟩
              · simp only [Bool.not_true] at he7'
                go_wp2_with fail
                go_ret
                exact ⟨by rw [HF.out, HD.out, HK.out]; rfl, b3⟩
          · have s2 : (pk == 2) = false := by simp; omega
            have s4 : (pk == 4) = false := by simp; omega
            by_cases k3 : pk = 3
            · have hK : kindB ⟨pk, ps, pd, pq, els pL, pdata⟩ = (e7 && (z && (fstE (els pL) 1).isSome)) := by
                unfold kindB
                rw [if_neg k24, if_pos k3]
                show ((pd == 64) && ((pdata.length == 0) && _)) = _
                rw [he7, HND.out, hz]
              have HK := Lib.hid hK
              have hf := rfind_any pL pa pc 1 wr h2.els HMM.out
              rw [HNL.out] at hf
              have HFD := Lib.hid hf
              subst k3
              clear k24 hK hf
              go_wp2_with fail
              refine HFD.out.mono ?_
              rintro r w4 ⟨a4, c4, rfl, hat4, b4⟩
              obtain ⟨fe, hfe⟩ : ∃ f, foundE (els pL) 1 = f := ⟨_, rfl⟩
              rw [hfe]
              obtain ⟨ok, hok⟩ : ∃ f, (fstE (els pL) 1).isSome = f := ⟨_, rfl⟩
              have HK2 : Hid (kindB ⟨3, ps, pd, pq, els pL, pdata⟩ = (e7 && (z && ok))) := Lib.hid (by rw [HK.out, hok])
              rw [hok]
              obtain ⟨fk, fa, fr, ft, fl⟩ := fe
              have o4 := below_own b4 o2 (by have := o2.lt; omega)
              have b5 := b3.trans (b4.mono b3.size)
              unfold El.vals
              simp only
              have o5 := o4.alloc (.cells #[.int .i64 fk, .int .i64 fa, .int .i64 fr, .int .i64 ft, .slice a4 fl.length c4] 49)
              have b6 := b5.alloc b5.size (.cells #[.int .i64 fk, .int .i64 fa, .int .i64 fr, .int .i64 ft, .slice a4 fl.length c4] 49)
              clear hfe hok hat4 HFD HK b4 o4 b5 x0 x2 x4 x5 h2 o2 b3
              go_upto_region 15 with (fail)
              generalize w4.alloc (.cells #[.int .i64 fk, .int .i64 fa, .int .i64 fr, .int .i64 ft, .slice a4 fl.length c4] 49) = w5 at *
              have x2 : w5.cell? ⟨w.heap.size, 2, none⟩ = some (.int .i64 pd) := o5.cell 2
              have x5 : w5.cell? ⟨w.heap.size, 5, none⟩ = some (.slice pb nd pe) := o5.cell 5
              cases e7
              · go_wp2_with fail
                go_ret
                exact ⟨by rw [HF.out, HD.out, HK2.out]; rfl, b6⟩
              · cases z
                all_goals
                  go_wp2_with fail
                  go_ret
                  exact ⟨by rw [HF.out, HD.out, HK2.out]; rfl, b6⟩
            · have s3 : (pk == 3) = false := by simp; omega
              have k15 : pk = 1 ∨ pk = 5 := by have := K0.out; have := K5.out; omega
              have hK : kindB ⟨pk, ps, pd, pq, els pL, pdata⟩ = (!e7 && !z) := by
                unfold kindB
                rw [if_neg k24, if_neg k3, if_pos k15]
                show ((pd != 64) && decide (0 < pdata.length)) = _
                rw [he7', HND.out, hzp]
              have HK := Lib.hid hK
              clear k24 hK k3 k15
              cases e7
              · cases z
                all_goals
                  simp only [Bool.not_false, Bool.not_true] at he7' hzp hzp'
                  go_wp2_with fail
                  go_ret
                  exact ⟨by rw [HF.out, HD.out, HK.out]; rfl, b3⟩
              · simp only [Bool.not_true] at he7'
                go_wp2_with fail
                go_ret
                exact ⟨by rw [HF.out, HD.out, HK.out]; rfl, b3⟩
end Go.Proofs.Ytiflmdekcjbmbaa.Fm
