/-
  Package frame: the reference: the frame that bytes are.
-/
import Derived.Test.YtiflmdekcjbmbaaGNodeSends15
import Derived.Test.YtiflmdekcjbmbaaGNodeSends17
import Derived.Test.YtiflmdekcjbmbaaGNodeSends14
set_option maxRecDepth 100000
namespace Go.Proofs.Ytiflmdekcjbmbaa.Fm
set_option linter.unusedVariables false
set_option linter.unusedSimpArgs false
open Go.RowKit Lb Bf Ie

def Inv (l : List Int) (err : Int) : Prop := err = 0 ∨ (l = [] ∧ err = 2)
theorem Inv.next {l : List Int} {err : Int} (h : Inv l err) (n : Nat) : Inv (lft l n) (er l n err) := by
  unfold lft er
  by_cases hl : l.length < n
  · rw [if_pos hl, if_pos hl]
    rcases h with h | h
    · subst h; exact .inr ⟨rfl, rfl⟩
    · rw [h.2]; exact .inr ⟨rfl, rfl⟩
  · rw [if_neg hl, if_neg hl]
    rcases h with h | h
    · exact .inl h
    · exact .inr ⟨by rw [h.1]; simp, h.2⟩
theorem inv_zero (l : List Int) : Inv l 0 := .inl rfl
theorem rawf_any (b : Nat) (l : List Int) (err : Int) (n : Nat) (w : World) (h : Rq w 0 b l err) (hi : Inv l err) (hn : n ≤ 100000) :
    Calls Try.prog 29 #[.pointer (some ⟨b, 0, none⟩), .int .i64 (n : Int)] w fun r w' => ∃ a c, r = .returned (.slice a (txt l n).length c) ∧ (txt l n).length ≤ c ∧ c ≤ maxLen ∧ Row w' a (txt l n).length (bval (txt l n)) ∧
      (∀ q, a = some q → w.heap.size ≤ q.block ∧ q.block < w'.heap.size) ∧ Rq w' 0 b (lft l n) (er l n err) ∧ Just b w w' := by
  by_cases hb : badQ l err n
  · refine (raw_bad 0 b l err n w h hb hn).mono ?_
    rintro r w' ⟨rfl, h1, h2⟩
    have ht : txt l n = [] := by
      unfold txt
      rcases hi with e | ⟨e, _⟩
      · rcases hb with hb | hb
        · exact absurd e hb
        · rw [if_pos hb]
      · rw [e]; simp
    have hq : lft l n = [] ∧ er l n err = 2 := by
      unfold lft er
      rcases hi with e | ⟨e, e2⟩
      · rcases hb with hb | hb
        · exact absurd e hb
        · rw [if_pos hb, if_pos hb, e]; exact ⟨rfl, rfl⟩
      · rw [e, e2]
        by_cases h0 : ([] : List Int).length < n
        · rw [if_pos h0, if_pos h0]; exact ⟨rfl, rfl⟩
        · rw [if_neg h0, if_neg h0]; simp
    rw [ht, hq.1, hq.2]
    exact ⟨none, 0, rfl, Nat.le_refl _, Nat.zero_le _, Row.nil _ _ _, fun q e => (by cases e), h1, h2⟩
  · have he : err = 0 := Decidable.byContradiction fun e => hb (.inl e)
    have hl : n ≤ l.length := Nat.not_lt.1 fun e => hb (.inr e)
    subst he
    refine (raw_ok 0 b l n w h hl hn).mono ?_
    rintro r w' ⟨v, rfl, hV, h1, h2⟩
    have ht : txt l n = l.take n := by unfold txt; rw [if_neg (by omega)]
    have hq : lft l n = l.drop n ∧ er l n 0 = 0 := by unfold lft er; rw [if_neg (by omega), if_neg (by omega)]; exact ⟨rfl, rfl⟩
    have htl : (l.take n).length = n := by rw [List.length_take]; omega
    obtain ⟨a, c, rfl, l1, l2, hR⟩ := hV.row
    rw [ht, hq.1, hq.2, htl]
    exact ⟨a, c, rfl, l1, l2, hR, fun q e => hV.lt q.block (by rw [e]; rfl), h1, h2⟩
theorem ru8f_any (b : Nat) (l : List Int) (err : Int) (w : World) (h : Rq w 0 b l err) (hi : Inv l err) (hd : okD' l) :
    Calls Try.prog 28 #[.pointer (some ⟨b, 0, none⟩)] w fun r w' => r = .returned (.int .i64 (l.getD 0 0)) ∧ Rq w' 0 b (lft l 1) (er l 1 err) ∧ Just b w w' := by
  by_cases hb : badQ l err 1
  · refine (ru8_bad 0 b l err w h hb).mono ?_
    rintro r w' ⟨rfl, h1, h2⟩
    have hl : l = [] := by
      rcases hi with e | ⟨e, _⟩
      · rcases hb with hb | hb
        · exact absurd e hb
        · exact List.length_eq_zero_iff.1 (by omega)
      · exact e
    subst hl
    have he : er [] 1 err = 2 := by
      unfold er
      rw [if_pos (by simp)]
      rcases hi with e | ⟨_, e⟩ <;> rw [e] <;> rfl
    rw [he]
    exact ⟨rfl, h1, h2⟩
  · have he : err = 0 := Decidable.byContradiction fun e => hb (.inl e)
    have hl : 1 ≤ l.length := Nat.not_lt.1 fun e => hb (.inr e)
    subst he
    match l, hl with
    | x :: t, _ => exact ru8_ok 0 b x t w h hd
set_option maxHeartbeats 4000000 in
theorem rdecF_any (a : Option Addr) (c : Nat) (L : List Int) (w : World) (hlc : L.length ≤ c) (hcm : c ≤ maxLen) (h5 : L.length ≤ 100000) (hR : Row w a L.length (bval L)) (hd : okD' L) :
    Calls Try.prog 11 #[.slice a L.length c] w (DecFPost L w) := by
  have o0' := Own.new w 35 #[.int .i64 0, .int .i64 0, .int .i64 0, .int .i64 0, .slice none 0 0, .slice none 0 0]
  have b0' := (Below.refl w.heap.size w).alloc (Nat.le_refl _) (.cells #[.int .i64 0, .int .i64 0, .int .i64 0, .int .i64 0, .slice none 0 0, .slice none 0 0] 35)
  have q0 := Own.new (w.alloc (.cells #[.int .i64 0, .int .i64 0, .int .i64 0, .int .i64 0, .slice none 0 0, .slice none 0 0] 35)) 35 #[.int .i64 0, .int .i64 0, .int .i64 0, .int .i64 0, .slice none 0 0, .slice none 0 0]
  have bb0 := (Below.refl (w.alloc (.cells #[.int .i64 0, .int .i64 0, .int .i64 0, .int .i64 0, .slice none 0 0, .slice none 0 0] 35)).heap.size (w.alloc (.cells #[.int .i64 0, .int .i64 0, .int .i64 0, .int .i64 0, .slice none 0 0, .slice none 0 0] 35))).alloc (Nat.le_refl _) (.cells #[.int .i64 0, .int .i64 0, .int .i64 0, .int .i64 0, .slice none 0 0, .slice none 0 0] 35)
  have o0 := below_own bb0 o0' o0'.lt
  have b0 := b0'.trans (bb0.mono b0'.size)
  have hR1 := hR.below b0
  have hsz' : (w.alloc (.cells #[.int .i64 0, .int .i64 0, .int .i64 0, .int .i64 0, .slice none 0 0, .slice none 0 0] 35)).heap.size = w.heap.size + 1 := by simp
  have hsz : w.heap.size + 1 < ((w.alloc (.cells #[.int .i64 0, .int .i64 0, .int .i64 0, .int .i64 0, .slice none 0 0, .slice none 0 0] 35)).alloc (.cells #[.int .i64 0, .int .i64 0, .int .i64 0, .int .i64 0, .slice none 0 0, .slice none 0 0] 35)).heap.size := by simp
  rw [hsz'] at q0
  unfold maxLen at hcm
  have HDL := Lib.hid hd
  obtain ⟨len, hlen⟩ : ∃ len, L.length = len := ⟨_, rfl⟩
  rw [hlen] at hR1 hlc h5 ⊢
  have HLEN := Lib.hid hlen
  clear hR hlen hd b0' o0' bb0 hsz'
  go_enter Try.func11, Try.ntmps11
  go_upto_region 2 with (refine wpList_built #[.int .i64 0, .int .i64 0, .int .i64 0, .int .i64 0, .slice none 0 0, .slice none 0 0] rfl rfl builtF ?_)
  generalize (w.alloc (.cells #[.int .i64 0, .int .i64 0, .int .i64 0, .int .i64 0, .slice none 0 0, .slice none 0 0] 35)).alloc (.cells #[.int .i64 0, .int .i64 0, .int .i64 0, .int .i64 0, .slice none 0 0, .slice none 0 0] 35) = w1 at *
  obtain ⟨gn, hgn⟩ : ∃ g, w.heap.size + 1 = g := ⟨_, rfl⟩
  rw [hgn] at q0 hsz ⊢
  have hgn1 : w.heap.size < gn := by omega
  have HGN := Lib.hid hgn
  clear hgn
  by_cases h9 : len < 9
  · have HD : Hid (decF L = .error 2) := Lib.hid (by unfold decF; rw [if_pos (by rw [HLEN.out]; exact h9)])
    have g1 : decide (len < 9) = true := by simpa using h9
    have g2 : decide ((len : Int) < 9) = true := by simp; omega
    clear h9
    go_wp2_with (first | (refine wpList_load_row rfl _ _ rfl gn rfl 35 #[.int .i64 0, .int .i64 0, .int .i64 0, .int .i64 0, .slice none 0 0, .slice none 0 0] (0, 0) _ q0 Try.underlying35 rfl (by kernel_rfl) ?_) | (refine wpList_store_row rfl _ _ _ rfl w.heap.size #[.int .i64 0, .int .i64 0, .int .i64 0, .int .i64 0, .slice none 0 0, .slice none 0 0] rfl rfl 35 _ o0 (by kernel_rfl) rfl (cells6 _ _ _ _ _ _) ?_))
    refine bodyPost_ret (results_row_tmp rfl _ _ w.heap.size 35 _ (0, 0) _ rfl (o0.setRow _) Try.underlying35 rfl (by kernel_rfl)) rfl ?_
    unfold DecFPost
    rw [HD.out]
    exact ⟨rfl, (Just.setRow _ _ _).below b0 (Nat.le_refl _) b0.size⟩
  have g1 : decide (len < 9) = false := by simpa using h9
  have g2 : decide ((len : Int) < 9) = false := by simp; omega
  have hG := Cr.rgood_any a len c (fn L) w1 (by omega) hlc (by unfold maxLen; omega) (row_ext hR1 (fun i _ => rfl)) (fn_byte HDL.out)
  have HG := Lib.hid hG
  clear hG
  have hgl : goodL L = Cr.goodb (fn L) len := by unfold goodL; rw [HLEN.out]
  cases hgood : Cr.goodb (fn L) len
  · rw [hgood] at HG
    have HD : Hid (decF L = .error 4) := Lib.hid (by unfold decF; rw [if_neg (by rw [HLEN.out]; exact h9), if_pos (by rw [hgl]; exact hgood)])
    clear h9 hgl hgood
    go_wp2_with fail
    refine HG.out.mono ?_
    rintro r w' ⟨rfl, bg⟩
    have o1 := below_own bg o0 o0.lt
    have q1 := below_own bg q0 q0.lt
    have b1 := b0.trans (bg.mono b0.size)
    go_wp2_with (first | (refine wpList_load_row rfl _ _ rfl gn rfl 35 #[.int .i64 0, .int .i64 0, .int .i64 0, .int .i64 0, .slice none 0 0, .slice none 0 0] (0, 0) _ q1 Try.underlying35 rfl (by kernel_rfl) ?_) | (refine wpList_store_row rfl _ _ _ rfl w.heap.size #[.int .i64 0, .int .i64 0, .int .i64 0, .int .i64 0, .slice none 0 0, .slice none 0 0] rfl rfl 35 _ o1 (by kernel_rfl) rfl (cells6 _ _ _ _ _ _) ?_))
    refine bodyPost_ret (results_row_tmp rfl _ _ w.heap.size 35 _ (0, 0) _ rfl (o1.setRow _) Try.underlying35 rfl (by kernel_rfl)) rfl ?_
    unfold DecFPost
    rw [HD.out]
    exact ⟨rfl, (Just.setRow _ _ _).below b1 (Nat.le_refl _) b1.size⟩
  rw [hgood] at HG
  have HD : Hid (decF L = decR (L.take (L.length - 2))) := Lib.hid (by unfold decF; rw [if_neg (by rw [HLEN.out]; exact h9), if_neg (by rw [hgl, hgood]; simp)])
  rw [HLEN.out] at HD
  obtain ⟨n2, hn2⟩ : ∃ n2 : Nat, len - 2 = n2 := ⟨_, rfl⟩
  rw [hn2] at HD
  have hn2i : (len : Int) - 2 = (n2 : Int) := by omega
  have hn2c : n2 ≤ c := by omega
  have hRl : (L.take n2).length = n2 := by rw [List.length_take, HLEN.out]; omega
  have hRo : okD' (L.take n2) := okD_take' HDL.out
  have hRr : Row w1 a (L.take n2).length (bval (L.take n2)) := by
    rw [hRl]
    exact row_ext (hR1.cut (by omega)) (fun i hi => by unfold bval; rw [tk_get hi])
  obtain ⟨m, k, s, d, q, ne, R6, hR⟩ := seven_of (R := L.take n2) (by omega)
  rw [hR] at HD hRo hRr hRl
  have HRO := Lib.hid hRo
  have hR6l : R6.length ≤ 100000 := by simp at hRl; omega
  have HR6L := Lib.hid hR6l
  have HRR := Lib.hid hRr
  have HRL := Lib.hid hRl
  have HAB : Hid (∀ p, a = some p → p.block < w1.heap.size) := Lib.hid (fun p e => by
    obtain ⟨pb, po, e1, e2, _⟩ := hR1 (by omega)
    rw [e] at e1
    injection e1 with e1
    rw [e1]
    exact e2)
  have hws := b0.size
  have HWS := Lib.hid hws
  clear hRr hRl hR hn2 hgl hgood h9 hRo hR6l hR1
  go_wp2_with fail
  refine HG.out.mono ?_
  rintro r w' ⟨rfl, bg⟩
  have o1 := below_own bg o0 o0.lt
  have q1 := below_own bg q0 q0.lt
  have b1 := b0.trans (bg.mono b0.size)
  have hRr := HRR.out.below bg
  have hg1' : gn < w'.heap.size := q1.lt
  have oR := Own.new w' 81 #[.slice a n2 c, .int .i64 0]
  have bR := (Below.refl w'.heap.size w').alloc (Nat.le_refl _) (.cells #[.slice a n2 c, .int .i64 0] 81)
  have hr2 : Rq (w'.alloc (.cells #[.slice a n2 c, .int .i64 0] 81)) 0 w'.heap.size (m :: k :: s :: d :: q :: ne :: R6) 0 := ⟨a, c, by rw [HRL.out]; exact oR, by rw [HRL.out]; exact hn2c, by unfold maxLen; omega, hRr.below bR, fun p e => ⟨Nat.zero_le _, by have := HAB.out p e; have := bg.size; omega⟩⟩
  have z2 := below_own bR o1 o1.lt
  have nz2 := below_own bR q1 q1.lt
  have b3 := b1.trans (bR.mono b1.size)
  have hsR : w'.heap.size < (w'.alloc (.cells #[.slice a n2 c, .int .i64 0] 81)).heap.size := by simp
  clear HG g1 g2 o0 q0 b0 o1 q1 b1 bg bR oR hRr hsz
  go_upto_region 7 with (fail)
  generalize w'.alloc (.cells #[.slice a n2 c, .int .i64 0] 81) = w2 at *
  obtain ⟨b, hb⟩ : ∃ g, w'.heap.size = g := ⟨_, rfl⟩
  rw [hb] at hr2 hg1' hsR ⊢
  clear hb hn2i
  go_wp2_with fail
  refine (ru8_ok 0 b m (k :: s :: d :: q :: ne :: R6) w2 hr2 HRO.out).mono ?_
  rintro r w3 ⟨rfl, hr3, j3⟩
  have ok3 := HRO.out m (by simp)
  have z3 := j3.own z2 (by omega)
  have nz3 := j3.own nz2 (by omega)
  have b4 := j3.below b3 (by omega) b3.size
  have hs3 : b < w3.heap.size := Nat.lt_of_lt_of_le hsR j3.size
  have HO4 := Lib.hid (okD_tail HRO.out)
  have HO5 := Lib.hid (okD_tail HO4.out)
  have HO6 := Lib.hid (okD_tail HO5.out)
  have HO7 := Lib.hid (okD_tail HO6.out)
  have HO8 := Lib.hid (okD_tail HO7.out)
  have HO9 := Lib.hid (okD_tail HO8.out)
  have hk0 := HO4.out k (by simp)
  have hs0 := HO5.out s (by simp)
  have hd0 := HO6.out d (by simp)
  have hq0 := HO7.out q (by simp)
  have hne0 := HO8.out ne (by simp)
  obtain ⟨mk, hmk⟩ : ∃ e, (m == 197) = e := ⟨_, rfl⟩
  have hmk' : (m != 197) = !mk := by rw [← hmk]; rfl
  clear hr2 j3 z2 nz2 b3 hsR
  go_wp2_with fail
  refine (ru8_ok 0 b k _ w3 hr3 HO4.out).mono ?_
  rintro r w4 ⟨rfl, hr4, j4⟩
  have z4 := j4.own z3 (by omega)
  have nz4 := j4.own nz3 (by omega)
  have b5 := j4.below b4 (by omega) b4.size
  have hs4 := Nat.lt_of_lt_of_le hs3 j4.size
  clear hr3 z3 nz3 b4 j4 hs3
  go_wp2_with fail
  refine (ru8_ok 0 b s _ w4 hr4 HO5.out).mono ?_
  rintro r w5 ⟨rfl, hr5, j5⟩
  have z5 := j5.own z4 (by omega)
  have nz5 := j5.own nz4 (by omega)
  have b6 := j5.below b5 (by omega) b5.size
  have hs5 := Nat.lt_of_lt_of_le hs4 j5.size
  clear hr4 z4 nz4 b5 j5 hs4
  go_wp2_with fail
  refine (ru8_ok 0 b d _ w5 hr5 HO6.out).mono ?_
  rintro r w6 ⟨rfl, hr6, j6⟩
  have z6 := j6.own z5 (by omega)
  have nz6 := j6.own nz5 (by omega)
  have b7 := j6.below b6 (by omega) b6.size
  have hs6 := Nat.lt_of_lt_of_le hs5 j6.size
  clear hr5 z5 nz5 b6 j6 hs5
  go_wp2_with fail
  refine (ru8_ok 0 b q _ w6 hr6 HO7.out).mono ?_
  rintro r w7 ⟨rfl, hr7, j7⟩
  have z7 := j7.own z6 (by omega)
  have nz7 := j7.own nz6 (by omega)
  have b8 := j7.below b7 (by omega) b7.size
  have hs7 := Nat.lt_of_lt_of_le hs6 j7.size
  have oF := Own.new w7 35 #[.int .i64 k, .int .i64 s, .int .i64 d, .int .i64 q, .slice none 0 0, .slice none 0 0]
  have bF := (Below.refl w7.heap.size w7).alloc (Nat.le_refl _) (.cells #[.int .i64 k, .int .i64 s, .int .i64 d, .int .i64 q, .slice none 0 0, .slice none 0 0] 35)
  have z8 := below_own bF z7 z7.lt
  have nz8 := below_own bF nz7 nz7.lt
  have b9 := b8.alloc b8.size (.cells #[.int .i64 k, .int .i64 s, .int .i64 d, .int .i64 q, .slice none 0 0, .slice none 0 0] 35)
  have hr8 := hr7.kept bF hr7.lt
  have hs8 : w7.heap.size < (w7.alloc (.cells #[.int .i64 k, .int .i64 s, .int .i64 d, .int .i64 q, .slice none 0 0, .slice none 0 0] 35)).heap.size := by simp
  clear hr6 z6 nz6 b7 j7 hs6 hr7 z7 nz7 b8
  go_upto_region 9 with (fail)
  generalize w7.alloc (.cells #[.int .i64 k, .int .i64 s, .int .i64 d, .int .i64 q, .slice none 0 0, .slice none 0 0] 35) = w8 at *
  obtain ⟨gf, hgf⟩ : ∃ g, w7.heap.size = g := ⟨_, rfl⟩
  rw [hgf] at oF hs7 hs8 ⊢
  clear hgf bF
  go_wp2_with fail
  refine (ru8_ok 0 b ne R6 w8 hr8 HO8.out).mono ?_
  rintro r w9 ⟨rfl, hr9, j9⟩
  have z9 := j9.own z8 (by omega)
  have nz9 := j9.own nz8 (by omega)
  have b10 := j9.below b9 (by omega) b9.size
  have o9 := j9.own oF (by omega)
  have hs9 := Nat.lt_of_lt_of_le hs8 j9.size
  obtain ⟨nn, rfl⟩ : ∃ n : Nat, ne = (n : Int) := ⟨ne.toNat, by omega⟩
  clear hr8 z8 nz8 b9 j9 hs8 oF
  go_wp2_with fail
  refine (rawf_any b R6 0 nn w9 hr9 (inv_zero _) (by omega)).mono ?_
  rintro r w10 ⟨aE, cE, rfl, hE1, hE2, RE, loE, hr10, j10⟩
  have z10 := j10.own z9 (by omega)
  have nz10 := j10.own nz9 (by omega)
  have b11 := j10.below b10 (by omega) b10.size
  have o10 := j10.own o9 (by omega)
  have hs10 := Nat.lt_of_lt_of_le hs9 j10.size
  have hEo : okD' (txt R6 nn) := txt_ok HO9.out
  have hEl : (txt R6 nn).length ≤ 100000 := Nat.le_trans (txt_len _ _) HR6L.out
  have hloE : ∀ q, aE = some q → gf < q.block ∧ q.block < w10.heap.size := fun q e => by have := loE q e; omega
  clear hr9 z9 nz9 b10 o9 loE
  go_wp2_with fail
  refine (ru8f_any b (l1 R6 nn) (e1 R6 nn) w10 hr10 ((inv_zero R6).next nn) (lft_ok HO9.out)).mono ?_
  rintro r w11 ⟨rfl, hr11, j11⟩
  have z11 := j11.own z10 (by omega)
  have nz11 := j11.own nz10 (by omega)
  have b12 := j11.below b11 (by omega) b11.size
  have o11 := j11.own o10 (by omega)
  have hs11 := Nat.lt_of_lt_of_le hs10 j11.size
  have RE11 := Row.just RE j11 (fun p e => by have := hloE p e; omega)
  have hx0 := get0_ok (lft_ok (n := nn) HO9.out)
  have hnd : (l1 R6 nn).getD 0 0 = ((nd R6 nn : Nat) : Int) := by unfold nd l1; omega
  have hndb : nd R6 nn ≤ 100000 := by unfold nd l1; omega
  rw [hnd]
  clear hr10 z10 nz10 b11 o10 RE hx0 hnd j10
  go_wp2_with fail
  refine (rawf_any b (l2 R6 nn) (e2 R6 nn) (nd R6 nn) w11 hr11 (((inv_zero R6).next nn).next 1) hndb).mono ?_
  rintro r w12 ⟨aD, cD, rfl, hD1, hD2, RD, loD, hr12, j12⟩
  have z12 := j12.own z11 (by omega)
  have nz12 := j12.own nz11 (by omega)
  have b13 := j12.below b12 (by omega) b12.size
  have o12 := j12.own o11 (by omega)
  have hs12 := Nat.lt_of_lt_of_le hs11 j12.size
  have RE12 := Row.just RE11 j12 (fun p e => by have := hloE p e; omega)
  have hDo : okD' (dat R6 nn) := txt_ok (lft_ok (lft_ok HO9.out))
  have hloD : ∀ q, aD = some q → gf < q.block ∧ q.block < w12.heap.size := fun q e => by have := loD q e; omega
  have hloE : ∀ q, aE = some q → gf < q.block ∧ q.block < w12.heap.size := fun q e => by have := hloE q e; have := j11.size; have := j12.size; omega
  clear hr11 z11 nz11 b12 o11 RE11 loD j11
  obtain ⟨D, hDD⟩ : ∃ D, dat R6 nn = D := ⟨_, rfl⟩
  have hDD' : txt (l2 R6 nn) (nd R6 nn) = D := hDD
  rw [hDD'] at hD1 RD ⊢
  rw [hDD] at hDo
  obtain ⟨E, hEE⟩ : ∃ E, txt R6 nn = E := ⟨_, rfl⟩
  rw [hEE] at hE1 RE12 hEo hEl ⊢
  have HDD := Lib.hid hDD
  have HEE := Lib.hid hEE
  clear hDD hDD' hEE
  -- the data goes into the frame
  have y5 : w12.cell? ⟨gf, 5, none⟩ = some (.slice none 0 0) := o12.cell 5
  have f5 := o12.free 5
  have oG : Lb.Own (w12.setCell ⟨gf, 5, none⟩ (.slice aD D.length cD)) gf 35 #[.int .i64 k, .int .i64 s, .int .i64 d, .int .i64 q, .slice none 0 0, .slice aD D.length cD] := o12.put 5 _
  have jG := Just.set gf w12 5 (.slice aD D.length cD)
  have zG := jG.own z12 (by omega)
  have nzG := jG.own nz12 (by omega)
  have bG := jG.below b13 (by omega) b13.size
  have REG := Row.just RE12 jG (fun p e => by have := hloE p e; omega)
  have RDG := Row.just RD jG (fun p e => by have := hloD p e; omega)
  have hsG : (w12.setCell ⟨gf, 5, none⟩ (.slice aD D.length cD)).heap.size = w12.heap.size := by simp [World.setCell]
  have hrG : Rq (w12.setCell ⟨gf, 5, none⟩ (.slice aD D.length cD)) 0 b (l3 R6 nn) (e3 R6 nn) := hr12.kept (jG.below (Below.refl gf w12) (Nat.le_refl _) (by omega)) hs7
  clear hr12 z12 nz12 o12 b13 RE12 RD jG
  go_upto_region 11 with (fail)
  generalize w12.setCell ⟨gf, 5, none⟩ (.slice aD D.length cD) = w13 at *
  clear y5 f5
  have hend := rend_any 0 b (l3 R6 nn) (e3 R6 nn) w13 hrG
  have hpar := parse (n := nn) HO9.out
  obtain ⟨ev, hev⟩ : ∃ x, endE (l3 R6 nn) (e3 R6 nn) = x := ⟨_, rfl⟩
  rw [hev] at hend hpar
  have HEND := Lib.hid hend
  have HPAR := Lib.hid hpar
  clear hend hpar hev hrG
  by_cases hm : ¬ m = 197
  · have HDX := Lib.hid (decR_mark (k := k) (s := s) (d := d) (q := q) (n := nn) (R := R6) hm)
    have hmf : mk = false := by rw [← hmk]; simpa using hm
    subst hmf
    simp only [Bool.not_false] at hmk'
    clear hm hmk
    go_wp2_with (first | (refine wpList_load_row rfl _ _ rfl gn rfl 35 #[.int .i64 0, .int .i64 0, .int .i64 0, .int .i64 0, .slice none 0 0, .slice none 0 0] (0, 0) _ nzG Try.underlying35 rfl (by kernel_rfl) ?_) | (refine wpList_store_row rfl _ _ _ rfl w.heap.size #[.int .i64 0, .int .i64 0, .int .i64 0, .int .i64 0, .slice none 0 0, .slice none 0 0] rfl rfl 35 _ zG (by kernel_rfl) rfl (cells6 _ _ _ _ _ _) ?_))
    refine bodyPost_ret (results_row_tmp rfl _ _ w.heap.size 35 _ (0, 0) _ rfl (zG.setRow _) Try.underlying35 rfl (by kernel_rfl)) rfl ?_
    unfold DecFPost
    rw [HD.out, HDX.out]
    exact ⟨rfl, (Just.setRow _ _ _).below bG (Nat.le_refl _) bG.size⟩
  have hm : m = 197 := by omega
  have hmt : mk = true := by rw [← hmk, hm]; rfl
  subst hm hmt
  clear hmk hmk'
  by_cases hev : ¬ ev = 0
  · have HDX := Lib.hid (decR_no (m := 197) (k := k) (s := s) (d := d) (q := q) (n := nn) (R := R6) (by
      rcases HPAR.out with h | h
      · exact absurd h.1 hev
      · exact h.2))
    have g3 : (ev != 0) = true := by simpa using hev
    clear hev
    go_wp2_with fail
    refine HEND.out.mono ?_
    rintro r w14 ⟨rfl, rfl⟩
    have zH := zG
    have nzH := nzG
    have bH := bG
    go_wp2_with (first | (refine wpList_load_row rfl _ _ rfl gn rfl 35 #[.int .i64 0, .int .i64 0, .int .i64 0, .int .i64 0, .slice none 0 0, .slice none 0 0] (0, 0) _ nzH Try.underlying35 rfl (by kernel_rfl) ?_) | (refine wpList_store_row rfl _ _ _ rfl w.heap.size #[.int .i64 0, .int .i64 0, .int .i64 0, .int .i64 0, .slice none 0 0, .slice none 0 0] rfl rfl 35 _ zH (by kernel_rfl) rfl (cells6 _ _ _ _ _ _) ?_))
    refine bodyPost_ret (results_row_tmp rfl _ _ w.heap.size 35 _ (0, 0) _ rfl (zH.setRow _) Try.underlying35 rfl (by kernel_rfl)) rfl ?_
    unfold DecFPost
    rw [HD.out, HDX.out]
    exact ⟨rfl, (Just.setRow _ _ _).below bH (Nat.le_refl _) bH.size⟩
  have hev0 : ev = 0 := by omega
  subst hev0
  obtain ⟨x, R8, p1, p2, p3, p4, p5⟩ : ∃ x R8, nn ≤ R6.length ∧ R6.drop nn = x :: R8 ∧ R8.length = x.toNat ∧ txt R6 nn = R6.take nn ∧ dat R6 nn = R8 := by
    rcases HPAR.out with h | h
    · exact h.2
    · exact absurd rfl h.1
  rw [HEE.out] at p4
  rw [HDD.out] at p5
  subst p5
  have P2 := Lib.hid p2
  have P3 := Lib.hid p3
  have P4 := Lib.hid p4
  clear hev HPAR p2 p3 p4
  go_wp2_with fail
  refine HEND.out.mono ?_
  rintro r w14 ⟨rfl, rfl⟩
  have zH := zG
  have nzH := nzG
  have bH := bG
  have oH := oG
  have REH := REG
  have RDH := RDG
  have hsH : w12.heap.size ≤ w13.heap.size := by show w12.heap.size ≤ w13.heap.size; omega
  clear zG nzG bG oG REG RDG HEND
  have hDC := rdecode_any aE cE E w13 hE1 hE2 REH hEo (fun p e => by have := hloE p e; omega)
  have HDC := Lib.hid hDC
  obtain ⟨nE, hnE⟩ : ∃ n, E.length = n := ⟨_, rfl⟩
  rw [hnE] at HDC ⊢
  clear hDC hnE REH hEo hEl hE1
  go_wp2_with fail
  refine HDC.out.mono ?_
  intro r w16 hp
  unfold DecPost at hp
  cases hI : decI E with
  | error e =>
    rw [hI] at hp
    simp only at hp
    obtain ⟨rfl, b16⟩ := hp
    have he := decI_errs hI
    have HDX := Lib.hid (decR_e (k := k) (s := s) (d := d) (q := q) p1 P2.out P3.out (by rw [← P4.out]; exact hI))
    have zJ := below_own b16 zH zH.lt
    have nzJ := below_own b16 nzH nzH.lt
    have bJ := bH.trans (b16.mono bH.size)
    have g3 : (e != 0) = true := by simp; omega
    clear hI he HDC
    go_wp2_with (first | (refine wpList_load_row rfl _ _ rfl gn rfl 35 #[.int .i64 0, .int .i64 0, .int .i64 0, .int .i64 0, .slice none 0 0, .slice none 0 0] (0, 0) _ nzJ Try.underlying35 rfl (by kernel_rfl) ?_) | (refine wpList_store_row rfl _ _ _ rfl w.heap.size #[.int .i64 0, .int .i64 0, .int .i64 0, .int .i64 0, .slice none 0 0, .slice none 0 0] rfl rfl 35 _ zJ (by kernel_rfl) rfl (cells6 _ _ _ _ _ _) ?_))
    refine bodyPost_ret (results_row_tmp rfl _ _ w.heap.size 35 _ (0, 0) _ rfl (zJ.setRow _) Try.underlying35 rfl (by kernel_rfl)) rfl ?_
    unfold DecFPost
    rw [HD.out, HDX.out]
    exact ⟨rfl, (Just.setRow _ _ _).below bJ (Nat.le_refl _) bJ.size⟩
  | ok l =>
    rw [hI] at hp
    simp only at hp
    obtain ⟨LL, aL, cL, hLL, rfl, hels, hLa, hLe, b16⟩ := hp
    have oI := below_own b16 oH oH.lt
    have zI := below_own b16 zH zH.lt
    have nzI := below_own b16 nzH nzH.lt
    have bI := bH.trans (b16.mono bH.size)
    have RDI := RDH.below b16
    have y4 : w16.cell? ⟨gf, 4, none⟩ = some (.slice none 0 0) := oI.cell 4
    have f4 := oI.free 4
    have hg15 := oH.lt
    have jJ := Just.set gf w16 4 (.slice aL LL.length cL)
    have zJ := jJ.own zI (by omega)
    have nzJ := jJ.own nzI (by omega)
    have bJ := jJ.below bI (by omega) bI.size
    have oJ : Lb.Own (w16.setCell ⟨gf, 4, none⟩ (.slice aL LL.length cL)) gf 35 #[.int .i64 k, .int .i64 s, .int .i64 d, .int .i64 q, .slice aL LL.length cL, .slice aD D.length cD] := oI.put 4 _
    have RDJ := Row.just RDI jJ (fun p e => by have := hloD p e; omega)
    have helsJ : Els (w16.setCell ⟨gf, 4, none⟩ (.slice aL LL.length cL)) LL aL cL := ⟨hels.lc, hels.cm, Row.just hels.row jJ (fun q e => by have := hLa q e; omega), fun j hj => El.At.same (hels.els j hj) (fun q e1 e2 => jJ.block _ ((hels.els j hj).lt q e1 e2) (by have := hLe j hj q e1 e2; omega))⟩
    have hIT : decI (R6.take nn) = .ok l := by rw [← P4.out]; exact hI
    have hat : (⟨k, s, d, q, LL, aL, cL, D, aD, cD⟩ : Fp).At (w16.setCell ⟨gf, 4, none⟩ (.slice aL LL.length cL)) := ⟨helsJ, hD1, hD2, RDJ, hDo⟩
    have hfr : (⟨k, s, d, q, LL, aL, cL, D, aD, cD⟩ : Fp).fr = ⟨k, s, d, q, l, D⟩ := by rw [← hLL]; rfl
    have hll : ∀ j, j < LL.length → (LL.getD j ep0).e.list.length ≤ 1000000 := els_small (okD_take' HO9.out) (by rw [hLL]; exact hIT)
    have HIT := Lib.hid hIT
    have HLA := Lib.hid hLa
    have HLE := Lib.hid hLe
    clear hI hIT HDC oI zI nzI bI RDI hels RDJ helsJ hLa hLe oH zH nzH bH RDH
    go_upto_region 17 with (fail)
    generalize w16.setCell ⟨gf, 4, none⟩ (.slice aL LL.length cL) = w17 at *
    clear y4 f4
    have hM := rmayF_any _ w17 hat hll
    rw [hfr] at hM
    unfold Fp.vals at hM
    simp only at hM
    have HM := Lib.hid hM
    obtain ⟨nD, hnD⟩ : ∃ n, D.length = n := ⟨_, rfl⟩
    obtain ⟨nL, hnL⟩ : ∃ n, LL.length = n := ⟨_, rfl⟩
    have HND := Lib.hid hnD
    have HNL := Lib.hid hnL
    rw [hnD, hnL] at HM oJ
    rw [hnL]
    have y0 : w17.cell? ⟨gf, 0, none⟩ = some (.int .i64 k) := oJ.cell 0
    have y1 : w17.cell? ⟨gf, 1, none⟩ = some (.int .i64 s) := oJ.cell 1
    have y2 : w17.cell? ⟨gf, 2, none⟩ = some (.int .i64 d) := oJ.cell 2
    have y3 : w17.cell? ⟨gf, 3, none⟩ = some (.int .i64 q) := oJ.cell 3
    have y4 : w17.cell? ⟨gf, 4, none⟩ = some (.slice aL nL cL) := oJ.cell 4
    have y5 : w17.cell? ⟨gf, 5, none⟩ = some (.slice aD nD cD) := oJ.cell 5
    have HFR := Lib.hid hfr
    have hs17 := zJ.lt
    clear hM hnD hnL jJ hfr
    cases hmay : mayF ⟨k, s, d, q, l, D⟩
    · rw [hmay] at HM
      have HDX := Lib.hid (decR_nm (k := k) (s := s) (d := d) (q := q) p1 P2.out P3.out HIT.out hmay)
      clear hmay
      go_wp2_with fail
      refine HM.out.mono ?_
      rintro r w18 ⟨rfl, b18⟩
      have zK := below_own b18 zJ zJ.lt
      have nzK := below_own b18 nzJ nzJ.lt
      have bK := bJ.trans (b18.mono bJ.size)
      go_wp2_with (first | (refine wpList_load_row rfl _ _ rfl gn rfl 35 #[.int .i64 0, .int .i64 0, .int .i64 0, .int .i64 0, .slice none 0 0, .slice none 0 0] (0, 0) _ nzK Try.underlying35 rfl (by kernel_rfl) ?_) | (refine wpList_store_row rfl _ _ _ rfl w.heap.size #[.int .i64 0, .int .i64 0, .int .i64 0, .int .i64 0, .slice none 0 0, .slice none 0 0] rfl rfl 35 _ zK (by kernel_rfl) rfl (cells6 _ _ _ _ _ _) ?_))
      refine bodyPost_ret (results_row_tmp rfl _ _ w.heap.size 35 _ (0, 0) _ rfl (zK.setRow _) Try.underlying35 rfl (by kernel_rfl)) rfl ?_
      unfold DecFPost
      rw [HD.out, HDX.out]
      exact ⟨rfl, (Just.setRow _ _ _).below bK (Nat.le_refl _) bK.size⟩
    · rw [hmay] at HM
      have HDX := Lib.hid (decR_ok (k := k) (s := s) (d := d) (q := q) p1 P2.out P3.out HIT.out hmay)
      clear hmay
      go_wp2_with fail
      refine HM.out.mono ?_
      rintro r w18 ⟨rfl, b18⟩
      have zK := below_own b18 zJ zJ.lt
      have nzK := below_own b18 nzJ nzJ.lt
      have oK := below_own b18 oJ oJ.lt
      have bK := bJ.trans (b18.mono bJ.size)
      have hatK := hat.below b18
      go_wp2_with (first | (refine wpList_load_row rfl _ _ rfl gf rfl 35 #[.int .i64 k, .int .i64 s, .int .i64 d, .int .i64 q, .slice aL nL cL, .slice aD nD cD] (0, 0) _ oK Try.underlying35 rfl (by kernel_rfl) ?_) | (refine wpList_store_row rfl _ _ _ rfl w.heap.size #[.int .i64 k, .int .i64 s, .int .i64 d, .int .i64 q, .slice aL nL cL, .slice aD nD cD] rfl rfl 35 _ zK (by kernel_rfl) rfl (cells6 _ _ _ _ _ _) ?_))
      refine bodyPost_ret (results_row_tmp rfl _ _ w.heap.size 35 _ (0, 0) _ rfl (zK.setRow _) Try.underlying35 rfl (by kernel_rfl)) rfl ?_
      unfold DecFPost
      rw [HD.out, HDX.out]
      have jK := Just.setRow w.heap.size w18 #[.int .i64 k, .int .i64 s, .int .i64 d, .int .i64 q, .slice aL nL cL, .slice aD nD cD]
      refine ⟨⟨k, s, d, q, LL, aL, cL, D, aD, cD⟩, HFR.out, ?_, ?_, jK.below bK (Nat.le_refl _) bK.size⟩
      · unfold Fp.vals
        simp only
        rw [HND.out, HNL.out]
        rfl
      · refine ⟨⟨hatK.els.lc, hatK.els.cm, Row.just hatK.els.row jK (fun q e => by have := HLA.out q e; omega), fun j hj => El.At.same (hatK.els.els j hj) (fun q e1 e2 => jK.block _ ((hatK.els.els j hj).lt q e1 e2) (by have := HLE.out j hj q e1 e2; omega))⟩, hatK.dc, hatK.dm, Row.just hatK.row jK (fun q e => by have := hloD q e; omega), hatK.ok⟩
end Go.Proofs.Ytiflmdekcjbmbaa.Fm
