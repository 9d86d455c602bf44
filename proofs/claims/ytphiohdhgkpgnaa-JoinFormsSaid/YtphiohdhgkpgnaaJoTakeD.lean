/-
  Package join (chapter 18): Desk.Take.
-/
import Derived.Test.YtphiohdhgkpgnaaJoDesk
set_option maxRecDepth 100000
namespace Go.Proofs.Ytphiohdhgkpgnaa.Jo
set_option linter.unusedVariables false
open Go.RowKit Lb Go.Shelf Bf Se Cl

theorem row_just2 {w w' : World} {a : Option Addr} {n b : Nat} {V : Nat → Value} (h : Row w a n V) (j : Just b w w') (hb : 0 < n → ∀ p, a = some p → p.block ≠ b) : Row w' a n V := fun h0 => by
  obtain ⟨q, off, rfl, hq, hc⟩ := h h0
  have hne := hb h0 _ rfl
  exact ⟨q, off, rfl, Nat.lt_of_lt_of_le hq j.size, fun i hi => (World.cell?_of_block (a := ⟨q, off + i, none⟩) (j.block q hq hne)).trans (hc i hi)⟩
/-- What a desk answers. -/
def takeE (n : Nat) (K N : Nat → Int) (l : List Int) : Int :=
  if askE l ≠ 0 then askE l else if (n : Int) ≤ (askR l).nd then 6 else if sealedB (K (askR l).nd.toNat) l = false then 10 else if (askR l).co ≤ N (askR l).nd.toNat then 8 else 0
def takeG0 (l : List Int) (L : Nat → C) (m : Nat) : Gt := ⟨(askR l).nd, if mayL L m = true then 0 else 1, (askR l).no, if mayL L m = true then m else 0, L, 0⟩
def takeG (n : Nat) (K N : Nat → Int) (l : List Int) (L : Nat → C) (m : Nat) : Gt :=
  if takeE n K N l = 0 then ⟨(askR l).nd, if mayL L m = true then 0 else 1, (askR l).no, if mayL L m = true then m else 0, L, tagL (K (askR l).nd.toNat) (giveB (takeG0 l L m))⟩ else giveN
def takeN (n : Nat) (K N : Nat → Int) (l : List Int) : Nat → Int := if takeE n K N l = 0 then setN N (askR l).nd.toNat (askR l).co else N
def TkP (d n : Nat) (K N : Nat → Int) (l : List Int) (L : Nat → C) (m : Nat) (w : World) (r : Ending) (w' : World) : Prop :=
  (∃ a c, r = .returned (.tuple #[.agg ((takeG n K N l L m).vals a c), .int .i64 (takeE n K N l)]) ∧ (takeG n K N l L m).n ≤ c ∧ c ≤ maxLen ∧ Row w' a ((takeG n K N l L m).n * 5) (cv (takeG n K N l L m).L)) ∧
  Dk w' d n K (takeN n K N l) ∧ Just d w w'
theorem tk_err {d n : Nat} {K N : Nat → Int} {l : List Int} {L : Nat → C} {m : Nat} {w w' : World} {e : Int} (h : takeE n K N l = e) (he : e ≠ 0) (hD : Dk w' d n K N) (hJ : Just d w w') :
    TkP d n K N l L m w (.returned (.tuple #[.agg (giveN.vals none 0), .int .i64 e])) w' := by
  have hG : takeG n K N l L m = giveN := by unfold takeG; rw [if_neg (by rw [h]; exact he)]
  have hN : takeN n K N l = N := by unfold takeN; rw [if_neg (by rw [h]; exact he)]
  refine ⟨⟨none, 0, by rw [hG, h], by rw [hG]; exact Nat.le_refl _, Nat.zero_le _, by rw [hG]; exact Row.nil _ _ _⟩, by rw [hN]; exact hD, hJ⟩
theorem just_high {d b : Nat} {w w1 w2 : World} (h : Just d w w1) (hb : w.heap.size ≤ b) (j : Just b w1 w2) : Just d w w2 := ⟨j.os.trans h.os, j.tape.trans h.tape, j.output.trans h.output, Nat.le_trans h.size j.size, fun k hk hne => (j.block k (Nat.lt_of_lt_of_le hk h.size) (by omega)).trans (h.block k hk hne)⟩
theorem wp_K {P : Program} {o : Oper} {a : Act} {w : World} {K0 : Act → World → Prop} {Q : Exit → Act → World → Prop} (h : ∀ K : Act → World → Prop, (∀ a w, K0 a w → K a w) → Oper.wp P o a w K Q) : Oper.wp P o a w K0 Q := h _ (fun _ _ h => h)
theorem drew_one (w : World) : w.drew = w.drewN 1 := rfl
theorem Bs.drewN {w : World} {a : Option Addr} {c : Nat} {l : List Int} (h : Bs w a c l) (m : Nat) : Bs (w.drewN m) a c l := ⟨h.le, h.cap, h.row.drewN m⟩
theorem just_low {d : Nat} {w w' : World} (h : Below w.heap.size w w') : Just d w w' := ⟨h.os, h.tape, h.output, h.size, fun k hk _ => h.block k hk⟩
set_option maxHeartbeats 8000000 in
theorem take_any (d n : Nat) (K N : Nat → Int) (a : Option Addr) (c : Nat) (l : List Int) (A : Option Addr) (m cc : Nat) (L : Nat → C) (w : World) (h : Dk w d n K N) (hn : n ≤ 16) (hK : ∀ i, 0 ≤ K i) (hl : l.length ≤ 1000) (hR : Bs w a c l) (hB : okB l) (hm : m ≤ cc) (hcc : cc ≤ maxLen) (hmm : m ≤ 1000000) (hL : Row w A (m * 5) (cv L)) (hAd : ∀ p, A = some p → 0 < m * 5 → p.block ≠ d ∧ p.block < w.heap.size) :
    Calls Try.prog 22 #[.pointer (some ⟨d, 0, none⟩), .slice a l.length c, .slice A m cc] w (TkP d n K N l L m w) := by
  have b0 := (Below.refl w.heap.size w).alloc (Nat.le_refl _) (.cells #[.int .i64 0, .int .i64 0, .int .u32 0, .slice none 0 0, .int .u32 0] 28)
  have o0 := Own.new w 28 #[.int .i64 0, .int .i64 0, .int .u32 0, .slice none 0 0, .int .u32 0]
  have hd0 : d < w.heap.size := Blk.lt h
  have PA := asked_any a c l _ hl (hR.below b0) hB
  have hle := hR.le
  have hcap := hR.cap
  unfold maxLen at hcap
  have HB := Lib.hid hB
  have HL := Lib.hid hl
  obtain ⟨q, hq⟩ : ∃ q, askR l = q := ⟨_, rfl⟩
  rw [hq] at PA
  have HQ := Lib.hid hq
  obtain ⟨ln', hln⟩ : ∃ n, l.length = n := ⟨_, rfl⟩
  have HLN := Lib.hid hln
  rw [hln] at PA hl hle ⊢
  have hn63 : (ln' : Int) ≤ 9223372036854775807 := by omega
  have hc63 : (c : Int) ≤ 9223372036854775807 := by omega
  have hm63 : (m : Int) ≤ 9223372036854775807 := by omega
  unfold maxLen at hcc
  have hcc63 : (cc : Int) ≤ 9223372036854775807 := by omega
  clear hq hB hln
  obtain ⟨q1, q2, q3, q4, q5⟩ := q
  unfold Rq.vals at PA
  dsimp only at PA
  go_enter Try.func22, Try.ntmps22
  go_upto_region 1 with (fail)
  obtain ⟨g, hg⟩ : ∃ g, w.heap.size = g := ⟨_, rfl⟩
  have HG := Lib.hid hg
  have D0 : Dk _ d n K N := below_blk b0 h hd0
  have R0 := hR.below b0
  have L0 := hL.below b0
  have hs0 : g < (w.alloc (.cells #[.int .i64 0, .int .i64 0, .int .u32 0, .slice none 0 0, .int .u32 0] 28)).heap.size := by rw [← hg]; simp
  generalize w.alloc (.cells #[.int .i64 0, .int .i64 0, .int .u32 0, .slice none 0 0, .int .u32 0] 28) = w1 at *
  rw [hg] at b0 o0 hd0 ⊢
  have HNA : Hid (0 < m * 5 → ∀ p, A = some p → p.block ≠ d) := Lib.hid (fun h0 p hp => (hAd p hp h0).1)
  have HNB0 : Hid (0 < m * 5 → ∀ p, A = some p → p.block < g) := Lib.hid (fun h0 p hp => by rw [← hg]; exact (hAd p hp h0).2)
  clear hg h hR hL hAd
  go_wp2_with fail
  refine PA.mono ?_
  rintro r w2 ⟨rfl, b2⟩
  have hs2 := Nat.lt_of_lt_of_le hs0 b2.size
  have o2 := below_own b2 o0 hs0
  have D2 : Dk _ d n K N := below_blk b2 D0 (Nat.lt_trans hd0 hs0)
  have R2 := R0.below b2
  have L2 := L0.below b2
  have b3 := b0.trans (b2.mono (Nat.le_of_lt hs0))
  have bb := (Below.refl w2.heap.size w2).alloc (Nat.le_refl _) (.cells #[.int .i64 q1, .int .i64 q2, .int .u32 q3, .int .u32 q4, .int .u32 q5] 25)
  have r3 := Own.new w2 25 #[.int .i64 q1, .int .i64 q2, .int .u32 q3, .int .u32 q4, .int .u32 q5]
  have hs3 : w2.heap.size < (w2.alloc (.cells #[.int .i64 q1, .int .i64 q2, .int .u32 q3, .int .u32 q4, .int .u32 q5] 25)).heap.size := by simp
  have o3 := below_own bb o2 hs2
  have D3 : Dk _ d n K N := below_blk bb D2 (Nat.lt_trans hd0 hs2)
  have R3 := R2.below bb
  have L3 := L2.below bb
  have b4 := b3.trans (bb.mono (Nat.le_of_lt hs2))
  clear PA b0 o0 D0 R0 L0 hs0 b2 o2 D2 R2 L2 b3
  go_upto_region 4 with (fail)
  obtain ⟨rb, hrb⟩ : ∃ g, w2.heap.size = g := ⟨_, rfl⟩
  rw [hrb] at r3 hs3 hs2 ⊢
  generalize w2.alloc (.cells #[.int .i64 q1, .int .i64 q2, .int .u32 q3, .int .u32 q4, .int .u32 q5] 25) = w3 at *
  clear bb hrb
  by_cases he : askE l = 0
  case neg =>
    have HE := Lib.hid he
    obtain ⟨e, hee⟩ : ∃ e, askE l = e := ⟨_, rfl⟩
    rw [hee] at he ⊢
    have HEE := Lib.hid hee
    have he2 : (e == 0) = false := by simpa using he
    have he3 : (e != 0) = true := by simpa using he
    have hsz := Nat.le_of_lt (Nat.lt_trans hs2 hs3)
    clear hee he
    have k0 := o3.cell 0
    have k1 := o3.cell 1
    have k2 := o3.cell 2
    have k3 := o3.cell 3
    have k4 := o3.cell 4
    have f0 := o3.free 0
    have f1 := o3.free 1
    have f2 := o3.free 2
    have f3 := o3.free 3
    have f4 := o3.free 4
    have oz := (((((o3.put 0 (.int .i64 0)).put 1 (.int .i64 0)).put 2 (.int .u32 0)).put 3 (.slice none 0 0)).put 4 (.int .u32 0))
    have jz := ((((((Just.refl g w3).put 0 (.int .i64 0)).put 1 (.int .i64 0)).put 2 (.int .u32 0)).put 3 (.slice none 0 0)).put 4 (.int .u32 0))
    have bz := jz.below b4 (Nat.le_refl _) hsz
    have Dz : Dk _ d n K N := jz.blk D3 (Nat.ne_of_lt hd0)
    have HZ := Lib.hid oz
    have HJZ := Lib.hid bz
    have HDZ := Lib.hid Dz
    clear oz jz bz Dz
    go_wp2_with fail
    refine bodyPost_ret (results_row_tmp rfl _ _ g 28 _ (0, 0) _ rfl HZ.out Try.underlying28 rfl (by kernel_rfl)) rfl ?_
    exact tk_err (e := e) (by unfold takeE; rw [if_pos HE.out]; exact HEE.out) (by have := HE.out; rw [HEE.out] at this; exact this) HDZ.out (just_low (by rw [HG.out]; exact HJZ.out) )
  rw [he]
  obtain ⟨e15, _, end1, _, eR⟩ := askE_ok he
  have HE := Lib.hid he
  have hq1 := eR
  rw [HQ.out] at hq1
  injection hq1 with hq1 hq2 hq3 hq4 hq5
  rw [← hq1] at end1
  have hn1 := nodeB_iff.1 end1
  have h3in : In32 q3 := by rw [hq3]; exact n4_in HB.out 3
  have hsz := Nat.le_of_lt (Nat.lt_trans hs2 hs3)
  obtain ⟨k, rfl⟩ : ∃ k : Nat, q1 = (k : Int) := ⟨q1.toNat, by omega⟩
  have hk16 : k < 16 := by omega
  have hkn : ((k : Int)).toNat = k := by omega
  have HKN := Lib.hid hkn
  have HE15 := Lib.hid e15
  have HND := Lib.hid end1
  have H3 := Lib.hid h3in
  clear he eR hq1 hq2 hq3 hq4 hq5 end1 hn1 h3in hkn e15
  have c0 : w3.cell? ⟨rb, 0, none⟩ = some (.int .i64 (k : Int)) := r3.cell 0
  have d0 := D3.n
  by_cases hnk : n ≤ k
  case pos =>
    have HNK := Lib.hid hnk
    have g1 : decide ((n : Int) ≤ (k : Int)) = true := by simp; omega
    have g2 : decide (n ≤ k) = true := by simp; omega
    clear hnk
    go_upto_region 6 with (fail)
    go_quiet (fail)
    have r4 := r3.drewN nq
    have o4 := o3.drewN nq
    have D4 : Dk _ d n K N := Blk.drewN D3 nq
    have R4 := Bs.drewN R3 nq
    have L4 := L3.drewN nq
    have b5 := below_drewN b4 nq
    have hs4 : rb < (w3.drewN nq).heap.size := hs3
    have hsz : g ≤ (w3.drewN nq).heap.size := hsz
    clear r3 o3 D3 R3 L3 b4 hs3 c0 d0
    generalize w3.drewN nq = w4 at *
    have k0 := o4.cell 0
    have k1 := o4.cell 1
    have k2 := o4.cell 2
    have k3 := o4.cell 3
    have k4 := o4.cell 4
    have f0 := o4.free 0
    have f1 := o4.free 1
    have f2 := o4.free 2
    have f3 := o4.free 3
    have f4 := o4.free 4
    have oz := (((((o4.put 0 (.int .i64 0)).put 1 (.int .i64 0)).put 2 (.int .u32 0)).put 3 (.slice none 0 0)).put 4 (.int .u32 0))
    have jz := ((((((Just.refl g w4).put 0 (.int .i64 0)).put 1 (.int .i64 0)).put 2 (.int .u32 0)).put 3 (.slice none 0 0)).put 4 (.int .u32 0))
    have bz := jz.below b5 (Nat.le_refl _) hsz
    have Dz : Dk _ d n K N := jz.blk D4 (Nat.ne_of_lt hd0)
    have HZ := Lib.hid oz
    have HJZ := Lib.hid bz
    have HDZ := Lib.hid Dz
    clear oz jz bz Dz
    go_wp2_with fail
    refine bodyPost_ret (results_row_tmp rfl _ _ g 28 _ (0, 0) _ rfl HZ.out Try.underlying28 rfl (by kernel_rfl)) rfl ?_
    exact tk_err (e := 6) (by unfold takeE; rw [if_neg (by rw [HE.out]; decide), HQ.out]; exact if_pos (by have := HNK.out; dsimp only; omega)) (by decide) HDZ.out (just_low (by rw [HG.out]; exact HJZ.out) )
  have HNK := Lib.hid hnk
  have g1 : decide ((n : Int) ≤ (k : Int)) = false := by simp; omega
  have g2 : decide (n ≤ k) = false := by simp; omega
  have g3 : (k : Int) < 16 := by omega
  clear hnk
  go_upto_region 6 with (fail)
  go_quiet (fail)
  have r4 := r3.drewN nq
  have o4 := o3.drewN nq
  have D4 : Dk _ d n K N := Blk.drewN D3 nq
  have R4 := Bs.drewN R3 nq
  have L4 := L3.drewN nq
  have b5 := below_drewN b4 nq
  have hs4 : rb < (w3.drewN nq).heap.size := hs3
  have hsz : g ≤ (w3.drewN nq).heap.size := hsz
  clear r3 o3 D3 R3 L3 b4 hs3 c0 d0
  generalize w3.drewN nq = w4 at *
  have c0 : w4.cell? ⟨rb, 0, none⟩ = some (.int .i64 (k : Int)) := r4.cell 0
  have d1 := D4.key hk16
  have d0 : ∀ z : Gw w4, z.toW.cell? ⟨rb, 0, none⟩ = some (.int .i64 (k : Int)) := fun z => (z.ok.cell (lt_of_cell c0)).trans c0
  have d1 : ∀ z : Gw w4, z.toW.cell? ⟨d, 1 + k, none⟩ = some (.int .u64 (K k)) := fun z => (z.ok.cell (lt_of_cell d1)).trans d1
  have PS : ∀ z : Gw w4, Calls Try.prog 44 #[.int .u64 (K k), .slice a ln' c] z.toW fun r w' => r = .returned (.bool (sealedB (K k) l)) ∧ Below z.toW.heap.size z.toW w' := fun z => by
    have := issealed_any (K k) a c l z.toW (hK k) HL.out (by rw [HE15.out]; decide) (R4.below z.ok) HB.out
    rw [HLN.out] at this
    exact this
  obtain ⟨sb, hsb⟩ : ∃ s, sealedB (K k) l = s := ⟨_, rfl⟩
  simp only [hsb] at PS
  have HSB := Lib.hid hsb
  have HPS := Lib.hid PS
  clear PS hsb
  cases sb with
  | false =>
    go_wp2_with fail
    refine wp_region_grow w4 (Below.refl _ _) [.is (.pointer (some ⟨d, 0, none⟩)), .is (.pointer (some ⟨rb, 0, none⟩)), .is (.int .i64 (k : Int)), .is (.pointer (some ⟨d, 0, none⟩)), .is (.pointer (some ⟨d, 1, none⟩)), .is (.pointer (some ⟨d, 1 + k, none⟩)), .is (.int .u64 (K k)), .is (.slice a ln' c), .is (.bool false), .is (.bool true), .is (.bool true)] [] (by kernel_rfl) (by kernel_rfl) rfl (by kernel_rfl) ?_
    iterate 8
      refine kd_is (by rfl) (fun z hz K Q hK => ?_) ?_
      · go_big_op
        exact hK _ _ rfl rfl
      simp only [Act.put, List.setIfInBounds_toArray, List.set_cons_zero, List.set_cons_succ]
    refine kd_isc (by rfl) (fun z hz Kk Q hKk => ?_) ?_
    · go_big_op
      refine (HPS.out z).mono ?_
      rintro e w5 ⟨rfl, bz⟩
      exact hKk _ _ rfl bz
    simp only [Act.put, List.setIfInBounds_toArray, List.set_cons_zero, List.set_cons_succ]
    iterate 2
      refine kd_is (by rfl) (fun z hz K Q hK => ?_) ?_
      · go_big_op
        exact hK _ _ rfl rfl
      simp only [Act.put, List.setIfInBounds_toArray, List.set_cons_zero, List.set_cons_succ]
    refine kd_nil (fun z hz => ?_)
    have r5 := below_own z.ok r4 hs4
    have o5 := below_own z.ok o4 (Nat.lt_trans hs2 hs4)
    have D5 : Dk _ d n K N := below_blk z.ok D4 (Nat.lt_trans hd0 (Nat.lt_trans hs2 hs4))
    have L5 := L4.below z.ok
    have b6 := b5.trans (z.ok.mono hsz)
    have hs5 := Nat.lt_of_lt_of_le hs4 z.ok.size
    have hsz := Nat.le_trans hsz z.ok.size
    clear hz r4 o4 D4 R4 L4 b5 hs4 c0 d0 d1
    generalize z.toW = w5 at *
    clear z
    have k0 := o5.cell 0
    have k1 := o5.cell 1
    have k2 := o5.cell 2
    have k3 := o5.cell 3
    have k4 := o5.cell 4
    have f0 := o5.free 0
    have f1 := o5.free 1
    have f2 := o5.free 2
    have f3 := o5.free 3
    have f4 := o5.free 4
    have oz := (((((o5.put 0 (.int .i64 0)).put 1 (.int .i64 0)).put 2 (.int .u32 0)).put 3 (.slice none 0 0)).put 4 (.int .u32 0))
    have jz := ((((((Just.refl g w5).put 0 (.int .i64 0)).put 1 (.int .i64 0)).put 2 (.int .u32 0)).put 3 (.slice none 0 0)).put 4 (.int .u32 0))
    have bz := jz.below b6 (Nat.le_refl _) hsz
    have Dz : Dk _ d n K N := jz.blk D5 (Nat.ne_of_lt hd0)
    have HZ := Lib.hid oz
    have HJZ := Lib.hid bz
    have HDZ := Lib.hid Dz
    clear oz jz bz Dz
    go_wp2_with fail
    refine bodyPost_ret (results_row_tmp rfl _ _ g 28 _ (0, 0) _ rfl HZ.out Try.underlying28 rfl (by kernel_rfl)) rfl ?_
    exact tk_err (e := 10) (by unfold takeE; rw [if_neg (by rw [HE.out]; decide), HQ.out, if_neg (by have := HNK.out; dsimp only; omega)]; dsimp only; rw [HKN.out, HSB.out]; exact if_pos rfl) (by decide) HDZ.out (just_low (by rw [HG.out]; exact HJZ.out) )
  | true =>
    go_wp2_with fail
    refine wp_region_grow w4 (Below.refl _ _) [.is (.pointer (some ⟨d, 0, none⟩)), .is (.pointer (some ⟨rb, 0, none⟩)), .is (.int .i64 (k : Int)), .is (.pointer (some ⟨d, 0, none⟩)), .is (.pointer (some ⟨d, 1, none⟩)), .is (.pointer (some ⟨d, 1 + k, none⟩)), .is (.int .u64 (K k)), .is (.slice a ln' c), .is (.bool true), .is (.bool false), .is (.bool false)] [] (by kernel_rfl) (by kernel_rfl) rfl (by kernel_rfl) ?_
    iterate 8
      refine kd_is (by rfl) (fun z hz K Q hK => ?_) ?_
      · go_big_op
        exact hK _ _ rfl rfl
      simp only [Act.put, List.setIfInBounds_toArray, List.set_cons_zero, List.set_cons_succ]
    refine kd_isc (by rfl) (fun z hz Kk Q hKk => ?_) ?_
    · go_big_op
      refine (HPS.out z).mono ?_
      rintro e w5 ⟨rfl, bz⟩
      exact hKk _ _ rfl bz
    simp only [Act.put, List.setIfInBounds_toArray, List.set_cons_zero, List.set_cons_succ]
    iterate 2
      refine kd_is (by rfl) (fun z hz K Q hK => ?_) ?_
      · go_big_op
        exact hK _ _ rfl rfl
      simp only [Act.put, List.setIfInBounds_toArray, List.set_cons_zero, List.set_cons_succ]
    refine kd_nil (fun z hz => ?_)
    have r5 := below_own z.ok r4 hs4
    have o5 := below_own z.ok o4 (Nat.lt_trans hs2 hs4)
    have D5 : Dk _ d n K N := below_blk z.ok D4 (Nat.lt_trans hd0 (Nat.lt_trans hs2 hs4))
    have L5 := L4.below z.ok
    have b6 := b5.trans (z.ok.mono hsz)
    have hs5 := Nat.lt_of_lt_of_le hs4 z.ok.size
    have hsz := Nat.le_trans hsz z.ok.size
    clear hz r4 o4 D4 R4 L4 b5 hs4 c0 d0 d1
    generalize z.toW = w5 at *
    clear z
    have c3 : w5.cell? ⟨rb, 3, none⟩ = some (.int .u32 q4) := r5.cell 3
    have c0 : w5.cell? ⟨rb, 0, none⟩ = some (.int .i64 (k : Int)) := r5.cell 0
    have d1 := D5.count hk16
    by_cases hco : q4 ≤ N k
    case pos =>
      have HCO := Lib.hid hco
      have g4 : decide (q4 ≤ N k) = true := by simpa using hco
      clear hco
      go_wp2_with fail
      go_quiet (fail)
      have r6 := r5.drewN nq
      have o6 := o5.drewN nq
      have D6 : Dk _ d n K N := Blk.drewN D5 nq
      have L6 := L5.drewN nq
      have b7 := below_drewN b6 nq
      have hs6 : rb < (w5.drewN nq).heap.size := hs5
      have hsz : g ≤ (w5.drewN nq).heap.size := hsz
      clear r5 o5 D5 L5 b6 hs5 c0 c3 d1
      generalize w5.drewN nq = w6 at *
      have k0 := o6.cell 0
      have k1 := o6.cell 1
      have k2 := o6.cell 2
      have k3 := o6.cell 3
      have k4 := o6.cell 4
      have f0 := o6.free 0
      have f1 := o6.free 1
      have f2 := o6.free 2
      have f3 := o6.free 3
      have f4 := o6.free 4
      have oz := (((((o6.put 0 (.int .i64 0)).put 1 (.int .i64 0)).put 2 (.int .u32 0)).put 3 (.slice none 0 0)).put 4 (.int .u32 0))
      have jz := ((((((Just.refl g w6).put 0 (.int .i64 0)).put 1 (.int .i64 0)).put 2 (.int .u32 0)).put 3 (.slice none 0 0)).put 4 (.int .u32 0))
      have bz := jz.below b7 (Nat.le_refl _) hsz
      have Dz : Dk _ d n K N := jz.blk D6 (Nat.ne_of_lt hd0)
      have HZ := Lib.hid oz
      have HJZ := Lib.hid bz
      have HDZ := Lib.hid Dz
      clear oz jz bz Dz
      go_wp2_with fail
      refine bodyPost_ret (results_row_tmp rfl _ _ g 28 _ (0, 0) _ rfl HZ.out Try.underlying28 rfl (by kernel_rfl)) rfl ?_
      exact tk_err (e := 8) (by unfold takeE; rw [if_neg (by rw [HE.out]; decide), HQ.out, if_neg (by have := HNK.out; dsimp only; omega)]; dsimp only; rw [HKN.out, HSB.out, if_neg (by decide)]; exact if_pos HCO.out) (by decide) HDZ.out (just_low (by rw [HG.out]; exact HJZ.out) )
    have HCO := Lib.hid hco
    have g4 : decide (q4 ≤ N k) = false := by simpa using hco
    clear hco
    go_wp2_with fail
    go_quiet (fail)
    have r6 := r5.drewN nq
    have o6 := o5.drewN nq
    have D6 : Dk _ d n K N := Blk.drewN D5 nq
    have L6 := L5.drewN nq
    have b7 := below_drewN b6 nq
    have hs6 : rb < (w5.drewN nq).heap.size := hs5
    have hsz : g ≤ (w5.drewN nq).heap.size := hsz
    clear r5 o5 D5 L5 b6 hs5 c0 c3 d1
    generalize w5.drewN nq = w6 at *
    have HT0 : Hid (takeE n K N l = 0) := Lib.hid (by unfold takeE; rw [if_neg (by rw [HE.out]; decide), HQ.out, if_neg (by have := HNK.out; dsimp only; omega)]; dsimp only; rw [HKN.out, HSB.out, if_neg (by decide)]; exact if_neg (by have := HCO.out; omega))
    have c3 : w6.cell? ⟨rb, 3, none⟩ = some (.int .u32 q4) := r6.cell 3
    have c0 : w6.cell? ⟨rb, 0, none⟩ = some (.int .i64 (k : Int)) := r6.cell 0
    have d1 := D6.count hk16
    have f1 : w6.frozen? ⟨d, 17 + k, none⟩ = false := Blk.free D6 _
    have HTN : Hid (takeN n K N l = setN N k q4) := Lib.hid (by unfold takeN; rw [if_pos HT0.out, HQ.out]; dsimp only; rw [HKN.out])
    go_wp2_with fail
    go_region
    have j7 := Just.set d w6 (17 + k) (.int .u32 q4)
    have D7 : Dk (w6.setCell ⟨d, 17 + k, none⟩ (.int .u32 q4)).drew d n K (setN N k q4) := Dk.set D6 hk16 q4
    have r7 : Own (w6.setCell ⟨d, 17 + k, none⟩ (.int .u32 q4)).drew rb 25 _ := j7.own r6 (by omega)
    have o7 : Own (w6.setCell ⟨d, 17 + k, none⟩ (.int .u32 q4)).drew g 28 _ := j7.own o6 (by omega)
    have L7 : Row (w6.setCell ⟨d, 17 + k, none⟩ (.int .u32 q4)).drew A (m * 5) (cv L) := row_just2 L6 (j7.drewN 1) HNA.out
    have jj7 : Just d w (w6.setCell ⟨d, 17 + k, none⟩ (.int .u32 q4)).drew := ((just_low (by rw [HG.out]; exact b7)).trans j7).drewN 1
    have hs7 : rb < (w6.setCell ⟨d, 17 + k, none⟩ (.int .u32 q4)).drew.heap.size := Nat.lt_of_lt_of_le hs6 j7.size
    have hsz : g ≤ (w6.setCell ⟨d, 17 + k, none⟩ (.int .u32 q4)).drew.heap.size := Nat.le_trans hsz j7.size
    clear r6 o6 D6 L6 b7 hs6 c0 c3 d1 f1 j7
    generalize (w6.setCell ⟨d, 17 + k, none⟩ (.int .u32 q4)).drew = w7 at *
    have c0 : w7.cell? ⟨rb, 0, none⟩ = some (.int .i64 (k : Int)) := r7.cell 0
    have c2 : w7.cell? ⟨rb, 2, none⟩ = some (.int .u32 q3) := r7.cell 2
    have ba := (Below.refl w7.heap.size w7).alloc (Nat.le_refl _) (.cells #[.int .i64 (k : Int), .int .i64 1, .int .u32 q3, .slice none 0 0, .int .u32 0] 28)
    have g8 := Own.new w7 28 #[.int .i64 (k : Int), .int .i64 1, .int .u32 q3, .slice none 0 0, .int .u32 0]
    have D8 : Dk _ d n K (setN N k q4) := below_blk ba D7 (Blk.lt D7)
    have r8 := below_own ba r7 hs7
    have o8 := below_own ba o7 o7.lt
    have L8 := L7.below ba
    have j8 : Just d w _ := jj7.trans (just_low ba)
    have hs8 : w7.heap.size < (w7.alloc (.cells #[.int .i64 (k : Int), .int .i64 1, .int .u32 q3, .slice none 0 0, .int .u32 0] 28)).heap.size := by simp
    go_upto_region 14 with (fail)
    obtain ⟨g2, hg2⟩ : ∃ g, w7.heap.size = g := ⟨_, rfl⟩
    rw [hg2] at g8 hs7 hsz hs8 ⊢
    generalize w7.alloc (.cells #[.int .i64 (k : Int), .int .i64 1, .int .u32 q3, .slice none 0 0, .int .u32 0] 28) = w8 at *
    have hgg2 : g ≠ g2 := by omega
    have hdg2 : d ≠ g2 := by omega
    have hg2g : g ≤ g2 := hsz
    clear ba hg2 D7 r7 o7 L7 jj7 c0 c2 hsz
    have PM := cellsmay_any A m cc L w8 hm (by unfold maxLen; omega) L8
    cases hmm : mayL L m with
    | false =>
      rw [hmm] at PM
      have HGG : Hid (takeG n K N l L m = ⟨(k : Int), 1, q3, 0, L, tagL (K k) (giveB ⟨(k : Int), 1, q3, 0, L, 0⟩)⟩) := Lib.hid (by
        unfold takeG takeG0
        rw [if_pos HT0.out, HQ.out, hmm]
        dsimp only
        rw [HKN.out]
        rfl)
      clear hmm
      go_wp2_with fail
      refine PM.mono ?_
      rintro e w9 ⟨rfl, b9⟩
      have g2o := below_own b9 g8 hs8
      have D9 : Dk _ d n K (setN N k q4) := below_blk b9 D8 (Blk.lt D8)
      have r9 := below_own b9 r8 r8.lt
      have o9 := below_own b9 o8 o8.lt
      have j9 : Just d w _ := j8.trans (just_low b9)
      have LR : Row w9 none (0 * 5) (cv L) := Row.nil _ _ _
      have HM8 : 0 ≤ 8 := by decide
      have HMA : ∀ j, j < 0 → (L j).may = true := fun j hj => absurd hj (by omega)
      have HLE : 0 ≤ 0 := Nat.le_refl _
      have HCM : 0 ≤ maxLen := Nat.zero_le _
      have HNG : ∀ p : Addr, (none : Option Addr) = some p → p.block ≠ g2 := fun p hp => by cases hp
      have HNG0 : ∀ p : Addr, (none : Option Addr) = some p → p.block ≠ g := fun p hp => by cases hp
      clear b9 g8 D8 r8 o8 L8 j8 hs8 PM
      have hgb : ∀ z : Gw w9, Calls Try.prog 46 #[.agg #[.int .i64 (k : Int), .int .i64 1, .int .u32 q3, .slice none 0 0, .int .u32 0]] z.toW fun e w' => ∃ a c, e = .returned (.slice a (giveB ⟨(k : Int), 1, q3, 0, L, 0⟩).length c) ∧ Bs w' a c (giveB ⟨(k : Int), 1, q3, 0, L, 0⟩) ∧ Below z.toW.heap.size z.toW w' := fun z =>
        gbody_any ⟨(k : Int), 1, q3, 0, L, 0⟩ none 0 z.toW HND.out (by show (0 : Int) ≤ 1 ∧ (1 : Int) < 256; decide) H3.out HM8 HMA HLE HCM (LR.below z.ok)
      have hok : okB (giveB ⟨(k : Int), 1, q3, 0, L, 0⟩) := giveB_ok HND.out (by show (0 : Int) ≤ 1 ∧ (1 : Int) < 256; decide) HM8 HMA
      have hnb : (giveB ⟨(k : Int), 1, q3, 0, L, 0⟩).length ≤ 1000 := by rw [giveB_len]; have := HM8; dsimp only at this ⊢; omega
      obtain ⟨gl, hgl⟩ : ∃ gl, giveB ⟨(k : Int), 1, q3, 0, L, 0⟩ = gl := ⟨_, rfl⟩
      simp only [hgl] at hgb
      rw [hgl] at hok hnb
      have HGL := Lib.hid hgl
      have HOK := Lib.hid hok
      obtain ⟨nb, hnbb⟩ : ∃ n, gl.length = n := ⟨_, rfl⟩
      simp only [hnbb] at hgb
      rw [hnbb] at hnb
      have HNB := Lib.hid hnbb
      have HGB := Lib.hid hgb
      have htg : ∀ (z : Gw w9) (a9 : Option Addr) (c9 : Nat), Row z.toW a9 nb (bval gl) → nb ≤ c9 → Calls Try.prog 45 #[.int .u64 (K k), .slice a9 nb c9] z.toW fun r w' => r = .returned (.int .u32 (tagL (K k) gl)) ∧ z.toW = w' := fun z a9 c9 hr hc => by
        have := tag_any (K k) a9 nb c9 (fun i => gl.getD i 0) z.toW (hK k) (by unfold maxLen; omega) hr (fun i => okB_at HOK.out i)
        unfold tagL
        rw [HNB.out]
        exact this
      obtain ⟨tg, htgg⟩ : ∃ t, tagL (K k) gl = t := ⟨_, rfl⟩
      simp only [htgg] at htg
      have HTG := Lib.hid htgg
      have HTAG := Lib.hid htg
      have c0 : w9.cell? ⟨rb, 0, none⟩ = some (.int .i64 (k : Int)) := r9.cell 0
      have d1 := D9.key hk16
      have d0 : ∀ z : Gw w9, z.toW.cell? ⟨rb, 0, none⟩ = some (.int .i64 (k : Int)) := fun z => (z.ok.cell (lt_of_cell c0)).trans c0
      have d1 : ∀ z : Gw w9, z.toW.cell? ⟨d, 1 + k, none⟩ = some (.int .u64 (K k)) := fun z => (z.ok.cell (lt_of_cell d1)).trans d1
      have p0 : ∀ z : Gw w9, z.toW.cell? ⟨g2, 0, none⟩ = some (.int .i64 (k : Int)) := fun z => (below_own z.ok g2o g2o.lt).cell 0
      have p1 : ∀ z : Gw w9, z.toW.cell? ⟨g2, 1, none⟩ = some (.int .i64 1) := fun z => (below_own z.ok g2o g2o.lt).cell 1
      have p2 : ∀ z : Gw w9, z.toW.cell? ⟨g2, 2, none⟩ = some (.int .u32 q3) := fun z => (below_own z.ok g2o g2o.lt).cell 2
      have p3 : ∀ z : Gw w9, z.toW.cell? ⟨g2, 3, none⟩ = some (.slice none 0 0) := fun z => (below_own z.ok g2o g2o.lt).cell 3
      have p4 : ∀ z : Gw w9, z.toW.cell? ⟨g2, 4, none⟩ = some (.int .u32 0) := fun z => (below_own z.ok g2o g2o.lt).cell 4
      have p5 : ∀ z : Gw w9, z.toW.frozen? ⟨g2, 4, none⟩ = false := fun z => (below_own z.ok g2o g2o.lt).free 4
      clear hgb hok htg hgl hnbb htgg c0
      go_wp2_with fail
      apply wp_tail_start
      case hl => repeat (first | exact Snoc.one _ | apply Snoc.cons)
      refine wp_region_tail w9 (Below.refl _ _) [.is (.pointer (some ⟨d, 0, none⟩)), .is (.pointer (some ⟨rb, 0, none⟩)), .is (.int .i64 (k : Int)), .is (.pointer (some ⟨d, 0, none⟩)), .is (.pointer (some ⟨d, 1, none⟩)), .is (.pointer (some ⟨d, 1 + k, none⟩)), .is (.int .u64 (K k)), .is (.agg #[.int .i64 (k : Int), .int .i64 1, .int .u32 q3, .slice none 0 0, .int .u32 0]), .is (.agg #[.int .i64 (k : Int), .int .i64 1, .int .u32 q3, .slice none 0 0, .int .u32 0]), .rows w9 nb (bval gl), .is (.int .u32 tg), .is (.pointer (some ⟨g2, 4, none⟩))] [] (by kernel_rfl) (by kernel_rfl) (by kernel_rfl) (by rfl) (by kernel_rfl) ?_
      iterate 9
        refine kd_is (by rfl) (fun z hz K Q hK => ?_) ?_
        · go_big_op
          exact hK _ _ rfl rfl
        simp only [Act.put, List.setIfInBounds_toArray, List.set_cons_zero, List.set_cons_succ]
      refine kd_grow (by rfl) (fun z hz Kk Q hKk => ?_) (fun x9 => ?_)
      · go_big_op
        refine (HGB.out z).mono ?_
        rintro e w5 ⟨a5, c5, rfl, hB5, bz⟩
        exact hKk _ _ ⟨_, z.to w5 bz, rfl, rfl, z.to_still w5 bz, a5, c5, rfl, by rw [← HNB.out]; exact hB5.le, hB5.cap, by rw [← HNB.out]; exact hB5.row⟩
      simp only [Act.put, List.setIfInBounds_toArray, List.set_cons_zero, List.set_cons_succ]
      refine kd_is (by rfl) (fun z hz Kk Q hKk => ?_) ?_
      · obtain ⟨a5, c5, rfl, h51, h52, h53⟩ := fact_at hz 9 (rowS w9 nb (bval gl)) x9 (by kernel_rfl) (by kernel_rfl) (by kernel_rfl)
        go_big_op
        refine (HTAG.out z a5 c5 h53 h51).mono ?_
        rintro e w5 ⟨rfl, rfl⟩
        exact hKk _ _ rfl rfl
      simp only [Act.put, List.setIfInBounds_toArray, List.set_cons_zero, List.set_cons_succ]
      iterate 1
        refine kd_is (by rfl) (fun z hz K Q hK => ?_) ?_
        · go_big_op
          exact hK _ _ rfl rfl
        simp only [Act.put, List.setIfInBounds_toArray, List.set_cons_zero, List.set_cons_succ]
      refine kd_nil (fun z hz => ?_)
      rw [if_pos (by rfl)]
      refine wp_K (fun Kk hKk => ?_)
      go_big_op
      refine hKk _ _ ?_
      have r10 := below_own z.ok r9 r9.lt
      have o10 := below_own z.ok o9 o9.lt
      have D10 : Dk _ d n K (setN N k q4) := below_blk z.ok D9 (Blk.lt D9)
      have L10 := LR.below z.ok
      have g10 := below_own z.ok g2o g2o.lt
      have j10 : Just d w z.toW := j9.trans (just_low z.ok)
      generalize z.toW = wz at *
      have g11 := g10.put 4 (.int .u32 tg)
      have j11 := Just.set g2 wz 4 (.int .u32 tg)
      have o11 := j11.own o10 hgg2
      have D11 : Dk _ d n K (setN N k q4) := j11.blk D10 hdg2
      have j12 : Just d w (wz.setCell ⟨g2, 4, none⟩ (.int .u32 tg)) := just_high j10 (by rw [HG.out]; exact hg2g) (.set g2 wz 4 _)
      have L11 : Row (wz.setCell ⟨g2, 4, none⟩ (.int .u32 tg)) none (0 * 5) (cv L) := row_just L10 j11 HNG
      clear hz r10 o10 D10 L10 g10 j10 j11 r9 o9 D9 LR g2o d0 d1 p0 p1 p2 p3 p4 p5
      generalize wz.setCell ⟨g2, 4, none⟩ (.int .u32 tg) = wy at *
      have p0 := g11.cell 0
      have p1 := g11.cell 1
      have p2 := g11.cell 2
      have p3 := g11.cell 3
      have p4 := g11.cell 4
      have k0 := o11.cell 0
      have k1 := o11.cell 1
      have k2 := o11.cell 2
      have k3 := o11.cell 3
      have k4 := o11.cell 4
      have f0 := o11.free 0
      have f1 := o11.free 1
      have f2 := o11.free 2
      have f3 := o11.free 3
      have f4 := o11.free 4
      have oz := (((((o11.put 0 (.int .i64 (k : Int))).put 1 (.int .i64 1)).put 2 (.int .u32 q3)).put 3 (.slice none 0 0)).put 4 (.int .u32 tg))
      have jg := ((((((Just.refl g wy).put 0 (.int .i64 (k : Int))).put 1 (.int .i64 1)).put 2 (.int .u32 q3)).put 3 (.slice none 0 0)).put 4 (.int .u32 tg))
      have Dz : Dk _ d n K (setN N k q4) := jg.blk D11 (Nat.ne_of_lt hd0)
      have Lz := row_just L11 jg HNG0
      have jz : Just d w _ := just_high j12 (by rw [HG.out]; exact Nat.le_refl g) jg
      have HZ := Lib.hid oz
      have HDZ := Lib.hid Dz
      have HLZ := Lib.hid Lz
      have HJZ := Lib.hid jz
      clear oz jg Dz Lz jz g11 o11 D11 L11 j12
      go_wp2_with fail
      refine bodyPost_ret (results_row_tmp rfl _ _ g 28 _ (0, 0) _ rfl HZ.out Try.underlying28 rfl (by kernel_rfl)) rfl ⟨⟨none, 0, ?_, ?_, HCM, ?_⟩, ?_, HJZ.out⟩
      · rw [HT0.out, HGG.out, HGL.out, HTG.out]
        rfl
      · rw [HGG.out]
        exact HLE
      · rw [HGG.out]
        exact HLZ.out
      · rw [HTN.out]
        exact HDZ.out

    | true =>
      rw [hmm] at PM
      obtain ⟨hm8, hma⟩ := mayL_iff.1 hmm
      have HGG : Hid (takeG n K N l L m = ⟨(k : Int), 0, q3, m, L, tagL (K k) (giveB ⟨(k : Int), 0, q3, m, L, 0⟩)⟩) := Lib.hid (by
        unfold takeG takeG0
        rw [if_pos HT0.out, HQ.out, hmm]
        dsimp only
        rw [HKN.out]
        rfl)
      have HMM8 := Lib.hid hm8
      have HMMA := Lib.hid hma
      clear hmm hm8 hma
      go_wp2_with fail
      refine PM.mono ?_
      rintro e w9 ⟨rfl, b9⟩
      have g2o := below_own b9 g8 hs8
      have D9 : Dk _ d n K (setN N k q4) := below_blk b9 D8 (Blk.lt D8)
      have r9 := below_own b9 r8 r8.lt
      have o9 := below_own b9 o8 o8.lt
      have L9 := L8.below b9
      have j9 : Just d w _ := j8.trans (just_low b9)
      have hs9 := Nat.lt_of_lt_of_le hs8 b9.size
      clear b9 g8 D8 r8 o8 L8 j8 hs8 PM
      have p1 : w9.cell? ⟨g2, 1, none⟩ = some (.int .i64 1) := g2o.cell 1
      have p2 : w9.frozen? ⟨g2, 1, none⟩ = false := g2o.free 1
      have gA := g2o.put 1 (.int .i64 0)
      have jA := Just.set g2 w9 1 (.int .i64 0)
      have DA : Dk _ d n K (setN N k q4) := jA.blk D9 hdg2
      have rA := jA.own r9 (by omega)
      have oA := jA.own o9 hgg2
      have LA := row_just2 L9 jA (fun h0 p hp => by have := HNB0.out h0 p hp; omega)
      have jjA : Just d w _ := just_high j9 (by rw [HG.out]; exact hg2g) jA
      have hsA : g2 < (w9.setCell ⟨g2, 1, none⟩ (.int .i64 0)).heap.size := Nat.lt_of_lt_of_le hs9 jA.size
      clear g2o D9 r9 o9 L9 j9 hs9 jA
      go_upto_region 16 with (fail)
      generalize w9.setCell ⟨g2, 1, none⟩ (.int .i64 0) = wA at *
      have p3 : wA.cell? ⟨g2, 3, none⟩ = some (.slice none 0 0) := gA.cell 3
      obtain ⟨i0, hi0, hz0, hz1, hz2⟩ := info_parts cinfo
      have HNM := Lib.hid (show 0 + m ≤ maxLen by unfold maxLen; omega)
      go_wp2_with (at_builtin; go_must (refine wp_appK rfl (.tmp 74) (.tmp 75) _ rfl (g2 + 1) 62 i0 _ 5 40 Try.underlying26 hi0 hz0 hz1 hz2 rfl (by decide) _ 0 (cv L) rfl (MineK.nil _ _ _ _ _) _ m cc (cv L) rfl LA (fun i _ => cv_one _ i) HNM.out ?c2 hsA ?_))
      case c2 => omega
      intro v' wB mB0 gB qB
      have bB : Below wA.heap.size wA wB := ⟨gB.os, gB.tape, gB.output, gB.size, fun q hq => gB.block q hq (fun e => by cases e)⟩
      have mB : MineK wB (g2 + 1) 62 5 v' m (cv L) := mB0
      obtain ⟨AP, CP, rfl, HLE, HCM, _⟩ := mB.row
      have gC := below_own bB gA hsA
      have DC : Dk _ d n K (setN N k q4) := below_blk bB DA (Blk.lt DA)
      have rC := below_own bB rA rA.lt
      have oC := below_own bB oA oA.lt
      have jC : Just d w _ := jjA.trans (just_low bB)
      have p5 : wB.cell? ⟨g2, 3, none⟩ = some (.slice none 0 0) := gC.cell 3
      have p6 : wB.frozen? ⟨g2, 3, none⟩ = false := gC.free 3
      have g2o := gC.put 3 (.slice AP m CP)
      have jD := Just.set g2 wB 3 (.slice AP m CP)
      have D9 : Dk _ d n K (setN N k q4) := jD.blk DC hdg2
      have r9 := jD.own rC (by omega)
      have o9 := jD.own oC hgg2
      have m9 := mineK_just mB jD (Nat.lt_succ_self g2)
      have LR := m9.rowAt
      have j9 : Just d w _ := just_high jC (by rw [HG.out]; exact hg2g) jD
      have HNG : ∀ p, AP = some p → p.block ≠ g2 := fun p hp => by
        subst hp
        have := (m9.lt p.block rfl).1
        omega
      have HNG0 : ∀ p, AP = some p → p.block ≠ g := fun p hp => by
        subst hp
        have := (m9.lt p.block rfl).1
        omega
      have HM8 := HMM8.out
      have HMA := HMMA.out
      clear gA DA rA oA LA jjA hsA p1 p2 p3 gB qB bB mB0 mB gC DC rC oC jC jD m9
      go_upto_region 17 with (fail)
      generalize wB.setCell ⟨g2, 3, none⟩ (.slice AP m CP) = w9 at *
      clear p5 p6
      have hgb : ∀ z : Gw w9, Calls Try.prog 46 #[.agg #[.int .i64 (k : Int), .int .i64 0, .int .u32 q3, .slice AP m CP, .int .u32 0]] z.toW fun e w' => ∃ a c, e = .returned (.slice a (giveB ⟨(k : Int), 0, q3, m, L, 0⟩).length c) ∧ Bs w' a c (giveB ⟨(k : Int), 0, q3, m, L, 0⟩) ∧ Below z.toW.heap.size z.toW w' := fun z =>
        gbody_any ⟨(k : Int), 0, q3, m, L, 0⟩ AP CP z.toW HND.out (by show (0 : Int) ≤ 0 ∧ (0 : Int) < 256; decide) H3.out HM8 HMA HLE HCM (LR.below z.ok)
      have hok : okB (giveB ⟨(k : Int), 0, q3, m, L, 0⟩) := giveB_ok HND.out (by show (0 : Int) ≤ 0 ∧ (0 : Int) < 256; decide) HM8 HMA
      have hnb : (giveB ⟨(k : Int), 0, q3, m, L, 0⟩).length ≤ 1000 := by rw [giveB_len]; have := HM8; dsimp only at this ⊢; omega
      obtain ⟨gl, hgl⟩ : ∃ gl, giveB ⟨(k : Int), 0, q3, m, L, 0⟩ = gl := ⟨_, rfl⟩
      simp only [hgl] at hgb
      rw [hgl] at hok hnb
      have HGL := Lib.hid hgl
      have HOK := Lib.hid hok
      obtain ⟨nb, hnbb⟩ : ∃ n, gl.length = n := ⟨_, rfl⟩
      simp only [hnbb] at hgb
      rw [hnbb] at hnb
      have HNB := Lib.hid hnbb
      have HGB := Lib.hid hgb
      have htg : ∀ (z : Gw w9) (a9 : Option Addr) (c9 : Nat), Row z.toW a9 nb (bval gl) → nb ≤ c9 → Calls Try.prog 45 #[.int .u64 (K k), .slice a9 nb c9] z.toW fun r w' => r = .returned (.int .u32 (tagL (K k) gl)) ∧ z.toW = w' := fun z a9 c9 hr hc => by
        have := tag_any (K k) a9 nb c9 (fun i => gl.getD i 0) z.toW (hK k) (by unfold maxLen; omega) hr (fun i => okB_at HOK.out i)
        unfold tagL
        rw [HNB.out]
        exact this
      obtain ⟨tg, htgg⟩ : ∃ t, tagL (K k) gl = t := ⟨_, rfl⟩
      simp only [htgg] at htg
      have HTG := Lib.hid htgg
      have HTAG := Lib.hid htg
      have c0 : w9.cell? ⟨rb, 0, none⟩ = some (.int .i64 (k : Int)) := r9.cell 0
      have d1 := D9.key hk16
      have d0 : ∀ z : Gw w9, z.toW.cell? ⟨rb, 0, none⟩ = some (.int .i64 (k : Int)) := fun z => (z.ok.cell (lt_of_cell c0)).trans c0
      have d1 : ∀ z : Gw w9, z.toW.cell? ⟨d, 1 + k, none⟩ = some (.int .u64 (K k)) := fun z => (z.ok.cell (lt_of_cell d1)).trans d1
      have p0 : ∀ z : Gw w9, z.toW.cell? ⟨g2, 0, none⟩ = some (.int .i64 (k : Int)) := fun z => (below_own z.ok g2o g2o.lt).cell 0
      have p1 : ∀ z : Gw w9, z.toW.cell? ⟨g2, 1, none⟩ = some (.int .i64 0) := fun z => (below_own z.ok g2o g2o.lt).cell 1
      have p2 : ∀ z : Gw w9, z.toW.cell? ⟨g2, 2, none⟩ = some (.int .u32 q3) := fun z => (below_own z.ok g2o g2o.lt).cell 2
      have p3 : ∀ z : Gw w9, z.toW.cell? ⟨g2, 3, none⟩ = some (.slice AP m CP) := fun z => (below_own z.ok g2o g2o.lt).cell 3
      have p4 : ∀ z : Gw w9, z.toW.cell? ⟨g2, 4, none⟩ = some (.int .u32 0) := fun z => (below_own z.ok g2o g2o.lt).cell 4
      have p5 : ∀ z : Gw w9, z.toW.frozen? ⟨g2, 4, none⟩ = false := fun z => (below_own z.ok g2o g2o.lt).free 4
      clear hgb hok htg hgl hnbb htgg c0
      go_wp2_with fail
      apply wp_tail_start
      case hl => repeat (first | exact Snoc.one _ | apply Snoc.cons)
      refine wp_region_tail w9 (Below.refl _ _) [.is (.pointer (some ⟨d, 0, none⟩)), .is (.pointer (some ⟨rb, 0, none⟩)), .is (.int .i64 (k : Int)), .is (.pointer (some ⟨d, 0, none⟩)), .is (.pointer (some ⟨d, 1, none⟩)), .is (.pointer (some ⟨d, 1 + k, none⟩)), .is (.int .u64 (K k)), .is (.agg #[.int .i64 (k : Int), .int .i64 0, .int .u32 q3, .slice AP m CP, .int .u32 0]), .is (.agg #[.int .i64 (k : Int), .int .i64 0, .int .u32 q3, .slice AP m CP, .int .u32 0]), .rows w9 nb (bval gl), .is (.int .u32 tg), .is (.pointer (some ⟨g2, 4, none⟩))] [] (by kernel_rfl) (by kernel_rfl) (by kernel_rfl) (by rfl) (by kernel_rfl) ?_
      iterate 9
        refine kd_is (by rfl) (fun z hz K Q hK => ?_) ?_
        · go_big_op
          exact hK _ _ rfl rfl
        simp only [Act.put, List.setIfInBounds_toArray, List.set_cons_zero, List.set_cons_succ]
      refine kd_grow (by rfl) (fun z hz Kk Q hKk => ?_) (fun x9 => ?_)
      · go_big_op
        refine (HGB.out z).mono ?_
        rintro e w5 ⟨a5, c5, rfl, hB5, bz⟩
        exact hKk _ _ ⟨_, z.to w5 bz, rfl, rfl, z.to_still w5 bz, a5, c5, rfl, by rw [← HNB.out]; exact hB5.le, hB5.cap, by rw [← HNB.out]; exact hB5.row⟩
      simp only [Act.put, List.setIfInBounds_toArray, List.set_cons_zero, List.set_cons_succ]
      refine kd_is (by rfl) (fun z hz Kk Q hKk => ?_) ?_
      · obtain ⟨a5, c5, rfl, h51, h52, h53⟩ := fact_at hz 9 (rowS w9 nb (bval gl)) x9 (by kernel_rfl) (by kernel_rfl) (by kernel_rfl)
        go_big_op
        refine (HTAG.out z a5 c5 h53 h51).mono ?_
        rintro e w5 ⟨rfl, rfl⟩
        exact hKk _ _ rfl rfl
      simp only [Act.put, List.setIfInBounds_toArray, List.set_cons_zero, List.set_cons_succ]
      iterate 1
        refine kd_is (by rfl) (fun z hz K Q hK => ?_) ?_
        · go_big_op
          exact hK _ _ rfl rfl
        simp only [Act.put, List.setIfInBounds_toArray, List.set_cons_zero, List.set_cons_succ]
      refine kd_nil (fun z hz => ?_)
      rw [if_pos (by rfl)]
      refine wp_K (fun Kk hKk => ?_)
      go_big_op
      refine hKk _ _ ?_
      have r10 := below_own z.ok r9 r9.lt
      have o10 := below_own z.ok o9 o9.lt
      have D10 : Dk _ d n K (setN N k q4) := below_blk z.ok D9 (Blk.lt D9)
      have L10 := LR.below z.ok
      have g10 := below_own z.ok g2o g2o.lt
      have j10 : Just d w z.toW := j9.trans (just_low z.ok)
      generalize z.toW = wz at *
      have g11 := g10.put 4 (.int .u32 tg)
      have j11 := Just.set g2 wz 4 (.int .u32 tg)
      have o11 := j11.own o10 hgg2
      have D11 : Dk _ d n K (setN N k q4) := j11.blk D10 hdg2
      have j12 : Just d w (wz.setCell ⟨g2, 4, none⟩ (.int .u32 tg)) := just_high j10 (by rw [HG.out]; exact hg2g) (.set g2 wz 4 _)
      have L11 : Row (wz.setCell ⟨g2, 4, none⟩ (.int .u32 tg)) AP (m * 5) (cv L) := row_just L10 j11 HNG
      clear hz r10 o10 D10 L10 g10 j10 j11 r9 o9 D9 LR g2o d0 d1 p0 p1 p2 p3 p4 p5
      generalize wz.setCell ⟨g2, 4, none⟩ (.int .u32 tg) = wy at *
      have p0 := g11.cell 0
      have p1 := g11.cell 1
      have p2 := g11.cell 2
      have p3 := g11.cell 3
      have p4 := g11.cell 4
      have k0 := o11.cell 0
      have k1 := o11.cell 1
      have k2 := o11.cell 2
      have k3 := o11.cell 3
      have k4 := o11.cell 4
      have f0 := o11.free 0
      have f1 := o11.free 1
      have f2 := o11.free 2
      have f3 := o11.free 3
      have f4 := o11.free 4
      have oz := (((((o11.put 0 (.int .i64 (k : Int))).put 1 (.int .i64 0)).put 2 (.int .u32 q3)).put 3 (.slice AP m CP)).put 4 (.int .u32 tg))
      have jg := ((((((Just.refl g wy).put 0 (.int .i64 (k : Int))).put 1 (.int .i64 0)).put 2 (.int .u32 q3)).put 3 (.slice AP m CP)).put 4 (.int .u32 tg))
      have Dz : Dk _ d n K (setN N k q4) := jg.blk D11 (Nat.ne_of_lt hd0)
      have Lz := row_just L11 jg HNG0
      have jz : Just d w _ := just_high j12 (by rw [HG.out]; exact Nat.le_refl g) jg
      have HZ := Lib.hid oz
      have HDZ := Lib.hid Dz
      have HLZ := Lib.hid Lz
      have HJZ := Lib.hid jz
      clear oz jg Dz Lz jz g11 o11 D11 L11 j12
      go_wp2_with fail
      refine bodyPost_ret (results_row_tmp rfl _ _ g 28 _ (0, 0) _ rfl HZ.out Try.underlying28 rfl (by kernel_rfl)) rfl ⟨⟨AP, CP, ?_, ?_, HCM, ?_⟩, ?_, HJZ.out⟩
      · rw [HT0.out, HGG.out, HGL.out, HTG.out]
        rfl
      · rw [HGG.out]
        exact HLE
      · rw [HGG.out]
        exact HLZ.out
      · rw [HTN.out]
        exact HDZ.out

end Go.Proofs.Ytphiohdhgkpgnaa.Jo
