/-
  Package join (chapter 18): Seeker.Done.
-/
import Derived.Test.YtphiohdhgkpgnaaJoTakeD
set_option maxRecDepth 100000
namespace Go.Proofs.Ytphiohdhgkpgnaa.Jo
set_option linter.unusedVariables false
open Go.RowKit Lb Go.Shelf Bf Se Cl

def doneE (nd key no : Int) (wt : Bool) (l : List Int) : Int :=
  if wt = false then 7 else if giveE l ≠ 0 then giveE l else if (giveR l).nd ≠ nd then 6 else if sealedB key l = false then 10 else if (giveR l).no ≠ no then 8 else 0
def doneG (nd key no : Int) (wt : Bool) (l : List Int) : Gt := if doneE nd key no wt l = 0 then giveR l else giveN
def DnP (s : Nat) (nd key co no : Int) (wt : Bool) (l : List Int) (w : World) (r : Ending) (w' : World) : Prop :=
  (∃ a c, r = .returned (.tuple #[.agg ((doneG nd key no wt l).vals a c), .int .i64 (doneE nd key no wt l)]) ∧ (doneG nd key no wt l).n ≤ c ∧ c ≤ maxLen ∧ Row w' a ((doneG nd key no wt l).n * 5) (cv (doneG nd key no wt l).L)) ∧
  Sk w' s nd key co no (if doneE nd key no wt l = 0 then false else wt) ∧ Just s w w'
theorem dn_err {s : Nat} {nd key co no : Int} {wt : Bool} {l : List Int} {w w' : World} {e : Int} (h : doneE nd key no wt l = e) (he : e ≠ 0) (hD : Sk w' s nd key co no wt) (hJ : Just s w w') :
    DnP s nd key co no wt l w (.returned (.tuple #[.agg (giveN.vals none 0), .int .i64 e])) w' := by
  have hG : doneG nd key no wt l = giveN := by unfold doneG; rw [if_neg (by rw [h]; exact he)]
  refine ⟨⟨none, 0, by rw [hG, h], by rw [hG]; exact Nat.le_refl _, Nat.zero_le _, by rw [hG]; exact Row.nil _ _ _⟩, by rw [if_neg (by rw [h]; exact he)]; exact hD, hJ⟩
theorem giveE_len {l : List Int} (h : giveE l = 0) : 4 ≤ l.length := by
  unfold giveE at h
  split at h
  · cases h
  · split at h
    · cases h
    · split at h
      · cases h
      · split at h
        · cases h
        · obtain ⟨h1, _⟩ := give2_ok h
          rw [List.length_drop] at h1
          omega
set_option maxHeartbeats 8000000 in
theorem done_any (s : Nat) (nd key co no : Int) (wt : Bool) (a : Option Addr) (c : Nat) (l : List Int) (w : World) (h : Sk w s nd key co no wt) (hk : 0 ≤ key) (hl : l.length ≤ 1000) (hR : Bs w a c l) (hB : okB l) :
    Calls Try.prog 26 #[.pointer (some ⟨s, 0, none⟩), .slice a l.length c] w (DnP s nd key co no wt l w) := by
  have b0 := (Below.refl w.heap.size w).alloc (Nat.le_refl _) (.cells #[.int .i64 0, .int .i64 0, .int .u32 0, .slice none 0 0, .int .u32 0] 28)
  have o0 := Own.new w 28 #[.int .i64 0, .int .i64 0, .int .u32 0, .slice none 0 0, .int .u32 0]
  have hd0 : s < w.heap.size := Own.lt h
  have PA := given_any a c l _ hl (hR.below b0) hB
  have hle := hR.le
  have hcap := hR.cap
  unfold maxLen at hcap
  have HB := Lib.hid hB
  have HL := Lib.hid hl
  obtain ⟨ln', hln⟩ : ∃ n, l.length = n := ⟨_, rfl⟩
  have HLN := Lib.hid hln
  rw [hln] at PA hl hle ⊢
  have hn63 : (ln' : Int) ≤ 9223372036854775807 := by omega
  have hc63 : (c : Int) ≤ 9223372036854775807 := by omega
  clear hB hln
  go_enter Try.func26, Try.ntmps26
  go_upto_region 1 with (fail)
  obtain ⟨g, hg⟩ : ∃ g, w.heap.size = g := ⟨_, rfl⟩
  have HG := Lib.hid hg
  have D0 : Sk _ s nd key co no wt := below_own b0 h hd0
  have R0 := hR.below b0
  have hs0 : g < (w.alloc (.cells #[.int .i64 0, .int .i64 0, .int .u32 0, .slice none 0 0, .int .u32 0] 28)).heap.size := by rw [← hg]; simp
  generalize w.alloc (.cells #[.int .i64 0, .int .i64 0, .int .u32 0, .slice none 0 0, .int .u32 0] 28) = w1 at *
  rw [hg] at b0 o0 hd0 ⊢
  have hsz := Nat.le_of_lt hs0
  clear hg h hR
  cases wt with
  | false =>
    have c4 : w1.cell? ⟨s, 4, none⟩ = some (.bool false) := Own.cell D0 4
    clear PA
    have k0 := o0.cell 0
    have k1 := o0.cell 1
    have k2 := o0.cell 2
    have k3 := o0.cell 3
    have k4 := o0.cell 4
    have f0 := o0.free 0
    have f1 := o0.free 1
    have f2 := o0.free 2
    have f3 := o0.free 3
    have f4 := o0.free 4
    have oz := (((((o0.put 0 (.int .i64 0)).put 1 (.int .i64 0)).put 2 (.int .u32 0)).put 3 (.slice none 0 0)).put 4 (.int .u32 0))
    have jz := ((((((Just.refl g w1).put 0 (.int .i64 0)).put 1 (.int .i64 0)).put 2 (.int .u32 0)).put 3 (.slice none 0 0)).put 4 (.int .u32 0))
    have bz := jz.below b0 (Nat.le_refl _) hsz
    have Dz : Sk _ s nd key co no false := jz.own D0 (Nat.ne_of_lt hd0)
    have HZ := Lib.hid oz
    have HJZ := Lib.hid bz
    have HDZ := Lib.hid Dz
    clear oz jz bz Dz
    go_wp2_with fail
    refine bodyPost_ret (results_row_tmp rfl _ _ g 28 _ (0, 0) _ rfl HZ.out Try.underlying28 rfl (by kernel_rfl)) rfl ?_
    exact dn_err (e := 7) (by unfold doneE; rw [if_pos rfl]) (by decide) HDZ.out (just_low (by rw [HG.out]; exact HJZ.out) )
  | true =>
    have c4 : w1.cell? ⟨s, 4, none⟩ = some (.bool true) := Own.cell D0 4
    go_wp2_with fail
    refine PA.mono ?_
    rintro r w2 ⟨⟨a7, c7, rfl, h71, h72, h73, h74⟩, b2⟩
    have hs2 := Nat.lt_of_lt_of_le hs0 b2.size
    have o2 := below_own b2 o0 hs0
    have D2 : Sk _ s nd key co no true := below_own b2 D0 (Nat.lt_trans hd0 hs0)
    have R2 := R0.below b2
    have b3 := b0.trans (b2.mono (Nat.le_of_lt hs0))
    have h74 : ∀ p, a7 = some p → g < p.block := fun p hp => by have := h74 p hp; omega
    obtain ⟨q, hq⟩ : ∃ q, giveR l = q := ⟨_, rfl⟩
    rw [hq] at h71 h73 ⊢
    have HQ := Lib.hid hq
    have HZG : Hid (giveE l ≠ 0 → q = giveN) := Lib.hid (fun h => by rw [← hq]; exact if_neg h)
    obtain ⟨q1, q2, q3, qn, qL, q5⟩ := q
    dsimp only at h71 h73
    have bb := (Below.refl w2.heap.size w2).alloc (Nat.le_refl _) (.cells #[.int .i64 q1, .int .i64 q2, .int .u32 q3, .slice a7 qn c7, .int .u32 q5] 28)
    have r3 := Own.new w2 28 #[.int .i64 q1, .int .i64 q2, .int .u32 q3, .slice a7 qn c7, .int .u32 q5]
    have hs3 : w2.heap.size < (w2.alloc (.cells #[.int .i64 q1, .int .i64 q2, .int .u32 q3, .slice a7 qn c7, .int .u32 q5] 28)).heap.size := by simp
    have o3 := below_own bb o2 hs2
    have D3 : Sk _ s nd key co no true := below_own bb D2 (Nat.lt_trans hd0 hs2)
    have R3 := R2.below bb
    have L3 := h73.below bb
    have HNG : Hid (∀ p, a7 = some p → p.block ≠ g) := Lib.hid (fun p hp => by have := h74 p hp; omega)
    have HNS : Hid (∀ p, a7 = some p → p.block ≠ s) := Lib.hid (fun p hp => by have := h74 p hp; omega)
    have b4 := b3.trans (bb.mono (Nat.le_of_lt hs2))
    clear PA b0 o0 D0 R0 hs0 b2 o2 D2 R2 b3 hsz h73 h74 c4 hq
    unfold Gt.vals
    dsimp only
    go_upto_region 6 with (fail)
    obtain ⟨rb, hrb⟩ : ∃ g, w2.heap.size = g := ⟨_, rfl⟩
    rw [hrb] at r3 hs3 hs2 ⊢
    generalize w2.alloc (.cells #[.int .i64 q1, .int .i64 q2, .int .u32 q3, .slice a7 qn c7, .int .u32 q5] 28) = w3 at *
    clear bb hrb
    have hsz := Nat.le_of_lt (Nat.lt_trans hs2 hs3)
    by_cases he : giveE l = 0
    case neg =>
      have HE := Lib.hid he
      obtain ⟨e, hee⟩ : ∃ e, giveE l = e := ⟨_, rfl⟩
      rw [hee] at he ⊢
      have HEE := Lib.hid hee
      have he2 : (e == 0) = false := by simpa using he
      have he3 : (e != 0) = true := by simpa using he
      clear hee he
      have k0 := o3.cell 0
      have k1 := o3.cell 1
      have k2 := o3.cell 2
      have k3 := o3.cell 3
      have k4 := o3.cell 4
      have f0 := o3.free 0
      have f1 := o3.free 1
      have f2 := o3.free 2
      have f3 := o3.free 3
      have f4 := o3.free 4
      have oz := (((((o3.put 0 (.int .i64 0)).put 1 (.int .i64 0)).put 2 (.int .u32 0)).put 3 (.slice none 0 0)).put 4 (.int .u32 0))
      have jz := ((((((Just.refl g w3).put 0 (.int .i64 0)).put 1 (.int .i64 0)).put 2 (.int .u32 0)).put 3 (.slice none 0 0)).put 4 (.int .u32 0))
      have bz := jz.below b4 (Nat.le_refl _) hsz
      have Dz : Sk _ s nd key co no true := jz.own D3 (Nat.ne_of_lt hd0)
      have HZ := Lib.hid oz
      have HJZ := Lib.hid bz
      have HDZ := Lib.hid Dz
      clear oz jz bz Dz
      go_wp2_with fail
      refine bodyPost_ret (results_row_tmp rfl _ _ g 28 _ (0, 0) _ rfl HZ.out Try.underlying28 rfl (by kernel_rfl)) rfl ?_
      exact dn_err (e := e) (by unfold doneE; rw [if_neg (by decide), if_pos HE.out]; exact HEE.out) (by have := HE.out; rw [HEE.out] at this; exact this) HDZ.out (just_low (by rw [HG.out]; exact HJZ.out) )
    rw [he]
    have HE := Lib.hid he
    have H4 := Lib.hid (giveE_len he)
    clear he
    have c0 : w3.cell? ⟨rb, 0, none⟩ = some (.int .i64 q1) := r3.cell 0
    have d0 : w3.cell? ⟨s, 0, none⟩ = some (.int .i64 nd) := Own.cell D3 0
    by_cases hnd : q1 = nd
    case neg =>
      have HN := Lib.hid hnd
      have g1 : (q1 != nd) = true := by simpa using hnd
      have g2 : (q1 == nd) = false := by simpa using hnd
      clear hnd
      go_upto_region 8 with (fail)
      go_quiet (fail)
      have o4 := o3.drewN nq
      have D4 : Sk _ s nd key co no true := Own.drewN D3 nq
      have b5 := below_drewN b4 nq
      have hsz : g ≤ (w3.drewN nq).heap.size := hsz
      clear r3 o3 D3 R3 L3 b4 hs3 c0 d0
      generalize w3.drewN nq = w4 at *
      have k0 := o4.cell 0
      have k1 := o4.cell 1
      have k2 := o4.cell 2
      have k3 := o4.cell 3
      have k4 := o4.cell 4
      have f0 := o4.free 0
      have f1 := o4.free 1
      have f2 := o4.free 2
      have f3 := o4.free 3
      have f4 := o4.free 4
      have oz := (((((o4.put 0 (.int .i64 0)).put 1 (.int .i64 0)).put 2 (.int .u32 0)).put 3 (.slice none 0 0)).put 4 (.int .u32 0))
      have jz := ((((((Just.refl g w4).put 0 (.int .i64 0)).put 1 (.int .i64 0)).put 2 (.int .u32 0)).put 3 (.slice none 0 0)).put 4 (.int .u32 0))
      have bz := jz.below b5 (Nat.le_refl _) hsz
      have Dz : Sk _ s nd key co no true := jz.own D4 (Nat.ne_of_lt hd0)
      have HZ := Lib.hid oz
      have HJZ := Lib.hid bz
      have HDZ := Lib.hid Dz
      clear oz jz bz Dz
      go_wp2_with fail
      refine bodyPost_ret (results_row_tmp rfl _ _ g 28 _ (0, 0) _ rfl HZ.out Try.underlying28 rfl (by kernel_rfl)) rfl ?_
      exact dn_err (e := 6) (by unfold doneE; rw [if_neg (by decide), if_neg (by rw [HE.out]; decide), HQ.out]; exact if_pos HN.out) (by decide) HDZ.out (just_low (by rw [HG.out]; exact HJZ.out) )
    subst hnd
    have g1 : (q1 != q1) = false := by simp
    go_upto_region 8 with (fail)
    go_quiet (fail)
    have r4 := r3.drewN nq
    have o4 := o3.drewN nq
    have D4 : Sk _ s q1 key co no true := Own.drewN D3 nq
    have b5 := below_drewN b4 nq
    have R4 := Bs.drewN R3 nq
    have L4 := L3.drewN nq
    have hs4 : rb < (w3.drewN nq).heap.size := hs3
    have hsz : g ≤ (w3.drewN nq).heap.size := hsz
    clear r3 o3 D3 R3 L3 b4 hs3 c0 d0
    generalize w3.drewN nq = w4 at *
    have d1 : w4.cell? ⟨s, 1, none⟩ = some (.int .u64 key) := Own.cell D4 1
    have PS := issealed_any key a c l w4 hk HL.out H4.out R4 HB.out
    rw [HLN.out] at PS
    cases hsb : sealedB key l with
    | false =>
      rw [hsb] at PS
      have HSB := Lib.hid hsb
      clear hsb
      go_wp2_with fail
      refine PS.mono ?_
      rintro r w5 ⟨rfl, bz⟩
      have o5 := below_own bz o4 (Nat.lt_trans hs2 hs4)
      have D5 : Sk _ s q1 key co no true := below_own bz D4 (Own.lt D4)
      have b6 := b5.trans (bz.mono hsz)
      have hsz := Nat.le_trans hsz bz.size
      clear r4 o4 D4 R4 L4 b5 hs4 d1 PS bz
      have k0 := o5.cell 0
      have k1 := o5.cell 1
      have k2 := o5.cell 2
      have k3 := o5.cell 3
      have k4 := o5.cell 4
      have f0 := o5.free 0
      have f1 := o5.free 1
      have f2 := o5.free 2
      have f3 := o5.free 3
      have f4 := o5.free 4
      have oz := (((((o5.put 0 (.int .i64 0)).put 1 (.int .i64 0)).put 2 (.int .u32 0)).put 3 (.slice none 0 0)).put 4 (.int .u32 0))
      have jz := ((((((Just.refl g w5).put 0 (.int .i64 0)).put 1 (.int .i64 0)).put 2 (.int .u32 0)).put 3 (.slice none 0 0)).put 4 (.int .u32 0))
      have bz := jz.below b6 (Nat.le_refl _) hsz
      have Dz : Sk _ s q1 key co no true := jz.own D5 (Nat.ne_of_lt hd0)
      have HZ := Lib.hid oz
      have HJZ := Lib.hid bz
      have HDZ := Lib.hid Dz
      clear oz jz bz Dz
      go_wp2_with fail
      refine bodyPost_ret (results_row_tmp rfl _ _ g 28 _ (0, 0) _ rfl HZ.out Try.underlying28 rfl (by kernel_rfl)) rfl ?_
      exact dn_err (e := 10) (by unfold doneE; rw [if_neg (by decide), if_neg (by rw [HE.out]; decide), HQ.out, if_neg (by simp)]; rw [HSB.out]; exact if_pos rfl) (by decide) HDZ.out (just_low (by rw [HG.out]; exact HJZ.out) )
    | true =>
      rw [hsb] at PS
      have HSB := Lib.hid hsb
      clear hsb
      by_cases hno : q3 = no
      case neg =>
        have HN := Lib.hid hno
        have g3 : (q3 != no) = true := by simpa using hno
        have g4 : (q3 == no) = false := by simpa using hno
        clear hno
        go_wp2_with fail
        refine PS.mono ?_
        rintro r w5 ⟨rfl, bz⟩
        have r5 := below_own bz r4 hs4
        have o5 := below_own bz o4 (Nat.lt_trans hs2 hs4)
        have D5 : Sk _ s q1 key co no true := below_own bz D4 (Own.lt D4)
        have b6 := b5.trans (bz.mono hsz)
        have hsz := Nat.le_trans hsz bz.size
        clear r4 o4 D4 R4 L4 b5 hs4 d1 PS bz
        have c2 : w5.cell? ⟨rb, 2, none⟩ = some (.int .u32 q3) := r5.cell 2
        have d3 : w5.cell? ⟨s, 3, none⟩ = some (.int .u32 no) := Own.cell D5 3
        go_wp2_with fail
        go_quiet (fail)
        have o6 := o5.drewN nq
        have D6 : Sk _ s q1 key co no true := Own.drewN D5 nq
        have b7 := below_drewN b6 nq
        have hsz : g ≤ (w5.drewN nq).heap.size := hsz
        clear r5 o5 D5 b6 c2 d3
        generalize w5.drewN nq = w6 at *
        have k0 := o6.cell 0
        have k1 := o6.cell 1
        have k2 := o6.cell 2
        have k3 := o6.cell 3
        have k4 := o6.cell 4
        have f0 := o6.free 0
        have f1 := o6.free 1
        have f2 := o6.free 2
        have f3 := o6.free 3
        have f4 := o6.free 4
        have oz := (((((o6.put 0 (.int .i64 0)).put 1 (.int .i64 0)).put 2 (.int .u32 0)).put 3 (.slice none 0 0)).put 4 (.int .u32 0))
        have jz := ((((((Just.refl g w6).put 0 (.int .i64 0)).put 1 (.int .i64 0)).put 2 (.int .u32 0)).put 3 (.slice none 0 0)).put 4 (.int .u32 0))
        have bz := jz.below b7 (Nat.le_refl _) hsz
        have Dz : Sk _ s q1 key co no true := jz.own D6 (Nat.ne_of_lt hd0)
        have HZ := Lib.hid oz
        have HJZ := Lib.hid bz
        have HDZ := Lib.hid Dz
        clear oz jz bz Dz
        go_wp2_with fail
        refine bodyPost_ret (results_row_tmp rfl _ _ g 28 _ (0, 0) _ rfl HZ.out Try.underlying28 rfl (by kernel_rfl)) rfl ?_
        exact dn_err (e := 8) (by unfold doneE; rw [if_neg (by decide), if_neg (by rw [HE.out]; decide), HQ.out, if_neg (by simp)]; rw [HSB.out, if_neg (by decide)]; exact if_pos HN.out) (by decide) HDZ.out (just_low (by rw [HG.out]; exact HJZ.out) )
      subst hno
      have g3 : (q3 != q3) = false := by simp
      have HD0 : Hid (doneE q1 key q3 true l = 0) := Lib.hid (by unfold doneE; rw [if_neg (by decide), if_neg (by rw [HE.out]; decide), HQ.out, if_neg (by simp)]; rw [HSB.out, if_neg (by decide)]; exact if_neg (by simp))
      go_wp2_with fail
      refine PS.mono ?_
      rintro r w5 ⟨rfl, bz⟩
      have r5 := below_own bz r4 hs4
      have o5 := below_own bz o4 (Nat.lt_trans hs2 hs4)
      have D5 : Sk _ s q1 key co q3 true := below_own bz D4 (Own.lt D4)
      have b6 := b5.trans (bz.mono hsz)
      have L5 := L4.below bz
      have hs5 := Nat.lt_of_lt_of_le hs4 bz.size
      have hsz := Nat.le_trans hsz bz.size
      clear r4 o4 D4 R4 L4 b5 hs4 d1 PS bz
      have c2 : w5.cell? ⟨rb, 2, none⟩ = some (.int .u32 q3) := r5.cell 2
      have d3 : w5.cell? ⟨s, 3, none⟩ = some (.int .u32 q3) := Own.cell D5 3
      go_wp2_with fail
      go_quiet (fail)
      have r6 := r5.drewN nq
      have o6 := o5.drewN nq
      have D6 : Sk _ s q1 key co q3 true := Own.drewN D5 nq
      have b7 := below_drewN b6 nq
      have L6 := L5.drewN nq
      have hs6 : rb < (w5.drewN nq).heap.size := hs5
      have hsz : g ≤ (w5.drewN nq).heap.size := hsz
      clear r5 o5 D5 b6 c2 d3 L5 hs5
      generalize w5.drewN nq = w6 at *
      have d4 : w6.cell? ⟨s, 4, none⟩ = some (.bool true) := Own.cell D6 4
      have f4 : w6.frozen? ⟨s, 4, none⟩ = false := Own.free D6 4
      have D7 : Sk (w6.setCell ⟨s, 4, none⟩ (.bool false)) s q1 key co q3 false := Own.put D6 4 (.bool false)
      have j7 := Just.set s w6 4 (.bool false)
      have r7 := j7.own r6 (by omega)
      have o7 := j7.own o6 (by omega)
      have L7 := row_just L6 j7 HNS.out
      have jj7 : Just s w _ := (just_low (by rw [HG.out]; exact b7)).trans j7
      clear r6 o6 D6 b7 L6 hs6 j7
      go_upto_region 15 with (fail)
      generalize w6.setCell ⟨s, 4, none⟩ (.bool false) = wy at *
      have p0 := r7.cell 0
      have p1 := r7.cell 1
      have p2 := r7.cell 2
      have p3 := r7.cell 3
      have p4 := r7.cell 4
      have k0 := o7.cell 0
      have k1 := o7.cell 1
      have k2 := o7.cell 2
      have k3 := o7.cell 3
      have k4 := o7.cell 4
      have f0 := o7.free 0
      have f1 := o7.free 1
      have f2 := o7.free 2
      have f3 := o7.free 3
      have f4 := o7.free 4
      have oz := (((((o7.put 0 (.int .i64 q1)).put 1 (.int .i64 q2)).put 2 (.int .u32 q3)).put 3 (.slice a7 qn c7)).put 4 (.int .u32 q5))
      have jg := ((((((Just.refl g wy).put 0 (.int .i64 q1)).put 1 (.int .i64 q2)).put 2 (.int .u32 q3)).put 3 (.slice a7 qn c7)).put 4 (.int .u32 q5))
      have Dz : Sk _ s q1 key co q3 false := jg.own D7 (Nat.ne_of_lt hd0)
      have Lz := row_just L7 jg HNG.out
      have jz : Just s w _ := just_high jj7 (by rw [HG.out]; exact Nat.le_refl g) jg
      have HZ := Lib.hid oz
      have HDZ := Lib.hid Dz
      have HLZ := Lib.hid Lz
      have HJZ := Lib.hid jz
      have HGQ : Hid (doneG q1 key q3 true l = ⟨q1, q2, q3, qn, qL, q5⟩) := Lib.hid (by unfold doneG; rw [if_pos HD0.out]; exact HQ.out)
      clear oz jg Dz Lz jz r7 o7 D7 L7 jj7
      go_wp2_with fail
      refine bodyPost_ret (results_row_tmp rfl _ _ g 28 _ (0, 0) _ rfl HZ.out Try.underlying28 rfl (by kernel_rfl)) rfl ⟨⟨a7, c7, ?_, ?_, h72, ?_⟩, ?_, HJZ.out⟩
      · rw [HD0.out, HGQ.out]
        rfl
      · rw [HGQ.out]
        exact h71
      · rw [HGQ.out]
        exact HLZ.out
      · rw [if_pos HD0.out]
        exact HDZ.out
end Go.Proofs.Ytphiohdhgkpgnaa.Jo
