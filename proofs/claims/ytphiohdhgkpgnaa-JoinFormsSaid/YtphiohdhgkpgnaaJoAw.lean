/-
  Joining (chapter 18): what a desk takes, what a seeker takes back; the request that every program must know to grant.
-/
import Derived.Test.YtphiohdhgkpgnaaJoMa
set_option maxRecDepth 100000
namespace Go.Proofs.Ytphiohdhgkpgnaa.Jo
set_option linter.unusedVariables false
open Go.RowKit Lb Go.Shelf Bf Se Cl

theorem takeE_ok {n : Nat} {K N : Nat → Int} {key : Int} {r : Rq} (hm : mayR r = true) (hw : r.wide) (hn : ¬ (n : Int) ≤ r.nd) (hk : sealedB (K r.nd.toNat) (sealL key (askB r)) = true) (hc : ¬ r.co ≤ N r.nd.toNat) : takeE n K N (sealL key (askB r)) = 0 := by
  obtain ⟨h1, h2⟩ := ask_back (key := key) hm hw
  unfold takeE
  rw [if_neg (by rw [h1]; decide), h2]
  dsimp only
  rw [if_neg hn, hk, if_neg (by decide), if_neg hc]
theorem takeE_old {n : Nat} {K N : Nat → Int} {key : Int} {r : Rq} (hm : mayR r = true) (hw : r.wide) (hn : ¬ (n : Int) ≤ r.nd) (hk : sealedB (K r.nd.toNat) (sealL key (askB r)) = true) (hc : r.co ≤ N r.nd.toNat) : takeE n K N (sealL key (askB r)) = 8 := by
  obtain ⟨h1, h2⟩ := ask_back (key := key) hm hw
  unfold takeE
  rw [if_neg (by rw [h1]; decide), h2]
  dsimp only
  rw [if_neg hn, hk, if_neg (by decide), if_pos hc]
theorem takeE_seal {n : Nat} {K N : Nat → Int} {key : Int} {r : Rq} (hm : mayR r = true) (hw : r.wide) (hn : ¬ (n : Int) ≤ r.nd) (hk : sealedB (K r.nd.toNat) (sealL key (askB r)) = false) : takeE n K N (sealL key (askB r)) = 10 := by
  obtain ⟨h1, h2⟩ := ask_back (key := key) hm hw
  unfold takeE
  rw [if_neg (by rw [h1]; decide), h2]
  dsimp only
  rw [if_neg hn, hk, if_pos rfl]
/-- The grant for a request. -/
def grantOf (Kn : Int) (r : Rq) (L : Nat → C) (m : Nat) : Gt :=
  ⟨r.nd, if mayL L m = true then 0 else 1, r.no, if mayL L m = true then m else 0, L, tagL Kn (giveB ⟨r.nd, if mayL L m = true then 0 else 1, r.no, if mayL L m = true then m else 0, L, 0⟩)⟩
theorem takeG_ok {n : Nat} {K N : Nat → Int} {key : Int} {r : Rq} {L : Nat → C} {m : Nat} (hm : mayR r = true) (hw : r.wide) (h0 : takeE n K N (sealL key (askB r)) = 0) : takeG n K N (sealL key (askB r)) L m = grantOf (K r.nd.toNat) r L m ∧ takeN n K N (sealL key (askB r)) = setN N r.nd.toNat r.co := by
  obtain ⟨h1, h2⟩ := ask_back (key := key) hm hw
  unfold takeG takeG0 takeN grantOf
  rw [if_pos h0, if_pos h0, h2]
  exact ⟨rfl, rfl⟩
theorem grant_may {Kn : Int} {r : Rq} {L : Nat → C} {m : Nat} (hm : nodeB r.nd = true) : mayG (grantOf Kn r L m) = true := by
  rw [mayG_iff]
  unfold grantOf
  dsimp only
  cases h : mayL L m with
  | true => exact ⟨hm, by decide, (mayL_iff.1 h).1, (mayL_iff.1 h).2⟩
  | false => exact ⟨hm, by decide, by simp, fun k hk => absurd hk (by simp)⟩
theorem doneE_ok {nd key no : Int} {g : Gt} (hm : mayG g = true) (hno : In32 g.no) (h1 : g.nd = nd) (h2 : g.no = no) : doneE nd key no true (sealL key (giveB g)) = 0 := by
  obtain ⟨e1, e2, e3, e4, _⟩ := give_back (key := key) hm hno
  unfold doneE
  rw [if_neg (by decide), if_neg (by rw [e1]; decide), if_neg (by rw [e2, h1]; simp), sealed_own, if_neg (by decide), if_neg (by rw [e4, h2]; simp)]
/-- Bytes lie neither in a desk nor in a seeker. -/
theorem bs_dk {w : World} {a : Option Addr} {c d : Nat} {l : List Int} {n : Int} {K N : Nat → Int} (h : Bs w a c l) (hl : 0 < l.length) (hD : Dk w d n K N) : ∀ p, a = some p → p.block ≠ d := fun p hp e => by
  obtain ⟨q, off, e1, _, h3⟩ := h.row hl
  rw [hp] at e1
  injection e1 with e1
  subst e1
  dsimp only at e
  subst e
  have h4 := h3 0 hl
  have h5 : w.heap[q]? = some (.cells (Array.ofFn (n := 33) fun i => dv n K N i) 92 (0, 0)) := hD
  rw [Own.cell h5] at h4
  unfold bval at h4
  by_cases ho : off + 0 < 33
  · rw [Array.getElem?_eq_getElem (by simpa using ho), Array.getElem_ofFn] at h4
    unfold dv at h4
    split at h4
    · cases h4
    · split at h4 <;> cases h4
  · rw [Array.getElem?_eq_none (by simpa using ho)] at h4
    cases h4
theorem bs_sk {w : World} {a : Option Addr} {c s : Nat} {l : List Int} {nd key co no : Int} {wt : Bool} (h : Bs w a c l) (hl : 0 < l.length) (hS : Sk w s nd key co no wt) : ∀ p, a = some p → p.block ≠ s := fun p hp e => by
  obtain ⟨q, off, e1, _, h3⟩ := h.row hl
  rw [hp] at e1
  injection e1 with e1
  subst e1
  dsimp only at e
  subst e
  have h4 := h3 0 hl
  rw [Own.cell hS] at h4
  unfold bval at h4
  rcases off with _ | _ | _ | _ | _ | off
  · cases h4
  · simp at h4
  · simp at h4
  · simp at h4
  · simp at h4
  · simp at h4
theorem Bs.just {w w' : World} {a : Option Addr} {c b : Nat} {l : List Int} (h : Bs w a c l) (j : Just b w w') (hb : ∀ p, a = some p → p.block ≠ b) : Bs w' a c l := ⟨h.le, h.cap, row_just h.row j hb⟩
theorem giveB_may {g : Gt} (h : mayG g = true) : okB (giveB g) := by
  obtain ⟨h1, h2, h3, h4⟩ := mayG_iff.1 h
  exact giveB_ok h1 h2 h3 h4
theorem in99 : In32 99 := by unfold In32; decide
def KA (i : Nat) : Int := if i = 0 then 0 else 7
def KB (i : Nat) : Int := if i < 2 then KA i else 0
def LA (_ : Nat) : C := ⟨0, 3, 0, 1, 0⟩
def rA : Rq := skR 1 0 99 0
theorem rA_ok : mayR rA = true ∧ rA.wide := ⟨by decide, by unfold Rq.wide In32 rA skR; decide⟩
theorem lA : mayL LA 1 = true := by decide
set_option maxHeartbeats 4000000 in
theorem awake_join (w : World) : Calls Try.prog 8 #[] w fun r w' => r = .returned (.bool true) ∧ Below w.heap.size w w' := by
  have row1 : Row (w.alloc (.cells #[.int .u64 0, .int .u64 7] 22)) (some ⟨w.heap.size, 0, none⟩) 2 (fun i => .int .u64 (KA i)) := row_new _ _ _ _ (fun i hi => by rcases (show i = 0 ∨ i = 1 by omega) with rfl | rfl <;> rfl)
  have b1 := (Below.refl w.heap.size w).alloc (Nat.le_refl _) (.cells #[.int .u64 0, .int .u64 7] 22)
  have hs1 : w.heap.size < (w.alloc (.cells #[.int .u64 0, .int .u64 7] 22)).heap.size := by simp
  go_enter Try.func8, Try.ntmps8
  go_wp2_with fail
  refine (newdesk_any _ 2 2 KA _ (by decide) (by decide) (Nat.le_refl _) (by decide) row1).mono ?_
  rintro e w2 ⟨rfl, D2, b2, hs2⟩
  generalize w.alloc (.cells #[.int .u64 0, .int .u64 7] 22) = w1 at *
  obtain ⟨d, hd⟩ : ∃ d, w1.heap.size = d := ⟨_, rfl⟩
  rw [hd] at D2 b2 hs2 hs1 ⊢
  have b3 := b1.trans (b2.mono (Nat.le_of_lt hs1))
  clear hd b1 b2 row1
  go_wp2_with fail
  refine (newseeker_any 1 7 w2 (by decide)).mono ?_
  rintro e w3 ⟨rfl, S3, b4, hs3⟩
  obtain ⟨s, hs⟩ : ∃ s, w2.heap.size = s := ⟨_, rfl⟩
  have D3 : Dk w3 d _ _ _ := below_blk b4 D2 (Blk.lt D2)
  rw [hs] at S3 b4 hs2 hs3 ⊢
  have b5 := b3.trans (b4.mono (by omega))
  clear hs b3 b4 D2
  go_wp2_with fail
  refine (sask_any s 1 7 0 0 false 0 99 w3 S3 (by decide) (by decide) (by decide) (by unfold In32; decide) (by decide)).mono ?_
  rintro e w4 ⟨a4, c4, rfl, B4n, S4, j4⟩
  have B4 := B4n.toBs
  clear B4n
  have hS0 : skR 1 0 99 0 = rA := rfl
  rw [hS0] at B4 ⊢
  have D4 : Dk w4 d _ _ _ := j4.blk D3 (by omega)
  have b6 := j4.below b5 (by omega) b5.size
  have hl4 : (sealL 7 (askB rA)).length = 15 := by rw [sealL_len, askB_len]
  rw [hl4]
  clear D3 S3 j4 b5
  have rc : Row (w4.alloc (.cells #[.int .i64 0, .int .i64 3, .int .i64 0, .int .i64 1, .int .i64 0] 62)) (some ⟨w4.heap.size, 0, none⟩) (1 * 5) (cv LA) := row_new _ _ _ _ (fun i hi => by rcases (show i = 0 ∨ i = 1 ∨ i = 2 ∨ i = 3 ∨ i = 4 by omega) with rfl | rfl | rfl | rfl | rfl <;> rfl)
  have ba := (Below.refl w4.heap.size w4).alloc (Nat.le_refl _) (.cells #[.int .i64 0, .int .i64 3, .int .i64 0, .int .i64 1, .int .i64 0] 62)
  have hs4 : w4.heap.size < (w4.alloc (.cells #[.int .i64 0, .int .i64 3, .int .i64 0, .int .i64 1, .int .i64 0] 62)).heap.size := by simp
  have hd4 : d < w4.heap.size := Blk.lt D4
  have hs4' : s < w4.heap.size := Own.lt S4
  have D5 : Dk _ d (2 : Nat) KB (fun _ => 0) := below_blk ba D4 hd4
  have S5 : Sk _ s _ _ _ _ _ := below_own ba S4 hs4'
  have B5 := B4.below ba
  have b7 := b6.trans (ba.mono b6.size)
  have hT := take_any d 2 KB (fun _ => 0) a4 c4 (sealL 7 (askB rA)) (some ⟨w4.heap.size, 0, none⟩) 1 1 LA _ D5 (by decide) (fun i => by unfold KB KA; split <;> (try split) <;> decide) (by rw [hl4]; decide) B5 (okB_seal (askB_ok (by decide) (by decide))) (Nat.le_refl _) (by decide) (by decide) rc (fun p hp _ => by
    injection hp with hp
    subst hp
    exact ⟨by dsimp only; omega, hs4⟩)
  have h0 : takeE 2 KB (fun _ => 0) (sealL 7 (askB rA)) = 0 := takeE_ok rA_ok.1 rA_ok.2 (by decide) (by show sealedB 7 _ = true; exact sealed_own _ _) (by decide)
  obtain ⟨hG, hN⟩ := takeG_ok (L := LA) (m := 1) rA_ok.1 rA_ok.2 h0
  unfold TkP at hT
  rw [hG, hN, h0, hl4] at hT
  have hKn : KB rA.nd.toNat = 7 := rfl
  rw [hKn] at hT
  have hgm := grant_may (Kn := 7) (L := LA) (m := 1) (r := rA) (by decide)
  have hgo : (grantOf 7 rA LA 1) = ⟨1, 0, 99, 1, LA, tagL 7 (giveB ⟨1, 0, 99, 1, LA, 0⟩)⟩ := by
    unfold grantOf
    rw [lA]
    rfl
  rw [hgo] at hT hgm
  obtain ⟨tg, htg⟩ : ∃ t, tagL 7 (giveB ⟨1, 0, 99, 1, LA, 0⟩) = t := ⟨_, rfl⟩
  rw [htg] at hT hgm
  have HT := Lib.hid hT
  have HGM := Lib.hid hgm
  clear hT hgm hgo hKn hG hN h0 htg
  go_wp2_with fail
  refine HT.out.mono ?_
  rintro e w6 ⟨⟨a6, c6, rfl, h61, h62, h63⟩, D6, j6⟩
  have S6 : Sk _ s _ _ _ _ _ := j6.own S5 (by omega)
  have b8 := j6.below b7 (by omega) b7.size
  have hs6 := Own.lt S6
  clear HT S5 S4 D5 B5 b7 ba rc j6 D6 D4 B4 b6
  generalize w4.heap.size = hh at *
  unfold Gt.vals
  dsimp only at h61 h63 ⊢
  have ba := (Below.refl w6.heap.size w6).alloc (Nat.le_refl _) (.cells #[.int .i64 1, .int .i64 0, .int .u32 99, .slice a6 1 c6, .int .u32 tg] 28)
  have g6 := Own.new w6 28 #[.int .i64 1, .int .i64 0, .int .u32 99, .slice a6 1 c6, .int .u32 tg]
  have S7 : Sk _ s _ _ _ _ _ := below_own ba S6 hs6
  have L7 := h63.below ba
  have b9 := b8.trans (ba.mono b8.size)
  go_upto_region 5 with (fail)
  obtain ⟨g, hg⟩ : ∃ g, w6.heap.size = g := ⟨_, rfl⟩
  rw [hg] at g6 ⊢
  generalize w6.alloc (.cells #[.int .i64 1, .int .i64 0, .int .u32 99, .slice a6 1 c6, .int .u32 tg] 28) = w7 at *
  clear hg ba S6 b8 h63
  have c0 := g6.cell 0
  have c1 := g6.cell 1
  have c2 := g6.cell 2
  have c3 := g6.cell 3
  have c4' := g6.cell 4
  have PG := give_any 7 ⟨1, 0, 99, 1, LA, tg⟩ a6 c6 w7 (by decide) in99 h61 h62 L7
  obtain ⟨hO, hC⟩ := give_yes (key := 7) HGM.out
  rw [hO, hC] at PG
  have hlG : (sealL 7 (giveB ⟨1, 0, 99, 1, LA, tg⟩)).length = 17 := (sealL_len _ _).trans (congrArg (· + 4) (giveB_len _))
  rw [hlG] at PG
  go_wp2_with fail
  refine PG.mono ?_
  rintro e w8 ⟨a8, c8, rfl, B8, b10⟩
  have S8 : Sk _ s _ _ _ _ _ := below_own b10 S7 (Own.lt S7)
  have b11 := b9.trans (b10.mono b9.size)
  clear c0 c1 c2 c3 c4' g6 PG hO hC S7 L7 b9 b10
  have PD := done_any s 1 7 (0 + 1) 99 true a8 c8 (sealL 7 (giveB ⟨1, 0, 99, 1, LA, tg⟩)) w8 S8 (by decide) (by rw [hlG]; decide) B8 (okB_seal (giveB_may HGM.out))
  have hd0 : doneE 1 7 99 true (sealL 7 (giveB ⟨1, 0, 99, 1, LA, tg⟩)) = 0 := doneE_ok HGM.out in99 rfl rfl
  obtain ⟨_, e1, _, e3, e4, _, _⟩ := give_back (key := 7) HGM.out in99
  unfold DnP doneG at PD
  rw [if_pos hd0, hd0, hlG] at PD
  obtain ⟨q, hq⟩ : ∃ q, giveR (sealL 7 (giveB ⟨1, 0, 99, 1, LA, tg⟩)) = q := ⟨_, rfl⟩
  rw [hq] at PD e1 e3 e4
  obtain ⟨q1, q2, q3, qn, qL, q5⟩ := q
  dsimp only at e1 e3 e4
  subst e1 e3 e4
  have HPD := Lib.hid PD
  clear PD hd0 hq hlG
  go_wp2_with fail
  refine HPD.out.mono ?_
  rintro e w9 ⟨⟨a9, c9, rfl, h91, h92, h93⟩, S9, j9⟩
  have b12 := j9.below b11 (by omega) b11.size
  clear HPD S8 B8 b11 j9
  unfold Gt.vals
  dsimp only at h91 h93 ⊢
  unfold maxLen at h92
  have hn1 : (1 : Int) ≤ 9223372036854775807 := by decide
  have hc9 : (c9 : Int) ≤ 9223372036854775807 := by omega
  have bz := b12.alloc b12.size (.cells #[.int .i64 1, .int .i64 q2, .int .u32 99, .slice a9 1 c9, .int .u32 q5] 28)
  have HBZ := Lib.hid bz
  go_wp2_with fail
  go_ret
  exact ⟨rfl, HBZ.out⟩
end Go.Proofs.Ytphiohdhgkpgnaa.Jo
