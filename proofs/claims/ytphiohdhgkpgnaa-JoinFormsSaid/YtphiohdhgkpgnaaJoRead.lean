/-
  Package join (chapter 18): bytes as requests.
-/
import Derived.Test.YtphiohdhgkpgnaaJoReadM
import Derived.Test.YtphiohdhgkpgnaaResRow
import Derived.Test.YtphiohdhgkpgnaaRowOut
set_option maxRecDepth 100000
namespace Go.Proofs.Ytphiohdhgkpgnaa.Jo
set_option linter.unusedVariables false
open Go.RowKit Lb Go.Shelf Bf Se Cl

/-- What readAsking tells. -/
def AskP (nd : Int) (l : List Int) (r : Ending) : Prop :=
  r = .returned (if ask2 nd l = 0 then .tuple #[.iface 67 (.agg (askR2 nd l).vals), .int .i64 0] else .tuple #[.nilIface, .int .i64 (ask2 nd l)])
set_option maxHeartbeats 4000000 in
theorem ra_any (base b : Nat) (nd : Int) (l : List Int) (w : World) (h : Rb w base b l 0) (hB : okB l) (hbb : base ≤ b) :
    Calls Try.prog 55 #[.pointer (some ⟨b, 0, none⟩), .int .i64 nd] w fun r w' => AskP nd l r ∧ Below base w w' := by
  have hbs : base ≤ w.heap.size := by
    obtain ⟨j, n, Z, v, h1, _⟩ := h
    have := h1.own.lt
    omega
  have hm := okB_at hB 0
  have P1 := take8_any base b l 0 w h
  have HS1 := short_er l 1
  have HBB := Lib.hid hB
  obtain ⟨p, hp⟩ : ∃ p, l.getD 0 0 = p := ⟨_, rfl⟩
  rw [hp] at hm P1
  have HP := Lib.hid hp
  have HO := isother_any p nd
  clear hp hB h
  by_cases h1 : l.length < 1
  · rw [decide_eq_true h1] at HS1
    have HS := Lib.hid HS1
    have HD : Hid (ask2 nd l = 2) := Lib.hid (if_pos h1)
    clear HS1 h1
    go_enter Try.func55, Try.ntmps55
    go_wp2_with fail
    refine P1.mono ?_
    rintro r w1 ⟨rfl, g1, j1⟩
    have b1 := j1.below (Below.refl base w) hbb hbs
    go_wp2_with fail
    refine (short_any base b _ _ w1 g1).mono ?_
    rintro r w2 ⟨rfl, m, rfl⟩
    rw [HS.out]
    go_wp2_with fail
    go_ret2
    exact ⟨by unfold AskP; rw [HD.out]; rfl, below_drewN b1 m⟩
  · rw [decide_eq_false h1] at HS1
    have HS := Lib.hid HS1
    have HL := Lib.hid h1
    clear HS1
    cases ho : otherB p nd
    · rw [ho] at HO
      have HD : Hid (ask2 nd l = 3) := Lib.hid (by unfold ask2; rw [if_neg h1, if_pos (by rw [HP.out]; exact ho)])
      have HO2 := Lib.hid HO
      clear ho h1 HO
      go_enter Try.func55, Try.ntmps55
      go_wp2_with fail
      refine P1.mono ?_
      rintro r w1 ⟨rfl, g1, j1⟩
      have b1 := j1.below (Below.refl base w) hbb hbs
      go_wp2_with fail
      refine (short_any base b _ _ w1 g1).mono ?_
      rintro r w2 ⟨rfl, m, rfl⟩
      rw [HS.out]
      go_wp2_with fail
      refine (HO2.out _).mono ?_
      rintro r w3 ⟨rfl, rfl⟩
      go_wp2_with fail
      go_ret2
      exact ⟨by unfold AskP; rw [HD.out]; rfl, below_drewN b1 m⟩
    · rw [ho] at HO
      have hD : ask2 nd l = if l.length < 13 then 2 else if l.length ≠ 13 then 3 else 0 := by unfold ask2; rw [if_neg h1, if_neg (by rw [HP.out, ho]; decide)]
      have HO2 := Lib.hid HO
      have hE := end_er l 13
      rw [← hD] at hE
      have HE := Lib.hid hE
      have HV : Hid (ask2 nd l = 0 → m4 (lft l 1) = n4 l 1 ∧ m4 (lft l 5) = n4 l 5 ∧ m4 (lft l 9) = n4 l 9) := Lib.hid (fun h0 => by
        rw [hD] at h0
        split at h0
        · cases h0
        · exact ⟨m4_lft (by omega), m4_lft (by omega), m4_lft (by omega)⟩)
      obtain ⟨e, he⟩ : ∃ e, ask2 nd l = e := ⟨_, rfl⟩
      have HEE := Lib.hid he
      clear ho h1 HO hD hE he
      go_enter Try.func55, Try.ntmps55
      go_wp2_with fail
      refine P1.mono ?_
      rintro r w1 ⟨rfl, g1, j1⟩
      have b1 := j1.below (Below.refl base w) hbb hbs
      go_wp2_with fail
      refine (short_any base b _ _ w1 g1).mono ?_
      rintro r w2 ⟨rfl, m, rfl⟩
      rw [HS.out]
      have b1 := below_drewN b1 m
      have g1 := g1.drewN m
      clear j1 P1
      generalize w1.drewN m = w2 at *
      go_wp2_with fail
      refine (HO2.out _).mono ?_
      rintro r w3 ⟨rfl, rfl⟩
      have P2 := t32_any base b (lft l 1) (er l 1 0) w2 g1 (okB_lft HBB.out 1)
      rw [lft_add (by decide), er_add (by decide)] at P2
      obtain ⟨v1, hv1⟩ : ∃ v, m4 (lft l 1) = v := ⟨_, rfl⟩
      rw [hv1] at P2
      have HV1 := Lib.hid hv1
      clear hv1
      go_wp2_with fail
      refine P2.mono ?_
      rintro r w3 ⟨rfl, g2, j2⟩
      have b2 := j2.below b1 hbb (Nat.le_trans hbs b1.size)
      clear P2 j2 g1
      have P2 := t32_any base b (lft l 5) (er l 5 0) w3 g2 (okB_lft HBB.out 5)
      rw [lft_add (by decide), er_add (by decide)] at P2
      obtain ⟨v2, hv2⟩ : ∃ v, m4 (lft l 5) = v := ⟨_, rfl⟩
      rw [hv2] at P2
      have HV2 := Lib.hid hv2
      clear hv2 b1
      go_wp2_with fail
      refine P2.mono ?_
      rintro r w4 ⟨rfl, g3, j3⟩
      have b3 := j3.below b2 hbb (Nat.le_trans hbs b2.size)
      clear P2 j3 g2
      have P2 := t32_any base b (lft l 9) (er l 9 0) w4 g3 (okB_lft HBB.out 9)
      rw [lft_add (by decide), er_add (by decide)] at P2
      obtain ⟨v3, hv3⟩ : ∃ v, m4 (lft l 9) = v := ⟨_, rfl⟩
      rw [hv3] at P2
      have HV3 := Lib.hid hv3
      clear hv3 b2
      go_wp2_with fail
      refine P2.mono ?_
      rintro r w5 ⟨rfl, g4, j4⟩
      have b4 := j4.below b3 hbb (Nat.le_trans hbs b3.size)
      clear P2 j4 g3 b3
      have ba := (Below.refl w5.heap.size w5).alloc (Nat.le_refl _) (.cells #[.int .i64 nd, .int .i64 p, .int .u32 v1, .int .u32 v2, .int .u32 v3] 67)
      have oa := Own.new w5 67 #[.int .i64 nd, .int .i64 p, .int .u32 v1, .int .u32 v2, .int .u32 v3]
      have g5 := g4.below ba
      have b5 := b4.trans (ba.mono (Nat.le_trans hbs b4.size))
      clear g4 b4
      go_upto_region 7 with (fail)
      generalize hg : w5.heap.size = g at *
      generalize w5.alloc (.cells #[.int .i64 nd, .int .i64 p, .int .u32 v1, .int .u32 v2, .int .u32 v3] 67) = w6 at *
      clear ba hg
      have PE := endb_any base b _ _ w6 g5
      rw [show 9 + 4 = 13 from rfl, HE.out, HEE.out] at PE
      by_cases he : e = 0
      · subst he
        have HD : Hid (.tuple #[.iface 67 (.agg #[.int .i64 nd, .int .i64 p, .int .u32 v1, .int .u32 v2, .int .u32 v3]), .int .i64 0] = (if ask2 nd l = 0 then .tuple #[.iface 67 (.agg (askR2 nd l).vals), .int .i64 0] else .tuple #[.nilIface, .int .i64 (ask2 nd l)] : Value)) := Lib.hid (by
          obtain ⟨x1, x2, x3⟩ := HV.out HEE.out
          rw [if_pos HEE.out]
          unfold askR2 Rq.vals
          rw [HP.out, ← x1, ← x2, ← x3, HV1.out, HV2.out, HV3.out])
        go_wp2_with fail
        refine PE.mono ?_
        rintro r w7 ⟨rfl, m, rfl⟩
        have b6 := below_drewN b5 m
        have o6 := oa.drewN m
        generalize w6.drewN m = w7 at *
        clear PE b5 oa
        have c0 := o6.cell 0
        have c1 := o6.cell 1
        have c2 := o6.cell 2
        have c3 := o6.cell 3
        have c4 := o6.cell 4
        go_wp2_with fail
        go_ret2
        exact ⟨by unfold AskP; rw [← HD.out]; rfl, b6⟩
      · have HD : Hid ((.tuple #[.nilIface, .int .i64 e] : Value) = if ask2 nd l = 0 then .tuple #[.iface 67 (.agg (askR2 nd l).vals), .int .i64 0] else .tuple #[.nilIface, .int .i64 (ask2 nd l)]) := Lib.hid (by rw [HEE.out, if_neg he])
        have he2 : (e == 0) = false := by simpa using he
        have he3 : (e != 0) = true := by simpa using he
        clear he oa
        go_wp2_with fail
        refine PE.mono ?_
        rintro r w7 ⟨rfl, m, rfl⟩
        have b6 := below_drewN b5 m
        clear PE b5
        go_wp2_with fail
        go_ret2
        exact ⟨by unfold AskP; rw [← HD.out]; rfl, b6⟩
-- READ
/-- What bytes ask. -/
def askV (l : List Int) : Value := if askE l = 0 then .tuple #[.iface 67 (.agg (askR l).vals), .int .i64 0] else .tuple #[.nilIface, .int .i64 (askE l)]
set_option maxHeartbeats 2000000 in
theorem reada_any (a : Option Addr) (c : Nat) (l : List Int) (w : World) (hl : l.length ≤ 1000) (hR : Bs w a c l) (hB : okB l) :
    Calls Try.prog 38 #[.slice a l.length c, .int .u64 74] w fun r w' => r = .returned (askV l) ∧ Below w.heap.size w w' := by
  have PN := newb_any a c l w (by omega) hR.row hB (fun e => by
    subst e
    rcases Nat.eq_zero_or_pos l.length with h | h
    · exact h
    · obtain ⟨_, _, e, _⟩ := hR.row h
      cases e)
  have HBB := Lib.hid hB
  have nd0 := okB_at hB 1
  have hd0 := okB_at hB 0
  obtain ⟨nd, hnd⟩ : ∃ x, l.getD 1 0 = x := ⟨_, rfl⟩
  rw [hnd] at nd0
  have HND := Lib.hid hnd
  have HN1 : Hid ((lft l 1).getD 0 0 = nd) := Lib.hid (by
    by_cases h : l.length < 1
    · have e : l = [] := List.length_eq_zero_iff.1 (by omega)
      subst e
      rw [← hnd]
      rfl
    · rw [lft_yes (by omega), getD_drop, ← hnd])
  have hle := hR.le
  have hcap := hR.cap
  unfold maxLen at hcap
  clear hnd hR hB
  rcases (show l.length < 1 ∨ (¬ l.length < 1 ∧ l.getD 0 0 ≠ 74) ∨ (¬ l.length < 1 ∧ l.getD 0 0 = 74 ∧ l.length < 2) ∨ (¬ l.length < 1 ∧ l.getD 0 0 = 74 ∧ ¬ l.length < 2 ∧ nodeB nd = false) ∨ (¬ l.length < 1 ∧ l.getD 0 0 = 74 ∧ ¬ l.length < 2 ∧ nodeB nd = true) by
    by_cases h1 : l.length < 1
    · exact .inl h1
    · by_cases h2 : l.getD 0 0 = 74
      · by_cases h3 : l.length < 2
        · exact .inr (.inr (.inl ⟨h1, h2, h3⟩))
        · cases h4 : nodeB nd
          · exact .inr (.inr (.inr (.inl ⟨h1, h2, h3, rfl⟩)))
          · exact .inr (.inr (.inr (.inr ⟨h1, h2, h3, rfl⟩)))
      · exact .inr (.inl ⟨h1, h2⟩)) with h1 | ⟨h1, h2⟩ | ⟨h1, h2, h3⟩ | ⟨h1, h2, h3, h4⟩ | ⟨h1, h2, h3, h4⟩
  · skip
    have HL1 : Hid (decide (l.length < 1) = true) := Lib.hid (decide_eq_true h1)
    have HD : Hid (askV l = .tuple #[.nilIface, .int .i64 2]) := Lib.hid (by have e : askE l = 2 := (by unfold askE; rw [if_pos h1]); unfold askV; rw [e]; rfl)
    clear h1
    go_enter Try.func38, Try.ntmps38
    go_wp2_with fail
    refine PN.mono ?_
    rintro r w1 ⟨b, rfl, g1, b1, hb1, hb2⟩
    have P1 := take8_any w.heap.size b l 0 w1 g1
    obtain ⟨f0, hf0⟩ : ∃ x, l.getD 0 0 = x := ⟨_, rfl⟩
    rw [hf0] at P1
    have HF0 := Lib.hid hf0
    clear hf0 PN g1
    go_wp2_with fail
    refine P1.mono ?_
    rintro r w2 ⟨rfl, g2, j2⟩
    have b2 := j2.below b1 hb1 b1.size
    clear P1 j2 b1 hb2
    go_wp2_with fail
    refine (short_any _ b _ _ w2 g2).mono ?_
    rintro r w3 ⟨rfl, m, rfl⟩
    rw [short_er, HL1.out]
    have b2 := below_drewN b2 m
    have g2 := g2.drewN m
    generalize w2.drewN m = w3 at *
    go_wp2_with fail
    go_ret2
    exact ⟨by rw [HD.out]; rfl, b2⟩
  · skip
    have HL1 : Hid (decide (l.length < 1) = false) := Lib.hid (decide_eq_false h1)
    have HD : Hid (askV l = .tuple #[.nilIface, .int .i64 3]) := Lib.hid (by have e : askE l = 3 := (by unfold askE; rw [if_neg h1, if_pos h2]); unfold askV; rw [e]; rfl)
    have hz1 : (l.getD 0 0 == 74) = false := by simpa using h2
    have hz2 : (l.getD 0 0 != 74) = true := by simpa using h2
    have HZ1 := Lib.hid hz1
    have HZ2 := Lib.hid hz2
    clear h1 h2 hz1 hz2
    go_enter Try.func38, Try.ntmps38
    go_wp2_with fail
    refine PN.mono ?_
    rintro r w1 ⟨b, rfl, g1, b1, hb1, hb2⟩
    have P1 := take8_any w.heap.size b l 0 w1 g1
    obtain ⟨f0, hf0⟩ : ∃ x, l.getD 0 0 = x := ⟨_, rfl⟩
    rw [hf0] at P1
    have HF0 := Lib.hid hf0
    clear hf0 PN g1
    go_wp2_with fail
    refine P1.mono ?_
    rintro r w2 ⟨rfl, g2, j2⟩
    have b2 := j2.below b1 hb1 b1.size
    clear P1 j2 b1 hb2
    go_wp2_with fail
    refine (short_any _ b _ _ w2 g2).mono ?_
    rintro r w3 ⟨rfl, m, rfl⟩
    rw [short_er, HL1.out]
    have b2 := below_drewN b2 m
    have g2 := g2.drewN m
    generalize w2.drewN m = w3 at *
    have hz1 := HZ1.out
    have hz2 := HZ2.out
    rw [HF0.out] at hz1 hz2
    go_wp2_with fail
    go_ret2
    exact ⟨by rw [HD.out]; rfl, b2⟩
  · skip
    have HL1 : Hid (decide (l.length < 1) = false) := Lib.hid (decide_eq_false h1)
    have HL2 : Hid (decide (l.length < 2) = true) := Lib.hid (decide_eq_true h3)
    have HH2 := Lib.hid h2
    have HD : Hid (askV l = .tuple #[.nilIface, .int .i64 2]) := Lib.hid (by have e : askE l = 2 := (by unfold askE; rw [if_neg h1, if_neg (fun e => e h2), if_pos h3]); unfold askV; rw [e]; rfl)
    clear h1 h2 h3
    go_enter Try.func38, Try.ntmps38
    go_wp2_with fail
    refine PN.mono ?_
    rintro r w1 ⟨b, rfl, g1, b1, hb1, hb2⟩
    have P1 := take8_any w.heap.size b l 0 w1 g1
    obtain ⟨f0, hf0⟩ : ∃ x, l.getD 0 0 = x := ⟨_, rfl⟩
    rw [hf0] at P1
    have HF0 := Lib.hid hf0
    clear hf0 PN g1
    go_wp2_with fail
    refine P1.mono ?_
    rintro r w2 ⟨rfl, g2, j2⟩
    have b2 := j2.below b1 hb1 b1.size
    clear P1 j2 b1 hb2
    go_wp2_with fail
    refine (short_any _ b _ _ w2 g2).mono ?_
    rintro r w3 ⟨rfl, m, rfl⟩
    rw [short_er, HL1.out]
    have b2 := below_drewN b2 m
    have g2 := g2.drewN m
    generalize w2.drewN m = w3 at *
    obtain rfl : f0 = 74 := by rw [← HF0.out]; exact HH2.out
    clear HF0
    have P1 := take8_any w.heap.size b (lft l 1) (er l 1 0) w3 g2
    rw [lft_add (by decide), er_add (by decide), HN1.out] at P1
    go_wp2_with fail
    refine P1.mono ?_
    rintro r w4 ⟨rfl, g3, j3⟩
    have b3 := j3.below b2 hb1 b2.size
    clear P1 j3 b2 g2
    have b2 := b3
    have u2 : IntKind.i64.wrap nd = nd := by rw [IntWalk.i64_in _ (by omega)]
    go_wp2_with fail
    refine (short_any _ b _ _ w4 g3).mono ?_
    rintro r w5 ⟨rfl, m, rfl⟩
    rw [short_er, HL2.out]
    have b2 := below_drewN b2 m
    have g3 := g3.drewN m
    clear u2 b3
    generalize w4.drewN m = w5 at *
    go_wp2_with fail
    go_ret2
    exact ⟨by rw [HD.out]; rfl, b2⟩
  · skip
    have HL1 : Hid (decide (l.length < 1) = false) := Lib.hid (decide_eq_false h1)
    have HL2 : Hid (decide (l.length < 2) = false) := Lib.hid (decide_eq_false h3)
    have HH2 := Lib.hid h2
    have HNB := Lib.hid h4
    have HD : Hid (askV l = .tuple #[.nilIface, .int .i64 3]) := Lib.hid (by have e : askE l = 3 := (by unfold askE; rw [if_neg h1, if_neg (fun e => e h2), if_neg h3, if_pos (by rw [HND.out]; exact h4)]); unfold askV; rw [e]; rfl)
    clear h1 h2 h3 h4
    go_enter Try.func38, Try.ntmps38
    go_wp2_with fail
    refine PN.mono ?_
    rintro r w1 ⟨b, rfl, g1, b1, hb1, hb2⟩
    have P1 := take8_any w.heap.size b l 0 w1 g1
    obtain ⟨f0, hf0⟩ : ∃ x, l.getD 0 0 = x := ⟨_, rfl⟩
    rw [hf0] at P1
    have HF0 := Lib.hid hf0
    clear hf0 PN g1
    go_wp2_with fail
    refine P1.mono ?_
    rintro r w2 ⟨rfl, g2, j2⟩
    have b2 := j2.below b1 hb1 b1.size
    clear P1 j2 b1 hb2
    go_wp2_with fail
    refine (short_any _ b _ _ w2 g2).mono ?_
    rintro r w3 ⟨rfl, m, rfl⟩
    rw [short_er, HL1.out]
    have b2 := below_drewN b2 m
    have g2 := g2.drewN m
    generalize w2.drewN m = w3 at *
    obtain rfl : f0 = 74 := by rw [← HF0.out]; exact HH2.out
    clear HF0
    have P1 := take8_any w.heap.size b (lft l 1) (er l 1 0) w3 g2
    rw [lft_add (by decide), er_add (by decide), HN1.out] at P1
    go_wp2_with fail
    refine P1.mono ?_
    rintro r w4 ⟨rfl, g3, j3⟩
    have b3 := j3.below b2 hb1 b2.size
    clear P1 j3 b2 g2
    have b2 := b3
    have u2 : IntKind.i64.wrap nd = nd := by rw [IntWalk.i64_in _ (by omega)]
    go_wp2_with fail
    refine (short_any _ b _ _ w4 g3).mono ?_
    rintro r w5 ⟨rfl, m, rfl⟩
    rw [short_er, HL2.out]
    have b2 := below_drewN b2 m
    have g3 := g3.drewN m
    clear u2 b3
    generalize w4.drewN m = w5 at *
    go_wp2_with fail
    refine (isnode_any nd w5).mono ?_
    rintro r w6 ⟨rfl, rfl⟩
    rw [HNB.out]
    go_wp2_with fail
    go_ret2
    exact ⟨by rw [HD.out]; rfl, b2⟩
  · skip
    have HL1 : Hid (decide (l.length < 1) = false) := Lib.hid (decide_eq_false h1)
    have HL2 : Hid (decide (l.length < 2) = false) := Lib.hid (decide_eq_false h3)
    have HH2 := Lib.hid h2
    have HNB := Lib.hid h4
    have HAE : Hid (askE l = ask2 nd (l.drop 2)) := Lib.hid (by unfold askE; rw [if_neg h1, if_neg (fun e => e h2), if_neg h3, if_neg (by rw [HND.out, h4]; decide), HND.out])
    have hlen2 : 2 ≤ l.length := by omega
    have HLL := Lib.hid hlen2
    clear h1 h2 h3 h4 hlen2
    go_enter Try.func38, Try.ntmps38
    go_wp2_with fail
    refine PN.mono ?_
    rintro r w1 ⟨b, rfl, g1, b1, hb1, hb2⟩
    have P1 := take8_any w.heap.size b l 0 w1 g1
    obtain ⟨f0, hf0⟩ : ∃ x, l.getD 0 0 = x := ⟨_, rfl⟩
    rw [hf0] at P1
    have HF0 := Lib.hid hf0
    clear hf0 PN g1
    go_wp2_with fail
    refine P1.mono ?_
    rintro r w2 ⟨rfl, g2, j2⟩
    have b2 := j2.below b1 hb1 b1.size
    clear P1 j2 b1 hb2
    go_wp2_with fail
    refine (short_any _ b _ _ w2 g2).mono ?_
    rintro r w3 ⟨rfl, m, rfl⟩
    rw [short_er, HL1.out]
    have b2 := below_drewN b2 m
    have g2 := g2.drewN m
    generalize w2.drewN m = w3 at *
    obtain rfl : f0 = 74 := by rw [← HF0.out]; exact HH2.out
    clear HF0
    have P1 := take8_any w.heap.size b (lft l 1) (er l 1 0) w3 g2
    rw [lft_add (by decide), er_add (by decide), HN1.out] at P1
    go_wp2_with fail
    refine P1.mono ?_
    rintro r w4 ⟨rfl, g3, j3⟩
    have b3 := j3.below b2 hb1 b2.size
    clear P1 j3 b2 g2
    have b2 := b3
    have u2 : IntKind.i64.wrap nd = nd := by rw [IntWalk.i64_in _ (by omega)]
    go_wp2_with fail
    refine (short_any _ b _ _ w4 g3).mono ?_
    rintro r w5 ⟨rfl, m, rfl⟩
    rw [short_er, HL2.out]
    have b2 := below_drewN b2 m
    have g3 := g3.drewN m
    clear u2 b3
    generalize w4.drewN m = w5 at *
    go_wp2_with fail
    refine (isnode_any nd w5).mono ?_
    rintro r w6 ⟨rfl, rfl⟩
    rw [HNB.out]
    rw [lft_yes HLL.out, er_yes HLL.out] at g3
    go_wp2_with fail
    refine (ra_any w.heap.size b nd (l.drop 2) w5 g3 (okB_drop HBB.out 2) hb1).mono ?_
    rintro r w7 ⟨hr, b7⟩
    have b8 := b2.trans b7
    unfold AskP at hr
    subst hr
    have HD : Hid (askV l = if ask2 nd (l.drop 2) = 0 then .tuple #[.iface 67 (.agg (askR2 nd (l.drop 2)).vals), .int .i64 0] else .tuple #[.nilIface, .int .i64 (ask2 nd (l.drop 2))]) := Lib.hid (by
      unfold askV askR
      rw [HAE.out, HND.out]
      by_cases h : ask2 nd (l.drop 2) = 0
      · rw [if_pos h, if_pos h, if_pos h]
      · rw [if_neg h, if_neg h])
    by_cases he : ask2 nd (l.drop 2) = 0
    · rw [if_pos he] at HD ⊢
      have HDD := Lib.hid he
      clear he
      go_wp2_with fail
      go_ret2
      exact ⟨by rw [HD.out]; rfl, b8⟩
    · rw [if_neg he] at HD ⊢
      have HDD := Lib.hid he
      clear he
      go_wp2_with fail
      go_ret2
      exact ⟨by rw [HD.out]; rfl, b8⟩
end Go.Proofs.Ytphiohdhgkpgnaa.Jo
