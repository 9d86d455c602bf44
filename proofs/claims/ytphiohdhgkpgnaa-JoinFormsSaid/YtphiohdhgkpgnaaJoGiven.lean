/-
  Package join (chapter 18): bytes as grants: read, Given.
-/
import Derived.Test.YtphiohdhgkpgnaaJoGran
set_option maxRecDepth 100000
namespace Go.Proofs.Ytphiohdhgkpgnaa.Jo
set_option linter.unusedVariables false
open Go.RowKit Lb Go.Shelf Bf Se Cl

theorem row_just {w w' : World} {a : Option Addr} {n b : Nat} {V : Nat → Value} (h : Row w a n V) (j : Just b w w') (hb : ∀ p, a = some p → p.block ≠ b) : Row w' a n V := fun h0 => by
  obtain ⟨q, off, rfl, hq, hc⟩ := h h0
  have hne := hb _ rfl
  exact ⟨q, off, rfl, Nat.lt_of_lt_of_le hq j.size, fun i hi => (World.cell?_of_block (a := ⟨q, off + i, none⟩) (j.block q hq hne)).trans (hc i hi)⟩
def GvP (base : Nat) (l : List Int) (r : Ending) (w' : World) : Prop :=
  (giveE l ≠ 0 ∧ r = .returned (.tuple #[.nilIface, .int .i64 (giveE l)])) ∨
  (giveE l = 0 ∧ ∃ a c, r = .returned (.tuple #[.iface 73 (.agg ((giveR l).vals a c)), .int .i64 0]) ∧ (giveR l).n ≤ c ∧ c ≤ maxLen ∧ Row w' a ((giveR l).n * 5) (cv (giveR l).L) ∧ ∀ p, a = some p → base ≤ p.block)
set_option maxHeartbeats 2000000 in
theorem readg_any (a : Option Addr) (c : Nat) (l : List Int) (w : World) (hl : l.length ≤ 1000) (hR : Bs w a c l) (hB : okB l) :
    Calls Try.prog 38 #[.slice a l.length c, .int .u64 71] w fun r w' => GvP w.heap.size l r w' ∧ Below w.heap.size w w' := by
  have PN := newb_any a c l w (by omega) hR.row hB (fun e => by
    subst e
    rcases Nat.eq_zero_or_pos l.length with h | h
    · exact h
    · obtain ⟨_, _, e, _⟩ := hR.row h
      cases e)
  have HBB := Lib.hid hB
  have nd0 := okB_at hB 1
  have hd0 := okB_at hB 0
  obtain ⟨nd, hnd⟩ : ∃ x, l.getD 1 0 = x := ⟨_, rfl⟩
  rw [hnd] at nd0
  have HND := Lib.hid hnd
  have HN1 : Hid ((lft l 1).getD 0 0 = nd) := Lib.hid (by
    by_cases h : l.length < 1
    · have e : l = [] := List.length_eq_zero_iff.1 (by omega)
      subst e
      rw [← hnd]
      rfl
    · rw [lft_yes (by omega), getD_drop, ← hnd])
  have hle := hR.le
  have hcap := hR.cap
  unfold maxLen at hcap
  clear hnd hR hB
  rcases (show l.length < 1 ∨ (¬ l.length < 1 ∧ l.getD 0 0 ≠ 71) ∨ (¬ l.length < 1 ∧ l.getD 0 0 = 71 ∧ l.length < 2) ∨ (¬ l.length < 1 ∧ l.getD 0 0 = 71 ∧ ¬ l.length < 2 ∧ nodeB nd = false) ∨ (¬ l.length < 1 ∧ l.getD 0 0 = 71 ∧ ¬ l.length < 2 ∧ nodeB nd = true) by
    by_cases h1 : l.length < 1
    · exact .inl h1
    · by_cases h2 : l.getD 0 0 = 71
      · by_cases h3 : l.length < 2
        · exact .inr (.inr (.inl ⟨h1, h2, h3⟩))
        · cases h4 : nodeB nd
          · exact .inr (.inr (.inr (.inl ⟨h1, h2, h3, rfl⟩)))
          · exact .inr (.inr (.inr (.inr ⟨h1, h2, h3, rfl⟩)))
      · exact .inr (.inl ⟨h1, h2⟩)) with h1 | ⟨h1, h2⟩ | ⟨h1, h2, h3⟩ | ⟨h1, h2, h3, h4⟩ | ⟨h1, h2, h3, h4⟩
  · skip
    have HL1 : Hid (decide (l.length < 1) = true) := Lib.hid (decide_eq_true h1)
    have HD : Hid (giveE l = 2) := Lib.hid (by unfold giveE; rw [if_pos h1])
    clear h1
    go_enter Try.func38, Try.ntmps38
    go_wp2_with fail
    refine PN.mono ?_
    rintro r w1 ⟨b, rfl, g1, b1, hb1, hb2⟩
    have P1 := take8_any w.heap.size b l 0 w1 g1
    obtain ⟨f0, hf0⟩ : ∃ x, l.getD 0 0 = x := ⟨_, rfl⟩
    rw [hf0] at P1
    have HF0 := Lib.hid hf0
    clear hf0 PN g1
    go_wp2_with fail
    refine P1.mono ?_
    rintro r w2 ⟨rfl, g2, j2⟩
    have b2 := j2.below b1 hb1 b1.size
    clear P1 j2 b1 hb2
    go_wp2_with fail
    refine (short_any _ b _ _ w2 g2).mono ?_
    rintro r w3 ⟨rfl, m, rfl⟩
    rw [short_er, HL1.out]
    have b2 := below_drewN b2 m
    have g2 := g2.drewN m
    generalize w2.drewN m = w3 at *
    go_wp2_with fail
    go_ret2
    exact ⟨.inl ⟨by rw [HD.out]; decide, by rw [HD.out]; rfl⟩, b2⟩
  · skip
    have HL1 : Hid (decide (l.length < 1) = false) := Lib.hid (decide_eq_false h1)
    have HD : Hid (giveE l = 3) := Lib.hid (by unfold giveE; rw [if_neg h1, if_pos h2])
    have hz1 : (l.getD 0 0 == 71) = false := by simpa using h2
    have hz2 : (l.getD 0 0 != 71) = true := by simpa using h2
    have HZ1 := Lib.hid hz1
    have HZ2 := Lib.hid hz2
    clear h1 h2 hz1 hz2
    go_enter Try.func38, Try.ntmps38
    go_wp2_with fail
    refine PN.mono ?_
    rintro r w1 ⟨b, rfl, g1, b1, hb1, hb2⟩
    have P1 := take8_any w.heap.size b l 0 w1 g1
    obtain ⟨f0, hf0⟩ : ∃ x, l.getD 0 0 = x := ⟨_, rfl⟩
    rw [hf0] at P1
    have HF0 := Lib.hid hf0
    clear hf0 PN g1
    go_wp2_with fail
    refine P1.mono ?_
    rintro r w2 ⟨rfl, g2, j2⟩
    have b2 := j2.below b1 hb1 b1.size
    clear P1 j2 b1 hb2
    go_wp2_with fail
    refine (short_any _ b _ _ w2 g2).mono ?_
    rintro r w3 ⟨rfl, m, rfl⟩
    rw [short_er, HL1.out]
    have b2 := below_drewN b2 m
    have g2 := g2.drewN m
    generalize w2.drewN m = w3 at *
    have hz1 := HZ1.out
    have hz2 := HZ2.out
    rw [HF0.out] at hz1 hz2
    go_wp2_with fail
    go_ret2
    exact ⟨.inl ⟨by rw [HD.out]; decide, by rw [HD.out]; rfl⟩, b2⟩
  · skip
    have HL1 : Hid (decide (l.length < 1) = false) := Lib.hid (decide_eq_false h1)
    have HL2 : Hid (decide (l.length < 2) = true) := Lib.hid (decide_eq_true h3)
    have HH2 := Lib.hid h2
    have HD : Hid (giveE l = 2) := Lib.hid (by unfold giveE; rw [if_neg h1, if_neg (fun e => e h2), if_pos h3])
    clear h1 h2 h3
    go_enter Try.func38, Try.ntmps38
    go_wp2_with fail
    refine PN.mono ?_
    rintro r w1 ⟨b, rfl, g1, b1, hb1, hb2⟩
    have P1 := take8_any w.heap.size b l 0 w1 g1
    obtain ⟨f0, hf0⟩ : ∃ x, l.getD 0 0 = x := ⟨_, rfl⟩
    rw [hf0] at P1
    have HF0 := Lib.hid hf0
    clear hf0 PN g1
    go_wp2_with fail
    refine P1.mono ?_
    rintro r w2 ⟨rfl, g2, j2⟩
    have b2 := j2.below b1 hb1 b1.size
    clear P1 j2 b1 hb2
    go_wp2_with fail
    refine (short_any _ b _ _ w2 g2).mono ?_
    rintro r w3 ⟨rfl, m, rfl⟩
    rw [short_er, HL1.out]
    have b2 := below_drewN b2 m
    have g2 := g2.drewN m
    generalize w2.drewN m = w3 at *
    obtain rfl : f0 = 71 := by rw [← HF0.out]; exact HH2.out
    clear HF0
    have P1 := take8_any w.heap.size b (lft l 1) (er l 1 0) w3 g2
    rw [lft_add (by decide), er_add (by decide), HN1.out] at P1
    go_wp2_with fail
    refine P1.mono ?_
    rintro r w4 ⟨rfl, g3, j3⟩
    have b3 := j3.below b2 hb1 b2.size
    clear P1 j3 b2 g2
    have b2 := b3
    have u2 : IntKind.i64.wrap nd = nd := by rw [IntWalk.i64_in _ (by omega)]
    go_wp2_with fail
    refine (short_any _ b _ _ w4 g3).mono ?_
    rintro r w5 ⟨rfl, m, rfl⟩
    rw [short_er, HL2.out]
    have b2 := below_drewN b2 m
    have g3 := g3.drewN m
    clear u2 b3
    generalize w4.drewN m = w5 at *
    go_wp2_with fail
    go_ret2
    exact ⟨.inl ⟨by rw [HD.out]; decide, by rw [HD.out]; rfl⟩, b2⟩
  · skip
    have HL1 : Hid (decide (l.length < 1) = false) := Lib.hid (decide_eq_false h1)
    have HL2 : Hid (decide (l.length < 2) = false) := Lib.hid (decide_eq_false h3)
    have HH2 := Lib.hid h2
    have HNB := Lib.hid h4
    have HD : Hid (giveE l = 3) := Lib.hid (by unfold giveE; rw [if_neg h1, if_neg (fun e => e h2), if_neg h3, if_pos (by rw [HND.out]; exact h4)])
    clear h1 h2 h3 h4
    go_enter Try.func38, Try.ntmps38
    go_wp2_with fail
    refine PN.mono ?_
    rintro r w1 ⟨b, rfl, g1, b1, hb1, hb2⟩
    have P1 := take8_any w.heap.size b l 0 w1 g1
    obtain ⟨f0, hf0⟩ : ∃ x, l.getD 0 0 = x := ⟨_, rfl⟩
    rw [hf0] at P1
    have HF0 := Lib.hid hf0
    clear hf0 PN g1
    go_wp2_with fail
    refine P1.mono ?_
    rintro r w2 ⟨rfl, g2, j2⟩
    have b2 := j2.below b1 hb1 b1.size
    clear P1 j2 b1 hb2
    go_wp2_with fail
    refine (short_any _ b _ _ w2 g2).mono ?_
    rintro r w3 ⟨rfl, m, rfl⟩
    rw [short_er, HL1.out]
    have b2 := below_drewN b2 m
    have g2 := g2.drewN m
    generalize w2.drewN m = w3 at *
    obtain rfl : f0 = 71 := by rw [← HF0.out]; exact HH2.out
    clear HF0
    have P1 := take8_any w.heap.size b (lft l 1) (er l 1 0) w3 g2
    rw [lft_add (by decide), er_add (by decide), HN1.out] at P1
    go_wp2_with fail
    refine P1.mono ?_
    rintro r w4 ⟨rfl, g3, j3⟩
    have b3 := j3.below b2 hb1 b2.size
    clear P1 j3 b2 g2
    have b2 := b3
    have u2 : IntKind.i64.wrap nd = nd := by rw [IntWalk.i64_in _ (by omega)]
    go_wp2_with fail
    refine (short_any _ b _ _ w4 g3).mono ?_
    rintro r w5 ⟨rfl, m, rfl⟩
    rw [short_er, HL2.out]
    have b2 := below_drewN b2 m
    have g3 := g3.drewN m
    clear u2 b3
    generalize w4.drewN m = w5 at *
    go_wp2_with fail
    refine (isnode_any nd w5).mono ?_
    rintro r w6 ⟨rfl, rfl⟩
    rw [HNB.out]
    go_wp2_with fail
    go_ret2
    exact ⟨.inl ⟨by rw [HD.out]; decide, by rw [HD.out]; rfl⟩, b2⟩
  · skip
    have HL1 : Hid (decide (l.length < 1) = false) := Lib.hid (decide_eq_false h1)
    have HL2 : Hid (decide (l.length < 2) = false) := Lib.hid (decide_eq_false h3)
    have HH2 := Lib.hid h2
    have HNB := Lib.hid h4
    have HAE : Hid (giveE l = give2 (l.drop 2)) := Lib.hid (by unfold giveE; rw [if_neg h1, if_neg (fun e => e h2), if_neg h3, if_neg (by rw [HND.out, h4]; decide)])
    have hlen2 : 2 ≤ l.length := by omega
    have HLL := Lib.hid hlen2
    clear h1 h2 h3 h4 hlen2
    go_enter Try.func38, Try.ntmps38
    go_wp2_with fail
    refine PN.mono ?_
    rintro r w1 ⟨b, rfl, g1, b1, hb1, hb2⟩
    have P1 := take8_any w.heap.size b l 0 w1 g1
    obtain ⟨f0, hf0⟩ : ∃ x, l.getD 0 0 = x := ⟨_, rfl⟩
    rw [hf0] at P1
    have HF0 := Lib.hid hf0
    clear hf0 PN g1
    go_wp2_with fail
    refine P1.mono ?_
    rintro r w2 ⟨rfl, g2, j2⟩
    have b2 := j2.below b1 hb1 b1.size
    clear P1 j2 b1 hb2
    go_wp2_with fail
    refine (short_any _ b _ _ w2 g2).mono ?_
    rintro r w3 ⟨rfl, m, rfl⟩
    rw [short_er, HL1.out]
    have b2 := below_drewN b2 m
    have g2 := g2.drewN m
    generalize w2.drewN m = w3 at *
    obtain rfl : f0 = 71 := by rw [← HF0.out]; exact HH2.out
    clear HF0
    have P1 := take8_any w.heap.size b (lft l 1) (er l 1 0) w3 g2
    rw [lft_add (by decide), er_add (by decide), HN1.out] at P1
    go_wp2_with fail
    refine P1.mono ?_
    rintro r w4 ⟨rfl, g3, j3⟩
    have b3 := j3.below b2 hb1 b2.size
    clear P1 j3 b2 g2
    have b2 := b3
    have u2 : IntKind.i64.wrap nd = nd := by rw [IntWalk.i64_in _ (by omega)]
    go_wp2_with fail
    refine (short_any _ b _ _ w4 g3).mono ?_
    rintro r w5 ⟨rfl, m, rfl⟩
    rw [short_er, HL2.out]
    have b2 := below_drewN b2 m
    have g3 := g3.drewN m
    clear u2 b3
    generalize w4.drewN m = w5 at *
    go_wp2_with fail
    refine (isnode_any nd w5).mono ?_
    rintro r w6 ⟨rfl, rfl⟩
    rw [HNB.out]
    rw [lft_yes HLL.out, er_yes HLL.out] at g3
    go_wp2_with fail
    refine (rg_any w.heap.size b nd (l.drop 2) w5 g3 (okB_drop HBB.out 2) hb1 (by rw [List.length_drop]; omega)).mono ?_
    rintro r w7 ⟨hr, b7⟩
    have b8 := b2.trans b7
    rcases hr with ⟨h0, rfl⟩ | ⟨h0, a7, c7, rfl, k1, k2, k3, k4⟩
    · have HDD := Lib.hid h0
      clear h0
      go_wp2_with fail
      go_ret2
      exact ⟨.inl ⟨by rw [HAE.out]; exact HDD.out, by rw [HAE.out]; rfl⟩, b8⟩
    · have HDD := Lib.hid h0
      have HGR : Hid (giveR l = giveR2 nd (l.drop 2)) := Lib.hid (by unfold giveR; rw [HAE.out, if_pos h0, HND.out])
      clear h0
      go_wp2_with fail
      go_ret2
      exact ⟨.inr ⟨by rw [HAE.out]; exact HDD.out, a7, c7, by rw [HGR.out]; rfl, by rw [HGR.out]; exact k1, k2, by rw [HGR.out]; exact k3, k4⟩, b8⟩
theorem cells5g (q1 q2 q3 : Int) (a : Option Addr) (n c : Nat) (q5 : Int) : (#[Value.int .i64 q1, .int .i64 q2, .int .u32 q3, .slice a n c, .int .u32 q5] : Array Value).all (·.oneCell') = true := by simp [Value.oneCell']
theorem assert_give (q1 q2 q3 : Int) (a : Option Addr) (n c : Nat) (q5 : Int) (w : World) : (Instr.typeAssert (.iface 73 (.agg #[.int .i64 q1, .int .i64 q2, .int .u32 q3, .slice a n c, .int .u32 q5])) 76 73 true).run Try.prog w = .ok (.tuple #[.agg #[.int .i64 q1, .int .i64 q2, .int .u32 q3, .slice a n c, .int .u32 q5], .bool true]) w := by kernel_rfl
theorem assert_gnil (w : World) : (Instr.typeAssert .nilIface 76 73 true).run Try.prog w = .ok (.tuple #[.agg #[.int .i64 0, .int .i64 0, .int .u32 0, .slice none 0 0, .int .u32 0], .bool false]) w := by kernel_rfl
/-- What Given tells. -/
def GnP (base : Nat) (l : List Int) (r : Ending) (w' : World) : Prop :=
  ∃ a c, r = .returned (.tuple #[.agg ((giveR l).vals a c), .int .i64 (giveE l)]) ∧ (giveR l).n ≤ c ∧ c ≤ maxLen ∧ Row w' a ((giveR l).n * 5) (cv (giveR l).L) ∧ ∀ p, a = some p → base ≤ p.block
set_option maxHeartbeats 4000000 in
theorem given_any (a : Option Addr) (c : Nat) (l : List Int) (w : World) (hl : l.length ≤ 1000) (hR : Bs w a c l) (hB : okB l) :
    Calls Try.prog 16 #[.slice a l.length c] w fun r w' => GnP w.heap.size l r w' ∧ Below w.heap.size w w' := by
  have b0 := (Below.refl w.heap.size w).alloc (Nat.le_refl _) (.cells #[.int .i64 0, .int .i64 0, .int .u32 0, .slice none 0 0, .int .u32 0] 28)
  have o0 := Own.new w 28 #[.int .i64 0, .int .i64 0, .int .u32 0, .slice none 0 0, .int .u32 0]
  have PR := readg_any a c l _ hl (hR.below b0) hB
  obtain ⟨q, hq⟩ : ∃ q, giveR l = q := ⟨_, rfl⟩
  unfold GvP at PR
  rw [hq] at PR
  have HQ := Lib.hid hq
  have hr0 : giveE l ≠ 0 → q = giveN := fun h => by rw [← hq]; exact if_neg h
  have HRR := Lib.hid hr0
  clear hq hr0 hR
  by_cases he : giveE l = 0
  · have HE := Lib.hid he
    clear he
    obtain ⟨q1, q2, q3, qn, qL, q5⟩ := q
    unfold Gt.vals at PR
    dsimp only at PR
    have hta := assert_give q1 q2 q3
    go_enter Try.func16, Try.ntmps16
    go_upto_region 1 with (fail)
    obtain ⟨g, hg⟩ : ∃ g, w.heap.size = g := ⟨_, rfl⟩
    have HG := Lib.hid hg
    generalize w.alloc (.cells #[.int .i64 0, .int .i64 0, .int .u32 0, .slice none 0 0, .int .u32 0] 28) = w1 at *
    rw [hg] at b0 o0 ⊢
    have hgl : g < w1.heap.size := o0.lt
    clear hg
    go_wp2_with fail
    refine PR.mono ?_
    rintro r w2 ⟨hr, b2⟩
    rcases hr with ⟨h0, _⟩ | ⟨_, a7, c7, rfl, k7, m7, r7, l7⟩
    · exact absurd HE.out h0
    have hta := hta a7 qn c7 q5
    have o2 := below_own b2 o0 hgl
    have b3 := b0.trans (b2.mono (Nat.le_of_lt hgl))
    have b2s := b2.size
    have b4s : g ≤ (w2.alloc (.cells #[.int .i64 q1, .int .i64 q2, .int .u32 q3, .slice a7 qn c7, .int .u32 q5] 73)).heap.size := by simp; omega
    clear b0 o0 b2 PR
    go_upto_region 3 with (fail)
    have o3 := o2.alloc (.cells #[.int .i64 q1, .int .i64 q2, .int .u32 q3, .slice a7 qn c7, .int .u32 q5] 73)
    have n3 := Own.new w2 73 #[.int .i64 q1, .int .i64 q2, .int .u32 q3, .slice a7 qn c7, .int .u32 q5]
    have b4 := b3.alloc (Nat.le_trans (Nat.le_of_lt hgl) b2s) (.cells #[.int .i64 q1, .int .i64 q2, .int .u32 q3, .slice a7 qn c7, .int .u32 q5] 73)
    have r8 := r7.below ((Below.refl w2.heap.size w2).alloc (Nat.le_refl _) (.cells #[.int .i64 q1, .int .i64 q2, .int .u32 q3, .slice a7 qn c7, .int .u32 q5] 73))
    have hgr : ∀ p, a7 = some p → p.block ≠ g := fun p hp => by have := l7 p hp; omega
    have hlo : ∀ p, a7 = some p → g ≤ p.block := fun p hp => by have := l7 p hp; omega
    have HLO := Lib.hid hlo
    generalize hq : w2.alloc (.cells #[.int .i64 q1, .int .i64 q2, .int .u32 q3, .slice a7 qn c7, .int .u32 q5] 73) = w3 at *
    obtain ⟨g2, hg2⟩ : ∃ g, w2.heap.size = g := ⟨_, rfl⟩
    rw [hg2] at n3 ⊢
    have c0 := n3.cell 0
    have c1 := n3.cell 1
    have c2 := n3.cell 2
    have c3 := n3.cell 3
    have c4 := n3.cell 4
    have k0 := o3.cell 0
    have k1 := o3.cell 1
    have k2 := o3.cell 2
    have k3 := o3.cell 3
    have k4 := o3.cell 4
    have f0 := o3.free 0
    have f1 := o3.free 1
    have f2 := o3.free 2
    have f3 := o3.free 3
    have f4 := o3.free 4
    have o4 := (((((o3.put 0 (.int .i64 q1)).put 1 (.int .i64 q2)).put 2 (.int .u32 q3)).put 3 (.slice a7 qn c7)).put 4 (.int .u32 q5))
    have j4 := ((((((Just.refl g w3).put 0 (.int .i64 q1)).put 1 (.int .i64 q2)).put 2 (.int .u32 q3)).put 3 (.slice a7 qn c7)).put 4 (.int .u32 q5))
    have b5 := j4.below b4 (Nat.le_refl _) b4s
    have r9 : Row _ a7 (qn * 5) (cv qL) := row_just r8 j4 hgr
    have HR7 := Lib.hid r9
    clear r7 r8 r9 hgr l7 hlo
    have HO4 := Lib.hid o4
    have HB5 := Lib.hid b5
    clear hq hg2 o2 o3 n3 b3 b4 o4 b5 j4
    go_wp2_with fail
    refine bodyPost_ret (results_row_tmp rfl _ _ g 28 _ (0, 0) _ rfl HO4.out Try.underlying28 rfl (by kernel_rfl)) rfl ⟨⟨a7, c7, ?_, ?_, m7, ?_, by rw [HG.out]; exact HLO.out⟩, by rw [HG.out]; exact HB5.out⟩
    · rw [HQ.out, HE.out]
      rfl
    · rw [HQ.out]
      exact k7
    · rw [HQ.out]
      exact HR7.out
  · have HE := Lib.hid he
    obtain rfl := HRR.out he
    obtain ⟨e, hee⟩ : ∃ e, giveE l = e := ⟨_, rfl⟩
    rw [hee] at PR
    have HEE := Lib.hid hee
    have HEN : Hid (e ≠ 0) := Lib.hid (by rw [← hee]; exact he)
    clear hee he HE
    have hta := assert_gnil
    go_enter Try.func16, Try.ntmps16
    go_upto_region 1 with (fail)
    obtain ⟨g, hg⟩ : ∃ g, w.heap.size = g := ⟨_, rfl⟩
    have HG := Lib.hid hg
    generalize w.alloc (.cells #[.int .i64 0, .int .i64 0, .int .u32 0, .slice none 0 0, .int .u32 0] 28) = w1 at *
    rw [hg] at b0 o0 ⊢
    have hgl : g < w1.heap.size := o0.lt
    clear hg
    go_wp2_with fail
    refine PR.mono ?_
    rintro r w2 ⟨hr, b2⟩
    rcases hr with ⟨_, rfl⟩ | ⟨h0, _⟩
    case inr => exact absurd h0 HEN.out
    have o2 := below_own b2 o0 hgl
    have b3 := b0.trans (b2.mono (Nat.le_of_lt hgl))
    have b2s := b2.size
    have b4s : g ≤ (w2.alloc (.cells #[.int .i64 0, .int .i64 0, .int .u32 0, .slice none 0 0, .int .u32 0] 73)).heap.size := by simp; omega
    clear b0 o0 b2 PR
    go_upto_region 3 with (fail)
    have o3 := o2.alloc (.cells #[.int .i64 0, .int .i64 0, .int .u32 0, .slice none 0 0, .int .u32 0] 73)
    have n3 := Own.new w2 73 #[.int .i64 0, .int .i64 0, .int .u32 0, .slice none 0 0, .int .u32 0]
    have b4 := b3.alloc (Nat.le_trans (Nat.le_of_lt hgl) b2s) (.cells #[.int .i64 0, .int .i64 0, .int .u32 0, .slice none 0 0, .int .u32 0] 73)
    generalize hq : w2.alloc (.cells #[.int .i64 0, .int .i64 0, .int .u32 0, .slice none 0 0, .int .u32 0] 73) = w3 at *
    obtain ⟨g2, hg2⟩ : ∃ g, w2.heap.size = g := ⟨_, rfl⟩
    rw [hg2] at n3 ⊢
    have c0 := n3.cell 0
    have c1 := n3.cell 1
    have c2 := n3.cell 2
    have c3 := n3.cell 3
    have c4 := n3.cell 4
    have k0 := o3.cell 0
    have k1 := o3.cell 1
    have k2 := o3.cell 2
    have k3 := o3.cell 3
    have k4 := o3.cell 4
    have f0 := o3.free 0
    have f1 := o3.free 1
    have f2 := o3.free 2
    have f3 := o3.free 3
    have f4 := o3.free 4
    have o4 := (((((o3.put 0 (.int .i64 0)).put 1 (.int .i64 0)).put 2 (.int .u32 0)).put 3 (.slice none 0 0)).put 4 (.int .u32 0))
    have j4 := ((((((Just.refl g w3).put 0 (.int .i64 0)).put 1 (.int .i64 0)).put 2 (.int .u32 0)).put 3 (.slice none 0 0)).put 4 (.int .u32 0))
    have b5 := j4.below b4 (Nat.le_refl _) b4s
    have HO4 := Lib.hid o4
    have HB5 := Lib.hid b5
    clear hq hg2 o2 o3 n3 b3 b4 o4 b5 j4
    go_wp2_with fail
    refine bodyPost_ret (results_row_tmp rfl _ _ g 28 _ (0, 0) _ rfl HO4.out Try.underlying28 rfl (by kernel_rfl)) rfl ⟨⟨none, 0, ?_, ?_, Nat.zero_le _, ?_, fun p hp => by cases hp⟩, by rw [HG.out]; exact HB5.out⟩
    · rw [HQ.out, HEE.out]
      rfl
    · rw [HQ.out]
      exact Nat.le_refl _
    · rw [HQ.out]
      exact Row.nil _ _ _
end Go.Proofs.Ytphiohdhgkpgnaa.Jo
