/-
  Law JoinKeys: a request under another key is not taken but where its tag is the same by accident; the reference's request is taken; the call returns true. No condition.
-/
import Derived.Test.YtphiohdhgkpgnaaJoAw
import Derived.Test.YtphiohdhgkpgnaaJoRAsk
import Derived.Test.YtphiohdhgkpgnaaJoRAsked
set_option maxRecDepth 100000
namespace Go.Proofs.Ytphiohdhgkpgnaa.JoinKeys
set_option linter.unusedVariables false
open Go.RowKit Go.ChangeShapes Go.WideShapes Go.ChangeAt Go.Deep Lb Se Jo Cl
set_option linter.unusedVariables false
theorem own : ownKnob Try.prog.godebug = none := by kernel_rfl
theorem laidOut : laidOutB Try.prog = true := by kernel_rfl
def KE (k1 k2 : Int) (i : Nat) : Int := if i = 0 then k1 else k2
def KF (k1 k2 : Int) (i : Nat) : Int := if i < 2 then KE k1 k2 i else 0
def rk (no : Int) : Jo.Rq := ⟨0, 1, no, 1, 0⟩
theorem rk_ok (no : Int) (h : In32 no) : mayR (rk no) = true ∧ (rk no).wide := ⟨rfl, h, by show In32 1; unfold In32; decide⟩
theorem rk_okB (key no : Int) : okB (sealL key (askB (rk no))) := okB_seal (askB_ok (show nodeB 0 = true from by decide) (show nodeB 1 = true from by decide))
theorem rk_len (key no : Int) : (sealL key (askB (rk no))).length = 15 := by rw [sealL_len, askB_len]
/-- What Take answers to a request, in the law's numbers. -/
theorem take_two (k1 k2 no key : Int) (N : Nat → Int) (d : Nat) (a : Option Addr) (c : Nat) (w : World) (e : Int) (hk : 0 ≤ k1 ∧ 0 ≤ k2) (hD : Dk w d (2 : Nat) (KF k1 k2) N) (hB : Bs w a c (sealL key (askB (rk no)))) (he : takeE 2 (KF k1 k2) N (sealL key (askB (rk no))) = e) :
    Calls Try.prog 22 #[.pointer (some ⟨d, 0, none⟩), .slice a 15 c, .slice none 0 0] w fun r w' => (∃ g : Gt, ∃ a c, r = .returned (.tuple #[.agg (g.vals a c), .int .i64 e]) ∧ g.n ≤ c ∧ c ≤ maxLen) ∧ Dk w' d (2 : Nat) (KF k1 k2) (takeN 2 (KF k1 k2) N (sealL key (askB (rk no)))) ∧ Just d w w' := by
  have := take_any d 2 (KF k1 k2) N a c (sealL key (askB (rk no))) none 0 0 LA w hD (by decide) (fun i => by unfold KF KE; repeat' split <;> omega) (by rw [rk_len]; decide) hB (rk_okB _ _) (Nat.le_refl _) (by decide) (Row.nil _ _ _) (fun p hp => nomatch hp)
  rw [rk_len] at this
  refine this.mono (fun r w' h => ?_)
  obtain ⟨⟨a', c', h1, h2, h3, _⟩, h4, h5⟩ := h
  rw [he] at h1
  exact ⟨⟨_, a', c', h1, h2, h3⟩, h4, h5⟩
set_option maxHeartbeats 4000000 in
theorem body (k1 k2 no : Int) (w : World) (hk1 : 0 ≤ k1 ∧ k1 < 18446744073709551616) (hk2 : 0 ≤ k2 ∧ k2 < 18446744073709551616) (hno : 0 ≤ no ∧ no < 4294967296) :
    Calls Try.prog 6 #[.int .u64 k1, .int .u64 k2, .int .u32 no] w fun r w' => r = .returned (.bool true) ∧ Below w.heap.size w w' := by
  have hin : In32 no := by unfold In32; omega
  have HR := Lib.hid (rk_ok no hin)
  have row1 : Row (w.alloc (.cells #[.int .u64 k1, .int .u64 k2] 22)) (some ⟨w.heap.size, 0, none⟩) 2 (fun i => .int .u64 (KE k1 k2 i)) := row_new _ _ _ _ (fun i hi => by rcases (show i = 0 ∨ i = 1 by omega) with rfl | rfl <;> rfl)
  have b1 := (Below.refl w.heap.size w).alloc (Nat.le_refl _) (.cells #[.int .u64 k1, .int .u64 k2] 22)
  have hs1 : w.heap.size < (w.alloc (.cells #[.int .u64 k1, .int .u64 k2] 22)).heap.size := by simp
  obtain ⟨T1, hT1⟩ : ∃ t, tagL k1 (askB (rk no)) = t := ⟨_, rfl⟩
  obtain ⟨T2, hT2⟩ : ∃ t, tagL k2 (askB (rk no)) = t := ⟨_, rfl⟩
  have HT1 := Lib.hid hT1
  have HT2 := Lib.hid hT2
  have PA : ∀ W, Calls Try.prog 9 #[.int .u64 k2, .agg #[.int .i64 0, .int .i64 1, .int .u32 no, .int .u32 1, .int .u32 0]] W fun e w' => ∃ a c, e = .returned (.tuple #[.slice a 15 c, .int .i64 0]) ∧ Bs w' a c (sealL k2 (askB (rk no))) ∧ Below W.heap.size W w' := fun W => by
    have := ask_any k2 (rk no) W hk2.1 HR.out.2
    unfold askO askC at this
    rw [if_pos HR.out.1, if_pos HR.out.1, rk_len] at this
    exact this.mono (fun e w' ⟨a, c, h1, h2, h3⟩ => ⟨a, c, h1, h2.toBs, h3⟩)
  have PR : ∀ W, Calls Try.prog 10 #[.int .u64 k1, .agg #[.int .i64 0, .int .i64 1, .int .u32 no, .int .u32 1, .int .u32 0]] W fun e w' => ∃ a c, e = .returned (.tuple #[.slice a 15 c, .int .i64 0]) ∧ Bs w' a c (sealL k1 (askB (rk no))) ∧ Below W.heap.size W w' := fun W => by
    have := rask_any k1 (rk no) W hk1.1 HR.out.2
    unfold askO askC at this
    rw [if_pos HR.out.1, if_pos HR.out.1, rk_len] at this
    exact this
  have QA : ∀ W a c, Bs W a c (sealL k2 (askB (rk no))) → Calls Try.prog 14 #[.slice a 15 c] W fun e w' => e = .returned (.tuple #[.agg #[.int .i64 0, .int .i64 1, .int .u32 no, .int .u32 1, .int .u32 T2], .int .i64 0]) ∧ Below W.heap.size W w' := fun W a c h => by
    have := asked_any a c _ W (by rw [rk_len]; decide) h (rk_okB _ _)
    obtain ⟨e1, e2⟩ := ask_back (key := k2) HR.out.1 HR.out.2
    rw [e1, e2, HT2.out, rk_len] at this
    exact this
  have QR : ∀ W a c, Bs W a c (sealL k1 (askB (rk no))) → Calls Try.prog 15 #[.slice a 15 c] W fun e w' => e = .returned (.tuple #[.agg #[.int .i64 0, .int .i64 1, .int .u32 no, .int .u32 1, .int .u32 T1], .int .i64 0]) ∧ Below W.heap.size W w' := fun W a c h => by
    have := rasked_any a c _ W (by rw [rk_len]; decide) h (rk_okB _ _)
    obtain ⟨e1, e2⟩ := ask_back (key := k1) HR.out.1 HR.out.2
    rw [e1, e2, HT1.out, rk_len] at this
    exact this
  have hm1 : mayR (rk no) = true := HR.out.1
  have hSB : sealedB k1 (sealL k2 (askB (rk no))) = (T1 == T2) := by rw [sealed_of, hT1, hT2]
  have hcase : ∃ e1 e2 : Int, takeE 2 (KF k1 k2) (fun _ => 0) (sealL k2 (askB (rk no))) = e1 ∧ takeE 2 (KF k1 k2) (takeN 2 (KF k1 k2) (fun _ => 0) (sealL k2 (askB (rk no)))) (sealL k1 (askB (rk no))) = e2 ∧ ((T2 = T1 ∧ e1 = 0 ∧ e2 = 8) ∨ (T2 ≠ T1 ∧ e1 = 10 ∧ e2 = 0)) := by
    by_cases hT : T2 = T1
    · have h0 : takeE 2 (KF k1 k2) (fun _ => 0) (sealL k2 (askB (rk no))) = 0 := takeE_ok HR.out.1 HR.out.2 (by show ¬ (2 : Int) ≤ 0; decide) (by show sealedB k1 _ = true; rw [hSB, hT]; exact beq_self_eq_true _) (by show ¬ (1 : Int) ≤ 0; decide)
      obtain ⟨_, hN⟩ := takeG_ok (L := LA) (m := 0) HR.out.1 HR.out.2 h0
      refine ⟨0, 8, h0, ?_, .inl ⟨hT, rfl, rfl⟩⟩
      rw [hN]
      exact takeE_old HR.out.1 HR.out.2 (by show ¬ (2 : Int) ≤ 0; decide) (sealed_own _ _) (by show (1 : Int) ≤ 1; decide)
    · have h0 : takeE 2 (KF k1 k2) (fun _ => 0) (sealL k2 (askB (rk no))) = 10 := takeE_seal HR.out.1 HR.out.2 (by show ¬ (2 : Int) ≤ 0; decide) (by show sealedB k1 _ = false; rw [hSB]; exact beq_eq_false_iff_ne.2 (fun e => hT e.symm))
      have hN : takeN 2 (KF k1 k2) (fun _ => 0) (sealL k2 (askB (rk no))) = fun _ => 0 := by unfold takeN; rw [if_neg (by rw [h0]; decide)]
      refine ⟨10, 0, h0, ?_, .inr ⟨hT, rfl, rfl⟩⟩
      rw [hN]
      exact takeE_ok HR.out.1 HR.out.2 (by show ¬ (2 : Int) ≤ 0; decide) (sealed_own _ _) (by show ¬ (1 : Int) ≤ 0; decide)
  obtain ⟨e1, e2, he1, he2, hC⟩ := hcase
  have QT1 : ∀ W d a c, Dk W d (2 : Nat) (KF k1 k2) (fun _ => 0) → Bs W a c (sealL k2 (askB (rk no))) → _ := fun W d a c hD hB => take_two k1 k2 no k2 (fun _ => 0) d a c W e1 ⟨hk1.1, hk2.1⟩ hD hB he1
  have QT2 : ∀ W d a c, Dk W d (2 : Nat) (KF k1 k2) (takeN 2 (KF k1 k2) (fun _ => 0) (sealL k2 (askB (rk no)))) → Bs W a c (sealL k1 (askB (rk no))) → _ := fun W d a c hD hB => take_two k1 k2 no k1 _ d a c W e2 ⟨hk1.1, hk2.1⟩ hD hB he2
  have HPA := Lib.hid PA
  have HPR := Lib.hid PR
  have HQA := Lib.hid QA
  have HQR := Lib.hid QR
  have HQ1 := Lib.hid QT1
  have HQ2 := Lib.hid QT2
  have HC := Lib.hid hC
  clear PA PR QA QR QT1 QT2 hC he1 he2 hSB hm1 hT1 hT2 hin
  go_enter Try.func6, Try.ntmps6
  go_wp2_with fail
  refine (newdesk_any _ 2 2 (KE k1 k2) _ (by decide) (by decide) (Nat.le_refl _) (by decide) row1).mono ?_
  rintro e w2 ⟨rfl, D2, b2, hs2⟩
  generalize w.alloc (.cells #[.int .u64 k1, .int .u64 k2] 22) = w1 at *
  obtain ⟨d, hd⟩ : ∃ d, w1.heap.size = d := ⟨_, rfl⟩
  rw [hd] at D2 b2 hs2 hs1 ⊢
  have b3 := b1.trans (b2.mono (Nat.le_of_lt hs1))
  clear hd b1 b2 row1
  go_wp2_with fail
  refine (HPA.out w2).mono ?_
  rintro e w3 ⟨a3, c3, rfl, B3, j3⟩
  have D3 : Dk w3 d (2 : Nat) (KF k1 k2) (fun _ => 0) := below_blk j3 D2 (Blk.lt D2)
  have b4 := b3.trans (j3.mono b3.size)
  have hca3 := B3.cap
  have hle3 := B3.le
  rw [rk_len] at hle3
  unfold maxLen at hca3
  have hc363 : (c3 : Int) ≤ 9223372036854775807 := by omega
  clear D2 b3 j3
  go_wp2_with fail
  refine (HQA.out w3 a3 c3 B3).mono ?_
  rintro e w4 ⟨rfl, j4⟩
  have D4 : Dk w4 d (2 : Nat) (KF k1 k2) (fun _ => 0) := below_blk j4 D3 (Blk.lt D3)
  have B4 := B3.below j4
  have b5 := b4.trans (j4.mono b4.size)
  have ba := (Below.refl w4.heap.size w4).alloc (Nat.le_refl _) (.cells #[.int .i64 0, .int .i64 1, .int .u32 no, .int .u32 1, .int .u32 T2] 25)
  have r5 := Lb.Own.new w4 25 #[.int .i64 0, .int .i64 1, .int .u32 no, .int .u32 1, .int .u32 T2]
  have D5 : Dk _ d (2 : Nat) (KF k1 k2) (fun _ => 0) := below_blk ba D4 (Blk.lt D4)
  have B5 := B4.below ba
  have b6 := b5.trans (ba.mono b5.size)
  have hdlt := Blk.lt D4
  clear D3 B3 D4 B4 b4 b5 j4
  go_upto_region 4 with (fail)
  obtain ⟨g, hg⟩ : ∃ g, w4.heap.size = g := ⟨_, rfl⟩
  rw [hg] at r5 hdlt ⊢
  generalize w4.alloc (.cells #[.int .i64 0, .int .i64 1, .int .u32 no, .int .u32 1, .int .u32 T2] 25) = w5 at *
  clear ba hg
  go_wp2_with fail
  refine (HPR.out w5).mono ?_
  rintro e w6 ⟨a6, c6, rfl, R6, j6⟩
  have D6 : Dk w6 d (2 : Nat) (KF k1 k2) (fun _ => 0) := below_blk j6 D5 (Blk.lt D5)
  have B6 := B5.below j6
  have r6 := below_own j6 r5 r5.lt
  have b7 := b6.trans (j6.mono b6.size)
  have hca6 := R6.cap
  have hle6 := R6.le
  rw [rk_len] at hle6
  unfold maxLen at hca6
  have hc663 : (c6 : Int) ≤ 9223372036854775807 := by omega
  clear D5 B5 r5 b6 j6
  go_wp2_with fail
  refine (HQR.out w6 a6 c6 R6).mono ?_
  rintro e w7 ⟨rfl, j7⟩
  have D7 : Dk w7 d (2 : Nat) (KF k1 k2) (fun _ => 0) := below_blk j7 D6 (Blk.lt D6)
  have B7 := B6.below j7
  have R7 := R6.below j7
  have r7 := below_own j7 r6 r6.lt
  have b8 := b7.trans (j7.mono b7.size)
  have ba := (Below.refl w7.heap.size w7).alloc (Nat.le_refl _) (.cells #[.int .i64 0, .int .i64 1, .int .u32 no, .int .u32 1, .int .u32 T1] 25)
  have s8 := Lb.Own.new w7 25 #[.int .i64 0, .int .i64 1, .int .u32 no, .int .u32 1, .int .u32 T1]
  have D8 : Dk _ d (2 : Nat) (KF k1 k2) (fun _ => 0) := below_blk ba D7 (Blk.lt D7)
  have B8 := B7.below ba
  have R8 := R7.below ba
  have r8 := below_own ba r7 r7.lt
  have b9 := b8.trans (ba.mono b8.size)
  have hdl2 := Blk.lt D7
  have hgl2 := Own.lt r7
  clear D6 B6 R6 r6 D7 B7 R7 r7 b7 b8 j7
  go_upto_region 8 with (fail)
  obtain ⟨h, hh⟩ : ∃ g, w7.heap.size = g := ⟨_, rfl⟩
  rw [hh] at s8 hdl2 hgl2 ⊢
  generalize w7.alloc (.cells #[.int .i64 0, .int .i64 1, .int .u32 no, .int .u32 1, .int .u32 T1] 25) = w8 at *
  clear ba hh
  have hwd : w.heap.size ≤ d := by omega
  go_wp2_with fail
  refine (HQ1.out w8 d a3 c3 D8 B8).mono ?_
  rintro e w9 ⟨⟨q9, a9, c9, rfl, q91, q92⟩, D9, j9⟩
  have R9 := R8.just j9 (bs_dk R8 (by rw [rk_len]; decide) D8)
  have r9 := j9.own r8 (by omega)
  have s9 := j9.own s8 (by omega)
  have b10 := j9.below b9 hwd b9.size
  obtain ⟨y1, y2, y3, yn, yL, y5⟩ := q9
  unfold Gt.vals
  dsimp only at q91 ⊢
  unfold maxLen at q92
  have hc963 : (c9 : Int) ≤ 9223372036854775807 := by omega
  have hn963 : (yn : Int) ≤ 9223372036854775807 := by omega
  have ba := (Below.refl w9.heap.size w9).alloc (Nat.le_refl _) (.cells #[.int .i64 y1, .int .i64 y2, .int .u32 y3, .slice a9 yn c9, .int .u32 y5] 28)
  have D10 : Dk _ d (2 : Nat) (KF k1 k2) _ := below_blk ba D9 (Blk.lt D9)
  have R10 := R9.below ba
  have r10 := below_own ba r9 r9.lt
  have s10 := below_own ba s9 s9.lt
  have b11 := b10.trans (ba.mono b10.size)
  clear D8 B8 R8 r8 s8 b9 j9 D9 R9 r9 s9 b10
  go_upto_region 9 with (fail)
  generalize w9.alloc (.cells #[.int .i64 y1, .int .i64 y2, .int .u32 y3, .slice a9 yn c9, .int .u32 y5] 28) = w10 at *
  clear ba
  go_wp2_with fail
  refine (HQ2.out w10 d a6 c6 D10 R10).mono ?_
  rintro e w11 ⟨⟨q9, a11, c11, rfl, q111, q112⟩, _, j11⟩
  have r11 := j11.own r10 (by omega)
  have s11 := j11.own s10 (by omega)
  have b12 := j11.below b11 hwd b11.size
  obtain ⟨x1, x2, x3, xn, xL, x5⟩ := q9
  unfold Gt.vals
  dsimp only at q111 ⊢
  unfold maxLen at q112
  have hc1163 : (c11 : Int) ≤ 9223372036854775807 := by omega
  have hn1163 : (xn : Int) ≤ 9223372036854775807 := by omega
  have ba := (Below.refl w11.heap.size w11).alloc (Nat.le_refl _) (.cells #[.int .i64 x1, .int .i64 x2, .int .u32 x3, .slice a11 xn c11, .int .u32 x5] 28)
  have r12 := below_own ba r11 r11.lt
  have s12 := below_own ba s11 s11.lt
  have b13 := b12.trans (ba.mono b12.size)
  clear D10 R10 r10 s10 b11 j11 r11 s11 b12
  go_upto_region 10 with (fail)
  generalize w11.alloc (.cells #[.int .i64 x1, .int .i64 x2, .int .u32 x3, .slice a11 xn c11, .int .u32 x5] 28) = w12 at *
  have m1 : w12.cell? ⟨g, 4, none⟩ = some (.int .u32 T2) := r12.cell 4
  have m2 : w12.cell? ⟨h, 4, none⟩ = some (.int .u32 T1) := s12.cell 4
  clear ba r12 s12
  rcases HC.out with ⟨hT, rfl, rfl⟩ | ⟨hT, rfl, rfl⟩
  · have g1 : (T2 != T1) = false := by simpa using hT
    clear hT
    go_wp2_with fail
    refine (awake_join _).mono ?_
    rintro er w13 ⟨rfl, b14⟩
    have b15 := b13.trans (b14.mono b13.size)
    go_wp2_with fail
    go_ret
    exact ⟨rfl, b15⟩
  · have g1 : (T2 != T1) = true := by simpa using hT
    clear hT
    go_wp2_with fail
    refine (awake_join _).mono ?_
    rintro er w13 ⟨rfl, b14⟩
    have b15 := b13.trans (b14.mono b13.size)
    go_wp2_with fail
    go_ret
    exact ⟨rfl, b15⟩

theorem walk (H : Type) (enc : TypeId × Value → H) : Walk H enc Try.prog 6 Try.f6 := by
  intro W base args ds p hval hA
  rw [Try.params6] at hA hval
  obtain ⟨v0, v1, v2, d0, d1, d2, p0, p1, p2, rfl, rfl, rfl, h0, h1, h2⟩ := trodAll_three hA
  obtain ⟨k1, rfl, rfl, rfl, w0⟩ := open_int Try.underlying22 (hval 0 _ v0 rfl rfl) h0
  obtain ⟨k2, rfl, rfl, rfl, w1⟩ := open_int Try.underlying22 (hval 1 _ v1 rfl rfl) h1
  obtain ⟨no, rfl, rfl, rfl, w2⟩ := open_int Try.underlying23 (hval 2 _ v2 rfl rfl) h2
  exact body k1 k2 no W (u64_bd w0) (u64_bd w1) (u32_bd w2)

set_option maxRecDepth 100000 in
theorem lifted (os : Os) (started : os.Started) (H : Type) (enc : TypeId × Value → H) :
    ReturnsInHanded {} Try.checked os 6 .any (Rows.joinKeysSpec.pre6 enc Try.prog Try.f6 Rows.joinKeysRow.domain false) (Rows.joinKeysSpec.post enc Try.prog Try.f6 false true false false) :=
  returnsInHanded_of_change (C := Try.checked) own started (by kernel_rfl) Try.func6
    (ChangeSpec.witness6 (enc := enc) (C := Try.checked) false ⟨#[], #[.int .u64 0, .int .u64 0, .int .u32 0], []⟩ 8 (by kernel_rfl) (by kernel_rfl) (by kernel_rfl) (by kernel_rfl))
    fun W base args ds gs before hval hW _ _ => step_of_walk laidOut (by rw [Try.params6]; exact of_decide_eq_true (by kernel_rfl)) (by kernel_rfl) Try.underlying4 rfl
      (fun ds h => by
        rw [Try.params6] at h
        match ds, h with
        | [_, _, _], _ => rfl) (walk H enc) W base args ds gs before hval hW

theorem holds : Rows.JoinKeysSaid :=
  OpenClaim.holds_of_wide 6 Try.f6 rfl rfl rfl rfl rfl rfl rfl ⟨rfl, rfl, rfl, rfl, rfl⟩ rfl rfl rfl rfl rfl (by kernel_rfl) Try.func6 (by kernel_rfl)
    (of_decide_eq_true (by kernel_rfl)) (by unfold Func.isWrapper; first | (rw [if_pos (by decide +kernel)]; kernel_rfl) | (rw [if_neg (by decide +kernel)]; exact ⟨rfl, rfl⟩))
    (fun os started H enc _ => lifted os started H enc)
#print axioms holds
end Go.Proofs.Ytphiohdhgkpgnaa.JoinKeys
