/-
  Law JoinCounts: counts rise from request to request; a desk that has taken one takes none that was asked ahead of it; the call returns true. No condition.
-/
import Derived.Test.YtphiohdhgkpgnaaJoAw
set_option maxRecDepth 100000
namespace Go.Proofs.Ytphiohdhgkpgnaa.JoinCounts
set_option linter.unusedVariables false
open Go.RowKit Go.ChangeShapes Go.WideShapes Go.ChangeAt Go.Deep Lb Se Jo Cl
set_option linter.unusedVariables false
theorem own : ownKnob Try.prog.godebug = none := by kernel_rfl
theorem laidOut : laidOutB Try.prog = true := by kernel_rfl
theorem infoBS : (Try.prog.info? 30).map (fun i => (i.zero, i.size, i.bytes)) = some (some (.slice none 0 0), 1, 24) := by kernel_rfl
theorem bs_grown {w w' : World} {a : Option Addr} {c : Nat} {l : List Int} {row : Option Nat} (h : Bs w a c l) (hg : w.grownBy w' row) (hb : ∀ p, a = some p → some p.block ≠ row) : Bs w' a c l := ⟨h.le, h.cap, fun h0 => by
  obtain ⟨q, off, e, hq, hc⟩ := h.row h0
  exact ⟨q, off, e, Nat.lt_of_lt_of_le hq hg.size, fun i hi => (World.cell?_of_block (a := ⟨q, off + i, none⟩) (hg.block q hq (hb _ e))).trans (hc i hi)⟩⟩
theorem bs_lt {w : World} {a : Option Addr} {c : Nat} {l : List Int} (h : Bs w a c l) (hl : 0 < l.length) (p : Addr) (hp : a = some p) : p.block < w.heap.size := by
  obtain ⟨q, off, e1, h2, _⟩ := h.row hl
  rw [hp] at e1
  injection e1 with e1
  subst e1
  exact h2
def KC (key : Int) (i : Nat) : Int := if i = 0 then 1 else if i = 1 then 2 else key
def KD (key : Int) (i : Nat) : Int := if i < 3 then KC key i else 0
/-- The j-th request, its bytes. -/
def Sj (key : Int) (j : Nat) : List Int := sealL key (askB (skR 2 0 (j : Int) (j : Int)))
theorem Sj_len (key : Int) (j : Nat) : (Sj key j).length = 15 := by unfold Sj; rw [sealL_len, askB_len]
theorem Rj_ok (j : Nat) (h : j < 9) : mayR (skR 2 0 (j : Int) (j : Int)) = true ∧ (skR 2 0 (j : Int) (j : Int)).wide := ⟨rfl, by unfold Rq.wide In32 skR; dsimp only; omega⟩
set_option maxHeartbeats 4000000 in
theorem body (key n late : Int) (w : World) (hk : 0 ≤ key ∧ key < 18446744073709551616) :
    Calls Try.prog 5 #[.int .u64 key, .int .i64 n, .int .i64 late] w fun r w' => r = .returned (.bool true) ∧ Below w.heap.size w w' := by
  obtain ⟨U, hU⟩ : ∃ U, IntKind.u64.wrap n = U := ⟨_, rfl⟩
  obtain ⟨V, hV⟩ : ∃ V, IntKind.u64.wrap late = V := ⟨_, rfl⟩
  have u0 : 0 ≤ U ∧ U < 18446744073709551616 := by rw [← hU, IntKind.wrap_u64]; omega
  have v0 : 0 ≤ V ∧ V < 18446744073709551616 := by rw [← hV, IntKind.wrap_u64]; omega
  obtain ⟨M, hM⟩ : ∃ M : Nat, 2 + U % 8 = (M : Int) := ⟨(2 + U % 8).toNat, by omega⟩
  have hM2 : 2 ≤ M ∧ M ≤ 9 := by omega
  obtain ⟨T, hT⟩ : ∃ T : Nat, V % ((M : Int) - 1) = (T : Int) := ⟨(V % ((M : Int) - 1)).toNat, by
    have := Int.emod_nonneg V (show (M : Int) - 1 ≠ 0 by omega)
    omega⟩
  have hT2 : T + 1 < M := by
    have := Int.emod_lt_of_pos V (show 0 < (M : Int) - 1 by omega)
    omega
  have hw1 : wrap64 (T : Int) = (T : Int) := by unfold wrap64; omega
  have row1 : Row (w.alloc (.cells #[.int .u64 1, .int .u64 2, .int .u64 key] 22)) (some ⟨w.heap.size, 0, none⟩) 3 (fun i => .int .u64 (KC key i)) := row_new _ _ _ _ (fun i hi => by rcases (show i = 0 ∨ i = 1 ∨ i = 2 by omega) with rfl | rfl | rfl <;> rfl)
  have b1 := (Below.refl w.heap.size w).alloc (Nat.le_refl _) (.cells #[.int .u64 1, .int .u64 2, .int .u64 key] 22)
  have hs1 : w.heap.size < (w.alloc (.cells #[.int .u64 1, .int .u64 2, .int .u64 key] 22)).heap.size := by simp
  go_enter Try.func5, Try.ntmps5
  go_wp2_with fail
  refine (newdesk_any _ 3 3 (KC key) _ (by decide) (by decide) (Nat.le_refl _) (by decide) row1).mono ?_
  rintro e w2 ⟨rfl, D2, b2, hs2⟩
  generalize w.alloc (.cells #[.int .u64 1, .int .u64 2, .int .u64 key] 22) = w1 at *
  obtain ⟨d, hd⟩ : ∃ d, w1.heap.size = d := ⟨_, rfl⟩
  rw [hd] at D2 b2 hs2 hs1 ⊢
  have b3 := b1.trans (b2.mono (Nat.le_of_lt hs1))
  clear hd b1 b2 row1 hU hV u0 v0
  go_wp2_with fail
  refine (newseeker_any 2 key w2 (by decide)).mono ?_
  rintro e w3 ⟨rfl, S3, b4, hs3⟩
  obtain ⟨s, hs⟩ : ∃ s, w2.heap.size = s := ⟨_, rfl⟩
  have D3 : Dk w3 d (3 : Nat) (KD key) (fun _ => 0) := below_blk b4 D2 (Blk.lt D2)
  rw [hs] at S3 b4 hs2 hs3 ⊢
  have b5 := b3.trans (b4.mono (by omega))
  clear hs b3 b4 D2
  obtain ⟨i0, hi0, hz0, hz1, hz2⟩ := info_parts infoBS
  have hT63 : (M : Int) ≤ 9223372036854775807 := by omega
  go_wp2_with fail
  go_loopw [9, 47] (fun vv i wr => ∃ (k : Nat) (A : Nat → Option Addr) (C : Nat → Nat) (nz : Int) (wz : Bool), i = .int .i64 (k : Int) ∧ k ≤ M ∧ Mine wr (s + 1) 30 vv k (fun j => .slice (A j) 15 (C j)) ∧ (∀ j, j < k → Bs wr (A j) (C j) (Sj key j)) ∧ (∀ j, j < k → ∀ p, A j = some p → vv.ownBlock ≠ some p.block) ∧ Sk wr s 2 key (k : Int) nz wz ∧ Dk wr d (3 : Nat) (KD key) (fun _ => 0) ∧ Below w.heap.size w wr) (fun _ i _ => M - (intOf i).toNat)
  case atStart => exact ⟨0, fun _ => none, fun _ => 0, 0, false, rfl, by omega, Mine.nil _ _ _ _, fun j hj => absurd hj (by omega), fun j hj => absurd hj (by omega), S3, D3, b5⟩
  case round =>
    clear S3 D3 b5
    obtain ⟨k, A, C, nz, wz, rfl, hk2, mv, hB, hne, S4, D4, b6⟩ := hrel
    by_cases hlt : k < M
    · have hk9 : k < 9 := by omega
      have uk : IntKind.u32.wrap (k : Int) = (k : Int) := by rw [IntKind.wrap_u32]; omega
      have uk1 : IntKind.u32.wrap ((k : Int) + 1) = (k : Int) + 1 := by rw [IntKind.wrap_u32]; omega
      have PA := sask_any s 2 key (k : Int) nz wz 0 (k : Int) wr S4 hk.1 (by decide) (by decide) (by unfold In32; omega) (by omega)
      have hl15 := Sj_len key k
      unfold Sj at hl15
      rw [hl15] at PA
      have HPA := Lib.hid PA
      clear PA hl15
      have hsz4 := Own.lt S4
      have hdz4 := Blk.lt D4
      go_wp2_with fail
      refine HPA.out.mono ?_
      rintro e w5 ⟨a5, c5, rfl, B5n, S5, j5⟩
      have B5 : Bs w5 a5 c5 (Sj key k) := B5n.toBs
      have l5 : ∀ p, a5 = some p → wr.heap.size ≤ p.block := B5n.low
      have D5 : Dk w5 d (3 : Nat) (KD key) (fun _ => 0) := j5.blk D4 (by omega)
      have m5 : Mine w5 (s + 1) 30 _ k _ := mv.just j5 (Nat.lt_succ_self s)
      have hB5 : ∀ j, j < k → Bs w5 (A j) (C j) (Sj key j) := fun j hj => (hB j hj).just j5 (bs_sk (hB j hj) (by rw [Sj_len]; decide) S4)
      have b7 := j5.below b6 (by omega) b6.size
      have ho5 : ∀ p, a5 = some p → _ ≠ some p.block := fun p hp e => by
        have h1 := (mv.lt p.block e).2
        have h2 := l5 p hp
        omega
      obtain ⟨hask, hreq⟩ := ask_back (key := key) (Rj_ok k hk9).1 (Rj_ok k hk9).2
      have PQ := asked_any a5 c5 (Sj key k) w5 (by rw [Sj_len]; decide) B5 (okB_seal (askB_ok (show nodeB 2 = true from by decide) (show nodeB 0 = true from by decide)))
      have hse : askE (Sj key k) = 0 := hask
      have hsr : askR (Sj key k) = ⟨2, 0, (k : Int), (k : Int) + 1, tagL key (askB (skR 2 0 (k : Int) (k : Int)))⟩ := hreq
      rw [hse, hsr, Sj_len] at PQ
      obtain ⟨tg, htg⟩ : ∃ t, tagL key (askB (skR 2 0 (k : Int) (k : Int))) = t := ⟨_, rfl⟩
      rw [htg] at PQ
      have HPQ := Lib.hid PQ
      have hcap5 := B5.cap
      have hle5 := B5.le
      rw [Sj_len] at hle5
      unfold maxLen at hcap5
      have hc63 : (c5 : Int) ≤ 9223372036854775807 := by omega
      clear PQ hask hreq hse hsr htg HPA S4 D4 mv hB b6 j5 B5n
      go_wp2_with fail
      refine HPQ.out.mono ?_
      rintro e w6 ⟨rfl, b8⟩
      have S6 : Sk w6 s 2 key ((k : Int) + 1) (k : Int) true := below_own b8 S5 (Own.lt S5)
      have D6 : Dk w6 d (3 : Nat) (KD key) (fun _ => 0) := below_blk b8 D5 (Blk.lt D5)
      have B6 := B5.below b8
      have hB6 : ∀ j, j < k → Bs w6 (A j) (C j) (Sj key j) := fun j hj => (hB5 j hj).below b8
      have m6 := m5.kept (w' := w6) (fun q _ => if hl : q < w5.heap.size then .inl (b8.block q hl) else .inr (fun e => hl (m5.lt q e).2))
      have b9 := b7.trans (b8.mono b7.size)
      unfold Rq.vals
      dsimp only
      have ba := (Below.refl w6.heap.size w6).alloc (Nat.le_refl _) (.cells #[.int .i64 2, .int .i64 0, .int .u32 (k : Int), .int .u32 ((k : Int) + 1), .int .u32 tg] 25)
      have r7 := Own.new w6 25 #[.int .i64 2, .int .i64 0, .int .u32 (k : Int), .int .u32 ((k : Int) + 1), .int .u32 tg]
      have S7 : Sk _ s 2 key ((k : Int) + 1) (k : Int) true := below_own ba S6 (Own.lt S6)
      have D7 : Dk _ d (3 : Nat) (KD key) (fun _ => 0) := below_blk ba D6 (Blk.lt D6)
      have B7 := B6.below ba
      have hB7 : ∀ j, j < k → Bs _ (A j) (C j) (Sj key j) := fun j hj => (hB6 j hj).below ba
      have m7 := m6.alloc (.cells #[.int .i64 2, .int .i64 0, .int .u32 (k : Int), .int .u32 ((k : Int) + 1), .int .u32 tg] 25)
      have b10 := b9.trans (ba.mono b9.size)
      clear S5 D5 B5 hB5 m5 b7 HPQ b8 S6 D6 B6 hB6 m6 b9
      go_upto_region 12 with (fail)
      obtain ⟨rb, hrb⟩ : ∃ g, w6.heap.size = g := ⟨_, rfl⟩
      rw [hrb] at r7 ⊢
      generalize w6.alloc (.cells #[.int .i64 2, .int .i64 0, .int .u32 (k : Int), .int .u32 ((k : Int) + 1), .int .u32 tg] 25) = w7 at *
      clear ba hrb
      have c0 : w7.cell? ⟨rb, 0, none⟩ = some (.int .i64 2) := r7.cell 0
      have c2 : w7.cell? ⟨rb, 2, none⟩ = some (.int .u32 (k : Int)) := r7.cell 2
      have c3 : w7.cell? ⟨rb, 3, none⟩ = some (.int .u32 ((k : Int) + 1)) := r7.cell 3
      have q1 : (((k : Int) + 1) != (k : Int) + 1) = false := by simp
      have q2 : ((k : Int) != (k : Int)) = false := by simp
      have HNM := Lib.hid (show k + 1 ≤ maxLen by unfold maxLen; omega)
      have m8 := m7.alloc (.cells #[.slice a5 15 c5] 30)
      have hr8 : Row (w7.alloc (.cells #[.slice a5 15 c5] 30)) (some ⟨w7.heap.size, 0, none⟩) 1 (fun _ => .slice a5 15 c5) := row_new _ _ _ _ (fun i hi => by obtain rfl : i = 0 := (by omega); rfl)
      have ba := (Below.refl w7.heap.size w7).alloc (Nat.le_refl _) (.cells #[.slice a5 15 c5] 30)
      have hs8 : s + 1 ≤ (w7.alloc (.cells #[.slice a5 15 c5] 30)).heap.size := by have := Own.lt S7; simp; omega
      go_wp2_with (at_builtin; go_must (refine wp_app_at rfl (.tmp 88) (.tmp 90) _ rfl (s + 1) 30 i0 _ 24 Try.underlying56 hi0 hz0 hz1 hz2 rfl _ k (fun j => .slice (A j) 15 (C j)) rfl m8 _ 1 _ (fun _ => .slice a5 15 c5) rfl hr8 (fun _ _ => rfl) HNM.out ?c2 hs8 ?_))
      case c2 => omega
      intro v' w9 m9 g9 q9
      have S8 : Sk _ s 2 key ((k : Int) + 1) (k : Int) true := below_own ba S7 (Own.lt S7)
      have D8 : Dk _ d (3 : Nat) (KD key) (fun _ => 0) := below_blk ba D7 (Blk.lt D7)
      have B8 := B7.below ba
      have hB8 : ∀ j, j < k → Bs _ (A j) (C j) (Sj key j) := fun j hj => (hB7 j hj).below ba
      have hlo : ∀ q, _ = some q → s + 1 ≤ q := fun q hq => (m8.lt q hq).1
      have S9 : Sk w9 s 2 key ((k : Int) + 1) (k : Int) true := (g9.block s (Own.lt S8) (fun e => by have := hlo s e.symm; omega)).trans S8
      have D9 : Dk w9 d (3 : Nat) (KD key) (fun _ => 0) := (g9.block d (Blk.lt D8) (fun e => by have := hlo d e.symm; omega)).trans D8
      have B9 : Bs w9 a5 c5 (Sj key k) := bs_grown B8 g9 (fun p hp e => ho5 p hp e.symm)
      have hB9 : ∀ j, j < k → Bs w9 (A j) (C j) (Sj key j) := fun j hj => bs_grown (hB8 j hj) g9 (fun p hp e => hne j hj p hp e.symm)
      have b11 := b10.trans (ba.mono b10.size)
      have b12 : Below w.heap.size w w9 := b11.grown g9 b11.size (fun q hq => by have := hlo q hq; omega)
      have hne9 : ∀ p, a5 = some p → v'.ownBlock ≠ some p.block := fun p hp e => by
        rcases q9 with q | q
        · exact ho5 p hp (q.symm.trans e)
        · rw [e] at q
          injection q with q
          have h9 := bs_lt B8 (by rw [Sj_len]; decide) p hp
          simp at h9
          omega
      have hne10 : ∀ j, j < k → ∀ p, A j = some p → v'.ownBlock ≠ some p.block := fun j hj p hp e => by
        rcases q9 with q | q
        · exact hne j hj p hp (q.symm.trans e)
        · rw [e] at q
          injection q with q
          have h9 := bs_lt (hB8 j hj) (by rw [Sj_len]; decide) p hp
          simp at h9
          omega
      have m10 : Mine w9 (s + 1) 30 v' (k + 1) (fun j => .slice (if j = k then a5 else A j) 15 (if j = k then c5 else C j)) := m9.ext (fun j hj => by
        by_cases h : j < k
        · rw [if_pos h, if_neg (by omega), if_neg (by omega)]
        · obtain rfl : j = k := by omega
          rw [if_neg h, if_pos rfl, if_pos rfl])
      clear c0 c2 c3 r7 S7 D7 B7 hB7 m7 b10 m8 hr8 ba hs8 m9 g9 q9 S8 D8 B8 hB8 hlo b11
      go_wp2_with fail
      refine ⟨⟨k + 1, (fun j => if j = k then a5 else A j), (fun j => if j = k then c5 else C j), (k : Int), true, by simp, by omega, m10, fun j hj => ?_, fun j hj p hp => ?_, by rw [Int.natCast_succ]; exact S9, D9, b12⟩, by simp [intOf]; omega⟩
      · by_cases h : j = k
        · subst h
          simp only [if_true]
          exact B9
        · simp only [if_neg h]
          exact hB9 j (by omega)
      · by_cases h : j = k
        · subst h
          simp only [if_true] at hp
          exact hne9 p hp
        · simp only [if_neg h] at hp
          exact hne10 j (by omega) p hp
    · obtain rfl : k = M := by omega
      clear hlt hk2
      obtain ⟨ba, bc, rfl, hb1, hb2, hrow⟩ := mv.row
      have hcap := Lib.hid hb2
      unfold maxLen at hb2
      have hb63 : (bc : Int) ≤ 9223372036854775807 := by omega
      obtain ⟨rq, ro, rfl, hrl, hrc⟩ := hrow (by omega)
      obtain ⟨e, rfl⟩ : ∃ e, k = e + 1 := ⟨k - 1, by omega⟩
      have hrc1 : wr.cell? ⟨rq, ro + e, none⟩ = some (.slice (A e) 15 (C e)) := hrc e (by omega)
      have hrc2 : wr.cell? ⟨rq, ro + T, none⟩ = some (.slice (A T) 15 (C T)) := hrc T (by omega)
      have hz : ((e : Int) + 1) - 1 = (e : Int) := by omega
      have hBe := hB e (by omega)
      have hBT := hB T (by omega)
      have hKD : ∀ i, 0 ≤ KD key i := fun i => by unfold KD KC; repeat' split <;> omega
      have hle1 := hBe.le
      have hca1 := hBe.cap
      have hle2 := hBT.le
      have hca2 := hBT.cap
      rw [Sj_len] at hle1 hle2
      unfold maxLen at hca1 hca2
      have hca163 : ((C e : Nat) : Int) ≤ 9223372036854775807 := by omega
      have hca263 : ((C T : Nat) : Int) ≤ 9223372036854775807 := by omega
      have PT := take_any d 3 (KD key) (fun _ => 0) (A e) (C e) (Sj key e) none 0 0 LA wr D4 (by decide) hKD (by rw [Sj_len]; decide) hBe (okB_seal (askB_ok (show nodeB 2 = true from by decide) (show nodeB 0 = true from by decide))) (Nat.le_refl _) (by decide) (Row.nil _ _ _) (fun p hp => nomatch hp)
      have h0 : takeE 3 (KD key) (fun _ => 0) (Sj key e) = 0 := takeE_ok (Rj_ok e (by omega)).1 (Rj_ok e (by omega)).2 (by show ¬ (3 : Int) ≤ 2; decide) (sealed_own _ _) (by unfold skR; dsimp only; omega)
      obtain ⟨hG, hN⟩ := takeG_ok (L := LA) (m := 0) (Rj_ok e (by omega)).1 (Rj_ok e (by omega)).2 h0
      have hgo : grantOf (KD key (skR 2 0 (e : Int) (e : Int)).nd.toNat) (skR 2 0 (e : Int) (e : Int)) LA 0 = ⟨2, 0, (e : Int), 0, LA, tagL key (giveB ⟨2, 0, (e : Int), 0, LA, 0⟩)⟩ := rfl
      have hno : setN (fun _ => 0) (skR 2 0 (e : Int) (e : Int)).nd.toNat (skR 2 0 (e : Int) (e : Int)).co = setN (fun _ => 0) 2 ((e : Int) + 1) := rfl
      obtain ⟨tg, htg⟩ : ∃ t, tagL key (giveB ⟨2, 0, (e : Int), 0, LA, 0⟩) = t := ⟨_, rfl⟩
      rw [htg] at hgo
      have hG' : takeG 3 (KD key) (fun _ => 0) (Sj key e) LA 0 = ⟨2, 0, (e : Int), 0, LA, tg⟩ := hG.trans hgo
      have hN' : takeN 3 (KD key) (fun _ => 0) (Sj key e) = setN (fun _ => 0) 2 ((e : Int) + 1) := hN.trans hno
      unfold TkP at PT
      rw [h0, hG', hN', Sj_len] at PT
      have HPT := Lib.hid PT
      have h8 : takeE 3 (KD key) (setN (fun _ => 0) 2 ((e : Int) + 1)) (Sj key T) = 8 := takeE_old (Rj_ok T (by omega)).1 (Rj_ok T (by omega)).2 (by show ¬ (3 : Int) ≤ 2; decide) (sealed_own _ _) (by show (T : Int) + 1 ≤ (e : Int) + 1; omega)
      clear PT h0 hG hN hgo hno htg hG' hN'
      have hsd := Blk.lt D4
      go_wp2_with fail
      refine HPT.out.mono ?_
      rintro er w5 ⟨⟨a5, c5, rfl, h51, h52, h53⟩, D5, j5⟩
      have hrc5 : w5.cell? ⟨rq, ro + T, none⟩ = some (.slice (A T) 15 (C T)) := by
        obtain ⟨x1, x2, e1, _, h9⟩ := (mv.just j5 (by omega)).rowAt (by omega)
        injection e1 with e1
        injection e1 with e1 e2
        subst e1 e2
        exact h9 T (by omega)
      have B5 : Bs w5 (A T) (C T) (Sj key T) := hBT.just j5 (bs_dk hBT (by rw [Sj_len]; decide) D4)
      have b7 := j5.below b6 (by omega) b6.size
      have hsz5 := j5.size
      clear HPT D4 S4 hB hBe hBT mv b6 j5
      unfold Gt.vals
      dsimp only
      clear h51 h53
      unfold maxLen at h52
      have hc563 : (c5 : Int) ≤ 9223372036854775807 := by omega
      have hb5 : rq < w5.heap.size := Nat.lt_of_lt_of_le hrl hsz5
      have ba := (Below.refl w5.heap.size w5).alloc (Nat.le_refl _) (.cells #[.int .i64 2, .int .i64 0, .int .u32 (e : Int), .slice a5 0 c5, .int .u32 tg] 28)
      have r6 := Own.new w5 28 #[.int .i64 2, .int .i64 0, .int .u32 (e : Int), .slice a5 0 c5, .int .u32 tg]
      have D6 : Dk _ d (3 : Nat) (KD key) _ := below_blk ba D5 (Blk.lt D5)
      have B6 := B5.below ba
      have hrc6 := (World.cell?_of_block (a := ⟨rq, ro + T, none⟩) (ba.block rq hb5)).trans hrc5
      have b8 := b7.trans (ba.mono b7.size)
      have hsd6 : d < w5.heap.size := Blk.lt D5
      clear hrc1 hrc2 hrc hrow hne b7 B5 D5 hrc5
      go_upto_region 17 with (fail)
      obtain ⟨rb, hrb⟩ : ∃ g, w5.heap.size = g := ⟨_, rfl⟩
      rw [hrb] at r6 ⊢
      generalize w5.alloc (.cells #[.int .i64 2, .int .i64 0, .int .u32 (e : Int), .slice a5 0 c5, .int .u32 tg] 28) = w6 at *
      clear ba
      have PT := take_any d 3 (KD key) _ (A T) (C T) (Sj key T) none 0 0 LA w6 D6 (by decide) hKD (by rw [Sj_len]; decide) B6 (okB_seal (askB_ok (show nodeB 2 = true from by decide) (show nodeB 0 = true from by decide))) (Nat.le_refl _) (by decide) (Row.nil _ _ _) (fun p hp => nomatch hp)
      have hG : takeG 3 (KD key) (setN (fun _ => 0) 2 ((e : Int) + 1)) (Sj key T) LA 0 = giveN := by unfold takeG; rw [if_neg (by rw [h8]; decide)]
      have hN : takeN 3 (KD key) (setN (fun _ => 0) 2 ((e : Int) + 1)) (Sj key T) = setN (fun _ => 0) 2 ((e : Int) + 1) := by unfold takeN; rw [if_neg (by rw [h8]; decide)]
      unfold TkP at PT
      rw [h8, hG, hN, Sj_len] at PT
      have HPT := Lib.hid PT
      clear PT h8 hG hN
      have hsb : rb < w6.heap.size := Own.lt r6
      go_wp2_with fail
      refine HPT.out.mono ?_
      rintro er w7 ⟨⟨a7, c7, rfl, h71, h72, _⟩, D7, j7⟩
      have r7 : Own w7 rb _ _ := j7.own r6 (by omega)
      have b9 := j7.below b8 (by omega) b8.size
      have hsb7 : rb < w7.heap.size := Own.lt r7
      have k1 : w7.cell? ⟨rb, 1, none⟩ = some (.int .i64 0) := r7.cell 1
      have k3 : w7.cell? ⟨rb, 3, none⟩ = some (.slice a5 0 c5) := r7.cell 3
      clear HPT r6 r7 b8 B6 D6 hrc6 j7 h71
      unfold maxLen at h72
      have hc763 : (c7 : Int) ≤ 9223372036854775807 := by omega
      unfold giveN Gt.vals
      dsimp only
      have ba := (Below.refl w7.heap.size w7).alloc (Nat.le_refl _) (.cells #[.int .i64 0, .int .i64 0, .int .u32 0, .slice a7 0 c7, .int .u32 0] 28)
      have D8 : Dk _ d (3 : Nat) (KD key) _ := below_blk ba D7 (Blk.lt D7)
      have k1' := (World.cell?_of_block (a := ⟨rb, 1, none⟩) (ba.block rb hsb7)).trans k1
      have k3' := (World.cell?_of_block (a := ⟨rb, 3, none⟩) (ba.block rb hsb7)).trans k3
      have b10 := b9.trans (ba.mono b9.size)
      clear D7 k1 k3 b9
      go_upto_region 18 with (fail)
      generalize w7.alloc (.cells #[.int .i64 0, .int .i64 0, .int .u32 0, .slice a7 0 c7, .int .u32 0] 28) = w8 at *
      clear ba
      have uk1 : IntKind.u32.wrap ((e : Int) + 1) = (e : Int) + 1 := by rw [IntKind.wrap_u32]; omega
      have P2 := count_any d 3 (KD key) (setN (fun _ => 0) 2 ((e : Int) + 1)) 2 w8 D8 (by decide)
      have P3 := count_any d 3 (KD key) (setN (fun _ => 0) 2 ((e : Int) + 1)) 3 w8 D8 (by decide)
      have q2 : cntV 3 (setN (fun _ => 0) 2 ((e : Int) + 1)) 2 = .tuple #[.int .u32 ((e : Int) + 1), .bool true] := rfl
      have q3 : cntV 3 (setN (fun _ => 0) 2 ((e : Int) + 1)) 3 = .tuple #[.int .u32 0, .bool false] := rfl
      rw [q2] at P2
      rw [q3] at P3
      have HP2 := Lib.hid P2
      have HP3 := Lib.hid P3
      clear P2 P3 q2 q3 D8
      go_wp2_with fail
      refine HP2.out.mono ?_
      rintro er w9 ⟨rfl, rfl⟩
      go_wp2_with fail
      refine HP3.out.mono ?_
      rintro er w9 ⟨rfl, rfl⟩
      go_wp2_with fail
      refine (awake_join _).mono ?_
      rintro er w9 ⟨rfl, b11⟩
      have b12 := b10.trans (b11.mono b10.size)
      go_wp2_with fail
      go_ret
      exact ⟨rfl, b12⟩

theorem walk (H : Type) (enc : TypeId × Value → H) : Walk H enc Try.prog 5 Try.f5 := by
  intro W base args ds p hval hA
  rw [Try.params5] at hA hval
  obtain ⟨v0, v1, v2, d0, d1, d2, p0, p1, p2, rfl, rfl, rfl, h0, h1, h2⟩ := trodAll_three hA
  obtain ⟨key, rfl, rfl, rfl, w0⟩ := open_int Try.underlying22 (hval 0 _ v0 rfl rfl) h0
  obtain ⟨n, rfl, rfl, rfl, w1⟩ := open_int Try.underlying3 (hval 1 _ v1 rfl rfl) h1
  obtain ⟨late, rfl, rfl, rfl, w2⟩ := open_int Try.underlying3 (hval 2 _ v2 rfl rfl) h2
  exact body key n late W (u64_bd w0)

set_option maxRecDepth 100000 in
theorem lifted (os : Os) (started : os.Started) (H : Type) (enc : TypeId × Value → H) :
    ReturnsInHanded {} Try.checked os 5 .any (Rows.joinCountsSpec.pre6 enc Try.prog Try.f5 Rows.joinCountsRow.domain false) (Rows.joinCountsSpec.post enc Try.prog Try.f5 false true false false) :=
  returnsInHanded_of_change (C := Try.checked) own started (by kernel_rfl) Try.func5
    (ChangeSpec.witness6 (enc := enc) (C := Try.checked) false ⟨#[], #[.int .u64 0, .int .i64 0, .int .i64 0], []⟩ 8 (by kernel_rfl) (by kernel_rfl) (by kernel_rfl) (by kernel_rfl))
    fun W base args ds gs before hval hW _ _ => step_of_walk laidOut (by rw [Try.params5]; exact of_decide_eq_true (by kernel_rfl)) (by kernel_rfl) Try.underlying4 rfl
      (fun ds h => by
        rw [Try.params5] at h
        match ds, h with
        | [_, _, _], _ => rfl) (walk H enc) W base args ds gs before hval hW

theorem holds : Rows.JoinCountsSaid :=
  OpenClaim.holds_of_wide 5 Try.f5 rfl rfl rfl rfl rfl rfl rfl ⟨rfl, rfl, rfl, rfl, rfl⟩ rfl rfl rfl rfl rfl (by kernel_rfl) Try.func5 (by kernel_rfl)
    (of_decide_eq_true (by kernel_rfl)) (by unfold Func.isWrapper; first | (rw [if_pos (by decide +kernel)]; kernel_rfl) | (rw [if_neg (by decide +kernel)]; exact ⟨rfl, rfl⟩))
    (fun os started H enc _ => lifted os started H enc)
#print axioms holds
end Go.Proofs.Ytphiohdhgkpgnaa.JoinCounts
