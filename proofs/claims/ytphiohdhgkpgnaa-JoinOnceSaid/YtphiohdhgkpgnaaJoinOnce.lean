/-
  Law JoinOnce: a grant is taken once, with its cells; with one byte changed neither request nor grant is taken; the call returns true. No condition.
-/
import Derived.Test.YtphiohdhgkpgnaaJoOnceM
import Derived.Test.YtphiohdhgkpgnaaJoRSame
import Derived.Test.YtphiohdhgkpgnaaCellArg
set_option maxRecDepth 100000
namespace Go.Proofs.Ytphiohdhgkpgnaa.JoinOnce
set_option linter.unusedVariables false
open Go.RowKit Go.ChangeShapes Go.WideShapes Go.ChangeAt Go.Deep Lb Se Jo Cl
set_option linter.unusedVariables false
theorem own : ownKnob Try.prog.godebug = none := by kernel_rfl
theorem laidOut : laidOutB Try.prog = true := by kernel_rfl
theorem infoU : (Try.prog.info? 22).map (fun i => (i.zero, i.size, i.bytes)) = some (some (.int .u64 0), 1, 8) := by kernel_rfl
theorem infoBB : (Try.prog.info? 5).map (fun i => (i.zero, i.size, i.bytes)) = some (some (.int .u8 0), 1, 1) := by kernel_rfl
def KM (m : Nat) (key : Int) (i : Nat) : Int := if i = m then key else 0
def K16 (m : Nat) (key : Int) (i : Nat) : Int := if i < 16 then KM m key i else 0
theorem row_cv {w : World} {a : Option Addr} {n : Nat} {K L : Nat → C} (h : Row w a (n * 5) (cv K)) (hk : ∀ k, k < n → K k = L k) : Row w a (n * 5) (cv L) := fun h0 => by
  obtain ⟨q, off, e, hq, hc⟩ := h h0
  exact ⟨q, off, e, hq, fun i hi => (hc i hi).trans (by unfold cv; rw [hk (i / 5) (by omega)])⟩
theorem row_dk {w : World} {a : Option Addr} {g d : Nat} {L : Nat → C} {n : Int} {K N : Nat → Int} (h : Row w a (g * 5) (cv L)) (hD : Dk w d n K N) : 0 < g * 5 → ∀ p, a = some p → p.block ≠ d := fun h0 p hp e => by
  obtain ⟨q, off, e1, _, h3⟩ := h h0
  rw [hp] at e1
  injection e1 with e1
  subst e1
  dsimp only at e
  subst e
  have h4 := h3 1 (by omega)
  have h5 : w.heap[q]? = some (.cells (Array.ofFn (n := 33) fun i => dv n K N i) 92 (0, 0)) := hD
  rw [Own.cell h5, show (1 : Nat) = 0 * 5 + 1 from rfl, cv1] at h4
  by_cases ho : off + (0 * 5 + 1) < 33
  · rw [Array.getElem?_eq_getElem (by simpa using ho), Array.getElem_ofFn] at h4
    unfold dv at h4
    split at h4
    · rename_i hq
      simp at hq
    · split at h4 <;> cases h4
  · rw [Array.getElem?_eq_none (by simpa using ho)] at h4
    cases h4
theorem row_sk {w : World} {a : Option Addr} {g s : Nat} {L : Nat → C} {nd key co no : Int} {wt : Bool} (h : Row w a (g * 5) (cv L)) (hS : Sk w s nd key co no wt) : 0 < g * 5 → ∀ p, a = some p → p.block ≠ s := fun h0 p hp e => by
  obtain ⟨q, off, e1, _, h3⟩ := h h0
  rw [hp] at e1
  injection e1 with e1
  subst e1
  dsimp only at e
  subst e
  have h4 := h3 1 (by omega)
  rw [Own.cell hS, show (1 : Nat) = 0 * 5 + 1 from rfl, cv1] at h4
  rcases off with _ | _ | _ | _ | off
  · simp at h4
  · simp at h4
  · simp at h4
  · simp at h4
  · simp at h4
theorem giveB_tg (a b c : Int) (n : Nat) (L : Nat → C) (t : Int) : giveB ⟨a, b, c, n, L, 0⟩ = giveB ⟨a, b, c, n, L, t⟩ := by unfold giveB; rfl
theorem grant_is (m p n : Nat) (no key : Int) (L : Nat → C) (A : Option Addr) (cc : Nat) : ∃ (cd : Int) (gn : Nat) (wA : Option Addr) (wc : Nat) (tg : Int), grantOf key (skR m p no 0) L n = ⟨m, cd, no, gn, L, tg⟩ ∧ tg = tagL key (giveB ⟨m, cd, no, gn, L, tg⟩) ∧ (cd == 0) = mayL L n ∧ gn ≤ 8 ∧ (if mayL L n = true then Value.slice A n cc else .slice none 0 0) = .slice wA gn wc ∧ ((wA = A ∧ gn = n ∧ wc = cc) ∨ (wA = none ∧ gn = 0 ∧ wc = 0)) := by
  cases h : mayL L n with
  | true =>
    refine ⟨0, n, A, cc, tagL key (giveB ⟨m, 0, no, n, L, 0⟩), ?_, congrArg (tagL key) (giveB_tg _ _ _ _ _ _), rfl, (mayL_iff.1 h).1, rfl, .inl ⟨rfl, rfl, rfl⟩⟩
    unfold grantOf
    rw [h]
    rfl
  | false =>
    refine ⟨1, 0, none, 0, tagL key (giveB ⟨m, 1, no, 0, L, 0⟩), ?_, congrArg (tagL key) (giveB_tg _ _ _ _ _ _), rfl, by decide, rfl, .inr ⟨rfl, rfl, rfl⟩⟩
    unfold grantOf
    rw [h]
    rfl
set_option maxHeartbeats 8000000 in
theorem body (a0 a1 key no : Int) (A : Option Addr) (n cc : Nat) (L : Nat → C) (at_ x : Int) (w : World) (hkey : 0 ≤ key ∧ key < 18446744073709551616) (hno : 0 ≤ no ∧ no < 4294967296) (hn : n ≤ cc) (hcc : cc ≤ maxLen) (hL : Row w A (n * 5) (cv L)) (hx : 0 ≤ x ∧ x < 256) :
    Calls Try.prog 4 #[.int .i64 a0, .int .i64 a1, .int .u64 key, .int .u32 no, .slice A n cc, .int .i64 at_, .int .u8 x] w fun r w' => r = .returned (.bool true) ∧ Below w.heap.size w w' := by
  have HCC := Lib.hid hcc
  unfold maxLen at hcc
  have hn63 : (n : Int) ≤ 9223372036854775807 := by omega
  have hcc63 : (cc : Int) ≤ 9223372036854775807 := by omega
  obtain ⟨U, hU⟩ : ∃ U, IntKind.u64.wrap a0 = U := ⟨_, rfl⟩
  obtain ⟨V, hV⟩ : ∃ V, IntKind.u64.wrap a1 = V := ⟨_, rfl⟩
  have u0 : 0 ≤ U ∧ U < 18446744073709551616 := by rw [← hU, IntKind.wrap_u64]; omega
  have v0 : 0 ≤ V ∧ V < 18446744073709551616 := by rw [← hV, IntKind.wrap_u64]; omega
  obtain ⟨m, hM⟩ : ∃ m : Nat, U % 16 = (m : Int) := ⟨(U % 16).toNat, by omega⟩
  have hm : m < 16 := by omega
  obtain ⟨q, hQ⟩ : ∃ q : Nat, V % 15 = (q : Int) := ⟨(V % 15).toNat, by omega⟩
  have hq : q < 15 := by omega
  obtain ⟨p, hP⟩ : ∃ p : Nat, ((m : Int) + 1 + (q : Int)) % 16 = (p : Int) := ⟨((m + 1 + q) % 16 : Nat), by omega⟩
  have hp : p < 16 ∧ p ≠ m := by omega
  obtain ⟨i0, hi0, hz0, hz1, hz2⟩ := info_parts infoU
  have hmk : ∀ w : World, (Instr.makeSlice 45 (.int .i64 16) (.int .i64 16)).run Try.prog w = .ok (.slice (some ⟨w.heap.size, 0, none⟩) 16 16) (w.alloc (.cells (madeCells #[.int .u64 0] 16) 22)) := by
    intro w
    have := run_make w 45 22 i0 (.int .u64 0) Try.underlying45 hi0 hz0 .i64 .i64 16 16 (by omega) (by omega) (by rw [hz2]; omega) (by omega)
    rw [this, hz1]
    simp [Value.cells]
  have HCS : Hid (madeCells #[Value.int .u64 0] 16 = (List.replicate 16 (Value.int .u64 0)).toArray) := Lib.hid (by
    apply Array.toList_inj.1
    simpa using toList_madeCells_one (Value.int .u64 0) 16)
  have o1 : Blk (w.alloc (.cells (madeCells #[.int .u64 0] 16) 22)) w.heap.size 22 16 (fun _ => .int .u64 0) := Blk.same (Own.new _ _ _) HCS.out
  have b1 := (Below.refl w.heap.size w).alloc (Nat.le_refl _) (.cells (madeCells #[.int .u64 0] 16) 22)
  have HL := Lib.hid hL
  clear hL HCS i0 hi0 hz0 hz1 hz2
  go_enter Try.func4, Try.ntmps4
  go_upto_region 4 with (fail)
  try rw [hP]
  obtain ⟨hp1, hp2⟩ := hp
  generalize w.alloc (.cells (madeCells #[.int .u64 0] 16) 22) = w1 at *
  obtain ⟨g0, hg0⟩ : ∃ g, w.heap.size = g := ⟨_, rfl⟩
  have HG0 := Lib.hid hg0
  rw [hg0] at o1 b1 ⊢
  clear hg0 hmk hM hQ hU hV u0 v0
  have c0 : w1.cell? ⟨g0, m, none⟩ = some (.int .u64 0) := o1.cell hm
  have f0 := o1.free m
  have o2 := o1.put m (.int .u64 key)
  have b2 : Below g0 w (w1.setCell ⟨g0, m, none⟩ (.int .u64 key)) := b1.setCell (Nat.le_refl _) _
  have row2 : Row (w1.setCell ⟨g0, m, none⟩ (.int .u64 key)) (some ⟨g0, 0, none⟩) 16 (fun i => .int .u64 (KM m key i)) := fun _ => ⟨g0, 0, rfl, o2.lt, fun i hi => by
    rw [Nat.zero_add, o2.cell hi]
    show _ = some (Value.int .u64 (if i = m then key else 0))
    by_cases h : i = m
    · simp [h]
    · simp [h]⟩
  have hs2 := o2.lt
  clear o1 o2 b1
  go_upto_region 5 with (fail)
  generalize w1.setCell ⟨g0, m, none⟩ (.int .u64 key) = w2 at *
  clear c0 f0
  go_wp2_with fail
  refine (newdesk_any _ 16 16 (KM m key) _ (by decide) (by decide) (Nat.le_refl _) (by decide) row2).mono ?_
  rintro e w3 ⟨rfl, D3, b3, hs3⟩
  obtain ⟨d, hd⟩ : ∃ d, w2.heap.size = d := ⟨_, rfl⟩
  rw [hd] at D3 b3 hs2 hs3 ⊢
  have b4 := b2.trans (b3.mono (Nat.le_of_lt hs2))
  have hnm : nodeB (m : Int) = true := nodeB_iff.2 ⟨by omega, by omega⟩
  have HNM := Lib.hid hnm
  clear hd b2 b3 row2 hnm
  go_wp2_with fail
  refine (newseeker_any m key w3 HNM.out).mono ?_
  rintro e w4 ⟨rfl, S4, b5, hs5⟩
  have D4 : Dk w4 d (16 : Nat) (K16 m key) (fun _ => 0) := below_blk b5 D3 (Blk.lt D3)
  obtain ⟨s, hs⟩ : ∃ s, w3.heap.size = s := ⟨_, rfl⟩
  rw [hs] at S4 b5 hs3 hs5 ⊢
  have b6 := b4.trans (b5.mono (by omega))
  clear hs b4 b5 D3
  by_cases h40 : 40 < n
  · have d40 : decide (40 < n) = true := by simpa using h40
    have d40' : decide ((40 : Int) < (n : Int)) = true := by simp; omega
    go_wp2_with fail
    refine (awake_join _).mono ?_
    rintro e w5 ⟨rfl, b7⟩
    have b8 := b6.trans (b7.mono (by omega))
    go_wp2_with fail
    go_ret
    exact ⟨rfl, by rw [HG0.out]; exact b8⟩
  have d40 : decide (40 < n) = false := by simpa using h40
  have d40' : decide ((40 : Int) < (n : Int)) = false := by simp; omega
  have PA := sask_any s m key 0 0 false p no w4 S4 hkey.1 HNM.out (by unfold otherB; rw [Bool.and_eq_true]; exact ⟨nodeB_iff.2 ⟨by omega, by omega⟩, by simp; omega⟩) (by unfold In32; omega) (by decide)
  have hl15 : (sealL key (askB (skR m p no 0))).length = 15 := by rw [sealL_len, askB_len]
  rw [hl15] at PA
  have HPA := Lib.hid PA
  have HL15 := Lib.hid hl15
  clear PA hl15
  go_wp2_with fail
  refine HPA.out.mono ?_
  rintro e w5 ⟨a5, c5, rfl, B5n, S5, j5⟩
  have B5 : Bs w5 a5 c5 (sealL key (askB (skR m p no 0))) := B5n.toBs
  have D5 : Dk w5 d (16 : Nat) (K16 m key) (fun _ => 0) := j5.blk D4 (by omega)
  have hg0d : g0 < d := hs2
  have b7 := j5.below b6 (by omega) (by omega)
  have hs5' := j5.size
  have HAd : Hid (∀ P, A = some P → 0 < n * 5 → P.block < g0) := Lib.hid (fun P hP hn0 => by
    obtain ⟨y1, y2, y3, y4, _⟩ := HL.out hn0
    rw [hP] at y3
    injection y3 with y3
    rw [y3, ← HG0.out]
    exact y4)
  have hle5 := B5.le
  have hca5 := B5.cap
  rw [HL15.out] at hle5
  unfold maxLen at hca5
  have hc563 : (c5 : Int) ≤ 9223372036854775807 := by omega
  obtain ⟨cd, gn, wA, wc, tg, hgr, htg, hcd, hgn, hwt, hww⟩ := grant_is m p n no key L A cc
  have hmr : mayR (skR m p no 0) = true := by
    unfold mayR skR otherB
    rw [Bool.and_eq_true, Bool.and_eq_true]
    exact ⟨HNM.out, nodeB_iff.2 ⟨by show (0 : Int) ≤ (p : Int); omega, by show (p : Int) < 16; omega⟩, by simp; omega⟩
  have hwd : (skR m p no 0).wide := ⟨by unfold skR In32; dsimp only; omega, by unfold skR In32; dsimp only; omega⟩
  have hKm : K16 m key m = key := by unfold K16 KM; rw [if_pos hm, if_pos rfl]
  have hokA : okB (askB (skR m p no 0)) := askB_ok HNM.out (nodeB_iff.2 ⟨by show (0 : Int) ≤ (p : Int); omega, by show (p : Int) < 16; omega⟩)
  have hK0 : ∀ i, 0 ≤ K16 m key i := fun i => by unfold K16 KM; repeat' split <;> omega
  have T1 : ∀ (W : World) (N : Nat → Int) (a : Option Addr) (c : Nat) (l : List Int), Dk W d (16 : Nat) (K16 m key) N → Bs W a c l → okB l → l.length = 15 → Below g0 w W → Calls Try.prog 22 #[.pointer (some ⟨d, 0, none⟩), .slice a 15 c, .slice A n cc] W (TkP d 16 (K16 m key) N l L n W) := fun W N a c l hD hB hk hl hb => by
    have := take_any d 16 (K16 m key) N a c l A n cc L W hD (by decide) hK0 (by rw [hl]; decide) hB hk hn HCC.out (by omega) (HL.out.below (by rw [HG0.out]; exact hb)) (fun P hP h0 => by
      have h1 := HAd.out P hP h0
      have h2 := Blk.lt hD
      exact ⟨by omega, by omega⟩)
    rw [hl] at this
    exact this
  have TA : ∀ N : Nat → Int, N m = 0 → takeE 16 (K16 m key) N (sealL key (askB (skR m p no 0))) = 0 ∧ takeG 16 (K16 m key) N (sealL key (askB (skR m p no 0))) L n = ⟨m, cd, no, gn, L, tg⟩ ∧ takeN 16 (K16 m key) N (sealL key (askB (skR m p no 0))) = setN N m 1 := fun N hN => by
    have h0 : takeE 16 (K16 m key) N (sealL key (askB (skR m p no 0))) = 0 := takeE_ok hmr hwd (by show ¬ (16 : Int) ≤ (m : Int); omega) (by show sealedB (K16 m key (m : Int).toNat) _ = true; rw [Int.toNat_natCast, hKm]; exact sealed_own _ _) (by show ¬ (1 : Int) ≤ N (m : Int).toNat; rw [Int.toNat_natCast, hN]; decide)
    obtain ⟨h1, h2⟩ := takeG_ok (L := L) (m := n) hmr hwd h0
    refine ⟨h0, h1.trans ?_, h2⟩
    show grantOf (K16 m key (m : Int).toNat) _ L n = _
    rw [Int.toNat_natCast, hKm, hgr]
  have TB : ∀ N : Nat → Int, takeE 16 (K16 m key) (setN N m 1) (sealL key (askB (skR m p no 0))) = 8 := fun N => takeE_old hmr hwd (by show ¬ (16 : Int) ≤ (m : Int); omega) (by show sealedB (K16 m key (m : Int).toNat) _ = true; rw [Int.toNat_natCast, hKm]; exact sealed_own _ _) (by show (1 : Int) ≤ setN N m 1 (m : Int).toNat; rw [Int.toNat_natCast]; unfold setN; rw [if_pos rfl]; decide)
  have HT1 := Lib.hid T1
  have HTA := Lib.hid TA
  have HTB := Lib.hid TB
  have hgm : mayG ⟨m, cd, no, gn, L, tg⟩ = true := by
    have := grant_may (Kn := key) (L := L) (m := n) (r := skR m p no 0) HNM.out
    rwa [hgr] at this
  have HGM := Lib.hid hgm
  have HTG := Lib.hid htg
  have HOK := Lib.hid hokA
  have HKM := Lib.hid hKm
  obtain ⟨mv, hmv⟩ : ∃ b, mayL L n = b := ⟨_, rfl⟩
  have PM : ∀ W, Below g0 w W → Calls Try.prog 23 #[.slice A n cc] W fun e w' => e = .returned (.bool mv) ∧ Below W.heap.size W w' := fun W hb => by
    rw [← hmv]
    exact rmaycells_any A n cc L W hn HCC.out (HL.out.below (by rw [HG0.out]; exact hb))
  have PW : ∀ W, Below g0 w W → Calls Try.prog 25 #[.slice A n cc] W fun e w' => e = .returned (.slice wA gn wc) ∧ Below W.heap.size W w' := fun W hb => by
    rw [← hwt]
    exact want_any A n cc L W hn HCC.out (HL.out.below (by rw [HG0.out]; exact hb))
  have hwrow : ∀ W, Below g0 w W → Row W wA (gn * 5) (cv L) ∧ gn ≤ wc ∧ wc ≤ maxLen := fun W hb => by
    rcases hww with ⟨rfl, rfl, rfl⟩ | ⟨rfl, rfl, rfl⟩
    · exact ⟨HL.out.below (by rw [HG0.out]; exact hb), hn, HCC.out⟩
    · exact ⟨Row.nil _ _ _, Nat.le_refl _, Nat.zero_le _⟩
  have HPM := Lib.hid PM
  have HPW := Lib.hid PW
  have HWR := Lib.hid hwrow
  rw [hmv] at hcd
  clear T1 TA TB hgm htg hokA hKm hmv PM PW hwrow hwt hww hgr hK0 hwd hmr B5n hP HPA D4 S4 b6 j5
  by_cases hx0 : x = 0
  · have x0 : (x != 0) = false := by simpa using hx0
    clear hx0
    have PT := HT1.out w5 (fun _ => 0) a5 c5 _ D5 B5 (okB_seal HOK.out) HL15.out b7
    obtain ⟨ta0, ta1, ta2⟩ := HTA.out (fun _ => 0) rfl
    unfold TkP at PT
    rw [ta0, ta1, ta2] at PT
    have HPT := Lib.hid PT
    clear PT ta0 ta1 ta2
    have hds : d ≠ s := by omega
    go_wp2_with fail
    refine HPT.out.mono ?_
    rintro e w6 ⟨⟨a6, c6, rfl, h61, h62, h63⟩, D6, j6⟩
    have B6 := B5.just j6 (bs_dk B5 (by rw [HL15.out]; decide) D5)
    have S6 := j6.own S5 (by omega)
    have b8 := j6.below b7 (by omega) (by have := Blk.lt D5; omega)
    have hd6 := Blk.lt D6
    have hs6 := Own.lt S6
    clear HPT D5 S5 B5 b7 j6
    unfold Gt.vals
    dsimp only at h61 h63 ⊢
    unfold maxLen at h62
    have hc663 : (c6 : Int) ≤ 9223372036854775807 := by omega
    have hg63 : (gn : Int) ≤ 9223372036854775807 := by omega
    have ba := (Below.refl w6.heap.size w6).alloc (Nat.le_refl _) (.cells #[.int .i64 (m : Int), .int .i64 cd, .int .u32 no, .slice a6 gn c6, .int .u32 tg] 28)
    have r7 := Lb.Own.new w6 28 #[.int .i64 (m : Int), .int .i64 cd, .int .u32 no, .slice a6 gn c6, .int .u32 tg]
    have D7 : Dk _ d (16 : Nat) (K16 m key) _ := below_blk ba D6 hd6
    have S7 : Sk _ s _ _ _ _ _ := below_own ba S6 hs6
    have B7 := B6.below ba
    have L7 := h63.below ba
    have b9 := b8.trans (ba.mono (by omega))
    have hbs6 : d < w6.heap.size := hd6
    clear D6 S6 B6 h63 b8
    go_upto_region 18 with (fail)
    obtain ⟨rb, hrb⟩ : ∃ g, w6.heap.size = g := ⟨_, rfl⟩
    rw [hrb] at r7 hbs6 hs6 ⊢
    have hrs : rb < (w6.alloc (.cells #[.int .i64 (m : Int), .int .i64 cd, .int .u32 no, .slice a6 gn c6, .int .u32 tg] 28)).heap.size := r7.lt
    generalize w6.alloc (.cells #[.int .i64 (m : Int), .int .i64 cd, .int .u32 no, .slice a6 gn c6, .int .u32 tg] 28) = w7 at *
    clear ba hrb
    have PT := HT1.out w7 _ a5 c5 _ D7 B7 (okB_seal HOK.out) HL15.out b9
    have tb := HTB.out (fun _ => 0)
    have tg0 : takeG 16 (K16 m key) (setN (fun _ => 0) m 1) (sealL key (askB (skR m p no 0))) L n = giveN := by unfold takeG; rw [if_neg (by rw [tb]; decide)]
    unfold TkP at PT
    rw [tb, tg0] at PT
    have HPT := Lib.hid PT
    clear PT tb tg0
    go_wp2_with fail
    refine HPT.out.mono ?_
    rintro e w8 ⟨⟨a8, c8, rfl, _, h82, _⟩, _, j8⟩
    have r8 := j8.own r7 (by omega)
    have S8 := j8.own S7 (by omega)
    have L8 : Row w8 a6 (gn * 5) (cv L) := row_just2 L7 j8 (row_dk L7 D7)
    have b10 := j8.below b9 (by omega) (by omega)
    have hs8 := j8.size
    clear HPT D7 S7 B7 L7 r7 b9 j8
    unfold giveN Gt.vals
    dsimp only
    unfold maxLen at h82
    have hc863 : (c8 : Int) ≤ 9223372036854775807 := by omega
    have ba := (Below.refl w8.heap.size w8).alloc (Nat.le_refl _) (.cells #[.int .i64 0, .int .i64 0, .int .u32 0, .slice a8 0 c8, .int .u32 0] 28)
    have r9 := below_own ba r8 r8.lt
    have S9 := below_own ba S8 S8.lt
    have L9 := L8.below ba
    have b11 := b10.trans (ba.mono (by omega))
    have hsz9 : g0 ≤ (w8.alloc (.cells #[.int .i64 0, .int .i64 0, .int .u32 0, .slice a8 0 c8, .int .u32 0] 28)).heap.size := by have := ba.size; omega
    clear r8 S8 L8 b10
    go_upto_region 19 with (fail)
    generalize w8.alloc (.cells #[.int .i64 0, .int .i64 0, .int .u32 0, .slice a8 0 c8, .int .u32 0] 28) = w9 at *
    clear ba
    have c0 : w9.cell? ⟨rb, 0, none⟩ = some (.int .i64 (m : Int)) := r9.cell 0
    have c1 : w9.cell? ⟨rb, 1, none⟩ = some (.int .i64 cd) := r9.cell 1
    have c2 : w9.cell? ⟨rb, 2, none⟩ = some (.int .u32 no) := r9.cell 2
    have c3 : w9.cell? ⟨rb, 3, none⟩ = some (.slice a6 gn c6) := r9.cell 3
    have d0 : ∀ z : Gw w9, z.toW.cell? ⟨rb, 0, none⟩ = some (.int .i64 (m : Int)) := fun z => (z.ok.cell (lt_of_cell c0)).trans c0
    have d1 : ∀ z : Gw w9, z.toW.cell? ⟨rb, 1, none⟩ = some (.int .i64 cd) := fun z => (z.ok.cell (lt_of_cell c1)).trans c1
    have d2 : ∀ z : Gw w9, z.toW.cell? ⟨rb, 2, none⟩ = some (.int .u32 no) := fun z => (z.ok.cell (lt_of_cell c2)).trans c2
    have d3 : ∀ z : Gw w9, z.toW.cell? ⟨rb, 3, none⟩ = some (.slice a6 gn c6) := fun z => (z.ok.cell (lt_of_cell c3)).trans c3
    have zb : ∀ z : Gw w9, Below g0 w z.toW := fun z => b11.trans (z.ok.mono hsz9)
    have zr : ∀ z : Gw w9, Row z.toW a6 (gn * 5) (cv L) := fun z => L9.below z.ok
    clear c0 c1 c2 c3
    have HZB := Lib.hid zb
    have HZR := Lib.hid zr
    have HL9 := Lib.hid L9
    clear zb zr L9
    cases mv
    · refine wp_region_grow w9 (Below.refl _ _) [.is (.int .i64 0), .is (.bool false), .is (.bool false), .is (.int .i64 8), .is (.bool false), .is (.bool false), .is (.bool false), .is (.pointer (some ⟨rb, 0, none⟩)), .is (.int .i64 (m : Int)), .is (.int .i64 (m : Int)), .is (.bool false), .is (.bool false), .is (.bool false), .is (.pointer (some ⟨rb, 2, none⟩)), .is (.int .u32 no), .is (.int .u32 no), .is (.bool false), .is (.bool false), .is (.bool false), .is (.pointer (some ⟨rb, 1, none⟩)), .is (.int .i64 cd), .is (.bool false), .is (.slice A n cc), .is (.bool false), .is (.bool false), .is (.bool false), .is (.bool false), .is (.pointer (some ⟨rb, 3, none⟩)), .is (.slice a6 gn c6), .is (.slice A n cc), .is (.slice wA gn wc), .is (.bool true), .is (.bool false), .is (.bool false)] [] (by kernel_rfl) (by kernel_rfl) rfl (by kernel_rfl) ?_
      iterate 23
        refine kd_is (by rfl) (fun z hz K Q hK => ?_) ?_
        · go_big_op
          exact hK _ _ rfl rfl
        simp only [Act.put, List.setIfInBounds_toArray, List.set_cons_zero, List.set_cons_succ]
      refine kd_isc (by rfl) (fun z hz K Q hK => ?_) ?_
      · go_big_op
        refine (HPM.out _ (HZB.out z)).mono ?_
        rintro e w' ⟨rfl, b'⟩
        exact hK _ _ rfl b'
      simp only [Act.put, List.setIfInBounds_toArray, List.set_cons_zero, List.set_cons_succ]
      iterate 6
        refine kd_is (by rfl) (fun z hz K Q hK => ?_) ?_
        · go_big_op
          exact hK _ _ rfl rfl
        simp only [Act.put, List.setIfInBounds_toArray, List.set_cons_zero, List.set_cons_succ]
      refine kd_isc (by rfl) (fun z hz K Q hK => ?_) ?_
      · go_big_op
        refine (HPW.out _ (HZB.out z)).mono ?_
        rintro e w' ⟨rfl, b'⟩
        exact hK _ _ rfl b'
      simp only [Act.put, List.setIfInBounds_toArray, List.set_cons_zero, List.set_cons_succ]
      refine kd_isc (by rfl) (fun z hz K Q hK => ?_) ?_
      · obtain ⟨q1, q2, q3⟩ := HWR.out _ (HZB.out z)
        have PS := rsame_any a6 wA gn c6 wc L z.toW h61 q2 (by unfold maxLen; exact h62) q3 (HZR.out z) q1
        go_big_op
        refine PS.mono ?_
        rintro e w' ⟨rfl, b'⟩
        exact hK _ _ rfl b'
      simp only [Act.put, List.setIfInBounds_toArray, List.set_cons_zero, List.set_cons_succ]
      iterate 2
        refine kd_is (by rfl) (fun z hz K Q hK => ?_) ?_
        · go_big_op
          exact hK _ _ rfl rfl
        simp only [Act.put, List.setIfInBounds_toArray, List.set_cons_zero, List.set_cons_succ]
      refine kd_nil (fun z hz => ?_)
      have bz := HZB.out z
      have Lz := HZR.out z
      have rz := below_own z.ok r9 r9.lt
      have Sz := below_own z.ok S9 S9.lt
      have hzs : g0 ≤ z.toW.heap.size := Nat.le_trans hsz9 z.ok.size
      clear hz d0 d1 d2 d3 HZB HZR HL9 r9 S9 b11 hcd
      generalize z.toW = w10 at *
      have k0 : w10.cell? ⟨rb, 0, none⟩ = some (.int .i64 (m : Int)) := rz.cell 0
      have k1 : w10.cell? ⟨rb, 1, none⟩ = some (.int .i64 cd) := rz.cell 1
      have k2 : w10.cell? ⟨rb, 2, none⟩ = some (.int .u32 no) := rz.cell 2
      have k3 : w10.cell? ⟨rb, 3, none⟩ = some (.slice a6 gn c6) := rz.cell 3
      have k4 : w10.cell? ⟨rb, 4, none⟩ = some (.int .u32 tg) := rz.cell 4
      have hin : In32 no := by unfold In32; omega
      have PG := give_any key ⟨m, cd, no, gn, L, tg⟩ a6 c6 w10 hkey.1 hin h61 (by unfold maxLen; exact h62) Lz
      obtain ⟨hO, hC⟩ := give_yes (key := key) HGM.out
      have hlG : (sealL key (giveB ⟨m, cd, no, gn, L, tg⟩)).length = 8 + 5 * gn + 4 := (sealL_len _ _).trans (congrArg (· + 4) (giveB_len _))
      obtain ⟨lg, hlg⟩ : ∃ lg : Nat, 8 + 5 * gn + 4 = lg := ⟨_, rfl⟩
      rw [hO, hC, hlG, hlg] at PG
      unfold Gt.vals at PG
      dsimp only at PG
      have HPG := Lib.hid PG
      have HLG := Lib.hid (hlG.trans hlg)
      have HIN := Lib.hid hin
      have lg12 : 12 ≤ lg := by omega
      have lg63 : (lg : Int) ≤ 9223372036854775807 := by omega
      have lgd : decide (lg < 12) = false := by simp; omega
      have lgd' : decide ((lg : Int) < 12) = false := by simp; omega
      have lgm : lg ≤ 1000 := by omega
      clear PG hO hC hlG hlg hin
      go_wp2_with fail
      refine HPG.out.mono ?_
      rintro e w11 ⟨a11, c11, rfl, B11, b12⟩
      have L11 := Lz.below b12
      have r11 := below_own b12 rz rz.lt
      have S11 := below_own b12 Sz Sz.lt
      have bx := bz.trans (b12.mono hzs)
      have hx11 : g0 ≤ w11.heap.size := Nat.le_trans hzs b12.size
      have hle11 := B11.le
      have hca11 := B11.cap
      rw [HLG.out] at hle11
      unfold maxLen at hca11
      have hc1163 : (c11 : Int) ≤ 9223372036854775807 := by omega
      clear k0 k1 k2 k3 k4 HPG Lz rz Sz bz b12 hzs

      have PD := done_any s m key (0 + 1) no true a11 c11 (sealL key (giveB ⟨m, cd, no, gn, L, tg⟩)) w11 S11 hkey.1 (by rw [HLG.out]; exact lgm) B11 (okB_seal (giveB_may HGM.out))
      have hd0 : doneE m key no true (sealL key (giveB ⟨m, cd, no, gn, L, tg⟩)) = 0 := doneE_ok HGM.out HIN.out rfl rfl
      obtain ⟨_, e1, e2, e3, e4, e5, e6⟩ := give_back (key := key) HGM.out HIN.out
      unfold DnP doneG at PD
      rw [if_pos hd0, if_pos hd0, hd0, HLG.out] at PD
      obtain ⟨qq, hqq⟩ : ∃ q, giveR (sealL key (giveB ⟨m, cd, no, gn, L, tg⟩)) = q := ⟨_, rfl⟩
      rw [hqq] at PD e1 e2 e3 e4 e5 e6
      obtain ⟨q1, q2, q3, qn, qL, q5⟩ := qq
      dsimp only at e1 e2 e3 e4 e5 e6
      rw [← HTG.out] at e6
      subst e1 e2 e3 e4 e6
      have HPD := Lib.hid PD
      have HE5 := Lib.hid e5
      clear PD hd0 hqq e5
      go_wp2_with fail
      refine HPD.out.mono ?_
      rintro e w12 ⟨⟨a12, c12, rfl, h121, h122, h123⟩, S12, j12⟩
      have B12 := B11.just j12 (bs_sk B11 (by rw [HLG.out]; omega) S11)
      have L12 := row_just2 L11 j12 (row_sk L11 S11)
      have r12 := j12.own r11 (by omega)
      have b13 := j12.below bx (by omega) hx11
      have hz12 := j12.size
      have hs12 := S12.lt
      unfold Gt.vals
      dsimp only at h121 h123 ⊢
      have K12 : Row w12 a12 (qn * 5) (cv L) := row_cv h123 (fun k hk => HE5.out k hk)
      unfold maxLen at h122
      have hc1263 : (c12 : Int) ≤ 9223372036854775807 := by omega
      have hrb12 := r12.lt
      have ba := (Below.refl w12.heap.size w12).alloc (Nat.le_refl _) (.cells #[.int .i64 (m : Int), .int .i64 q2, .int .u32 q3, .slice a12 qn c12, .int .u32 q5] 28)
      have t13 := Lb.Own.new w12 28 #[.int .i64 (m : Int), .int .i64 q2, .int .u32 q3, .slice a12 qn c12, .int .u32 q5]
      have B13 := B12.below ba
      have L13 := L12.below ba
      have K13 := K12.below ba
      have r13 := below_own ba r12 r12.lt
      have S13 := below_own ba S12 S12.lt
      have b14 := b13.trans (ba.mono (by omega))
      clear HPD B11 S11 L11 r11 bx B12 L12 K12 r12 S12 b13 h123 j12 HE5
      go_upto_region 31 with (fail)
      obtain ⟨rc, hrc⟩ : ∃ g, w12.heap.size = g := ⟨_, rfl⟩
      rw [hrc] at t13 hs12 hz12 hrb12 ⊢
      have hrcs := t13.lt
      generalize w12.alloc (.cells #[.int .i64 (m : Int), .int .i64 q2, .int .u32 q3, .slice a12 qn c12, .int .u32 q5] 28) = w13 at *
      clear ba hrc
      have PD := done_any s m key (0 + 1) q3 false a11 c11 (sealL key (giveB ⟨m, q2, q3, qn, L, q5⟩)) w13 S13 hkey.1 (by rw [HLG.out]; exact lgm) B13 (okB_seal (giveB_may HGM.out))
      have hd7 : doneE m key q3 false (sealL key (giveB ⟨m, q2, q3, qn, L, q5⟩)) = 7 := if_pos rfl
      unfold DnP doneG at PD
      rw [if_neg (by rw [hd7]; decide), hd7, HLG.out] at PD
      have HPD := Lib.hid PD
      clear PD hd7
      go_wp2_with fail
      refine HPD.out.mono ?_
      rintro e w14 ⟨⟨a14, c14, rfl, _, h142, _⟩, _, j14⟩
      have L14 := row_just2 L13 j14 (row_sk L13 S13)
      have K14 := row_just2 K13 j14 (row_sk K13 S13)
      have r14 := j14.own r13 (by omega)
      have t14 := j14.own t13 (by omega)
      have b15 := j14.below b14 (by omega) (by omega)
      have hz14 := j14.size
      unfold giveN Gt.vals
      dsimp only
      unfold maxLen at h142
      have hc1463 : (c14 : Int) ≤ 9223372036854775807 := by omega
      have ba := (Below.refl w14.heap.size w14).alloc (Nat.le_refl _) (.cells #[.int .i64 0, .int .i64 0, .int .u32 0, .slice a14 0 c14, .int .u32 0] 28)
      have L15 := L14.below ba
      have K15 := K14.below ba
      have r15 := below_own ba r14 r14.lt
      have t15 := below_own ba t14 t14.lt
      have b16 := b15.trans (ba.mono (by omega))
      have hzz : g0 ≤ (w14.alloc (.cells #[.int .i64 0, .int .i64 0, .int .u32 0, .slice a14 0 c14, .int .u32 0] 28)).heap.size := by have := ba.size; omega
      clear HPD B13 S13 L13 K13 r13 t13 b14 L14 K14 r14 t14 b15 j14
      go_upto_region 32 with (fail)
      generalize w14.alloc (.cells #[.int .i64 0, .int .i64 0, .int .u32 0, .slice a14 0 c14, .int .u32 0] 28) = w15 at *
      clear ba
      have k0 : w15.cell? ⟨rb, 0, none⟩ = some (.int .i64 (m : Int)) := r15.cell 0
      have k1 : w15.cell? ⟨rb, 1, none⟩ = some (.int .i64 q2) := r15.cell 1
      have k2 : w15.cell? ⟨rb, 2, none⟩ = some (.int .u32 q3) := r15.cell 2
      have k3 : w15.cell? ⟨rb, 3, none⟩ = some (.slice a6 qn c6) := r15.cell 3
      have k4 : w15.cell? ⟨rb, 4, none⟩ = some (.int .u32 q5) := r15.cell 4
      have v0 : w15.cell? ⟨rc, 0, none⟩ = some (.int .i64 (m : Int)) := t15.cell 0
      have v1 : w15.cell? ⟨rc, 1, none⟩ = some (.int .i64 q2) := t15.cell 1
      have v2 : w15.cell? ⟨rc, 2, none⟩ = some (.int .u32 q3) := t15.cell 2
      have v3 : w15.cell? ⟨rc, 3, none⟩ = some (.slice a12 qn c12) := t15.cell 3
      have v4 : w15.cell? ⟨rc, 4, none⟩ = some (.int .u32 q5) := t15.cell 4
      have PS := rsamegrant_any ⟨m, q2, q3, qn, L, q5⟩ a12 a6 c12 c6 w15 h121 h61 (by unfold maxLen; exact h122) (by unfold maxLen; exact h62) K15 L15
      unfold Gt.vals at PS
      dsimp only at PS
      have HPS := Lib.hid PS
      clear PS r15 t15 K15 L15
      go_wp2_with fail
      refine HPS.out.mono ?_
      rintro e w16 ⟨rfl, b17⟩
      have b18 := b16.trans (b17.mono hzz)
      have hz16 := b17.size
      clear k0 k1 k2 k3 k4 v0 v1 v2 v3 v4 HPS b16 b17
      go_wp2_with fail
      refine (awake_join _).mono ?_
      rintro e w17 ⟨rfl, b19⟩
      have b20 := Lib.hid (b18.trans (b19.mono (by omega)))
      clear b18 b19
      go_wp2_with fail
      go_ret
      exact ⟨rfl, by rw [HG0.out]; exact b20.out⟩
    · refine wp_region_grow w9 (Below.refl _ _) [.is (.int .i64 0), .is (.bool false), .is (.bool false), .is (.int .i64 8), .is (.bool false), .is (.bool false), .is (.bool false), .is (.pointer (some ⟨rb, 0, none⟩)), .is (.int .i64 (m : Int)), .is (.int .i64 (m : Int)), .is (.bool false), .is (.bool false), .is (.bool false), .is (.pointer (some ⟨rb, 2, none⟩)), .is (.int .u32 no), .is (.int .u32 no), .is (.bool false), .is (.bool false), .is (.bool false), .is (.pointer (some ⟨rb, 1, none⟩)), .is (.int .i64 cd), .is (.bool true), .is (.slice A n cc), .is (.bool true), .is (.bool false), .is (.bool false), .is (.bool false), .is (.pointer (some ⟨rb, 3, none⟩)), .is (.slice a6 gn c6), .is (.slice A n cc), .is (.slice wA gn wc), .is (.bool true), .is (.bool false), .is (.bool false)] [] (by kernel_rfl) (by kernel_rfl) rfl (by kernel_rfl) ?_
      iterate 23
        refine kd_is (by rfl) (fun z hz K Q hK => ?_) ?_
        · go_big_op
          exact hK _ _ rfl rfl
        simp only [Act.put, List.setIfInBounds_toArray, List.set_cons_zero, List.set_cons_succ]
      refine kd_isc (by rfl) (fun z hz K Q hK => ?_) ?_
      · go_big_op
        refine (HPM.out _ (HZB.out z)).mono ?_
        rintro e w' ⟨rfl, b'⟩
        exact hK _ _ rfl b'
      simp only [Act.put, List.setIfInBounds_toArray, List.set_cons_zero, List.set_cons_succ]
      iterate 6
        refine kd_is (by rfl) (fun z hz K Q hK => ?_) ?_
        · go_big_op
          exact hK _ _ rfl rfl
        simp only [Act.put, List.setIfInBounds_toArray, List.set_cons_zero, List.set_cons_succ]
      refine kd_isc (by rfl) (fun z hz K Q hK => ?_) ?_
      · go_big_op
        refine (HPW.out _ (HZB.out z)).mono ?_
        rintro e w' ⟨rfl, b'⟩
        exact hK _ _ rfl b'
      simp only [Act.put, List.setIfInBounds_toArray, List.set_cons_zero, List.set_cons_succ]
      refine kd_isc (by rfl) (fun z hz K Q hK => ?_) ?_
      · obtain ⟨q1, q2, q3⟩ := HWR.out _ (HZB.out z)
        have PS := rsame_any a6 wA gn c6 wc L z.toW h61 q2 (by unfold maxLen; exact h62) q3 (HZR.out z) q1
        go_big_op
        refine PS.mono ?_
        rintro e w' ⟨rfl, b'⟩
        exact hK _ _ rfl b'
      simp only [Act.put, List.setIfInBounds_toArray, List.set_cons_zero, List.set_cons_succ]
      iterate 2
        refine kd_is (by rfl) (fun z hz K Q hK => ?_) ?_
        · go_big_op
          exact hK _ _ rfl rfl
        simp only [Act.put, List.setIfInBounds_toArray, List.set_cons_zero, List.set_cons_succ]
      refine kd_nil (fun z hz => ?_)
      have bz := HZB.out z
      have Lz := HZR.out z
      have rz := below_own z.ok r9 r9.lt
      have Sz := below_own z.ok S9 S9.lt
      have hzs : g0 ≤ z.toW.heap.size := Nat.le_trans hsz9 z.ok.size
      clear hz d0 d1 d2 d3 HZB HZR HL9 r9 S9 b11 hcd
      generalize z.toW = w10 at *
      have k0 : w10.cell? ⟨rb, 0, none⟩ = some (.int .i64 (m : Int)) := rz.cell 0
      have k1 : w10.cell? ⟨rb, 1, none⟩ = some (.int .i64 cd) := rz.cell 1
      have k2 : w10.cell? ⟨rb, 2, none⟩ = some (.int .u32 no) := rz.cell 2
      have k3 : w10.cell? ⟨rb, 3, none⟩ = some (.slice a6 gn c6) := rz.cell 3
      have k4 : w10.cell? ⟨rb, 4, none⟩ = some (.int .u32 tg) := rz.cell 4
      have hin : In32 no := by unfold In32; omega
      have PG := give_any key ⟨m, cd, no, gn, L, tg⟩ a6 c6 w10 hkey.1 hin h61 (by unfold maxLen; exact h62) Lz
      obtain ⟨hO, hC⟩ := give_yes (key := key) HGM.out
      have hlG : (sealL key (giveB ⟨m, cd, no, gn, L, tg⟩)).length = 8 + 5 * gn + 4 := (sealL_len _ _).trans (congrArg (· + 4) (giveB_len _))
      obtain ⟨lg, hlg⟩ : ∃ lg : Nat, 8 + 5 * gn + 4 = lg := ⟨_, rfl⟩
      rw [hO, hC, hlG, hlg] at PG
      unfold Gt.vals at PG
      dsimp only at PG
      have HPG := Lib.hid PG
      have HLG := Lib.hid (hlG.trans hlg)
      have HIN := Lib.hid hin
      have lg12 : 12 ≤ lg := by omega
      have lg63 : (lg : Int) ≤ 9223372036854775807 := by omega
      have lgd : decide (lg < 12) = false := by simp; omega
      have lgd' : decide ((lg : Int) < 12) = false := by simp; omega
      have lgm : lg ≤ 1000 := by omega
      clear PG hO hC hlG hlg hin
      go_wp2_with fail
      refine HPG.out.mono ?_
      rintro e w11 ⟨a11, c11, rfl, B11, b12⟩
      have L11 := Lz.below b12
      have r11 := below_own b12 rz rz.lt
      have S11 := below_own b12 Sz Sz.lt
      have bx := bz.trans (b12.mono hzs)
      have hx11 : g0 ≤ w11.heap.size := Nat.le_trans hzs b12.size
      have hle11 := B11.le
      have hca11 := B11.cap
      rw [HLG.out] at hle11
      unfold maxLen at hca11
      have hc1163 : (c11 : Int) ≤ 9223372036854775807 := by omega
      clear k0 k1 k2 k3 k4 HPG Lz rz Sz bz b12 hzs

      have PD := done_any s m key (0 + 1) no true a11 c11 (sealL key (giveB ⟨m, cd, no, gn, L, tg⟩)) w11 S11 hkey.1 (by rw [HLG.out]; exact lgm) B11 (okB_seal (giveB_may HGM.out))
      have hd0 : doneE m key no true (sealL key (giveB ⟨m, cd, no, gn, L, tg⟩)) = 0 := doneE_ok HGM.out HIN.out rfl rfl
      obtain ⟨_, e1, e2, e3, e4, e5, e6⟩ := give_back (key := key) HGM.out HIN.out
      unfold DnP doneG at PD
      rw [if_pos hd0, if_pos hd0, hd0, HLG.out] at PD
      obtain ⟨qq, hqq⟩ : ∃ q, giveR (sealL key (giveB ⟨m, cd, no, gn, L, tg⟩)) = q := ⟨_, rfl⟩
      rw [hqq] at PD e1 e2 e3 e4 e5 e6
      obtain ⟨q1, q2, q3, qn, qL, q5⟩ := qq
      dsimp only at e1 e2 e3 e4 e5 e6
      rw [← HTG.out] at e6
      subst e1 e2 e3 e4 e6
      have HPD := Lib.hid PD
      have HE5 := Lib.hid e5
      clear PD hd0 hqq e5
      go_wp2_with fail
      refine HPD.out.mono ?_
      rintro e w12 ⟨⟨a12, c12, rfl, h121, h122, h123⟩, S12, j12⟩
      have B12 := B11.just j12 (bs_sk B11 (by rw [HLG.out]; omega) S11)
      have L12 := row_just2 L11 j12 (row_sk L11 S11)
      have r12 := j12.own r11 (by omega)
      have b13 := j12.below bx (by omega) hx11
      have hz12 := j12.size
      have hs12 := S12.lt
      unfold Gt.vals
      dsimp only at h121 h123 ⊢
      have K12 : Row w12 a12 (qn * 5) (cv L) := row_cv h123 (fun k hk => HE5.out k hk)
      unfold maxLen at h122
      have hc1263 : (c12 : Int) ≤ 9223372036854775807 := by omega
      have hrb12 := r12.lt
      have ba := (Below.refl w12.heap.size w12).alloc (Nat.le_refl _) (.cells #[.int .i64 (m : Int), .int .i64 q2, .int .u32 q3, .slice a12 qn c12, .int .u32 q5] 28)
      have t13 := Lb.Own.new w12 28 #[.int .i64 (m : Int), .int .i64 q2, .int .u32 q3, .slice a12 qn c12, .int .u32 q5]
      have B13 := B12.below ba
      have L13 := L12.below ba
      have K13 := K12.below ba
      have r13 := below_own ba r12 r12.lt
      have S13 := below_own ba S12 S12.lt
      have b14 := b13.trans (ba.mono (by omega))
      clear HPD B11 S11 L11 r11 bx B12 L12 K12 r12 S12 b13 h123 j12 HE5
      go_upto_region 31 with (fail)
      obtain ⟨rc, hrc⟩ : ∃ g, w12.heap.size = g := ⟨_, rfl⟩
      rw [hrc] at t13 hs12 hz12 hrb12 ⊢
      have hrcs := t13.lt
      generalize w12.alloc (.cells #[.int .i64 (m : Int), .int .i64 q2, .int .u32 q3, .slice a12 qn c12, .int .u32 q5] 28) = w13 at *
      clear ba hrc
      have PD := done_any s m key (0 + 1) q3 false a11 c11 (sealL key (giveB ⟨m, q2, q3, qn, L, q5⟩)) w13 S13 hkey.1 (by rw [HLG.out]; exact lgm) B13 (okB_seal (giveB_may HGM.out))
      have hd7 : doneE m key q3 false (sealL key (giveB ⟨m, q2, q3, qn, L, q5⟩)) = 7 := if_pos rfl
      unfold DnP doneG at PD
      rw [if_neg (by rw [hd7]; decide), hd7, HLG.out] at PD
      have HPD := Lib.hid PD
      clear PD hd7
      go_wp2_with fail
      refine HPD.out.mono ?_
      rintro e w14 ⟨⟨a14, c14, rfl, _, h142, _⟩, _, j14⟩
      have L14 := row_just2 L13 j14 (row_sk L13 S13)
      have K14 := row_just2 K13 j14 (row_sk K13 S13)
      have r14 := j14.own r13 (by omega)
      have t14 := j14.own t13 (by omega)
      have b15 := j14.below b14 (by omega) (by omega)
      have hz14 := j14.size
      unfold giveN Gt.vals
      dsimp only
      unfold maxLen at h142
      have hc1463 : (c14 : Int) ≤ 9223372036854775807 := by omega
      have ba := (Below.refl w14.heap.size w14).alloc (Nat.le_refl _) (.cells #[.int .i64 0, .int .i64 0, .int .u32 0, .slice a14 0 c14, .int .u32 0] 28)
      have L15 := L14.below ba
      have K15 := K14.below ba
      have r15 := below_own ba r14 r14.lt
      have t15 := below_own ba t14 t14.lt
      have b16 := b15.trans (ba.mono (by omega))
      have hzz : g0 ≤ (w14.alloc (.cells #[.int .i64 0, .int .i64 0, .int .u32 0, .slice a14 0 c14, .int .u32 0] 28)).heap.size := by have := ba.size; omega
      clear HPD B13 S13 L13 K13 r13 t13 b14 L14 K14 r14 t14 b15 j14
      go_upto_region 32 with (fail)
      generalize w14.alloc (.cells #[.int .i64 0, .int .i64 0, .int .u32 0, .slice a14 0 c14, .int .u32 0] 28) = w15 at *
      clear ba
      have k0 : w15.cell? ⟨rb, 0, none⟩ = some (.int .i64 (m : Int)) := r15.cell 0
      have k1 : w15.cell? ⟨rb, 1, none⟩ = some (.int .i64 q2) := r15.cell 1
      have k2 : w15.cell? ⟨rb, 2, none⟩ = some (.int .u32 q3) := r15.cell 2
      have k3 : w15.cell? ⟨rb, 3, none⟩ = some (.slice a6 qn c6) := r15.cell 3
      have k4 : w15.cell? ⟨rb, 4, none⟩ = some (.int .u32 q5) := r15.cell 4
      have v0 : w15.cell? ⟨rc, 0, none⟩ = some (.int .i64 (m : Int)) := t15.cell 0
      have v1 : w15.cell? ⟨rc, 1, none⟩ = some (.int .i64 q2) := t15.cell 1
      have v2 : w15.cell? ⟨rc, 2, none⟩ = some (.int .u32 q3) := t15.cell 2
      have v3 : w15.cell? ⟨rc, 3, none⟩ = some (.slice a12 qn c12) := t15.cell 3
      have v4 : w15.cell? ⟨rc, 4, none⟩ = some (.int .u32 q5) := t15.cell 4
      have PS := rsamegrant_any ⟨m, q2, q3, qn, L, q5⟩ a12 a6 c12 c6 w15 h121 h61 (by unfold maxLen; exact h122) (by unfold maxLen; exact h62) K15 L15
      unfold Gt.vals at PS
      dsimp only at PS
      have HPS := Lib.hid PS
      clear PS r15 t15 K15 L15
      go_wp2_with fail
      refine HPS.out.mono ?_
      rintro e w16 ⟨rfl, b17⟩
      have b18 := b16.trans (b17.mono hzz)
      have hz16 := b17.size
      clear k0 k1 k2 k3 k4 v0 v1 v2 v3 v4 HPS b16 b17
      go_wp2_with fail
      refine (awake_join _).mono ?_
      rintro e w17 ⟨rfl, b19⟩
      have b20 := Lib.hid (b18.trans (b19.mono (by omega)))
      clear b18 b19
      go_wp2_with fail
      go_ret
      exact ⟨rfl, by rw [HG0.out]; exact b20.out⟩
  · have x0 : (x != 0) = true := by simpa using hx0
    obtain ⟨R, hR⟩ : ∃ R, IntKind.u64.wrap at_ = R := ⟨_, rfl⟩
    have rr : 0 ≤ R ∧ R < 18446744073709551616 := by rw [← hR, IntKind.wrap_u64]; omega
    obtain ⟨i, hI⟩ : ∃ i : Nat, R % 15 = (i : Int) := ⟨(R % 15).toNat, by omega⟩
    have hi15 : i < 15 := by omega
    have hRI := Lib.hid hR
    have HX0 := Lib.hid hx0
    have hrr := Lib.hid rr
    obtain ⟨j0, hj0, hjz0, hjz1, hjz2⟩ := info_parts infoBB
    obtain ⟨vv, hvv⟩ : ∃ v, bits .xor .u8 ((sealL key (askB (skR m p no 0))).getD i 0) x = v := ⟨_, rfl⟩
    have hxb := xor_bent (okB_at (okB_seal (key := key) HOK.out) i) hx hx0
    rw [hvv] at hxb
    obtain ⟨hv01, hvne⟩ := hxb
    have HV1 := Lib.hid hv01
    have HVN := Lib.hid hvne
    have HVV := Lib.hid hvv
    have y0 := Mine.made (base := w5.heap.size) (n := 0) (V := bval []) (Lb.Own.new w5 5 #[]) (Nat.le_refl _) (by decide) (Nat.le_refl _) (fun i hi => absurd hi (by omega))
    have ya := (Below.refl w5.heap.size w5).alloc (Nat.le_refl _) (.cells #[] 5)
    have ys : w5.heap.size ≤ (w5.alloc (.cells #[] 5)).heap.size := ya.size
    have yr := (B5.below ya).row
    rw [HL15.out] at yr
    have HY := Lib.hid y0
    have HNM0 := Lib.hid (show 0 + 15 ≤ maxLen by decide)
    clear hv01 hvne hvv y0 hx0
    go_wp2_with (at_builtin; go_must (refine wp_app_at rfl (.tmp 91) (.tmp 92) _ rfl w5.heap.size 5 j0 _ 1 Try.underlying30 hj0 hjz0 hjz1 hjz2 rfl _ 0 (bval []) rfl HY.out _ 15 _ (bval (sealL key (askB (skR m p no 0)))) rfl yr (fun _ _ => rfl) HNM0.out ?c2 ys ?_))
    case c2 => omega
    intro v' w6 mm gg _
    have mm : Mine w6 w5.heap.size 5 v' 15 (bval (sealL key (askB (skR m p no 0)))) := mm.ext (fun i hi => by first | rfl | (rw [if_neg (by omega)]; rfl))
    obtain ⟨gb, cb, rfl⟩ := Bf.mine_form mm (by decide)
    have bm : Below w5.heap.size w5 w6 := ya.grown gg ys (fun q hq => (HY.out.lt q hq).1)
    obtain ⟨z1, z2, z3, z4⟩ := mm.at_ hi15
    unfold bval at z3
    obtain ⟨li, hli⟩ : ∃ v, (sealL key (askB (skR m p no 0))).getD i 0 = v := ⟨_, rfl⟩
    have HLI := Lib.hid hli
    rw [hli] at z3
    have hvx : bits .xor .u8 li x = vv := by rw [← hli]; exact HVV.out
    have hset : ∀ k, k < 15 → (if k = i then Value.int .u8 vv else bval (sealL key (askB (skR m p no 0))) k) = bval ((sealL key (askB (skR m p no 0))).set i vv) k := fun k hk => by
      unfold bval
      rw [getD_setL]
      by_cases h : k = i
      · rw [if_pos h, if_pos ⟨h.symm, by rw [HL15.out]; exact hk⟩]
      · rw [if_neg h, if_neg (fun e => h e.1.symm)]
    have mm2 := (mm.store hi15 (.int .u8 vv)).ext hset
    have bm2 : Below w5.heap.size w5 (w6.setCell ⟨gb, i, none⟩ (.int .u8 vv)) := bm.setCell z1 _
    obtain ⟨l1, hl1⟩ : ∃ l, (sealL key (askB (skR m p no 0))).set i vv = l := ⟨_, rfl⟩
    have hl1n : l1.length = 15 := by rw [← hl1, List.length_set]; exact HL15.out
    have hl1k : okB l1 := by rw [← hl1]; exact okB_set (okB_seal HOK.out) i HV1.out
    rw [hl1] at mm2
    have HM2 := Lib.hid mm2
    have HB2 := Lib.hid bm2
    have HLK := Lib.hid hl1k
    have HLN := Lib.hid hl1n
    have hts : ∀ N : Nat → Int, takeE 16 (K16 m key) N l1 = 0 → l1.getD 1 0 ≠ (m : Int) ∧ takeN 16 (K16 m key) N l1 m = N m := fun N h => by
      rw [← hl1] at h ⊢
      have := take_bent (r := skR m p no 0) (me := (m : Int)) (by omega) (by rw [Int.toNat_natCast]; exact HKM.out) HOK.out hi15 HV1.out HVN.out h
      rwa [Int.toNat_natCast] at this
    have HTS := Lib.hid hts
    clear gg mm hset mm2 bm2 hl1 hl1k hl1n hli yr ya ys hts
    clear z1
    go_upto_region 14 with (fail)
    clear hR rr hI
    have hg5 : g0 ≤ w5.heap.size := by omega
    have Da : Dk _ d (16 : Nat) (K16 m key) (fun _ => 0) := below_blk HB2.out D5 (Blk.lt D5)
    have Sa := below_own HB2.out S5 S5.lt
    have Ba := B5.below HB2.out
    have ba := b7.trans (HB2.out.mono hg5)
    have Ma := HM2.out
    have hdl5 := Blk.lt D5
    have hsa : w5.heap.size ≤ (w6.setCell ⟨gb, i, none⟩ (.int .u8 vv)).heap.size := HB2.out.size
    clear D5 S5 B5 b7 bm HM2 HB2 HY
    generalize w6.setCell ⟨gb, i, none⟩ (.int .u8 vv) = wa at *
    have BBa : Bs wa (some ⟨gb, 0, none⟩) cb l1 := by
      obtain ⟨x1, x2, x3, x4, x5, x6⟩ := Ma.row
      injection x3 with x3 _ x7
      subst x3 x7
      rw [← HLN.out] at x4 x6
      exact ⟨x4, x5, x6⟩
    have hcab := BBa.cap
    have hleb := BBa.le
    rw [HLN.out] at hleb
    unfold maxLen at hcab
    have hcb63 : (cb : Int) ≤ 9223372036854775807 := by omega
    have PT := HT1.out wa (fun _ => 0) (some ⟨gb, 0, none⟩) cb l1 Da BBa HLK.out HLN.out ba
    have hts := HTS.out (fun _ => 0)
    have hnz : takeE 16 (K16 m key) (fun _ => 0) l1 ≠ 0 → takeN 16 (K16 m key) (fun _ => 0) l1 = fun _ => 0 := fun h => by unfold takeN; rw [if_neg h]
    unfold TkP at PT
    obtain ⟨E, hE⟩ : ∃ e, takeE 16 (K16 m key) (fun _ => 0) l1 = e := ⟨_, rfl⟩
    obtain ⟨GG, hGG⟩ : ∃ e, takeG 16 (K16 m key) (fun _ => 0) l1 L n = e := ⟨_, rfl⟩
    obtain ⟨N1, hN1⟩ : ∃ e, takeN 16 (K16 m key) (fun _ => 0) l1 = e := ⟨_, rfl⟩
    rw [hE, hGG, hN1] at PT
    rw [hE, hN1] at hts hnz
    have hN10 : N1 m = 0 := by
      by_cases h : E = 0
      · exact (hts h).2
      · rw [hnz h]
    have hEy : E = 0 → l1.getD 1 0 ≠ (m : Int) := fun h => (hts h).1
    obtain ⟨y1, y2, y3, yn, yL, y5⟩ := GG
    have HPT := Lib.hid PT
    have HEY := Lib.hid hEy
    have HN10 := Lib.hid hN10
    clear PT hE hGG hN1 hts hnz hN10 hEy HTS
    go_wp2_with fail
    refine HPT.out.mono ?_
    rintro e wb ⟨⟨ab, cb2, rfl, hb1, hb2, _⟩, Db, jb⟩
    have Bb := Ba.just jb (bs_dk Ba (by rw [HL15.out]; decide) Da)
    have Sb := jb.own Sa (by omega)
    have Mb := Ma.just jb hdl5
    have bb := jb.below ba (by omega) (by omega)
    have hsb := jb.size
    clear HPT Da Sa Ba ba Ma BBa jb
    unfold Gt.vals
    dsimp only at hb1 ⊢
    unfold maxLen at hb2
    have hcb263 : (cb2 : Int) ≤ 9223372036854775807 := by omega
    have hyn63 : (yn : Int) ≤ 9223372036854775807 := by omega
    have bA := (Below.refl wb.heap.size wb).alloc (Nat.le_refl _) (.cells #[.int .i64 y1, .int .i64 y2, .int .u32 y3, .slice ab yn cb2, .int .u32 y5] 28)
    have D5 : Dk _ d (16 : Nat) (K16 m key) N1 := below_blk bA Db (Blk.lt Db)
    have S5 := below_own bA Sb Sb.lt
    have B5 := Bb.below bA
    have b7 := bb.trans (bA.mono (by omega))
    have Mc := Mb.alloc (.cells #[.int .i64 y1, .int .i64 y2, .int .u32 y3, .slice ab yn cb2, .int .u32 y5] 28)
    have hsc := bA.size
    clear Db Sb Bb bb Mb
    go_upto_region 15 with (fail)
    generalize wb.alloc (.cells #[.int .i64 y1, .int .i64 y2, .int .u32 y3, .slice ab yn cb2, .int .u32 y5] 28) = w5x at *
    obtain ⟨z5, z6, z7, z8⟩ := Mc.at_ (j := 1) (by decide)
    unfold bval at z7
    have hyb := okB_at HLK.out 1
    obtain ⟨yy, hyy⟩ : ∃ v, l1.getD 1 0 = v := ⟨_, rfl⟩
    rw [hyy] at z7 hyb
    have HYY := Lib.hid hyy
    obtain ⟨yb0, yb1⟩ := hyb
    clear bA z8 hyy Mc
    by_cases hE0 : E = 0
    · have g1 : (E == 0) = true := by simpa using hE0
      have g2 : ((m : Int) == yy) = false := by
        have := HEY.out hE0
        rw [HYY.out] at this
        exact beq_eq_false_iff_ne.2 (fun e => this e.symm)
      clear hE0
      go_upto_region 17 with (fail)
      clear z5 z6 z7 g1 g2 yb0 yb1
      have PT := HT1.out w5x N1 a5 c5 _ D5 B5 (okB_seal HOK.out) HL15.out b7
      obtain ⟨ta0, ta1, ta2⟩ := HTA.out N1 HN10.out
      unfold TkP at PT
      rw [ta0, ta1, ta2] at PT
      have HPT := Lib.hid PT
      clear PT ta0 ta1 ta2
      have hds : d ≠ s := by omega
      go_wp2_with fail
      refine HPT.out.mono ?_
      rintro e w6 ⟨⟨a6, c6, rfl, h61, h62, h63⟩, D6, j6⟩
      have B6 := B5.just j6 (bs_dk B5 (by rw [HL15.out]; decide) D5)
      have S6 := j6.own S5 (by omega)
      have b8 := j6.below b7 (by omega) (by have := Blk.lt D5; omega)
      have hd6 := Blk.lt D6
      have hs6 := Own.lt S6
      clear HPT D5 S5 B5 b7 j6
      unfold Gt.vals
      dsimp only at h61 h63 ⊢
      unfold maxLen at h62
      have hc663 : (c6 : Int) ≤ 9223372036854775807 := by omega
      have hg63 : (gn : Int) ≤ 9223372036854775807 := by omega
      have ba := (Below.refl w6.heap.size w6).alloc (Nat.le_refl _) (.cells #[.int .i64 (m : Int), .int .i64 cd, .int .u32 no, .slice a6 gn c6, .int .u32 tg] 28)
      have r7 := Lb.Own.new w6 28 #[.int .i64 (m : Int), .int .i64 cd, .int .u32 no, .slice a6 gn c6, .int .u32 tg]
      have D7 : Dk _ d (16 : Nat) (K16 m key) _ := below_blk ba D6 hd6
      have S7 : Sk _ s _ _ _ _ _ := below_own ba S6 hs6
      have B7 := B6.below ba
      have L7 := h63.below ba
      have b9 := b8.trans (ba.mono (by omega))
      have hbs6 : d < w6.heap.size := hd6
      clear D6 S6 B6 h63 b8
      go_upto_region 18 with (fail)
      obtain ⟨rb, hrb⟩ : ∃ g, w6.heap.size = g := ⟨_, rfl⟩
      rw [hrb] at r7 hbs6 hs6 ⊢
      have hrs : rb < (w6.alloc (.cells #[.int .i64 (m : Int), .int .i64 cd, .int .u32 no, .slice a6 gn c6, .int .u32 tg] 28)).heap.size := r7.lt
      generalize w6.alloc (.cells #[.int .i64 (m : Int), .int .i64 cd, .int .u32 no, .slice a6 gn c6, .int .u32 tg] 28) = w7 at *
      clear ba hrb
      have PT := HT1.out w7 _ a5 c5 _ D7 B7 (okB_seal HOK.out) HL15.out b9
      have tb := HTB.out N1
      have tg0 : takeG 16 (K16 m key) (setN N1 m 1) (sealL key (askB (skR m p no 0))) L n = giveN := by unfold takeG; rw [if_neg (by rw [tb]; decide)]
      unfold TkP at PT
      rw [tb, tg0] at PT
      have HPT := Lib.hid PT
      clear PT tb tg0
      go_wp2_with fail
      refine HPT.out.mono ?_
      rintro e w8 ⟨⟨a8, c8, rfl, _, h82, _⟩, _, j8⟩
      have r8 := j8.own r7 (by omega)
      have S8 := j8.own S7 (by omega)
      have L8 : Row w8 a6 (gn * 5) (cv L) := row_just2 L7 j8 (row_dk L7 D7)
      have b10 := j8.below b9 (by omega) (by omega)
      have hs8 := j8.size
      clear HPT D7 S7 B7 L7 r7 b9 j8
      unfold giveN Gt.vals
      dsimp only
      unfold maxLen at h82
      have hc863 : (c8 : Int) ≤ 9223372036854775807 := by omega
      have ba := (Below.refl w8.heap.size w8).alloc (Nat.le_refl _) (.cells #[.int .i64 0, .int .i64 0, .int .u32 0, .slice a8 0 c8, .int .u32 0] 28)
      have r9 := below_own ba r8 r8.lt
      have S9 := below_own ba S8 S8.lt
      have L9 := L8.below ba
      have b11 := b10.trans (ba.mono (by omega))
      have hsz9 : g0 ≤ (w8.alloc (.cells #[.int .i64 0, .int .i64 0, .int .u32 0, .slice a8 0 c8, .int .u32 0] 28)).heap.size := by have := ba.size; omega
      clear r8 S8 L8 b10
      go_upto_region 19 with (fail)
      generalize w8.alloc (.cells #[.int .i64 0, .int .i64 0, .int .u32 0, .slice a8 0 c8, .int .u32 0] 28) = w9 at *
      clear ba
      have c0 : w9.cell? ⟨rb, 0, none⟩ = some (.int .i64 (m : Int)) := r9.cell 0
      have c1 : w9.cell? ⟨rb, 1, none⟩ = some (.int .i64 cd) := r9.cell 1
      have c2 : w9.cell? ⟨rb, 2, none⟩ = some (.int .u32 no) := r9.cell 2
      have c3 : w9.cell? ⟨rb, 3, none⟩ = some (.slice a6 gn c6) := r9.cell 3
      have d0 : ∀ z : Gw w9, z.toW.cell? ⟨rb, 0, none⟩ = some (.int .i64 (m : Int)) := fun z => (z.ok.cell (lt_of_cell c0)).trans c0
      have d1 : ∀ z : Gw w9, z.toW.cell? ⟨rb, 1, none⟩ = some (.int .i64 cd) := fun z => (z.ok.cell (lt_of_cell c1)).trans c1
      have d2 : ∀ z : Gw w9, z.toW.cell? ⟨rb, 2, none⟩ = some (.int .u32 no) := fun z => (z.ok.cell (lt_of_cell c2)).trans c2
      have d3 : ∀ z : Gw w9, z.toW.cell? ⟨rb, 3, none⟩ = some (.slice a6 gn c6) := fun z => (z.ok.cell (lt_of_cell c3)).trans c3
      have zb : ∀ z : Gw w9, Below g0 w z.toW := fun z => b11.trans (z.ok.mono hsz9)
      have zr : ∀ z : Gw w9, Row z.toW a6 (gn * 5) (cv L) := fun z => L9.below z.ok
      clear c0 c1 c2 c3
      have HZB := Lib.hid zb
      have HZR := Lib.hid zr
      have HL9 := Lib.hid L9
      clear zb zr L9
      cases mv
      · refine wp_region_grow w9 (Below.refl _ _) [.is (.int .i64 0), .is (.bool false), .is (.bool false), .is (.int .i64 8), .is (.bool false), .is (.bool false), .is (.bool false), .is (.pointer (some ⟨rb, 0, none⟩)), .is (.int .i64 (m : Int)), .is (.int .i64 (m : Int)), .is (.bool false), .is (.bool false), .is (.bool false), .is (.pointer (some ⟨rb, 2, none⟩)), .is (.int .u32 no), .is (.int .u32 no), .is (.bool false), .is (.bool false), .is (.bool false), .is (.pointer (some ⟨rb, 1, none⟩)), .is (.int .i64 cd), .is (.bool false), .is (.slice A n cc), .is (.bool false), .is (.bool false), .is (.bool false), .is (.bool false), .is (.pointer (some ⟨rb, 3, none⟩)), .is (.slice a6 gn c6), .is (.slice A n cc), .is (.slice wA gn wc), .is (.bool true), .is (.bool false), .is (.bool false)] [] (by kernel_rfl) (by kernel_rfl) rfl (by kernel_rfl) ?_
        iterate 23
          refine kd_is (by rfl) (fun z hz K Q hK => ?_) ?_
          · go_big_op
            exact hK _ _ rfl rfl
          simp only [Act.put, List.setIfInBounds_toArray, List.set_cons_zero, List.set_cons_succ]
        refine kd_isc (by rfl) (fun z hz K Q hK => ?_) ?_
        · go_big_op
          refine (HPM.out _ (HZB.out z)).mono ?_
          rintro e w' ⟨rfl, b'⟩
          exact hK _ _ rfl b'
        simp only [Act.put, List.setIfInBounds_toArray, List.set_cons_zero, List.set_cons_succ]
        iterate 6
          refine kd_is (by rfl) (fun z hz K Q hK => ?_) ?_
          · go_big_op
            exact hK _ _ rfl rfl
          simp only [Act.put, List.setIfInBounds_toArray, List.set_cons_zero, List.set_cons_succ]
        refine kd_isc (by rfl) (fun z hz K Q hK => ?_) ?_
        · go_big_op
          refine (HPW.out _ (HZB.out z)).mono ?_
          rintro e w' ⟨rfl, b'⟩
          exact hK _ _ rfl b'
        simp only [Act.put, List.setIfInBounds_toArray, List.set_cons_zero, List.set_cons_succ]
        refine kd_isc (by rfl) (fun z hz K Q hK => ?_) ?_
        · obtain ⟨q1, q2, q3⟩ := HWR.out _ (HZB.out z)
          have PS := rsame_any a6 wA gn c6 wc L z.toW h61 q2 (by unfold maxLen; exact h62) q3 (HZR.out z) q1
          go_big_op
          refine PS.mono ?_
          rintro e w' ⟨rfl, b'⟩
          exact hK _ _ rfl b'
        simp only [Act.put, List.setIfInBounds_toArray, List.set_cons_zero, List.set_cons_succ]
        iterate 2
          refine kd_is (by rfl) (fun z hz K Q hK => ?_) ?_
          · go_big_op
            exact hK _ _ rfl rfl
          simp only [Act.put, List.setIfInBounds_toArray, List.set_cons_zero, List.set_cons_succ]
        refine kd_nil (fun z hz => ?_)
        have bz := HZB.out z
        have Lz := HZR.out z
        have rz := below_own z.ok r9 r9.lt
        have Sz := below_own z.ok S9 S9.lt
        have hzs : g0 ≤ z.toW.heap.size := Nat.le_trans hsz9 z.ok.size
        clear hz d0 d1 d2 d3 HZB HZR HL9 r9 S9 b11 hcd
        generalize z.toW = w10 at *
        have k0 : w10.cell? ⟨rb, 0, none⟩ = some (.int .i64 (m : Int)) := rz.cell 0
        have k1 : w10.cell? ⟨rb, 1, none⟩ = some (.int .i64 cd) := rz.cell 1
        have k2 : w10.cell? ⟨rb, 2, none⟩ = some (.int .u32 no) := rz.cell 2
        have k3 : w10.cell? ⟨rb, 3, none⟩ = some (.slice a6 gn c6) := rz.cell 3
        have k4 : w10.cell? ⟨rb, 4, none⟩ = some (.int .u32 tg) := rz.cell 4
        have hin : In32 no := by unfold In32; omega
        have PG := give_any key ⟨m, cd, no, gn, L, tg⟩ a6 c6 w10 hkey.1 hin h61 (by unfold maxLen; exact h62) Lz
        obtain ⟨hO, hC⟩ := give_yes (key := key) HGM.out
        have hlG : (sealL key (giveB ⟨m, cd, no, gn, L, tg⟩)).length = 8 + 5 * gn + 4 := (sealL_len _ _).trans (congrArg (· + 4) (giveB_len _))
        obtain ⟨lg, hlg⟩ : ∃ lg : Nat, 8 + 5 * gn + 4 = lg := ⟨_, rfl⟩
        rw [hO, hC, hlG, hlg] at PG
        unfold Gt.vals at PG
        dsimp only at PG
        have HPG := Lib.hid PG
        have HLG := Lib.hid (hlG.trans hlg)
        have HIN := Lib.hid hin
        have lg12 : 12 ≤ lg := by omega
        have lg63 : (lg : Int) ≤ 9223372036854775807 := by omega
        have lgd : decide (lg < 12) = false := by simp; omega
        have lgd' : decide ((lg : Int) < 12) = false := by simp; omega
        have lgm : lg ≤ 1000 := by omega
        clear PG hO hC hlG hlg hin
        go_wp2_with fail
        refine HPG.out.mono ?_
        rintro e w11 ⟨a11, c11, rfl, B11, b12⟩
        have L11 := Lz.below b12
        have r11 := below_own b12 rz rz.lt
        have S11 := below_own b12 Sz Sz.lt
        have bx := bz.trans (b12.mono hzs)
        have hx11 : g0 ≤ w11.heap.size := Nat.le_trans hzs b12.size
        have hle11 := B11.le
        have hca11 := B11.cap
        rw [HLG.out] at hle11
        unfold maxLen at hca11
        have hc1163 : (c11 : Int) ≤ 9223372036854775807 := by omega
        clear k0 k1 k2 k3 k4 HPG Lz rz Sz bz b12 hzs
        have hR := hRI.out
        have rr := hrr.out
        obtain ⟨i2, hI2⟩ : ∃ i : Nat, R % (lg : Int) = (i : Int) := ⟨(R % (lg : Int)).toNat, by
          have := Int.emod_nonneg R (show (lg : Int) ≠ 0 by omega)
          omega⟩
        have hi2 : i2 < lg := by
          have := Int.emod_lt_of_pos R (show 0 < (lg : Int) by omega)
          omega
        have ulg : IntKind.u64.wrap (lg : Int) = (lg : Int) := by rw [IntKind.wrap_u64]; omega
        have lgz : ((lg : Int) == 0) = false := by simp; omega
        have lgz' : (lg == 0) = false := by simp; omega
        have lgn : lg ≠ 0 := by omega
        have lgn' : (lg : Int) ≠ 0 := by omega
        have hokG := okB_seal (key := key) (giveB_may HGM.out)
        have HOG := Lib.hid hokG
        obtain ⟨v2, hv2⟩ : ∃ v, bits .xor .u8 ((sealL key (giveB ⟨m, cd, no, gn, L, tg⟩)).getD i2 0) x = v := ⟨_, rfl⟩
        have hxb2 := xor_bent (okB_at hokG i2) hx HX0.out
        rw [hv2] at hxb2
        obtain ⟨hv201, hv2ne⟩ := hxb2
        have HV21 := Lib.hid hv201
        have HV2N := Lib.hid hv2ne
        have HV2V := Lib.hid hv2
        have y0 := Mine.made (base := w11.heap.size) (n := 0) (V := bval []) (Lb.Own.new w11 5 #[]) (Nat.le_refl _) (by decide) (Nat.le_refl _) (fun i hi => absurd hi (by omega))
        have ya := (Below.refl w11.heap.size w11).alloc (Nat.le_refl _) (.cells #[] 5)
        have ys : w11.heap.size ≤ (w11.alloc (.cells #[] 5)).heap.size := ya.size
        have yr := (B11.below ya).row
        rw [HLG.out] at yr
        have HY := Lib.hid y0
        have HNM2 := Lib.hid (show 0 + lg ≤ maxLen by unfold maxLen; omega)
        clear hv201 hv2ne hv2 y0 hokG
        go_wp2_with (at_builtin; go_must (refine wp_app_at rfl (.tmp 184) (.tmp 185) _ rfl w11.heap.size 5 j0 _ 1 Try.underlying30 hj0 hjz0 hjz1 hjz2 rfl _ 0 (bval []) rfl HY.out _ lg _ (bval (sealL key (giveB ⟨m, cd, no, gn, L, tg⟩))) rfl yr (fun _ _ => rfl) HNM2.out ?c2 ys ?_))
        case c2 => omega
        intro v2' w12 mm gg _
        have mm : Mine w12 w11.heap.size 5 v2' lg (bval (sealL key (giveB ⟨m, cd, no, gn, L, tg⟩))) := mm
        obtain ⟨gc, cc2, rfl⟩ := Bf.mine_form mm (by omega)
        have bm : Below w11.heap.size w11 w12 := ya.grown gg ys (fun q hq => (HY.out.lt q hq).1)
        obtain ⟨z1, z2, z3, z4⟩ := mm.at_ hi2
        unfold bval at z3
        obtain ⟨li2, hli2⟩ : ∃ v, (sealL key (giveB ⟨m, cd, no, gn, L, tg⟩)).getD i2 0 = v := ⟨_, rfl⟩
        rw [hli2] at z3
        have hvx2 : bits .xor .u8 li2 x = v2 := by rw [← hli2]; exact HV2V.out
        have hset : ∀ k, k < lg → (if k = i2 then Value.int .u8 v2 else bval (sealL key (giveB ⟨m, cd, no, gn, L, tg⟩)) k) = bval ((sealL key (giveB ⟨m, cd, no, gn, L, tg⟩)).set i2 v2) k := fun k hk => by
          unfold bval
          rw [getD_setL]
          by_cases h : k = i2
          · rw [if_pos h, if_pos ⟨h.symm, by rw [HLG.out]; exact hk⟩]
          · rw [if_neg h, if_neg (fun e => h e.1.symm)]
        have mm2 := (mm.store hi2 (.int .u8 v2)).ext hset
        have bm2 : Below w11.heap.size w11 (w12.setCell ⟨gc, i2, none⟩ (.int .u8 v2)) := bm.setCell z1 _
        have hdb : doneE m key no true ((sealL key (giveB ⟨m, cd, no, gn, L, tg⟩)).set i2 v2) ≠ 0 := done_bent (giveB_may HGM.out) (by rw [HLG.out]; exact hi2) HV21.out HV2N.out
        obtain ⟨l2, hl2⟩ : ∃ l, (sealL key (giveB ⟨m, cd, no, gn, L, tg⟩)).set i2 v2 = l := ⟨_, rfl⟩
        have hl2n : l2.length = lg := by rw [← hl2, List.length_set]; exact HLG.out
        have hl2k : okB l2 := by rw [← hl2]; exact okB_set HOG.out i2 HV21.out
        rw [hl2] at mm2 hdb
        have HM2 := Lib.hid mm2
        have HB2 := Lib.hid bm2
        have HLK2 := Lib.hid hl2k
        have HLN2 := Lib.hid hl2n
        have HDB := Lib.hid hdb
        clear gg mm hset mm2 bm2 hl2 hl2k hl2n hli2 yr ya ys z1 bm hdb
        go_upto_region 27 with (fail)
        clear hR rr hI2 ulg lgz lgz' lgn lgn' z2 z3 z4 hvx2
        have Sa := below_own HB2.out S11 S11.lt
        have ra := below_own HB2.out r11 r11.lt
        have Ba := B11.below HB2.out
        have La := L11.below HB2.out
        have ba := bx.trans (HB2.out.mono hx11)
        have Ma := HM2.out
        have hsa : w11.heap.size ≤ (w12.setCell ⟨gc, i2, none⟩ (.int .u8 v2)).heap.size := HB2.out.size
        have hsl := S11.lt
        clear S11 r11 B11 L11 bx HM2 HB2 HY
        generalize w12.setCell ⟨gc, i2, none⟩ (.int .u8 v2) = wa2 at *
        have BBa : Bs wa2 (some ⟨gc, 0, none⟩) cc2 l2 := by
          obtain ⟨x1, x2, x3, x4, x5, x6⟩ := Ma.row
          injection x3 with x3 _ x7
          subst x3 x7
          rw [← HLN2.out] at x4 x6
          exact ⟨x4, x5, x6⟩
        have hcac := BBa.cap
        have hlec := BBa.le
        rw [HLN2.out] at hlec
        unfold maxLen at hcac
        have hcc263 : (cc2 : Int) ≤ 9223372036854775807 := by omega
        have PD := done_any s m key (0 + 1) no true (some ⟨gc, 0, none⟩) cc2 l2 wa2 Sa hkey.1 (by rw [HLN2.out]; exact lgm) BBa HLK2.out
        unfold DnP doneG at PD
        rw [if_neg HDB.out, if_neg HDB.out, HLN2.out] at PD
        obtain ⟨E2, hE2⟩ : ∃ e, doneE m key no true l2 = e := ⟨_, rfl⟩
        have hE20 : (E2 == 0) = false := by
          have := HDB.out
          rw [hE2] at this
          simpa using this
        rw [hE2] at PD
        have HPD2 := Lib.hid PD
        clear PD hE2
        go_wp2_with fail
        refine HPD2.out.mono ?_
        rintro e wb2 ⟨⟨ab2, cd2, rfl, _, hbd2, _⟩, Sb, jb⟩
        have Bb := Ba.just jb (bs_sk Ba (by rw [HLG.out]; omega) Sa)
        have Lb2 := row_just2 La jb (row_sk La Sa)
        have rb2 := jb.own ra (by omega)
        have bb := jb.below ba (by omega) (by omega)
        have hsb := jb.size
        clear HPD2 Sa ra Ba La ba Ma BBa jb
        unfold giveN Gt.vals
        dsimp only
        unfold maxLen at hbd2
        have hcd263 : (cd2 : Int) ≤ 9223372036854775807 := by omega
        have bA := (Below.refl wb2.heap.size wb2).alloc (Nat.le_refl _) (.cells #[.int .i64 0, .int .i64 0, .int .u32 0, .slice ab2 0 cd2, .int .u32 0] 28)
        have S11 := below_own bA Sb Sb.lt
        have B11 := Bb.below bA
        have L11 := Lb2.below bA
        have r11 := below_own bA rb2 rb2.lt
        have bx := bb.trans (bA.mono (by omega))
        have hx11' : g0 ≤ (wb2.alloc (.cells #[.int .i64 0, .int .i64 0, .int .u32 0, .slice ab2 0 cd2, .int .u32 0] 28)).heap.size := by have := bA.size; omega
        clear hx11
        have hx11 := hx11'
        clear hx11' Sb Bb Lb2 rb2 bb
        go_upto_region 28 with (fail)
        generalize wb2.alloc (.cells #[.int .i64 0, .int .i64 0, .int .u32 0, .slice ab2 0 cd2, .int .u32 0] 28) = w11x at *
        clear bA
        go_upto_region 30 with (fail)
        clear hE20

        have PD := done_any s m key (0 + 1) no true a11 c11 (sealL key (giveB ⟨m, cd, no, gn, L, tg⟩)) w11x S11 hkey.1 (by rw [HLG.out]; exact lgm) B11 (okB_seal (giveB_may HGM.out))
        have hd0 : doneE m key no true (sealL key (giveB ⟨m, cd, no, gn, L, tg⟩)) = 0 := doneE_ok HGM.out HIN.out rfl rfl
        obtain ⟨_, e1, e2, e3, e4, e5, e6⟩ := give_back (key := key) HGM.out HIN.out
        unfold DnP doneG at PD
        rw [if_pos hd0, if_pos hd0, hd0, HLG.out] at PD
        obtain ⟨qq, hqq⟩ : ∃ q, giveR (sealL key (giveB ⟨m, cd, no, gn, L, tg⟩)) = q := ⟨_, rfl⟩
        rw [hqq] at PD e1 e2 e3 e4 e5 e6
        obtain ⟨q1, q2, q3, qn, qL, q5⟩ := qq
        dsimp only at e1 e2 e3 e4 e5 e6
        rw [← HTG.out] at e6
        subst e1 e2 e3 e4 e6
        have HPD := Lib.hid PD
        have HE5 := Lib.hid e5
        clear PD hd0 hqq e5
        go_wp2_with fail
        refine HPD.out.mono ?_
        rintro e w12 ⟨⟨a12, c12, rfl, h121, h122, h123⟩, S12, j12⟩
        have B12 := B11.just j12 (bs_sk B11 (by rw [HLG.out]; omega) S11)
        have L12 := row_just2 L11 j12 (row_sk L11 S11)
        have r12 := j12.own r11 (by omega)
        have b13 := j12.below bx (by omega) hx11
        have hz12 := j12.size
        have hs12 := S12.lt
        unfold Gt.vals
        dsimp only at h121 h123 ⊢
        have K12 : Row w12 a12 (qn * 5) (cv L) := row_cv h123 (fun k hk => HE5.out k hk)
        unfold maxLen at h122
        have hc1263 : (c12 : Int) ≤ 9223372036854775807 := by omega
        have hrb12 := r12.lt
        have ba := (Below.refl w12.heap.size w12).alloc (Nat.le_refl _) (.cells #[.int .i64 (m : Int), .int .i64 q2, .int .u32 q3, .slice a12 qn c12, .int .u32 q5] 28)
        have t13 := Lb.Own.new w12 28 #[.int .i64 (m : Int), .int .i64 q2, .int .u32 q3, .slice a12 qn c12, .int .u32 q5]
        have B13 := B12.below ba
        have L13 := L12.below ba
        have K13 := K12.below ba
        have r13 := below_own ba r12 r12.lt
        have S13 := below_own ba S12 S12.lt
        have b14 := b13.trans (ba.mono (by omega))
        clear HPD B11 S11 L11 r11 bx B12 L12 K12 r12 S12 b13 h123 j12 HE5
        go_upto_region 31 with (fail)
        obtain ⟨rc, hrc⟩ : ∃ g, w12.heap.size = g := ⟨_, rfl⟩
        rw [hrc] at t13 hs12 hz12 hrb12 ⊢
        have hrcs := t13.lt
        generalize w12.alloc (.cells #[.int .i64 (m : Int), .int .i64 q2, .int .u32 q3, .slice a12 qn c12, .int .u32 q5] 28) = w13 at *
        clear ba hrc
        have PD := done_any s m key (0 + 1) q3 false a11 c11 (sealL key (giveB ⟨m, q2, q3, qn, L, q5⟩)) w13 S13 hkey.1 (by rw [HLG.out]; exact lgm) B13 (okB_seal (giveB_may HGM.out))
        have hd7 : doneE m key q3 false (sealL key (giveB ⟨m, q2, q3, qn, L, q5⟩)) = 7 := if_pos rfl
        unfold DnP doneG at PD
        rw [if_neg (by rw [hd7]; decide), hd7, HLG.out] at PD
        have HPD := Lib.hid PD
        clear PD hd7
        go_wp2_with fail
        refine HPD.out.mono ?_
        rintro e w14 ⟨⟨a14, c14, rfl, _, h142, _⟩, _, j14⟩
        have L14 := row_just2 L13 j14 (row_sk L13 S13)
        have K14 := row_just2 K13 j14 (row_sk K13 S13)
        have r14 := j14.own r13 (by omega)
        have t14 := j14.own t13 (by omega)
        have b15 := j14.below b14 (by omega) (by omega)
        have hz14 := j14.size
        unfold giveN Gt.vals
        dsimp only
        unfold maxLen at h142
        have hc1463 : (c14 : Int) ≤ 9223372036854775807 := by omega
        have ba := (Below.refl w14.heap.size w14).alloc (Nat.le_refl _) (.cells #[.int .i64 0, .int .i64 0, .int .u32 0, .slice a14 0 c14, .int .u32 0] 28)
        have L15 := L14.below ba
        have K15 := K14.below ba
        have r15 := below_own ba r14 r14.lt
        have t15 := below_own ba t14 t14.lt
        have b16 := b15.trans (ba.mono (by omega))
        have hzz : g0 ≤ (w14.alloc (.cells #[.int .i64 0, .int .i64 0, .int .u32 0, .slice a14 0 c14, .int .u32 0] 28)).heap.size := by have := ba.size; omega
        clear HPD B13 S13 L13 K13 r13 t13 b14 L14 K14 r14 t14 b15 j14
        go_upto_region 32 with (fail)
        generalize w14.alloc (.cells #[.int .i64 0, .int .i64 0, .int .u32 0, .slice a14 0 c14, .int .u32 0] 28) = w15 at *
        clear ba
        have k0 : w15.cell? ⟨rb, 0, none⟩ = some (.int .i64 (m : Int)) := r15.cell 0
        have k1 : w15.cell? ⟨rb, 1, none⟩ = some (.int .i64 q2) := r15.cell 1
        have k2 : w15.cell? ⟨rb, 2, none⟩ = some (.int .u32 q3) := r15.cell 2
        have k3 : w15.cell? ⟨rb, 3, none⟩ = some (.slice a6 qn c6) := r15.cell 3
        have k4 : w15.cell? ⟨rb, 4, none⟩ = some (.int .u32 q5) := r15.cell 4
        have v0 : w15.cell? ⟨rc, 0, none⟩ = some (.int .i64 (m : Int)) := t15.cell 0
        have v1 : w15.cell? ⟨rc, 1, none⟩ = some (.int .i64 q2) := t15.cell 1
        have v2 : w15.cell? ⟨rc, 2, none⟩ = some (.int .u32 q3) := t15.cell 2
        have v3 : w15.cell? ⟨rc, 3, none⟩ = some (.slice a12 qn c12) := t15.cell 3
        have v4 : w15.cell? ⟨rc, 4, none⟩ = some (.int .u32 q5) := t15.cell 4
        have PS := rsamegrant_any ⟨m, q2, q3, qn, L, q5⟩ a12 a6 c12 c6 w15 h121 h61 (by unfold maxLen; exact h122) (by unfold maxLen; exact h62) K15 L15
        unfold Gt.vals at PS
        dsimp only at PS
        have HPS := Lib.hid PS
        clear PS r15 t15 K15 L15
        go_wp2_with fail
        refine HPS.out.mono ?_
        rintro e w16 ⟨rfl, b17⟩
        have b18 := b16.trans (b17.mono hzz)
        have hz16 := b17.size
        clear k0 k1 k2 k3 k4 v0 v1 v2 v3 v4 HPS b16 b17
        go_wp2_with fail
        refine (awake_join _).mono ?_
        rintro e w17 ⟨rfl, b19⟩
        have b20 := Lib.hid (b18.trans (b19.mono (by omega)))
        clear b18 b19
        go_wp2_with fail
        go_ret
        exact ⟨rfl, by rw [HG0.out]; exact b20.out⟩
      · refine wp_region_grow w9 (Below.refl _ _) [.is (.int .i64 0), .is (.bool false), .is (.bool false), .is (.int .i64 8), .is (.bool false), .is (.bool false), .is (.bool false), .is (.pointer (some ⟨rb, 0, none⟩)), .is (.int .i64 (m : Int)), .is (.int .i64 (m : Int)), .is (.bool false), .is (.bool false), .is (.bool false), .is (.pointer (some ⟨rb, 2, none⟩)), .is (.int .u32 no), .is (.int .u32 no), .is (.bool false), .is (.bool false), .is (.bool false), .is (.pointer (some ⟨rb, 1, none⟩)), .is (.int .i64 cd), .is (.bool true), .is (.slice A n cc), .is (.bool true), .is (.bool false), .is (.bool false), .is (.bool false), .is (.pointer (some ⟨rb, 3, none⟩)), .is (.slice a6 gn c6), .is (.slice A n cc), .is (.slice wA gn wc), .is (.bool true), .is (.bool false), .is (.bool false)] [] (by kernel_rfl) (by kernel_rfl) rfl (by kernel_rfl) ?_
        iterate 23
          refine kd_is (by rfl) (fun z hz K Q hK => ?_) ?_
          · go_big_op
            exact hK _ _ rfl rfl
          simp only [Act.put, List.setIfInBounds_toArray, List.set_cons_zero, List.set_cons_succ]
        refine kd_isc (by rfl) (fun z hz K Q hK => ?_) ?_
        · go_big_op
          refine (HPM.out _ (HZB.out z)).mono ?_
          rintro e w' ⟨rfl, b'⟩
          exact hK _ _ rfl b'
        simp only [Act.put, List.setIfInBounds_toArray, List.set_cons_zero, List.set_cons_succ]
        iterate 6
          refine kd_is (by rfl) (fun z hz K Q hK => ?_) ?_
          · go_big_op
            exact hK _ _ rfl rfl
          simp only [Act.put, List.setIfInBounds_toArray, List.set_cons_zero, List.set_cons_succ]
        refine kd_isc (by rfl) (fun z hz K Q hK => ?_) ?_
        · go_big_op
          refine (HPW.out _ (HZB.out z)).mono ?_
          rintro e w' ⟨rfl, b'⟩
          exact hK _ _ rfl b'
        simp only [Act.put, List.setIfInBounds_toArray, List.set_cons_zero, List.set_cons_succ]
        refine kd_isc (by rfl) (fun z hz K Q hK => ?_) ?_
        · obtain ⟨q1, q2, q3⟩ := HWR.out _ (HZB.out z)
          have PS := rsame_any a6 wA gn c6 wc L z.toW h61 q2 (by unfold maxLen; exact h62) q3 (HZR.out z) q1
          go_big_op
          refine PS.mono ?_
          rintro e w' ⟨rfl, b'⟩
          exact hK _ _ rfl b'
        simp only [Act.put, List.setIfInBounds_toArray, List.set_cons_zero, List.set_cons_succ]
        iterate 2
          refine kd_is (by rfl) (fun z hz K Q hK => ?_) ?_
          · go_big_op
            exact hK _ _ rfl rfl
          simp only [Act.put, List.setIfInBounds_toArray, List.set_cons_zero, List.set_cons_succ]
        refine kd_nil (fun z hz => ?_)
        have bz := HZB.out z
        have Lz := HZR.out z
        have rz := below_own z.ok r9 r9.lt
        have Sz := below_own z.ok S9 S9.lt
        have hzs : g0 ≤ z.toW.heap.size := Nat.le_trans hsz9 z.ok.size
        clear hz d0 d1 d2 d3 HZB HZR HL9 r9 S9 b11 hcd
        generalize z.toW = w10 at *
        have k0 : w10.cell? ⟨rb, 0, none⟩ = some (.int .i64 (m : Int)) := rz.cell 0
        have k1 : w10.cell? ⟨rb, 1, none⟩ = some (.int .i64 cd) := rz.cell 1
        have k2 : w10.cell? ⟨rb, 2, none⟩ = some (.int .u32 no) := rz.cell 2
        have k3 : w10.cell? ⟨rb, 3, none⟩ = some (.slice a6 gn c6) := rz.cell 3
        have k4 : w10.cell? ⟨rb, 4, none⟩ = some (.int .u32 tg) := rz.cell 4
        have hin : In32 no := by unfold In32; omega
        have PG := give_any key ⟨m, cd, no, gn, L, tg⟩ a6 c6 w10 hkey.1 hin h61 (by unfold maxLen; exact h62) Lz
        obtain ⟨hO, hC⟩ := give_yes (key := key) HGM.out
        have hlG : (sealL key (giveB ⟨m, cd, no, gn, L, tg⟩)).length = 8 + 5 * gn + 4 := (sealL_len _ _).trans (congrArg (· + 4) (giveB_len _))
        obtain ⟨lg, hlg⟩ : ∃ lg : Nat, 8 + 5 * gn + 4 = lg := ⟨_, rfl⟩
        rw [hO, hC, hlG, hlg] at PG
        unfold Gt.vals at PG
        dsimp only at PG
        have HPG := Lib.hid PG
        have HLG := Lib.hid (hlG.trans hlg)
        have HIN := Lib.hid hin
        have lg12 : 12 ≤ lg := by omega
        have lg63 : (lg : Int) ≤ 9223372036854775807 := by omega
        have lgd : decide (lg < 12) = false := by simp; omega
        have lgd' : decide ((lg : Int) < 12) = false := by simp; omega
        have lgm : lg ≤ 1000 := by omega
        clear PG hO hC hlG hlg hin
        go_wp2_with fail
        refine HPG.out.mono ?_
        rintro e w11 ⟨a11, c11, rfl, B11, b12⟩
        have L11 := Lz.below b12
        have r11 := below_own b12 rz rz.lt
        have S11 := below_own b12 Sz Sz.lt
        have bx := bz.trans (b12.mono hzs)
        have hx11 : g0 ≤ w11.heap.size := Nat.le_trans hzs b12.size
        have hle11 := B11.le
        have hca11 := B11.cap
        rw [HLG.out] at hle11
        unfold maxLen at hca11
        have hc1163 : (c11 : Int) ≤ 9223372036854775807 := by omega
        clear k0 k1 k2 k3 k4 HPG Lz rz Sz bz b12 hzs
        have hR := hRI.out
        have rr := hrr.out
        obtain ⟨i2, hI2⟩ : ∃ i : Nat, R % (lg : Int) = (i : Int) := ⟨(R % (lg : Int)).toNat, by
          have := Int.emod_nonneg R (show (lg : Int) ≠ 0 by omega)
          omega⟩
        have hi2 : i2 < lg := by
          have := Int.emod_lt_of_pos R (show 0 < (lg : Int) by omega)
          omega
        have ulg : IntKind.u64.wrap (lg : Int) = (lg : Int) := by rw [IntKind.wrap_u64]; omega
        have lgz : ((lg : Int) == 0) = false := by simp; omega
        have lgz' : (lg == 0) = false := by simp; omega
        have lgn : lg ≠ 0 := by omega
        have lgn' : (lg : Int) ≠ 0 := by omega
        have hokG := okB_seal (key := key) (giveB_may HGM.out)
        have HOG := Lib.hid hokG
        obtain ⟨v2, hv2⟩ : ∃ v, bits .xor .u8 ((sealL key (giveB ⟨m, cd, no, gn, L, tg⟩)).getD i2 0) x = v := ⟨_, rfl⟩
        have hxb2 := xor_bent (okB_at hokG i2) hx HX0.out
        rw [hv2] at hxb2
        obtain ⟨hv201, hv2ne⟩ := hxb2
        have HV21 := Lib.hid hv201
        have HV2N := Lib.hid hv2ne
        have HV2V := Lib.hid hv2
        have y0 := Mine.made (base := w11.heap.size) (n := 0) (V := bval []) (Lb.Own.new w11 5 #[]) (Nat.le_refl _) (by decide) (Nat.le_refl _) (fun i hi => absurd hi (by omega))
        have ya := (Below.refl w11.heap.size w11).alloc (Nat.le_refl _) (.cells #[] 5)
        have ys : w11.heap.size ≤ (w11.alloc (.cells #[] 5)).heap.size := ya.size
        have yr := (B11.below ya).row
        rw [HLG.out] at yr
        have HY := Lib.hid y0
        have HNM2 := Lib.hid (show 0 + lg ≤ maxLen by unfold maxLen; omega)
        clear hv201 hv2ne hv2 y0 hokG
        go_wp2_with (at_builtin; go_must (refine wp_app_at rfl (.tmp 184) (.tmp 185) _ rfl w11.heap.size 5 j0 _ 1 Try.underlying30 hj0 hjz0 hjz1 hjz2 rfl _ 0 (bval []) rfl HY.out _ lg _ (bval (sealL key (giveB ⟨m, cd, no, gn, L, tg⟩))) rfl yr (fun _ _ => rfl) HNM2.out ?c2 ys ?_))
        case c2 => omega
        intro v2' w12 mm gg _
        have mm : Mine w12 w11.heap.size 5 v2' lg (bval (sealL key (giveB ⟨m, cd, no, gn, L, tg⟩))) := mm
        obtain ⟨gc, cc2, rfl⟩ := Bf.mine_form mm (by omega)
        have bm : Below w11.heap.size w11 w12 := ya.grown gg ys (fun q hq => (HY.out.lt q hq).1)
        obtain ⟨z1, z2, z3, z4⟩ := mm.at_ hi2
        unfold bval at z3
        obtain ⟨li2, hli2⟩ : ∃ v, (sealL key (giveB ⟨m, cd, no, gn, L, tg⟩)).getD i2 0 = v := ⟨_, rfl⟩
        rw [hli2] at z3
        have hvx2 : bits .xor .u8 li2 x = v2 := by rw [← hli2]; exact HV2V.out
        have hset : ∀ k, k < lg → (if k = i2 then Value.int .u8 v2 else bval (sealL key (giveB ⟨m, cd, no, gn, L, tg⟩)) k) = bval ((sealL key (giveB ⟨m, cd, no, gn, L, tg⟩)).set i2 v2) k := fun k hk => by
          unfold bval
          rw [getD_setL]
          by_cases h : k = i2
          · rw [if_pos h, if_pos ⟨h.symm, by rw [HLG.out]; exact hk⟩]
          · rw [if_neg h, if_neg (fun e => h e.1.symm)]
        have mm2 := (mm.store hi2 (.int .u8 v2)).ext hset
        have bm2 : Below w11.heap.size w11 (w12.setCell ⟨gc, i2, none⟩ (.int .u8 v2)) := bm.setCell z1 _
        have hdb : doneE m key no true ((sealL key (giveB ⟨m, cd, no, gn, L, tg⟩)).set i2 v2) ≠ 0 := done_bent (giveB_may HGM.out) (by rw [HLG.out]; exact hi2) HV21.out HV2N.out
        obtain ⟨l2, hl2⟩ : ∃ l, (sealL key (giveB ⟨m, cd, no, gn, L, tg⟩)).set i2 v2 = l := ⟨_, rfl⟩
        have hl2n : l2.length = lg := by rw [← hl2, List.length_set]; exact HLG.out
        have hl2k : okB l2 := by rw [← hl2]; exact okB_set HOG.out i2 HV21.out
        rw [hl2] at mm2 hdb
        have HM2 := Lib.hid mm2
        have HB2 := Lib.hid bm2
        have HLK2 := Lib.hid hl2k
        have HLN2 := Lib.hid hl2n
        have HDB := Lib.hid hdb
        clear gg mm hset mm2 bm2 hl2 hl2k hl2n hli2 yr ya ys z1 bm hdb
        go_upto_region 27 with (fail)
        clear hR rr hI2 ulg lgz lgz' lgn lgn' z2 z3 z4 hvx2
        have Sa := below_own HB2.out S11 S11.lt
        have ra := below_own HB2.out r11 r11.lt
        have Ba := B11.below HB2.out
        have La := L11.below HB2.out
        have ba := bx.trans (HB2.out.mono hx11)
        have Ma := HM2.out
        have hsa : w11.heap.size ≤ (w12.setCell ⟨gc, i2, none⟩ (.int .u8 v2)).heap.size := HB2.out.size
        have hsl := S11.lt
        clear S11 r11 B11 L11 bx HM2 HB2 HY
        generalize w12.setCell ⟨gc, i2, none⟩ (.int .u8 v2) = wa2 at *
        have BBa : Bs wa2 (some ⟨gc, 0, none⟩) cc2 l2 := by
          obtain ⟨x1, x2, x3, x4, x5, x6⟩ := Ma.row
          injection x3 with x3 _ x7
          subst x3 x7
          rw [← HLN2.out] at x4 x6
          exact ⟨x4, x5, x6⟩
        have hcac := BBa.cap
        have hlec := BBa.le
        rw [HLN2.out] at hlec
        unfold maxLen at hcac
        have hcc263 : (cc2 : Int) ≤ 9223372036854775807 := by omega
        have PD := done_any s m key (0 + 1) no true (some ⟨gc, 0, none⟩) cc2 l2 wa2 Sa hkey.1 (by rw [HLN2.out]; exact lgm) BBa HLK2.out
        unfold DnP doneG at PD
        rw [if_neg HDB.out, if_neg HDB.out, HLN2.out] at PD
        obtain ⟨E2, hE2⟩ : ∃ e, doneE m key no true l2 = e := ⟨_, rfl⟩
        have hE20 : (E2 == 0) = false := by
          have := HDB.out
          rw [hE2] at this
          simpa using this
        rw [hE2] at PD
        have HPD2 := Lib.hid PD
        clear PD hE2
        go_wp2_with fail
        refine HPD2.out.mono ?_
        rintro e wb2 ⟨⟨ab2, cd2, rfl, _, hbd2, _⟩, Sb, jb⟩
        have Bb := Ba.just jb (bs_sk Ba (by rw [HLG.out]; omega) Sa)
        have Lb2 := row_just2 La jb (row_sk La Sa)
        have rb2 := jb.own ra (by omega)
        have bb := jb.below ba (by omega) (by omega)
        have hsb := jb.size
        clear HPD2 Sa ra Ba La ba Ma BBa jb
        unfold giveN Gt.vals
        dsimp only
        unfold maxLen at hbd2
        have hcd263 : (cd2 : Int) ≤ 9223372036854775807 := by omega
        have bA := (Below.refl wb2.heap.size wb2).alloc (Nat.le_refl _) (.cells #[.int .i64 0, .int .i64 0, .int .u32 0, .slice ab2 0 cd2, .int .u32 0] 28)
        have S11 := below_own bA Sb Sb.lt
        have B11 := Bb.below bA
        have L11 := Lb2.below bA
        have r11 := below_own bA rb2 rb2.lt
        have bx := bb.trans (bA.mono (by omega))
        have hx11' : g0 ≤ (wb2.alloc (.cells #[.int .i64 0, .int .i64 0, .int .u32 0, .slice ab2 0 cd2, .int .u32 0] 28)).heap.size := by have := bA.size; omega
        clear hx11
        have hx11 := hx11'
        clear hx11' Sb Bb Lb2 rb2 bb
        go_upto_region 28 with (fail)
        generalize wb2.alloc (.cells #[.int .i64 0, .int .i64 0, .int .u32 0, .slice ab2 0 cd2, .int .u32 0] 28) = w11x at *
        clear bA
        go_upto_region 30 with (fail)
        clear hE20

        have PD := done_any s m key (0 + 1) no true a11 c11 (sealL key (giveB ⟨m, cd, no, gn, L, tg⟩)) w11x S11 hkey.1 (by rw [HLG.out]; exact lgm) B11 (okB_seal (giveB_may HGM.out))
        have hd0 : doneE m key no true (sealL key (giveB ⟨m, cd, no, gn, L, tg⟩)) = 0 := doneE_ok HGM.out HIN.out rfl rfl
        obtain ⟨_, e1, e2, e3, e4, e5, e6⟩ := give_back (key := key) HGM.out HIN.out
        unfold DnP doneG at PD
        rw [if_pos hd0, if_pos hd0, hd0, HLG.out] at PD
        obtain ⟨qq, hqq⟩ : ∃ q, giveR (sealL key (giveB ⟨m, cd, no, gn, L, tg⟩)) = q := ⟨_, rfl⟩
        rw [hqq] at PD e1 e2 e3 e4 e5 e6
        obtain ⟨q1, q2, q3, qn, qL, q5⟩ := qq
        dsimp only at e1 e2 e3 e4 e5 e6
        rw [← HTG.out] at e6
        subst e1 e2 e3 e4 e6
        have HPD := Lib.hid PD
        have HE5 := Lib.hid e5
        clear PD hd0 hqq e5
        go_wp2_with fail
        refine HPD.out.mono ?_
        rintro e w12 ⟨⟨a12, c12, rfl, h121, h122, h123⟩, S12, j12⟩
        have B12 := B11.just j12 (bs_sk B11 (by rw [HLG.out]; omega) S11)
        have L12 := row_just2 L11 j12 (row_sk L11 S11)
        have r12 := j12.own r11 (by omega)
        have b13 := j12.below bx (by omega) hx11
        have hz12 := j12.size
        have hs12 := S12.lt
        unfold Gt.vals
        dsimp only at h121 h123 ⊢
        have K12 : Row w12 a12 (qn * 5) (cv L) := row_cv h123 (fun k hk => HE5.out k hk)
        unfold maxLen at h122
        have hc1263 : (c12 : Int) ≤ 9223372036854775807 := by omega
        have hrb12 := r12.lt
        have ba := (Below.refl w12.heap.size w12).alloc (Nat.le_refl _) (.cells #[.int .i64 (m : Int), .int .i64 q2, .int .u32 q3, .slice a12 qn c12, .int .u32 q5] 28)
        have t13 := Lb.Own.new w12 28 #[.int .i64 (m : Int), .int .i64 q2, .int .u32 q3, .slice a12 qn c12, .int .u32 q5]
        have B13 := B12.below ba
        have L13 := L12.below ba
        have K13 := K12.below ba
        have r13 := below_own ba r12 r12.lt
        have S13 := below_own ba S12 S12.lt
        have b14 := b13.trans (ba.mono (by omega))
        clear HPD B11 S11 L11 r11 bx B12 L12 K12 r12 S12 b13 h123 j12 HE5
        go_upto_region 31 with (fail)
        obtain ⟨rc, hrc⟩ : ∃ g, w12.heap.size = g := ⟨_, rfl⟩
        rw [hrc] at t13 hs12 hz12 hrb12 ⊢
        have hrcs := t13.lt
        generalize w12.alloc (.cells #[.int .i64 (m : Int), .int .i64 q2, .int .u32 q3, .slice a12 qn c12, .int .u32 q5] 28) = w13 at *
        clear ba hrc
        have PD := done_any s m key (0 + 1) q3 false a11 c11 (sealL key (giveB ⟨m, q2, q3, qn, L, q5⟩)) w13 S13 hkey.1 (by rw [HLG.out]; exact lgm) B13 (okB_seal (giveB_may HGM.out))
        have hd7 : doneE m key q3 false (sealL key (giveB ⟨m, q2, q3, qn, L, q5⟩)) = 7 := if_pos rfl
        unfold DnP doneG at PD
        rw [if_neg (by rw [hd7]; decide), hd7, HLG.out] at PD
        have HPD := Lib.hid PD
        clear PD hd7
        go_wp2_with fail
        refine HPD.out.mono ?_
        rintro e w14 ⟨⟨a14, c14, rfl, _, h142, _⟩, _, j14⟩
        have L14 := row_just2 L13 j14 (row_sk L13 S13)
        have K14 := row_just2 K13 j14 (row_sk K13 S13)
        have r14 := j14.own r13 (by omega)
        have t14 := j14.own t13 (by omega)
        have b15 := j14.below b14 (by omega) (by omega)
        have hz14 := j14.size
        unfold giveN Gt.vals
        dsimp only
        unfold maxLen at h142
        have hc1463 : (c14 : Int) ≤ 9223372036854775807 := by omega
        have ba := (Below.refl w14.heap.size w14).alloc (Nat.le_refl _) (.cells #[.int .i64 0, .int .i64 0, .int .u32 0, .slice a14 0 c14, .int .u32 0] 28)
        have L15 := L14.below ba
        have K15 := K14.below ba
        have r15 := below_own ba r14 r14.lt
        have t15 := below_own ba t14 t14.lt
        have b16 := b15.trans (ba.mono (by omega))
        have hzz : g0 ≤ (w14.alloc (.cells #[.int .i64 0, .int .i64 0, .int .u32 0, .slice a14 0 c14, .int .u32 0] 28)).heap.size := by have := ba.size; omega
        clear HPD B13 S13 L13 K13 r13 t13 b14 L14 K14 r14 t14 b15 j14
        go_upto_region 32 with (fail)
        generalize w14.alloc (.cells #[.int .i64 0, .int .i64 0, .int .u32 0, .slice a14 0 c14, .int .u32 0] 28) = w15 at *
        clear ba
        have k0 : w15.cell? ⟨rb, 0, none⟩ = some (.int .i64 (m : Int)) := r15.cell 0
        have k1 : w15.cell? ⟨rb, 1, none⟩ = some (.int .i64 q2) := r15.cell 1
        have k2 : w15.cell? ⟨rb, 2, none⟩ = some (.int .u32 q3) := r15.cell 2
        have k3 : w15.cell? ⟨rb, 3, none⟩ = some (.slice a6 qn c6) := r15.cell 3
        have k4 : w15.cell? ⟨rb, 4, none⟩ = some (.int .u32 q5) := r15.cell 4
        have v0 : w15.cell? ⟨rc, 0, none⟩ = some (.int .i64 (m : Int)) := t15.cell 0
        have v1 : w15.cell? ⟨rc, 1, none⟩ = some (.int .i64 q2) := t15.cell 1
        have v2 : w15.cell? ⟨rc, 2, none⟩ = some (.int .u32 q3) := t15.cell 2
        have v3 : w15.cell? ⟨rc, 3, none⟩ = some (.slice a12 qn c12) := t15.cell 3
        have v4 : w15.cell? ⟨rc, 4, none⟩ = some (.int .u32 q5) := t15.cell 4
        have PS := rsamegrant_any ⟨m, q2, q3, qn, L, q5⟩ a12 a6 c12 c6 w15 h121 h61 (by unfold maxLen; exact h122) (by unfold maxLen; exact h62) K15 L15
        unfold Gt.vals at PS
        dsimp only at PS
        have HPS := Lib.hid PS
        clear PS r15 t15 K15 L15
        go_wp2_with fail
        refine HPS.out.mono ?_
        rintro e w16 ⟨rfl, b17⟩
        have b18 := b16.trans (b17.mono hzz)
        have hz16 := b17.size
        clear k0 k1 k2 k3 k4 v0 v1 v2 v3 v4 HPS b16 b17
        go_wp2_with fail
        refine (awake_join _).mono ?_
        rintro e w17 ⟨rfl, b19⟩
        have b20 := Lib.hid (b18.trans (b19.mono (by omega)))
        clear b18 b19
        go_wp2_with fail
        go_ret
        exact ⟨rfl, by rw [HG0.out]; exact b20.out⟩
    · have g1 : (E == 0) = false := by simpa using hE0
      clear hE0
      go_upto_region 17 with (fail)
      clear z5 z6 z7 g1 yb0 yb1
      have PT := HT1.out w5x N1 a5 c5 _ D5 B5 (okB_seal HOK.out) HL15.out b7
      obtain ⟨ta0, ta1, ta2⟩ := HTA.out N1 HN10.out
      unfold TkP at PT
      rw [ta0, ta1, ta2] at PT
      have HPT := Lib.hid PT
      clear PT ta0 ta1 ta2
      have hds : d ≠ s := by omega
      go_wp2_with fail
      refine HPT.out.mono ?_
      rintro e w6 ⟨⟨a6, c6, rfl, h61, h62, h63⟩, D6, j6⟩
      have B6 := B5.just j6 (bs_dk B5 (by rw [HL15.out]; decide) D5)
      have S6 := j6.own S5 (by omega)
      have b8 := j6.below b7 (by omega) (by have := Blk.lt D5; omega)
      have hd6 := Blk.lt D6
      have hs6 := Own.lt S6
      clear HPT D5 S5 B5 b7 j6
      unfold Gt.vals
      dsimp only at h61 h63 ⊢
      unfold maxLen at h62
      have hc663 : (c6 : Int) ≤ 9223372036854775807 := by omega
      have hg63 : (gn : Int) ≤ 9223372036854775807 := by omega
      have ba := (Below.refl w6.heap.size w6).alloc (Nat.le_refl _) (.cells #[.int .i64 (m : Int), .int .i64 cd, .int .u32 no, .slice a6 gn c6, .int .u32 tg] 28)
      have r7 := Lb.Own.new w6 28 #[.int .i64 (m : Int), .int .i64 cd, .int .u32 no, .slice a6 gn c6, .int .u32 tg]
      have D7 : Dk _ d (16 : Nat) (K16 m key) _ := below_blk ba D6 hd6
      have S7 : Sk _ s _ _ _ _ _ := below_own ba S6 hs6
      have B7 := B6.below ba
      have L7 := h63.below ba
      have b9 := b8.trans (ba.mono (by omega))
      have hbs6 : d < w6.heap.size := hd6
      clear D6 S6 B6 h63 b8
      go_upto_region 18 with (fail)
      obtain ⟨rb, hrb⟩ : ∃ g, w6.heap.size = g := ⟨_, rfl⟩
      rw [hrb] at r7 hbs6 hs6 ⊢
      have hrs : rb < (w6.alloc (.cells #[.int .i64 (m : Int), .int .i64 cd, .int .u32 no, .slice a6 gn c6, .int .u32 tg] 28)).heap.size := r7.lt
      generalize w6.alloc (.cells #[.int .i64 (m : Int), .int .i64 cd, .int .u32 no, .slice a6 gn c6, .int .u32 tg] 28) = w7 at *
      clear ba hrb
      have PT := HT1.out w7 _ a5 c5 _ D7 B7 (okB_seal HOK.out) HL15.out b9
      have tb := HTB.out N1
      have tg0 : takeG 16 (K16 m key) (setN N1 m 1) (sealL key (askB (skR m p no 0))) L n = giveN := by unfold takeG; rw [if_neg (by rw [tb]; decide)]
      unfold TkP at PT
      rw [tb, tg0] at PT
      have HPT := Lib.hid PT
      clear PT tb tg0
      go_wp2_with fail
      refine HPT.out.mono ?_
      rintro e w8 ⟨⟨a8, c8, rfl, _, h82, _⟩, _, j8⟩
      have r8 := j8.own r7 (by omega)
      have S8 := j8.own S7 (by omega)
      have L8 : Row w8 a6 (gn * 5) (cv L) := row_just2 L7 j8 (row_dk L7 D7)
      have b10 := j8.below b9 (by omega) (by omega)
      have hs8 := j8.size
      clear HPT D7 S7 B7 L7 r7 b9 j8
      unfold giveN Gt.vals
      dsimp only
      unfold maxLen at h82
      have hc863 : (c8 : Int) ≤ 9223372036854775807 := by omega
      have ba := (Below.refl w8.heap.size w8).alloc (Nat.le_refl _) (.cells #[.int .i64 0, .int .i64 0, .int .u32 0, .slice a8 0 c8, .int .u32 0] 28)
      have r9 := below_own ba r8 r8.lt
      have S9 := below_own ba S8 S8.lt
      have L9 := L8.below ba
      have b11 := b10.trans (ba.mono (by omega))
      have hsz9 : g0 ≤ (w8.alloc (.cells #[.int .i64 0, .int .i64 0, .int .u32 0, .slice a8 0 c8, .int .u32 0] 28)).heap.size := by have := ba.size; omega
      clear r8 S8 L8 b10
      go_upto_region 19 with (fail)
      generalize w8.alloc (.cells #[.int .i64 0, .int .i64 0, .int .u32 0, .slice a8 0 c8, .int .u32 0] 28) = w9 at *
      clear ba
      have c0 : w9.cell? ⟨rb, 0, none⟩ = some (.int .i64 (m : Int)) := r9.cell 0
      have c1 : w9.cell? ⟨rb, 1, none⟩ = some (.int .i64 cd) := r9.cell 1
      have c2 : w9.cell? ⟨rb, 2, none⟩ = some (.int .u32 no) := r9.cell 2
      have c3 : w9.cell? ⟨rb, 3, none⟩ = some (.slice a6 gn c6) := r9.cell 3
      have d0 : ∀ z : Gw w9, z.toW.cell? ⟨rb, 0, none⟩ = some (.int .i64 (m : Int)) := fun z => (z.ok.cell (lt_of_cell c0)).trans c0
      have d1 : ∀ z : Gw w9, z.toW.cell? ⟨rb, 1, none⟩ = some (.int .i64 cd) := fun z => (z.ok.cell (lt_of_cell c1)).trans c1
      have d2 : ∀ z : Gw w9, z.toW.cell? ⟨rb, 2, none⟩ = some (.int .u32 no) := fun z => (z.ok.cell (lt_of_cell c2)).trans c2
      have d3 : ∀ z : Gw w9, z.toW.cell? ⟨rb, 3, none⟩ = some (.slice a6 gn c6) := fun z => (z.ok.cell (lt_of_cell c3)).trans c3
      have zb : ∀ z : Gw w9, Below g0 w z.toW := fun z => b11.trans (z.ok.mono hsz9)
      have zr : ∀ z : Gw w9, Row z.toW a6 (gn * 5) (cv L) := fun z => L9.below z.ok
      clear c0 c1 c2 c3
      have HZB := Lib.hid zb
      have HZR := Lib.hid zr
      have HL9 := Lib.hid L9
      clear zb zr L9
      cases mv
      · refine wp_region_grow w9 (Below.refl _ _) [.is (.int .i64 0), .is (.bool false), .is (.bool false), .is (.int .i64 8), .is (.bool false), .is (.bool false), .is (.bool false), .is (.pointer (some ⟨rb, 0, none⟩)), .is (.int .i64 (m : Int)), .is (.int .i64 (m : Int)), .is (.bool false), .is (.bool false), .is (.bool false), .is (.pointer (some ⟨rb, 2, none⟩)), .is (.int .u32 no), .is (.int .u32 no), .is (.bool false), .is (.bool false), .is (.bool false), .is (.pointer (some ⟨rb, 1, none⟩)), .is (.int .i64 cd), .is (.bool false), .is (.slice A n cc), .is (.bool false), .is (.bool false), .is (.bool false), .is (.bool false), .is (.pointer (some ⟨rb, 3, none⟩)), .is (.slice a6 gn c6), .is (.slice A n cc), .is (.slice wA gn wc), .is (.bool true), .is (.bool false), .is (.bool false)] [] (by kernel_rfl) (by kernel_rfl) rfl (by kernel_rfl) ?_
        iterate 23
          refine kd_is (by rfl) (fun z hz K Q hK => ?_) ?_
          · go_big_op
            exact hK _ _ rfl rfl
          simp only [Act.put, List.setIfInBounds_toArray, List.set_cons_zero, List.set_cons_succ]
        refine kd_isc (by rfl) (fun z hz K Q hK => ?_) ?_
        · go_big_op
          refine (HPM.out _ (HZB.out z)).mono ?_
          rintro e w' ⟨rfl, b'⟩
          exact hK _ _ rfl b'
        simp only [Act.put, List.setIfInBounds_toArray, List.set_cons_zero, List.set_cons_succ]
        iterate 6
          refine kd_is (by rfl) (fun z hz K Q hK => ?_) ?_
          · go_big_op
            exact hK _ _ rfl rfl
          simp only [Act.put, List.setIfInBounds_toArray, List.set_cons_zero, List.set_cons_succ]
        refine kd_isc (by rfl) (fun z hz K Q hK => ?_) ?_
        · go_big_op
          refine (HPW.out _ (HZB.out z)).mono ?_
          rintro e w' ⟨rfl, b'⟩
          exact hK _ _ rfl b'
        simp only [Act.put, List.setIfInBounds_toArray, List.set_cons_zero, List.set_cons_succ]
        refine kd_isc (by rfl) (fun z hz K Q hK => ?_) ?_
        · obtain ⟨q1, q2, q3⟩ := HWR.out _ (HZB.out z)
          have PS := rsame_any a6 wA gn c6 wc L z.toW h61 q2 (by unfold maxLen; exact h62) q3 (HZR.out z) q1
          go_big_op
          refine PS.mono ?_
          rintro e w' ⟨rfl, b'⟩
          exact hK _ _ rfl b'
        simp only [Act.put, List.setIfInBounds_toArray, List.set_cons_zero, List.set_cons_succ]
        iterate 2
          refine kd_is (by rfl) (fun z hz K Q hK => ?_) ?_
          · go_big_op
            exact hK _ _ rfl rfl
          simp only [Act.put, List.setIfInBounds_toArray, List.set_cons_zero, List.set_cons_succ]
        refine kd_nil (fun z hz => ?_)
        have bz := HZB.out z
        have Lz := HZR.out z
        have rz := below_own z.ok r9 r9.lt
        have Sz := below_own z.ok S9 S9.lt
        have hzs : g0 ≤ z.toW.heap.size := Nat.le_trans hsz9 z.ok.size
        clear hz d0 d1 d2 d3 HZB HZR HL9 r9 S9 b11 hcd
        generalize z.toW = w10 at *
        have k0 : w10.cell? ⟨rb, 0, none⟩ = some (.int .i64 (m : Int)) := rz.cell 0
        have k1 : w10.cell? ⟨rb, 1, none⟩ = some (.int .i64 cd) := rz.cell 1
        have k2 : w10.cell? ⟨rb, 2, none⟩ = some (.int .u32 no) := rz.cell 2
        have k3 : w10.cell? ⟨rb, 3, none⟩ = some (.slice a6 gn c6) := rz.cell 3
        have k4 : w10.cell? ⟨rb, 4, none⟩ = some (.int .u32 tg) := rz.cell 4
        have hin : In32 no := by unfold In32; omega
        have PG := give_any key ⟨m, cd, no, gn, L, tg⟩ a6 c6 w10 hkey.1 hin h61 (by unfold maxLen; exact h62) Lz
        obtain ⟨hO, hC⟩ := give_yes (key := key) HGM.out
        have hlG : (sealL key (giveB ⟨m, cd, no, gn, L, tg⟩)).length = 8 + 5 * gn + 4 := (sealL_len _ _).trans (congrArg (· + 4) (giveB_len _))
        obtain ⟨lg, hlg⟩ : ∃ lg : Nat, 8 + 5 * gn + 4 = lg := ⟨_, rfl⟩
        rw [hO, hC, hlG, hlg] at PG
        unfold Gt.vals at PG
        dsimp only at PG
        have HPG := Lib.hid PG
        have HLG := Lib.hid (hlG.trans hlg)
        have HIN := Lib.hid hin
        have lg12 : 12 ≤ lg := by omega
        have lg63 : (lg : Int) ≤ 9223372036854775807 := by omega
        have lgd : decide (lg < 12) = false := by simp; omega
        have lgd' : decide ((lg : Int) < 12) = false := by simp; omega
        have lgm : lg ≤ 1000 := by omega
        clear PG hO hC hlG hlg hin
        go_wp2_with fail
        refine HPG.out.mono ?_
        rintro e w11 ⟨a11, c11, rfl, B11, b12⟩
        have L11 := Lz.below b12
        have r11 := below_own b12 rz rz.lt
        have S11 := below_own b12 Sz Sz.lt
        have bx := bz.trans (b12.mono hzs)
        have hx11 : g0 ≤ w11.heap.size := Nat.le_trans hzs b12.size
        have hle11 := B11.le
        have hca11 := B11.cap
        rw [HLG.out] at hle11
        unfold maxLen at hca11
        have hc1163 : (c11 : Int) ≤ 9223372036854775807 := by omega
        clear k0 k1 k2 k3 k4 HPG Lz rz Sz bz b12 hzs
        have hR := hRI.out
        have rr := hrr.out
        obtain ⟨i2, hI2⟩ : ∃ i : Nat, R % (lg : Int) = (i : Int) := ⟨(R % (lg : Int)).toNat, by
          have := Int.emod_nonneg R (show (lg : Int) ≠ 0 by omega)
          omega⟩
        have hi2 : i2 < lg := by
          have := Int.emod_lt_of_pos R (show 0 < (lg : Int) by omega)
          omega
        have ulg : IntKind.u64.wrap (lg : Int) = (lg : Int) := by rw [IntKind.wrap_u64]; omega
        have lgz : ((lg : Int) == 0) = false := by simp; omega
        have lgz' : (lg == 0) = false := by simp; omega
        have lgn : lg ≠ 0 := by omega
        have lgn' : (lg : Int) ≠ 0 := by omega
        have hokG := okB_seal (key := key) (giveB_may HGM.out)
        have HOG := Lib.hid hokG
        obtain ⟨v2, hv2⟩ : ∃ v, bits .xor .u8 ((sealL key (giveB ⟨m, cd, no, gn, L, tg⟩)).getD i2 0) x = v := ⟨_, rfl⟩
        have hxb2 := xor_bent (okB_at hokG i2) hx HX0.out
        rw [hv2] at hxb2
        obtain ⟨hv201, hv2ne⟩ := hxb2
        have HV21 := Lib.hid hv201
        have HV2N := Lib.hid hv2ne
        have HV2V := Lib.hid hv2
        have y0 := Mine.made (base := w11.heap.size) (n := 0) (V := bval []) (Lb.Own.new w11 5 #[]) (Nat.le_refl _) (by decide) (Nat.le_refl _) (fun i hi => absurd hi (by omega))
        have ya := (Below.refl w11.heap.size w11).alloc (Nat.le_refl _) (.cells #[] 5)
        have ys : w11.heap.size ≤ (w11.alloc (.cells #[] 5)).heap.size := ya.size
        have yr := (B11.below ya).row
        rw [HLG.out] at yr
        have HY := Lib.hid y0
        have HNM2 := Lib.hid (show 0 + lg ≤ maxLen by unfold maxLen; omega)
        clear hv201 hv2ne hv2 y0 hokG
        go_wp2_with (at_builtin; go_must (refine wp_app_at rfl (.tmp 184) (.tmp 185) _ rfl w11.heap.size 5 j0 _ 1 Try.underlying30 hj0 hjz0 hjz1 hjz2 rfl _ 0 (bval []) rfl HY.out _ lg _ (bval (sealL key (giveB ⟨m, cd, no, gn, L, tg⟩))) rfl yr (fun _ _ => rfl) HNM2.out ?c2 ys ?_))
        case c2 => omega
        intro v2' w12 mm gg _
        have mm : Mine w12 w11.heap.size 5 v2' lg (bval (sealL key (giveB ⟨m, cd, no, gn, L, tg⟩))) := mm
        obtain ⟨gc, cc2, rfl⟩ := Bf.mine_form mm (by omega)
        have bm : Below w11.heap.size w11 w12 := ya.grown gg ys (fun q hq => (HY.out.lt q hq).1)
        obtain ⟨z1, z2, z3, z4⟩ := mm.at_ hi2
        unfold bval at z3
        obtain ⟨li2, hli2⟩ : ∃ v, (sealL key (giveB ⟨m, cd, no, gn, L, tg⟩)).getD i2 0 = v := ⟨_, rfl⟩
        rw [hli2] at z3
        have hvx2 : bits .xor .u8 li2 x = v2 := by rw [← hli2]; exact HV2V.out
        have hset : ∀ k, k < lg → (if k = i2 then Value.int .u8 v2 else bval (sealL key (giveB ⟨m, cd, no, gn, L, tg⟩)) k) = bval ((sealL key (giveB ⟨m, cd, no, gn, L, tg⟩)).set i2 v2) k := fun k hk => by
          unfold bval
          rw [getD_setL]
          by_cases h : k = i2
          · rw [if_pos h, if_pos ⟨h.symm, by rw [HLG.out]; exact hk⟩]
          · rw [if_neg h, if_neg (fun e => h e.1.symm)]
        have mm2 := (mm.store hi2 (.int .u8 v2)).ext hset
        have bm2 : Below w11.heap.size w11 (w12.setCell ⟨gc, i2, none⟩ (.int .u8 v2)) := bm.setCell z1 _
        have hdb : doneE m key no true ((sealL key (giveB ⟨m, cd, no, gn, L, tg⟩)).set i2 v2) ≠ 0 := done_bent (giveB_may HGM.out) (by rw [HLG.out]; exact hi2) HV21.out HV2N.out
        obtain ⟨l2, hl2⟩ : ∃ l, (sealL key (giveB ⟨m, cd, no, gn, L, tg⟩)).set i2 v2 = l := ⟨_, rfl⟩
        have hl2n : l2.length = lg := by rw [← hl2, List.length_set]; exact HLG.out
        have hl2k : okB l2 := by rw [← hl2]; exact okB_set HOG.out i2 HV21.out
        rw [hl2] at mm2 hdb
        have HM2 := Lib.hid mm2
        have HB2 := Lib.hid bm2
        have HLK2 := Lib.hid hl2k
        have HLN2 := Lib.hid hl2n
        have HDB := Lib.hid hdb
        clear gg mm hset mm2 bm2 hl2 hl2k hl2n hli2 yr ya ys z1 bm hdb
        go_upto_region 27 with (fail)
        clear hR rr hI2 ulg lgz lgz' lgn lgn' z2 z3 z4 hvx2
        have Sa := below_own HB2.out S11 S11.lt
        have ra := below_own HB2.out r11 r11.lt
        have Ba := B11.below HB2.out
        have La := L11.below HB2.out
        have ba := bx.trans (HB2.out.mono hx11)
        have Ma := HM2.out
        have hsa : w11.heap.size ≤ (w12.setCell ⟨gc, i2, none⟩ (.int .u8 v2)).heap.size := HB2.out.size
        have hsl := S11.lt
        clear S11 r11 B11 L11 bx HM2 HB2 HY
        generalize w12.setCell ⟨gc, i2, none⟩ (.int .u8 v2) = wa2 at *
        have BBa : Bs wa2 (some ⟨gc, 0, none⟩) cc2 l2 := by
          obtain ⟨x1, x2, x3, x4, x5, x6⟩ := Ma.row
          injection x3 with x3 _ x7
          subst x3 x7
          rw [← HLN2.out] at x4 x6
          exact ⟨x4, x5, x6⟩
        have hcac := BBa.cap
        have hlec := BBa.le
        rw [HLN2.out] at hlec
        unfold maxLen at hcac
        have hcc263 : (cc2 : Int) ≤ 9223372036854775807 := by omega
        have PD := done_any s m key (0 + 1) no true (some ⟨gc, 0, none⟩) cc2 l2 wa2 Sa hkey.1 (by rw [HLN2.out]; exact lgm) BBa HLK2.out
        unfold DnP doneG at PD
        rw [if_neg HDB.out, if_neg HDB.out, HLN2.out] at PD
        obtain ⟨E2, hE2⟩ : ∃ e, doneE m key no true l2 = e := ⟨_, rfl⟩
        have hE20 : (E2 == 0) = false := by
          have := HDB.out
          rw [hE2] at this
          simpa using this
        rw [hE2] at PD
        have HPD2 := Lib.hid PD
        clear PD hE2
        go_wp2_with fail
        refine HPD2.out.mono ?_
        rintro e wb2 ⟨⟨ab2, cd2, rfl, _, hbd2, _⟩, Sb, jb⟩
        have Bb := Ba.just jb (bs_sk Ba (by rw [HLG.out]; omega) Sa)
        have Lb2 := row_just2 La jb (row_sk La Sa)
        have rb2 := jb.own ra (by omega)
        have bb := jb.below ba (by omega) (by omega)
        have hsb := jb.size
        clear HPD2 Sa ra Ba La ba Ma BBa jb
        unfold giveN Gt.vals
        dsimp only
        unfold maxLen at hbd2
        have hcd263 : (cd2 : Int) ≤ 9223372036854775807 := by omega
        have bA := (Below.refl wb2.heap.size wb2).alloc (Nat.le_refl _) (.cells #[.int .i64 0, .int .i64 0, .int .u32 0, .slice ab2 0 cd2, .int .u32 0] 28)
        have S11 := below_own bA Sb Sb.lt
        have B11 := Bb.below bA
        have L11 := Lb2.below bA
        have r11 := below_own bA rb2 rb2.lt
        have bx := bb.trans (bA.mono (by omega))
        have hx11' : g0 ≤ (wb2.alloc (.cells #[.int .i64 0, .int .i64 0, .int .u32 0, .slice ab2 0 cd2, .int .u32 0] 28)).heap.size := by have := bA.size; omega
        clear hx11
        have hx11 := hx11'
        clear hx11' Sb Bb Lb2 rb2 bb
        go_upto_region 28 with (fail)
        generalize wb2.alloc (.cells #[.int .i64 0, .int .i64 0, .int .u32 0, .slice ab2 0 cd2, .int .u32 0] 28) = w11x at *
        clear bA
        go_upto_region 30 with (fail)
        clear hE20

        have PD := done_any s m key (0 + 1) no true a11 c11 (sealL key (giveB ⟨m, cd, no, gn, L, tg⟩)) w11x S11 hkey.1 (by rw [HLG.out]; exact lgm) B11 (okB_seal (giveB_may HGM.out))
        have hd0 : doneE m key no true (sealL key (giveB ⟨m, cd, no, gn, L, tg⟩)) = 0 := doneE_ok HGM.out HIN.out rfl rfl
        obtain ⟨_, e1, e2, e3, e4, e5, e6⟩ := give_back (key := key) HGM.out HIN.out
        unfold DnP doneG at PD
        rw [if_pos hd0, if_pos hd0, hd0, HLG.out] at PD
        obtain ⟨qq, hqq⟩ : ∃ q, giveR (sealL key (giveB ⟨m, cd, no, gn, L, tg⟩)) = q := ⟨_, rfl⟩
        rw [hqq] at PD e1 e2 e3 e4 e5 e6
        obtain ⟨q1, q2, q3, qn, qL, q5⟩ := qq
        dsimp only at e1 e2 e3 e4 e5 e6
        rw [← HTG.out] at e6
        subst e1 e2 e3 e4 e6
        have HPD := Lib.hid PD
        have HE5 := Lib.hid e5
        clear PD hd0 hqq e5
        go_wp2_with fail
        refine HPD.out.mono ?_
        rintro e w12 ⟨⟨a12, c12, rfl, h121, h122, h123⟩, S12, j12⟩
        have B12 := B11.just j12 (bs_sk B11 (by rw [HLG.out]; omega) S11)
        have L12 := row_just2 L11 j12 (row_sk L11 S11)
        have r12 := j12.own r11 (by omega)
        have b13 := j12.below bx (by omega) hx11
        have hz12 := j12.size
        have hs12 := S12.lt
        unfold Gt.vals
        dsimp only at h121 h123 ⊢
        have K12 : Row w12 a12 (qn * 5) (cv L) := row_cv h123 (fun k hk => HE5.out k hk)
        unfold maxLen at h122
        have hc1263 : (c12 : Int) ≤ 9223372036854775807 := by omega
        have hrb12 := r12.lt
        have ba := (Below.refl w12.heap.size w12).alloc (Nat.le_refl _) (.cells #[.int .i64 (m : Int), .int .i64 q2, .int .u32 q3, .slice a12 qn c12, .int .u32 q5] 28)
        have t13 := Lb.Own.new w12 28 #[.int .i64 (m : Int), .int .i64 q2, .int .u32 q3, .slice a12 qn c12, .int .u32 q5]
        have B13 := B12.below ba
        have L13 := L12.below ba
        have K13 := K12.below ba
        have r13 := below_own ba r12 r12.lt
        have S13 := below_own ba S12 S12.lt
        have b14 := b13.trans (ba.mono (by omega))
        clear HPD B11 S11 L11 r11 bx B12 L12 K12 r12 S12 b13 h123 j12 HE5
        go_upto_region 31 with (fail)
        obtain ⟨rc, hrc⟩ : ∃ g, w12.heap.size = g := ⟨_, rfl⟩
        rw [hrc] at t13 hs12 hz12 hrb12 ⊢
        have hrcs := t13.lt
        generalize w12.alloc (.cells #[.int .i64 (m : Int), .int .i64 q2, .int .u32 q3, .slice a12 qn c12, .int .u32 q5] 28) = w13 at *
        clear ba hrc
        have PD := done_any s m key (0 + 1) q3 false a11 c11 (sealL key (giveB ⟨m, q2, q3, qn, L, q5⟩)) w13 S13 hkey.1 (by rw [HLG.out]; exact lgm) B13 (okB_seal (giveB_may HGM.out))
        have hd7 : doneE m key q3 false (sealL key (giveB ⟨m, q2, q3, qn, L, q5⟩)) = 7 := if_pos rfl
        unfold DnP doneG at PD
        rw [if_neg (by rw [hd7]; decide), hd7, HLG.out] at PD
        have HPD := Lib.hid PD
        clear PD hd7
        go_wp2_with fail
        refine HPD.out.mono ?_
        rintro e w14 ⟨⟨a14, c14, rfl, _, h142, _⟩, _, j14⟩
        have L14 := row_just2 L13 j14 (row_sk L13 S13)
        have K14 := row_just2 K13 j14 (row_sk K13 S13)
        have r14 := j14.own r13 (by omega)
        have t14 := j14.own t13 (by omega)
        have b15 := j14.below b14 (by omega) (by omega)
        have hz14 := j14.size
        unfold giveN Gt.vals
        dsimp only
        unfold maxLen at h142
        have hc1463 : (c14 : Int) ≤ 9223372036854775807 := by omega
        have ba := (Below.refl w14.heap.size w14).alloc (Nat.le_refl _) (.cells #[.int .i64 0, .int .i64 0, .int .u32 0, .slice a14 0 c14, .int .u32 0] 28)
        have L15 := L14.below ba
        have K15 := K14.below ba
        have r15 := below_own ba r14 r14.lt
        have t15 := below_own ba t14 t14.lt
        have b16 := b15.trans (ba.mono (by omega))
        have hzz : g0 ≤ (w14.alloc (.cells #[.int .i64 0, .int .i64 0, .int .u32 0, .slice a14 0 c14, .int .u32 0] 28)).heap.size := by have := ba.size; omega
        clear HPD B13 S13 L13 K13 r13 t13 b14 L14 K14 r14 t14 b15 j14
        go_upto_region 32 with (fail)
        generalize w14.alloc (.cells #[.int .i64 0, .int .i64 0, .int .u32 0, .slice a14 0 c14, .int .u32 0] 28) = w15 at *
        clear ba
        have k0 : w15.cell? ⟨rb, 0, none⟩ = some (.int .i64 (m : Int)) := r15.cell 0
        have k1 : w15.cell? ⟨rb, 1, none⟩ = some (.int .i64 q2) := r15.cell 1
        have k2 : w15.cell? ⟨rb, 2, none⟩ = some (.int .u32 q3) := r15.cell 2
        have k3 : w15.cell? ⟨rb, 3, none⟩ = some (.slice a6 qn c6) := r15.cell 3
        have k4 : w15.cell? ⟨rb, 4, none⟩ = some (.int .u32 q5) := r15.cell 4
        have v0 : w15.cell? ⟨rc, 0, none⟩ = some (.int .i64 (m : Int)) := t15.cell 0
        have v1 : w15.cell? ⟨rc, 1, none⟩ = some (.int .i64 q2) := t15.cell 1
        have v2 : w15.cell? ⟨rc, 2, none⟩ = some (.int .u32 q3) := t15.cell 2
        have v3 : w15.cell? ⟨rc, 3, none⟩ = some (.slice a12 qn c12) := t15.cell 3
        have v4 : w15.cell? ⟨rc, 4, none⟩ = some (.int .u32 q5) := t15.cell 4
        have PS := rsamegrant_any ⟨m, q2, q3, qn, L, q5⟩ a12 a6 c12 c6 w15 h121 h61 (by unfold maxLen; exact h122) (by unfold maxLen; exact h62) K15 L15
        unfold Gt.vals at PS
        dsimp only at PS
        have HPS := Lib.hid PS
        clear PS r15 t15 K15 L15
        go_wp2_with fail
        refine HPS.out.mono ?_
        rintro e w16 ⟨rfl, b17⟩
        have b18 := b16.trans (b17.mono hzz)
        have hz16 := b17.size
        clear k0 k1 k2 k3 k4 v0 v1 v2 v3 v4 HPS b16 b17
        go_wp2_with fail
        refine (awake_join _).mono ?_
        rintro e w17 ⟨rfl, b19⟩
        have b20 := Lib.hid (b18.trans (b19.mono (by omega)))
        clear b18 b19
        go_wp2_with fail
        go_ret
        exact ⟨rfl, by rw [HG0.out]; exact b20.out⟩
      · refine wp_region_grow w9 (Below.refl _ _) [.is (.int .i64 0), .is (.bool false), .is (.bool false), .is (.int .i64 8), .is (.bool false), .is (.bool false), .is (.bool false), .is (.pointer (some ⟨rb, 0, none⟩)), .is (.int .i64 (m : Int)), .is (.int .i64 (m : Int)), .is (.bool false), .is (.bool false), .is (.bool false), .is (.pointer (some ⟨rb, 2, none⟩)), .is (.int .u32 no), .is (.int .u32 no), .is (.bool false), .is (.bool false), .is (.bool false), .is (.pointer (some ⟨rb, 1, none⟩)), .is (.int .i64 cd), .is (.bool true), .is (.slice A n cc), .is (.bool true), .is (.bool false), .is (.bool false), .is (.bool false), .is (.pointer (some ⟨rb, 3, none⟩)), .is (.slice a6 gn c6), .is (.slice A n cc), .is (.slice wA gn wc), .is (.bool true), .is (.bool false), .is (.bool false)] [] (by kernel_rfl) (by kernel_rfl) rfl (by kernel_rfl) ?_
        iterate 23
          refine kd_is (by rfl) (fun z hz K Q hK => ?_) ?_
          · go_big_op
            exact hK _ _ rfl rfl
          simp only [Act.put, List.setIfInBounds_toArray, List.set_cons_zero, List.set_cons_succ]
        refine kd_isc (by rfl) (fun z hz K Q hK => ?_) ?_
        · go_big_op
          refine (HPM.out _ (HZB.out z)).mono ?_
          rintro e w' ⟨rfl, b'⟩
          exact hK _ _ rfl b'
        simp only [Act.put, List.setIfInBounds_toArray, List.set_cons_zero, List.set_cons_succ]
        iterate 6
          refine kd_is (by rfl) (fun z hz K Q hK => ?_) ?_
          · go_big_op
            exact hK _ _ rfl rfl
          simp only [Act.put, List.setIfInBounds_toArray, List.set_cons_zero, List.set_cons_succ]
        refine kd_isc (by rfl) (fun z hz K Q hK => ?_) ?_
        · go_big_op
          refine (HPW.out _ (HZB.out z)).mono ?_
          rintro e w' ⟨rfl, b'⟩
          exact hK _ _ rfl b'
        simp only [Act.put, List.setIfInBounds_toArray, List.set_cons_zero, List.set_cons_succ]
        refine kd_isc (by rfl) (fun z hz K Q hK => ?_) ?_
        · obtain ⟨q1, q2, q3⟩ := HWR.out _ (HZB.out z)
          have PS := rsame_any a6 wA gn c6 wc L z.toW h61 q2 (by unfold maxLen; exact h62) q3 (HZR.out z) q1
          go_big_op
          refine PS.mono ?_
          rintro e w' ⟨rfl, b'⟩
          exact hK _ _ rfl b'
        simp only [Act.put, List.setIfInBounds_toArray, List.set_cons_zero, List.set_cons_succ]
        iterate 2
          refine kd_is (by rfl) (fun z hz K Q hK => ?_) ?_
          · go_big_op
            exact hK _ _ rfl rfl
          simp only [Act.put, List.setIfInBounds_toArray, List.set_cons_zero, List.set_cons_succ]
        refine kd_nil (fun z hz => ?_)
        have bz := HZB.out z
        have Lz := HZR.out z
        have rz := below_own z.ok r9 r9.lt
        have Sz := below_own z.ok S9 S9.lt
        have hzs : g0 ≤ z.toW.heap.size := Nat.le_trans hsz9 z.ok.size
        clear hz d0 d1 d2 d3 HZB HZR HL9 r9 S9 b11 hcd
        generalize z.toW = w10 at *
        have k0 : w10.cell? ⟨rb, 0, none⟩ = some (.int .i64 (m : Int)) := rz.cell 0
        have k1 : w10.cell? ⟨rb, 1, none⟩ = some (.int .i64 cd) := rz.cell 1
        have k2 : w10.cell? ⟨rb, 2, none⟩ = some (.int .u32 no) := rz.cell 2
        have k3 : w10.cell? ⟨rb, 3, none⟩ = some (.slice a6 gn c6) := rz.cell 3
        have k4 : w10.cell? ⟨rb, 4, none⟩ = some (.int .u32 tg) := rz.cell 4
        have hin : In32 no := by unfold In32; omega
        have PG := give_any key ⟨m, cd, no, gn, L, tg⟩ a6 c6 w10 hkey.1 hin h61 (by unfold maxLen; exact h62) Lz
        obtain ⟨hO, hC⟩ := give_yes (key := key) HGM.out
        have hlG : (sealL key (giveB ⟨m, cd, no, gn, L, tg⟩)).length = 8 + 5 * gn + 4 := (sealL_len _ _).trans (congrArg (· + 4) (giveB_len _))
        obtain ⟨lg, hlg⟩ : ∃ lg : Nat, 8 + 5 * gn + 4 = lg := ⟨_, rfl⟩
        rw [hO, hC, hlG, hlg] at PG
        unfold Gt.vals at PG
        dsimp only at PG
        have HPG := Lib.hid PG
        have HLG := Lib.hid (hlG.trans hlg)
        have HIN := Lib.hid hin
        have lg12 : 12 ≤ lg := by omega
        have lg63 : (lg : Int) ≤ 9223372036854775807 := by omega
        have lgd : decide (lg < 12) = false := by simp; omega
        have lgd' : decide ((lg : Int) < 12) = false := by simp; omega
        have lgm : lg ≤ 1000 := by omega
        clear PG hO hC hlG hlg hin
        go_wp2_with fail
        refine HPG.out.mono ?_
        rintro e w11 ⟨a11, c11, rfl, B11, b12⟩
        have L11 := Lz.below b12
        have r11 := below_own b12 rz rz.lt
        have S11 := below_own b12 Sz Sz.lt
        have bx := bz.trans (b12.mono hzs)
        have hx11 : g0 ≤ w11.heap.size := Nat.le_trans hzs b12.size
        have hle11 := B11.le
        have hca11 := B11.cap
        rw [HLG.out] at hle11
        unfold maxLen at hca11
        have hc1163 : (c11 : Int) ≤ 9223372036854775807 := by omega
        clear k0 k1 k2 k3 k4 HPG Lz rz Sz bz b12 hzs
        have hR := hRI.out
        have rr := hrr.out
        obtain ⟨i2, hI2⟩ : ∃ i : Nat, R % (lg : Int) = (i : Int) := ⟨(R % (lg : Int)).toNat, by
          have := Int.emod_nonneg R (show (lg : Int) ≠ 0 by omega)
          omega⟩
        have hi2 : i2 < lg := by
          have := Int.emod_lt_of_pos R (show 0 < (lg : Int) by omega)
          omega
        have ulg : IntKind.u64.wrap (lg : Int) = (lg : Int) := by rw [IntKind.wrap_u64]; omega
        have lgz : ((lg : Int) == 0) = false := by simp; omega
        have lgz' : (lg == 0) = false := by simp; omega
        have lgn : lg ≠ 0 := by omega
        have lgn' : (lg : Int) ≠ 0 := by omega
        have hokG := okB_seal (key := key) (giveB_may HGM.out)
        have HOG := Lib.hid hokG
        obtain ⟨v2, hv2⟩ : ∃ v, bits .xor .u8 ((sealL key (giveB ⟨m, cd, no, gn, L, tg⟩)).getD i2 0) x = v := ⟨_, rfl⟩
        have hxb2 := xor_bent (okB_at hokG i2) hx HX0.out
        rw [hv2] at hxb2
        obtain ⟨hv201, hv2ne⟩ := hxb2
        have HV21 := Lib.hid hv201
        have HV2N := Lib.hid hv2ne
        have HV2V := Lib.hid hv2
        have y0 := Mine.made (base := w11.heap.size) (n := 0) (V := bval []) (Lb.Own.new w11 5 #[]) (Nat.le_refl _) (by decide) (Nat.le_refl _) (fun i hi => absurd hi (by omega))
        have ya := (Below.refl w11.heap.size w11).alloc (Nat.le_refl _) (.cells #[] 5)
        have ys : w11.heap.size ≤ (w11.alloc (.cells #[] 5)).heap.size := ya.size
        have yr := (B11.below ya).row
        rw [HLG.out] at yr
        have HY := Lib.hid y0
        have HNM2 := Lib.hid (show 0 + lg ≤ maxLen by unfold maxLen; omega)
        clear hv201 hv2ne hv2 y0 hokG
        go_wp2_with (at_builtin; go_must (refine wp_app_at rfl (.tmp 184) (.tmp 185) _ rfl w11.heap.size 5 j0 _ 1 Try.underlying30 hj0 hjz0 hjz1 hjz2 rfl _ 0 (bval []) rfl HY.out _ lg _ (bval (sealL key (giveB ⟨m, cd, no, gn, L, tg⟩))) rfl yr (fun _ _ => rfl) HNM2.out ?c2 ys ?_))
        case c2 => omega
        intro v2' w12 mm gg _
        have mm : Mine w12 w11.heap.size 5 v2' lg (bval (sealL key (giveB ⟨m, cd, no, gn, L, tg⟩))) := mm
        obtain ⟨gc, cc2, rfl⟩ := Bf.mine_form mm (by omega)
        have bm : Below w11.heap.size w11 w12 := ya.grown gg ys (fun q hq => (HY.out.lt q hq).1)
        obtain ⟨z1, z2, z3, z4⟩ := mm.at_ hi2
        unfold bval at z3
        obtain ⟨li2, hli2⟩ : ∃ v, (sealL key (giveB ⟨m, cd, no, gn, L, tg⟩)).getD i2 0 = v := ⟨_, rfl⟩
        rw [hli2] at z3
        have hvx2 : bits .xor .u8 li2 x = v2 := by rw [← hli2]; exact HV2V.out
        have hset : ∀ k, k < lg → (if k = i2 then Value.int .u8 v2 else bval (sealL key (giveB ⟨m, cd, no, gn, L, tg⟩)) k) = bval ((sealL key (giveB ⟨m, cd, no, gn, L, tg⟩)).set i2 v2) k := fun k hk => by
          unfold bval
          rw [getD_setL]
          by_cases h : k = i2
          · rw [if_pos h, if_pos ⟨h.symm, by rw [HLG.out]; exact hk⟩]
          · rw [if_neg h, if_neg (fun e => h e.1.symm)]
        have mm2 := (mm.store hi2 (.int .u8 v2)).ext hset
        have bm2 : Below w11.heap.size w11 (w12.setCell ⟨gc, i2, none⟩ (.int .u8 v2)) := bm.setCell z1 _
        have hdb : doneE m key no true ((sealL key (giveB ⟨m, cd, no, gn, L, tg⟩)).set i2 v2) ≠ 0 := done_bent (giveB_may HGM.out) (by rw [HLG.out]; exact hi2) HV21.out HV2N.out
        obtain ⟨l2, hl2⟩ : ∃ l, (sealL key (giveB ⟨m, cd, no, gn, L, tg⟩)).set i2 v2 = l := ⟨_, rfl⟩
        have hl2n : l2.length = lg := by rw [← hl2, List.length_set]; exact HLG.out
        have hl2k : okB l2 := by rw [← hl2]; exact okB_set HOG.out i2 HV21.out
        rw [hl2] at mm2 hdb
        have HM2 := Lib.hid mm2
        have HB2 := Lib.hid bm2
        have HLK2 := Lib.hid hl2k
        have HLN2 := Lib.hid hl2n
        have HDB := Lib.hid hdb
        clear gg mm hset mm2 bm2 hl2 hl2k hl2n hli2 yr ya ys z1 bm hdb
        go_upto_region 27 with (fail)
        clear hR rr hI2 ulg lgz lgz' lgn lgn' z2 z3 z4 hvx2
        have Sa := below_own HB2.out S11 S11.lt
        have ra := below_own HB2.out r11 r11.lt
        have Ba := B11.below HB2.out
        have La := L11.below HB2.out
        have ba := bx.trans (HB2.out.mono hx11)
        have Ma := HM2.out
        have hsa : w11.heap.size ≤ (w12.setCell ⟨gc, i2, none⟩ (.int .u8 v2)).heap.size := HB2.out.size
        have hsl := S11.lt
        clear S11 r11 B11 L11 bx HM2 HB2 HY
        generalize w12.setCell ⟨gc, i2, none⟩ (.int .u8 v2) = wa2 at *
        have BBa : Bs wa2 (some ⟨gc, 0, none⟩) cc2 l2 := by
          obtain ⟨x1, x2, x3, x4, x5, x6⟩ := Ma.row
          injection x3 with x3 _ x7
          subst x3 x7
          rw [← HLN2.out] at x4 x6
          exact ⟨x4, x5, x6⟩
        have hcac := BBa.cap
        have hlec := BBa.le
        rw [HLN2.out] at hlec
        unfold maxLen at hcac
        have hcc263 : (cc2 : Int) ≤ 9223372036854775807 := by omega
        have PD := done_any s m key (0 + 1) no true (some ⟨gc, 0, none⟩) cc2 l2 wa2 Sa hkey.1 (by rw [HLN2.out]; exact lgm) BBa HLK2.out
        unfold DnP doneG at PD
        rw [if_neg HDB.out, if_neg HDB.out, HLN2.out] at PD
        obtain ⟨E2, hE2⟩ : ∃ e, doneE m key no true l2 = e := ⟨_, rfl⟩
        have hE20 : (E2 == 0) = false := by
          have := HDB.out
          rw [hE2] at this
          simpa using this
        rw [hE2] at PD
        have HPD2 := Lib.hid PD
        clear PD hE2
        go_wp2_with fail
        refine HPD2.out.mono ?_
        rintro e wb2 ⟨⟨ab2, cd2, rfl, _, hbd2, _⟩, Sb, jb⟩
        have Bb := Ba.just jb (bs_sk Ba (by rw [HLG.out]; omega) Sa)
        have Lb2 := row_just2 La jb (row_sk La Sa)
        have rb2 := jb.own ra (by omega)
        have bb := jb.below ba (by omega) (by omega)
        have hsb := jb.size
        clear HPD2 Sa ra Ba La ba Ma BBa jb
        unfold giveN Gt.vals
        dsimp only
        unfold maxLen at hbd2
        have hcd263 : (cd2 : Int) ≤ 9223372036854775807 := by omega
        have bA := (Below.refl wb2.heap.size wb2).alloc (Nat.le_refl _) (.cells #[.int .i64 0, .int .i64 0, .int .u32 0, .slice ab2 0 cd2, .int .u32 0] 28)
        have S11 := below_own bA Sb Sb.lt
        have B11 := Bb.below bA
        have L11 := Lb2.below bA
        have r11 := below_own bA rb2 rb2.lt
        have bx := bb.trans (bA.mono (by omega))
        have hx11' : g0 ≤ (wb2.alloc (.cells #[.int .i64 0, .int .i64 0, .int .u32 0, .slice ab2 0 cd2, .int .u32 0] 28)).heap.size := by have := bA.size; omega
        clear hx11
        have hx11 := hx11'
        clear hx11' Sb Bb Lb2 rb2 bb
        go_upto_region 28 with (fail)
        generalize wb2.alloc (.cells #[.int .i64 0, .int .i64 0, .int .u32 0, .slice ab2 0 cd2, .int .u32 0] 28) = w11x at *
        clear bA
        go_upto_region 30 with (fail)
        clear hE20

        have PD := done_any s m key (0 + 1) no true a11 c11 (sealL key (giveB ⟨m, cd, no, gn, L, tg⟩)) w11x S11 hkey.1 (by rw [HLG.out]; exact lgm) B11 (okB_seal (giveB_may HGM.out))
        have hd0 : doneE m key no true (sealL key (giveB ⟨m, cd, no, gn, L, tg⟩)) = 0 := doneE_ok HGM.out HIN.out rfl rfl
        obtain ⟨_, e1, e2, e3, e4, e5, e6⟩ := give_back (key := key) HGM.out HIN.out
        unfold DnP doneG at PD
        rw [if_pos hd0, if_pos hd0, hd0, HLG.out] at PD
        obtain ⟨qq, hqq⟩ : ∃ q, giveR (sealL key (giveB ⟨m, cd, no, gn, L, tg⟩)) = q := ⟨_, rfl⟩
        rw [hqq] at PD e1 e2 e3 e4 e5 e6
        obtain ⟨q1, q2, q3, qn, qL, q5⟩ := qq
        dsimp only at e1 e2 e3 e4 e5 e6
        rw [← HTG.out] at e6
        subst e1 e2 e3 e4 e6
        have HPD := Lib.hid PD
        have HE5 := Lib.hid e5
        clear PD hd0 hqq e5
        go_wp2_with fail
        refine HPD.out.mono ?_
        rintro e w12 ⟨⟨a12, c12, rfl, h121, h122, h123⟩, S12, j12⟩
        have B12 := B11.just j12 (bs_sk B11 (by rw [HLG.out]; omega) S11)
        have L12 := row_just2 L11 j12 (row_sk L11 S11)
        have r12 := j12.own r11 (by omega)
        have b13 := j12.below bx (by omega) hx11
        have hz12 := j12.size
        have hs12 := S12.lt
        unfold Gt.vals
        dsimp only at h121 h123 ⊢
        have K12 : Row w12 a12 (qn * 5) (cv L) := row_cv h123 (fun k hk => HE5.out k hk)
        unfold maxLen at h122
        have hc1263 : (c12 : Int) ≤ 9223372036854775807 := by omega
        have hrb12 := r12.lt
        have ba := (Below.refl w12.heap.size w12).alloc (Nat.le_refl _) (.cells #[.int .i64 (m : Int), .int .i64 q2, .int .u32 q3, .slice a12 qn c12, .int .u32 q5] 28)
        have t13 := Lb.Own.new w12 28 #[.int .i64 (m : Int), .int .i64 q2, .int .u32 q3, .slice a12 qn c12, .int .u32 q5]
        have B13 := B12.below ba
        have L13 := L12.below ba
        have K13 := K12.below ba
        have r13 := below_own ba r12 r12.lt
        have S13 := below_own ba S12 S12.lt
        have b14 := b13.trans (ba.mono (by omega))
        clear HPD B11 S11 L11 r11 bx B12 L12 K12 r12 S12 b13 h123 j12 HE5
        go_upto_region 31 with (fail)
        obtain ⟨rc, hrc⟩ : ∃ g, w12.heap.size = g := ⟨_, rfl⟩
        rw [hrc] at t13 hs12 hz12 hrb12 ⊢
        have hrcs := t13.lt
        generalize w12.alloc (.cells #[.int .i64 (m : Int), .int .i64 q2, .int .u32 q3, .slice a12 qn c12, .int .u32 q5] 28) = w13 at *
        clear ba hrc
        have PD := done_any s m key (0 + 1) q3 false a11 c11 (sealL key (giveB ⟨m, q2, q3, qn, L, q5⟩)) w13 S13 hkey.1 (by rw [HLG.out]; exact lgm) B13 (okB_seal (giveB_may HGM.out))
        have hd7 : doneE m key q3 false (sealL key (giveB ⟨m, q2, q3, qn, L, q5⟩)) = 7 := if_pos rfl
        unfold DnP doneG at PD
        rw [if_neg (by rw [hd7]; decide), hd7, HLG.out] at PD
        have HPD := Lib.hid PD
        clear PD hd7
        go_wp2_with fail
        refine HPD.out.mono ?_
        rintro e w14 ⟨⟨a14, c14, rfl, _, h142, _⟩, _, j14⟩
        have L14 := row_just2 L13 j14 (row_sk L13 S13)
        have K14 := row_just2 K13 j14 (row_sk K13 S13)
        have r14 := j14.own r13 (by omega)
        have t14 := j14.own t13 (by omega)
        have b15 := j14.below b14 (by omega) (by omega)
        have hz14 := j14.size
        unfold giveN Gt.vals
        dsimp only
        unfold maxLen at h142
        have hc1463 : (c14 : Int) ≤ 9223372036854775807 := by omega
        have ba := (Below.refl w14.heap.size w14).alloc (Nat.le_refl _) (.cells #[.int .i64 0, .int .i64 0, .int .u32 0, .slice a14 0 c14, .int .u32 0] 28)
        have L15 := L14.below ba
        have K15 := K14.below ba
        have r15 := below_own ba r14 r14.lt
        have t15 := below_own ba t14 t14.lt
        have b16 := b15.trans (ba.mono (by omega))
        have hzz : g0 ≤ (w14.alloc (.cells #[.int .i64 0, .int .i64 0, .int .u32 0, .slice a14 0 c14, .int .u32 0] 28)).heap.size := by have := ba.size; omega
        clear HPD B13 S13 L13 K13 r13 t13 b14 L14 K14 r14 t14 b15 j14
        go_upto_region 32 with (fail)
        generalize w14.alloc (.cells #[.int .i64 0, .int .i64 0, .int .u32 0, .slice a14 0 c14, .int .u32 0] 28) = w15 at *
        clear ba
        have k0 : w15.cell? ⟨rb, 0, none⟩ = some (.int .i64 (m : Int)) := r15.cell 0
        have k1 : w15.cell? ⟨rb, 1, none⟩ = some (.int .i64 q2) := r15.cell 1
        have k2 : w15.cell? ⟨rb, 2, none⟩ = some (.int .u32 q3) := r15.cell 2
        have k3 : w15.cell? ⟨rb, 3, none⟩ = some (.slice a6 qn c6) := r15.cell 3
        have k4 : w15.cell? ⟨rb, 4, none⟩ = some (.int .u32 q5) := r15.cell 4
        have v0 : w15.cell? ⟨rc, 0, none⟩ = some (.int .i64 (m : Int)) := t15.cell 0
        have v1 : w15.cell? ⟨rc, 1, none⟩ = some (.int .i64 q2) := t15.cell 1
        have v2 : w15.cell? ⟨rc, 2, none⟩ = some (.int .u32 q3) := t15.cell 2
        have v3 : w15.cell? ⟨rc, 3, none⟩ = some (.slice a12 qn c12) := t15.cell 3
        have v4 : w15.cell? ⟨rc, 4, none⟩ = some (.int .u32 q5) := t15.cell 4
        have PS := rsamegrant_any ⟨m, q2, q3, qn, L, q5⟩ a12 a6 c12 c6 w15 h121 h61 (by unfold maxLen; exact h122) (by unfold maxLen; exact h62) K15 L15
        unfold Gt.vals at PS
        dsimp only at PS
        have HPS := Lib.hid PS
        clear PS r15 t15 K15 L15
        go_wp2_with fail
        refine HPS.out.mono ?_
        rintro e w16 ⟨rfl, b17⟩
        have b18 := b16.trans (b17.mono hzz)
        have hz16 := b17.size
        clear k0 k1 k2 k3 k4 v0 v1 v2 v3 v4 HPS b16 b17
        go_wp2_with fail
        refine (awake_join _).mono ?_
        rintro e w17 ⟨rfl, b19⟩
        have b20 := Lib.hid (b18.trans (b19.mono (by omega)))
        clear b18 b19
        go_wp2_with fail
        go_ret
        exact ⟨rfl, by rw [HG0.out]; exact b20.out⟩

theorem walk (H : Type) (enc : TypeId × Value → H) : Walk H enc Try.prog 4 Try.f4 := by
  intro W base args ds p hval hA
  rw [Try.params4] at hA hval
  obtain ⟨v0, vs, d0, ds', p0, q0, e0, rfl, rfl, h0, hA⟩ := trodAll_cons hA
  obtain ⟨v1, vs1, d1, ds1, p1, q1, rfl, rfl, rfl, h1, hA⟩ := trodAll_cons hA
  obtain ⟨v2, vs2, d2, ds2, p2, q2, rfl, rfl, rfl, h2, hA⟩ := trodAll_cons hA
  obtain ⟨v3, vs3, d3, ds3, p3, q3, rfl, rfl, rfl, h3, hA⟩ := trodAll_cons hA
  obtain ⟨v4, vs4, d4, ds4, p4, q4, rfl, rfl, rfl, h4, hA⟩ := trodAll_cons hA
  obtain ⟨v5, vs5, d5, ds5, p5, q5, rfl, rfl, rfl, h5, hA⟩ := trodAll_cons hA
  obtain ⟨v6, vs6, d6, ds6, p6, q6, rfl, rfl, rfl, h6, hA⟩ := trodAll_cons hA
  obtain ⟨rfl, rfl, rfl⟩ := trodAll_nil hA
  obtain ⟨l⟩ := args
  dsimp only at e0
  subst e0
  obtain ⟨a0, rfl, rfl, rfl, _⟩ := open_int Try.underlying3 (hval 0 _ v0 rfl rfl) h0
  obtain ⟨a1, rfl, rfl, rfl, _⟩ := open_int Try.underlying3 (hval 1 _ v1 rfl rfl) h1
  obtain ⟨key, rfl, rfl, rfl, w2⟩ := open_int Try.underlying22 (hval 2 _ v2 rfl rfl) h2
  obtain ⟨no, rfl, rfl, rfl, w3⟩ := open_int Try.underlying23 (hval 3 _ v3 rfl rfl) h3
  obtain ⟨A, n, cc, L, rfl, hn, hcc, hL, _⟩ := open_cells (hval 4 _ v4 rfl rfl) h4
  obtain ⟨at_, rfl, rfl, rfl, _⟩ := open_int Try.underlying3 (hval 5 _ v5 rfl rfl) h5
  obtain ⟨x, rfl, rfl, rfl, w6⟩ := open_int Try.underlying5 (hval 6 _ v6 rfl rfl) h6
  exact body a0 a1 key no A n cc L at_ x W (u64_bd w2) (u32_bd w3) hn hcc hL (Lb.u8_bd w6)

set_option maxRecDepth 100000 in
theorem lifted (os : Os) (started : os.Started) (H : Type) (enc : TypeId × Value → H) :
    ReturnsInHanded {} Try.checked os 4 .any (Rows.joinOnceSpec.pre6 enc Try.prog Try.f4 Rows.joinOnceRow.domain false) (Rows.joinOnceSpec.post enc Try.prog Try.f4 false true false false) :=
  returnsInHanded_of_change (C := Try.checked) own started (by kernel_rfl) Try.func4
    (ChangeSpec.witness6 (enc := enc) (C := Try.checked) false ⟨#[], #[.int .i64 0, (.int .i64 0), (.int .u64 0), (.int .u32 0), (.slice none 0 0), (.int .i64 0), (.int .u8 0)], []⟩ 8 (by kernel_rfl) (by kernel_rfl) (by kernel_rfl) (by kernel_rfl))
    fun W base args ds gs before hval hW _ _ => step_of_walk laidOut (by rw [Try.params4]; exact of_decide_eq_true (by kernel_rfl)) (by kernel_rfl) Try.underlying4 rfl
      (fun ds h => by
        rw [Try.params4] at h
        match ds, h with
        | [_, _, _, _, _, _, _], _ => rfl) (walk H enc) W base args ds gs before hval hW

theorem holds : Rows.JoinOnceSaid :=
  OpenClaim.holds_of_wide 4 Try.f4 rfl rfl rfl rfl rfl rfl rfl ⟨rfl, rfl, rfl, rfl, rfl⟩ rfl rfl rfl rfl rfl (by kernel_rfl) Try.func4 (by kernel_rfl)
    (of_decide_eq_true (by kernel_rfl)) (by unfold Func.isWrapper; first | (rw [if_pos (by decide +kernel)]; kernel_rfl) | (rw [if_neg (by decide +kernel)]; exact ⟨rfl, rfl⟩))
    (fun os started H enc _ => lifted os started H enc)
#print axioms holds
end Go.Proofs.Ytphiohdhgkpgnaa.JoinOnce
