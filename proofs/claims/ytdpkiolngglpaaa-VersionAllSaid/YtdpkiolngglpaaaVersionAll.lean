/-
  Law VersionAll: a version counts just when all are ready; broken off it never does, and its number is not used again; the call returns true. No condition.
-/
import Derived.Test.YtdpkiolngglpaaaVeAwake
import Derived.Deep.CutBlock
import Derived.Deep.DeepCutAuto
import Derived.BigRegion
import Derived.IntWalk
set_option maxRecDepth 100000
namespace Go.Proofs.Ytdpkiolngglpaaa.VersionAll
set_option linter.unusedVariables false
open Go.RowKit Go.ChangeShapes Go.WideShapes Go.ChangeAt Go.Deep Lb Mi Al Ve
theorem own : ownKnob Try.prog.godebug = none := by kernel_rfl
theorem laidOut : laidOutB Try.prog = true := by kernel_rfl
theorem wait_set {R : Nat → Bool} {k : Nat} (hR : R k = false) : ∀ {n : Nat}, k < n → (waitL n (setR R k)).length + 1 = (waitL n R).length
  | 0, h => absurd h (by omega)
  | n + 1, h => by
    by_cases e : k = n
    · subst e
      have h1 : setR R k k = true := by unfold setR; rw [if_pos rfl]
      have h2 : waitL k (setR R k) = waitL k R := by
        unfold waitL
        refine List.filter_congr (fun i hi => ?_)
        have := List.mem_range.1 hi
        unfold setR
        rw [if_neg (by omega)]
      rw [waitL_no h1, waitL_yes hR, h2, List.length_append, List.length_singleton]
    · have ih := wait_set hR (n := n) (by omega)
      have h1 : setR R k n = R n := by unfold setR; rw [if_neg (by omega)]
      cases hn : R n
      · rw [waitL_yes (h1.trans hn), waitL_yes hn]
        simp only [List.length_append, List.length_singleton]
        omega
      · rw [waitL_no (h1.trans hn), waitL_no hn]
        exact ih
theorem wait_all (n : Nat) : (waitL n (fun _ => false)).length = n := by
  induction n with
  | zero => rfl
  | succ n ih => rw [waitL_yes rfl, List.length_append, List.length_singleton, ih]
theorem mo_cells {w w' : World} {lo q : Nat} {m : Option Nat} {t : TypeId} {n : Nat} {V : Nat → Value} (h : Mo w lo m []) (o : Blk w q t n V) (j : Just q w w') : Mo w' lo m [] := by
  rcases h with h | ⟨bm, e, h0, vs, h1, h2⟩
  · exact .inl h
  · refine .inr ⟨bm, e, h0, vs, ?_, fun i hi => absurd hi (by simp)⟩
    refine (j.block bm (iter_lt h1) (fun e' => ?_)).trans h1
    subst e'
    have o' : w.heap[bm]? = some _ := o
    rw [h1] at o'
    cases o'
/-- The law's state. -/
structure Vs (W w : World) (b rb n : Nat) (R : Nat → Bool) (x : Option Nat) : Prop where
  bk : Bk w b n 0 1 true R none x [] []
  ar : Blk w rb 45 16 (fun j => .bool (R j))
  ne : rb ≠ b
  lb : W.heap.size ≤ b
  lr : W.heap.size ≤ rb
  bel : Below W.heap.size W w
set_option maxHeartbeats 8000000 in
theorem body (x0 : Int) (a : Option Addr) (m c : Nat) (X : Nat → Int) (ab : Bool) (w : World) (hm : m ≤ c) (hc : c ≤ maxLen) (hX : Row w a m (fun i => .int .i64 (X i))) :
    Calls Try.prog 6 #[.int .i64 x0, .slice a m c, .bool ab] w fun r w' => r = .returned (.bool true) ∧ Below w.heap.size w w' := by
  have hend : ∀ wz, Below w.heap.size w wz → Calls Try.prog 8 #[] wz fun r w' => r = .returned (.bool true) ∧ Below w.heap.size w w' := fun wz tz =>
    (awake_any wz).mono (by rintro r w' ⟨rfl, b1⟩; exact ⟨rfl, tz.trans (b1.mono tz.size)⟩)
  have hm63 : (m : Int) ≤ 9223372036854775807 := by unfold maxLen at hc; omega
  obtain ⟨n0, hn0, hn16⟩ : ∃ n0 : Nat, wrap64 ((IntKind.u64.wrap x0).tmod 16) = (n0 : Int) ∧ n0 < 16 := by
    rw [IntKind.wrap_u64, Int.tmod_eq_emod_of_nonneg (Int.emod_nonneg _ (by decide))]
    refine ⟨((x0 % 18446744073709551616) % 16).toNat, ?_, by omega⟩
    rw [IntWalk.wrap64_in _ ⟨by omega, by omega⟩]
    omega
  obtain ⟨n, hn⟩ : ∃ n, n0 + 1 = n := ⟨_, rfl⟩
  have e1 : IntKind.i64.wrap (1 + (n0 : Int)) = (n : Int) := by rw [IntWalk.i64_in _ (by omega)]; omega
  have hn1 : 1 ≤ n ∧ n ≤ 16 := by omega
  have hN : min (max (n : Int) 1) 16 = (n : Int) := by omega
  have hbe : ∀ la, la < 1000000 → begE (n : Int) la [] = 0 := fun la hla => by
    have h2 : clB [] = true := by
      have e : decide (NoC (allO [])) = true := decide_eq_true List.Pairwise.nil
      unfold clB
      rw [Bool.and_eq_true]
      exact ⟨rfl, e⟩
    unfold begE
    rw [show fitB (n : Int) [] = true from rfl, h2, if_neg (by decide), if_neg (by decide), if_neg (by omega)]
  have HBE := Lib.hid hbe
  have HN := Lib.hid hN
  clear hbe hN hn
  go_enter Try.func6, Try.ntmps6
  go_wp2_with fail
  refine (new_any _ w).mono ?_
  rintro r w1 ⟨b, rfl, hwb, h1, b1⟩
  rw [HN.out] at h1
  clear hn0 e1
  go_wp2_with fail
  refine (begin_yes b n 0 0 _ none none none [] [] [] w1 h1 (.inl ⟨rfl, rfl⟩) (by decide) (by simp) (fun e he => by cases he) (by decide) (HBE.out 0 (by decide))).mono ?_
  rintro r w2 ⟨rfl, j2, x, Lx', h2, hp⟩
  have hLx : Lx' = [] := List.perm_nil.1 hp
  subst hLx
  rw [show (0 : Int) + 1 = 1 from rfl] at h2 ⊢
  have b2 := j2.below b1 hwb b1.size
  clear hp h1 j2 b1
  go_wp2_with fail
  refine (begin_begun b n 0 1 _ none x none [] [] w2 h2).mono ?_
  rintro r w' ⟨rfl, rfl⟩
  go_wp2_with fail
  refine (waits_any b n 0 1 _ none x [] [] w2 h2 hn1.2).mono ?_
  rintro r w3 ⟨a3, c3, rfl, _, b3⟩
  rw [wait_all]
  have h3 := h2.below b3
  have b4 := b2.trans (b3.mono b2.size)
  have g1 : ((n : Int) != (n : Int)) = false := by simp
  clear h2 b2 b3
  go_upto_region 7 with (fail)
  go_upto_region 8 with (fail)
  have ar : Blk (w3.alloc (.cells #[.bool false, .bool false, .bool false, .bool false, .bool false, .bool false, .bool false, .bool false, .bool false, .bool false, .bool false, .bool false, .bool false, .bool false, .bool false, .bool false] 45)) w3.heap.size 45 16 (fun _ => .bool false) := Blk.of (Own.new w3 45 #[.bool false, .bool false, .bool false, .bool false, .bool false, .bool false, .bool false, .bool false, .bool false, .bool false, .bool false, .bool false, .bool false, .bool false, .bool false, .bool false]) rfl (fun i hi => by
    rcases (show i = 0 ∨ i = 1 ∨ i = 2 ∨ i = 3 ∨ i = 4 ∨ i = 5 ∨ i = 6 ∨ i = 7 ∨ i = 8 ∨ i = 9 ∨ i = 10 ∨ i = 11 ∨ i = 12 ∨ i = 13 ∨ i = 14 ∨ i = 15 by omega) with rfl | rfl | rfl | rfl | rfl | rfl | rfl | rfl | rfl | rfl | rfl | rfl | rfl | rfl | rfl | rfl <;> rfl)
  have v0 : Vs w (w3.alloc (.cells #[.bool false, .bool false, .bool false, .bool false, .bool false, .bool false, .bool false, .bool false, .bool false, .bool false, .bool false, .bool false, .bool false, .bool false, .bool false, .bool false] 45)) b w3.heap.size n (fun _ => false) x := ⟨h3.below ((Below.refl _ _).alloc (Nat.le_refl _) _), ar, fun e => by have := h3.blk.lt; omega, hwb, b4.size, b4.alloc b4.size _⟩
  obtain ⟨rb, hrb⟩ : ∃ q, w3.heap.size = q := ⟨_, rfl⟩
  rw [hrb] at v0 ⊢
  generalize w3.alloc (.cells #[.bool false, .bool false, .bool false, .bool false, .bool false, .bool false, .bool false, .bool false, .bool false, .bool false, .bool false, .bool false, .bool false, .bool false, .bool false, .bool false] 45) = w4 at *
  clear ar h3 b4 hrb g1
  go_upto_block 0 with (fail)
  go_cut [13] (fun s wz => ∃ R, s = .int .i64 ((n - (waitL n R).length : Nat) : Int) ∧ Vs w wz b rb n R x)
  case first =>
    go_wp2_with fail
    go_loopw [13, 59] (fun s i wr => ∃ (k : Nat) (R : Nat → Bool), i = .int .i64 k ∧ k ≤ m ∧ s = .int .i64 ((n - (waitL n R).length : Nat) : Int) ∧ Vs w wr b rb n R x) (fun _ i _ => m - (intOf i).toNat)
    case atStart => exact ⟨0, fun _ => false, rfl, by omega, by rw [wait_all, Nat.sub_self]; rfl, v0⟩
    case round =>
      clear v0
      obtain ⟨k, R, rfl, hk, rfl, v⟩ := hrel
      obtain ⟨q, hq⟩ : ∃ q, n - (waitL n R).length = q := ⟨_, rfl⟩
      rw [hq]
      by_cases hlt : k < m
      rotate_left 1
      · obtain rfl : k = m := by omega
        have g4 : decide ((k : Int) < (k : Int)) = false := by simp
        have HQ := Lib.hid hq
        clear hq
        go_wp2_with fail
        go_meet
        exact ⟨R, by rw [HQ.out], v⟩
      obtain ⟨bo, off, rfl, hbo, c0⟩ := hX.at_old v.bel hlt
      by_cases h60 : 60 ≤ k
      · have g4 : decide ((60 : Int) ≤ (k : Int)) = true := by simp; omega
        have HQ := Lib.hid hq
        clear hq
        go_wp2_with fail
        go_meet
        exact ⟨R, by rw [HQ.out], v⟩
      have g4 : decide ((60 : Int) ≤ (k : Int)) = false := by simp; omega
      have en : IntKind.u64.wrap (n : Int) = (n : Int) := by rw [IntKind.wrap_u64]; omega
      have en0 : ((n : Int) == 0) = false := by simp; omega
      obtain ⟨u, hu, hun⟩ : ∃ u : Nat, wrap64 ((IntKind.u64.wrap (X k)).tmod (n : Int)) = (u : Int) ∧ u < n := by
        rw [IntKind.wrap_u64, Int.tmod_eq_emod_of_nonneg (Int.emod_nonneg _ (by decide))]
        have h1 := Int.emod_nonneg (X k % 18446744073709551616) (show (n : Int) ≠ 0 by omega)
        have h2 := Int.emod_lt_of_pos (X k % 18446744073709551616) (show 0 < (n : Int) by omega)
        refine ⟨((X k % 18446744073709551616) % (n : Int)).toNat, ?_, by omega⟩
        rw [IntWalk.wrap64_in _ ⟨by omega, by omega⟩]
        omega
      go_upto_region 14 with (fail)
      rw [hu]
      have hL := waitL_len n R
      have hu16 : u < 16 := by omega
      have hui : (u : Int) < 16 := by omega
      clear hu en en0 g4
      cases hRu : R u
      · have hws := wait_set hRu hun
        obtain ⟨L, hLe⟩ : ∃ L, (waitL n (setR R u)).length = L := ⟨_, rfl⟩
        have hq1 : n - L = q + 1 := by omega
        have eL : IntKind.i64.wrap ((n : Int) - ((q : Int) + 1)) = (L : Int) := by rw [IntWalk.i64_in _ (by omega)]; omega
        have eL' : (n : Int) - ((q : Int) + 1) = (L : Int) := by omega
        have gL : ((L : Int) != (L : Int)) = false := by simp
        have eq1 : IntKind.i64.wrap ((q : Int) + 1) = (q : Int) + 1 := IntWalk.i64_in _ (by omega)
        have PW : ∀ w', Bk w' b n 0 1 true (setR R u) none x [] [] → _ := fun w' h' => waits_any b n 0 1 (setR R u) none x [] [] w' h' hn1.2
        rw [hLe] at PW
        have HL := Lib.hid hLe
        have HQ1 := Lib.hid hq1
        clear hws hq hLe hq1 hL
        go_wp2_with fail
        refine (ready_yes b n 0 1 R none x [] [] u _ v.bk (by omega) (by omega) hRu).mono ?_
        rintro r w5 ⟨rfl, h5, j5⟩
        have ar5 : Blk w5 rb 45 16 (fun j => .bool (R j)) := j5.blk v.ar v.ne
        have b5 := j5.below v.bel v.lb v.bel.size
        have c5 : w5.cell? ⟨rb, u, none⟩ = some (.bool false) := by rw [ar5.cell hu16, hRu]
        have f5 : w5.frozen? ⟨rb, u, none⟩ = false := ar5.free u
        have hne := v.ne
        have hlb := v.lb
        have hlr := v.lr
        have ar6 : Blk (w5.setCell ⟨rb, u, none⟩ (.bool true)) rb 45 16 (fun j => .bool (setR R u j)) := (ar5.put u (.bool true)).ext (fun i hi => by
          unfold setR
          by_cases e : i = u
          · rw [if_pos e, if_pos e]
          · rw [if_neg e, if_neg e])
        have j6 := Just.set rb w5 u (.bool true)
        have h6 : Bk (w5.setCell ⟨rb, u, none⟩ (.bool true)) b n 0 1 true (setR R u) none x [] [] := ⟨j6.blk h5.blk hne.symm, mo_cells h5.now ar5 j6, mo_cells h5.next ar5 j6⟩
        have b6 := j6.below b5 hlr b5.size
        clear v hRu j5 h5 ar5 b5 j6
        go_upto_region 20 with (fail)
        generalize w5.setCell ⟨rb, u, none⟩ (.bool true) = w6 at *
        clear c5 f5
        clear w5
        go_wp2_with fail
        refine (PW _ h6).mono ?_
        rintro r w7 ⟨a7, c7, rfl, _, b7⟩
        have v7 : Vs w w7 b rb n (setR R u) x := ⟨h6.below b7, (b7.block rb ar6.lt).trans ar6, hne, hlb, hlr, b6.trans (b7.mono b6.size)⟩
        go_wp2_with fail
        exact ⟨⟨k + 1, setR R u, by simp, by omega, by rw [HL.out, HQ1.out]; simp, v7⟩, by simp [intOf]; omega⟩
      · obtain ⟨L, hLe⟩ : ∃ L, (waitL n R).length = L := ⟨_, rfl⟩
        rw [hLe] at hq hL
        have eL : IntKind.i64.wrap ((n : Int) - (q : Int)) = (L : Int) := by rw [IntWalk.i64_in _ (by omega)]; omega
        have eL' : (n : Int) - (q : Int) = (L : Int) := by omega
        have gL : ((L : Int) != (L : Int)) = false := by simp
        have hr8 : readyE n 1 true R u 1 = 8 := by
          unfold readyE hasB
          rw [if_neg (by simp), if_neg (by simp; omega), Int.toNat_natCast, if_pos hRu]
        have PR := ready_no b n 0 1 true R none x [] [] u 1 wr v.bk (by omega) (by rw [hr8]; decide)
        rw [hr8] at PR
        have PW : ∀ w', Bk w' b n 0 1 true R none x [] [] → _ := fun w' h' => waits_any b n 0 1 R none x [] [] w' h' hn1.2
        rw [hLe] at PW
        have c5 : wr.cell? ⟨rb, u, none⟩ = some (.bool true) := by rw [v.ar.cell hu16, hRu]
        have HL := Lib.hid hLe
        have HQ1 := Lib.hid hq
        clear hq hLe hL hr8 hRu
        go_wp2_with fail
        refine PR.mono ?_
        rintro r w' ⟨rfl, rfl⟩
        go_wp2_with fail
        refine (PW _ v.bk).mono ?_
        rintro r w7 ⟨a7, c7, rfl, _, b7⟩
        have v7 : Vs w w7 b rb n R x := ⟨v.bk.below b7, (b7.block rb v.ar.lt).trans v.ar, v.ne, v.lb, v.lr, v.bel.trans (b7.mono v.bel.size)⟩
        clear c5
        go_wp2_with fail
        exact ⟨⟨k + 1, R, by simp, by omega, by rw [HL.out, HQ1.out], v7⟩, by simp [intOf]; omega⟩
  case rest =>
    clear v0
    obtain ⟨R, rfl, v⟩ := hcut
    cases ab
    · have hL := waitL_len n R
      obtain ⟨L, hLe⟩ : ∃ L, (waitL n R).length = L := ⟨_, rfl⟩
      rw [hLe] at hL ⊢
      by_cases h0 : L = 0
      · subst h0
        rw [Nat.sub_zero]
        have g1 : ((n : Int) == (n : Int)) = true := by simp
        have PC := commit_yes b n 0 1 R none x [] [] _ v.bk hn1.2 hLe
        clear hL hLe
        go_wp2_with fail
        refine PC.mono ?_
        rintro r w5 ⟨rfl, h5, j5⟩
        have b5 := j5.below v.bel v.lb v.bel.size
        go_wp2_with fail
        refine (version_any b _ 1 1 _ _ x none _ _ w5 h5).mono ?_
        rintro r w' ⟨rfl, rfl⟩
        go_wp2_with fail
        refine (hend _ b5).mono ?_
        rintro r w9 ⟨rfl, b9⟩
        go_wp2_with fail
        go_ret
        exact ⟨rfl, b9⟩
      · obtain ⟨q, hq⟩ : ∃ q, n - L = q := ⟨_, rfl⟩
        rw [hq]
        have g1 : ((q : Int) == (n : Int)) = false := by simp; omega
        have PC := commit_no b n 0 1 R none x [] [] _ v.bk hn1.2 (by rw [hLe]; omega)
        clear hL hLe hq h0
        go_wp2_with fail
        refine PC.mono ?_
        rintro r w5 ⟨rfl, j5⟩
        have h5 := v.bk.below j5
        have b5 := v.bel.trans (j5.mono v.bel.size)
        go_wp2_with fail
        refine (version_any b _ 0 1 _ _ none x _ _ w5 h5).mono ?_
        rintro r w' ⟨rfl, rfl⟩
        go_wp2_with fail
        refine (hend _ b5).mono ?_
        rintro r w9 ⟨rfl, b9⟩
        go_wp2_with fail
        go_ret
        exact ⟨rfl, b9⟩
    · go_wp2_with fail
      refine (abort_yes b n 0 1 R none x [] [] _ v.bk).mono ?_
      rintro r w5 ⟨rfl, h5, j5⟩
      have b5 := j5.below v.bel v.lb v.bel.size
      have hlb := v.lb
      clear v j5
      go_wp2_with fail
      refine (begin_yes b n 0 1 _ none none none [] [] [] w5 h5 (.inl ⟨rfl, rfl⟩) (by decide) (by simp) (fun e he => by cases he) (by decide) (HBE.out 1 (by decide))).mono ?_
      rintro r w6 ⟨rfl, j6, x2, Lx', h6, _⟩
      have b6 := j6.below b5 hlb b5.size
      clear h5 j6 b5
      rw [show (1 : Int) + 1 = 2 from rfl] at h6 ⊢
      go_wp2_with fail
      refine (version_any b _ 0 2 _ _ none x2 _ _ w6 h6).mono ?_
      rintro r w' ⟨rfl, rfl⟩
      go_wp2_with fail
      refine (ready_no b n 0 2 true _ none x2 [] _ 0 1 w6 h6 (by omega) (by unfold readyE; rw [if_pos (by decide)]; decide)).mono ?_
      rintro r w' ⟨rfl, rfl⟩
      rw [show readyE (n : Int) 2 true (fun _ => false) 0 1 = 7 by unfold readyE; rw [if_pos (by decide)]]
      go_wp2_with fail
      refine (hend _ b6).mono ?_
      rintro r w9 ⟨rfl, b9⟩
      go_wp2_with fail
      go_ret
      exact ⟨rfl, b9⟩
theorem walk (H : Type) (enc : TypeId × Value → H) : Walk H enc Try.prog 6 Try.f6 := by
  intro W base args ds p hval hA
  rw [Try.params6] at hA hval
  obtain ⟨v0, v1, v2, d0, d1, d2, p0, p1, p2, rfl, rfl, rfl, h0, h1, h2⟩ := trodAll_three hA
  obtain ⟨x, rfl, rfl, rfl, _⟩ := open_int Try.underlying3 (hval 0 _ v0 rfl rfl) h0
  obtain ⟨a, n, c, Z, rfl, hn, hm, hV, _⟩ := open_row_int Try.underlying49 Try.underlying3 (by kernel_rfl) (hval 1 _ v1 rfl rfl) h1
  obtain ⟨ab, rfl, rfl, rfl⟩ := open_bool Try.underlying4 (hval 2 _ v2 rfl rfl) h2
  exact body x a n c Z ab W hn hm hV

set_option maxRecDepth 100000 in
theorem lifted (os : Os) (started : os.Started) (H : Type) (enc : TypeId × Value → H) :
    ReturnsInHanded {} Try.checked os 6 .any (Rows.versionAllSpec.pre6 enc Try.prog Try.f6 Rows.versionAllRow.domain false) (Rows.versionAllSpec.post enc Try.prog Try.f6 false true false false) :=
  returnsInHanded_of_change (C := Try.checked) own started (by kernel_rfl) Try.func6
    (ChangeSpec.witness6 (enc := enc) (C := Try.checked) false ⟨#[], #[.int .i64 0, .slice none 0 0, .bool true], []⟩ 8 (by kernel_rfl) (by kernel_rfl) (by kernel_rfl) (by kernel_rfl))
    fun W base args ds gs before hval hW _ _ => step_of_walk laidOut (by rw [Try.params6]; exact of_decide_eq_true (by kernel_rfl)) (by kernel_rfl) Try.underlying4 rfl
      (fun ds h => by
        rw [Try.params6] at h
        match ds, h with
        | [_, _, _], _ => rfl) (walk H enc) W base args ds gs before hval hW

theorem holds : Rows.VersionAllSaid :=
  OpenClaim.holds_of_wide 6 Try.f6 rfl rfl rfl rfl rfl rfl rfl ⟨rfl, rfl, rfl, rfl, rfl⟩ rfl rfl rfl rfl rfl (by kernel_rfl) Try.func6 (by kernel_rfl)
    (of_decide_eq_true (by kernel_rfl)) (by unfold Func.isWrapper; first | (rw [if_pos (by decide +kernel)]; kernel_rfl) | (rw [if_neg (by decide +kernel)]; exact ⟨rfl, rfl⟩))
    (fun os started H enc _ => lifted os started H enc)
#print axioms holds
end Go.Proofs.Ytdpkiolngglpaaa.VersionAll
