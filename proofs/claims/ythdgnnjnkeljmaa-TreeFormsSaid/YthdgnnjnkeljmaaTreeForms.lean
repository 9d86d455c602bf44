/-
  Law TreeForms: any graph: ranks, whom each may follow, who follows, paths, as the reference has them; the call returns true. No condition.
-/
import Derived.Test.YthdgnnjnkeljmaaTrRBuild
import Derived.Test.YthdgnnjnkeljmaaTrRKids
import Derived.Test.YthdgnnjnkeljmaaTrKidsM
import Derived.Test.YthdgnnjnkeljmaaVar
set_option maxRecDepth 100000
namespace Go.Proofs.Ythdgnnjnkeljmaa.TreeForms
set_option linter.unusedVariables false
open Go.RowKit Go.ChangeShapes Go.WideShapes Go.ChangeAt Go.Deep Lb Tp Tr
theorem own : ownKnob Try.prog.godebug = none := by kernel_rfl
theorem laidOut : laidOutB Try.prog = true := by kernel_rfl

theorem pars_same {N : Nat} {Q : Nat → Nat → Int} {least : Int} {R : Rk} (x : Int) : rparsT (parT N Q least R) x = parsT R (parT N Q least R) x := by
  unfold rparsT parsT
  cases hn : ndB x with
  | false =>
    have : hasT R x = false := by unfold hasT; unfold ndB at hn; rw [hn]; rfl
    rw [this]
  | true =>
    rw [if_pos rfl]
    cases hh : hasT R x with
    | true => rw [if_pos rfl]
    | false =>
      rw [if_neg (by decide)]
      unfold hasT at hh
      unfold ndB at hn
      rw [hn, Bool.true_and] at hh
      unfold parT
      rw [hh, if_neg (by decide)]
theorem kids_same {N : Nat} {Q : Nat → Nat → Int} {least : Int} {R : Rk} (h : Grown N Q least R) (x : Int) : kidK (parT N Q least R) x 16 = kidsT R (parT N Q least R) x := by
  unfold kidsT
  cases hh : hasT R x with
  | true => rw [if_pos rfl]
  | false =>
    rw [if_neg (by decide)]
    unfold kidK
    rw [List.filter_eq_nil_iff]
    intro c _ hb
    unfold kidB at hb
    cases hp : parT N Q least R c with
    | nil => rw [hp] at hb; cases hb
    | cons p l =>
      rw [hp] at hb
      have e : (p : Int) = x := by simpa using hb
      obtain ⟨r, _, h2, _, h4⟩ := mem_parT h.fin (n := c) (x := p) (by rw [hp]; simp)
      subst e
      rw [(hasT_some (by have := h.fine.2.1; omega) h2).1] at hh
      cases hh
theorem same_rl {w w1 : World} {A B : Option Addr} {l m : List Nat} {c d lo lo2 : Nat} (hA : Rl w1 lo A c l) (hB : Rl w lo2 B d m) (e : m = l) (b : RowKit.Below w1.heap.size w1 w) :
    Calls Try.prog 11 #[.slice A l.length c, .slice B m.length d] w fun r w' => r = .returned (.bool true) ∧ ∃ q, w.drewN q = w' := by
  subst e
  exact same_ints A B _ c d (ln m) (fun i => ((m.getD i 0 : Nat) : Int)) w rfl hA.le hB.le hA.cap hB.cap (hA.below b).row hB.row
set_option maxHeartbeats 4000000 in
theorem body (x : Int) (a : Option Addr) (n c : Nat) (V : Nat → Value) (C : Nat → Cl) (least : Int) (w : World) (hn : n ≤ c) (hc : c ≤ maxLen) (hV : Row w a (n * 3) V)
    (hC : ∀ i, i < n → V (i * 3) = .bool (C i).f ∧ V (i * 3 + 1) = .int .i64 (C i).me ∧ V (i * 3 + 2) = .slice (C i).a (C i).n (C i).c ∧ (C i).ok w) :
    Calls Try.prog 3 #[.int .i64 x, .slice a n c, .int .i64 least] w fun r w' => r = .returned (.bool true) ∧ RowKit.Below w.heap.size w w' := by
  go_enter Try.func3, Try.ntmps3
  go_wp2_with fail
  refine (made_any x a n c V C _ hn hc hV hC).mono ?_
  rintro r w1 ⟨g1, g2, N, Q, rfl, h1, h2, hF0, z1, z2, b1⟩
  go_wp2_with fail
  refine (build_any g1 N Q least _ hF0 h1).mono ?_
  rintro r w2 ⟨t, R, rfl, ht, hT, hFI, hsm, b2⟩
  have h2' : Gr w2 g2 66 N Q := below_blk b2 h2 h2.lt
  go_wp2_with fail
  refine (rbuild_any g2 N Q least _ hF0 h2').mono ?_
  rintro r w3 ⟨t2, R2, rfl, ht2, hT2, hFI2, hsm2, b3⟩
  obtain rfl : R2 = R := fin_unique hFI2 hFI
  have bb := (b1.trans (b2.mono b1.size)).trans (b3.mono (b1.trans (b2.mono b1.size)).size)
  have hT1 := hT.below b3
  have HGR : Hid (Grown N Q least R2) := Lib.hid ⟨hF0, hFI, hsm⟩
  have HF := Lib.hid HGR.out.firsts
  have HSM := Lib.hid hsm
  have HRT := Lib.hid hFI.root
  have TT : ∀ W, RowKit.Below w3.heap.size w3 W → Tre W t R2 (parT N Q least R2) := fun W hW => hT1.below hW
  have TR : ∀ W, RowKit.Below w3.heap.size w3 W → RTre W t2 R2 (parT N Q least R2) := fun W hW => hT2.below hW
  clear hF0 hFI hFI2 hsm hsm2 h1 h2 h2' b1 b2 b3 hT hT1 hT2 z1 z2 ht ht2
  go_wp2_with fail
  refine (order_any t R2 _ _ (TT _ (Below.refl _ _)) HRT.out HSM.out).mono ?_
  rintro r w4 ⟨A4, c4, rfl, hl4, b4⟩
  go_wp2_with fail
  obtain ⟨Ar, Kr, hTr, hq0⟩ := TR _ b4
  refine (rorder_any t2 R2 _ _ hTr).mono ?_
  rintro r w5 ⟨A5, c5, rfl, hl5, b5⟩
  have b45 := b4.trans (b5.mono b4.size)
  go_wp2_with fail
  refine (same_rl hl4 hl5 rfl b5).mono ?_
  rintro r w6 ⟨rfl, q, rfl⟩
  have b6 := below_drewN b45 q
  clear hl4 hl5 b4 b5 b45 hTr hq0
  go_wp2_with fail
  generalize w5.drewN q = w6 at *
  clear w5 w4
  go_loopw [12] (fun i wr => ∃ k : Int, i = .int .i64 k ∧ -1 ≤ k ∧ k ≤ 17 ∧ RowKit.Below w3.heap.size w3 wr) (fun i _ => (17 - intOf i).toNat)
  case atStart => exact ⟨-1, rfl, by omega, by omega, b6⟩
  case round =>
    clear b6
    obtain ⟨k, rfl, hk0, hk, bk⟩ := hrel
    by_cases hlt : k ≤ 16
    · have e1 : IntKind.i64.wrap (k + 1) = k + 1 := IntWalk.i64_in _ (by omega)
      obtain ⟨rk, hrk⟩ : ∃ rk, rankT R2 k = rk := ⟨_, rfl⟩
      obtain ⟨hs, hhs⟩ : ∃ hs, hasT R2 k = hs := ⟨_, rfl⟩
      have g1 : (rk != rk) = false := by simp
      have g2 : (hs != hs) = false := by simp
      have PA := Lib.hid (rank_tre t R2 _ k _ (TT _ bk))
      obtain ⟨Ar, Kr, hTr, hq0⟩ := TR _ bk
      have PB := Lib.hid (rrank_any t2 R2 _ k _ hTr)
      rw [hrk, hhs] at PA PB
      clear hrk hhs hTr hq0
      go_wp2_with fail
      refine PA.out.mono ?_
      rintro r w5 ⟨rfl, rfl⟩
      go_wp2_with fail
      refine PB.out.mono ?_
      rintro r w5 ⟨rfl, rfl⟩
      clear PA PB
      go_wp2_with fail
      refine (parents_any t R2 _ k _ (TT _ bk) (fun z => Nat.le_trans (par_len N Q least R2 z) (by decide))).mono ?_
      rintro r w5 ⟨A5, c5, rfl, hl5, b5⟩
      have bk5 := bk.trans (b5.mono bk.size)
      go_wp2_with fail
      refine (rparents_any t2 R2 _ k _ (TR _ bk5)).mono ?_
      rintro r w6 ⟨A6, c6, lo6, rfl, hl6, rfl⟩
      go_wp2_with fail
      refine (same_rl hl5 hl6 (pars_same k) (Below.refl _ _)).mono ?_
      rintro r w6 ⟨rfl, q, rfl⟩
      have bk6 := below_drewN bk5 q
      clear hl5 hl6 b5 bk bk5
      go_wp2_with fail
      generalize w5.drewN q = w6 at *
      refine (kids_any t R2 _ k _ (TT _ bk6)).mono ?_
      rintro r w7 ⟨A7, c7, rfl, hl7, b7⟩
      have bk7 := bk6.trans (b7.mono bk6.size)
      go_wp2_with fail
      refine (rkids_any t2 R2 _ k _ (TR _ bk7)).mono ?_
      rintro r w8 ⟨A8, c8, rfl, hl8, b8⟩
      have bk8 := bk7.trans (b8.mono bk7.size)
      go_wp2_with fail
      refine (same_rl hl7 hl8 (kids_same HGR.out k) b8).mono ?_
      rintro r w9 ⟨rfl, q2, rfl⟩
      have bk9 := below_drewN bk8 q2
      clear hl7 hl8 b7 b8 bk6 bk7 bk8
      go_wp2_with fail
      generalize w8.drewN q2 = w9 at *
      refine (path_any t R2 _ k _ (TT _ bk9) HF.out).mono ?_
      rintro r wa ⟨Aa, ca, rfl, hla, ba⟩
      have bka := bk9.trans (ba.mono bk9.size)
      go_wp2_with fail
      refine (rpath_any t2 R2 _ k _ (TR _ bka) HF.out).mono ?_
      rintro r wb ⟨Ab, cb, rfl, hlb, bb'⟩
      have bkb := bka.trans (bb'.mono bka.size)
      go_wp2_with fail
      refine (same_rl hla hlb rfl bb').mono ?_
      rintro r wc ⟨rfl, q3, rfl⟩
      have bkc := below_drewN bkb q3
      clear hla hlb ba bb' bk9 bka bkb
      go_wp2_with fail
      exact ⟨⟨k + 1, by simp [intOf], by omega, by omega, bkc⟩, by simp [intOf]; omega⟩
    · have g1 : decide (k ≤ 16) = false := by simp; omega
      clear hlt
      go_wp2_with fail
      refine (awake_tree _).mono ?_
      rintro r w9 ⟨rfl, b10⟩
      go_wp2_with fail
      go_ret
      exact ⟨rfl, (bb.trans (bk.mono bb.size)).trans (b10.mono (bb.trans (bk.mono bb.size)).size)⟩
theorem walk (H : Type) (enc : TypeId × Value → H) : Walk H enc Try.prog 3 Try.f3 := by
  intro W base args ds p hval hA
  rw [Try.params3] at hA hval
  obtain ⟨v0, v1, v2, d0, d1, d2, p0, p1, p2, rfl, rfl, rfl, h0, h1, h2⟩ := trodAll_three hA
  obtain ⟨x, rfl, rfl, rfl, _⟩ := open_int Try.underlying3 (hval 0 _ v0 rfl rfl) h0
  obtain ⟨a, n, c, V, C, rfl, hn, hm, hV, hC⟩ := open_calls (hval 1 _ v1 rfl rfl) h1
  obtain ⟨y, rfl, rfl, rfl, _⟩ := open_int Try.underlying3 (hval 2 _ v2 rfl rfl) h2
  exact body x a n c V C y W hn hm hV hC

set_option maxRecDepth 100000 in
theorem lifted (os : Os) (started : os.Started) (H : Type) (enc : TypeId × Value → H) :
    ReturnsInHanded {} Try.checked os 3 .any (Rows.treeFormsSpec.pre6 enc Try.prog Try.f3 Rows.treeFormsRow.domain false) (Rows.treeFormsSpec.post enc Try.prog Try.f3 false true false false) :=
  returnsInHanded_of_change (C := Try.checked) own started (by kernel_rfl) Try.func3
    (ChangeSpec.witness6 (enc := enc) (C := Try.checked) false ⟨#[], #[.int .i64 0, .slice none 0 0, .int .i64 0], []⟩ 8 (by kernel_rfl) (by kernel_rfl) (by kernel_rfl) (by kernel_rfl))
    fun W base args ds gs before hval hW _ _ => step_of_walk laidOut (by rw [Try.params3]; exact of_decide_eq_true (by kernel_rfl)) (by kernel_rfl) Try.underlying4 rfl
      (fun ds h => by
        rw [Try.params3] at h
        match ds, h with
        | [_, _, _], _ => rfl) (walk H enc) W base args ds gs before hval hW

theorem holds : Rows.TreeFormsSaid :=
  OpenClaim.holds_of_wide 3 Try.f3 rfl rfl rfl rfl rfl rfl rfl ⟨rfl, rfl, rfl, rfl, rfl⟩ rfl rfl rfl rfl rfl (by kernel_rfl) Try.func3 (by kernel_rfl)
    (of_decide_eq_true (by kernel_rfl)) (by unfold Func.isWrapper; first | (rw [if_pos (by decide +kernel)]; kernel_rfl) | (rw [if_neg (by decide +kernel)]; exact ⟨rfl, rfl⟩))
    (fun os started H enc _ => lifted os started H enc)
#print axioms holds
end Go.Proofs.Ythdgnnjnkeljmaa.TreeForms
