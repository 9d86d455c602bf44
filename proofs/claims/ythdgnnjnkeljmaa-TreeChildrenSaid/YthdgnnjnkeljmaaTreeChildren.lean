/-
  Law TreeChildren: whose first parent a node is, they are its children, and no others; each that has a rank, but the root, is one child of one; the call returns true. No condition.
-/
import Derived.Test.YthdgnnjnkeljmaaTrKidsM
import Derived.Deep.CutRange
set_option maxRecDepth 100000
namespace Go.Proofs.Ythdgnnjnkeljmaa.TreeChildren
set_option linter.unusedVariables false
open Go.RowKit Go.ChangeShapes Go.WideShapes Go.ChangeAt Go.Deep Lb Tp Tr
set_option linter.unusedVariables false
theorem own : ownKnob Try.prog.godebug = none := by kernel_rfl
theorem laidOut : laidOutB Try.prog = true := by kernel_rfl

set_option maxHeartbeats 8000000 in
theorem body (x : Int) (a : Option Addr) (n c : Nat) (V : Nat → Value) (C : Nat → Cl) (least : Int) (w : World) (hn : n ≤ c) (hc : c ≤ maxLen) (hV : Row w a (n * 3) V)
    (hC : ∀ i, i < n → V (i * 3) = .bool (C i).f ∧ V (i * 3 + 1) = .int .i64 (C i).me ∧ V (i * 3 + 2) = .slice (C i).a (C i).n (C i).c ∧ (C i).ok w) :
    Calls Try.prog 6 #[.int .i64 x, .slice a n c, .int .i64 least] w fun r w' => r = .returned (.bool true) ∧ RowKit.Below w.heap.size w w' := by
  go_enter Try.func6, Try.ntmps6
  go_wp2_with fail
  refine (made_any x a n c V C _ hn hc hV hC).mono ?_
  rintro r w1 ⟨g1, g2, N, Q, rfl, h1, _, hF0, z1, z2, b1⟩
  have hN := hF0.2.1
  have hN1 := hF0.1
  go_wp2_with fail
  refine (build_any g1 N Q least _ hF0 h1).mono ?_
  rintro r w2 ⟨t, R, rfl, ht, hT, hFI, hsm, b2⟩
  have b2' := b1.trans (b2.mono b1.size)
  have h2 := below_blk b2 h1 h1.lt
  have HGR : Hid (Grown N Q least R) := Lib.hid ⟨hF0, hFI, hsm⟩
  have HF := Lib.hid HGR.out.firsts
  have TT : ∀ W, RowKit.Below w2.heap.size w2 W → Tre W t R (parT N Q least R) := fun W hW => hT.below hW
  have GG : ∀ W, RowKit.Below w2.heap.size w2 W → Gr W g1 73 N Q := fun W hW => below_blk hW h2 (Blk.lt h2)
  clear hF0 hFI hsm h1 b1 b2 hT z1 z2
  go_wp2_with fail
  refine (nodes_any g1 _ N Q _ (GG _ (Below.refl _ _))).mono ?_
  rintro r w' ⟨rfl, rfl⟩
  go_wp2_with fail
  go_loopw [11, 34] (fun v i wr => ∃ k : Nat, i = .int .i64 k ∧ v = .int .i64 (cntK (parT N Q least R) k : Nat) ∧ k ≤ N ∧ RowKit.Below w2.heap.size w2 wr) (fun _ i _ => N - (intOf i).toNat)
  case atStart => exact ⟨0, rfl, by rw [cntK_zero]; rfl, by omega, Below.refl _ _⟩
  case round =>
    obtain ⟨k, rfl, rfl, hk, bb⟩ := hrel
    by_cases hlt : k < N
    · have hk16 : k < 16 := by omega
      have HK := Lib.hid (HGR.out.kids_eq k hk16)
      have HNX := Lib.hid (cntK_next (parT N Q least R) k)
      have PK : ∀ W, RowKit.Below w2.heap.size w2 W → Calls Try.prog 18 #[.pointer (some ⟨t, 0, none⟩), .int .i64 (k : Int)] W fun r w' => ∃ A c, r = .returned (.slice A (kidK (parT N Q least R) k 16).length c) ∧ Rl w' W.heap.size A c (kidK (parT N Q least R) k 16) ∧ RowKit.Below W.heap.size W w' := fun W hW => by
        have := kids_any t R _ k W (TT W hW)
        rw [HK.out] at this
        exact this
      have hcl := cntK_le (parT N Q least R) k
      have hcl2 := cntK_le (parT N Q least R) (k + 1)
      rw [HNX.out] at hcl2
      obtain ⟨S, hS⟩ : ∃ S, cntK (parT N Q least R) k = S := ⟨_, rfl⟩
      rw [hS] at hcl hcl2 ⊢
      have HS := Lib.hid hS
      obtain ⟨L, hL⟩ : ∃ L, (kidK (parT N Q least R) k 16).length = L := ⟨_, rfl⟩
      have HL := Lib.hid hL
      rw [hL] at hcl2
      have HPK := Lib.hid PK
      clear PK hS
      go_wp2_with fail
      refine (HPK.out _ bb).mono ?_
      rintro r3 w3 ⟨A3, c3, rfl, hl3, b3⟩
      have hrow3 := hl3.row
      have hle3 := hl3.le
      have hcap3 := hl3.cap
      unfold maxLen at hcap3
      rw [hL] at hrow3 hle3 ⊢
      have hL63 : (L : Int) ≤ 9223372036854775807 := by omega
      have bb3 := bb.trans (b3.mono bb.size)
      clear hl3 hL bb b3
      go_wp2_with fail
      go_loopw [11, 41] (fun v i wz => ∃ j : Nat, i = .int .i64 j ∧ v = .int .i64 (S + j : Nat) ∧ j ≤ L ∧ RowKit.Below w3.heap.size w3 wz) (fun _ i _ => L - (intOf i).toNat)
      case atStart => exact ⟨0, rfl, rfl, by omega, Below.refl _ _⟩
      case round =>
        obtain ⟨j, rfl, rfl, hj, bz⟩ := hrel
        have bb := bb3.trans (bz.mono bb3.size)
        by_cases hlt : j < L
        · obtain ⟨bo, off, rfl, hbo, c0⟩ := row_ln (by rw [HL.out]; exact hrow3) bz (by rw [HL.out]; exact hlt)
          obtain ⟨hx16, l, r, hxp, hxr⟩ := HGR.out.kid_at (k := k) (i := j) (by rw [HL.out]; exact hlt)
          have hasc : ∀ i, i + 1 = j → (kidK (parT N Q least R) k 16).getD i 0 < (kidK (parT N Q least R) k 16).getD j 0 := fun i hi => by
            subst hi
            exact kidK_asc _ _ i (by rw [HL.out]; exact hlt)
          have HAS := Lib.hid hasc
          obtain ⟨x, hx⟩ : ∃ x : Nat, (kidK (parT N Q least R) k 16).getD j 0 = x := ⟨_, rfl⟩
          rw [hx] at c0 hx16 hxp hxr
          have HX := Lib.hid hx
          have HPS : Hid (parsT R (parT N Q least R) (x : Int) = k :: l) := Lib.hid ((parsT_nat hx16 hxr).trans hxp)
          have hl2 := par_len N Q least R x
          rw [hxp] at hl2
          obtain ⟨M, hM⟩ : ∃ M, (k :: l).length = M := ⟨_, rfl⟩
          have hM0 : 0 < M := by rw [← hM]; simp
          rw [hM] at hl2
          have HM := Lib.hid hM
          have e2 : ((S + j : Nat) : Int) + 1 = ((S + (j + 1) : Nat) : Int) := by omega
          clear hasc hx hxp hxr hM
          go_wp2_with fail
          refine (parents_any t R _ x _ (TT _ bb) (fun y => Nat.le_trans (par_len N Q least R y) (by decide))).mono ?_
          rintro r4 w4 ⟨A4, c4, rfl, hl4, b4⟩
          rw [HPS.out] at hl4 ⊢
          rw [HM.out]
          have hrow4 := hl4.row
          have hle4 := hl4.le
          have hcap4 := hl4.cap
          unfold maxLen at hcap4
          rw [HM.out] at hrow4 hle4
          obtain ⟨bp, po, rfl, _, d0⟩ := hrow4.at_ (k := 0) hM0
          have d0 : w4.cell? ⟨bp, po, none⟩ = some (.int .i64 (k : Int)) := d0
          have bb4 := bb.trans (b4.mono bb.size)
          have bz4 := bz.trans (b4.mono bz.size)
          have d1 : decide (0 < M) = true := by simpa using hM0
          have d2 : ((M : Int) == 0) = false := by simp; omega
          have d3 : (M == 0) = false := by simp; omega
          clear hl4 b4 hrow4 c0
          by_cases hj0 : j = 0
          · subst hj0
            go_wp2_with fail
            exact ⟨⟨0 + 1, by simp [intOf], by simp, by omega, bz4⟩, by simp [intOf]; omega⟩
          · obtain ⟨i, rfl⟩ : ∃ i, j = i + 1 := ⟨j - 1, by omega⟩
            have hii := HAS.out i rfl
            rw [HX.out] at hii
            obtain ⟨y, hy⟩ : ∃ y : Nat, (kidK (parT N Q least R) k 16).getD i 0 = y := ⟨_, rfl⟩
            rw [hy] at hii
            have HY := Lib.hid hy
            have e3 : ((i + 1 : Nat) : Int) = (i : Int) + 1 := by omega
            have d5 : decide (x ≤ y) = false := by simp; omega
            have d6 : decide ((x : Int) ≤ (y : Int)) = false := by simp; omega
            clear hy hii
            go_wp2_with fail
            refine (HPK.out _ bb4).mono ?_
            rintro r5 w5 ⟨A5, c5, rfl, hl5, b5⟩
            obtain ⟨bq, qo, rfl, _, f0⟩ := hl5.row.at_ (k := i) (by rw [HL.out]; omega)
            have hle5 := hl5.le
            have hcap5 := hl5.cap
            rw [HL.out] at hle5 ⊢
            unfold maxLen at hcap5
            unfold ln at f0
            rw [HY.out] at f0
            have bz5 := bz4.trans (b5.mono bz4.size)
            clear hl5 b5 d0
            go_wp2_with fail
            exact ⟨⟨i + 1 + 1, by simp [intOf], by congr 1, by omega, bz5⟩, by simp [intOf]; omega⟩
        · obtain rfl : j = L := by omega
          go_wp2_with fail
          exact ⟨⟨k + 1, by simp [intOf], by rw [HNX.out, HS.out, HL.out], by omega, bb⟩, by simp [intOf]; omega⟩
    · obtain rfl : N = k := by omega
      have hcn := HGR.out.cnt
      have hcl := cntK_le (parT N Q least R) N
      obtain ⟨S, hS⟩ : ∃ S, cntK (parT N Q least R) N = S := ⟨_, rfl⟩
      rw [hS] at hcn hcl ⊢
      clear hS
      go_wp2_with fail
      refine (order_any t R _ _ (TT _ bb) HGR.out.fin.root HGR.out.small).mono ?_
      rintro r3 w3 ⟨A3, c3, rfl, hl3, b3⟩
      rw [← hcn]
      have bb3 := bb.trans (b3.mono bb.size)
      have b4 := b2'.trans (bb3.mono b2'.size)
      clear hl3 b3 hcn
      go_wp2_with fail
      refine (awake_tree _).mono ?_
      rintro r w9 ⟨rfl, b9⟩
      have b10 := b4.trans (b9.mono b4.size)
      go_wp2_with fail
      go_ret
      exact ⟨rfl, b10⟩

theorem walk (H : Type) (enc : TypeId × Value → H) : Walk H enc Try.prog 6 Try.f6 := by
  intro W base args ds p hval hA
  rw [Try.params6] at hA hval
  obtain ⟨v0, v1, v2, d0, d1, d2, p0, p1, p2, rfl, rfl, rfl, h0, h1, h2⟩ := trodAll_three hA
  obtain ⟨x, rfl, rfl, rfl, _⟩ := open_int Try.underlying3 (hval 0 _ v0 rfl rfl) h0
  obtain ⟨a, n, c, V, C, rfl, hn, hm, hV, hC⟩ := open_calls (hval 1 _ v1 rfl rfl) h1
  obtain ⟨y, rfl, rfl, rfl, _⟩ := open_int Try.underlying3 (hval 2 _ v2 rfl rfl) h2
  exact body x a n c V C y W hn hm hV hC

set_option maxRecDepth 100000 in
theorem lifted (os : Os) (started : os.Started) (H : Type) (enc : TypeId × Value → H) :
    ReturnsInHanded {} Try.checked os 6 .any (Rows.treeChildrenSpec.pre6 enc Try.prog Try.f6 Rows.treeChildrenRow.domain false) (Rows.treeChildrenSpec.post enc Try.prog Try.f6 false true false false) :=
  returnsInHanded_of_change (C := Try.checked) own started (by kernel_rfl) Try.func6
    (ChangeSpec.witness6 (enc := enc) (C := Try.checked) false ⟨#[], #[.int .i64 0, .slice none 0 0, .int .i64 0], []⟩ 8 (by kernel_rfl) (by kernel_rfl) (by kernel_rfl) (by kernel_rfl))
    fun W base args ds gs before hval hW _ _ => step_of_walk laidOut (by rw [Try.params6]; exact of_decide_eq_true (by kernel_rfl)) (by kernel_rfl) Try.underlying4 rfl
      (fun ds h => by
        rw [Try.params6] at h
        match ds, h with
        | [_, _, _], _ => rfl) (walk H enc) W base args ds gs before hval hW

theorem holds : Rows.TreeChildrenSaid :=
  OpenClaim.holds_of_wide 6 Try.f6 rfl rfl rfl rfl rfl rfl rfl ⟨rfl, rfl, rfl, rfl, rfl⟩ rfl rfl rfl rfl rfl (by kernel_rfl) Try.func6 (by kernel_rfl)
    (of_decide_eq_true (by kernel_rfl)) (by unfold Func.isWrapper; first | (rw [if_pos (by decide +kernel)]; kernel_rfl) | (rw [if_neg (by decide +kernel)]; exact ⟨rfl, rfl⟩))
    (fun os started H enc _ => lifted os started H enc)
#print axioms holds
end Go.Proofs.Ythdgnnjnkeljmaa.TreeChildren
