/-
  Law TopoLeast: by a greater least fewer are near, and each of them by the lesser one, too; the call returns true. No condition.
-/
import Derived.Test.YtcgnfngbljlgeaaTopoMore
import Derived.Deep.RegionHeld3
set_option maxRecDepth 100000
namespace Go.Proofs.Ytcgnfngbljlgeaa.TopoLeast
set_option linter.unusedVariables false
open Go.RowKit Go.ChangeShapes Go.WideShapes Go.ChangeAt Go.Deep Lb Tp
set_option linter.unusedVariables false
theorem own : ownKnob Try.prog.godebug = none := by kernel_rfl
theorem laidOut : laidOutB Try.prog = true := by kernel_rfl

set_option maxHeartbeats 4000000 in
theorem body (x : Int) (a : Option Addr) (n c : Nat) (V : Nat → Value) (C : Nat → Cl) (p y z : Int) (w : World) (hn : n ≤ c) (hc : c ≤ maxLen) (hV : Row w a (n * 3) V)
    (hC : ∀ i, i < n → V (i * 3) = .bool (C i).f ∧ V (i * 3 + 1) = .int .i64 (C i).me ∧ V (i * 3 + 2) = .slice (C i).a (C i).n (C i).c ∧ (C i).ok w) :
    Calls Try.prog 7 #[.int .i64 x, .slice a n c, .int .i64 p, .int .i64 y, .int .i64 z] w fun r w' => r = .returned (.bool true) ∧ Below w.heap.size w w' := by
  have uy := u64_pos y
  have uz := u64_pos z
  by_cases hs : IntKind.u64.wrap z % 257 < IntKind.u64.wrap y % 257
  · go_enter Try.func7, Try.ntmps7
    go_wp2_with fail
    refine (made_any x a n c V C _ hn hc hV hC).mono ?_
    rintro r w1 ⟨g1, g2, N, Q, rfl, h1, h2, hF, z1, z2, b1⟩
    have HF := Lib.hid hF
    have hN := hF.2.1
    clear hF
    go_wp2_with fail
    have y0 : 0 ≤ IntKind.u64.wrap y % 257 ∧ IntKind.u64.wrap y % 257 < 257 := by omega
    have z0 : 0 ≤ IntKind.u64.wrap z % 257 ∧ IntKind.u64.wrap z % 257 < 257 := by omega
    generalize IntKind.u64.wrap y % 257 = hi at *
    generalize IntKind.u64.wrap z % 257 = lo at *
    have hlh : lo ≤ hi := by omega
    clear uy uz
    refine (near_any g1 _ N Q p lo _ h1 hN).mono ?_
    rintro r w4 ⟨v4, rfl, hv4, b4⟩
    have h1 := below_blk b4 h1 h1.lt
    obtain ⟨a4, c4, rfl, hc4, hm4, hR4⟩ := hv4.row
    have b4 := b1.trans (b4.mono b1.size)
    clear hv4
    go_wp2_with fail
    refine (near_any g1 _ N Q p hi _ h1 hN).mono ?_
    rintro r w5 ⟨v5, rfl, hv5, b5⟩
    have h1 := below_blk b5 h1 h1.lt
    obtain ⟨a5, c5, rfl, hc5, hm5, hR5⟩ := hv5.row
    have hR4 := hR4.below b5
    have b5 := b4.trans (b5.mono b4.size)
    clear hv5 b4
    have hl5 := nr_len N Q p hi N
    have hle := nr_le (N := N) (Q := Q) (a := p) hlh N
    have hl5 : (near N Q p hi).length ≤ N := hl5
    have hle : (near N Q p hi).length ≤ (near N Q p lo).length := hle
    obtain ⟨n5, hn5⟩ : ∃ n5, (near N Q p hi).length = n5 := ⟨_, rfl⟩
    have HN5 := Lib.hid hn5
    rw [hn5] at hle hl5 hc5 hR5 ⊢
    clear hn5
    go_wp2_with fail
    go_loopw [54] (fun i wr => ∃ k m : Nat, i = .int .i64 k ∧ k ≤ n5 ∧ w5.drewN m = wr) (fun i _ => n5 - (intOf i).toNat)
    case atStart => exact ⟨0, 0, rfl, by omega, rfl⟩
    case round =>
      obtain ⟨k, m, rfl, hk, rfl⟩ := hrel
      by_cases hlt : k < n5
      · obtain ⟨bo, off, rfl, _, c0⟩ := hR5.at_ hlt
        unfold ln at c0
        obtain ⟨e, he⟩ : ∃ e : Nat, (near N Q p hi).getD k 0 = e := ⟨_, rfl⟩
        obtain ⟨f1, f2, f3⟩ := near_get (N := N) (Q := Q) (a := p) (y := hi) (i := k) (by rw [HN5.out]; exact hlt)
        rw [he] at c0 f1 f2 f3
        clear he
        have HL : Hid (hasL (near N Q p lo) (e : Int) = true) := Lib.hid (by rw [hasL_near, decide_eq_true_eq]; exact ⟨f1, f2, by omega⟩)
        obtain ⟨q, hq⟩ : ∃ q, qual N Q p e = q := ⟨_, rfl⟩
        have HQ := Lib.hid hq
        have f4 : hi ≤ q := by rw [← hq]; exact f3
        clear hq f1 f2 f3
        go_wp2_with fail
        refine (has_list a4 c4 (near N Q p lo) e _ hc4 hm4 (hR4.drewN m)).mono ?_
        rintro r w' ⟨rfl, rfl⟩
        rw [HL.out]
        go_wp2_with fail
        refine (quality_any g1 _ N Q p e _ (Blk.drewN h1 m) hN).mono ?_
        rintro r w' ⟨rfl, m2, rfl⟩
        rw [HQ.out]
        go_wp2_with fail
        exact ⟨⟨k + 1, m + m2, by simp [intOf], by omega, by simp⟩, by simp [intOf]; omega⟩
      · obtain rfl : n5 = k := by omega
        have e5 : ((n5 : Int) ≤ ((near N Q p lo).length : Int)) := by omega
        have HE : Hid (near N Q p 256 = []) := Lib.hid (nr_none_above HF.out p (by decide) N)
        go_wp2_with fail
        refine (near_any g1 _ N Q p 256 _ (Blk.drewN h1 m) hN).mono ?_
        rintro r w6 ⟨v6, rfl, hv6, b6⟩
        rw [HE.out] at hv6
        obtain ⟨a6, c6, rfl, _, _, _⟩ := hv6.row
        have b6 := (below_drewN b5 m).trans (b6.mono b5.size)
        clear hv6
        go_wp2_with fail
        refine (awake_any _).mono ?_
        rintro r w9 ⟨rfl, b9⟩
        have bb := b6.trans (b9.mono b6.size)
        go_wp2_with fail
        go_ret
        exact ⟨rfl, bb⟩
  · have hs2 : decide (IntKind.u64.wrap z % 257 < IntKind.u64.wrap y % 257) = false := by simp; omega
    clear hs
    go_enter Try.func7, Try.ntmps7
    go_wp2_with fail
    refine (made_any x a n c V C _ hn hc hV hC).mono ?_
    rintro r w1 ⟨g1, g2, N, Q, rfl, h1, h2, hF, z1, z2, b1⟩
    have HF := Lib.hid hF
    have hN := hF.2.1
    clear hF
    go_wp2_with fail
    have y0 : 0 ≤ IntKind.u64.wrap y % 257 ∧ IntKind.u64.wrap y % 257 < 257 := by omega
    have z0 : 0 ≤ IntKind.u64.wrap z % 257 ∧ IntKind.u64.wrap z % 257 < 257 := by omega
    have hs3 : ¬ IntKind.u64.wrap z % 257 < IntKind.u64.wrap y % 257 := by simpa using hs2
    generalize IntKind.u64.wrap y % 257 = lo at *
    generalize IntKind.u64.wrap z % 257 = hi at *
    have hlh : lo ≤ hi := by omega
    clear uy uz hs2 hs3
    refine (near_any g1 _ N Q p lo _ h1 hN).mono ?_
    rintro r w4 ⟨v4, rfl, hv4, b4⟩
    have h1 := below_blk b4 h1 h1.lt
    obtain ⟨a4, c4, rfl, hc4, hm4, hR4⟩ := hv4.row
    have b4 := b1.trans (b4.mono b1.size)
    clear hv4
    go_wp2_with fail
    refine (near_any g1 _ N Q p hi _ h1 hN).mono ?_
    rintro r w5 ⟨v5, rfl, hv5, b5⟩
    have h1 := below_blk b5 h1 h1.lt
    obtain ⟨a5, c5, rfl, hc5, hm5, hR5⟩ := hv5.row
    have hR4 := hR4.below b5
    have b5 := b4.trans (b5.mono b4.size)
    clear hv5 b4
    have hl5 := nr_len N Q p hi N
    have hle := nr_le (N := N) (Q := Q) (a := p) hlh N
    have hl5 : (near N Q p hi).length ≤ N := hl5
    have hle : (near N Q p hi).length ≤ (near N Q p lo).length := hle
    obtain ⟨n5, hn5⟩ : ∃ n5, (near N Q p hi).length = n5 := ⟨_, rfl⟩
    have HN5 := Lib.hid hn5
    rw [hn5] at hle hl5 hc5 hR5 ⊢
    clear hn5
    go_wp2_with fail
    go_loopw [54] (fun i wr => ∃ k m : Nat, i = .int .i64 k ∧ k ≤ n5 ∧ w5.drewN m = wr) (fun i _ => n5 - (intOf i).toNat)
    case atStart => exact ⟨0, 0, rfl, by omega, rfl⟩
    case round =>
      obtain ⟨k, m, rfl, hk, rfl⟩ := hrel
      by_cases hlt : k < n5
      · obtain ⟨bo, off, rfl, _, c0⟩ := hR5.at_ hlt
        unfold ln at c0
        obtain ⟨e, he⟩ : ∃ e : Nat, (near N Q p hi).getD k 0 = e := ⟨_, rfl⟩
        obtain ⟨f1, f2, f3⟩ := near_get (N := N) (Q := Q) (a := p) (y := hi) (i := k) (by rw [HN5.out]; exact hlt)
        rw [he] at c0 f1 f2 f3
        clear he
        have HL : Hid (hasL (near N Q p lo) (e : Int) = true) := Lib.hid (by rw [hasL_near, decide_eq_true_eq]; exact ⟨f1, f2, by omega⟩)
        obtain ⟨q, hq⟩ : ∃ q, qual N Q p e = q := ⟨_, rfl⟩
        have HQ := Lib.hid hq
        have f4 : hi ≤ q := by rw [← hq]; exact f3
        clear hq f1 f2 f3
        go_wp2_with fail
        refine (has_list a4 c4 (near N Q p lo) e _ hc4 hm4 (hR4.drewN m)).mono ?_
        rintro r w' ⟨rfl, rfl⟩
        rw [HL.out]
        go_wp2_with fail
        refine (quality_any g1 _ N Q p e _ (Blk.drewN h1 m) hN).mono ?_
        rintro r w' ⟨rfl, m2, rfl⟩
        rw [HQ.out]
        go_wp2_with fail
        exact ⟨⟨k + 1, m + m2, by simp [intOf], by omega, by simp⟩, by simp [intOf]; omega⟩
      · obtain rfl : n5 = k := by omega
        have e5 : ((n5 : Int) ≤ ((near N Q p lo).length : Int)) := by omega
        have HE : Hid (near N Q p 256 = []) := Lib.hid (nr_none_above HF.out p (by decide) N)
        go_wp2_with fail
        refine (near_any g1 _ N Q p 256 _ (Blk.drewN h1 m) hN).mono ?_
        rintro r w6 ⟨v6, rfl, hv6, b6⟩
        rw [HE.out] at hv6
        obtain ⟨a6, c6, rfl, _, _, _⟩ := hv6.row
        have b6 := (below_drewN b5 m).trans (b6.mono b5.size)
        clear hv6
        go_wp2_with fail
        refine (awake_any _).mono ?_
        rintro r w9 ⟨rfl, b9⟩
        have bb := b6.trans (b9.mono b6.size)
        go_wp2_with fail
        go_ret
        exact ⟨rfl, bb⟩

theorem walk (H : Type) (enc : TypeId × Value → H) : Walk H enc Try.prog 7 Try.f7 := by
  intro W base args ds p hval hA
  rw [Try.params7] at hA hval
  obtain ⟨v0, vs, d0, ds', p0, q0, e0, rfl, rfl, h0, hA⟩ := trodAll_cons hA
  obtain ⟨v1, vs1, d1, ds1, p1, q1, rfl, rfl, rfl, h1, hA⟩ := trodAll_cons hA
  obtain ⟨v2, vs2, d2, ds2, p2, q2, rfl, rfl, rfl, h2, hA⟩ := trodAll_cons hA
  obtain ⟨v3, vs3, d3, ds3, p3, q3, rfl, rfl, rfl, h3, hA⟩ := trodAll_cons hA
  obtain ⟨v4, vs4, d4, ds4, p4, q4, rfl, rfl, rfl, h4, hA⟩ := trodAll_cons hA
  obtain ⟨rfl, rfl, rfl⟩ := trodAll_nil hA
  obtain ⟨l⟩ := args
  dsimp only at e0
  subst e0
  obtain ⟨x, rfl, rfl, rfl, _⟩ := open_int Try.underlying3 (hval 0 _ v0 rfl rfl) h0
  obtain ⟨a, n, c, V, C, rfl, hn, hm, hV, hC⟩ := open_calls (hval 1 _ v1 rfl rfl) h1
  obtain ⟨p, rfl, rfl, rfl, _⟩ := open_int Try.underlying3 (hval 2 _ v2 rfl rfl) h2
  obtain ⟨y, rfl, rfl, rfl, _⟩ := open_int Try.underlying3 (hval 3 _ v3 rfl rfl) h3
  obtain ⟨z, rfl, rfl, rfl, _⟩ := open_int Try.underlying3 (hval 4 _ v4 rfl rfl) h4
  exact body x a n c V C p y z W hn hm hV hC

set_option maxRecDepth 100000 in
theorem lifted (os : Os) (started : os.Started) (H : Type) (enc : TypeId × Value → H) :
    ReturnsInHanded {} Try.checked os 7 .any (Rows.topoLeastSpec.pre6 enc Try.prog Try.f7 Rows.topoLeastRow.domain false) (Rows.topoLeastSpec.post enc Try.prog Try.f7 false true false false) :=
  returnsInHanded_of_change (C := Try.checked) own started (by kernel_rfl) Try.func7
    (ChangeSpec.witness6 (enc := enc) (C := Try.checked) false ⟨#[], #[.int .i64 0, .slice none 0 0, .int .i64 0, .int .i64 0, .int .i64 0], []⟩ 8 (by kernel_rfl) (by kernel_rfl) (by kernel_rfl) (by kernel_rfl))
    fun W base args ds gs before hval hW _ _ => step_of_walk laidOut (by rw [Try.params7]; exact of_decide_eq_true (by kernel_rfl)) (by kernel_rfl) Try.underlying4 rfl
      (fun ds h => by
        rw [Try.params7] at h
        match ds, h with
        | [_, _, _, _, _], _ => rfl) (walk H enc) W base args ds gs before hval hW

theorem holds : Rows.TopoLeastSaid :=
  OpenClaim.holds_of_wide 7 Try.f7 rfl rfl rfl rfl rfl rfl rfl ⟨rfl, rfl, rfl, rfl, rfl⟩ rfl rfl rfl rfl rfl (by kernel_rfl) Try.func7 (by kernel_rfl)
    (of_decide_eq_true (by kernel_rfl)) (by unfold Func.isWrapper; first | (rw [if_pos (by decide +kernel)]; kernel_rfl) | (rw [if_neg (by decide +kernel)]; exact ⟨rfl, rfl⟩))
    (fun os started H enc _ => lifted os started H enc)
#print axioms holds
end Go.Proofs.Ytcgnfngbljlgeaa.TopoLeast
