/-
  Law DupRow: a row of rising numbers is new, each, and behind that none of them is; the call returns true. No condition.
-/
import Derived.Test.YtbogpnfjlmhhhaaDupLaws
import Derived.Test.YtbogpnfjlmhhhaaOwn
set_option maxRecDepth 100000
namespace Go.Proofs.Ytbogpnfjlmhhhaa.DupRow
set_option linter.unusedVariables false
open Go.RowKit Go.ChangeShapes Go.WideShapes Go.ChangeAt Go.Deep Lb Dp
set_option linter.unusedVariables false
theorem own : ownKnob Try.prog.godebug = none := by kernel_rfl
theorem laidOut : laidOutB Try.prog = true := by kernel_rfl

theorem infoI : (Try.prog.info? 3).map (fun i => (i.zero, i.size, i.bytes)) = some (some (.int .i64 0), 1, 8) := by kernel_rfl

set_option maxHeartbeats 2000000 in
theorem body (f : Int) (a : Option Addr) (n c : Nat) (Z : Nat → Int) (w : World) (hn : n ≤ c) (hm : c ≤ maxLen) (hZ : Row w a n (fun i => .int .i64 (Z i))) :
    Calls Try.prog 7 #[.int .i64 f, .slice a n c] w fun e w' => e = .returned (.bool true) ∧ Below w.heap.size w w' := by
  obtain ⟨i0, hi0, hz0, hz1, hz2⟩ := info_parts infoI
  have hM : 100 ≤ maxLen := by unfold maxLen; omega
  have HM := Lib.hid hM
  clear hM
  unfold maxLen at hm
  have hf := u64_pos f
  go_enter Try.func7, Try.ntmps7
  go_wp2_with fail
  refine (new_any _).mono ?_
  rintro r w1 ⟨rfl, k1, b1, z1⟩
  obtain ⟨g, hg⟩ : ∃ g, g = w1.heap.size := ⟨_, rfl⟩
  go_wp2_with fail
  have f0 : 0 ≤ IntKind.u64.wrap f % 1099511627776 ∧ IntKind.u64.wrap f % 1099511627776 < 1099511627776 := by omega
  generalize IntKind.u64.wrap f % 1099511627776 = x0 at *
  clear hf
  go_loopw [6, 7, 19] (fun u v i wr => ∃ (k : Nat) (x : Int) (X : Nat → Int) (L : Nat → Int) (S : Nat → Nat), u = .int .i64 x ∧ i = .int .i64 k ∧ k ≤ n ∧ k ≤ 60 ∧ 0 ≤ x ∧ x ≤ 1099511627776 + 200 * (k : Int) ∧
      Win wr w.heap.size L S ∧ DGood (L 2) (S 2) ∧ Hid (S 2 = 0 ∨ L 2 ≤ x) ∧ Mine wr (w.heap.size + 1) 3 v k (fun q => .int .i64 (X q)) ∧ Hid (∀ q, q < k → isN (L 2) (S 2) (X q) = false ∧ 0 ≤ X q ∧ X q ≤ x) ∧ Below w.heap.size w wr ∧ w.heap.size < wr.heap.size) (fun _ _ i _ => n - (intOf i).toNat)
  case atStart => exact ⟨0, x0, fun _ => 0, _, _, rfl, rfl, by omega, by omega, by omega, by omega, k1, good_zero 0, Lib.hid (.inl rfl), Mine.nil _ _ _ _, Lib.hid (fun q hq => absurd hq (by omega)), b1, z1⟩
  case round =>
    obtain ⟨k, x, X, L, S, rfl, rfl, hk, hk6, x00, x01, kk, gg, HL, hv, HX, bb, zz⟩ := hrel
    by_cases hlt : k < n ∧ k < 60
    · obtain ⟨hlt, h60⟩ := hlt
      obtain ⟨b, o, rfl, hb, hc⟩ := hZ.at_old bb hlt
      have hu := u64_pos (Z k)
      have hs := bb.size
      have hm1 : k + 1 ≤ maxLen := Nat.le_trans (by omega) HM.out
      have Hm := Lib.hid hm1
      clear hm1 hZ
      go_wp2_with (at_builtin; go_must (refine wp_app rfl (.tmp 33) (.tmp 35) _ rfl (w.heap.size + 1) 3 i0 _ 8 Try.underlying46 hi0 hz0 hz1 hz2 rfl u7 k (fun q => .int .i64 (X q)) rfl (hv.alloc _) _ 1 _ (fun _ => .int .i64 (x + (1 + IntKind.u64.wrap (Z k) % 200))) rfl (row_new _ _ _ _ (fun i hi => by obtain rfl : i = 0 := (by omega); rfl)) (fun _ _ => rfl) Hm.out ?c2 ?c3 ?_))
      case c2 => omega
      case c3 => simp; omega
      intro v' w2 hv2 hg2
      have y0 : x < x + (1 + IntKind.u64.wrap (Z k) % 200) ∧ x + (1 + IntKind.u64.wrap (Z k) % 200) ≤ x + 200 := by omega
      generalize x + (1 + IntKind.u64.wrap (Z k) % 200) = y at *
      have b2 : Below w.heap.size w w2 := (bb.alloc hs _).grown hg2 (by simp; omega) (fun q hq => Nat.le_of_succ_le (hv.lt q hq).1)
      have k2 : Win w2 w.heap.size L S := grown_own hg2 (Own.alloc kk _) (fun e => by have := (hv.lt _ e).1; omega)
      have z2 : w.heap.size < w2.heap.size := Nat.lt_of_lt_of_le zz (Nat.le_trans (by simp) hg2.size)
      have hq : isN (L 2) (S 2) y = true := by
        rw [isN_iff]
        rcases HL.out with h | h
        · exact .inl h
        · exact .inr (.inl (by omega))
      have HQ := Lib.hid hq
      clear hq
      go_wp2_with fail
      refine (new_is w.heap.size 2 L S y true _ k2 (by decide) (by omega) (by omega) gg HQ.out).mono ?_
      rintro r w3 ⟨rfl, k3, j3⟩
      have hv3 := hv2.just j3 (by omega)
      have b3 := j3.below b2 (Nat.le_refl _) (by omega)
      have z3 := Nat.lt_of_lt_of_le z2 j3.size
      have hv4 : Mine w3 (w.heap.size + 1) 3 v' (k + 1) (fun q => .int .i64 (if q < k then X q else y)) := hv3.ext (fun q _ => by split <;> rfl)
      have HX3 : Hid (∀ q, q < k + 1 → isN (upd L 2 (nL (L 2) (S 2) y) 2) (upd S 2 (nS (L 2) (S 2) y) 2) (if q < k then X q else y) = false ∧ 0 ≤ (if q < k then X q else y) ∧ (if q < k then X q else y) ≤ y) := by
        refine Lib.hid fun q hq => ?_
        rw [upd_same, upd_same]
        split
        · rename_i h
          obtain ⟨a1, a2, a3⟩ := HX.out q h
          exact ⟨kn_step y a1, a2, by omega⟩
        · exact ⟨kn_new _ _ _, by omega, by omega⟩
      have HL3 : Hid (upd S 2 (nS (L 2) (S 2) y) 2 = 0 ∨ upd L 2 (nL (L 2) (S 2) y) 2 ≤ y) := by
        refine Lib.hid ?_
        rw [upd_same, upd_same]
        right
        unfold nL
        split
        · omega
        · rename_i h
          rcases HL.out with h1 | h1 <;> omega
      have gg3 : DGood (upd L 2 (nL (L 2) (S 2) y) 2) (upd S 2 (nS (L 2) (S 2) y) 2) := by
        rw [upd_same, upd_same]
        exact good_step gg (by omega) (by omega)
      clear hv hv2 hv3
      go_wp2_with fail
      exact ⟨⟨k + 1, y, _, _, _, rfl, by go_num, by omega, by omega, by omega, by omega, k3, gg3, HL3, hv4, HX3, b3, z3⟩, by simp [intOf]; omega⟩
    · have hv' := hv
      obtain ⟨a', c', rfl, hc1, hc2, hR⟩ := hv'.row
      unfold maxLen at hc2
      have hx : (k < n ∧ decide (60 ≤ (k : Int)) = true) ∨ ¬ k < n := by
        by_cases h1 : k < n
        · exact .inl ⟨h1, by simp; omega⟩
        · exact .inr h1
      clear hlt hv' hR
      rcases hx with ⟨hlt2, h60⟩ | hlt2
      rotate_left
      have h60 := hlt2
      all_goals
        try obtain ⟨b, o, rfl, hb, hc⟩ := hZ.at_old bb hlt2
        clear hZ
        go_wp2_with fail
        go_loopw [44] (fun i w4 => ∃ (j : Nat) (L : Nat → Int) (S : Nat → Nat), i = .int .i64 j ∧ j ≤ k ∧ Win w4 w.heap.size L S ∧ DGood (L 2) (S 2) ∧ Mine w4 (w.heap.size + 1) 3 (.slice a' k c') k (fun q => .int .i64 (X q)) ∧ Hid (∀ q, q < k → isN (L 2) (S 2) (X q) = false ∧ 0 ≤ X q ∧ X q ≤ x) ∧ Below w.heap.size w w4 ∧ w.heap.size < w4.heap.size) (fun i _ => k - (intOf i).toNat)
        case atStart => exact ⟨0, L, S, rfl, by omega, kk, gg, hv, HX, bb, zz⟩
        case round =>
          rename_i w4 _
          obtain ⟨j, L', S', rfl, hj, k4, g4, v4, HX4, b4, z4⟩ := hrel
          by_cases hjk : j < k
          · obtain ⟨b2, o2, rfl, hb2, hc2⟩ := v4.rowAt.at_ hjk
            obtain ⟨q1, q2, q3⟩ := HX4.out j hjk
            have HQ := Lib.hid q1
            clear q1
            go_wp2_with fail
            refine (new_is w.heap.size 2 L' S' (X j) false _ k4 (by decide) q2 (by omega) g4 HQ.out).mono ?_
            rintro r w5 ⟨rfl, k5, j5⟩
            have v5 := v4.just j5 (by omega)
            have b5 := j5.below b4 (Nat.le_refl _) (by omega)
            have z5 := Nat.lt_of_lt_of_le z4 j5.size
            obtain ⟨e1, e2⟩ := isN_false HQ.out
            rw [e1, e2, upd_self, upd_self] at k5
            clear e1 e2
            go_wp2_with fail
            exact ⟨⟨j + 1, L', S', by go_num, by omega, k5, g4, v5, HX4, b5, z5⟩, by simp [intOf]; omega⟩
          · go_wp2_with fail
            refine (awake_any _).mono ?_
            rintro r w9 ⟨rfl, b9⟩
            go_wp2_with fail
            go_ret
            exact ⟨rfl, b4.trans (b9.mono b4.size)⟩

theorem walk (H : Type) (enc : TypeId × Value → H) : Walk H enc Try.prog 7 Try.f7 := by
  intro W base args ds p hval hA
  rw [Try.params7] at hA hval
  obtain ⟨v0, v1, d0, d1, p0, p1, rfl, rfl, rfl, h0, h1⟩ := trodAll_two hA
  obtain ⟨f, rfl, rfl, rfl, w1⟩ := open_int Try.underlying3 (hval 0 _ v0 rfl rfl) h0
  obtain ⟨a, n, c, Z, rfl, hn, hm, hZ, hz⟩ := open_row_int Try.underlying46 Try.underlying3 (by kernel_rfl) (hval 1 _ v1 rfl rfl) h1
  exact body f a n c Z W hn hm hZ

set_option maxRecDepth 100000 in
theorem lifted (os : Os) (started : os.Started) (H : Type) (enc : TypeId × Value → H) :
    ReturnsInHanded {} Try.checked os 7 .any (Rows.dupRowSpec.pre6 enc Try.prog Try.f7 Rows.dupRowRow.domain false) (Rows.dupRowSpec.post enc Try.prog Try.f7 false true false false) :=
  returnsInHanded_of_change (C := Try.checked) own started (by kernel_rfl) Try.func7
    (ChangeSpec.witness6 (enc := enc) (C := Try.checked) false ⟨#[], #[.int .i64 0, .slice none 0 0], []⟩ 8 (by kernel_rfl) (by kernel_rfl) (by kernel_rfl) (by kernel_rfl))
    fun W base args ds gs before hval hW _ _ => step_of_walk laidOut (by rw [Try.params7]; exact of_decide_eq_true (by kernel_rfl)) (by kernel_rfl) Try.underlying4 rfl
      (fun ds h => by
        rw [Try.params7] at h
        match ds, h with
        | [_, _], _ => rfl) (walk H enc) W base args ds gs before hval hW

theorem holds : Rows.DupRowSaid :=
  OpenClaim.holds_of_wide 7 Try.f7 rfl rfl rfl rfl rfl rfl rfl ⟨rfl, rfl, rfl, rfl, rfl⟩ rfl rfl rfl rfl rfl (by kernel_rfl) Try.func7 (by kernel_rfl)
    (of_decide_eq_true (by kernel_rfl)) (by unfold Func.isWrapper; first | (rw [if_pos (by decide +kernel)]; kernel_rfl) | (rw [if_neg (by decide +kernel)]; exact ⟨rfl, rfl⟩))
    (fun os started H enc _ => lifted os started H enc)
#print axioms holds
end Go.Proofs.Ytbogpnfjlmhhhaa.DupRow
