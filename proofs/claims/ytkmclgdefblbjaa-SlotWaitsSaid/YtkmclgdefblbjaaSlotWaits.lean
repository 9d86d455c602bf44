/-
  Law SlotWaits: with nothing that waits nothing is sent; with one more behind the others the same one goes first, or that one; the call returns true. No condition.
-/
import Derived.Test.YtkmclgdefblbjaaSlotLaws
import Derived.Test.YtkmclgdefblbjaaSlotStep
import Derived.Test.YtkmclgdefblbjaaCellArg
import Derived.Test.YtkmclgdefblbjaaOwn
import Derived.Deep.Cut
set_option maxRecDepth 100000
namespace Go.Proofs.Ytkmclgdefblbjaa.SlotWaits
set_option linter.unusedVariables false
open Go.RowKit Go.ChangeShapes Go.WideShapes Go.ChangeAt Go.Deep Lb Cl Sl
set_option linter.unusedVariables false
theorem own : ownKnob Try.prog.godebug = none := by kernel_rfl
theorem laidOut : laidOutB Try.prog = true := by kernel_rfl
theorem infoI : (Try.prog.info? 3).map (fun i => (i.zero, i.size, i.bytes)) = some (some (.int .i64 0), 1, 8) := by kernel_rfl

set_option maxHeartbeats 4000000 in
theorem body (a b : Option Addr) (n c m e : Nat) (L : Nat → C) (W : Nat → Int) (more : Int) (w : World) (hn : n ≤ c) (hc : c ≤ maxLen) (hm : m ≤ e) (he : e ≤ maxLen) (hL : Row w a (n * 5) (cv L)) (hW : Row w b m (fun i => .int .i64 (W i))) :
    Calls Try.prog 5 #[.slice a n c, .slice b m e, .int .i64 more] w fun r w' => r = .returned (.bool true) ∧ Below w.heap.size w w' := by
  by_cases h1 : 60 < n
  · have g1 : (60 : Int) < (n : Int) := by omega
    go_enter Try.func5, Try.ntmps5
    go_wp2_with fail
    all_goals
      refine (awake_any _).mono ?_
      rintro r w9 ⟨rfl, b9⟩
      go_wp2_with fail
      go_ret
      exact ⟨rfl, b9⟩
  · have g1 : decide ((60 : Int) < (n : Int)) = false := by simp; omega
    by_cases h2 : 60 < m
    · have g2 : (60 : Int) < (m : Int) := by omega
      clear h1
      go_enter Try.func5, Try.ntmps5
      go_wp2_with fail
      refine (awake_any _).mono ?_
      rintro r w9 ⟨rfl, b9⟩
      go_wp2_with fail
      go_ret
      exact ⟨rfl, b9⟩
    · have g2 : decide ((60 : Int) < (m : Int)) = false := by simp; omega
      have hm60 : m ≤ 60 := by omega
      clear h1 h2
      obtain ⟨V, hVd⟩ : ∃ V : Nat → Int, V = fun i => if i < m then W i else more := ⟨_, rfl⟩
      have hVW : ∀ i, i < m → V i = W i := fun i hi => by rw [hVd]; simp only [if_pos hi]
      obtain ⟨kn, xn, hkn, hN⟩ := dec_nothing L n W true
      have HN := Lib.hid hN
      have HC := Lib.hid (waits_cases (L := L) (n := n) (Z := W) hVW)
      obtain ⟨da, hda⟩ : ∃ d, dec L n W m true = d := ⟨_, rfl⟩
      obtain ⟨db, hdb⟩ : ∃ d, dec L n V (m + 1) true = d := ⟨_, rfl⟩
      rw [hN, hda, hdb] at HC
      have HA := Lib.hid hda
      have HB := Lib.hid hdb
      clear hN hda hdb hVW
      obtain ⟨i0, hi0, hz0, hz1, hz2⟩ := info_parts infoI
      obtain ⟨fn, sn, cn, on, pn⟩ := xn
      obtain ⟨ka, ⟨fa, sa, ca, oa, pa⟩, ta⟩ := da
      obtain ⟨kb, ⟨fb, sb, cb, ob, pb⟩, tb⟩ := db
      go_enter Try.func5, Try.ntmps5
      go_wp2_with fail
      refine (decide_any a none n c 0 0 L W true _ hn hc (Nat.le_refl _) (Nat.zero_le _) hL (Row.nil _ _ _)).mono ?_
      rintro r w1 ⟨rfl, b1⟩
      rw [HN.out]
      simp only [A.vals]
      have HR : Hid (w.heap.size ≤ w1.heap.size) := Lib.hid b1.size
      go_wp2_with fail
      have o1 := Own.new w1 28 #[.int .i64 kn, .int .i64 fn, .int .i64 sn, .int .i64 cn, .int .i64 on, .int .i64 pn, .int .i64 0]
      have b1 := b1.alloc b1.size (.cells #[.int .i64 kn, .int .i64 fn, .int .i64 sn, .int .i64 cn, .int .i64 on, .int .i64 pn, .int .i64 0] 28)
      generalize w1.alloc (.cells #[.int .i64 kn, .int .i64 fn, .int .i64 sn, .int .i64 cn, .int .i64 on, .int .i64 pn, .int .i64 0] 28) = w2 at *
      have z2 : w1.heap.size < w2.heap.size := o1.lt
      generalize w1.heap.size = r1 at *
      refine (decide_any a b n c m e L W true _ hn hc hm he (hL.below b1) (hW.below b1)).mono ?_
      rintro r w3 ⟨rfl, b3⟩
      rw [HA.out]
      simp only [A.vals]
      have o1 := below_own b3 o1 o1.lt
      have z3 := o1.lt
      have b3 := b1.trans (b3.mono b1.size)
      clear b1
      have o3 := Own.new w3 28 #[.int .i64 ka, .int .i64 fa, .int .i64 sa, .int .i64 ca, .int .i64 oa, .int .i64 pa, .int .i64 ta]
      have o1 := o1.alloc (.cells #[.int .i64 ka, .int .i64 fa, .int .i64 sa, .int .i64 ca, .int .i64 oa, .int .i64 pa, .int .i64 ta] 28)
      have b3 := b3.alloc b3.size (.cells #[.int .i64 ka, .int .i64 fa, .int .i64 sa, .int .i64 ca, .int .i64 oa, .int .i64 pa, .int .i64 ta] 28)
      have oe : Own ((w3.alloc (.cells #[.int .i64 ka, .int .i64 fa, .int .i64 sa, .int .i64 ca, .int .i64 oa, .int .i64 pa, .int .i64 ta] 28)).alloc (.cells #[] 3)) (w3.heap.size + 1) 3 #[] := by
        have := Own.new (w3.alloc (.cells #[.int .i64 ka, .int .i64 fa, .int .i64 sa, .int .i64 ca, .int .i64 oa, .int .i64 pa, .int .i64 ta] 28)) 3 #[]
        rwa [show (w3.alloc (.cells #[.int .i64 ka, .int .i64 fa, .int .i64 sa, .int .i64 ca, .int .i64 oa, .int .i64 pa, .int .i64 ta] 28)).heap.size = w3.heap.size + 1 by simp] at this
      have be := b3.alloc b3.size (.cells #[] 3)
      have hws : w.heap.size ≤ w3.heap.size + 1 := by have := b3.size; simp at this; omega
      have me : Mine ((w3.alloc (.cells #[.int .i64 ka, .int .i64 fa, .int .i64 sa, .int .i64 ca, .int .i64 oa, .int .i64 pa, .int .i64 ta] 28)).alloc (.cells #[] 3)) w.heap.size 3 (.slice (some ⟨w3.heap.size + 1, 0, none⟩) 0 0) 0 (fun _ => undef) :=
        Mine.made oe hws (Nat.zero_le _) (Nat.le_refl 0) (fun i hi => absurd hi (by omega))
      have H63 : Hid (0 + m ≤ maxLen) := Lib.hid (by unfold maxLen; omega)
      have H64 : Hid (m + 1 ≤ maxLen) := Lib.hid (by unfold maxLen; omega)
      have hcap : ((m : Int)) ≤ 60 := by omega
      go_wp2_with (at_builtin; go_must (refine wp_app_at rfl (.tmp 25) (.tmp 26) _ rfl w.heap.size 3 i0 _ 8 Try.underlying23 hi0 hz0 hz1 hz2 rfl _ 0 (fun _ => undef) rfl me b m e (fun i => .int .i64 (W i)) rfl (hW.below be) (fun _ _ => rfl) H63.out ?c2 ?c3 ?_))
      case c2 => omega
      case c3 => exact be.size
      intro v5 w5 m5 g5 l5
      have o1 := grown_own g5 (o1.alloc (.cells #[] 3)) (by intro h; simp [Value.ownBlock] at h <;> omega)
      have o3 := grown_own g5 (o3.alloc (.cells #[] 3)) (by intro h; simp [Value.ownBlock] at h <;> omega)
      have b5 := be.grown g5 be.size (fun q hq => (me.lt q hq).1)
      have n5 : ∀ q, v5.ownBlock = some q → w3.heap.size + 1 ≤ q := fun q hq => by
        rcases l5 with h | h
        · rw [hq] at h; simp [Value.ownBlock] at h <;> omega
        · rw [hq] at h; simp at h; omega
      have s5 : w3.heap.size < w5.heap.size := o3.lt
      clear be oe me b3 l5 hws
      generalize w3.heap.size = r3 at *
      have o1 := o1.alloc (.cells #[.int .i64 more] 3)
      have o3 := o3.alloc (.cells #[.int .i64 more] 3)
      have b5a := b5.alloc b5.size (.cells #[.int .i64 more] 3)
      go_wp2_with (at_builtin; go_must (refine wp_app rfl (.tmp 27) (.tmp 29) _ rfl w.heap.size 3 i0 _ 8 Try.underlying23 hi0 hz0 hz1 hz2 rfl v5 m _ rfl (m5.alloc _) _ 1 _ (fun _ => .int .i64 more) rfl (row_new _ _ _ _ (fun i hi => by obtain rfl : i = 0 := (by omega); rfl)) (fun _ _ => rfl) H64.out ?c2 ?c3 ?_))
      case c2 => omega
      case c3 => exact b5a.size
      intro v6 w6 m6 g6
      have o1 := grown_own g6 o1 (by intro h; have := n5 _ h; omega)
      have o3 := grown_own g6 o3 (by intro h; have := n5 _ h; omega)
      have b6 := b5a.grown g6 b5a.size (fun q hq => (m5.lt q hq).1)
      have m6 := m6.ext (U := fun i => .int .i64 (V i)) (fun i hi => by
        rw [hVd]
        by_cases h : i < m
        · simp [h]
        · simp [h])
      obtain ⟨a6, c6, rfl, hc6, hm6, hV6⟩ := m6.row
      clear m5 m6 g5 g6 n5 b5 b5a hVd
      go_wp2_with fail
      refine (decide_any a a6 n c (m + 1) c6 L V true _ hn hc hc6 hm6 (hL.below b6) hV6).mono ?_
      rintro r w7 ⟨rfl, b7⟩
      rw [HB.out]
      simp only [A.vals]
      have o1 := (below_own b7 o1 o1.lt).alloc (.cells #[.int .i64 kb, .int .i64 fb, .int .i64 sb, .int .i64 cb, .int .i64 ob, .int .i64 pb, .int .i64 tb] 28)
      have o3 := (below_own b7 o3 o3.lt).alloc (.cells #[.int .i64 kb, .int .i64 fb, .int .i64 sb, .int .i64 cb, .int .i64 ob, .int .i64 pb, .int .i64 tb] 28)
      have o7 := Own.new w7 28 #[.int .i64 kb, .int .i64 fb, .int .i64 sb, .int .i64 cb, .int .i64 ob, .int .i64 pb, .int .i64 tb]
      have b7 := (b6.trans (b7.mono b6.size)).alloc (Nat.le_trans b6.size b7.size) (.cells #[.int .i64 kb, .int .i64 fb, .int .i64 sb, .int .i64 cb, .int .i64 ob, .int .i64 pb, .int .i64 tb] 28)
      clear b6 hV6 hL hW
      go_upto_region 6 with (fail)
      generalize w7.alloc (.cells #[.int .i64 kb, .int .i64 fb, .int .i64 sb, .int .i64 cb, .int .i64 ob, .int .i64 pb, .int .i64 tb] 28) = w8 at *
      generalize w7.heap.size = r7 at *
      have n0 : w8.cell? ⟨r1, 0, none⟩ = some (.int .i64 kn) := o1.cell 0
      have n1 : w8.cell? ⟨r1, 1, none⟩ = some (.int .i64 fn) := o1.cell 1
      have n2 : w8.cell? ⟨r1, 2, none⟩ = some (.int .i64 sn) := o1.cell 2
      have n3 : w8.cell? ⟨r1, 3, none⟩ = some (.int .i64 cn) := o1.cell 3
      have n4 : w8.cell? ⟨r1, 4, none⟩ = some (.int .i64 on) := o1.cell 4
      have n5 : w8.cell? ⟨r1, 5, none⟩ = some (.int .i64 pn) := o1.cell 5
      have n6 : w8.cell? ⟨r1, 6, none⟩ = some (.int .i64 0) := o1.cell 6
      have a0 : w8.cell? ⟨r3, 0, none⟩ = some (.int .i64 ka) := o3.cell 0
      have a1 : w8.cell? ⟨r3, 1, none⟩ = some (.int .i64 fa) := o3.cell 1
      have a2 : w8.cell? ⟨r3, 2, none⟩ = some (.int .i64 sa) := o3.cell 2
      have a3 : w8.cell? ⟨r3, 3, none⟩ = some (.int .i64 ca) := o3.cell 3
      have a4 : w8.cell? ⟨r3, 4, none⟩ = some (.int .i64 oa) := o3.cell 4
      have a5 : w8.cell? ⟨r3, 5, none⟩ = some (.int .i64 pa) := o3.cell 5
      have a6 : w8.cell? ⟨r3, 6, none⟩ = some (.int .i64 ta) := o3.cell 6
      have b0 : w8.cell? ⟨r7, 0, none⟩ = some (.int .i64 kb) := o7.cell 0
      have b1 : w8.cell? ⟨r7, 1, none⟩ = some (.int .i64 fb) := o7.cell 1
      have b2 : w8.cell? ⟨r7, 2, none⟩ = some (.int .i64 sb) := o7.cell 2
      have b3 : w8.cell? ⟨r7, 3, none⟩ = some (.int .i64 cb) := o7.cell 3
      have b4 : w8.cell? ⟨r7, 4, none⟩ = some (.int .i64 ob) := o7.cell 4
      have b5 : w8.cell? ⟨r7, 5, none⟩ = some (.int .i64 pb) := o7.cell 5
      have b6 : w8.cell? ⟨r7, 6, none⟩ = some (.int .i64 tb) := o7.cell 6
      rcases HC.out with ⟨x, t, ha, hb⟩ | ⟨x, y, t, ht, ha, hb⟩ | ⟨ha, hb⟩ | ⟨ha, y, hb, hy⟩
      · cases ha
        cases hb
        rcases hkn with rfl | rfl
        all_goals
          go_wp2_with fail
          refine (awake_any _).mono ?_
          rintro r w9 ⟨rfl, b9⟩
          have bb := b7.trans (b9.mono b7.size)
          go_wp2_with fail
          go_ret
          exact ⟨rfl, bb⟩
      · cases ha
        cases hb
        have hne : ((m : Int) == (t : Int)) = false := by simp; omega
        rcases hkn with rfl | rfl
        all_goals
          go_wp2_with fail
          refine (awake_any _).mono ?_
          rintro r w9 ⟨rfl, b9⟩
          have bb := b7.trans (b9.mono b7.size)
          go_wp2_with fail
          go_ret
          exact ⟨rfl, bb⟩
      · cases ha
        cases hb
        rcases hkn with rfl | rfl
        all_goals
          go_wp2_with fail
          refine (awake_any _).mono ?_
          rintro r w9 ⟨rfl, b9⟩
          have bb := b7.trans (b9.mono b7.size)
          go_wp2_with fail
          go_ret
          exact ⟨rfl, bb⟩
      · cases ha
        cases hb
        have HY := Lib.hid (show mayC fb sb cb ob pb = true from hy)
        clear hy
        rcases hkn with rfl | rfl
        all_goals
          go_wp2_with fail
          refine (ref_may _ _ _ _ _ _).mono ?_
          rintro r w8 ⟨rfl, b8⟩
          rw [HY.out]
          have b8 := b7.trans (b8.mono b7.size)
          go_wp2_with fail
          refine (awake_any _).mono ?_
          rintro r w9 ⟨rfl, b9⟩
          have bb := b8.trans (b9.mono b8.size)
          go_wp2_with fail
          go_ret
          exact ⟨rfl, bb⟩

theorem walk (H : Type) (enc : TypeId × Value → H) : Walk H enc Try.prog 5 Try.f5 := by
  intro W base args ds p hval hA
  rw [Try.params5] at hA hval
  obtain ⟨v0, v1, v2, d0, d1, d2, p0, p1, p2, rfl, rfl, rfl, h0, h1, h2⟩ := trodAll_three hA
  obtain ⟨a, n, c, L, rfl, hn, hm, hZ, _⟩ := open_cells (hval 0 _ v0 rfl rfl) h0
  obtain ⟨b, m, e, Z, rfl, hm2, he, hW, hz⟩ := open_row_int Try.underlying23 Try.underlying3 (by kernel_rfl) (hval 1 _ v1 rfl rfl) h1
  obtain ⟨more, rfl, rfl, rfl, w3⟩ := open_int Try.underlying3 (hval 2 _ v2 rfl rfl) h2
  exact body a b n c m e L Z more W hn hm hm2 he hZ hW

set_option maxRecDepth 100000 in
theorem lifted (os : Os) (started : os.Started) (H : Type) (enc : TypeId × Value → H) :
    ReturnsInHanded {} Try.checked os 5 .any (Rows.slotWaitsSpec.pre6 enc Try.prog Try.f5 Rows.slotWaitsRow.domain false) (Rows.slotWaitsSpec.post enc Try.prog Try.f5 false true false false) :=
  returnsInHanded_of_change (C := Try.checked) own started (by kernel_rfl) Try.func5
    (ChangeSpec.witness6 (enc := enc) (C := Try.checked) false ⟨#[], #[.slice none 0 0, .slice none 0 0, .int .i64 0], []⟩ 8 (by kernel_rfl) (by kernel_rfl) (by kernel_rfl) (by kernel_rfl))
    fun W base args ds gs before hval hW _ _ => step_of_walk laidOut (by rw [Try.params5]; exact of_decide_eq_true (by kernel_rfl)) (by kernel_rfl) Try.underlying4 rfl
      (fun ds h => by
        rw [Try.params5] at h
        match ds, h with
        | [_, _, _], _ => rfl) (walk H enc) W base args ds gs before hval hW

theorem holds : Rows.SlotWaitsSaid :=
  OpenClaim.holds_of_wide 5 Try.f5 rfl rfl rfl rfl rfl rfl rfl ⟨rfl, rfl, rfl, rfl, rfl⟩ rfl rfl rfl rfl rfl (by kernel_rfl) Try.func5 (by kernel_rfl)
    (of_decide_eq_true (by kernel_rfl)) (by unfold Func.isWrapper; first | (rw [if_pos (by decide +kernel)]; kernel_rfl) | (rw [if_neg (by decide +kernel)]; exact ⟨rfl, rfl⟩))
    (fun os started H enc _ => lifted os started H enc)
#print axioms holds
end Go.Proofs.Ytkmclgdefblbjaa.SlotWaits
