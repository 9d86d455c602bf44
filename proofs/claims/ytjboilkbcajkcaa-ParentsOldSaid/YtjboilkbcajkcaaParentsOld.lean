/-
  Law ParentsOld: just those go that were not heard for so long; who is heard again stays; the call returns true. No condition.
-/
import Derived.Test.YtjboilkbcajkcaaPaSame
set_option maxRecDepth 100000
namespace Go.Proofs.Ytjboilkbcajkcaa.ParentsOld
set_option linter.unusedVariables false
open Go.RowKit Go.ChangeShapes Go.WideShapes Go.ChangeAt Go.Deep Lb Pa
set_option linter.unusedVariables false
theorem own : ownKnob Try.prog.godebug = none := by kernel_rfl
theorem laidOut : laidOutB Try.prog = true := by kernel_rfl
theorem two_l (X Y : Int) (hy : 0 ≤ Y) : hearB 9 6 [⟨1, 5, X⟩] ⟨2, 5, Y⟩ = true ∧ hearR 9 6 [⟨1, 5, X⟩] ⟨2, 5, Y⟩ = 6 ∧ hearL 9 6 [⟨1, 5, X⟩] ⟨2, 5, Y⟩ = [⟨1, 5, X⟩, ⟨2, 5, Y⟩] := by
  have hm : mayH 9 ⟨2, 5, Y⟩ = true := by simp [mayH, ndB, rkB, hy]
  unfold hearB hearR hearL
  rw [if_pos hm, if_neg (by simp), if_pos hm, if_neg (by simp), if_pos hm, if_neg (by simp)]
  exact ⟨rfl, rfl, rfl⟩
theorem one_l (X : Int) (hx : 0 ≤ X) : hearB 9 200 [] ⟨1, 5, X⟩ = true ∧ hearR 9 200 [] ⟨1, 5, X⟩ = 6 ∧ hearL 9 200 [] ⟨1, 5, X⟩ = [⟨1, 5, X⟩] := by
  have hm : mayH 9 ⟨1, 5, X⟩ = true := by simp [mayH, ndB, rkB, hx]
  unfold hearB hearR hearL
  rw [if_pos hm, if_neg (by simp), if_pos hm, if_neg (by simp), if_pos hm, if_neg (by simp)]
  exact ⟨rfl, rfl, rfl⟩
/-- Who goes, and how many stay. -/
def gone (N L X Y : Int) : List Int := (if N - X < L then [] else [1]) ++ (if N - Y < L then [] else [2])
theorem gone_is (N L X Y : Int) : srtd (goN (N - L) [⟨1, 5, X⟩, ⟨2, 5, Y⟩]) = gone N L X Y ∧ (goN (N - L) [⟨1, 5, X⟩, ⟨2, 5, Y⟩]).length = (gone N L X Y).length ∧ (kept (fun x => decide (x.h ≤ N - L)) [⟨1, 5, X⟩, ⟨2, 5, Y⟩] ([⟨1, 5, X⟩, ⟨2, 5, Y⟩] : List P).length).length = 2 - (gone N L X Y).length := by
  unfold goN goP kept srtd gone
  by_cases h1 : N - X < L <;> by_cases h2 : N - Y < L
  · have e1 : N - L < X := by omega
    have e2 : N - L < Y := by omega
    have e3 : ¬ X ≤ N - L := by omega
    have e4 : ¬ Y ≤ N - L := by omega
    simp [h1, h2, e1, e2, e3, e4]
  · have e1 : N - L < X := by omega
    have e2 : ¬ N - L < Y := by omega
    have e3 : ¬ X ≤ N - L := by omega
    have e4 : Y ≤ N - L := by omega
    simp [h1, h2, e1, e2, e3, e4]
  · have e1 : ¬ N - L < X := by omega
    have e2 : N - L < Y := by omega
    have e3 : X ≤ N - L := by omega
    have e4 : ¬ Y ≤ N - L := by omega
    simp [h1, h2, e1, e2, e3, e4]
  · have e1 : ¬ N - L < X := by omega
    have e2 : ¬ N - L < Y := by omega
    have e3 : X ≤ N - L := by omega
    have e4 : Y ≤ N - L := by omega
    simp [h1, h2, e1, e2, e3, e4, List.mergeSort]
set_option maxHeartbeats 4000000 in
theorem body (a b loss now : Int) (w : World) :
    Calls Try.prog 6 #[.int .i64 a, .int .i64 b, .int .i64 loss, .int .i64 now] w fun q w' => q = .returned (.bool true) ∧ Below w.heap.size w w' := by
  obtain ⟨i0, hi0, hz0, hz1, hz2⟩ := info_parts infoI
  obtain ⟨X, hX⟩ : ∃ A, a % 18446744073709551616 % 100 = A := ⟨_, rfl⟩
  obtain ⟨Y, hY⟩ : ∃ A, b % 18446744073709551616 % 100 = A := ⟨_, rfl⟩
  obtain ⟨L, hL⟩ : ∃ A, 1 + loss % 18446744073709551616 % 50 = A := ⟨_, rfl⟩
  obtain ⟨N, hN⟩ : ∃ A, now % 18446744073709551616 % 1000 = A := ⟨_, rfl⟩
  have bX : 0 ≤ X ∧ X ≤ 99 := by omega
  have bY : 0 ≤ Y ∧ Y ≤ 99 := by omega
  have bL : 1 ≤ L ∧ L ≤ 50 := by omega
  have bN : 0 ≤ N ∧ N ≤ 999 := by omega
  have tm : ∀ x m : Int, (IntKind.u64.wrap x).tmod m = (x % 18446744073709551616) % m := fun x m => by rw [IntKind.wrap_u64, Int.tmod_eq_emod_of_nonneg (Int.emod_nonneg _ (by decide))]
  have HX := Lib.hid (show wrap64 ((IntKind.u64.wrap a).tmod 100) = X by rw [tm, hX, IntWalk.wrap64_in _ ⟨by omega, by omega⟩])
  have HY := Lib.hid (show wrap64 ((IntKind.u64.wrap b).tmod 100) = Y by rw [tm, hY, IntWalk.wrap64_in _ ⟨by omega, by omega⟩])
  have HN := Lib.hid (show wrap64 ((IntKind.u64.wrap now).tmod 1000) = N by rw [tm, hN, IntWalk.wrap64_in _ ⟨by omega, by omega⟩])
  have HL := Lib.hid (show wrap64 (1 + wrap64 ((IntKind.u64.wrap loss).tmod 50)) = L by rw [tm, IntWalk.wrap64_in (loss % 18446744073709551616 % 50) ⟨by omega, by omega⟩, hL, IntWalk.wrap64_in _ ⟨by omega, by omega⟩])
  clear hX hY hL hN tm
  go_enter Try.func6, Try.ntmps6
  go_wp2_with fail
  rw [HX.out, HY.out, HN.out, HL.out]
  clear HX HY HN HL
  refine (new_yes 9 200 _ rfl rfl).mono ?_
  rintro r w1 ⟨rfl, t1, b1⟩
  go_wp2_with fail
  refine (hear_any w.heap.size w.heap.size 9 200 [] (.slice none 0 0) ⟨1, 5, X⟩ w1 t1 (by simp) (by omega)).mono ?_
  rintro r w2 ⟨rfl, v2, t2, j2⟩
  have b2 := b1.trans (j2.below (Nat.le_refl w.heap.size) (fun q e => by cases e) b1.size)
  obtain ⟨hb1, hr1, hl1⟩ := one_l X bX.1
  rw [hb1]
  rw [hr1, hl1] at t2
  clear hb1 hr1 hl1 t1 b1 j2
  go_wp2_with fail
  refine (hear_any _ _ 9 6 [⟨1, 5, X⟩] v2 ⟨2, 5, Y⟩ w2 t2 (by simp) (by omega)).mono ?_
  rintro r w3 ⟨rfl, v3, t3, j3⟩
  have b3 := b2.trans (j3.old t2)
  obtain ⟨hb2, hr2, hl2⟩ := two_l X Y bY.1
  rw [hb2]
  rw [hr2, hl2] at t3
  clear hb2 hr2 hl2 t2 b2 j3
  obtain ⟨hg1, hg2, hg3⟩ := gone_is N L X Y
  have HG1 := Lib.hid hg1
  have HG2 := Lib.hid hg2
  have HG3 := Lib.hid hg3
  have sN : IntKind.i64.wrap (N - X) = N - X := IntWalk.i64_in _ (by omega)
  have mN : Mine w3 w3.heap.size 3 (.slice none 0 0) 0 (zval []) := Mine.nil _ _ _ _
  clear hg1 hg2 hg3 sN
  obtain ⟨e1, he1⟩ : ∃ e, decide (L ≤ N - X) = e := ⟨_, rfl⟩
  obtain ⟨e2, he2⟩ : ∃ e, decide (L ≤ N - Y) = e := ⟨_, rfl⟩
  have HE : Hid (gone N L X Y = (if e1 then [1] else []) ++ (if e2 then [2] else [])) := Lib.hid (by
    rw [← he1, ← he2]
    unfold gone
    by_cases h1 : N - X < L <;> by_cases h2 : N - Y < L
    · simp [h1, h2, show ¬ L ≤ N - X by omega, show ¬ L ≤ N - Y by omega]
    · simp [h1, h2, show ¬ L ≤ N - X by omega, show L ≤ N - Y by omega]
    · simp [h1, h2, show L ≤ N - X by omega, show ¬ L ≤ N - Y by omega]
    · simp [h1, h2, show L ≤ N - X by omega, show L ≤ N - Y by omega])
  have bN : Below w3.heap.size w3 w3 := Below.refl _ _
  cases e1 <;> cases e2
  · have t4 := t3.below bN
    have b4 := b3.trans (bN.mono b3.size)
    have HW : Hid (gone N L X Y = []) := Lib.hid (by rw [HE.out]; rfl)
    go_wp2_with fail
    refine (old_any sort_ok _ _ 9 6 N L (N - L) [⟨1, 5, X⟩, ⟨2, 5, Y⟩] v3 _ t4 (by omega) (by omega) (by omega) (by omega)).mono ?_
    rintro r w6 ⟨gv, v6, rfl, m6, t6, j6⟩
    rw [HG2.out, HG1.out, HW.out] at m6
    have b6 := b4.trans (j6.old t4)
    have mN6 := mN.kept (w' := w6) (fun q hq => by
      by_cases e : Value.ownBlock (.slice none 0 0) = some q
      · exact .inl (j6.keep q (mN.lt q e).2 (by have := t3.own.lt; omega) (fun e' => by have := (t3.blk q e').2; omega))
      · exact .inr e)
    obtain ⟨A6, c6, rfl, hc6, hd6, hR6⟩ := m6.row
    have hR7 := mN6.rowAt
    clear t4 j6 m6 mN mN6 b4 bN t3
    go_wp2_with fail
    refine (same_ints _ _ 0 c6 0 (zval []) (fun j => ([] : List Int).getD j 0) _ rfl hc6 (Nat.le_refl _) hd6 (Nat.zero_le _) hR6 hR7).mono ?_
    rintro r w8 ⟨rfl, m8, hm8⟩
    have b8 : Below w.heap.size w w8 := by rw [← hm8]; exact below_drewN b6 m8
    have t8 := t6.below (w' := w8) (by rw [← hm8]; exact below_drewN (Below.refl _ _) m8)
    clear hm8 t6 b6 hR6 hR7
    go_wp2_with fail
    refine (all_any _ _ 9 6 _ v6 w8 t8).mono ?_
    rintro r w9 ⟨A9, c9, rfl, hc9, hd9, hR9, b9⟩
    rw [HG3.out, HW.out] at hc9 ⊢
    go_wp2_with fail
    refine (awake_any _).mono ?_
    rintro r w10 ⟨rfl, b10⟩
    go_wp2_with fail
    go_ret
    exact ⟨rfl, (b8.trans (b9.mono b8.size)).trans (b10.mono (b8.trans (b9.mono b8.size)).size)⟩
  · have rw2 := Lib.hid (row_new (n := 1) (V := fun _ => .int .i64 2) w3 #[.int .i64 2] 3 (0, 0) (fun i hi => by obtain rfl : i = 0 := (by omega); rfl))
    have bA := bN.alloc bN.size (.cells #[.int .i64 2] 3)
    have hs2 : w3.heap.size ≤ (w3.alloc (.cells #[.int .i64 2] 3)).heap.size := bA.size
    go_wp2_with (at_builtin; go_must (refine wp_app rfl (.tmp 58) (.tmp 59) _ rfl w3.heap.size 3 i0 _ 8 Try.underlying31 hi0 hz0 hz1 hz2 rfl (.slice none 0 0) 0 (zval []) rfl (mN.alloc _) _ 1 _ (fun _ => .int .i64 2) rfl rw2.out (fun _ _ => rfl) ?c1 ?c2 ?c3 ?_))
    case c1 => unfold maxLen; omega
    case c2 => omega
    case c3 => exact hs2
    intro u2 x2 mK hg
    have bN := bA.grown hg hs2 (fun q hq => (mN.lt q hq).1)
    have mN := mK.ext (U := zval [2]) (fun q hq => by
      rcases (show q = 0 by omega) with rfl <;> rfl)
    clear mK hg bA rw2 hs2
    have t4 := t3.below bN
    have b4 := b3.trans (bN.mono b3.size)
    have HW : Hid (gone N L X Y = [2]) := Lib.hid (by rw [HE.out]; rfl)
    go_wp2_with fail
    refine (old_any sort_ok _ _ 9 6 N L (N - L) [⟨1, 5, X⟩, ⟨2, 5, Y⟩] v3 _ t4 (by omega) (by omega) (by omega) (by omega)).mono ?_
    rintro r w6 ⟨gv, v6, rfl, m6, t6, j6⟩
    rw [HG2.out, HG1.out, HW.out] at m6
    have b6 := b4.trans (j6.old t4)
    have mN6 := mN.kept (w' := w6) (fun q hq => by
      by_cases e : Value.ownBlock u2 = some q
      · exact .inl (j6.keep q (mN.lt q e).2 (by have := t3.own.lt; omega) (fun e' => by have := (t3.blk q e').2; omega))
      · exact .inr e)
    obtain ⟨A6, c6, rfl, hc6, hd6, hR6⟩ := m6.row
    obtain ⟨A7, c7, rfl, hc7, hd7, hR7⟩ := mN6.row
    clear t4 j6 m6 mN mN6 b4 bN t3
    go_wp2_with fail
    refine (same_ints _ _ 1 c6 c7 (zval [2]) (fun j => ([2] : List Int).getD j 0) _ rfl hc6 hc7 hd6 hd7 hR6 hR7).mono ?_
    rintro r w8 ⟨rfl, m8, hm8⟩
    have b8 : Below w.heap.size w w8 := by rw [← hm8]; exact below_drewN b6 m8
    have t8 := t6.below (w' := w8) (by rw [← hm8]; exact below_drewN (Below.refl _ _) m8)
    clear hm8 t6 b6 hR6 hR7
    go_wp2_with fail
    refine (all_any _ _ 9 6 _ v6 w8 t8).mono ?_
    rintro r w9 ⟨A9, c9, rfl, hc9, hd9, hR9, b9⟩
    rw [HG3.out, HW.out] at hc9 ⊢
    go_wp2_with fail
    refine (awake_any _).mono ?_
    rintro r w10 ⟨rfl, b10⟩
    go_wp2_with fail
    go_ret
    exact ⟨rfl, (b8.trans (b9.mono b8.size)).trans (b10.mono (b8.trans (b9.mono b8.size)).size)⟩
  · have rw1 := Lib.hid (row_new (n := 1) (V := fun _ => .int .i64 1) w3 #[.int .i64 1] 3 (0, 0) (fun i hi => by obtain rfl : i = 0 := (by omega); rfl))
    have bA := bN.alloc bN.size (.cells #[.int .i64 1] 3)
    have hs1 : w3.heap.size ≤ (w3.alloc (.cells #[.int .i64 1] 3)).heap.size := bA.size
    go_wp2_with (at_builtin; go_must (refine wp_app rfl (.tmp 50) (.tmp 51) _ rfl w3.heap.size 3 i0 _ 8 Try.underlying31 hi0 hz0 hz1 hz2 rfl (.slice none 0 0) 0 (zval []) rfl (mN.alloc _) _ 1 _ (fun _ => .int .i64 1) rfl rw1.out (fun _ _ => rfl) ?c1 ?c2 ?c3 ?_))
    case c1 => unfold maxLen; omega
    case c2 => omega
    case c3 => exact hs1
    intro u1 x1 mK hg
    have bN := bA.grown hg hs1 (fun q hq => (mN.lt q hq).1)
    have mN := mK.ext (U := zval [1]) (fun q hq => by
      rcases (show q = 0 by omega) with rfl <;> rfl)
    clear mK hg bA rw1 hs1
    have t4 := t3.below bN
    have b4 := b3.trans (bN.mono b3.size)
    have HW : Hid (gone N L X Y = [1]) := Lib.hid (by rw [HE.out]; rfl)
    go_wp2_with fail
    refine (old_any sort_ok _ _ 9 6 N L (N - L) [⟨1, 5, X⟩, ⟨2, 5, Y⟩] v3 _ t4 (by omega) (by omega) (by omega) (by omega)).mono ?_
    rintro r w6 ⟨gv, v6, rfl, m6, t6, j6⟩
    rw [HG2.out, HG1.out, HW.out] at m6
    have b6 := b4.trans (j6.old t4)
    have mN6 := mN.kept (w' := w6) (fun q hq => by
      by_cases e : Value.ownBlock u1 = some q
      · exact .inl (j6.keep q (mN.lt q e).2 (by have := t3.own.lt; omega) (fun e' => by have := (t3.blk q e').2; omega))
      · exact .inr e)
    obtain ⟨A6, c6, rfl, hc6, hd6, hR6⟩ := m6.row
    obtain ⟨A7, c7, rfl, hc7, hd7, hR7⟩ := mN6.row
    clear t4 j6 m6 mN mN6 b4 bN t3
    go_wp2_with fail
    refine (same_ints _ _ 1 c6 c7 (zval [1]) (fun j => ([1] : List Int).getD j 0) _ rfl hc6 hc7 hd6 hd7 hR6 hR7).mono ?_
    rintro r w8 ⟨rfl, m8, hm8⟩
    have b8 : Below w.heap.size w w8 := by rw [← hm8]; exact below_drewN b6 m8
    have t8 := t6.below (w' := w8) (by rw [← hm8]; exact below_drewN (Below.refl _ _) m8)
    clear hm8 t6 b6 hR6 hR7
    go_wp2_with fail
    refine (all_any _ _ 9 6 _ v6 w8 t8).mono ?_
    rintro r w9 ⟨A9, c9, rfl, hc9, hd9, hR9, b9⟩
    rw [HG3.out, HW.out] at hc9 ⊢
    go_wp2_with fail
    refine (awake_any _).mono ?_
    rintro r w10 ⟨rfl, b10⟩
    go_wp2_with fail
    go_ret
    exact ⟨rfl, (b8.trans (b9.mono b8.size)).trans (b10.mono (b8.trans (b9.mono b8.size)).size)⟩
  · have rw1 := Lib.hid (row_new (n := 1) (V := fun _ => .int .i64 1) w3 #[.int .i64 1] 3 (0, 0) (fun i hi => by obtain rfl : i = 0 := (by omega); rfl))
    have bA := bN.alloc bN.size (.cells #[.int .i64 1] 3)
    have hs1 : w3.heap.size ≤ (w3.alloc (.cells #[.int .i64 1] 3)).heap.size := bA.size
    go_wp2_with (at_builtin; go_must (refine wp_app rfl (.tmp 50) (.tmp 51) _ rfl w3.heap.size 3 i0 _ 8 Try.underlying31 hi0 hz0 hz1 hz2 rfl (.slice none 0 0) 0 (zval []) rfl (mN.alloc _) _ 1 _ (fun _ => .int .i64 1) rfl rw1.out (fun _ _ => rfl) ?c1 ?c2 ?c3 ?_))
    case c1 => unfold maxLen; omega
    case c2 => omega
    case c3 => exact hs1
    intro u1 x1 mK hg
    have bN := bA.grown hg hs1 (fun q hq => (mN.lt q hq).1)
    have mN := mK.ext (U := zval [1]) (fun q hq => by
      rcases (show q = 0 by omega) with rfl <;> rfl)
    clear mK hg bA rw1 hs1
    have rw2 := Lib.hid (row_new (n := 1) (V := fun _ => .int .i64 2) x1 #[.int .i64 2] 3 (0, 0) (fun i hi => by obtain rfl : i = 0 := (by omega); rfl))
    have bA := bN.alloc bN.size (.cells #[.int .i64 2] 3)
    have hs2 : w3.heap.size ≤ (x1.alloc (.cells #[.int .i64 2] 3)).heap.size := bA.size
    go_wp2_with (at_builtin; go_must (refine wp_app rfl (.tmp 58) (.tmp 59) _ rfl w3.heap.size 3 i0 _ 8 Try.underlying31 hi0 hz0 hz1 hz2 rfl u1 1 (zval [1]) rfl (mN.alloc _) _ 1 _ (fun _ => .int .i64 2) rfl rw2.out (fun _ _ => rfl) ?c1 ?c2 ?c3 ?_))
    case c1 => unfold maxLen; omega
    case c2 => omega
    case c3 => exact hs2
    intro u2 x2 mK hg
    have bN := bA.grown hg hs2 (fun q hq => (mN.lt q hq).1)
    have mN := mK.ext (U := zval [1, 2]) (fun q hq => by
      rcases (show q = 0 ∨ q = 1 by omega) with rfl | rfl <;> rfl)
    clear mK hg bA rw2 hs2
    have t4 := t3.below bN
    have b4 := b3.trans (bN.mono b3.size)
    have HW : Hid (gone N L X Y = [1, 2]) := Lib.hid (by rw [HE.out]; rfl)
    go_wp2_with fail
    refine (old_any sort_ok _ _ 9 6 N L (N - L) [⟨1, 5, X⟩, ⟨2, 5, Y⟩] v3 _ t4 (by omega) (by omega) (by omega) (by omega)).mono ?_
    rintro r w6 ⟨gv, v6, rfl, m6, t6, j6⟩
    rw [HG2.out, HG1.out, HW.out] at m6
    have b6 := b4.trans (j6.old t4)
    have mN6 := mN.kept (w' := w6) (fun q hq => by
      by_cases e : Value.ownBlock u2 = some q
      · exact .inl (j6.keep q (mN.lt q e).2 (by have := t3.own.lt; omega) (fun e' => by have := (t3.blk q e').2; omega))
      · exact .inr e)
    obtain ⟨A6, c6, rfl, hc6, hd6, hR6⟩ := m6.row
    obtain ⟨A7, c7, rfl, hc7, hd7, hR7⟩ := mN6.row
    clear t4 j6 m6 mN mN6 b4 bN t3
    go_wp2_with fail
    refine (same_ints _ _ 2 c6 c7 (zval [1, 2]) (fun j => ([1, 2] : List Int).getD j 0) _ rfl hc6 hc7 hd6 hd7 hR6 hR7).mono ?_
    rintro r w8 ⟨rfl, m8, hm8⟩
    have b8 : Below w.heap.size w w8 := by rw [← hm8]; exact below_drewN b6 m8
    have t8 := t6.below (w' := w8) (by rw [← hm8]; exact below_drewN (Below.refl _ _) m8)
    clear hm8 t6 b6 hR6 hR7
    go_wp2_with fail
    refine (all_any _ _ 9 6 _ v6 w8 t8).mono ?_
    rintro r w9 ⟨A9, c9, rfl, hc9, hd9, hR9, b9⟩
    rw [HG3.out, HW.out] at hc9 ⊢
    go_wp2_with fail
    refine (awake_any _).mono ?_
    rintro r w10 ⟨rfl, b10⟩
    go_wp2_with fail
    go_ret
    exact ⟨rfl, (b8.trans (b9.mono b8.size)).trans (b10.mono (b8.trans (b9.mono b8.size)).size)⟩

theorem walk (H : Type) (enc : TypeId × Value → H) : Walk H enc Try.prog 6 Try.f6 := by
  intro W base args ds p hval hA
  rw [Try.params6] at hA hval
  obtain ⟨v0, v1, v2, v3, d0, d1, d2, d3, p0, p1, p2, p3, rfl, rfl, rfl, h0, h1, h2, h3⟩ := trodAll_four hA
  obtain ⟨a, rfl, rfl, rfl, _⟩ := open_int Try.underlying3 (hval 0 _ v0 rfl rfl) h0
  obtain ⟨b, rfl, rfl, rfl, _⟩ := open_int Try.underlying3 (hval 1 _ v1 rfl rfl) h1
  obtain ⟨c, rfl, rfl, rfl, _⟩ := open_int Try.underlying3 (hval 2 _ v2 rfl rfl) h2
  obtain ⟨d, rfl, rfl, rfl, _⟩ := open_int Try.underlying2 (hval 3 _ v3 rfl rfl) h3
  exact body a b c d W

set_option maxRecDepth 100000 in
theorem lifted (os : Os) (started : os.Started) (H : Type) (enc : TypeId × Value → H) :
    ReturnsInHanded {} Try.checked os 6 .any (Rows.parentsOldSpec.pre6 enc Try.prog Try.f6 Rows.parentsOldRow.domain false) (Rows.parentsOldSpec.post enc Try.prog Try.f6 false true false false) :=
  returnsInHanded_of_change (C := Try.checked) own started (by kernel_rfl) Try.func6
    (ChangeSpec.witness6 (enc := enc) (C := Try.checked) false ⟨#[], #[.int .i64 0, .int .i64 0, .int .i64 0, .int .i64 0], []⟩ 8 (by kernel_rfl) (by kernel_rfl) (by kernel_rfl) (by kernel_rfl))
    fun W base args ds gs before hval hW _ _ => step_of_walk laidOut (by rw [Try.params6]; exact of_decide_eq_true (by kernel_rfl)) (by kernel_rfl) Try.underlying4 rfl
      (fun ds h => by
        rw [Try.params6] at h
        match ds, h with
        | [_, _, _, _], _ => rfl) (walk H enc) W base args ds gs before hval hW

theorem holds : Rows.ParentsOldSaid :=
  OpenClaim.holds_of_wide 6 Try.f6 rfl rfl rfl rfl rfl rfl rfl ⟨rfl, rfl, rfl, rfl, rfl⟩ rfl rfl rfl rfl rfl (by kernel_rfl) Try.func6 (by kernel_rfl)
    (of_decide_eq_true (by kernel_rfl)) (by unfold Func.isWrapper; first | (rw [if_pos (by decide +kernel)]; kernel_rfl) | (rw [if_neg (by decide +kernel)]; exact ⟨rfl, rfl⟩))
    (fun os started H enc _ => lifted os started H enc)
#print axioms holds
end Go.Proofs.Ytjboilkbcajkcaa.ParentsOld
