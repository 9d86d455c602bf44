/-
  slices.Insert of one struct. Package parents (chapter 14): rows of whom a node may follow, as lists; who is ahead of whom. Package parents: who is ahead of whom. Package parents: slices.IndexFunc, slices.DeleteFunc, by whatever test that only makes memory. Package parents: slices.DeleteFunc, by whatever test that only makes memory.
-/
import Derived.Test.YtiflmdekcjbmbaaGreatGNodeWaits05
import Derived.IntWalk
import Derived.Lib.Hide
import Derived.BigQuiet
import Derived.Deep.RegionHeld3
import Derived.Deep.LoopGhost
import Derived.Shelf.Abstract
set_option maxRecDepth 100000
namespace Go.Proofs.YtiflmdekcjbmbaaGreat.Pa
set_option linter.unusedVariables false
set_option linter.unusedSimpArgs false
open Go.RowKit Lb

theorem infoE : (Tryz.prog.info? 211).map (fun i => (i.zero, i.size, i.bytes)) = some (some (.agg #[.int .i64 0, .int .i64 0, .int .i64 0]), 3, 24) := by kernel_rfl
theorem sizeE (w : World) : (Go.sizeOf 211).run Tryz.prog w = .ok 3 w := by kernel_rfl
/-- At the end: append. -/
theorem ins_end (base n gb : Nat) (v : Value) (V U : Nat → Value) (us : Array Value) (w : World) (h : MineK w base 211 3 v n V) (hn : n ≤ 100000) (hb : base ≤ w.heap.size) (hu : Own w gb 211 us) (hU : ∀ q, q < 3 → us[q]? = some (U q)) (h1 : ∀ q, (U q).oneCell' = true) :
    Calls Tryz.prog 196 #[v, .int .i64 (n : Nat), .slice (some ⟨gb, 0, none⟩) 1 1] w fun r w' => ∃ v', r = .returned v' ∧ MineK w' base 211 3 v' (n + 1) (insK 3 n V U) ∧ w.grownBy w' v.ownBlock ∧ (v'.ownBlock = v.ownBlock ∨ v'.ownBlock = some w.heap.size) := by
  obtain ⟨i0, hi0, hz0, hz1, hz2⟩ := info_parts infoE
  have hr : Row w (some ⟨gb, 0, none⟩) (1 * 3) U := Row.own hu (fun q hq => hU q (by omega))
  have HR := Lib.hid hr
  have HNM : Hid (n + 1 ≤ maxLen) := Lib.hid (by unfold maxLen; omega)
  have HO := Lib.hid h
  rcases h.2 with ⟨rfl, rfl⟩ | ⟨g, c, cur, rfl, _, _, hc, hm, _, _⟩
  · clear h hr
    go_enter Tryz.func196, Tryz.ntmps196
    go_wp2_with (at_builtin; go_must (refine wp_appK rfl (.tmp 23) (.tmp 24) _ rfl base 211 i0 _ 3 24 Tryz.underlying207 hi0 hz0 hz1 hz2 rfl (by decide) _ 0 V rfl HO.out _ 1 _ U rfl HR.out (fun i _ => h1 i) HNM.out ?c2 hb ?_))
    case c2 => omega
    intro v5 w5 m5 g5 q5
    have M5 := Lib.hid (m5.ext (insK_end 3 0 V U))
    clear m5
    go_wp2_with fail
    go_ret
    exact ⟨_, rfl, M5.out, g5, q5⟩
  · unfold maxLen at hm
    clear h hr
    by_cases hcn : n = c
    · subst hcn
      go_enter Tryz.func196, Tryz.ntmps196
      go_wp2_with (at_builtin; go_must (refine wp_appK rfl (.tmp 23) (.tmp 24) _ rfl base 211 i0 _ 3 24 Tryz.underlying207 hi0 hz0 hz1 hz2 rfl (by decide) _ n V rfl HO.out _ 1 _ U rfl HR.out (fun i _ => h1 i) HNM.out ?c2 hb ?_))
      case c2 => omega
      intro v5 w5 m5 g5 q5
      have M5 := Lib.hid (m5.ext (insK_end 3 n V U))
      clear m5
      go_wp2_with fail
      go_ret
      exact ⟨_, rfl, M5.out, g5, q5⟩
    · have hcn2 : ¬ c = n := fun e => hcn e.symm
      clear hcn
      go_enter Tryz.func196, Tryz.ntmps196
      go_wp2_with (at_builtin; go_must (refine wp_appK rfl (.tmp 23) (.tmp 24) _ rfl base 211 i0 _ 3 24 Tryz.underlying207 hi0 hz0 hz1 hz2 rfl (by decide) _ n V rfl HO.out _ 1 _ U rfl HR.out (fun i _ => h1 i) HNM.out ?c2 hb ?_))
      case c2 => omega
      intro v5 w5 m5 g5 q5
      have M5 := Lib.hid (m5.ext (insK_end 3 n V U))
      clear m5
      go_wp2_with fail
      go_ret
      exact ⟨_, rfl, M5.out, g5, q5⟩
/-- The cells of a row from struct i on; those of the new one. -/
def tail_ (k n i : Nat) (V : Nat → Value) : List Value := (List.range ((n - i) * k)).map (fun t => V (i * k + t))
theorem tail_len (k n i : Nat) (V : Nat → Value) : (tail_ k n i V).length = (n - i) * k := by simp [tail_]
theorem tail_get (k n i : Nat) (V : Nat → Value) (t : Nat) (ht : t < (n - i) * k) : (tail_ k n i V)[t]? = some (V (i * k + t)) := by simp [tail_, ht]
theorem tail_one (k n i : Nat) {V : Nat → Value} (h : ∀ q, (V q).oneCell' = true) : ∀ u ∈ tail_ k n i V, u.oneCell' = true := by
  intro u hu
  obtain ⟨t, _, rfl⟩ := List.mem_map.1 hu
  exact h _
set_option maxHeartbeats 2000000 in
/-- In the midst, with room: in place. -/
theorem ins_shift (base n i c g gb : Nat) (V U : Nat → Value) (us : Array Value) (w : World) (h : MineK w base 211 3 (.slice (some ⟨g, 0, none⟩) n c) n V) (hi : i < n) (hn : n ≤ 100000) (hroom : n + 1 ≤ c) (hu : Own w gb 211 us) (hus : us.size = 3) (hU : ∀ q, q < 3 → us[q]? = some (U q)) (h1 : ∀ q, (U q).oneCell' = true) (hV1 : ∀ q, (V q).oneCell' = true) (hg : gb ≠ g) :
    Calls Tryz.prog 196 #[.slice (some ⟨g, 0, none⟩) n c, .int .i64 (i : Nat), .slice (some ⟨gb, 0, none⟩) 1 1] w fun r w' => r = .returned (.slice (some ⟨g, 0, none⟩) (n + 1) c) ∧ MineK w' base 211 3 (.slice (some ⟨g, 0, none⟩) (n + 1) c) (n + 1) (insK 3 i V U) ∧ w.grownBy w' (some g) := by
  obtain ⟨i0, hi0, hz0, hz1, hz2⟩ := info_parts infoE
  obtain ⟨g', c', cs, hv, hgb, ho, hnc, hcm, hsz, hcv⟩ := h.block (by omega)
  injection hv with hv1 _ hv2
  injection hv1 with hv1
  injection hv1 with hv1
  subst hv1 hv2
  unfold maxLen at hcm
  have hB := blk_of ho hsz
  have hcg : ∀ q, q < n * 3 → cs.getD q undef = V q := fun q hq => by rw [Array.getD_eq_getD_getElem?, hcv q hq]; rfl
  have hB1 := Blk.puts (tail_ 3 n i V) ((i + 1) * 3) (Blk.drewN hB 1)
  have hJ1 := grown_setCells (grown_drew (w := w) (some g) 1) (.inl rfl) ((i + 1) * 3) (tail_ 3 n i V)
  have hc1 : ∀ ty dc sc, (Builtin.copy_ #[207, 207] ty #[.slice (some ⟨g, (i + 1) * 3, none⟩) (n - i) dc, .slice (some ⟨g, i * 3, none⟩) (n + 1 - i) sc]).run Tryz.prog w.drew = .ok (goInt ((n - i : Nat))) (w.drew.setCells g ((i + 1) * 3) (tail_ 3 n i V)) := fun ty dc sc =>
    run_copyK w.drew _ _ ty 211 3 g _ _ dc ⟨g, i * 3, none⟩ _ sc (n - i) (tail_ 3 n i V) Tryz.underlying207 (by rw [hi0]; simp [hz1]) (by simp only [Nat.min_def]; split <;> omega) (tail_len _ _ _ _)
      (fun t u ht => by
        have hlt : t < (n - i) * 3 := by
          have := (List.getElem?_eq_some_iff.1 ht).1
          rwa [tail_len] at this
        rw [tail_get _ _ _ _ _ hlt] at ht
        rw [Addr.add_lit]
        exact (ho.cell (i * 3 + t)).trans ((hcv _ (by omega)).trans ht))
      (Blk.there (Blk.drewN hB 1) (by rw [tail_len]; omega)) (tail_one _ _ _ hV1)
  obtain ⟨W1, hW1⟩ : ∃ W1, W1 = w.drew.setCells g ((i + 1) * 3) (tail_ 3 n i V) := ⟨_, rfl⟩
  have hu1 : Own W1 gb 211 us := by rw [hW1]; exact (Just.puts g _ _ _).own (Own.drewN hu 1) hg
  have hB1 : Blk W1 g 211 (c * 3) (putL (fun j => cs.getD j undef) ((i + 1) * 3) (tail_ 3 n i V)) := by rw [hW1]; exact hB1
  have hJ1 : w.grownBy W1 (some g) := by rw [hW1]; exact hJ1
  have hc1 : ∀ ty dc sc, (Builtin.copy_ #[207, 207] ty #[.slice (some ⟨g, (i + 1) * 3, none⟩) (n - i) dc, .slice (some ⟨g, i * 3, none⟩) (n + 1 - i) sc]).run Tryz.prog w.drew = .ok (goInt ((n - i : Nat))) W1 := by rw [hW1]; exact hc1
  have hB2 := Blk.puts (tail_ 3 1 0 U) (i * 3) hB1
  have hJ2 := grown_setCells hJ1 (.inl rfl) (i * 3) (tail_ 3 1 0 U)
  have hc2 : ∀ ty dc, (Builtin.copy_ #[207, 207] ty #[.slice (some ⟨g, i * 3, none⟩) (n + 1 - i) dc, .slice (some ⟨gb, 0, none⟩) 1 1]).run Tryz.prog W1 = .ok (goInt ((1 : Nat))) (W1.setCells g (i * 3) (tail_ 3 1 0 U)) := fun ty dc =>
    run_copyK W1 _ _ ty 211 3 g _ _ dc ⟨gb, 0, none⟩ 1 1 1 (tail_ 3 1 0 U) Tryz.underlying207 (by rw [hi0]; simp [hz1]) (by simp only [Nat.min_def]; split <;> omega) (tail_len _ _ _ _)
      (fun t u ht => by
        have hlt : t < (1 - 0) * 3 := by
          have := (List.getElem?_eq_some_iff.1 ht).1
          rwa [tail_len] at this
        rw [tail_get _ _ _ _ _ hlt] at ht
        rw [Addr.add_lit]
        exact (hu1.cell (0 + t)).trans ((congrArg _ (Nat.zero_add t)).trans ((hU t (by omega)).trans (by simpa using ht))))
      (Blk.there hB1 (by rw [tail_len]; omega)) (tail_one _ _ _ h1)
  obtain ⟨W2, hW2⟩ : ∃ W2, W2 = W1.setCells g (i * 3) (tail_ 3 1 0 U) := ⟨_, rfl⟩
  rw [← hW2] at hB2 hJ2 hc2
  have HM : Hid (MineK W2 base 211 3 (.slice (some ⟨g, 0, none⟩) (n + 1) c) (n + 1) (insK 3 i V U)) := Lib.hid (mineK_made hB2 hgb (by unfold maxLen; omega) (by omega) (fun q hq => by
    rw [putL_at, tail_len, putL_at, tail_len]
    unfold insK
    by_cases a1 : q < i * 3
    · rw [if_neg (by omega), if_neg (by omega), if_pos a1]
      exact hcg q (by omega)
    · by_cases a2 : q < i * 3 + 3
      · rw [if_pos (by omega), if_neg a1, if_pos a2, List.getD_eq_getElem?_getD, tail_get _ _ _ _ _ (by omega)]
        simp
      · rw [if_neg (by omega), if_neg a1, if_neg a2, if_pos (by omega), List.getD_eq_getElem?_getD, tail_get _ _ _ _ _ (by omega)]
        show V _ = V _
        congr 1
        omega))
  have hov : ∀ lb cb, (callFunc 220 #[.slice (some ⟨gb, 0, none⟩) 1 1, .slice (some ⟨g, (i + 1) * 3, none⟩) lb cb]).run Tryz.prog w = .ok (.value (.bool false)) w := fun lb cb => by
    rw [run_callFunc_extern Tryz.func220 (by kernel_rfl) (by kernel_rfl) (by kernel_rfl) (e := Extern.SlicesOverlaps.overlaps #[207, 207] #[4]) (by kernel_rfl),
      Lib.run_overlaps_apart w 207 4 211 Tryz.underlying207 3 sizeE ⟨gb, 0, none⟩ ⟨g, (i + 1) * 3, none⟩ 1 1 lb cb hg 211 211 us.size cs.size (shape_blk hu) (shape_blk ho) (by omega) (hu.free 0) (hu.free _)]
    rfl
  have hJ2h := Lib.hid hJ2
  have hne : ((i : Int) == (n : Int)) = false := by simp; omega
  have hne2 : (i == n) = false := by simp; omega
  have k1 : i ≤ n := by omega
  have k2 : i ≤ c := by omega
  have k3 : ¬ c = i := by omega
  have k4 : ¬ c = i + 1 := by omega
  have k5 : i + 1 ≤ n + 1 := by omega
  have k6 : i ≤ n + 1 := by omega
  have k7 : i + 1 ≤ c := by omega
  clear h hB hcg hB1 hJ1 hu1 hB2 hJ2 hW1 hW2 hcv hu ho hU hsz hus
  go_enter Tryz.func196, Tryz.ntmps196
  have w1 : IntKind.i64.wrap ((i : Int) + 1) = (i : Int) + 1 := IntWalk.i64_in _ (by omega)
  have w2 : (0 : Int) ≤ (i : Int) + 1 := by omega
  have w3 : (i : Int) + 1 ≤ (n : Int) + 1 := by omega
  have w4 : ((i : Int) + 1).toNat = i + 1 := by omega
  have w5 : (i : Int) ≤ (n : Int) + 1 := by omega
  go_wp2_with fail
  go_region_law (refine step_copy_is rfl (.tmp 73) (.tmp 76) 207 207 rfl (.slice (some ⟨g, (i + 1) * 3, none⟩) (n - i) (c - (i + 1))) (.slice (some ⟨g, i * 3, none⟩) (n + 1 - i) (c - i)) (by simp [Act.eval, Act.put]) (by simp [Act.eval, Act.put]) _ _ (hc1 _ _ _) ?_)
  go_wp2_with (with_reducible refine wp_copy_is W1 rfl (.tmp 80) (.tmp 81) _ _ rfl (.slice (some ⟨g, i * 3, none⟩) (n + 1 - i) (c - i)) (.slice (some ⟨gb, 0, none⟩) 1 1) rfl rfl _ _ (hc2 _ _) ?_)
  go_ret
  exact ⟨rfl, HM.out, hJ2h.out⟩
set_option maxHeartbeats 2000000 in
/-- In the midst, without room: a new row. -/
theorem ins_grow (base n i c g gb : Nat) (V U : Nat → Value) (us : Array Value) (w : World) (h : MineK w base 211 3 (.slice (some ⟨g, 0, none⟩) n c) n V) (hi : i < n) (hn : n ≤ 100000) (hroom : c < n + 1) (hb : base ≤ w.heap.size) (hu : Own w gb 211 us) (hU : ∀ q, q < 3 → us[q]? = some (U q)) (h1 : ∀ q, (U q).oneCell' = true) (hV1 : ∀ q, (V q).oneCell' = true) :
    Calls Tryz.prog 196 #[.slice (some ⟨g, 0, none⟩) n c, .int .i64 (i : Nat), .slice (some ⟨gb, 0, none⟩) 1 1] w fun r w' => ∃ v', r = .returned v' ∧ MineK w' base 211 3 v' (n + 1) (insK 3 i V U) ∧ w.grownBy w' (some g) ∧ v'.ownBlock = some w.heap.size := by
  obtain ⟨i0, hi0, hz0, hz1, hz2⟩ := info_parts infoE
  obtain ⟨g', c', cs, hv, hgb, ho, hnc, hcm, hsz, hcv⟩ := h.block (by omega)
  injection hv with hv1 _ hv2
  injection hv1 with hv1
  injection hv1 with hv1
  subst hv1 hv2
  unfold maxLen at hcm
  obtain ⟨H, hH⟩ : ∃ H, H = w.heap.size := ⟨_, rfl⟩
  have hgl := ho.lt
  have hgbl := hu.lt
  obtain ⟨gc, hgc⟩ : ∃ gc, gc = grownCap w (n + 1) c 211 := ⟨_, rfl⟩
  have hg1 : n + 1 ≤ gc := by rw [hgc]; exact grownCap_ge _ _ _ _
  have hg2 : gc ≤ maxLen := by rw [hgc]; exact grownCap_le_maxLen _ _ _ _ (by unfold maxLen; omega)
  obtain ⟨cs0, hcs0⟩ : ∃ cs0, cs0 = ((List.range (i * 3)).map V).toArray ++ Builtin.zeroCells (Value.agg #[.int .i64 0, .int .i64 0, .int .i64 0]).cells (n + 1 - i) ++ Builtin.zeroCells (Value.agg #[.int .i64 0, .int .i64 0, .int .i64 0]).cells (gc - (n + 1)) := ⟨_, rfl⟩
  have hs0 : cs0.size = gc * 3 := by
    rw [hcs0]
    simp only [Array.size_append, size_zeroCells, List.size_toArray, List.length_map, List.length_range]
    show i * 3 + (n + 1 - i) * 3 + (gc - (n + 1)) * 3 = gc * 3
    omega
  have hc0 : ∀ q, q < i * 3 → cs0.getD q undef = V q := fun q hq => by
    rw [hcs0, Array.getD_eq_getD_getElem?, Array.getElem?_append_left (by simp only [Array.size_append, List.size_toArray, List.length_map, List.length_range]; omega), Array.getElem?_append_left (by simpa using hq)]
    simp [hq]
  have hap : ∀ ty, (Builtin.append_ #[207, 3] ty #[.slice (some ⟨g, 0, none⟩) i c, .int .i64 ((n : Int) + 1 - (i : Int))]).run Tryz.prog w = .ok (.slice (some ⟨w.heap.size, 0, none⟩) (n + 1) gc) (w.drew.alloc (.cells cs0 211)) := fun ty => by
    have e := Lib.run_append_grow_zeros (P := Tryz.prog) w 207 3 ty 211 i0 _ .i64 .i64 Tryz.underlying207 Tryz.underlying3 hi0 hz0 (some ⟨g, 0, none⟩) i c ((List.range (i * 3)).map V) (by
      have hl := run_loadCells_list (P := Tryz.prog) w.drew ⟨g, 0, none⟩ ((List.range (i * 3)).map V) (fun t u ht => by
        have hlt : t < i * 3 := by
          have := (List.getElem?_eq_some_iff.1 ht).1
          simpa using this
        rw [Addr.add_lit]
        have hu' : u = V t := by simpa [hlt] using ht.symm
        subst hu'
        exact (ho.cell (0 + t)).trans ((congrArg _ (Nat.zero_add t)).trans (hcv _ (by omega))))
      simpa [Builtin.firstCells, hz1] using hl) (n + 1 - i) (by omega) (by omega) (by omega) (by omega) (by rw [hz2]; omega) (growslice_fits (by omega) (by rw [hz2]; omega))
    rw [show (n : Int) + 1 - (i : Int) = ((n + 1 - i : Nat) : Int) from by omega, e, show i + (n + 1 - i) = n + 1 from by omega, ← hgc, ← hcs0]
  have o0 : Own (w.drew.alloc (.cells cs0 211)) H 211 cs0 := by rw [hH]; exact Own.new w.drew 211 cs0
  have og : Own (w.drew.alloc (.cells cs0 211)) g 211 cs := (Own.drewN ho 1).alloc _
  have ou : Own (w.drew.alloc (.cells cs0 211)) gb 211 us := (Own.drewN hu 1).alloc _
  have J0 : w.grownBy (w.drew.alloc (.cells cs0 211)) (some g) := grown_alloc (grown_drew (some g) 1) _
  obtain ⟨W0, hW0⟩ : ∃ W0, W0 = w.drew.alloc (.cells cs0 211) := ⟨_, rfl⟩
  rw [← hW0] at o0 og ou J0 hap
  have B0 := blk_of o0 hs0
  have B1 := Blk.puts (tail_ 3 1 0 U) (i * 3) B0
  have J1 := grown_setCells J0 (.inr (by omega : w.heap.size ≤ H)) (i * 3) (tail_ 3 1 0 U)
  have og1 : Own (W0.setCells H (i * 3) (tail_ 3 1 0 U)) g 211 cs := (Just.puts H _ _ _).own og (by omega)
  have hc1 : ∀ ty dc, (Builtin.copy_ #[207, 207] ty #[.slice (some ⟨H, i * 3, none⟩) (n + 1 - i) dc, .slice (some ⟨gb, 0, none⟩) 1 1]).run Tryz.prog W0 = .ok (goInt ((1 : Nat))) (W0.setCells H (i * 3) (tail_ 3 1 0 U)) := fun ty dc =>
    run_copyK W0 _ _ ty 211 3 H _ _ dc ⟨gb, 0, none⟩ 1 1 1 (tail_ 3 1 0 U) Tryz.underlying207 (by rw [hi0]; simp [hz1]) (by simp only [Nat.min_def]; split <;> omega) (tail_len _ _ _ _)
      (fun t u ht => by
        have hlt : t < (1 - 0) * 3 := by
          have := (List.getElem?_eq_some_iff.1 ht).1
          rwa [tail_len] at this
        rw [tail_get _ _ _ _ _ hlt] at ht
        rw [Addr.add_lit]
        exact (ou.cell (0 + t)).trans ((congrArg _ (Nat.zero_add t)).trans ((hU t (by omega)).trans (by simpa using ht))))
      (Blk.there B0 (by rw [tail_len]; omega)) (tail_one _ _ _ h1)
  obtain ⟨W1, hW1⟩ : ∃ W1, W1 = W0.setCells H (i * 3) (tail_ 3 1 0 U) := ⟨_, rfl⟩
  rw [← hW1] at B1 J1 og1 hc1
  have B2 := Blk.puts (tail_ 3 n i V) ((i + 1) * 3) (Blk.drewN B1 1)
  have J2 := grown_setCells (grown_drewN J1 1) (.inr (by omega : w.heap.size ≤ H)) ((i + 1) * 3) (tail_ 3 n i V)
  have hc2 : ∀ ty dc sc, (Builtin.copy_ #[207, 207] ty #[.slice (some ⟨H, (i + 1) * 3, none⟩) (n - i) dc, .slice (some ⟨g, i * 3, none⟩) (n - i) sc]).run Tryz.prog W1.drew = .ok (goInt ((n - i : Nat))) (W1.drew.setCells H ((i + 1) * 3) (tail_ 3 n i V)) := fun ty dc sc =>
    run_copyK W1.drew _ _ ty 211 3 H _ _ dc ⟨g, i * 3, none⟩ _ sc (n - i) (tail_ 3 n i V) Tryz.underlying207 (by rw [hi0]; simp [hz1]) (by simp only [Nat.min_def]; split <;> omega) (tail_len _ _ _ _)
      (fun t u ht => by
        have hlt : t < (n - i) * 3 := by
          have := (List.getElem?_eq_some_iff.1 ht).1
          rwa [tail_len] at this
        rw [tail_get _ _ _ _ _ hlt] at ht
        rw [Addr.add_lit]
        exact (og1.cell (i * 3 + t)).trans ((hcv _ (by omega)).trans ht))
      (Blk.there (Blk.drewN B1 1) (by rw [tail_len]; omega)) (tail_one _ _ _ hV1)
  obtain ⟨W2, hW2⟩ : ∃ W2, W2 = W1.drew.setCells H ((i + 1) * 3) (tail_ 3 n i V) := ⟨_, rfl⟩
  have B2 : Blk W2 H 211 (gc * 3) (putL (putL (fun j => cs0.getD j undef) (i * 3) (tail_ 3 1 0 U)) ((i + 1) * 3) (tail_ 3 n i V)) := by rw [hW2]; exact B2
  have J2 : w.grownBy W2 (some g) := by rw [hW2]; exact J2
  have hc2 : ∀ ty dc sc, (Builtin.copy_ #[207, 207] ty #[.slice (some ⟨H, (i + 1) * 3, none⟩) (n - i) dc, .slice (some ⟨g, i * 3, none⟩) (n - i) sc]).run Tryz.prog W1.drew = .ok (goInt ((n - i : Nat))) W2 := by rw [hW2]; exact hc2
  have HM : Hid (MineK W2 base 211 3 (.slice (some ⟨H, 0, none⟩) (n + 1) gc) (n + 1) (insK 3 i V U)) := Lib.hid (mineK_made B2 (by omega) hg2 hg1 (fun q hq => by
    rw [putL_at, tail_len, putL_at, tail_len]
    unfold insK
    by_cases a1 : q < i * 3
    · rw [if_neg (by omega), if_neg (by omega), if_pos a1]
      exact hc0 q a1
    · by_cases a2 : q < i * 3 + 3
      · rw [if_neg (by omega), if_pos (by omega), if_neg a1, if_pos a2, List.getD_eq_getElem?_getD, tail_get _ _ _ _ _ (by omega)]
        simp
      · rw [if_pos (by omega), if_neg a1, if_neg a2, List.getD_eq_getElem?_getD, tail_get _ _ _ _ _ (by omega)]
        show V _ = V _
        congr 1
        omega))
  have hJ2h := Lib.hid J2
  have hap : ∀ ty, (Builtin.append_ #[207, 3] ty #[.slice (some ⟨g, 0, none⟩) i c, .int .i64 ((n : Int) + 1 - (i : Int))]).run Tryz.prog w = .ok (.slice (some ⟨H, 0, none⟩) (n + 1) gc) W0 := by rw [hH]; exact hap
  have HH := Lib.hid hH
  unfold maxLen at hg2
  have hne : ((i : Int) == (n : Int)) = false := by simp; omega
  have hne2 : (i == n) = false := by simp; omega
  have k1 : i ≤ n := by omega
  have k2 : i ≤ c := by omega
  have k3 : ¬ c = i := by omega
  have k4 : ¬ gc = i + 1 := by omega
  have k8 : ¬ gc = i := by omega
  have k5 : i + 1 ≤ n + 1 := by omega
  have k6 : i ≤ n + 1 := by omega
  have k7 : i + 1 ≤ gc := by omega
  have w1 : IntKind.i64.wrap ((i : Int) + 1) = (i : Int) + 1 := IntWalk.i64_in _ (by omega)
  have w2 : (0 : Int) ≤ (i : Int) + 1 := by omega
  have w3 : (i : Int) + 1 ≤ (n : Int) + 1 := by omega
  have w4 : ((i : Int) + 1).toNat = i + 1 := by omega
  have w5 : (i : Int) ≤ (n : Int) + 1 := by omega
  have hH2 : H = w.heap.size := hH
  clear h hcv hu ho hU hsz J0 J1 J2 B0 B1 B2 o0 og ou og1 hW0 hW1 hW2 hcs0 hs0 hc0 hgc hgl hgbl hH hH2
  go_enter Tryz.func196, Tryz.ntmps196
  go_wp2_with (first
    | (at_builtin; go_must (refine Lib.wpList_append_run w rfl (.tmp 34) (.tmp 39) _ _ rfl (.slice (some ⟨g, 0, none⟩) i c) (.int .i64 ((n : Int) + 1 - (i : Int))) rfl rfl _ _ (hap _) ?_))
    | (with_reducible refine wp_copy_is W0 rfl (.tmp 43) (.tmp 44) _ _ rfl (.slice (some ⟨H, i * 3, none⟩) (n + 1 - i) (gc - i)) (.slice (some ⟨gb, 0, none⟩) 1 1) rfl rfl _ _ (hc1 _ _) ?_))
  go_region_law (refine step_copy_is rfl (.tmp 50) (.tmp 53) 207 207 rfl (.slice (some ⟨H, (i + 1) * 3, none⟩) (n - i) (gc - (i + 1))) (.slice (some ⟨g, i * 3, none⟩) (n - i) (c - i)) (by simp [Act.eval, Act.put]) (by simp [Act.eval, Act.put]) _ _ (hc2 _ _ _) ?_)
  go_wp2_with fail
  go_ret
  exact ⟨_, rfl, HM.out, hJ2h.out, by rw [← HH.out]; rfl⟩
end Go.Proofs.YtiflmdekcjbmbaaGreat.Pa
set_option maxRecDepth 100000
namespace Go.Proofs.YtiflmdekcjbmbaaGreat.Pa
set_option linter.unusedVariables false
set_option linter.unusedSimpArgs false
open Go.RowKit Lb

structure P where
  n : Int
  r : Int
  h : Int
instance : Inhabited P := ⟨⟨0, 0, 0⟩⟩
def P.vals (x : P) : Array Value := #[.int .i64 x.n, .int .i64 x.r, .int .i64 x.h]
def at_ (l : List P) (k : Nat) : P := l.getD k default
def pv (l : List P) (q : Nat) : Value := ((at_ l (q / 3)).vals[q % 3]?).getD undef
theorem pv_at (l : List P) (k : Nat) : pv l (k * 3) = .int .i64 (at_ l k).n ∧ pv l (k * 3 + 1) = .int .i64 (at_ l k).r ∧ pv l (k * 3 + 2) = .int .i64 (at_ l k).h := by
  unfold pv
  refine ⟨?_, ?_, ?_⟩
  · rw [show k * 3 / 3 = k by omega, show k * 3 % 3 = 0 by omega]; rfl
  · rw [show (k * 3 + 1) / 3 = k by omega, show (k * 3 + 1) % 3 = 1 by omega]; rfl
  · rw [show (k * 3 + 2) / 3 = k by omega, show (k * 3 + 2) % 3 = 2 by omega]; rfl
theorem pv_one (l : List P) (q : Nat) : (pv l q).oneCell' = true := by
  unfold pv
  rcases (show q % 3 = 0 ∨ q % 3 = 1 ∨ q % 3 = 2 by omega) with e | e | e <;> rw [e] <;> rfl
theorem prow {w w' : World} {a : Option Addr} {n k : Nat} {l : List P} (h : Row w a (n * 3) (pv l)) (hb : Below w.heap.size w w') (hk : k < n) :
    ∃ b off, a = some ⟨b, off, none⟩ ∧ b < w.heap.size ∧ w'.cell? ⟨b, off + k * 3, none⟩ = some (.int .i64 (at_ l k).n) ∧ w'.cell? ⟨b, off + k * 3 + 1, none⟩ = some (.int .i64 (at_ l k).r) ∧ w'.cell? ⟨b, off + k * 3 + 2, none⟩ = some (.int .i64 (at_ l k).h) := by
  obtain ⟨b, off, h1, h2, h3⟩ := h.at_struct hb hk (by decide)
  obtain ⟨e0, e1, e2⟩ := pv_at l k
  exact ⟨b, off, h1, h2, (h3 0 (by decide)).trans (congrArg some e0), (h3 1 (by decide)).trans (congrArg some e1), (h3 2 (by decide)).trans (congrArg some e2)⟩
theorem at_mem {l : List P} {k : Nat} (h : k < l.length) : at_ l k ∈ l := by
  unfold at_
  rw [List.getD_eq_getElem?_getD, List.getElem?_eq_getElem h]
  exact List.getElem_mem h
theorem mem_at {l : List P} {x : P} (h : x ∈ l) : ∃ k, k < l.length ∧ at_ l k = x := by
  obtain ⟨k, hk, e⟩ := List.getElem_of_mem h
  refine ⟨k, hk, ?_⟩
  unfold at_
  rw [List.getD_eq_getElem?_getD, List.getElem?_eq_getElem hk]
  exact e
def ins (l : List P) (i : Nat) (x : P) : List P := l.take i ++ x :: l.drop i
theorem ins_len {l : List P} {i : Nat} (x : P) (h : i ≤ l.length) : (ins l i x).length = l.length + 1 := by
  unfold ins
  simp
  omega
theorem at_ins {l : List P} {i : Nat} (x : P) (h : i ≤ l.length) (k : Nat) : at_ (ins l i x) k = if k < i then at_ l k else if k = i then x else at_ l (k - 1) := by
  unfold at_ ins
  simp only [List.getD_eq_getElem?_getD]
  by_cases h1 : k < i
  · rw [if_pos h1, List.getElem?_append_left (by simp; omega), List.getElem?_take, if_pos h1]
  · have hl : (l.take i).length = i := by simp; omega
    rw [if_neg h1, List.getElem?_append_right (by omega), hl]
    by_cases h2 : k = i
    · subst h2
      simp
    · rw [if_neg h2, show k - i = (k - i - 1) + 1 by omega, List.getElem?_cons_succ, List.getElem?_drop, show i + (k - i - 1) = k - 1 by omega]
theorem pv_ins {l : List P} {i : Nat} (x : P) (h : i ≤ l.length) (q : Nat) : insK 3 i (pv l) (pv [x]) q = pv (ins l i x) q := by
  unfold insK pv
  rw [at_ins x h]
  by_cases h1 : q < i * 3
  · rw [if_pos h1, if_pos (by omega)]
  · by_cases h2 : q < i * 3 + 3
    · rw [if_neg h1, if_pos h2, if_neg (by omega), if_pos (by omega), show (q - i * 3) / 3 = 0 by omega, show (q - i * 3) % 3 = q % 3 by omega]
      rfl
    · rw [if_neg h1, if_neg h2, if_neg (by omega), if_neg (by omega), show (q - 3) / 3 = q / 3 - 1 by omega, show (q - 3) % 3 = q % 3 by omega]
theorem pv_congr {l m : List P} {q : Nat} (h : at_ l (q / 3) = at_ m (q / 3)) : pv l q = pv m q := by
  unfold pv
  rw [h]

/-! ### The order: by rank, then by number -/
def orI (x y : Int) : Int := if x = 0 then y else x
def cmpI (x y : Int) : Int := if x < y then -1 else if y < x then 1 else 0
def cf (a b : P) : Int := orI (cmpI a.r b.r) (cmpI a.n b.n)
theorem cf_lt (a b : P) : cf a b < 0 ↔ a.r < b.r ∨ (a.r = b.r ∧ a.n < b.n) := by
  unfold cf orI cmpI
  repeat' split
  all_goals omega
theorem cf_eq (a b : P) : cf a b = 0 ↔ a.r = b.r ∧ a.n = b.n := by
  unfold cf orI cmpI
  repeat' split
  all_goals omega
theorem cf_trans {a b c : P} (h : cf a b < 0) (k : cf b c < 0) : cf a c < 0 := by
  rw [cf_lt] at *
  omega
def Srt (l : List P) : Prop := ∀ i j, i < j → j < l.length → cf (at_ l i) (at_ l j) < 0
theorem srt_mono {l : List P} (h : Srt l) (x : P) : ∀ a b, a ≤ b → b < l.length → cf (at_ l b) x < 0 → cf (at_ l a) x < 0 := fun a b hab hb hx => by
  by_cases e : a = b
  · subst e; exact hx
  · exact cf_trans (h a b (by omega) hb) hx
def pos : List P → P → Nat
  | [], _ => 0
  | c :: r, x => if cf c x < 0 then pos r x + 1 else 0
theorem pos_le (l : List P) (x : P) : pos l x ≤ l.length := by
  induction l with
  | nil => exact Nat.le_refl _
  | cons c r ih => unfold pos; split <;> simp <;> omega
theorem pos_is {x : P} : ∀ (l : List P) (i : Nat), i ≤ l.length → (∀ t, t < i → cf (at_ l t) x < 0) → (i < l.length → ¬ cf (at_ l i) x < 0) → pos l x = i
  | [], i, h, _, _ => by simp at h; subst h; rfl
  | c :: r, 0, _, _, h2 => by
    have := h2 (by simp)
    unfold pos
    exact if_neg this
  | c :: r, i + 1, h, h1, h2 => by
    have h0 : cf c x < 0 := h1 0 (by omega)
    unfold pos
    rw [if_pos h0, pos_is r i (by simpa using h) (fun t ht => h1 (t + 1) (by omega)) (fun hi => h2 (by simpa using hi))]

/-! ### Those that stay -/
def kept (g : P → Bool) (l : List P) (k : Nat) : List P := (l.take k).filter fun x => !g x
theorem kept_succ (g : P → Bool) (l : List P) (k : Nat) (hk : k < l.length) : kept g l (k + 1) = kept g l k ++ if g (at_ l k) = true then [] else [at_ l k] := by
  unfold kept
  have e : l.take (k + 1) = l.take k ++ [at_ l k] := by
    rw [List.take_succ_eq_append_getElem hk]
    unfold at_
    rw [List.getD_eq_getElem?_getD, List.getElem?_eq_getElem hk]
    rfl
  rw [e, List.filter_append]
  congr 1
  cases h : g (at_ l k) <;> simp [List.filter_cons, h]
theorem kept_len (g : P → Bool) (l : List P) (k : Nat) : (kept g l k).length ≤ k := by
  unfold kept
  have h1 := List.length_filter_le (fun x => !g x) (l.take k)
  have h2 : (l.take k).length ≤ k := List.length_take_le _ _
  omega
theorem kept_all (g : P → Bool) (l : List P) (k : Nat) (h : ∀ j, j < k → g (at_ l j) = false) (hk : k ≤ l.length) : kept g l k = l.take k := by
  unfold kept
  rw [List.filter_eq_self]
  intro x hx
  obtain ⟨j, hj, e⟩ := mem_at hx
  have hj2 : j < k := by simp at hj; omega
  have : at_ (l.take k) j = at_ l j := by
    unfold at_
    rw [List.getD_eq_getElem?_getD, List.getD_eq_getElem?_getD, List.getElem?_take, if_pos hj2]
  rw [← e, this, h j hj2]
  rfl
theorem at_snoc (l : List P) (x : P) (k : Nat) : at_ (l ++ [x]) k = if k < l.length then at_ l k else if k = l.length then x else default := by
  unfold at_
  simp only [List.getD_eq_getElem?_getD]
  by_cases h1 : k < l.length
  · rw [if_pos h1, List.getElem?_append_left h1]
  · rw [if_neg h1, List.getElem?_append_right (by omega)]
    by_cases h2 : k = l.length
    · rw [if_pos h2, h2]; simp
    · rw [if_neg h2, List.getElem?_eq_none (by simp; omega)]; rfl
end Go.Proofs.YtiflmdekcjbmbaaGreat.Pa
set_option maxRecDepth 100000
namespace Go.Proofs.YtiflmdekcjbmbaaGreat.Pa
set_option linter.unusedVariables false
set_option linter.unusedSimpArgs false
open Go.RowKit Lb

theorem keep_cell {W W' : World} {p : Addr} {v : Value} (hb : Below W.heap.size W W') (h : W.cell? p = some v) : W'.cell? p = some v := (hb.cell (lt_of_cell h)).trans h
theorem isNaN_any (x : Int) (w : World) : Calls Tryz.prog 243 #[.int .i64 x] w fun r w' => r = .returned (.bool false) ∧ w = w' := by
  go_enter Tryz.func243, Tryz.ntmps243
  go_wp2_with fail
  all_goals
    go_ret
    exact ⟨by first | rfl | simp, rfl⟩
theorem cmp_any (x y : Int) (w : World) : Calls Tryz.prog 219 #[.int .i64 x, .int .i64 y] w fun r w' => r = .returned (.int .i64 (cmpI x y)) ∧ w = w' := by
  rcases (show x < y ∨ (decide (x < y) = false ∧ y < x) ∨ (decide (x < y) = false ∧ decide (y < x) = false) by
    by_cases h : x < y
    · exact .inl h
    · by_cases h2 : y < x
      · exact .inr (.inl ⟨by simp; omega, h2⟩)
      · exact .inr (.inr ⟨by simp; omega, by simp; omega⟩)) with h | ⟨h, h2⟩ | ⟨h, h2⟩
  · have HD : Hid (cmpI x y = -1) := Lib.hid (by unfold cmpI; rw [if_pos h])
    go_enter Tryz.func219, Tryz.ntmps219
    go_wp2_with ((with_reducible refine (isNaN_any _ _).mono ?_); rintro r w' ⟨rfl, rfl⟩)
    go_ret
    exact ⟨by rw [HD.out]; rfl, rfl⟩
  · have HD : Hid (cmpI x y = 1) := Lib.hid (by unfold cmpI; rw [if_neg (by simpa using h), if_pos h2])
    go_enter Tryz.func219, Tryz.ntmps219
    go_wp2_with ((with_reducible refine (isNaN_any _ _).mono ?_); rintro r w' ⟨rfl, rfl⟩)
    go_ret
    exact ⟨by rw [HD.out]; rfl, rfl⟩
  · have HD : Hid (cmpI x y = 0) := Lib.hid (by unfold cmpI; rw [if_neg (by simpa using h), if_neg (by simpa using h2)])
    go_enter Tryz.func219, Tryz.ntmps219
    go_wp2_with ((with_reducible refine (isNaN_any _ _).mono ?_); rintro r w' ⟨rfl, rfl⟩)
    go_ret
    exact ⟨by rw [HD.out]; rfl, rfl⟩
theorem or_two (b : Nat) (x y : Int) (w : World) (h0 : w.cell? ⟨b, 0, none⟩ = some (.int .i64 x)) (h1 : w.cell? ⟨b, 1, none⟩ = some (.int .i64 y)) :
    Calls Tryz.prog 218 #[.slice (some ⟨b, 0, none⟩) 2 2] w fun r w' => r = .returned (.int .i64 (orI x y)) ∧ w = w' := by
  have hc : ∀ k, k < 2 → w.cell? ⟨b, 0 + k, none⟩ = some (.int .i64 (if k = 0 then x else y)) := fun k hk => by
    rcases (show k = 0 ∨ k = 1 by omega) with rfl | rfl
    · exact h0
    · exact h1
  have HC := Lib.hid hc
  clear hc h0 h1
  go_enter Tryz.func218, Tryz.ntmps218
  go_wp2_with fail
  go_loopw [8] (fun i wr => ∃ k : Nat, i = .int .i64 k ∧ k ≤ 2 ∧ Hid (∀ j, j < k → (if j = 0 then x else y) = 0) ∧ w = wr) (fun i _ => 2 - (intOf i).toNat)
  case atStart => exact ⟨0, rfl, by omega, Lib.hid (fun j hj => by omega), rfl⟩
  case round =>
    obtain ⟨k, rfl, hk, HN, rfl⟩ := hrel
    by_cases hlt : k < 2
    · have g1 : (k : Int) < 2 := by omega
      have c0 := HC.out k hlt
      rw [Nat.zero_add] at c0
      obtain ⟨z, hz⟩ : ∃ z, (if k = 0 then x else y) = z := ⟨_, rfl⟩
      have HZ := Lib.hid hz
      rw [hz] at c0
      clear hz
      by_cases hz0 : z = 0
      · have HN2 : Hid (∀ j, j < k + 1 → (if j = 0 then x else y) = 0) := Lib.hid (fun j hj => by
          by_cases e : j = k
          · subst e; rw [HZ.out]; exact hz0
          · exact HN.out j (by omega))
        have e1 : (z != 0) = false := by simpa using hz0
        clear hz0
        go_wp2_with fail
        first
          | exact ⟨⟨k + 1, by simp, by omega, HN2, trivial⟩, by simp [intOf]; omega⟩
          | exact ⟨⟨k + 1, by simp [intOf], by omega, HN2, rfl⟩, by simp [intOf]; omega⟩
          | exact ⟨⟨_, _, ⟨k + 1, by simp, by omega, HN2⟩, rfl, rfl⟩, by simp [intOf]; omega⟩
      · have e1 : (z != 0) = true := by simpa using hz0
        have HD : Hid (orI x y = z) := Lib.hid (by
          unfold orI
          rcases (show k = 0 ∨ k = 1 by omega) with rfl | rfl
          · have := HZ.out
            simp only [if_true] at this
            rw [this, if_neg hz0]
          · have hx := HN.out 0 (by omega)
            simp only [if_true] at hx
            rw [if_pos hx]
            have := HZ.out
            rwa [if_neg (by omega)] at this)
        clear hz0
        go_wp2_with fail
        go_ret
        exact ⟨by rw [HD.out]; rfl, rfl⟩
    · obtain rfl : 2 = k := by omega
      have HD : Hid (orI x y = 0) := Lib.hid (by
        unfold orI
        have hx := HN.out 0 (by omega)
        have hy := HN.out 1 (by omega)
        simp only [if_true] at hx
        rw [if_neg (by omega)] at hy
        rw [if_pos hx, hy])
      go_wp2_with fail
      go_ret
      exact ⟨by rw [HD.out]; rfl, rfl⟩
set_option maxHeartbeats 2000000 in
theorem com_any (x y : P) (w : World) :
    Calls Tryz.prog 195 #[.agg #[.int .i64 x.n, .int .i64 x.r, .int .i64 x.h], .agg #[.int .i64 y.n, .int .i64 y.r, .int .i64 y.h]] w fun r w' => r = .returned (.int .i64 (cf x y)) ∧ Below w.heap.size w w' := by
  obtain ⟨x1, x2, x3⟩ := x
  obtain ⟨y1, y2, y3⟩ := y
  obtain ⟨c1, hc1⟩ : ∃ c, cmpI x2 y2 = c := ⟨_, rfl⟩
  obtain ⟨c2, hc2⟩ : ∃ c, cmpI x1 y1 = c := ⟨_, rfl⟩
  have H1 := Lib.hid hc1
  have H2 := Lib.hid hc2
  have HD : Hid (cf ⟨x1, x2, x3⟩ ⟨y1, y2, y3⟩ = orI c1 c2) := Lib.hid (by rw [← hc1, ← hc2]; rfl)
  clear hc1 hc2
  have k1 : Own ((w.alloc (.cells #[.int .i64 x1, .int .i64 x2, .int .i64 x3] 211)).alloc (.cells #[.int .i64 y1, .int .i64 y2, .int .i64 y3] 211)) w.heap.size 211 #[.int .i64 x1, .int .i64 x2, .int .i64 x3] := (Own.new w _ _).alloc _
  have k2 : Own ((w.alloc (.cells #[.int .i64 x1, .int .i64 x2, .int .i64 x3] 211)).alloc (.cells #[.int .i64 y1, .int .i64 y2, .int .i64 y3] 211)) (w.heap.size + 1) 211 #[.int .i64 y1, .int .i64 y2, .int .i64 y3] := by
    have := Own.new (w.alloc (.cells #[.int .i64 x1, .int .i64 x2, .int .i64 x3] 211)) 211 #[.int .i64 y1, .int .i64 y2, .int .i64 y3]
    rwa [show (w.alloc (.cells #[.int .i64 x1, .int .i64 x2, .int .i64 x3] 211)).heap.size = w.heap.size + 1 by simp] at this
  have b0 := ((Below.refl w.heap.size w).alloc (Nat.le_refl _) (.cells #[.int .i64 x1, .int .i64 x2, .int .i64 x3] 211)).alloc (by simp) (.cells #[.int .i64 y1, .int .i64 y2, .int .i64 y3] 211)
  go_enter Tryz.func195, Tryz.ntmps195
  go_wp2_with fail
  obtain ⟨w1, hw1⟩ : ∃ w1, (w.alloc (.cells #[.int .i64 x1, .int .i64 x2, .int .i64 x3] 211)).alloc (.cells #[.int .i64 y1, .int .i64 y2, .int .i64 y3] 211) = w1 := ⟨_, rfl⟩
  rw [hw1] at k1 k2 b0 ⊢
  clear hw1
  have s0 : (fun w' : World => w'.cell? ⟨w.heap.size, 0, none⟩ = some (.int .i64 x1) ∧ w'.cell? ⟨w.heap.size, 1, none⟩ = some (.int .i64 x2) ∧ w'.cell? ⟨w.heap.size + 1, 0, none⟩ = some (.int .i64 y1) ∧ w'.cell? ⟨w.heap.size + 1, 1, none⟩ = some (.int .i64 y2)) w1.drew := ⟨k1.cell 0, k1.cell 1, k2.cell 0, k2.cell 1⟩
  have o1 := (k1.drewN 1).alloc (.cells #[.int .i64 c1, .int .i64 c2] 3)
  have o2 := (k2.drewN 1).alloc (.cells #[.int .i64 c1, .int .i64 c2] 3)
  have s1 : (fun w' : World => w'.cell? ⟨w.heap.size, 0, none⟩ = some (.int .i64 x1) ∧ w'.cell? ⟨w.heap.size, 1, none⟩ = some (.int .i64 x2) ∧ w'.cell? ⟨w.heap.size + 1, 0, none⟩ = some (.int .i64 y1) ∧ w'.cell? ⟨w.heap.size + 1, 1, none⟩ = some (.int .i64 y2)) (w1.drew.alloc (.cells #[.int .i64 c1, .int .i64 c2] 3)) := ⟨o1.cell 0, o1.cell 1, o2.cell 0, o2.cell 1⟩
  have o3 := Own.new w1.drew 3 #[.int .i64 c1, .int .i64 c2]
  have hsz : w1.drew.heap.size = w1.heap.size := rfl
  rw [hsz] at o3
  have hb9 := (below_drewN b0 1).alloc b0.size (.cells #[.int .i64 c1, .int .i64 c2] 3)
  clear o1 o2 k1 k2
  go_region_held3 (fun w' : World => w'.cell? ⟨w.heap.size, 0, none⟩ = some (.int .i64 x1) ∧ w'.cell? ⟨w.heap.size, 1, none⟩ = some (.int .i64 x2) ∧ w'.cell? ⟨w.heap.size + 1, 0, none⟩ = some (.int .i64 y1) ∧ w'.cell? ⟨w.heap.size + 1, 1, none⟩ = some (.int .i64 y2)) (first | exact s0 | exact s1) (first
    | (go_at_call 219; first | ((with_reducible refine (cmp_any x2 y2 _).mono ?_); rintro q5 w5 ⟨rfl, rfl⟩; rw [H1.out]) | ((with_reducible refine (cmp_any x1 y1 _).mono ?_); rintro q5 w5 ⟨rfl, rfl⟩; rw [H2.out]))
    | (go_at_call 218; refine (or_two w1.heap.size c1 c2 _ (o3.cell 0) (o3.cell 1)).mono ?_; rintro q5 w5 ⟨rfl, rfl⟩))
  all_goals
    go_wp2_with fail
    go_ret
    exact ⟨by rw [HD.out]; rfl, hb9⟩
end Go.Proofs.YtiflmdekcjbmbaaGreat.Pa
set_option maxRecDepth 100000
namespace Go.Proofs.YtiflmdekcjbmbaaGreat.Pa
set_option linter.unusedVariables false
set_option linter.unusedSimpArgs false
open Go.RowKit Lb

/-- The function g, with what it has captured, says p of each, in whatever world that keeps OK; it only makes memory. -/
def Says (g : FuncId) (lb : Value) (p : P → Bool) (OK : World → Prop) : Prop :=
  ∀ (x : P) (w : World), OK w → Calls Tryz.prog g #[.agg #[.int .i64 x.n, .int .i64 x.r, .int .i64 x.h], lb] w fun e w' => e = .returned (.bool (p x)) ∧ Below w.heap.size w w'
def IdxOf (p : P → Bool) (l : List P) (z : Int) : Prop := (z = -1 ∧ ∀ j, j < l.length → p (at_ l j) = false) ∨ ∃ k : Nat, k < l.length ∧ z = k ∧ p (at_ l k) = true ∧ ∀ j, j < k → p (at_ l j) = false
def IdxPost (p : P → Bool) (l : List P) (w : World) (r : Ending) (w' : World) : Prop := ∃ z : Int, r = .returned (.int .i64 z) ∧ IdxOf p l z ∧ Below w.heap.size w w'
set_option maxHeartbeats 1000000 in
theorem idx_any (a : Option Addr) (n m : Nat) (l : List P) (g : FuncId) (lb : Value) (p : P → Bool) (OK : World → Prop) (w : World) (eg : ∀ args w, (callFunc g args).run Tryz.prog w = .ok (.enter g args) w) (hg : Says g lb p OK) (hO : OK w) (hok : ∀ W W', Below W.heap.size W W' → OK W → OK W')
    (hR : Row w a (n * 3) (pv l)) (hl : l.length = n) (hn : n ≤ 100000) :
    Calls Tryz.prog 228 #[.slice a n m, .func (.func g) #[] #[lb]] w (IdxPost p l w) := by
  have HR := Lib.hid hR
  have HL := Lib.hid hl
  have HG := Lib.hid hg
  have HOK := Lib.hid hok
  have HO := Lib.hid hO
  clear hR hl hg hok hO
  go_enter Tryz.func228, Tryz.ntmps228
  go_wp2_with fail
  go_loopw [8] (fun i wr => ∃ k : Nat, i = .int .i64 k ∧ k ≤ n ∧ Hid (∀ j, j < k → p (at_ l j) = false) ∧ Hid (OK wr) ∧ Below w.heap.size w wr) (fun i _ => n - (intOf i).toNat)
  case atStart => exact ⟨0, rfl, by omega, Lib.hid (fun j hj => by omega), HO, Below.refl _ _⟩
  case round =>
    obtain ⟨k, rfl, hk, HN, HO1, b1⟩ := hrel
    by_cases hlt : k < n
    · obtain ⟨b, off, rfl, hbl, c0, c1, c2⟩ := prow HR.out b1 hlt
      have htk := HG.out (at_ l k) wr HO1.out
      obtain ⟨x, hx⟩ : ∃ x, at_ l k = x := ⟨_, rfl⟩
      have HX := Lib.hid hx
      rw [hx] at c0 c1 c2 htk
      clear hx
      cases hs : p x
      · have HN2 : Hid (∀ j, j < k + 1 → p (at_ l j) = false) := Lib.hid (fun j hj => by
          by_cases e : j = k
          · subst e; rw [HX.out]; exact hs
          · exact HN.out j (by omega))
        rw [hs] at htk
        clear hs
        go_wp2_with (go_at_fn g; refine htk.mono ?_; rintro r w5 ⟨rfl, b5⟩)
        exact ⟨⟨k + 1, by simp, by omega, HN2, Lib.hid (HOK.out _ _ b5 HO1.out), b1.trans (b5.mono b1.size)⟩, by simp [intOf]; omega⟩
      · have HT : Hid (IdxOf p l (k : Int)) := Lib.hid (.inr ⟨k, by rw [HL.out]; exact hlt, rfl, by rw [HX.out]; exact hs, HN.out⟩)
        rw [hs] at htk
        clear hs
        go_wp2_with (go_at_fn g; refine htk.mono ?_; rintro r w5 ⟨rfl, b5⟩)
        go_ret
        exact ⟨_, rfl, HT.out, b1.trans (b5.mono b1.size)⟩
    · have HT : Hid (IdxOf p l (-1)) := Lib.hid (.inl ⟨rfl, fun j hj => HN.out j (by rw [HL.out] at hj; omega)⟩)
      go_wp2_with fail
      go_ret
      exact ⟨_, rfl, HT.out, b1⟩
end Go.Proofs.YtiflmdekcjbmbaaGreat.Pa
set_option maxRecDepth 100000
namespace Go.Proofs.YtiflmdekcjbmbaaGreat.Pa
set_option linter.unusedVariables false
set_option linter.unusedSimpArgs false
open Go.RowKit Lb

theorem zeroE (w : World) : (zeroValue 211).run Tryz.prog w = .ok (.agg #[.int .i64 0, .int .i64 0, .int .i64 0]) w := by kernel_rfl
theorem clear_run (W : World) (gb i n c C : Nat) (F : Nat → Value) (hB : Blk W gb 211 (C * 3) F) (hi : i < n) (hn : n ≤ C) :
    ∀ ty, (Builtin.clear_ #[207] ty #[.slice (some ⟨gb, i * 3, none⟩) (n - i) c]).run Tryz.prog W = .ok (.tuple #[]) (W.setCells gb (i * 3) (Builtin.zeroCells (Value.agg #[.int .i64 0, .int .i64 0, .int .i64 0]).cells (n - i)).toList) := fun ty => by
  have hlen : (Builtin.zeroCells (Value.agg #[.int .i64 0, .int .i64 0, .int .i64 0]).cells (n - i)).toList.length = (n - i) * 3 := by simp [size_zeroCells, Value.cells]
  have hth := hB.there (o := i * 3) (m := (n - i) * 3) (by omega)
  have hst := run_storeCells_cells (P := Tryz.prog) gb (i * 3) (Builtin.zeroCells (Value.agg #[.int .i64 0, .int .i64 0, .int .i64 0]).cells (n - i)).toList 0 W (fun j hj => by rw [Nat.add_zero]; exact (hth j (by omega)).1) (fun j hj => by rw [Nat.add_zero]; exact (hth j (by omega)).2) (by
    intro v hv
    simp only [Builtin.zeroCells, Value.cells, Array.toList_map, List.mem_map] at hv
    obtain ⟨q, _, rfl⟩ := hv
    have hq : q % 3 < 3 := Nat.mod_lt _ (by decide)
    show (((#[Value.int .i64 0, Value.int .i64 0, Value.int .i64 0] : Array Value)[q % 3]!).oneCell') = true
    rcases (show q % 3 = 0 ∨ q % 3 = 1 ∨ q % 3 = 2 by omega) with e | e | e <;> rw [e] <;> rfl)
  simp only [Nat.add_zero] at hst
  obtain ⟨m, hm⟩ : ∃ m, n - i = m + 1 := ⟨n - i - 1, by omega⟩
  rw [hm] at hst ⊢
  simp [Builtin.clear_, run_underlying Tryz.underlying207, zeroE, hst]
def KeptPost (base : Nat) (p : P → Bool) (l : List P) (v : Value) (w : World) (r : Ending) (w' : World) : Prop :=
  ∃ v', r = .returned v' ∧ MineK w' base 211 3 v' (kept p l l.length).length (pv (kept p l l.length)) ∧ w.grownBy w' v.ownBlock ∧ v'.ownBlock = v.ownBlock
theorem kept_put {p : P → Bool} {l : List P} {j : Nat} {V : Nat → Value} {x : P} (hj : j < l.length) (hx : at_ l j = x) (hp : p x = false) (hV : ∀ q, q < (kept p l j).length * 3 → V q = pv (kept p l j) q) :
    ∀ q, q < (kept p l (j + 1)).length * 3 → (if q = (kept p l j).length * 3 + 2 then .int .i64 x.h else if q = (kept p l j).length * 3 + 1 then .int .i64 x.r else if q = (kept p l j).length * 3 then .int .i64 x.n else V q) = pv (kept p l (j + 1)) q := by
  have e : kept p l (j + 1) = kept p l j ++ [x] := by rw [kept_succ p l j hj, hx, hp]; rfl
  intro q hq
  rw [e] at hq ⊢
  rw [List.length_append] at hq
  simp only [List.length_cons, List.length_nil] at hq
  obtain ⟨i, hi⟩ : ∃ i, (kept p l j).length = i := ⟨_, rfl⟩
  rw [hi] at hq hV ⊢
  have hat : at_ (kept p l j ++ [x]) i = x := by rw [at_snoc, hi, if_neg (by omega), if_pos rfl]
  obtain ⟨a0, a1, a2⟩ := pv_at (kept p l j ++ [x]) i
  rw [hat] at a0 a1 a2
  by_cases c2 : q = i * 3 + 2
  · rw [if_pos c2, c2, a2]
  · by_cases c1 : q = i * 3 + 1
    · rw [if_neg c2, if_pos c1, c1, a1]
    · by_cases c0 : q = i * 3
      · rw [if_neg c2, if_neg c1, if_pos c0, c0, a0]
      · rw [if_neg c2, if_neg c1, if_neg c0, hV q (by omega)]
        refine pv_congr ?_
        rw [at_snoc, hi, if_pos (by omega)]
set_option maxHeartbeats 400000 in
theorem dlf_any (base : Nat) (v : Value) (l : List P) (g : FuncId) (lb : Value) (p : P → Bool) (OK : World → Prop) (w : World) (eg : ∀ args w, (callFunc g args).run Tryz.prog w = .ok (.enter g args) w) (hg : Says g lb p OK) (hO : OK w) (hok : ∀ W W', W.grownBy W' v.ownBlock → OK W → OK W')
    (h : MineK w base 211 3 v l.length (pv l)) (hn : l.length ≤ 100000) :
    Calls Tryz.prog 207 #[v, .func (.func g) #[] #[lb]] w (KeptPost base p l v w) := by
  obtain ⟨A, c, rfl, hc1, hc2, hR⟩ := h.row
  unfold maxLen at hc2
  have hidx := idx_any A l.length c l g lb p OK w eg hg hO (fun W W' hb ho => hok W W' (below_grown hb _) ho) hR rfl hn
  have HI := Lib.hid hidx
  have HG := Lib.hid hg
  have HOK := Lib.hid hok
  have HO := Lib.hid hO
  have HH := Lib.hid h
  by_cases hall : ∀ j, j < l.length → p (at_ l j) = false
  · have HD : ∀ w', Below w.heap.size w w' → Hid (KeptPost base p l (.slice A l.length c) w (.returned (.slice A l.length c)) w') := fun w' hb => Lib.hid (by
      refine ⟨_, rfl, ?_, below_grown hb _, rfl⟩
      rw [kept_all p l l.length hall (Nat.le_refl _), List.take_of_length_le (Nat.le_refl _)]
      exact HH.out.below hb)
    have HAL := Lib.hid hall
    obtain ⟨n, hnn⟩ : ∃ n, l.length = n := ⟨_, rfl⟩
    have HL := Lib.hid hnn
    rw [hnn] at HI HD hc1
    clear hidx hg hok hO h hall hR hnn
    rw [HL.out]
    go_enter Tryz.func207, Tryz.ntmps207
    go_wp2_with (go_at_call 228; refine HI.out.mono ?_; rintro r w5 ⟨z, rfl, hz, b5⟩; obtain ⟨rfl, _⟩ := hz.resolve_right (fun ⟨k, hk, _, h1, _⟩ => by rw [HAL.out k hk] at h1; cases h1))
    go_ret
    exact (HD _ b5).out
  · have hex : ∃ k : Nat, k < l.length ∧ p (at_ l k) = true ∧ ∀ j, j < k → p (at_ l j) = false := by
      have hz : ∃ z, IdxOf p l z ∧ True := by
        by_cases hh : ∃ k, k < l.length ∧ p (at_ l k) = true
        · obtain ⟨k, hk, hp⟩ := hh
          induction k using Nat.strongRecOn with
          | ind k ih =>
            by_cases hm : ∃ j, j < k ∧ p (at_ l j) = true
            · obtain ⟨j, hj, hpj⟩ := hm
              exact ih j hj (by omega) hpj
            · exact ⟨k, .inr ⟨k, hk, rfl, hp, fun j hj => by
                cases e : p (at_ l j)
                · rfl
                · exact absurd ⟨j, hj, e⟩ hm⟩, trivial⟩
        · exact absurd (fun j hj => by
            cases e : p (at_ l j)
            · rfl
            · exact absurd ⟨j, hj, e⟩ hh) hall
      obtain ⟨z, hz, _⟩ := hz
      rcases hz with ⟨_, h1⟩ | ⟨k, hk, _, hp, h1⟩
      · exact absurd h1 hall
      · exact ⟨k, hk, hp, h1⟩
    obtain ⟨k0, hk0, hp0, hlow⟩ := hex
    have hz0 : ∀ z, IdxOf p l z → z = (k0 : Int) := fun z hz => by
      rcases hz with ⟨_, h1⟩ | ⟨k, hk, rfl, hp, h1⟩
      · rw [h1 k0 hk0] at hp0; cases hp0
      · rcases Nat.lt_trichotomy k k0 with e | e | e
        · rw [hlow k e] at hp; cases hp
        · rw [e]
        · rw [h1 k0 e] at hp0; cases hp0
    have HZ := Lib.hid hz0
    obtain ⟨gb, c', cs, hv, hgb, ho, _, _, hsz, hcv⟩ := h.block (by omega)
    injection hv with hv1 hv2 hv3
    subst hv1 hv3
    have hB0 := blk_of ho hsz
    have hV0 : ∀ q, q < l.length * 3 → cs.getD q undef = pv l q := fun q hq => by rw [Array.getD_eq_getD_getElem?, hcv q hq]; rfl
    have hkk : kept p l k0 = l.take k0 := kept_all p l k0 hlow (by omega)
    have hk1 : kept p l (k0 + 1) = l.take k0 := by rw [kept_succ p l k0 hk0, hp0, if_pos rfl, List.append_nil, hkk]
    have hkl : (l.take k0).length = k0 := by simp; omega
    have htk : ∀ q, q < k0 * 3 → pv l q = pv (l.take k0) q := fun q hq => pv_congr (by
      unfold at_
      rw [List.getD_eq_getElem?_getD, List.getD_eq_getElem?_getD, List.getElem?_take, if_pos (by omega)])
    obtain ⟨n, hnn⟩ : ∃ n, l.length = n := ⟨_, rfl⟩
    have HL := Lib.hid hnn
    have HKL := Lib.hid hkl
    have HK1 := Lib.hid hk1
    have HB0 := Lib.hid hB0
    have HV0 := Lib.hid hV0
    have HTK := Lib.hid htk
    rw [hnn] at HI hc1 hk0 hn HOK HV0
    have hglt := ho.lt
    have HHG := Lib.hid hgb
    have hne : ((k0 : Int) == -1) = false := by rw [beq_eq_false_iff_ne]; omega
    clear hidx hg hok hO h hall hR hcv hsz ho hB0 hV0 hkk hk1 hkl htk hz0 hlow hp0 hgb hnn hv2 HH
    rw [HL.out]
    go_enter Tryz.func207, Tryz.ntmps207
    go_wp2_with (go_at_call 228; refine HI.out.mono ?_; rintro r w5 ⟨z, rfl, hz, b5⟩; obtain rfl := HZ.out z hz)
    go_loopw [5, 6, 7] (fun s5 s6 s7 wr => ∃ (i j : Nat) (V : Nat → Value), s5 = .int .i64 i ∧ s6 = .int .i64 j ∧ j ≤ n ∧ i < j ∧ Blk wr gb 211 (c * 3) V ∧ Hid (∀ q, q < i * 3 → V q = pv (kept p l j) q) ∧ Hid (∀ q, i * 3 ≤ q → q < n * 3 → V q = pv l q) ∧ Hid ((kept p l j).length = i) ∧ Hid (OK wr) ∧ w.grownBy wr (some gb)) (fun _ j _ _ => n - (intOf j).toNat)
    case atStart => exact ⟨k0, k0 + 1, _, rfl, by simp, by omega, by omega, below_blk b5 HB0.out hglt, Lib.hid (fun q hq => by rw [HV0.out q (by omega), HTK.out q hq, HK1.out]), Lib.hid (fun q _ hq => HV0.out q hq), Lib.hid (by rw [HK1.out, HKL.out]), Lib.hid (HOK.out _ _ (below_grown b5 _) HO.out), below_grown b5 _⟩
    case round =>
      clear b5 hz
      obtain ⟨i, j, V, rfl, rfl, hj, hij, hB, HVl, HVh, HLN, HO1, g1⟩ := hrel
      by_cases hlt : j < n
      · obtain ⟨a0, a1, a2⟩ := pv_at l j
        have c0 : wr.cell? ⟨gb, j * 3, none⟩ = some (.int .i64 (at_ l j).n) := by rw [hB.cell (by omega), HVh.out _ (by omega) (by omega), a0]
        have c1 : wr.cell? ⟨gb, j * 3 + 1, none⟩ = some (.int .i64 (at_ l j).r) := by rw [hB.cell (by omega), HVh.out _ (by omega) (by omega), a1]
        have c2 : wr.cell? ⟨gb, j * 3 + 2, none⟩ = some (.int .i64 (at_ l j).h) := by rw [hB.cell (by omega), HVh.out _ (by omega) (by omega), a2]
        clear a0 a1 a2
        obtain ⟨x, hx⟩ : ∃ x, at_ l j = x := ⟨_, rfl⟩
        have HX := Lib.hid hx
        rw [hx] at c0 c1 c2
        clear hx
        have b2 := (Below.refl wr.heap.size wr).alloc (Nat.le_refl _) (.cells #[.int .i64 x.n, .int .i64 x.r, .int .i64 x.h] 211)
        have o2 : Own (wr.alloc (.cells #[.int .i64 x.n, .int .i64 x.r, .int .i64 x.h] 211)) wr.heap.size 211 #[.int .i64 x.n, .int .i64 x.r, .int .i64 x.h] := Own.new wr _ _
        have hO2 := HOK.out _ _ (below_grown b2 _) HO1.out
        have htk := HG.out x (wr.alloc (.cells #[.int .i64 x.n, .int .i64 x.r, .int .i64 x.h] 211)) hO2
        have HO2 := Lib.hid hO2
        clear hO2
        have hgl := hB.lt
        have e0 : (wr.alloc (.cells #[.int .i64 x.n, .int .i64 x.r, .int .i64 x.h] 211)).cell? ⟨wr.heap.size, 0, none⟩ = some (.int .i64 x.n) := o2.cell 0
        have e1 : (wr.alloc (.cells #[.int .i64 x.n, .int .i64 x.r, .int .i64 x.h] 211)).cell? ⟨wr.heap.size, 1, none⟩ = some (.int .i64 x.r) := o2.cell 1
        have e2 : (wr.alloc (.cells #[.int .i64 x.n, .int .i64 x.r, .int .i64 x.h] 211)).cell? ⟨wr.heap.size, 2, none⟩ = some (.int .i64 x.h) := o2.cell 2
        cases hs : p x
        · rw [hs] at htk
          have HS := Lib.hid hs
          clear hs
          go_wp2_with (go_at_fn g; refine htk.mono ?_; rintro r w3 ⟨rfl, b3⟩; have f0 := keep_cell b3 e0; have f1 := keep_cell b3 e1; have f2 := keep_cell b3 e2; have hB3 := below_blk (b2.trans (b3.mono b2.size)) hB hgl; have z0 : w3.frozen? ⟨gb, i * 3, none⟩ = false := hB3.free _; have z1 : w3.frozen? ⟨gb, i * 3 + 1, none⟩ = false := hB3.free _; have z2 : w3.frozen? ⟨gb, i * 3 + 2, none⟩ = false := hB3.free _; have y0 : w3.cell? ⟨gb, i * 3, none⟩ = some (V (i * 3)) := hB3.cell (by omega); have y1 : w3.cell? ⟨gb, i * 3 + 1, none⟩ = some (V (i * 3 + 1)) := hB3.cell (by omega); have y2 : w3.cell? ⟨gb, i * 3 + 2, none⟩ = some (V (i * 3 + 2)) := hB3.cell (by omega))
          have b4 := b2.trans (b3.mono b2.size)
          have hkp := kept_put (p := p) (l := l) (j := j) (V := V) (x := x) (by rw [HL.out]; exact hlt) HX.out HS.out (by rw [HLN.out]; exact HVl.out)
          have hk1 : (kept p l (j + 1)).length = i + 1 := by
            rw [kept_succ p l j (by rw [HL.out]; exact hlt), HX.out, HS.out]
            simp [HLN.out]
          rw [HLN.out, hk1] at hkp
          have kput := ((hB3.put (i * 3) (.int .i64 x.n)).put (i * 3 + 1) (.int .i64 x.r)).put (i * 3 + 2) (.int .i64 x.h)
          have gA : wr.grownBy (((w3.setCell ⟨gb, i * 3, none⟩ (.int .i64 x.n)).setCell ⟨gb, i * 3 + 1, none⟩ (.int .i64 x.r)).setCell ⟨gb, i * 3 + 2, none⟩ (.int .i64 x.h)) (some gb) := grown_setCells (below_grown b4 (some gb)) (.inl rfl) (i * 3) [.int .i64 x.n, .int .i64 x.r, .int .i64 x.h]
          exact ⟨⟨i + 1, j + 1, _, by simp, by simp, by omega, by omega, kput, Lib.hid hkp, Lib.hid (fun q h1 h2 => by
            show (if q = i * 3 + 2 then _ else if q = i * 3 + 1 then _ else if q = i * 3 then _ else V q) = _
            rw [if_neg (by omega), if_neg (by omega), if_neg (by omega)]
            exact HVh.out q (by omega) h2), Lib.hid hk1, Lib.hid (HOK.out _ _ gA HO1.out), grown_trans g1 gA (fun q e => .inl e)⟩, by simp [intOf]; omega⟩
        · rw [hs] at htk
          have HK : Hid (kept p l (j + 1) = kept p l j) := Lib.hid (by rw [kept_succ p l j (by rw [HL.out]; exact hlt), HX.out, hs]; simp)
          clear hs
          go_wp2_with (go_at_fn g; refine htk.mono ?_; rintro r w3 ⟨rfl, b3⟩)
          have b4 := b2.trans (b3.mono b2.size)
          exact ⟨⟨i, j + 1, V, rfl, by simp, by omega, by omega, below_blk b4 hB hgl, Lib.hid (by rw [HK.out]; exact HVl.out), HVh, Lib.hid (by rw [HK.out]; exact HLN.out), Lib.hid (HOK.out _ _ (below_grown b4 _) HO1.out), grown_trans g1 (below_grown b4 none) (fun q e => by cases e)⟩, by simp [intOf]; omega⟩
      · obtain rfl : n = j := by omega
        have hcl := clear_run wr gb i n (c - i) c V hB hij (by omega)
        have hci : ¬ c = i := by omega
        have k1 : i ≤ n := by omega
        have k2 : i ≤ c := by omega
        have hbl := hB.lt
        go_wp2_with fail
        go_ret
        refine ⟨.slice (some ⟨gb, 0, none⟩) i c, rfl, ?_, grown_setCells g1 (.inl rfl) _ _, rfl⟩
        rw [HL.out, HLN.out]
        exact mineK_made (hB.puts _ (i * 3)) HHG.out (by unfold maxLen; omega) (by omega) (fun q hq => by
          rw [putL_at, if_neg (by omega)]
          exact HVl.out q hq)
end Go.Proofs.YtiflmdekcjbmbaaGreat.Pa
