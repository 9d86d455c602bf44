/-
  slices.Insert of one struct.
-/
import Derived.Test.YtdknacbdkekfnaaSlK
import Derived.IntWalk
set_option maxRecDepth 100000
namespace Go.Proofs.Ytdknacbdkekfnaa.Ce
set_option linter.unusedVariables false
open Go.RowKit Lb

theorem infoE : (Try.prog.info? 31).map (fun i => (i.zero, i.size, i.bytes)) = some (some (.agg #[.int .i64 0, .int .i64 0, .int .i64 0, .int .i64 0, .int .i64 0]), 5, 40) := by kernel_rfl
theorem sizeE (w : World) : (Go.sizeOf 31).run Try.prog w = .ok 5 w := by kernel_rfl
/-- At the end: append. -/
theorem ins_end (base n gb : Nat) (v : Value) (V U : Nat → Value) (us : Array Value) (w : World) (h : MineK w base 31 5 v n V) (hn : n ≤ 100000) (hb : base ≤ w.heap.size) (hu : Own w gb 31 us) (hU : ∀ q, q < 5 → us[q]? = some (U q)) (h1 : ∀ q, (U q).oneCell' = true) :
    Calls Try.prog 30 #[v, .int .i64 (n : Nat), .slice (some ⟨gb, 0, none⟩) 1 1] w fun r w' => ∃ v', r = .returned v' ∧ MineK w' base 31 5 v' (n + 1) (insK 5 n V U) ∧ w.grownBy w' v.ownBlock ∧ (v'.ownBlock = v.ownBlock ∨ v'.ownBlock = some w.heap.size) := by
  obtain ⟨i0, hi0, hz0, hz1, hz2⟩ := info_parts infoE
  have hr : Row w (some ⟨gb, 0, none⟩) (1 * 5) U := Row.own hu (fun q hq => hU q (by omega))
  have HR := Lib.hid hr
  have HNM : Hid (n + 1 ≤ maxLen) := Lib.hid (by unfold maxLen; omega)
  have HO := Lib.hid h
  rcases h.2 with ⟨rfl, rfl⟩ | ⟨g, c, cur, rfl, _, _, hc, hm, _, _⟩
  · clear h hr
    go_enter Try.func30, Try.ntmps30
    go_wp2_with (at_builtin; go_must (refine wp_appK rfl (.tmp 23) (.tmp 24) _ rfl base 31 i0 _ 5 40 Try.underlying27 hi0 hz0 hz1 hz2 rfl (by decide) _ 0 V rfl HO.out _ 1 _ U rfl HR.out (fun i _ => h1 i) HNM.out ?c2 hb ?_))
    case c2 => omega
    intro v5 w5 m5 g5 q5
    have M5 := Lib.hid (m5.ext (insK_end 5 0 V U))
    clear m5
    go_wp2_with fail
    go_ret
    exact ⟨_, rfl, M5.out, g5, q5⟩
  · unfold maxLen at hm
    clear h hr
    by_cases hcn : n = c
    · subst hcn
      go_enter Try.func30, Try.ntmps30
      go_wp2_with (at_builtin; go_must (refine wp_appK rfl (.tmp 23) (.tmp 24) _ rfl base 31 i0 _ 5 40 Try.underlying27 hi0 hz0 hz1 hz2 rfl (by decide) _ n V rfl HO.out _ 1 _ U rfl HR.out (fun i _ => h1 i) HNM.out ?c2 hb ?_))
      case c2 => omega
      intro v5 w5 m5 g5 q5
      have M5 := Lib.hid (m5.ext (insK_end 5 n V U))
      clear m5
      go_wp2_with fail
      go_ret
      exact ⟨_, rfl, M5.out, g5, q5⟩
    · have hcn2 : ¬ c = n := fun e => hcn e.symm
      clear hcn
      go_enter Try.func30, Try.ntmps30
      go_wp2_with (at_builtin; go_must (refine wp_appK rfl (.tmp 23) (.tmp 24) _ rfl base 31 i0 _ 5 40 Try.underlying27 hi0 hz0 hz1 hz2 rfl (by decide) _ n V rfl HO.out _ 1 _ U rfl HR.out (fun i _ => h1 i) HNM.out ?c2 hb ?_))
      case c2 => omega
      intro v5 w5 m5 g5 q5
      have M5 := Lib.hid (m5.ext (insK_end 5 n V U))
      clear m5
      go_wp2_with fail
      go_ret
      exact ⟨_, rfl, M5.out, g5, q5⟩
/-- The cells of a row from struct i on; those of the new one. -/
def tail_ (k n i : Nat) (V : Nat → Value) : List Value := (List.range ((n - i) * k)).map (fun t => V (i * k + t))
theorem tail_len (k n i : Nat) (V : Nat → Value) : (tail_ k n i V).length = (n - i) * k := by simp [tail_]
theorem tail_get (k n i : Nat) (V : Nat → Value) (t : Nat) (ht : t < (n - i) * k) : (tail_ k n i V)[t]? = some (V (i * k + t)) := by simp [tail_, ht]
theorem tail_one (k n i : Nat) {V : Nat → Value} (h : ∀ q, (V q).oneCell' = true) : ∀ u ∈ tail_ k n i V, u.oneCell' = true := by
  intro u hu
  obtain ⟨t, _, rfl⟩ := List.mem_map.1 hu
  exact h _
set_option maxHeartbeats 2000000 in
/-- In the midst, with room: in place. -/
theorem ins_shift (base n i c g gb : Nat) (V U : Nat → Value) (us : Array Value) (w : World) (h : MineK w base 31 5 (.slice (some ⟨g, 0, none⟩) n c) n V) (hi : i < n) (hn : n ≤ 100000) (hroom : n + 1 ≤ c) (hu : Own w gb 31 us) (hus : us.size = 5) (hU : ∀ q, q < 5 → us[q]? = some (U q)) (h1 : ∀ q, (U q).oneCell' = true) (hV1 : ∀ q, (V q).oneCell' = true) (hg : gb ≠ g) :
    Calls Try.prog 30 #[.slice (some ⟨g, 0, none⟩) n c, .int .i64 (i : Nat), .slice (some ⟨gb, 0, none⟩) 1 1] w fun r w' => r = .returned (.slice (some ⟨g, 0, none⟩) (n + 1) c) ∧ MineK w' base 31 5 (.slice (some ⟨g, 0, none⟩) (n + 1) c) (n + 1) (insK 5 i V U) ∧ w.grownBy w' (some g) := by
  obtain ⟨i0, hi0, hz0, hz1, hz2⟩ := info_parts infoE
  obtain ⟨g', c', cs, hv, hgb, ho, hnc, hcm, hsz, hcv⟩ := h.block (by omega)
  injection hv with hv1 _ hv2
  injection hv1 with hv1
  injection hv1 with hv1
  subst hv1 hv2
  unfold maxLen at hcm
  have hB := blk_of ho hsz
  have hcg : ∀ q, q < n * 5 → cs.getD q undef = V q := fun q hq => by rw [Array.getD_eq_getD_getElem?, hcv q hq]; rfl
  have hB1 := Blk.puts (tail_ 5 n i V) ((i + 1) * 5) (Blk.drewN hB 1)
  have hJ1 := grown_setCells (grown_drew (w := w) (some g) 1) (.inl rfl) ((i + 1) * 5) (tail_ 5 n i V)
  have hc1 : ∀ ty dc sc, (Builtin.copy_ #[27, 27] ty #[.slice (some ⟨g, (i + 1) * 5, none⟩) (n - i) dc, .slice (some ⟨g, i * 5, none⟩) (n + 1 - i) sc]).run Try.prog w.drew = .ok (goInt ((n - i : Nat))) (w.drew.setCells g ((i + 1) * 5) (tail_ 5 n i V)) := fun ty dc sc =>
    run_copyK w.drew _ _ ty 31 5 g _ _ dc ⟨g, i * 5, none⟩ _ sc (n - i) (tail_ 5 n i V) Try.underlying27 (by rw [hi0]; simp [hz1]) (by simp only [Nat.min_def]; split <;> omega) (tail_len _ _ _ _)
      (fun t u ht => by
        have hlt : t < (n - i) * 5 := by
          have := (List.getElem?_eq_some_iff.1 ht).1
          rwa [tail_len] at this
        rw [tail_get _ _ _ _ _ hlt] at ht
        rw [Addr.add_lit]
        exact (ho.cell (i * 5 + t)).trans ((hcv _ (by omega)).trans ht))
      (Blk.there (Blk.drewN hB 1) (by rw [tail_len]; omega)) (tail_one _ _ _ hV1)
  obtain ⟨W1, hW1⟩ : ∃ W1, W1 = w.drew.setCells g ((i + 1) * 5) (tail_ 5 n i V) := ⟨_, rfl⟩
  have hu1 : Own W1 gb 31 us := by rw [hW1]; exact (Just.puts g _ _ _).own (Own.drewN hu 1) hg
  have hB1 : Blk W1 g 31 (c * 5) (putL (fun j => cs.getD j undef) ((i + 1) * 5) (tail_ 5 n i V)) := by rw [hW1]; exact hB1
  have hJ1 : w.grownBy W1 (some g) := by rw [hW1]; exact hJ1
  have hc1 : ∀ ty dc sc, (Builtin.copy_ #[27, 27] ty #[.slice (some ⟨g, (i + 1) * 5, none⟩) (n - i) dc, .slice (some ⟨g, i * 5, none⟩) (n + 1 - i) sc]).run Try.prog w.drew = .ok (goInt ((n - i : Nat))) W1 := by rw [hW1]; exact hc1
  have hB2 := Blk.puts (tail_ 5 1 0 U) (i * 5) hB1
  have hJ2 := grown_setCells hJ1 (.inl rfl) (i * 5) (tail_ 5 1 0 U)
  have hc2 : ∀ ty dc, (Builtin.copy_ #[27, 27] ty #[.slice (some ⟨g, i * 5, none⟩) (n + 1 - i) dc, .slice (some ⟨gb, 0, none⟩) 1 1]).run Try.prog W1 = .ok (goInt ((1 : Nat))) (W1.setCells g (i * 5) (tail_ 5 1 0 U)) := fun ty dc =>
    run_copyK W1 _ _ ty 31 5 g _ _ dc ⟨gb, 0, none⟩ 1 1 1 (tail_ 5 1 0 U) Try.underlying27 (by rw [hi0]; simp [hz1]) (by simp only [Nat.min_def]; split <;> omega) (tail_len _ _ _ _)
      (fun t u ht => by
        have hlt : t < (1 - 0) * 5 := by
          have := (List.getElem?_eq_some_iff.1 ht).1
          rwa [tail_len] at this
        rw [tail_get _ _ _ _ _ hlt] at ht
        rw [Addr.add_lit]
        exact (hu1.cell (0 + t)).trans ((congrArg _ (Nat.zero_add t)).trans ((hU t (by omega)).trans (by simpa using ht))))
      (Blk.there hB1 (by rw [tail_len]; omega)) (tail_one _ _ _ h1)
  obtain ⟨W2, hW2⟩ : ∃ W2, W2 = W1.setCells g (i * 5) (tail_ 5 1 0 U) := ⟨_, rfl⟩
  rw [← hW2] at hB2 hJ2 hc2
  have HM : Hid (MineK W2 base 31 5 (.slice (some ⟨g, 0, none⟩) (n + 1) c) (n + 1) (insK 5 i V U)) := Lib.hid (mineK_made hB2 hgb (by unfold maxLen; omega) (by omega) (fun q hq => by
    rw [putL_at, tail_len, putL_at, tail_len]
    unfold insK
    by_cases a1 : q < i * 5
    · rw [if_neg (by omega), if_neg (by omega), if_pos a1]
      exact hcg q (by omega)
    · by_cases a2 : q < i * 5 + 5
      · rw [if_pos (by omega), if_neg a1, if_pos a2, List.getD_eq_getElem?_getD, tail_get _ _ _ _ _ (by omega)]
        simp
      · rw [if_neg (by omega), if_neg a1, if_neg a2, if_pos (by omega), List.getD_eq_getElem?_getD, tail_get _ _ _ _ _ (by omega)]
        show V _ = V _
        congr 1
        omega))
  have hov : ∀ lb cb, (callFunc 41 #[.slice (some ⟨gb, 0, none⟩) 1 1, .slice (some ⟨g, (i + 1) * 5, none⟩) lb cb]).run Try.prog w = .ok (.value (.bool false)) w := fun lb cb => by
    rw [run_callFunc_extern Try.func41 (by kernel_rfl) (by kernel_rfl) (by kernel_rfl) (e := Extern.SlicesOverlaps.overlaps #[27, 27] #[4]) (by kernel_rfl),
      Lib.run_overlaps_apart w 27 4 31 Try.underlying27 5 sizeE ⟨gb, 0, none⟩ ⟨g, (i + 1) * 5, none⟩ 1 1 lb cb hg 31 31 us.size cs.size (shape_blk hu) (shape_blk ho) (by omega) (hu.free 0) (hu.free _)]
    rfl
  have hJ2h := Lib.hid hJ2
  have hne : ((i : Int) == (n : Int)) = false := by simp; omega
  have hne2 : (i == n) = false := by simp; omega
  have k1 : i ≤ n := by omega
  have k2 : i ≤ c := by omega
  have k3 : ¬ c = i := by omega
  have k4 : ¬ c = i + 1 := by omega
  have k5 : i + 1 ≤ n + 1 := by omega
  have k6 : i ≤ n + 1 := by omega
  have k7 : i + 1 ≤ c := by omega
  clear h hB hcg hB1 hJ1 hu1 hB2 hJ2 hW1 hW2 hcv hu ho hU hsz hus
  go_enter Try.func30, Try.ntmps30
  have w1 : IntKind.i64.wrap ((i : Int) + 1) = (i : Int) + 1 := IntWalk.i64_in _ (by omega)
  have w2 : (0 : Int) ≤ (i : Int) + 1 := by omega
  have w3 : (i : Int) + 1 ≤ (n : Int) + 1 := by omega
  have w4 : ((i : Int) + 1).toNat = i + 1 := by omega
  have w5 : (i : Int) ≤ (n : Int) + 1 := by omega
  go_wp2_with fail
  go_region_law (refine step_copy_is rfl (.tmp 73) (.tmp 76) 27 27 rfl (.slice (some ⟨g, (i + 1) * 5, none⟩) (n - i) (c - (i + 1))) (.slice (some ⟨g, i * 5, none⟩) (n + 1 - i) (c - i)) (by simp [Act.eval, Act.put]) (by simp [Act.eval, Act.put]) _ _ (hc1 _ _ _) ?_)
  go_wp2_with (with_reducible refine wp_copy_is W1 rfl (.tmp 80) (.tmp 81) _ _ rfl (.slice (some ⟨g, i * 5, none⟩) (n + 1 - i) (c - i)) (.slice (some ⟨gb, 0, none⟩) 1 1) rfl rfl _ _ (hc2 _ _) ?_)
  go_ret
  exact ⟨rfl, HM.out, hJ2h.out⟩
set_option maxHeartbeats 2000000 in
/-- In the midst, without room: a new row. -/
theorem ins_grow (base n i c g gb : Nat) (V U : Nat → Value) (us : Array Value) (w : World) (h : MineK w base 31 5 (.slice (some ⟨g, 0, none⟩) n c) n V) (hi : i < n) (hn : n ≤ 100000) (hroom : c < n + 1) (hb : base ≤ w.heap.size) (hu : Own w gb 31 us) (hU : ∀ q, q < 5 → us[q]? = some (U q)) (h1 : ∀ q, (U q).oneCell' = true) (hV1 : ∀ q, (V q).oneCell' = true) :
    Calls Try.prog 30 #[.slice (some ⟨g, 0, none⟩) n c, .int .i64 (i : Nat), .slice (some ⟨gb, 0, none⟩) 1 1] w fun r w' => ∃ v', r = .returned v' ∧ MineK w' base 31 5 v' (n + 1) (insK 5 i V U) ∧ w.grownBy w' (some g) ∧ v'.ownBlock = some w.heap.size := by
  obtain ⟨i0, hi0, hz0, hz1, hz2⟩ := info_parts infoE
  obtain ⟨g', c', cs, hv, hgb, ho, hnc, hcm, hsz, hcv⟩ := h.block (by omega)
  injection hv with hv1 _ hv2
  injection hv1 with hv1
  injection hv1 with hv1
  subst hv1 hv2
  unfold maxLen at hcm
  obtain ⟨H, hH⟩ : ∃ H, H = w.heap.size := ⟨_, rfl⟩
  have hgl := ho.lt
  have hgbl := hu.lt
  obtain ⟨gc, hgc⟩ : ∃ gc, gc = grownCap w (n + 1) c 31 := ⟨_, rfl⟩
  have hg1 : n + 1 ≤ gc := by rw [hgc]; exact grownCap_ge _ _ _ _
  have hg2 : gc ≤ maxLen := by rw [hgc]; exact grownCap_le_maxLen _ _ _ _ (by unfold maxLen; omega)
  obtain ⟨cs0, hcs0⟩ : ∃ cs0, cs0 = ((List.range (i * 5)).map V).toArray ++ Builtin.zeroCells (Value.agg #[.int .i64 0, .int .i64 0, .int .i64 0, .int .i64 0, .int .i64 0]).cells (n + 1 - i) ++ Builtin.zeroCells (Value.agg #[.int .i64 0, .int .i64 0, .int .i64 0, .int .i64 0, .int .i64 0]).cells (gc - (n + 1)) := ⟨_, rfl⟩
  have hs0 : cs0.size = gc * 5 := by
    rw [hcs0]
    simp only [Array.size_append, size_zeroCells, List.size_toArray, List.length_map, List.length_range]
    show i * 5 + (n + 1 - i) * 5 + (gc - (n + 1)) * 5 = gc * 5
    omega
  have hc0 : ∀ q, q < i * 5 → cs0.getD q undef = V q := fun q hq => by
    rw [hcs0, Array.getD_eq_getD_getElem?, Array.getElem?_append_left (by simp only [Array.size_append, List.size_toArray, List.length_map, List.length_range]; omega), Array.getElem?_append_left (by simpa using hq)]
    simp [hq]
  have hap : ∀ ty, (Builtin.append_ #[27, 3] ty #[.slice (some ⟨g, 0, none⟩) i c, .int .i64 ((n : Int) + 1 - (i : Int))]).run Try.prog w = .ok (.slice (some ⟨w.heap.size, 0, none⟩) (n + 1) gc) (w.drew.alloc (.cells cs0 31)) := fun ty => by
    have e := Lib.run_append_grow_zeros (P := Try.prog) w 27 3 ty 31 i0 _ .i64 .i64 Try.underlying27 Try.underlying3 hi0 hz0 (some ⟨g, 0, none⟩) i c ((List.range (i * 5)).map V) (by
      have hl := run_loadCells_list (P := Try.prog) w.drew ⟨g, 0, none⟩ ((List.range (i * 5)).map V) (fun t u ht => by
        have hlt : t < i * 5 := by
          have := (List.getElem?_eq_some_iff.1 ht).1
          simpa using this
        rw [Addr.add_lit]
        have hu' : u = V t := by simpa [hlt] using ht.symm
        subst hu'
        exact (ho.cell (0 + t)).trans ((congrArg _ (Nat.zero_add t)).trans (hcv _ (by omega))))
      simpa [Builtin.firstCells, hz1] using hl) (n + 1 - i) (by omega) (by omega) (by omega) (by omega) (by rw [hz2]; omega) (growslice_fits (by omega) (by rw [hz2]; omega))
    rw [show (n : Int) + 1 - (i : Int) = ((n + 1 - i : Nat) : Int) from by omega, e, show i + (n + 1 - i) = n + 1 from by omega, ← hgc, ← hcs0]
  have o0 : Own (w.drew.alloc (.cells cs0 31)) H 31 cs0 := by rw [hH]; exact Own.new w.drew 31 cs0
  have og : Own (w.drew.alloc (.cells cs0 31)) g 31 cs := (Own.drewN ho 1).alloc _
  have ou : Own (w.drew.alloc (.cells cs0 31)) gb 31 us := (Own.drewN hu 1).alloc _
  have J0 : w.grownBy (w.drew.alloc (.cells cs0 31)) (some g) := grown_alloc (grown_drew (some g) 1) _
  obtain ⟨W0, hW0⟩ : ∃ W0, W0 = w.drew.alloc (.cells cs0 31) := ⟨_, rfl⟩
  rw [← hW0] at o0 og ou J0 hap
  have B0 := blk_of o0 hs0
  have B1 := Blk.puts (tail_ 5 1 0 U) (i * 5) B0
  have J1 := grown_setCells J0 (.inr (by omega : w.heap.size ≤ H)) (i * 5) (tail_ 5 1 0 U)
  have og1 : Own (W0.setCells H (i * 5) (tail_ 5 1 0 U)) g 31 cs := (Just.puts H _ _ _).own og (by omega)
  have hc1 : ∀ ty dc, (Builtin.copy_ #[27, 27] ty #[.slice (some ⟨H, i * 5, none⟩) (n + 1 - i) dc, .slice (some ⟨gb, 0, none⟩) 1 1]).run Try.prog W0 = .ok (goInt ((1 : Nat))) (W0.setCells H (i * 5) (tail_ 5 1 0 U)) := fun ty dc =>
    run_copyK W0 _ _ ty 31 5 H _ _ dc ⟨gb, 0, none⟩ 1 1 1 (tail_ 5 1 0 U) Try.underlying27 (by rw [hi0]; simp [hz1]) (by simp only [Nat.min_def]; split <;> omega) (tail_len _ _ _ _)
      (fun t u ht => by
        have hlt : t < (1 - 0) * 5 := by
          have := (List.getElem?_eq_some_iff.1 ht).1
          rwa [tail_len] at this
        rw [tail_get _ _ _ _ _ hlt] at ht
        rw [Addr.add_lit]
        exact (ou.cell (0 + t)).trans ((congrArg _ (Nat.zero_add t)).trans ((hU t (by omega)).trans (by simpa using ht))))
      (Blk.there B0 (by rw [tail_len]; omega)) (tail_one _ _ _ h1)
  obtain ⟨W1, hW1⟩ : ∃ W1, W1 = W0.setCells H (i * 5) (tail_ 5 1 0 U) := ⟨_, rfl⟩
  rw [← hW1] at B1 J1 og1 hc1
  have B2 := Blk.puts (tail_ 5 n i V) ((i + 1) * 5) (Blk.drewN B1 1)
  have J2 := grown_setCells (grown_drewN J1 1) (.inr (by omega : w.heap.size ≤ H)) ((i + 1) * 5) (tail_ 5 n i V)
  have hc2 : ∀ ty dc sc, (Builtin.copy_ #[27, 27] ty #[.slice (some ⟨H, (i + 1) * 5, none⟩) (n - i) dc, .slice (some ⟨g, i * 5, none⟩) (n - i) sc]).run Try.prog W1.drew = .ok (goInt ((n - i : Nat))) (W1.drew.setCells H ((i + 1) * 5) (tail_ 5 n i V)) := fun ty dc sc =>
    run_copyK W1.drew _ _ ty 31 5 H _ _ dc ⟨g, i * 5, none⟩ _ sc (n - i) (tail_ 5 n i V) Try.underlying27 (by rw [hi0]; simp [hz1]) (by simp only [Nat.min_def]; split <;> omega) (tail_len _ _ _ _)
      (fun t u ht => by
        have hlt : t < (n - i) * 5 := by
          have := (List.getElem?_eq_some_iff.1 ht).1
          rwa [tail_len] at this
        rw [tail_get _ _ _ _ _ hlt] at ht
        rw [Addr.add_lit]
        exact (og1.cell (i * 5 + t)).trans ((hcv _ (by omega)).trans ht))
      (Blk.there (Blk.drewN B1 1) (by rw [tail_len]; omega)) (tail_one _ _ _ hV1)
  obtain ⟨W2, hW2⟩ : ∃ W2, W2 = W1.drew.setCells H ((i + 1) * 5) (tail_ 5 n i V) := ⟨_, rfl⟩
  have B2 : Blk W2 H 31 (gc * 5) (putL (putL (fun j => cs0.getD j undef) (i * 5) (tail_ 5 1 0 U)) ((i + 1) * 5) (tail_ 5 n i V)) := by rw [hW2]; exact B2
  have J2 : w.grownBy W2 (some g) := by rw [hW2]; exact J2
  have hc2 : ∀ ty dc sc, (Builtin.copy_ #[27, 27] ty #[.slice (some ⟨H, (i + 1) * 5, none⟩) (n - i) dc, .slice (some ⟨g, i * 5, none⟩) (n - i) sc]).run Try.prog W1.drew = .ok (goInt ((n - i : Nat))) W2 := by rw [hW2]; exact hc2
  have HM : Hid (MineK W2 base 31 5 (.slice (some ⟨H, 0, none⟩) (n + 1) gc) (n + 1) (insK 5 i V U)) := Lib.hid (mineK_made B2 (by omega) hg2 hg1 (fun q hq => by
    rw [putL_at, tail_len, putL_at, tail_len]
    unfold insK
    by_cases a1 : q < i * 5
    · rw [if_neg (by omega), if_neg (by omega), if_pos a1]
      exact hc0 q a1
    · by_cases a2 : q < i * 5 + 5
      · rw [if_neg (by omega), if_pos (by omega), if_neg a1, if_pos a2, List.getD_eq_getElem?_getD, tail_get _ _ _ _ _ (by omega)]
        simp
      · rw [if_pos (by omega), if_neg a1, if_neg a2, List.getD_eq_getElem?_getD, tail_get _ _ _ _ _ (by omega)]
        show V _ = V _
        congr 1
        omega))
  have hJ2h := Lib.hid J2
  have hap : ∀ ty, (Builtin.append_ #[27, 3] ty #[.slice (some ⟨g, 0, none⟩) i c, .int .i64 ((n : Int) + 1 - (i : Int))]).run Try.prog w = .ok (.slice (some ⟨H, 0, none⟩) (n + 1) gc) W0 := by rw [hH]; exact hap
  have HH := Lib.hid hH
  unfold maxLen at hg2
  have hne : ((i : Int) == (n : Int)) = false := by simp; omega
  have hne2 : (i == n) = false := by simp; omega
  have k1 : i ≤ n := by omega
  have k2 : i ≤ c := by omega
  have k3 : ¬ c = i := by omega
  have k4 : ¬ gc = i + 1 := by omega
  have k8 : ¬ gc = i := by omega
  have k5 : i + 1 ≤ n + 1 := by omega
  have k6 : i ≤ n + 1 := by omega
  have k7 : i + 1 ≤ gc := by omega
  have w1 : IntKind.i64.wrap ((i : Int) + 1) = (i : Int) + 1 := IntWalk.i64_in _ (by omega)
  have w2 : (0 : Int) ≤ (i : Int) + 1 := by omega
  have w3 : (i : Int) + 1 ≤ (n : Int) + 1 := by omega
  have w4 : ((i : Int) + 1).toNat = i + 1 := by omega
  have w5 : (i : Int) ≤ (n : Int) + 1 := by omega
  have hH2 : H = w.heap.size := hH
  clear h hcv hu ho hU hsz J0 J1 J2 B0 B1 B2 o0 og ou og1 hW0 hW1 hW2 hcs0 hs0 hc0 hgc hgl hgbl hH hH2
  go_enter Try.func30, Try.ntmps30
  go_wp2_with (first
    | (at_builtin; go_must (refine Lib.wpList_append_run w rfl (.tmp 34) (.tmp 39) _ _ rfl (.slice (some ⟨g, 0, none⟩) i c) (.int .i64 ((n : Int) + 1 - (i : Int))) rfl rfl _ _ (hap _) ?_))
    | (with_reducible refine wp_copy_is W0 rfl (.tmp 43) (.tmp 44) _ _ rfl (.slice (some ⟨H, i * 5, none⟩) (n + 1 - i) (gc - i)) (.slice (some ⟨gb, 0, none⟩) 1 1) rfl rfl _ _ (hc1 _ _) ?_))
  go_region_law (refine step_copy_is rfl (.tmp 50) (.tmp 53) 27 27 rfl (.slice (some ⟨H, (i + 1) * 5, none⟩) (n - i) (gc - (i + 1))) (.slice (some ⟨g, i * 5, none⟩) (n - i) (c - i)) (by simp [Act.eval, Act.put]) (by simp [Act.eval, Act.put]) _ _ (hc2 _ _ _) ?_)
  go_wp2_with fail
  go_ret
  exact ⟨_, rfl, HM.out, hJ2h.out, by rw [← HH.out]; rfl⟩
end Go.Proofs.Ytdknacbdkekfnaa.Ce
