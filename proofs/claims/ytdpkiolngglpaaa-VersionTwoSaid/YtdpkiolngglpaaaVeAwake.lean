/-
  Package version (chapter 23): Cells; the law's awake; a book, a plan that there isn't.
-/
import Derived.Test.YtdpkiolngglpaaaVeBeg2
set_option maxRecDepth 100000
namespace Go.Proofs.Ytdpkiolngglpaaa.Ve
set_option linter.unusedVariables false
set_option linter.unusedSimpArgs false
open Go.RowKit Lb Cl Ce Mi Al

theorem MapL.src {w : World} {lo bm b : Nat} {L : List (Int × List C)} (h : MapL w lo bm L) (hb : b < lo) : Src w b (some bm) L := by
  obtain ⟨h0, vs, h1, h2⟩ := h
  refine .inr ⟨bm, ents L vs, L.length, fun e => L.getD e.born (0, []), rfl, ents_map L vs, fun w' j => ⟨(j.block bm (iter_lt h1) (by omega)).trans h1, fun x hx => (ents_mem hx).1, ents_nd L vs, fun x hx => ?_, fun x hx => ?_⟩⟩
  · obtain ⟨_, e⟩ := ents_mem hx
    have : x.key = .int .i64 (keyN L x.born) := by rw [e]
    exact this
  · obtain ⟨h3, e⟩ := ents_mem hx
    obtain ⟨a, c, h4, h5, h6, h7⟩ := (Rv.just (h2 x.born h3) j hb).row
    have : x.val = vs x.born := by rw [e]
    exact ⟨a, c, by rw [this]; exact h4, h5, h6, h7⟩
theorem look_nil (k : Int) (w : World) : (Instr.lookup 32 (.map none) (.int .i64 k) false).run Try.prog w = .ok (.slice none 0 0) w := by
  have hf : Instr.findNow (.int .i64) (.int .i64 k) ([] : List MapEntry) 0 = some none := rfl
  have hc : ∀ e, (Instr.checkKey e 10000 3 (.int .i64 k)).run Try.prog w = .ok () w := fun e => MapKept.run_checkKey und_i (by simp [MapKept.IsKey]) e 9999
  have hz : (zeroValue 33).run Try.prog w = .ok (.slice none 0 0) w := by kernel_rfl
  simp [Instr.lookup, run_underlying und_m, hc, MapKept.run_findKey und_i hf, hz, Result.andThen]
theorem cells_at (b : Nat) (N v la : Int) (g : Bool) (R : Nat → Bool) (bm : Nat) (next : Option Nat) (Ln Lx : List (Int × List C)) (k : Int) (j : Nat) (w : World) (h : Bk w b N v la g R (some bm) next Ln Lx) (hj : j < Ln.length) (hk : keyN Ln j = k) (hn : ∀ i, i < j → keyN Ln i ≠ k) (hl : (rowN Ln j).length ≤ 100000) :
    Calls Try.prog 25 #[.pointer (some ⟨b, 0, none⟩), .int .i64 k] w fun r w' => ∃ a c, r = .returned (.slice a (rowN Ln j).length c) ∧ Row w' a ((rowN Ln j).length * 5) (lv (rowN Ln j)) ∧ Below w.heap.size w w' := by
  have c20 := h.cells.2.2.2.2.1
  have hm : MapL w (b + 1) bm Ln := by
    rcases h.now with ⟨e, _⟩ | ⟨q, e, hm⟩
    · cases e
    · injection e with e
      subst e
      exact hm
  obtain ⟨rv, hlook, hrv⟩ := look_at hm hj hk hn
  obtain ⟨a, c, rfl, h1, h2, hrow⟩ := hrv.row
  go_enter Try.func25, Try.ntmps25
  go_wp2_with fail
  refine (clo_any a (rowN Ln j).length c (rowN Ln j) w hrow hl).mono ?_
  rintro r w1 ⟨va, rfl, m1, b1⟩
  obtain ⟨a1, c1, rfl, _, _, hr1⟩ := m1.row
  go_wp2_with fail
  go_ret
  exact ⟨a1, c1, rfl, hr1, b1⟩
theorem one_srt (c : C) : srtC [c] = [c] := by
  unfold srtC
  exact List.mergeSort_singleton c
theorem one_begin : begE 1 0 [(0, [(⟨0, 3, 0, 2, 64⟩ : C)])] = 0 := by
  have h1 : fitB 1 [(0, [(⟨0, 3, 0, 2, 64⟩ : C)])] = true := by decide
  have h2 : clB [(0, [(⟨0, 3, 0, 2, 64⟩ : C)])] = true := by
    have h : NoC (allO [(0, [(⟨0, 3, 0, 2, 64⟩ : C)])]) := List.pairwise_singleton _ _
    have e : decide (NoC (allO [(0, [(⟨0, 3, 0, 2, 64⟩ : C)])])) = true := decide_eq_true h
    unfold clB
    rw [Bool.and_eq_true]
    exact ⟨by decide, e⟩
  unfold begE
  rw [h1, h2]
  decide
set_option maxHeartbeats 2000000 in
theorem awake_any (w : World) : Calls Try.prog 8 #[] w fun r w' => r = .returned (.bool true) ∧ Below w.heap.size w w' := by
  go_enter Try.func8, Try.ntmps8
  go_wp2_with fail
  refine (new_any 1 w).mono ?_
  rintro r w1 ⟨b, rfl, hwb, h1, b1⟩
  rw [show min (max (1 : Int) 1) 16 = 1 by decide] at h1
  obtain ⟨g, hg⟩ : ∃ g, w1.heap.size = g := ⟨_, rfl⟩
  have hbg : b < g := hg ▸ h1.blk.lt
  have rm : (Instr.makeMap 32 none).run Try.prog w1 = .ok (.map (some g)) (w1.alloc (.map #[] 0)) := by rw [← hg]; rfl
  have z2 : (w1.alloc (.map #[] 0)).heap.size = g + 1 := by simp [hg]
  have m2 : MapL (w1.alloc (.map #[] 0)) (b + 1) g [] := ⟨hbg, fun _ => undef, by rw [← hg]; exact heap_alloc_new w1 _, fun i hi => absurd hi (by simp)⟩
  have hr := row_new (n := 1 * 5) (V := lv [⟨0, 3, 0, 2, 64⟩]) (w1.alloc (.map #[] 0)) #[.int .i64 0, .int .i64 3, .int .i64 0, .int .i64 2, .int .i64 64] 69 (0, 0) (fun i hi => by rcases (show i = 0 ∨ i = 1 ∨ i = 2 ∨ i = 3 ∨ i = 4 by omega) with rfl | rfl | rfl | rfl | rfl <;> rfl)
  rw [z2] at hr
  have m3 := m2.below ((Below.refl (w1.alloc (.map #[] 0)).heap.size (w1.alloc (.map #[] 0))).alloc (Nat.le_refl _) (.cells #[.int .i64 0, .int .i64 3, .int .i64 0, .int .i64 2, .int .i64 64] 69))
  have h3 := h1.below (((Below.refl w1.heap.size w1).alloc (Nat.le_refl _) (.map #[] 0)).alloc (by simp) (.cells #[.int .i64 0, .int .i64 3, .int .i64 0, .int .i64 2, .int .i64 64] 69))
  have b3 := (b1.alloc b1.size (.map #[] 0)).alloc (by have := b1.size; simp; omega) (.cells #[.int .i64 0, .int .i64 3, .int .i64 0, .int .i64 2, .int .i64 64] 69)
  obtain ⟨w4, hput, j4, s4, m4⟩ := put_new (k := 0) (l := [⟨0, 3, 0, 2, 64⟩]) m3 (fun i hi => absurd hi (by simp)) (v := .slice (some ⟨g + 1, 0, none⟩) 1 1) ⟨_, _, rfl, Nat.le_refl 1, by decide, hr, fun _ q e => by injection e with e; subst e; show b + 1 ≤ g + 1; omega⟩
  have h4 : Bk w4 b 1 0 0 false (fun _ => false) none none [] [] := ⟨j4.blk h3.blk (by omega), .inl ⟨rfl, rfl⟩, .inl ⟨rfl, rfl⟩⟩
  have b4 : Below w.heap.size w w4 := j4.below b3 (by have := b1.size; omega) b3.size
  have hsrc := MapL.src (b := b) m4 (by omega)
  clear m2 m3 h3 b3 j4 m4 hr z2 h1 b1 s4
  go_wp2_with fail
  refine (begin_yes b 1 0 0 _ none none (some g) [] [] _ w4 h4 hsrc (by decide) (by simp) (fun e he => by
    have he : e ∈ [((0 : Int), [(⟨0, 3, 0, 2, 64⟩ : C)])] := he
    rw [List.mem_singleton] at he
    subst he
    decide) (by decide) one_begin).mono ?_
  rintro r w5 ⟨rfl, j5, x, Lx', h5, hp⟩
  have hLx : Lx' = [(0, [⟨0, 3, 0, 2, 64⟩])] := by
    have : [((0 : Int), [(⟨0, 3, 0, 2, 64⟩ : C)])].map conv = [(0, [⟨0, 3, 0, 2, 64⟩])] := by
      show [((0 : Int), srtC [(⟨0, 3, 0, 2, 64⟩ : C)])] = _
      rw [one_srt]
    have hp : Lx'.Perm ([((0 : Int), [(⟨0, 3, 0, 2, 64⟩ : C)])].map conv) := hp
    rw [this] at hp
    exact List.perm_singleton.1 hp
  subst hLx
  have b5 := j5.below b4 hwb b4.size
  clear h4 hsrc hp j5 b4 hput rm
  rw [show (0 : Int) + 1 = 1 from rfl] at h5 ⊢
  go_wp2_with fail
  refine (ready_yes b 1 0 1 _ none x [] _ 0 w5 h5 (by decide) (by decide) rfl).mono ?_
  rintro r w6 ⟨rfl, h6, j6⟩
  have b6 := j6.below b5 hwb b5.size
  clear h5 j6 b5
  go_wp2_with fail
  refine (commit_yes b 1 0 1 _ none x [] _ w6 h6 (by decide) (by decide)).mono ?_
  rintro r w7 ⟨rfl, h7, j7⟩
  have b7 := j7.below b6 hwb b6.size
  clear h6 j7 b6
  go_wp2_with fail
  refine (version_any b _ 1 1 _ _ x none _ [] w7 h7).mono ?_
  rintro r w' ⟨rfl, rfl⟩
  obtain ⟨y, rfl⟩ : ∃ y, x = some y := by
    rcases h7.now with ⟨_, e⟩ | ⟨y, e, _⟩
    · cases e
    · exact ⟨y, e⟩
  go_wp2_with fail
  refine (cells_at b _ 1 1 _ _ y none _ [] 0 0 w7 h7 (by decide) rfl (fun i hi => by omega) (by decide)).mono ?_
  rintro r w8 ⟨a8, c8, rfl, _, b8⟩
  rw [show (rowN [((0 : Int), [(⟨0, 3, 0, 2, 64⟩ : C)])] 0).length = 1 from rfl]
  go_wp2_with fail
  go_ret
  exact ⟨rfl, b7.trans (b8.mono b7.size)⟩
end Go.Proofs.Ytdpkiolngglpaaa.Ve
