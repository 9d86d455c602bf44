/-
  Package version (chapter 23): Waits, Commit; a book that there isn't.
-/
import Derived.Test.YtdpkiolngglpaaaVeBook
set_option maxRecDepth 100000
namespace Go.Proofs.Ytdpkiolngglpaaa.Ve
set_option linter.unusedVariables false
set_option linter.unusedSimpArgs false
open Go.RowKit Lb Cl Ce Mi

theorem just_of_below {w w' : World} (b : Nat) (h : Below w.heap.size w w') : Just b w w' := ⟨h.os, h.tape, h.output, h.size, fun k hk _ => h.block k hk⟩
theorem infoI : (Try.prog.info? 3).map (fun i => (i.zero, i.size, i.bytes)) = some (some (.int .i64 0), 1, 8) := by kernel_rfl
/-- Who of the first n has not prepared. -/
def waitL (n : Nat) (R : Nat → Bool) : List Nat := (List.range n).filter fun k => !R k
theorem waitL_yes {n : Nat} {R : Nat → Bool} (h : R n = false) : waitL (n + 1) R = waitL n R ++ [n] := by
  unfold waitL
  rw [List.range_succ, List.filter_append]
  simp [h]
theorem waitL_no {n : Nat} {R : Nat → Bool} (h : R n = true) : waitL (n + 1) R = waitL n R := by
  unfold waitL
  rw [List.range_succ, List.filter_append]
  simp [h]
theorem waitL_len (n : Nat) (R : Nat → Bool) : (waitL n R).length ≤ n := by
  unfold waitL
  exact Nat.le_trans (List.length_filter_le _ _) (by simp)
def wv (l : List Nat) (i : Nat) : Value := .int .i64 ((l.getD i 0 : Nat) : Int)
theorem wv_snoc (l : List Nat) (x i : Nat) (hi : i < l.length + 1) : (if i < l.length then wv l i else wv [x] (i - l.length)) = wv (l ++ [x]) i := by
  unfold wv
  by_cases h : i < l.length
  · rw [if_pos h, List.getD_eq_getElem?_getD, List.getD_eq_getElem?_getD, List.getElem?_append_left h]
  · obtain rfl : i = l.length := by omega
    rw [if_neg h]
    simp
theorem waits_no (b : Nat) (N v la : Int) (R : Nat → Bool) (now next : Option Nat) (Ln Lx : List (Int × List C)) (w : World) (h : Bk w b N v la false R now next Ln Lx) :
    Calls Try.prog 22 #[.pointer (some ⟨b, 0, none⟩)] w fun r w' => r = .returned (.slice none 0 0) ∧ w = w' := by
  have c3 := h.cells.2.2.2.1
  go_enter Try.func22, Try.ntmps22
  go_wp2_with fail
  go_ret
  exact ⟨rfl, rfl⟩
set_option maxHeartbeats 2000000 in
theorem waits_all (b n : Nat) (v la : Int) (R : Nat → Bool) (now next : Option Nat) (Ln Lx : List (Int × List C)) (w : World) (h : Bk w b n v la true R now next Ln Lx) (hn : n ≤ 16) :
    Calls Try.prog 22 #[.pointer (some ⟨b, 0, none⟩)] w fun r w' => ∃ a c, r = .returned (.slice a (waitL n R).length c) ∧ (waitL n R).length ≤ c ∧ c ≤ maxLen ∧ Row w' a (waitL n R).length (wv (waitL n R)) ∧ Below w.heap.size w w' := by
  obtain ⟨i0, hi0, hz0, hz1, hz2⟩ := info_parts infoI
  obtain ⟨c0, _, _, c3, _, _, _⟩ := h.cells
  have H := Lib.hid h
  clear h
  go_enter Try.func22, Try.ntmps22
  go_wp2_with fail
  clear c0 c3
  go_loopw [3, 18] (fun s i wr => ∃ k : Nat, i = .int .i64 k ∧ k ≤ n ∧ Mine wr w.heap.size 3 s (waitL k R).length (wv (waitL k R)) ∧ Below w.heap.size w wr) (fun _ i _ => n - (intOf i).toNat)
  case atStart => exact ⟨0, rfl, by omega, Mine.nil _ _ _ _, Below.refl _ _⟩
  case round =>
    obtain ⟨k, rfl, hk, m1, b1⟩ := hrel
    obtain ⟨a1, c1, rfl, hc1, hd1, hR1⟩ := m1.row
    have hl := waitL_len k R
    by_cases hlt : k < n
    · obtain ⟨_, _, _, _, _, _, cR⟩ := (H.out.below b1).cells
      have c4 := cR k (by omega)
      have hs1 := b1.size
      cases hRk : R k
      · rw [hRk] at c4
        have e1 := waitL_yes hRk
        obtain ⟨l, hle⟩ : ∃ l, waitL k R = l := ⟨_, rfl⟩
        rw [hle] at m1 hl e1 hc1 ⊢
        have HE := Lib.hid e1
        have HGE : Hid (∀ q', (Value.slice a1 l.length c1).ownBlock = some q' → w.heap.size ≤ q') := Lib.hid (fun q' e => (m1.lt q' e).1)
        have HNM := Lib.hid (show l.length + 1 ≤ maxLen by unfold maxLen; omega)
        have m2 := m1.alloc (.cells #[.int .i64 (k : Nat)] 3)
        have hr2 := row_new (n := 1) (V := wv [k]) wr #[.int .i64 (k : Nat)] 3 (0, 0) (fun i hi => by obtain rfl : i = 0 := (by omega); rfl)
        clear hle e1 hR1 m1 hRk
        go_wp2_with (at_builtin; go_must (refine wp_app_at rfl (.tmp 28) (.tmp 30) _ rfl w.heap.size 3 i0 _ 8 Try.underlying49 hi0 hz0 hz1 hz2 rfl _ l.length _ rfl m2 _ 1 _ (wv [k]) rfl hr2 (fun _ _ => rfl) HNM.out ?c2 ?c3 ?_))
        case c2 => omega
        case c3 => simp; omega
        intro v6 w6 m6 g6 q6
        have b6 : Below w.heap.size w w6 := (b1.alloc hs1 (.cells #[.int .i64 (k : Nat)] 3)).grown g6 (by simp; omega) (fun q e => HGE.out q e)
        have m7 : Mine w6 w.heap.size 3 v6 (waitL (k + 1) R).length (wv (waitL (k + 1) R)) := by
          rw [HE.out, List.length_append, List.length_singleton]
          exact m6.ext (fun i hi => wv_snoc l k i hi)
        clear m6 g6 q6 m2 hr2 b1
        obtain ⟨a6, c6, rfl, _, _, _⟩ := m7.row
        go_wp2_with fail
        exact ⟨⟨k + 1, by simp, by omega, m7, b6⟩, by simp [intOf]; omega⟩
      · rw [hRk] at c4
        have e1 := waitL_no hRk
        have HE := Lib.hid e1
        clear e1 hRk
        go_wp2_with fail
        exact ⟨⟨k + 1, by simp, by omega, by rw [HE.out]; exact m1, b1⟩, by simp [intOf]; omega⟩
    · obtain rfl : k = n := by omega
      have g6 : decide ((k : Int) < (k : Int)) = false := by simp
      go_wp2_with fail
      go_ret
      exact ⟨a1, c1, rfl, hc1, hd1, hR1, b1⟩
theorem waits_any (b n : Nat) (v la : Int) (R : Nat → Bool) (now next : Option Nat) (Ln Lx : List (Int × List C)) (w : World) (h : Bk w b n v la true R now next Ln Lx) (hn : n ≤ 16) :
    Calls Try.prog 22 #[.pointer (some ⟨b, 0, none⟩)] w fun r w' => ∃ a c, r = .returned (.slice a (waitL n R).length c) ∧ Row w' a (waitL n R).length (wv (waitL n R)) ∧ Below w.heap.size w w' :=
  (waits_all b n v la R now next Ln Lx w h hn).mono (by
    rintro r w' ⟨a, c, h1, _, _, h2, h3⟩
    exact ⟨a, c, h1, h2, h3⟩)
theorem commit_none (b : Nat) (N v la : Int) (R : Nat → Bool) (now next : Option Nat) (Ln Lx : List (Int × List C)) (w : World) (h : Bk w b N v la false R now next Ln Lx) :
    Calls Try.prog 16 #[.pointer (some ⟨b, 0, none⟩)] w fun r w' => r = .returned (.int .i64 7) ∧ w = w' := by
  have c3 := h.cells.2.2.2.1
  go_enter Try.func16, Try.ntmps16
  go_wp2_with fail
  go_ret
  exact ⟨rfl, rfl⟩
theorem commit_no (b n : Nat) (v la : Int) (R : Nat → Bool) (now next : Option Nat) (Ln Lx : List (Int × List C)) (w : World) (h : Bk w b n v la true R now next Ln Lx) (hn : n ≤ 16) (hw : 0 < (waitL n R).length) :
    Calls Try.prog 16 #[.pointer (some ⟨b, 0, none⟩)] w fun r w' => r = .returned (.int .i64 7) ∧ Below w.heap.size w w' := by
  have c3 := h.cells.2.2.2.1
  go_enter Try.func16, Try.ntmps16
  go_wp2_with fail
  refine (waits_any b n v la R now next Ln Lx w h hn).mono ?_
  rintro r w1 ⟨a, c, rfl, _, b1⟩
  obtain ⟨m, hm⟩ : ∃ m, (waitL n R).length = m := ⟨_, rfl⟩
  rw [hm] at hw ⊢
  have g1 : decide ((0 : Int) < (m : Int)) = true := by simp; omega
  clear hm
  go_wp2_with fail
  go_ret
  exact ⟨rfl, b1⟩
theorem commit_yes (b n : Nat) (v la : Int) (R : Nat → Bool) (now next : Option Nat) (Ln Lx : List (Int × List C)) (w : World) (h : Bk w b n v la true R now next Ln Lx) (hn : n ≤ 16) (hw : (waitL n R).length = 0) :
    Calls Try.prog 16 #[.pointer (some ⟨b, 0, none⟩)] w fun r w' => r = .returned (.int .i64 0) ∧ Bk w' b n la la false R next none Lx [] ∧ Just b w w' := by
  have c3 := h.cells.2.2.2.1
  go_enter Try.func16, Try.ntmps16
  go_wp2_with fail
  refine (waits_any b n v la R now next Ln Lx w h hn).mono ?_
  rintro r w1 ⟨a, c, rfl, _, b1⟩
  rw [hw]
  have h1 := h.below b1
  obtain ⟨c0, c1, c2, c3, c20, c21, cR⟩ := h1.cells
  have f1 : w1.frozen? ⟨b, 1, none⟩ = false := h1.blk.free 1
  have f3 : w1.frozen? ⟨b, 3, none⟩ = false := h1.blk.free 3
  have f20 : w1.frozen? ⟨b, 20, none⟩ = false := h1.blk.free 20
  have f21 : w1.frozen? ⟨b, 21, none⟩ = false := h1.blk.free 21
  clear h
  go_wp2_with fail
  go_ret
  have j : ∀ u1 u2 u3 u4, Just b w1 ((((w1.setCell ⟨b, 20, none⟩ u1).setCell ⟨b, 21, none⟩ u2).setCell ⟨b, 1, none⟩ u3).setCell ⟨b, 3, none⟩ u4) := fun u1 u2 u3 u4 => (((Just.set b w1 20 u1).put 21 u2).put 1 u3).put 3 u4
  refine ⟨rfl, ⟨((((h1.blk.put 20 (.map next)).put 21 (.map none)).put 1 (.int .i64 la)).put 3 (.bool false)).ext (fun i hi => ?_), h1.next.just (j _ _ _ _) (by omega), .inl ⟨rfl, rfl⟩⟩, (just_of_below b b1).trans (j _ _ _ _)⟩
  rcases idx22 i hi with rfl | rfl | rfl | rfl | rfl | rfl | rfl | rfl | rfl | rfl | rfl | rfl | rfl | rfl | rfl | rfl | rfl | rfl | rfl | rfl | rfl | rfl <;> rfl
end Go.Proofs.Ytdpkiolngglpaaa.Ve
