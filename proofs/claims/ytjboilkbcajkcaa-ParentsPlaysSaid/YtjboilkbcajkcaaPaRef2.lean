/-
  Package parents: the reference's set: Node, New, First, RankOf, All.
-/
import Derived.Test.YtjboilkbcajkcaaPaRef
set_option maxRecDepth 100000
namespace Go.Proofs.Ytjboilkbcajkcaa.Pa
set_option linter.unusedVariables false
open Go.RowKit Lb Go.Shelf

theorem rnode_any (x : Int) (w : World) : Calls Try.prog 27 #[.int .i64 x] w fun r w' => r = .returned (.bool (ndB x)) ∧ w = w' := by
  by_cases h1 : 0 ≤ x
  · have g1 : decide (0 ≤ x) = true := by simpa using h1
    by_cases h2 : x < 16
    · have g2 : decide (x < 16) = true := by simpa using h2
      have HB : Hid (ndB x = true) := Lib.hid (by simp [ndB, h1, h2])
      clear h1 h2
      go_enter Try.func27, Try.ntmps27
      go_wp2_with fail
      go_ret
      exact ⟨by rw [HB.out]; rfl, rfl⟩
    · have g2 : decide (x < 16) = false := by simpa using h2
      have HB : Hid (ndB x = false) := Lib.hid (by simp [ndB, h2])
      clear h1 h2
      go_enter Try.func27, Try.ntmps27
      go_wp2_with fail
      go_ret
      exact ⟨by rw [HB.out]; rfl, rfl⟩
  · have g1 : decide (0 ≤ x) = false := by simpa using h1
    have HB : Hid (ndB x = false) := Lib.hid (by simp [ndB, h1])
    clear h1
    go_enter Try.func27, Try.ntmps27
    go_wp2_with fail
    go_ret
    exact ⟨by rw [HB.out]; rfl, rfl⟩
theorem rnew_yes (me rk : Int) (w : World) (h1 : ndB me = true) (h2 : rkB rk = true) :
    Calls Try.prog 10 #[.int .i64 me, .int .i64 rk] w fun r w' => r = .returned (.pointer (some ⟨w.heap.size, 0, none⟩)) ∧ Rs w' w.heap.size w.heap.size me rk [] (.slice none 0 0) ∧ Below w.heap.size w w' := by
  have hr : 0 ≤ rk ∧ rk ≤ 255 := by simpa [rkB] using h2
  have g1 : decide (rk < 0) = false := by simpa using hr.1
  have g2 : decide (255 < rk) = false := by simpa using hr.2
  have hn := rnode_any me w
  rw [h1] at hn
  clear hr h1 h2
  go_enter Try.func10, Try.ntmps10
  go_wp2_with (go_at_call 27; refine hn.mono ?_; rintro r w' ⟨rfl, rfl⟩)
  go_ret
  exact ⟨rfl, ⟨Own.new w _ _, MineK.nil _ _ _ _ _, by simp, Nat.le_refl _⟩, (Below.refl w.heap.size w).alloc (Nat.le_refl _) _⟩
theorem rnew_no (me rk : Int) (w : World) (h : ndB me = false ∨ (ndB me = true ∧ rkB rk = false)) :
    Calls Try.prog 10 #[.int .i64 me, .int .i64 rk] w fun r w' => r = .returned (.pointer none) ∧ w = w' := by
  have hn := rnode_any me w
  rcases h with h | ⟨h1, h2⟩
  · rw [h] at hn
    go_enter Try.func10, Try.ntmps10
    go_wp2_with (go_at_call 27; refine hn.mono ?_; rintro r w' ⟨rfl, rfl⟩)
    go_ret
    exact ⟨rfl, rfl⟩
  · rw [h1] at hn
    have hr : rk < 0 ∨ 255 < rk := by
      simp [rkB] at h2
      omega
    by_cases h3 : rk < 0
    · have g1 : decide (rk < 0) = true := by simpa using h3
      clear h1 h2 hr h3
      go_enter Try.func10, Try.ntmps10
      go_wp2_with (go_at_call 27; refine hn.mono ?_; rintro r w' ⟨rfl, rfl⟩)
      go_ret
      exact ⟨rfl, rfl⟩
    · have g1 : decide (rk < 0) = false := by simpa using h3
      have g2 : decide (255 < rk) = true := by simp; omega
      clear h1 h2 hr h3
      go_enter Try.func10, Try.ntmps10
      go_wp2_with (go_at_call 27; refine hn.mono ?_; rintro r w' ⟨rfl, rfl⟩)
      go_ret
      exact ⟨rfl, rfl⟩
theorem rfst_any (base b : Nat) (me rk : Int) (l : List P) (v : Value) (w : World) (t : Rs w base b me rk l v) :
    Calls Try.prog 18 #[.pointer (some ⟨b, 0, none⟩)] w fun r w' => r = .returned (.tuple #[.int .i64 (fstN l), .bool (decide (0 < l.length))]) ∧ w = w' := by
  have c2 : w.cell? ⟨b, 2, none⟩ = some v := t.own.cell 2
  obtain ⟨A, c, rfl, hc1, hc2, hR⟩ := t.row.row
  by_cases h0 : l.length = 0
  · have HD : Hid (fstN l = 0) := Lib.hid (by unfold fstN; rw [if_pos h0])
    have HE : Hid (decide (0 < l.length) = false) := Lib.hid (by rw [h0]; rfl)
    rw [h0] at c2
    clear hR hc1 hc2 t
    go_enter Try.func18, Try.ntmps18
    go_wp2_with fail
    go_ret2
    exact ⟨by rw [HD.out, HE.out]; rfl, rfl⟩
  · obtain ⟨bo, off, rfl, hbo, d0, d1, d2⟩ := prow hR (Below.refl _ _) (show 0 < l.length by omega)
    have d0 : w.cell? ⟨bo, off, none⟩ = some (.int .i64 (at_ l 0).n) := by rw [Nat.zero_mul, Nat.add_zero] at d0; exact d0
    have HD : Hid (fstN l = (at_ l 0).n) := Lib.hid (by unfold fstN; rw [if_neg h0])
    have HE : Hid (decide (0 < l.length) = true) := Lib.hid (by simp; omega)
    obtain ⟨n, hn⟩ : ∃ n, l.length = n := ⟨_, rfl⟩
    rw [hn] at h0 c2 hc1 HE ⊢
    have g1 : ((n : Int) == 0) = false := by simp; omega
    have g2 : 0 < n := by omega
    generalize (at_ l 0).n = x at *
    clear hR hc2 t d1 d2 hn h0
    go_enter Try.func18, Try.ntmps18
    go_wp2_with fail
    go_ret2
    exact ⟨by rw [HD.out, HE.out]; rfl, rfl⟩
theorem rrko_any (base b : Nat) (me rk : Int) (l : List P) (v : Value) (x : Int) (w : World) (t : Rs w base b me rk l v) :
    Calls Try.prog 20 #[.pointer (some ⟨b, 0, none⟩), .int .i64 x] w fun r w' => r = .returned (.tuple #[.int .i64 (rkoP l x).1, .bool (rkoP l x).2]) ∧ Below w.heap.size w w' := by
  have c2 : w.cell? ⟨b, 2, none⟩ = some v := t.own.cell 2
  obtain ⟨A, c, rfl, hc1, hc2, hR⟩ := t.row.row
  unfold maxLen at hc2
  have hfew := t.few
  have HR := Lib.hid hR
  obtain ⟨m, hm⟩ : ∃ m, l.length = m := ⟨_, rfl⟩
  have HL := Lib.hid hm
  rw [hm] at c2 hc1 hfew HR
  clear t hR hm
  go_enter Try.func20, Try.ntmps20
  go_wp2_with fail
  go_loopw [13] (fun i wr => ∃ k : Nat, i = .int .i64 k ∧ k ≤ m ∧ Hid (∀ j, j < k → ((at_ l j).n == x) = false) ∧ Below w.heap.size w wr) (fun i _ => m - (intOf i).toNat)
  case atStart => exact ⟨0, rfl, by omega, Lib.hid (fun j hj => by omega), Below.refl _ _⟩
  case round =>
    obtain ⟨k, rfl, hk, HN, b1⟩ := hrel
    by_cases hlt : k < m
    · obtain ⟨bo, off, rfl, hbo, d0, d1, d2⟩ := prow HR.out b1 hlt
      obtain ⟨y, hy⟩ : ∃ y, at_ l k = y := ⟨_, rfl⟩
      have HY := Lib.hid hy
      rw [hy] at d0 d1 d2
      clear hy
      have b2 := b1.alloc b1.size (.cells #[.int .i64 y.n, .int .i64 y.r, .int .i64 y.h] 61)
      obtain ⟨e, he⟩ : ∃ e, (y.n == x) = e := ⟨_, rfl⟩
      have HE := Lib.hid he
      cases e
      · have HN2 : Hid (∀ j, j < k + 1 → ((at_ l j).n == x) = false) := Lib.hid (fun j hj => by
          by_cases e : j = k
          · subst e; rw [HY.out]; exact HE.out
          · exact HN.out j (by omega))
        go_wp2_with fail
        exact ⟨⟨k + 1, by simp, by omega, HN2, b2⟩, by simp [intOf]; omega⟩
      · have HD : Hid (rkoP l x = (y.r, true)) := Lib.hid (by
          rw [rko_at (by rw [HL.out]; exact hlt) HN.out (by rw [HY.out]; exact HE.out), HY.out])
        go_wp2_with fail
        go_ret2
        exact ⟨by rw [HD.out]; rfl, b2⟩
    · have HD : Hid (rkoP l x = (0, false)) := Lib.hid (rko_no (fun j hj => HN.out j (by rw [HL.out] at hj; omega)))
      go_wp2_with fail
      go_ret2
      exact ⟨by rw [HD.out]; rfl, b1⟩
theorem nov_snoc' (l : List P) (k q : Nat) (hk : k < l.length) (hq : q < k + 1) : (if q < k then nov l q else .int .i64 (at_ l k).n) = nov l q := by
  unfold nov
  by_cases h : q < k
  · rw [if_pos h]
  · obtain rfl : q = k := by omega
    rw [if_neg h]
set_option maxHeartbeats 1000000 in
theorem rall_any (base b : Nat) (me rk : Int) (l : List P) (v : Value) (w : World) (t : Rs w base b me rk l v) :
    Calls Try.prog 22 #[.pointer (some ⟨b, 0, none⟩)] w fun r w' => ∃ a c, r = .returned (.slice a l.length c) ∧ l.length ≤ c ∧ c ≤ maxLen ∧ Row w' a l.length (nov l) ∧ Below w.heap.size w w' := by
  have c2 : w.cell? ⟨b, 2, none⟩ = some v := t.own.cell 2
  obtain ⟨A, c, rfl, hc1, hc2, hR⟩ := t.row.row
  unfold maxLen at hc2
  have hfew := t.few
  have HR := Lib.hid hR
  obtain ⟨i0, hi0, hz0, hz1, hz2⟩ := info_parts infoI
  obtain ⟨m, hm⟩ : ∃ m, l.length = m := ⟨_, rfl⟩
  have HL := Lib.hid hm
  rw [hm] at c2 hc1 hfew HR
  clear t hR hm
  go_enter Try.func22, Try.ntmps22
  go_wp2_with fail
  go_loopw [11, 3] (fun i u wr => ∃ k : Nat, i = .int .i64 k ∧ k ≤ m ∧ Mine wr w.heap.size 3 u k (nov l) ∧ Below w.heap.size w wr) (fun i _ _ => m - (intOf i).toNat)
  case atStart => exact ⟨0, rfl, by omega, Mine.nil _ _ _ _, Below.refl _ _⟩
  case round =>
    obtain ⟨k, rfl, hk, hW, b1⟩ := hrel
    by_cases hlt2 : k < m
    · obtain ⟨bo, off, rfl, hbo, d0, d1, d2⟩ := prow HR.out b1 hlt2
      obtain ⟨x, hx⟩ : ∃ x, at_ l k = x := ⟨_, rfl⟩
      have HX := Lib.hid hx
      rw [hx] at d0 d1 d2
      have ob := Own.new wr 61 #[.int .i64 x.n, .int .i64 x.r, .int .i64 x.h]
      have b2 := b1.alloc b1.size (.cells #[.int .i64 x.n, .int .i64 x.r, .int .i64 x.h] 61)
      have hW2 := hW.alloc (.cells #[.int .i64 x.n, .int .i64 x.r, .int .i64 x.h] 61)
      have hbs := b1.size
      clear hx hW
      go_upto_region 5 with (fail)
      have hsz : wr.heap.size < (wr.alloc (.cells #[.int .i64 x.n, .int .i64 x.r, .int .i64 x.h] 61)).heap.size := by simp
      generalize wr.alloc (.cells #[.int .i64 x.n, .int .i64 x.r, .int .i64 x.h] 61) = w2 at *
      obtain ⟨g, hg⟩ : ∃ g, wr.heap.size = g := ⟨_, rfl⟩
      rw [hg] at ob hsz hbs ⊢
      clear hg d0 d1 d2
      have d0 : w2.cell? ⟨g, 0, none⟩ = some (.int .i64 x.n) := ob.cell 0
      have HR1 := Lib.hid (row_new (n := 1) (V := fun _ => .int .i64 x.n) w2 #[.int .i64 x.n] 3 (0, 0) (fun i hi => by obtain rfl : i = 0 := (by omega); rfl))
      have b3 := b2.alloc b2.size (.cells #[.int .i64 x.n] 3)
      have hbs3 := b3.size
      go_wp2_with (at_builtin; go_must (refine wp_app rfl (.tmp 15) (.tmp 18) _ rfl w.heap.size 3 i0 _ 8 Try.underlying31 hi0 hz0 hz1 hz2 rfl u3 k (nov l) rfl (hW2.alloc _) _ 1 _ (fun _ => .int .i64 x.n) rfl HR1.out (fun _ _ => rfl) ?c1 ?c2 hbs3 ?_))
      case c1 => unfold maxLen; omega
      case c2 => omega
      intro v9 w9 m9 q9
      have b9 := b3.grown q9 hbs3 (fun q e => by have := (hW2.lt q e).1; omega)
      have HW9 : Hid (Mine w9 w.heap.size 3 v9 (k + 1) (nov l)) := Lib.hid (m9.ext (fun i hi => by
        rw [← HX.out]
        exact nov_snoc' l k i (by rw [HL.out]; exact hlt2) hi))
      clear m9 q9 hW2
      go_wp2_with fail
      exact ⟨⟨k + 1, by simp, by omega, HW9.out, b9⟩, by simp [intOf]; omega⟩
    · obtain rfl : m = k := by omega
      obtain ⟨a9, c9, rfl, h1, h2, hR9⟩ := hW.row
      have HQ := Lib.hid hR9
      clear hW hR9
      go_wp2_with fail
      go_ret
      exact ⟨a9, c9, by rw [HL.out]; rfl, by rw [HL.out]; exact h1, h2, by rw [HL.out]; exact HQ.out, b1⟩
end Go.Proofs.Ytjboilkbcajkcaa.Pa
