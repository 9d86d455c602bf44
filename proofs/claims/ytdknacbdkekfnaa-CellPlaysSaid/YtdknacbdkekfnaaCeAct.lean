/-
  Package cell: All, Active; a cell that every program must know.
-/
import Derived.Test.YtdknacbdkekfnaaCeAdd
set_option maxRecDepth 100000
namespace Go.Proofs.Ytdknacbdkekfnaa.Ce
set_option linter.unusedVariables false
open Go.RowKit Lb Cl

theorem row_none {w : World} {A : Option Addr} {n : Nat} {V : Nat → Value} (h : Row w A (n * 5) V) (e : A = none) : n = 0 := by
  rcases Nat.eq_zero_or_pos n with h0 | h0
  · exact h0
  · obtain ⟨_, _, h1, _⟩ := h (by omega)
    rw [e] at h1
    cases h1
theorem clo_any (A : Option Addr) (n c : Nat) (l : List C) (w : World) (hR : Row w A (n * 5) (lv l)) (hn : n ≤ 100000) :
    Calls Try.prog 33 #[.slice A n c] w fun r w' => ∃ va, r = .returned va ∧ MineK w' w.heap.size 31 5 va n (lv l) ∧ Below w.heap.size w w' := by
  obtain ⟨i0, hi0, hz0, hz1, hz2⟩ := info_parts infoE
  cases A with
  | none =>
    obtain rfl : n = 0 := row_none hR rfl
    clear hR
    have hne := Lib.run_eql_slice_nil (P := Try.prog) w 27 31 none 0 c 0 0 Try.underlying27
    go_enter Try.func33, Try.ntmps33
    go_wp2_with fail
    go_ret
    exact ⟨_, rfl, MineK.nil _ _ _ _ _, Below.refl _ _⟩
  | some p =>
    have hne := Lib.run_eql_slice_nil (P := Try.prog) w 27 31 (some p) n c 0 0 Try.underlying27
    have h0 : MineK (w.alloc (.cells #[] 31)) w.heap.size 31 5 (.slice (some ⟨w.heap.size, 0, none⟩) 0 0) 0 (lv []) := MineK.made (c := 0) (Own.new w 31 #[]) (Nat.le_refl _) rfl (by decide) (by decide) (fun i hi => by omega)
    have hr : Row (w.alloc (.cells #[] 31)) (some p) (n * 5) (lv l) := hR.below ((Below.refl _ _).alloc (Nat.le_refl _) _)
    have b0 := (Below.refl w.heap.size w).alloc (Nat.le_refl _) (.cells #[] 31)
    have H0 := Lib.hid h0
    have HR := Lib.hid hr
    have HNM : Hid (0 + n ≤ maxLen) := Lib.hid (by unfold maxLen; omega)
    have hbs : w.heap.size ≤ (w.alloc (.cells #[] 31)).heap.size := b0.size
    clear h0 hr hR
    go_enter Try.func33, Try.ntmps33
    go_wp2_with (at_builtin; go_must (refine wp_appK rfl (.tmp 5) (.tmp 6) _ rfl w.heap.size 31 i0 _ 5 40 Try.underlying27 hi0 hz0 hz1 hz2 rfl (by decide) _ 0 (lv []) rfl H0.out _ n _ (lv l) rfl HR.out (fun i _ => lv_one l i) HNM.out ?c2 hbs ?_))
    case c2 => omega
    intro v5 w5 m5 g5 q5
    have M5 : Hid (MineK w5 w.heap.size 31 5 v5 n (lv l)) := Lib.hid m5
    have B5 : Hid (Below w.heap.size w w5) := Lib.hid (b0.grown g5 hbs (fun q e => by
      have e : some w.heap.size = some q := e
      injection e with e
      omega))
    clear m5 g5 q5
    go_wp2_with fail
    go_ret
    exact ⟨_, rfl, M5.out, B5.out⟩
theorem all_nil (w : World) : Calls Try.prog 17 #[.pointer none] w fun r w' => r = .returned (.slice none 0 0) ∧ w = w' := by
  go_enter Try.func17, Try.ntmps17
  go_wp2_with fail
  go_ret
  exact ⟨rfl, rfl⟩
theorem all_any (base b : Nat) (N : Nat → Int) (l : List C) (v : Value) (w : World) (t : Tab w base b N l v) :
    Calls Try.prog 17 #[.pointer (some ⟨b, 0, none⟩)] w fun r w' => ∃ va, r = .returned va ∧ MineK w' w.heap.size 31 5 va l.length (lv l) ∧ Below w.heap.size w w' := by
  obtain ⟨A, c, rfl, hc1, hc2, hR⟩ := t.row.row
  have hclo := clo_any A l.length c l w hR (by have := t.good.few; omega)
  have c4 := t.v4
  clear t hR
  go_enter Try.func17, Try.ntmps17
  go_wp2_with (go_at_call 33; refine hclo.mono ?_; rintro r w5 ⟨va, rfl, m5, b5⟩)
  go_ret
  exact ⟨_, rfl, m5, b5⟩
theorem act_nil (t : Int) (w : World) : Calls Try.prog 18 #[.pointer none, .int .i64 t] w fun r w' => r = .returned (.slice none 0 0) ∧ w = w' := by
  go_enter Try.func18, Try.ntmps18
  go_wp2_with fail
  go_ret
  exact ⟨rfl, rfl⟩
def upto (N : Nat → Int) (l : List C) (t : Int) (k : Nat) : List C := (l.take k).filter (onB N t)
theorem upto_succ (N : Nat → Int) (l : List C) (t : Int) (k : Nat) (hk : k < l.length) : upto N l t (k + 1) = upto N l t k ++ if onB N t (at_ l k) = true then [at_ l k] else [] := by
  unfold upto
  have e : l.take (k + 1) = l.take k ++ [at_ l k] := by
    rw [List.take_succ_eq_append_getElem hk]
    unfold at_
    rw [List.getD_eq_getElem?_getD, List.getElem?_eq_getElem hk]
    rfl
  rw [e, List.filter_append]
  congr 1
  simp [List.filter_cons]
theorem upto_len (N : Nat → Int) (l : List C) (t : Int) (k : Nat) : (upto N l t k).length ≤ k := by
  unfold upto
  have h1 := List.length_filter_le (onB N t) (l.take k)
  have h2 : (l.take k).length ≤ k := List.length_take_le _ _
  omega
set_option maxHeartbeats 1000000 in
theorem act_any (base b : Nat) (N : Nat → Int) (l : List C) (v : Value) (t : Int) (w : World) (tb : Tab w base b N l v) :
    Calls Try.prog 18 #[.pointer (some ⟨b, 0, none⟩), .int .i64 t] w fun r w' => ∃ va, r = .returned va ∧ MineK w' w.heap.size 31 5 va (act N l t).length (lv (act N l t)) ∧ Below w.heap.size w w' := by
  obtain ⟨i0, hi0, hz0, hz1, hz2⟩ := info_parts infoE
  rcases (show t < 0 ∨ (0 ≤ t ∧ 1099511627776 ≤ t) ∨ (0 ≤ t ∧ t < 1099511627776) by omega) with ht | ⟨ht0, ht⟩ | ⟨ht0, ht⟩
  · have HD : Hid (act N l t = []) := Lib.hid (by unfold act; rw [if_neg (by omega)])
    go_enter Try.func18, Try.ntmps18
    go_wp2_with fail
    go_ret
    exact ⟨_, rfl, by rw [HD.out]; exact MineK.nil _ _ _ _ _, Below.refl _ _⟩
  · have HD : Hid (act N l t = []) := Lib.hid (by unfold act; rw [if_neg (by omega)])
    have g0 : decide (t < 0) = false := by simp; omega
    go_enter Try.func18, Try.ntmps18
    go_wp2_with fail
    go_ret
    exact ⟨_, rfl, by rw [HD.out]; exact MineK.nil _ _ _ _ _, Below.refl _ _⟩
  · have HD : Hid (act N l t = upto N l t l.length) := Lib.hid (by unfold act upto; rw [if_pos ⟨ht0, ht⟩, List.take_of_length_le (Nat.le_refl _)])
    have g0 : decide (t < 0) = false := by simp; omega
    have g1 : decide (1099511627776 ≤ t) = false := by simp; omega
    obtain ⟨A, c, rfl, hc1, hc2, hR⟩ := tb.row.row
    unfold maxLen at hc2
    have hfew := tb.good.few
    have c4 := tb.v4
    have HT := Lib.hid tb
    have HR := Lib.hid hR
    obtain ⟨m, hm⟩ : ∃ m, l.length = m := ⟨_, rfl⟩
    rw [hm] at c4 HT HR hfew hc1 HD
    have HL := Lib.hid hm
    clear tb hR hm
    go_enter Try.func18, Try.ntmps18
    go_wp2_with fail
    go_loopw [5, 23] (fun u i wr => ∃ k : Nat, i = .int .i64 k ∧ k ≤ m ∧ MineK wr w.heap.size 31 5 u (upto N l t k).length (lv (upto N l t k)) ∧ Below w.heap.size w wr) (fun _ i _ => m - (intOf i).toNat)
    case atStart => exact ⟨0, rfl, by omega, MineK.nil _ _ _ _ _, Below.refl _ _⟩
    case round =>
      obtain ⟨k, rfl, hk, mu, b1⟩ := hrel
      by_cases hlt : k < m
      · obtain ⟨bo, off, rfl, hbo, d0, d1, d2, d3, d4⟩ := row_c HR.out b1 hlt
        have hup := upto_succ N l t k (by rw [HL.out]; exact hlt)
        have hul := upto_len N l t k
        have hcell := HT.out.good.cell _ (at_mem (k := k) (by rw [HL.out]; exact hlt))
        have hNle := HT.out.good.len
        obtain ⟨x, hx⟩ : ∃ x, at_ l k = x := ⟨_, rfl⟩
        rw [hx] at d0 d1 d2 d3 d4 hup hcell
        obtain ⟨a, ha0⟩ := Int.eq_ofNat_of_zero_le hcell.1
        have ha : a < 4 := by omega
        rw [ha0, Int.toNat_natCast] at hcell
        have i0' : (0 : Int) ≤ (a : Int) := by omega
        have i1' : (a : Int) < 4 := by omega
        have cN := (HT.out.below b1).n ha
        obtain ⟨n0, hn0⟩ : ∃ n0, N a = n0 := ⟨_, rfl⟩
        have hn1 := hNle a
        rw [hn0] at cN hcell hn1
        have z1 : (n0 == 0) = false := by simp; omega
        have z2 : n0 ≠ 0 := by omega
        have z3 : t.tmod n0 = t % n0 := Int.tmod_eq_emod_of_nonneg ht0
        obtain ⟨e, he⟩ : ∃ e, (t % n0 == x.s) = e := ⟨_, rfl⟩
        have hon : onB N t x = e := by unfold onB; rw [ha0, Int.toNat_natCast, hn0, he]
        rw [hon] at hup
        rw [ha0] at d0
        have HA := Lib.hid ha0
        have b2 := b1.alloc b1.size (.cells #[.int .i64 (a : Int), .int .i64 x.s, .int .i64 x.c, .int .i64 x.o, .int .i64 x.p] 31)
        have mu2 := mu.alloc (.cells #[.int .i64 (a : Int), .int .i64 x.s, .int .i64 x.c, .int .i64 x.o, .int .i64 x.p] 31)
        have o2 := Own.new wr 31 #[.int .i64 (a : Int), .int .i64 x.s, .int .i64 x.c, .int .i64 x.o, .int .i64 x.p]
        have cN2 := keep_cell ((Below.refl wr.heap.size wr).alloc (Nat.le_refl _) (.cells #[.int .i64 (a : Int), .int .i64 x.s, .int .i64 x.c, .int .i64 x.o, .int .i64 x.p] 31)) cN
        have HUP := Lib.hid hup
        have HMU := Lib.hid mu2
        clear hx hup hcell hn1 hNle hn0 ha0 hon mu mu2
        have bk4 := keep_cell b2 c4
        cases e
        · go_wp2_with fail
          generalize wr.alloc (.cells #[.int .i64 (a : Int), .int .i64 x.s, .int .i64 x.c, .int .i64 x.o, .int .i64 x.p] 31) = w2 at *
          have e0 := o2.cell 0
          have e1 := o2.cell 1
          simp at e0 e1
          go_quiet (fail)
          go_wp2_with fail
          exact ⟨⟨k + 1, by simp, by omega, by rw [HUP.out]; have := HMU.out.drewN nq; simpa using this, below_drewN b2 _⟩, by simp [intOf]; omega⟩
        · go_wp2_with fail
          generalize wr.alloc (.cells #[.int .i64 (a : Int), .int .i64 x.s, .int .i64 x.c, .int .i64 x.o, .int .i64 x.p] 31) = w2 at *
          have e0 := o2.cell 0
          have e1 := o2.cell 1
          have e2 := o2.cell 2
          have e3 := o2.cell 3
          have e4 := o2.cell 4
          simp at e0 e1 e2 e3 e4
          go_quiet (fail)
          have o3 := o2.drewN nq
          have b3 := below_drewN b2 nq
          have HM3 := Lib.hid ((HMU.out.drewN nq).alloc (.cells #[.int .i64 (a : Int), .int .i64 x.s, .int .i64 x.c, .int .i64 x.o, .int .i64 x.p] 31))
          generalize w2.drewN nq = w3 at *
          have hsz : w.heap.size ≤ w3.heap.size := b3.size
          have HR3 : Hid (Row (w3.alloc (.cells #[.int .i64 (a : Int), .int .i64 x.s, .int .i64 x.c, .int .i64 x.o, .int .i64 x.p] 31)) (some ⟨w3.heap.size, 0, none⟩) (1 * 5) (lv [x])) := Lib.hid (row_new _ _ _ _ (fun i hi => by
            rcases (show i = 0 ∨ i = 1 ∨ i = 2 ∨ i = 3 ∨ i = 4 by omega) with rfl | rfl | rfl | rfl | rfl
            · show some (Value.int .i64 (a : Int)) = some (Value.int .i64 x.f); rw [HA.out]
            · rfl
            · rfl
            · rfl
            · rfl))
          have HNM : Hid ((upto N l t k).length + 1 ≤ maxLen) := Lib.hid (by unfold maxLen; omega)
          have HB3 : Hid (w.heap.size ≤ (w3.alloc (.cells #[.int .i64 (a : Int), .int .i64 x.s, .int .i64 x.c, .int .i64 x.o, .int .i64 x.p] 31)).heap.size) := Lib.hid (by simp; omega)
          have hb40 : ((upto N l t k).length + 1) * 40 ≤ 140737488355328 := by omega
          have HB40 := Lib.hid hb40
          have b4 := Lib.hid (b3.alloc hsz (.cells #[.int .i64 (a : Int), .int .i64 x.s, .int .i64 x.c, .int .i64 x.o, .int .i64 x.p] 31))
          clear e0 e1 e2 e3 e4 hb40 cN2 bk4 d0 d1 d2 d3 d4 cN
          have e0 := o3.cell 0
          have e1 := o3.cell 1
          have e2 := o3.cell 2
          have e3 := o3.cell 3
          have e4 := o3.cell 4
          simp at e0 e1 e2 e3 e4
          go_wp2_with (at_builtin; go_must (refine wp_appK rfl (.tmp 39) (.tmp 41) _ rfl w.heap.size 31 i0 _ 5 40 Try.underlying27 hi0 hz0 hz1 hz2 rfl (by decide) _ (upto N l t k).length (lv (upto N l t k)) rfl HM3.out _ 1 _ (lv [x]) rfl HR3.out (fun i _ => lv_one _ i) HNM.out HB40.out HB3.out ?_))
          intro v5 w5 m5 g5 q5
          have M5 : Hid (MineK w5 w.heap.size 31 5 v5 (upto N l t (k + 1)).length (lv (upto N l t (k + 1)))) := Lib.hid (by
            have hu : upto N l t (k + 1) = upto N l t k ++ [x] := by rw [HUP.out]; simp
            rw [hu, List.length_append]
            exact m5.ext (fun q hq => (lv_snoc _ x q).resolve_right (by omega)))
          have B5 : Hid (Below w.heap.size w w5) := Lib.hid (b4.out.grown g5 HB3.out (fun q e => ((HM3.out.lt q e).1)))
          clear m5 g5 q5
          go_wp2_with fail
          exact ⟨⟨k + 1, by simp, by omega, M5.out, B5.out⟩, by simp [intOf]; omega⟩
      · obtain rfl : m = k := by omega
        go_wp2_with fail
        go_ret
        exact ⟨_, rfl, by rw [HD.out]; exact mu, b1⟩
end Go.Proofs.Ytdknacbdkekfnaa.Ce
