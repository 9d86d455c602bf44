/-
  Law OffsetPlays: for every row of calls each bound of a proof is the reference's; the call returns true. No condition.
-/
import Derived.Test.YtjknppldpepcnaaOffStep
set_option maxRecDepth 100000
namespace Go.Proofs.Ytjknppldpepcnaa.OffsetPlays
set_option linter.unusedVariables false
open Go.RowKit Go.ChangeShapes Go.WideShapes Go.ChangeAt Go.Deep Lb Of
set_option linter.unusedVariables false
theorem own : ownKnob Try.prog.godebug = none := by kernel_rfl
theorem laidOut : laidOutB Try.prog = true := by kernel_rfl

set_option maxHeartbeats 4000000 in
theorem body (nn : Int) (a : Option Addr) (n c : Nat) (V : Nat → Value) (X0 X1 X2 X3 : Nat → Int) (w : World) (hn : n ≤ c) (hm : c ≤ maxLen) (hV : Row w a (n * 4) V)
    (h0 : ∀ i, i < n → V (i * 4 + 0) = .int .i64 (X0 i)) (h1 : ∀ i, i < n → V (i * 4 + 1) = .int .i64 (X1 i)) (h2 : ∀ i, i < n → V (i * 4 + 2) = .int .i64 (X2 i)) (h3 : ∀ i, i < n → V (i * 4 + 3) = .int .i64 (X3 i)) :
    Calls Try.prog 4 #[.int .i64 nn, .slice a n c] w fun e w' => e = .returned (.bool true) ∧ Below w.heap.size w w' := by
  unfold maxLen at hm
  have H0 := Lib.hid h0
  have H1 := Lib.hid h1
  have H2 := Lib.hid h2
  have H3 := Lib.hid h3
  clear h0 h1 h2 h3
  obtain ⟨N, hN, N0, N1⟩ : ∃ N : Nat, (lim nn 1 16).toNat = N ∧ 1 ≤ N ∧ N ≤ 16 := ⟨_, rfl, by have := lim_low nn 1 16 (by decide); omega, by have := lim_high nn 1 16; omega⟩
  have HN := Lib.hid hN
  clear hN
  go_enter Try.func4, Try.ntmps4
  go_wp2_with fail
  refine (new_any _ _).mono ?_
  rintro r w1 ⟨rfl, k1, b1, z1⟩
  rw [HN.out] at k1
  go_wp2_with fail
  refine (ref_new _ _).mono ?_
  rintro r w2 ⟨rfl, r2, b2⟩
  rw [HN.out] at r2
  obtain ⟨g, hg⟩ : ∃ g, g = w1.heap.size := ⟨_, rfl⟩
  rw [← hg] at r2 b2 z1 ⊢
  have k2 := below_blk b2 k1 z1
  have bb2 := b1.trans (b2.mono (Nat.le_of_lt z1))
  have s2 : g ≤ w2.heap.size := by rw [hg]; exact b2.size
  clear hg b1 b2 k1
  have c0 : (fun i => if i = 0 then 0 else -1) = cOf (upd (fun _ => false) 0 true) (fun _ => 0) := by
    funext i; unfold cOf upd; by_cases h : i = 0 <;> simp [h]
  rw [c0] at r2
  clear c0
  go_wp2_with fail
  go_loopw [22] (fun i wr => ∃ (k : Nat) (K : Nat → Bool) (B : Nat → Int), i = .int .i64 k ∧ k ≤ n ∧ k ≤ 300 ∧ Prf wr w.heap.size N K B ∧ RPrf wr (g + 1) g N (cOf K B) ∧ Fit K B (1000 * (k : Int)) ∧ Below w.heap.size w wr ∧ g ≤ wr.heap.size) (fun i _ => n - (intOf i).toNat)
  case atStart => exact ⟨0, _, _, rfl, by omega, by omega, k2, r2, fun i => ⟨fun _ => rfl, Int.le_refl _, Int.le_refl _⟩, bb2, s2⟩
  case round =>
    obtain ⟨k, K, B, rfl, hk, hk3, kk, rr, ff, bb, ss⟩ := hrel
    by_cases hlt : k < n ∧ k < 300
    · obtain ⟨hlt, h300⟩ := hlt
      obtain ⟨b, o, rfl, hb, hc⟩ := hV.at_struct bb hlt (by decide)
      have c0 : wr.cell? ⟨b, o + k * 4, none⟩ = some (.int .i64 (X0 k)) := (hc 0 (by decide)).trans (congrArg some (H0.out k hlt))
      have c1 : wr.cell? ⟨b, o + k * 4 + 1, none⟩ = some (.int .i64 (X1 k)) := (hc 1 (by decide)).trans (congrArg some (H1.out k hlt))
      have c2 : wr.cell? ⟨b, o + k * 4 + 2, none⟩ = some (.int .i64 (X2 k)) := (hc 2 (by decide)).trans (congrArg some (H2.out k hlt))
      have c3 : wr.cell? ⟨b, o + k * 4 + 3, none⟩ = some (.int .i64 (X3 k)) := (hc 3 (by decide)).trans (congrArg some (H3.out k hlt))
      clear hc hV
      have hf0 : Hid (Fit K B (1000 * (k : Int))) := Lib.hid ff
      have hfm : Hid (∀ j, 0 ≤ B j ∧ B j ≤ 4000000000000) := Lib.hid (fun j => by obtain ⟨_, f2, f3⟩ := ff j; exact ⟨f2, by omega⟩)
      have hfc : Hid (∀ j, cOf K B j ≤ 1000000000000) := Lib.hid (fun j => by obtain ⟨_, f2, f3⟩ := ff j; unfold cOf; split <;> omega)
      have hfb : Hid (∀ j, -1000000000000 ≤ B j) := Lib.hid (fun j => by obtain ⟨_, f2, f3⟩ := ff j; omega)
      clear ff
      by_cases hx0 : X0 k = 0
      · rw [hx0] at c0
        clear hx0
        go_wp2_with fail
        have ox : Own (wr.alloc (.cells #[.int .i64 0, .int .i64 (X1 k), .int .i64 (X2 k), .int .i64 (X3 k)] 32)) wr.heap.size 32 #[.int .i64 0, .int .i64 (X1 k), .int .i64 (X2 k), .int .i64 (X3 k)] := Own.new _ _ _
        have kx : Prf (wr.alloc (.cells #[.int .i64 0, .int .i64 (X1 k), .int .i64 (X2 k), .int .i64 (X3 k)] 32)) w.heap.size N K B := Blk.alloc kk _
        have rx : RPrf (wr.alloc (.cells #[.int .i64 0, .int .i64 (X1 k), .int .i64 (X2 k), .int .i64 (X3 k)] 32)) (g + 1) g N (cOf K B) := rr.below ((Below.refl _ _).alloc (Nat.le_refl _) _)
        have bx := bb.alloc (by omega) (.cells #[.int .i64 0, .int .i64 (X1 k), .int .i64 (X2 k), .int .i64 (X3 k)] 32)
        have sx : g ≤ (wr.alloc (.cells #[.int .i64 0, .int .i64 (X1 k), .int .i64 (X2 k), .int .i64 (X3 k)] 32)).heap.size := by simp; omega
        have zx : wr.heap.size < (wr.alloc (.cells #[.int .i64 0, .int .i64 (X1 k), .int .i64 (X2 k), .int .i64 (X3 k)] 32)).heap.size := by simp
        have hgz : w.heap.size < wr.heap.size := kk.lt
        generalize wr.alloc (.cells #[.int .i64 0, .int .i64 (X1 k), .int .i64 (X2 k), .int .i64 (X3 k)] 32) = wx at *
        have x1 : wx.cell? ⟨wr.heap.size, 1, none⟩ = some (.int .i64 (X1 k)) := ox.cell 1
        have x2 : wx.cell? ⟨wr.heap.size, 2, none⟩ = some (.int .i64 (X2 k)) := ox.cell 2
        have x3 : wx.cell? ⟨wr.heap.size, 3, none⟩ = some (.int .i64 (X3 k)) := ox.cell 3
        refine (slot_any _ N _ _ _ kx (by omega) N1 hfb.out).mono ?_
        rintro r w4 ⟨rfl, k4, j4⟩
        have r4 := rx.just j4 z1
        have b4 := j4.below bx (Nat.le_refl _) (by omega)
        have s4 : g ≤ w4.heap.size := Nat.le_trans sx j4.size
        have ox4 := j4.own ox (by omega)
        have y1 : w4.cell? ⟨wr.heap.size, 1, none⟩ = some (.int .i64 (X1 k)) := ox4.cell 1
        have y2 : w4.cell? ⟨wr.heap.size, 2, none⟩ = some (.int .i64 (X2 k)) := ox4.cell 2
        have y3 : w4.cell? ⟨wr.heap.size, 3, none⟩ = some (.int .i64 (X3 k)) := ox4.cell 3
        clear x1 x2 x3 kx rx bx c0 c1 c2 c3
        go_wp2_with fail
        refine (ref_slot _ g N _ _ r4 hfc.out s4).mono ?_
        rintro r w5 ⟨rfl, r5, b5⟩
        rw [cOf_tick hf0.out (by omega)] at r5
        have f5 : Fit K (tick N K B N) (1000 * ((k + 1 : Nat) : Int)) := by
          have := fit_tick (N := N) hf0.out N
          intro j
          obtain ⟨t1, t2, t3⟩ := this j
          exact ⟨t1, t2, by omega⟩
        have k5 := below_blk b5 k4 z1
        have bb5 := b4.trans (b5.mono (Nat.le_of_lt z1))
        have s5 := Nat.le_trans s4 b5.size
        clear y1 y2 y3
        generalize tick N K B N = B' at *
        obtain ⟨K', rfl⟩ : ∃ K', K' = K := ⟨K, rfl⟩
        have F5 := Lib.hid f5
        clear f5
        go_wp2_with fail
        go_loopw [9] (fun i w6 => ∃ j : Nat, i = .int .i64 ((j : Int) - 1) ∧ j ≤ 18 ∧ Prf w6 w.heap.size N K' B' ∧ RPrf w6 (g + 1) g N (cOf K' B') ∧ Below w.heap.size w w6 ∧ g ≤ w6.heap.size) (fun i _ => (17 - intOf i).toNat)
        case atStart => exact ⟨0, rfl, by omega, k5, r5, bb5, s5⟩
        case round =>
          obtain ⟨j, rfl, hj, k6, r6, b6, s6⟩ := hrel
          by_cases hj2 : j < 18
          · have hj3 : (j : Int) - 1 ≤ 16 := by omega
            obtain ⟨bo, hbo⟩ : ∃ bo, (if 0 ≤ (j : Int) - 1 ∧ (j : Int) - 1 < (N : Int) then B' ((j : Int) - 1).toNat else 0) = bo := ⟨_, rfl⟩
            obtain ⟨ko, hko⟩ : ∃ ko, (decide (0 ≤ (j : Int) - 1 ∧ (j : Int) - 1 < (N : Int)) && K' ((j : Int) - 1).toNat) = ko := ⟨_, rfl⟩
            have HBO := Lib.hid hbo
            have HKO := Lib.hid hko
            clear hbo hko
            go_wp2_with fail
            refine (bound_any _ N _ _ _ _ k6 N1).mono ?_
            rintro r w7 ⟨rfl, m, rfl⟩
            rw [HBO.out, HKO.out]
            go_wp2_with fail
            refine (ref_bound_any _ g N _ _ _ _ _ (r6.drewN m) F5.out).mono ?_
            rintro r w' ⟨rfl, rfl⟩
            rw [HBO.out, HKO.out]
            go_wp2_with fail
            exact ⟨⟨j + 1, by congr 1; omega, by omega, Blk.drewN k6 m, r6.drewN m, below_drewN b6 m, s6⟩, by simp [intOf]; omega⟩
          · obtain rfl : j = 18 := by omega
            go_wp2_with fail
            exact ⟨⟨k + 1, K', B', by go_num, by omega, by omega, k6, r6, F5.out, b6, s6⟩, by simp [intOf]; omega⟩
      · by_cases hx1 : X0 k = 1
        · rw [hx1] at c0
          clear hx0 hx1
          go_wp2_with fail
          have ox : Own (wr.alloc (.cells #[.int .i64 1, .int .i64 (X1 k), .int .i64 (X2 k), .int .i64 (X3 k)] 32)) wr.heap.size 32 #[.int .i64 1, .int .i64 (X1 k), .int .i64 (X2 k), .int .i64 (X3 k)] := Own.new _ _ _
          have kx : Prf (wr.alloc (.cells #[.int .i64 1, .int .i64 (X1 k), .int .i64 (X2 k), .int .i64 (X3 k)] 32)) w.heap.size N K B := Blk.alloc kk _
          have rx : RPrf (wr.alloc (.cells #[.int .i64 1, .int .i64 (X1 k), .int .i64 (X2 k), .int .i64 (X3 k)] 32)) (g + 1) g N (cOf K B) := rr.below ((Below.refl _ _).alloc (Nat.le_refl _) _)
          have bx := bb.alloc (by omega) (.cells #[.int .i64 1, .int .i64 (X1 k), .int .i64 (X2 k), .int .i64 (X3 k)] 32)
          have sx : g ≤ (wr.alloc (.cells #[.int .i64 1, .int .i64 (X1 k), .int .i64 (X2 k), .int .i64 (X3 k)] 32)).heap.size := by simp; omega
          have zx : wr.heap.size < (wr.alloc (.cells #[.int .i64 1, .int .i64 (X1 k), .int .i64 (X2 k), .int .i64 (X3 k)] 32)).heap.size := by simp
          have hgz : w.heap.size < wr.heap.size := kk.lt
          generalize wr.alloc (.cells #[.int .i64 1, .int .i64 (X1 k), .int .i64 (X2 k), .int .i64 (X3 k)] 32) = wx at *
          have x1 : wx.cell? ⟨wr.heap.size, 1, none⟩ = some (.int .i64 (X1 k)) := ox.cell 1
          have x2 : wx.cell? ⟨wr.heap.size, 2, none⟩ = some (.int .i64 (X2 k)) := ox.cell 2
          have x3 : wx.cell? ⟨wr.heap.size, 3, none⟩ = some (.int .i64 (X3 k)) := ox.cell 3
          refine (lose_any _ N _ _ _ _ kx (by omega) N1).mono ?_
          rintro r w4 ⟨rfl, k4, j4⟩
          have r4 := rx.just j4 z1
          have b4 := j4.below bx (Nat.le_refl _) (by omega)
          have s4 : g ≤ w4.heap.size := Nat.le_trans sx j4.size
          have ox4 := j4.own ox (by omega)
          have y1 : w4.cell? ⟨wr.heap.size, 1, none⟩ = some (.int .i64 (X1 k)) := ox4.cell 1
          have y2 : w4.cell? ⟨wr.heap.size, 2, none⟩ = some (.int .i64 (X2 k)) := ox4.cell 2
          have y3 : w4.cell? ⟨wr.heap.size, 3, none⟩ = some (.int .i64 (X3 k)) := ox4.cell 3
          clear x1 x2 x3 kx rx bx c0 c1 c2 c3
          go_wp2_with fail
          refine (ref_lose_any _ g N _ _ _ r4 s4).mono ?_
          rintro r w5 ⟨rfl, r5, b5⟩
          rw [cOf_lose] at r5
          have f5 : Fit (lK N K (X1 k)) (lB N B (X1 k)) (1000 * ((k + 1 : Nat) : Int)) := by
            have := fit_lose (N := N) hf0.out (by omega) (X1 k)
            intro j
            obtain ⟨t1, t2, t3⟩ := this j
            exact ⟨t1, t2, by omega⟩
          have k5 := below_blk b5 k4 z1
          have bb5 := b4.trans (b5.mono (Nat.le_of_lt z1))
          have s5 := Nat.le_trans s4 b5.size
          clear y1 y2 y3
          generalize lB N B (X1 k) = B' at *
          generalize lK N K (X1 k) = K' at *
          have F5 := Lib.hid f5
          clear f5
          go_wp2_with fail
          go_loopw [9] (fun i w6 => ∃ j : Nat, i = .int .i64 ((j : Int) - 1) ∧ j ≤ 18 ∧ Prf w6 w.heap.size N K' B' ∧ RPrf w6 (g + 1) g N (cOf K' B') ∧ Below w.heap.size w w6 ∧ g ≤ w6.heap.size) (fun i _ => (17 - intOf i).toNat)
          case atStart => exact ⟨0, rfl, by omega, k5, r5, bb5, s5⟩
          case round =>
            obtain ⟨j, rfl, hj, k6, r6, b6, s6⟩ := hrel
            by_cases hj2 : j < 18
            · have hj3 : (j : Int) - 1 ≤ 16 := by omega
              obtain ⟨bo, hbo⟩ : ∃ bo, (if 0 ≤ (j : Int) - 1 ∧ (j : Int) - 1 < (N : Int) then B' ((j : Int) - 1).toNat else 0) = bo := ⟨_, rfl⟩
              obtain ⟨ko, hko⟩ : ∃ ko, (decide (0 ≤ (j : Int) - 1 ∧ (j : Int) - 1 < (N : Int)) && K' ((j : Int) - 1).toNat) = ko := ⟨_, rfl⟩
              have HBO := Lib.hid hbo
              have HKO := Lib.hid hko
              clear hbo hko
              obtain ⟨bo, hbo⟩ : ∃ bo, (if 0 ≤ (j : Int) - 1 ∧ (j : Int) - 1 < (N : Int) then B' ((j : Int) - 1).toNat else 0) = bo := ⟨_, rfl⟩
              obtain ⟨ko, hko⟩ : ∃ ko, (decide (0 ≤ (j : Int) - 1 ∧ (j : Int) - 1 < (N : Int)) && K' ((j : Int) - 1).toNat) = ko := ⟨_, rfl⟩
              have HBO := Lib.hid hbo
              have HKO := Lib.hid hko
              clear hbo hko
              go_wp2_with fail
              refine (bound_any _ N _ _ _ _ k6 N1).mono ?_
              rintro r w7 ⟨rfl, m, rfl⟩
              rw [HBO.out, HKO.out]
              go_wp2_with fail
              refine (ref_bound_any _ g N _ _ _ _ _ (r6.drewN m) F5.out).mono ?_
              rintro r w' ⟨rfl, rfl⟩
              rw [HBO.out, HKO.out]
              go_wp2_with fail
              exact ⟨⟨j + 1, by congr 1; omega, by omega, Blk.drewN k6 m, r6.drewN m, below_drewN b6 m, s6⟩, by simp [intOf]; omega⟩
            · obtain rfl : j = 18 := by omega
              go_wp2_with fail
              exact ⟨⟨k + 1, K', B', by go_num, by omega, by omega, k6, r6, F5.out, b6, s6⟩, by simp [intOf]; omega⟩

        · have y0 : (X0 k == 0) = false := by simpa using hx0
          have yy1 : (X0 k == 1) = false := by simpa using hx1
          clear hx0 hx1
          go_wp2_with fail
          have ox : Own (wr.alloc (.cells #[.int .i64 (X0 k), .int .i64 (X1 k), .int .i64 (X2 k), .int .i64 (X3 k)] 32)) wr.heap.size 32 #[.int .i64 (X0 k), .int .i64 (X1 k), .int .i64 (X2 k), .int .i64 (X3 k)] := Own.new _ _ _
          have kx : Prf (wr.alloc (.cells #[.int .i64 (X0 k), .int .i64 (X1 k), .int .i64 (X2 k), .int .i64 (X3 k)] 32)) w.heap.size N K B := Blk.alloc kk _
          have rx : RPrf (wr.alloc (.cells #[.int .i64 (X0 k), .int .i64 (X1 k), .int .i64 (X2 k), .int .i64 (X3 k)] 32)) (g + 1) g N (cOf K B) := rr.below ((Below.refl _ _).alloc (Nat.le_refl _) _)
          have bx := bb.alloc (by omega) (.cells #[.int .i64 (X0 k), .int .i64 (X1 k), .int .i64 (X2 k), .int .i64 (X3 k)] 32)
          have sx : g ≤ (wr.alloc (.cells #[.int .i64 (X0 k), .int .i64 (X1 k), .int .i64 (X2 k), .int .i64 (X3 k)] 32)).heap.size := by simp; omega
          have zx : wr.heap.size < (wr.alloc (.cells #[.int .i64 (X0 k), .int .i64 (X1 k), .int .i64 (X2 k), .int .i64 (X3 k)] 32)).heap.size := by simp
          have hgz : w.heap.size < wr.heap.size := kk.lt
          generalize wr.alloc (.cells #[.int .i64 (X0 k), .int .i64 (X1 k), .int .i64 (X2 k), .int .i64 (X3 k)] 32) = wx at *
          have x1 : wx.cell? ⟨wr.heap.size, 1, none⟩ = some (.int .i64 (X1 k)) := ox.cell 1
          have x2 : wx.cell? ⟨wr.heap.size, 2, none⟩ = some (.int .i64 (X2 k)) := ox.cell 2
          have x3 : wx.cell? ⟨wr.heap.size, 3, none⟩ = some (.int .i64 (X3 k)) := ox.cell 3
          refine (heard_any _ N _ _ _ _ _ _ kx (by omega) N1 hfm.out).mono ?_
          rintro r w4 ⟨rfl, k4, j4⟩
          have r4 := rx.just j4 z1
          have b4 := j4.below bx (Nat.le_refl _) (by omega)
          have s4 : g ≤ w4.heap.size := Nat.le_trans sx j4.size
          have ox4 := j4.own ox (by omega)
          have y1 : w4.cell? ⟨wr.heap.size, 1, none⟩ = some (.int .i64 (X1 k)) := ox4.cell 1
          have y2 : w4.cell? ⟨wr.heap.size, 2, none⟩ = some (.int .i64 (X2 k)) := ox4.cell 2
          have y3 : w4.cell? ⟨wr.heap.size, 3, none⟩ = some (.int .i64 (X3 k)) := ox4.cell 3
          clear x1 x2 x3 kx rx bx c0 c1 c2 c3
          go_wp2_with fail
          refine (ref_heard_any _ g N _ _ _ _ _ r4 (fun j => by have := hfc.out j; omega) s4).mono ?_
          rintro r w5 ⟨rfl, r5, b5⟩
          rw [cOf_heard hf0.out (by omega)] at r5
          have f5 : Fit (hK N K (X1 k) (X2 k)) (hB N K B (X1 k) (X2 k) (X3 k)) (1000 * ((k + 1 : Nat) : Int)) := by
            have := fit_heard (N := N) hf0.out (by omega) (X1 k) (X2 k) (X3 k)
            intro j
            obtain ⟨t1, t2, t3⟩ := this j
            exact ⟨t1, t2, by omega⟩
          have k5 := below_blk b5 k4 z1
          have bb5 := b4.trans (b5.mono (Nat.le_of_lt z1))
          have s5 := Nat.le_trans s4 b5.size
          clear y1 y2 y3
          generalize hB N K B (X1 k) (X2 k) (X3 k) = B' at *
          generalize hK N K (X1 k) (X2 k) = K' at *
          have F5 := Lib.hid f5
          clear f5
          go_wp2_with fail
          go_loopw [9] (fun i w6 => ∃ j : Nat, i = .int .i64 ((j : Int) - 1) ∧ j ≤ 18 ∧ Prf w6 w.heap.size N K' B' ∧ RPrf w6 (g + 1) g N (cOf K' B') ∧ Below w.heap.size w w6 ∧ g ≤ w6.heap.size) (fun i _ => (17 - intOf i).toNat)
          case atStart => exact ⟨0, rfl, by omega, k5, r5, bb5, s5⟩
          case round =>
            obtain ⟨j, rfl, hj, k6, r6, b6, s6⟩ := hrel
            by_cases hj2 : j < 18
            · have hj3 : (j : Int) - 1 ≤ 16 := by omega
              obtain ⟨bo, hbo⟩ : ∃ bo, (if 0 ≤ (j : Int) - 1 ∧ (j : Int) - 1 < (N : Int) then B' ((j : Int) - 1).toNat else 0) = bo := ⟨_, rfl⟩
              obtain ⟨ko, hko⟩ : ∃ ko, (decide (0 ≤ (j : Int) - 1 ∧ (j : Int) - 1 < (N : Int)) && K' ((j : Int) - 1).toNat) = ko := ⟨_, rfl⟩
              have HBO := Lib.hid hbo
              have HKO := Lib.hid hko
              clear hbo hko
              obtain ⟨bo, hbo⟩ : ∃ bo, (if 0 ≤ (j : Int) - 1 ∧ (j : Int) - 1 < (N : Int) then B' ((j : Int) - 1).toNat else 0) = bo := ⟨_, rfl⟩
              obtain ⟨ko, hko⟩ : ∃ ko, (decide (0 ≤ (j : Int) - 1 ∧ (j : Int) - 1 < (N : Int)) && K' ((j : Int) - 1).toNat) = ko := ⟨_, rfl⟩
              have HBO := Lib.hid hbo
              have HKO := Lib.hid hko
              clear hbo hko
              go_wp2_with fail
              refine (bound_any _ N _ _ _ _ k6 N1).mono ?_
              rintro r w7 ⟨rfl, m, rfl⟩
              rw [HBO.out, HKO.out]
              go_wp2_with fail
              refine (ref_bound_any _ g N _ _ _ _ _ (r6.drewN m) F5.out).mono ?_
              rintro r w' ⟨rfl, rfl⟩
              rw [HBO.out, HKO.out]
              go_wp2_with fail
              exact ⟨⟨j + 1, by congr 1; omega, by omega, Blk.drewN k6 m, r6.drewN m, below_drewN b6 m, s6⟩, by simp [intOf]; omega⟩
            · obtain rfl : j = 18 := by omega
              go_wp2_with fail
              exact ⟨⟨k + 1, K', B', by go_num, by omega, by omega, k6, r6, F5.out, b6, s6⟩, by simp [intOf]; omega⟩

    · by_cases hlt2 : k < n
      · have h300 : ¬ k < 300 := fun h => hlt ⟨hlt2, h⟩
        obtain ⟨b, o, rfl, hb, hc⟩ := hV.at_struct bb hlt2 (by decide)
        have c0 : wr.cell? ⟨b, o + k * 4, none⟩ = some (.int .i64 (X0 k)) := (hc 0 (by decide)).trans (congrArg some (H0.out k hlt2))
        have c1 : wr.cell? ⟨b, o + k * 4 + 1, none⟩ = some (.int .i64 (X1 k)) := (hc 1 (by decide)).trans (congrArg some (H1.out k hlt2))
        have c2 : wr.cell? ⟨b, o + k * 4 + 2, none⟩ = some (.int .i64 (X2 k)) := (hc 2 (by decide)).trans (congrArg some (H2.out k hlt2))
        have c3 : wr.cell? ⟨b, o + k * 4 + 3, none⟩ = some (.int .i64 (X3 k)) := (hc 3 (by decide)).trans (congrArg some (H3.out k hlt2))
        clear hc hV hlt ff
        have hgz : w.heap.size < wr.heap.size := kk.lt
        go_wp2_with fail
        refine (awake_any _).mono ?_
        rintro r w9 ⟨rfl, b9⟩
        go_wp2_with fail
        go_ret
        have bx := bb.alloc (by omega) (.cells #[.int .i64 (X0 k), .int .i64 (X1 k), .int .i64 (X2 k), .int .i64 (X3 k)] 32)
        exact ⟨rfl, bx.trans (b9.mono bx.size)⟩
      · clear hlt ff hV
        go_wp2_with fail
        refine (awake_any _).mono ?_
        rintro r w9 ⟨rfl, b9⟩
        go_wp2_with fail
        go_ret
        exact ⟨rfl, bb.trans (b9.mono bb.size)⟩

theorem walk (H : Type) (enc : TypeId × Value → H) : Walk H enc Try.prog 4 Try.f4 := by
  intro W base args ds p hval hA
  rw [Try.params4] at hA hval
  obtain ⟨v0, v1, d0, d1, p0, p1, rfl, rfl, rfl, h0, h1⟩ := trodAll_two hA
  obtain ⟨nn, rfl, rfl, rfl, w1⟩ := open_int Try.underlying3 (hval 0 _ v0 rfl rfl) h0
  obtain ⟨a, n, c, V, rfl, hn, hm, hV, hf⟩ := open_row_struct Try.underlying26 Try.underlying32 (by kernel_rfl) (by kernel_rfl) (by decide) (hval 1 _ v1 rfl rfl) h1
  obtain ⟨X0, e0⟩ := field_int (n := n) (m := 4) (j := 0) Try.underlying3 (fun i hi => hf i hi 0 _ rfl)
  obtain ⟨X1, e1⟩ := field_int (n := n) (m := 4) (j := 1) Try.underlying3 (fun i hi => hf i hi 1 _ rfl)
  obtain ⟨X2, e2⟩ := field_int (n := n) (m := 4) (j := 2) Try.underlying3 (fun i hi => hf i hi 2 _ rfl)
  obtain ⟨X3, e3⟩ := field_int (n := n) (m := 4) (j := 3) Try.underlying3 (fun i hi => hf i hi 3 _ rfl)
  exact body nn a n c V X0 X1 X2 X3 W hn hm hV (fun i hi => (e0 i hi).1) (fun i hi => (e1 i hi).1) (fun i hi => (e2 i hi).1) (fun i hi => (e3 i hi).1)

set_option maxRecDepth 100000 in
theorem lifted (os : Os) (started : os.Started) (H : Type) (enc : TypeId × Value → H) :
    ReturnsInHanded {} Try.checked os 4 .any (Rows.offsetPlaysSpec.pre6 enc Try.prog Try.f4 Rows.offsetPlaysRow.domain false) (Rows.offsetPlaysSpec.post enc Try.prog Try.f4 false true false false) :=
  returnsInHanded_of_change (C := Try.checked) own started (by kernel_rfl) Try.func4
    (ChangeSpec.witness6 (enc := enc) (C := Try.checked) false ⟨#[], #[.int .i64 0, .slice none 0 0], []⟩ 8 (by kernel_rfl) (by kernel_rfl) (by kernel_rfl) (by kernel_rfl))
    fun W base args ds gs before hval hW _ _ => step_of_walk laidOut (by rw [Try.params4]; exact of_decide_eq_true (by kernel_rfl)) (by kernel_rfl) Try.underlying4 rfl
      (fun ds h => by
        rw [Try.params4] at h
        match ds, h with
        | [_, _], _ => rfl) (walk H enc) W base args ds gs before hval hW

theorem holds : Rows.OffsetPlaysSaid :=
  OpenClaim.holds_of_wide 4 Try.f4 rfl rfl rfl rfl rfl rfl rfl ⟨rfl, rfl, rfl, rfl, rfl⟩ rfl rfl rfl rfl rfl (by kernel_rfl) Try.func4 (by kernel_rfl)
    (of_decide_eq_true (by kernel_rfl)) (by unfold Func.isWrapper; first | (rw [if_pos (by decide +kernel)]; kernel_rfl) | (rw [if_neg (by decide +kernel)]; exact ⟨rfl, rfl⟩))
    (fun os started H enc _ => lifted os started H enc)
#print axioms holds
end Go.Proofs.Ytjknppldpepcnaa.OffsetPlays
