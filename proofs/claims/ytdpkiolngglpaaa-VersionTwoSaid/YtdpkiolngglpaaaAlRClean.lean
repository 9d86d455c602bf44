/-
  The reference's answer (chapter 22) whether nothing clashes.
-/
import Derived.Test.YtdpkiolngglpaaaAlRClash
import Derived.Test.YtdpkiolngglpaaaCeMath
import Derived.Test.YtdpkiolngglpaaaCut
import Derived.Test.YtdpkiolngglpaaaBlk
import Derived.Deep.Cut
import Derived.Deep.CutRange
import Derived.BigRegion
import Derived.IntWalk
set_option maxRecDepth 100000
namespace Go.Proofs.Ytdpkiolngglpaaa.Al
set_option linter.unusedVariables false
set_option linter.unusedSimpArgs false
open Go.RowKit Lb Cl Ce

def okc' (c : C) : Bool := c.may && (Go.bits .and .i64 c.o 4 == 0)
/-- A cell of a node clashes with none ahead of it. -/
def RCc (D : Nat → List C) (x i : Nat) : Prop := okc' (at_ (D x) i) = true ∧ (∀ j, j < i → clashB (at_ (D x) i) (at_ (D x) j) x x = false) ∧ ∀ y, y < x → ∀ j, j < (D y).length → clashB (at_ (D x) i) (at_ (D y) j) x y = false
def RC (D : Nat → List C) : Prop := ∀ x, x < 16 → ∀ i, i < (D x).length → RCc D x i
/-- Sixteen rows of cells, as slices. -/
structure Dl (w : World) (D : Nat → List C) (A : Nat → Option Addr) (K : Nat → Nat) : Prop where
  le : ∀ x, x < 16 → (D x).length ≤ K x
  cap : ∀ x, x < 16 → K x ≤ maxLen
  row : ∀ x, x < 16 → Row w (A x) ((D x).length * 5) (lv (D x))
theorem size_cc : ∀ w : World, (Go.sizeOf 69).run Try.prog w = .ok 5 w := fun _ => rfl
theorem index_d (S : Nat → Value) (k : Nat) (hk : k < 16) (w : World) : (Instr.index 34 (.agg #[S 0, S 1, S 2, S 3, S 4, S 5, S 6, S 7, S 8, S 9, S 10, S 11, S 12, S 13, S 14, S 15]) (.int .i64 (k : Int))).run Try.prog w = .ok (S k) w := by
  rcases (show k = 0 ∨ k = 1 ∨ k = 2 ∨ k = 3 ∨ k = 4 ∨ k = 5 ∨ k = 6 ∨ k = 7 ∨ k = 8 ∨ k = 9 ∨ k = 10 ∨ k = 11 ∨ k = 12 ∨ k = 13 ∨ k = 14 ∨ k = 15 by omega) with rfl | rfl | rfl | rfl | rfl | rfl | rfl | rfl | rfl | rfl | rfl | rfl | rfl | rfl | rfl | rfl <;> kernel_rfl
set_option maxHeartbeats 8000000 in
theorem rclean_any (D : Nat → List C) (A : Nat → Option Addr) (K : Nat → Nat) (w : World) (h : Dl w D A K) :
    Calls Try.prog 32 #[.agg #[.slice (A 0) (D 0).length (K 0), .slice (A 1) (D 1).length (K 1), .slice (A 2) (D 2).length (K 2), .slice (A 3) (D 3).length (K 3), .slice (A 4) (D 4).length (K 4), .slice (A 5) (D 5).length (K 5), .slice (A 6) (D 6).length (K 6), .slice (A 7) (D 7).length (K 7), .slice (A 8) (D 8).length (K 8), .slice (A 9) (D 9).length (K 9), .slice (A 10) (D 10).length (K 10), .slice (A 11) (D 11).length (K 11), .slice (A 12) (D 12).length (K 12), .slice (A 13) (D 13).length (K 13), .slice (A 14) (D 14).length (K 14), .slice (A 15) (D 15).length (K 15)]] w fun r w' => ∃ q : Bool, r = .returned (.bool q) ∧ (q = true ↔ RC D) ∧ Below w.heap.size w w' := by
  have hb0 := (Below.refl w.heap.size w).alloc (Nat.le_refl _) (.cells #[.slice (A 0) (D 0).length (K 0), .slice (A 1) (D 1).length (K 1), .slice (A 2) (D 2).length (K 2), .slice (A 3) (D 3).length (K 3), .slice (A 4) (D 4).length (K 4), .slice (A 5) (D 5).length (K 5), .slice (A 6) (D 6).length (K 6), .slice (A 7) (D 7).length (K 7), .slice (A 8) (D 8).length (K 8), .slice (A 9) (D 9).length (K 9), .slice (A 10) (D 10).length (K 10), .slice (A 11) (D 11).length (K 11), .slice (A 12) (D 12).length (K 12), .slice (A 13) (D 13).length (K 13), .slice (A 14) (D 14).length (K 14), .slice (A 15) (D 15).length (K 15)] 36)
  have ob : Blk (w.alloc (.cells #[.slice (A 0) (D 0).length (K 0), .slice (A 1) (D 1).length (K 1), .slice (A 2) (D 2).length (K 2), .slice (A 3) (D 3).length (K 3), .slice (A 4) (D 4).length (K 4), .slice (A 5) (D 5).length (K 5), .slice (A 6) (D 6).length (K 6), .slice (A 7) (D 7).length (K 7), .slice (A 8) (D 8).length (K 8), .slice (A 9) (D 9).length (K 9), .slice (A 10) (D 10).length (K 10), .slice (A 11) (D 11).length (K 11), .slice (A 12) (D 12).length (K 12), .slice (A 13) (D 13).length (K 13), .slice (A 14) (D 14).length (K 14), .slice (A 15) (D 15).length (K 15)] 36)) w.heap.size 36 16 (fun i => .slice (A i) (D i).length (K i)) := Blk.of (Own.new w 36 _) rfl (fun i hi => by
    rcases (show i = 0 ∨ i = 1 ∨ i = 2 ∨ i = 3 ∨ i = 4 ∨ i = 5 ∨ i = 6 ∨ i = 7 ∨ i = 8 ∨ i = 9 ∨ i = 10 ∨ i = 11 ∨ i = 12 ∨ i = 13 ∨ i = 14 ∨ i = 15 by omega) with rfl | rfl | rfl | rfl | rfl | rfl | rfl | rfl | rfl | rfl | rfl | rfl | rfl | rfl | rfl | rfl <;> rfl)
  have HI := Lib.hid (fun k (hk : k < 16) w => index_d (fun i => .slice (A i) (D i).length (K i)) k hk w)
  have H := Lib.hid h
  clear h
  go_enter Try.func32, Try.ntmps32
  go_wp2_with fail
  obtain ⟨r1, hr1⟩ : ∃ q, w.heap.size = q := ⟨_, rfl⟩
  rw [hr1] at ob ⊢
  clear hr1
  generalize w.alloc (.cells #[.slice (A 0) (D 0).length (K 0), .slice (A 1) (D 1).length (K 1), .slice (A 2) (D 2).length (K 2), .slice (A 3) (D 3).length (K 3), .slice (A 4) (D 4).length (K 4), .slice (A 5) (D 5).length (K 5), .slice (A 6) (D 6).length (K 6), .slice (A 7) (D 7).length (K 7), .slice (A 8) (D 8).length (K 8), .slice (A 9) (D 9).length (K 9), .slice (A 10) (D 10).length (K 10), .slice (A 11) (D 11).length (K 11), .slice (A 12) (D 12).length (K 12), .slice (A 13) (D 13).length (K 13), .slice (A 14) (D 14).length (K 14), .slice (A 15) (D 15).length (K 15)] 36) = w1 at *
  have hs1 := hb0.size
  have HR : Hid (∀ x, x < 16 → Row w1 (A x) ((D x).length * 5) (cv (at_ (D x)))) := Lib.hid (fun x hx => (H.out.row x hx).below hb0)
  go_loopw [14] (fun i wr => ∃ x : Nat, i = .int .i64 x ∧ x ≤ 16 ∧ Hid (∀ x', x' < x → ∀ i, i < (D x').length → RCc D x' i) ∧ Below w1.heap.size w1 wr) (fun i _ => 16 - (intOf i).toNat)
  case atStart => exact ⟨0, rfl, by omega, Lib.hid (fun x' h => by omega), Below.refl _ _⟩
  case round =>
    obtain ⟨x, rfl, hx, HX1, b1⟩ := hrel
    by_cases hx16 : x < 16
    rotate_left 1
    · obtain rfl : x = 16 := by omega
      go_wp2_with fail
      go_ret
      exact ⟨true, rfl, ⟨fun _ => fun x' hx' => HX1.out x' hx', fun _ => rfl⟩, hb0.trans (b1.mono hs1)⟩
    have hxi : (x : Int) < 16 := by omega
    have hI := HI.out x hx16
    have hrow := HR.out x hx16
    have hle := H.out.le x hx16
    have hcap := H.out.cap x hx16
    unfold maxLen at hcap
    obtain ⟨m, hm⟩ : ∃ q, (D x).length = q := ⟨_, rfl⟩
    obtain ⟨Ax, hAx⟩ : ∃ q, A x = q := ⟨_, rfl⟩
    obtain ⟨Kx, hKx⟩ : ∃ q, K x = q := ⟨_, rfl⟩
    rw [hm, hAx] at hrow
    rw [hm, hKx] at hle
    rw [hKx] at hcap
    simp only [hm, hAx, hKx] at hI
    have HM := Lib.hid hm
    have hm63 : (m : Int) ≤ 9223372036854775807 := by omega
    clear hm hAx hKx
    go_wp2_with fail
    clear hI
    go_loopw [20] (fun i wr => ∃ k : Nat, i = .int .i64 k ∧ k ≤ m ∧ Hid (∀ i, i < k → RCc D x i) ∧ Below w1.heap.size w1 wr) (fun i _ => m - (intOf i).toNat)
    case atStart => exact ⟨0, rfl, by omega, Lib.hid (fun i h => by omega), b1⟩
    case round =>
      clear b1
      obtain ⟨k, rfl, hk, HK, b2⟩ := hrel
      by_cases hlt : k < m
      rotate_left 1
      · obtain rfl : k = m := by omega
        have g4 : decide ((k : Int) < (k : Int)) = false := by simp
        have HX2 : Hid (∀ x', x' < x + 1 → ∀ i, i < (D x').length → RCc D x' i) := Lib.hid (fun x' h i hi => by
          by_cases e : x' = x
          · subst e
            exact HK.out i (by rw [HM.out] at hi; exact hi)
          · exact HX1.out x' (by omega) i hi)
        go_wp2_with fail
        exact ⟨⟨x + 1, by simp, by omega, HX2, b2⟩, by simp [intOf]; omega⟩
      obtain ⟨bo, off, rfl, _, d0, d1, d2, d3, d4⟩ := crow hrow b2 hlt
      obtain ⟨e, he⟩ : ∃ e, at_ (D x) k = e := ⟨_, rfl⟩
      have HE := Lib.hid he
      rw [he] at d0 d1 d2 d3 d4
      have PM : ∀ w, _ := fun w => ref_may e.f e.s e.c e.o e.p w
      obtain ⟨mq, hmq⟩ : ∃ q, mayC e.f e.s e.c e.o e.p = q := ⟨_, rfl⟩
      rw [hmq] at PM
      obtain ⟨oq, hoq⟩ : ∃ q, Go.bits .and .i64 e.o 4 = q := ⟨_, rfl⟩
      have HQ : Hid (okc' (at_ (D x) k) = (mq && (oq == 0))) := Lib.hid (by rw [he]; unfold okc' C.may; rw [hmq, hoq])
      obtain ⟨xf, xs, xc, xo, xp⟩ := e
      dsimp only at *
      clear hmq he
      have hs2 := b2.size
      have ox := Own.new wr 69 #[.int .i64 xf, .int .i64 xs, .int .i64 xc, .int .i64 xo, .int .i64 xp]
      have bx : Below w1.heap.size w1 (wr.alloc (.cells #[.int .i64 xf, .int .i64 xs, .int .i64 xc, .int .i64 xo, .int .i64 xp] 69)) := b2.alloc hs2 _
      go_upto_region 7 with (fail)
      generalize wr.alloc (.cells #[.int .i64 xf, .int .i64 xs, .int .i64 xc, .int .i64 xo, .int .i64 xp] 69) = wx at *
      obtain ⟨r0, hr0⟩ : ∃ q, wr.heap.size = q := ⟨_, rfl⟩
      rw [hr0] at ox ⊢
      clear hr0 d0 d1 d2 d3 d4 b2 hs2
      clear wr
      have c0 : wx.cell? ⟨r0, 0, none⟩ = some (.int .i64 xf) := ox.cell 0
      have c1 : wx.cell? ⟨r0, 1, none⟩ = some (.int .i64 xs) := ox.cell 1
      have c2 : wx.cell? ⟨r0, 2, none⟩ = some (.int .i64 xc) := ox.cell 2
      have c3 : wx.cell? ⟨r0, 3, none⟩ = some (.int .i64 xo) := ox.cell 3
      have c4 : wx.cell? ⟨r0, 4, none⟩ = some (.int .i64 xp) := ox.cell 4
      go_wp2_with fail
      clear c0 c1 c2 c3 c4
      refine (PM _).mono ?_
      rintro q w5 ⟨rfl, j5⟩
      have o5 := below_own j5 ox ox.lt
      have b5 := bx.trans (j5.mono bx.size)
      clear j5 ox bx PM
      have c0 : w5.cell? ⟨r0, 0, none⟩ = some (.int .i64 xf) := o5.cell 0
      have c1 : w5.cell? ⟨r0, 1, none⟩ = some (.int .i64 xs) := o5.cell 1
      have c2 : w5.cell? ⟨r0, 2, none⟩ = some (.int .i64 xc) := o5.cell 2
      have c3 : w5.cell? ⟨r0, 3, none⟩ = some (.int .i64 xo) := o5.cell 3
      have c4 : w5.cell? ⟨r0, 4, none⟩ = some (.int .i64 xp) := o5.cell 4
      cases mq
      · have HF : Hid (okc' (at_ (D x) k) = false) := Lib.hid (by rw [HQ.out]; rfl)
        go_wp2_with fail
        go_ret
        refine ⟨false, rfl, ⟨fun h => (by cases h), fun hRC => ?_⟩, hb0.trans (b5.mono hs1)⟩
        have := (hRC x hx16 k (by rw [HM.out]; exact hlt)).1
        rw [HF.out] at this
        cases this
      by_cases hq0 : oq = 0
      rotate_left 1
      · have g0 : (oq != 0) = true := by simpa using hq0
        have HF : Hid (okc' (at_ (D x) k) = false) := Lib.hid (by rw [HQ.out]; simpa using hq0)
        clear hq0
        go_wp2_with fail
        go_ret
        refine ⟨false, rfl, ⟨fun h => (by cases h), fun hRC => ?_⟩, hb0.trans (b5.mono hs1)⟩
        have := (hRC x hx16 k (by rw [HM.out]; exact hlt)).1
        rw [HF.out] at this
        cases this
      subst hq0
      have HOK : Hid (okc' (at_ (D x) k) = true) := Lib.hid (by rw [HQ.out]; rfl)
      have q1 : ∀ wq : World, (Instr.slice 33 (.slice (some ⟨bo, off, none⟩) m Kx) none (some (.int .i64 (k : Int))) none).run Try.prog wq = .ok (.slice (some ⟨bo, off, none⟩) k Kx) wq := fun wq => cut_to 33 69 5 Try.underlying33 size_cc _ m Kx k (by omega) wq
      have g1 : ((0 : Int) != 0) = false := by decide
      go_wp2_with fail
      clear c0 c1 c2 c3 c4 q1
      go_loopw [38] (fun i wz => ∃ j : Nat, i = .int .i64 j ∧ j ≤ k ∧ Hid (∀ j', j' < j → clashB ⟨xf, xs, xc, xo, xp⟩ (at_ (D x) j') x x = false) ∧ Below w1.heap.size w1 wz ∧ Own wz r0 69 #[.int .i64 xf, .int .i64 xs, .int .i64 xc, .int .i64 xo, .int .i64 xp]) (fun i _ => k - (intOf i).toNat)
      case atStart => exact ⟨0, rfl, by omega, Lib.hid (fun j' h => by omega), b5, o5⟩
      case round =>
        clear b5 o5
        obtain ⟨j, rfl, hj, HJ, b6, o6⟩ := hrel
        by_cases hjk : j < k
        · obtain ⟨bo2, off2, hA2, _, d0, d1, d2, d3, d4⟩ := crow hrow b6 (show j < m by omega)
          injection hA2 with hA2
          injection hA2 with e1 e2 _
          subst e1 e2
          obtain ⟨y, hy⟩ : ∃ y, at_ (D x) j = y := ⟨_, rfl⟩
          have HY := Lib.hid hy
          rw [hy] at d0 d1 d2 d3 d4
          have PC : ∀ w, _ := fun w => rclash_any ⟨xf, xs, xc, xo, xp⟩ y (x : Int) (x : Int) w
          obtain ⟨cq, hcq⟩ : ∃ q, clashB ⟨xf, xs, xc, xo, xp⟩ y (x : Int) (x : Int) = q := ⟨_, rfl⟩
          rw [hcq] at PC
          have HCQ := Lib.hid hcq
          obtain ⟨yf, ys, yc, yo, yp⟩ := y
          dsimp only at *
          clear hy hcq
          have hs6 := b6.size
          have oy := Own.new wr 69 #[.int .i64 yf, .int .i64 ys, .int .i64 yc, .int .i64 yo, .int .i64 yp]
          have oz := o6.alloc (.cells #[.int .i64 yf, .int .i64 ys, .int .i64 yc, .int .i64 yo, .int .i64 yp] 69)
          have bz : Below w1.heap.size w1 (wr.alloc (.cells #[.int .i64 yf, .int .i64 ys, .int .i64 yc, .int .i64 yo, .int .i64 yp] 69)) := b6.alloc hs6 _
          go_upto_region 12 with (fail)
          generalize wr.alloc (.cells #[.int .i64 yf, .int .i64 ys, .int .i64 yc, .int .i64 yo, .int .i64 yp] 69) = wy at *
          obtain ⟨r2, hr2⟩ : ∃ q, wr.heap.size = q := ⟨_, rfl⟩
          rw [hr2] at oy ⊢
          clear hr2 d0 d1 d2 d3 d4 b6 o6 hs6
          clear wr
          have c0 : wy.cell? ⟨r0, 0, none⟩ = some (.int .i64 xf) := oz.cell 0
          have c1 : wy.cell? ⟨r0, 1, none⟩ = some (.int .i64 xs) := oz.cell 1
          have c2 : wy.cell? ⟨r0, 2, none⟩ = some (.int .i64 xc) := oz.cell 2
          have c3 : wy.cell? ⟨r0, 3, none⟩ = some (.int .i64 xo) := oz.cell 3
          have c4 : wy.cell? ⟨r0, 4, none⟩ = some (.int .i64 xp) := oz.cell 4
          have f0 : wy.cell? ⟨r2, 0, none⟩ = some (.int .i64 yf) := oy.cell 0
          have f1 : wy.cell? ⟨r2, 1, none⟩ = some (.int .i64 ys) := oy.cell 1
          have f2 : wy.cell? ⟨r2, 2, none⟩ = some (.int .i64 yc) := oy.cell 2
          have f3 : wy.cell? ⟨r2, 3, none⟩ = some (.int .i64 yo) := oy.cell 3
          have f4 : wy.cell? ⟨r2, 4, none⟩ = some (.int .i64 yp) := oy.cell 4
          go_wp2_with fail
          clear c0 c1 c2 c3 c4 f0 f1 f2 f3 f4
          refine (PC _).mono ?_
          rintro q w8 ⟨rfl, j8⟩
          have b8 := bz.trans (j8.mono bz.size)
          have o8 := below_own j8 oz oz.lt
          cases cq
          · have HJ2 : Hid (∀ j', j' < j + 1 → clashB ⟨xf, xs, xc, xo, xp⟩ (at_ (D x) j') x x = false) := Lib.hid (fun j' h => by
              by_cases e : j' = j
              · rw [e, HY.out]; exact HCQ.out
              · exact HJ.out j' (by omega))
            go_wp2_with fail
            exact ⟨⟨j + 1, by simp, by omega, HJ2, b8, o8⟩, by simp [intOf]; omega⟩
          · go_wp2_with fail
            go_ret
            refine ⟨false, rfl, ⟨fun h => (by cases h), fun hRC => ?_⟩, hb0.trans (b8.mono hs1)⟩
            have := (hRC x hx16 k (by rw [HM.out]; exact hlt)).2.1 j hjk
            rw [HE.out, HY.out, HCQ.out] at this
            cases this
        · obtain rfl : j = k := by omega
          have g6 : decide ((j : Int) < (j : Int)) = false := by simp
          have HJK := Lib.hid HJ.out
          go_wp2_with fail
          go_loopw [49] (fun i wz => ∃ y : Nat, i = .int .i64 y ∧ y ≤ x ∧ Hid (∀ y', y' < y → ∀ j', j' < (D y').length → clashB ⟨xf, xs, xc, xo, xp⟩ (at_ (D y') j') x y' = false) ∧ Below w1.heap.size w1 wz ∧ Own wz r0 69 #[.int .i64 xf, .int .i64 xs, .int .i64 xc, .int .i64 xo, .int .i64 xp]) (fun i _ => x - (intOf i).toNat)
          case atStart => exact ⟨0, rfl, by omega, Lib.hid (fun y' h => by omega), b6, o6⟩
          case round =>
            clear b6 o6
            obtain ⟨y, rfl, hy, HYY, b7, o7⟩ := hrel
            by_cases hyx : y < x
            rotate_left 1
            · obtain rfl : y = x := by omega
              have g7 : decide ((y : Int) < (y : Int)) = false := by simp
              have HK2 : Hid (∀ i, i < j + 1 → RCc D y i) := Lib.hid (fun i h => by
                by_cases e : i = j
                · rw [e]
                  refine ⟨HOK.out, fun j' h' => ?_, fun y' h' j' h'' => ?_⟩
                  · rw [HE.out]; exact HJK.out j' h'
                  · rw [HE.out]; exact HYY.out y' h' j' h''
                · exact HK.out i (by omega))
              go_wp2_with fail
              exact ⟨⟨j + 1, by simp, by omega, HK2, b7⟩, by simp [intOf]; omega⟩
            have hy16 : y < 16 := by omega
            have hyi : (y : Int) < 16 := by omega
            have ob7 : Blk wr r1 36 16 (fun i => .slice (A i) (D i).length (K i)) := (b7.block r1 ob.lt).trans ob
            have cy := ob7.cell hy16
            have hrow2 := HR.out y hy16
            have hle2 := H.out.le y hy16
            have hcap2 := H.out.cap y hy16
            unfold maxLen at hcap2
            obtain ⟨m2, hm2⟩ : ∃ q, (D y).length = q := ⟨_, rfl⟩
            obtain ⟨A2, hA2⟩ : ∃ q, A y = q := ⟨_, rfl⟩
            obtain ⟨K2, hK2⟩ : ∃ q, K y = q := ⟨_, rfl⟩
            rw [hm2, hA2] at hrow2
            rw [hm2, hK2] at hle2
            rw [hK2] at hcap2
            rw [hm2, hA2, hK2] at cy
            have HM2 := Lib.hid hm2
            have hm263 : (m2 : Int) ≤ 9223372036854775807 := by omega
            clear hm2 hA2 hK2 ob7
            go_wp2_with fail
            clear cy
            go_loopw [57] (fun i wz => ∃ t : Nat, i = .int .i64 t ∧ t ≤ m2 ∧ Hid (∀ j', j' < t → clashB ⟨xf, xs, xc, xo, xp⟩ (at_ (D y) j') x y = false) ∧ Below w1.heap.size w1 wz ∧ Own wz r0 69 #[.int .i64 xf, .int .i64 xs, .int .i64 xc, .int .i64 xo, .int .i64 xp]) (fun i _ => m2 - (intOf i).toNat)
            case atStart => exact ⟨0, rfl, by omega, Lib.hid (fun j' h => by omega), b7, o7⟩
            case round =>
              clear b7 o7
              obtain ⟨t, rfl, ht, HT, b8, o8⟩ := hrel
              by_cases htm : t < m2
              · obtain ⟨bo2, off2, rfl, _, d0, d1, d2, d3, d4⟩ := crow hrow2 b8 htm
                obtain ⟨z, hz⟩ : ∃ z, at_ (D y) t = z := ⟨_, rfl⟩
                have HZ := Lib.hid hz
                rw [hz] at d0 d1 d2 d3 d4
                have PC : ∀ w, _ := fun w => rclash_any ⟨xf, xs, xc, xo, xp⟩ z (x : Int) (y : Int) w
                obtain ⟨cq, hcq⟩ : ∃ q, clashB ⟨xf, xs, xc, xo, xp⟩ z (x : Int) (y : Int) = q := ⟨_, rfl⟩
                rw [hcq] at PC
                have HCQ := Lib.hid hcq
                obtain ⟨yf, ys, yc, yo, yp⟩ := z
                dsimp only at *
                clear hz hcq
                have hs8 := b8.size
                have oy := Own.new wr 69 #[.int .i64 yf, .int .i64 ys, .int .i64 yc, .int .i64 yo, .int .i64 yp]
                have oz := o8.alloc (.cells #[.int .i64 yf, .int .i64 ys, .int .i64 yc, .int .i64 yo, .int .i64 yp] 69)
                have bz : Below w1.heap.size w1 (wr.alloc (.cells #[.int .i64 yf, .int .i64 ys, .int .i64 yc, .int .i64 yo, .int .i64 yp] 69)) := b8.alloc hs8 _
                go_upto_region 21 with (fail)
                generalize wr.alloc (.cells #[.int .i64 yf, .int .i64 ys, .int .i64 yc, .int .i64 yo, .int .i64 yp] 69) = wy at *
                obtain ⟨r2, hr2⟩ : ∃ q, wr.heap.size = q := ⟨_, rfl⟩
                rw [hr2] at oy ⊢
                clear hr2 d0 d1 d2 d3 d4 b8 o8 hs8
                clear wr
                have c0 : wy.cell? ⟨r0, 0, none⟩ = some (.int .i64 xf) := oz.cell 0
                have c1 : wy.cell? ⟨r0, 1, none⟩ = some (.int .i64 xs) := oz.cell 1
                have c2 : wy.cell? ⟨r0, 2, none⟩ = some (.int .i64 xc) := oz.cell 2
                have c3 : wy.cell? ⟨r0, 3, none⟩ = some (.int .i64 xo) := oz.cell 3
                have c4 : wy.cell? ⟨r0, 4, none⟩ = some (.int .i64 xp) := oz.cell 4
                have f0 : wy.cell? ⟨r2, 0, none⟩ = some (.int .i64 yf) := oy.cell 0
                have f1 : wy.cell? ⟨r2, 1, none⟩ = some (.int .i64 ys) := oy.cell 1
                have f2 : wy.cell? ⟨r2, 2, none⟩ = some (.int .i64 yc) := oy.cell 2
                have f3 : wy.cell? ⟨r2, 3, none⟩ = some (.int .i64 yo) := oy.cell 3
                have f4 : wy.cell? ⟨r2, 4, none⟩ = some (.int .i64 yp) := oy.cell 4
                go_wp2_with fail
                clear c0 c1 c2 c3 c4 f0 f1 f2 f3 f4
                refine (PC _).mono ?_
                rintro q w8 ⟨rfl, j8⟩
                have b9 := bz.trans (j8.mono bz.size)
                have o9 := below_own j8 oz oz.lt
                cases cq
                · have HT2 : Hid (∀ j', j' < t + 1 → clashB ⟨xf, xs, xc, xo, xp⟩ (at_ (D y) j') x y = false) := Lib.hid (fun j' h => by
                    by_cases e : j' = t
                    · rw [e, HZ.out]; exact HCQ.out
                    · exact HT.out j' (by omega))
                  go_wp2_with fail
                  exact ⟨⟨t + 1, by simp, by omega, HT2, b9, o9⟩, by simp [intOf]; omega⟩
                · go_wp2_with fail
                  go_ret
                  refine ⟨false, rfl, ⟨fun h => (by cases h), fun hRC => ?_⟩, hb0.trans (b9.mono hs1)⟩
                  have := (hRC x hx16 j (by rw [HM.out]; exact hlt)).2.2 y hyx t (by rw [HM2.out]; exact htm)
                  rw [HE.out, HZ.out, HCQ.out] at this
                  cases this
              · obtain rfl : t = m2 := by omega
                have g8 : decide ((t : Int) < (t : Int)) = false := by simp
                have HY2 : Hid (∀ y', y' < y + 1 → ∀ j', j' < (D y').length → clashB ⟨xf, xs, xc, xo, xp⟩ (at_ (D y') j') x y' = false) := Lib.hid (fun y' h j' h' => by
                  by_cases e : y' = y
                  · subst e
                    exact HT.out j' (by rw [HM2.out] at h'; exact h')
                  · exact HYY.out y' (by omega) j' h')
                go_wp2_with fail
                exact ⟨⟨y + 1, by simp, by omega, HY2, b8, o8⟩, by simp [intOf]; omega⟩
end Go.Proofs.Ytdpkiolngglpaaa.Al
