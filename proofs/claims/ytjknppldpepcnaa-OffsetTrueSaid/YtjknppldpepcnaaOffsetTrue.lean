/-
  Law OffsetTrue: where clocks drift by at most a tick a slot, and each that hears moves by what it measures, each is off by at most its bound; the call returns true. No condition.
-/
import Derived.Test.YtjknppldpepcnaaOffStep
import Derived.Test.YtjknppldpepcnaaBits
import Derived.Laws.MakeOwn
import Derived.Deep.CutRange
set_option maxRecDepth 100000
namespace Go.Proofs.Ytjknppldpepcnaa.OffsetTrue
set_option linter.unusedVariables false
open Go.RowKit Go.ChangeShapes Go.WideShapes Go.ChangeAt Go.Deep Lb Of
set_option linter.unusedVariables false
theorem own : ownKnob Try.prog.godebug = none := by kernel_rfl
theorem laidOut : laidOutB Try.prog = true := by kernel_rfl

def ol (O : Nat → Int) (j : Nat) : Value := .int .i64 (O j)
/-- Each that is known is off by at most its bound; none is off by more than m. -/
def Near (N : Nat) (K : Nat → Bool) (B O : Nat → Int) (m : Int) : Prop := K 0 = true ∧ B 0 = 0 ∧ O 0 = 0 ∧ ∀ j, j < N → (K j = true → -B j ≤ O j ∧ O j ≤ B j) ∧ -m ≤ O j ∧ O j ≤ m
theorem and_one_i64 (x : Int) : ∃ p, bits .and .i64 x 1 = p ∧ 0 ≤ p ∧ p ≤ 1 := by
  refine ⟨_, rfl, ?_⟩
  have h : bits .and .i64 x 1 = x % 2 := by
    have h1 : (BitVec.ofInt 64 x &&& BitVec.ofInt 64 1).toNat = (BitVec.ofInt 64 x).toNat % 2 := by
      rw [BitVec.toNat_and]
      exact Nat.and_one_is_mod _
    show IntKind.i64.wrap ((BitVec.ofInt 64 x &&& BitVec.ofInt 64 1).toNat : Int) = _
    rw [h1, BitVec.toNat_ofInt, IntKind.wrap_i64]
    omega
  rw [h]
  omega
theorem run_shr_i64 (P : Program) (yk : IntKind) (x d : Int) (hd : 0 ≤ d) (w : World) :
    Sem.run P (Op.shift .shr .i64 x yk d) w = .ok (.int .i64 (x.fdiv (2 ^ min d.toNat 64))) w := by
  have e : ¬ d < 0 := by omega
  unfold Op.shift
  rw [if_neg e]
  rfl

set_option maxHeartbeats 1000000 in
theorem body (nn : Int) (a : Option Addr) (n c : Nat) (V : Nat → Value) (X0 X1 X2 X3 : Nat → Int) (w : World) (hn : n ≤ c) (hm : c ≤ maxLen) (hV : Row w a (n * 4) V)
    (h0 : ∀ i, i < n → V (i * 4 + 0) = .int .i64 (X0 i)) (h1 : ∀ i, i < n → V (i * 4 + 1) = .int .i64 (X1 i)) (h2 : ∀ i, i < n → V (i * 4 + 2) = .int .i64 (X2 i)) (h3 : ∀ i, i < n → V (i * 4 + 3) = .int .i64 (X3 i)) :
    Calls Try.prog 6 #[.int .i64 nn, .slice a n c] w fun e w' => e = .returned (.bool true) ∧ Below w.heap.size w w' := by
  obtain ⟨i0, hi0, hz0, hz1, hz2⟩ := info_parts infoL
  unfold maxLen at hm
  have H0 := Lib.hid h0
  have H1 := Lib.hid h1
  have H2 := Lib.hid h2
  have H3 := Lib.hid h3
  clear h0 h1 h2 h3
  have un := u64_pos nn
  obtain ⟨N, hN, N0, N1⟩ : ∃ N : Nat, 2 + IntKind.u64.wrap nn % 15 = (N : Int) ∧ 2 ≤ N ∧ N ≤ 16 := ⟨(2 + IntKind.u64.wrap nn % 15).toNat, by omega, by omega, by omega⟩
  have hmk : ∀ w : World, (Instr.makeSlice 40 (.int .i64 (N : Int)) (.int .i64 (N : Int))).run Try.prog w = .ok (.slice (some ⟨w.heap.size, 0, none⟩) N N) (w.alloc (.cells (madeCells #[.int .i64 0] N) 2)) := by
    intro w
    have := run_make w 40 2 i0 (.int .i64 0) Try.underlying40 hi0 hz0 .i64 .i64 (N : Int) (N : Int) (by omega) (by omega) (by rw [hz2]; omega) (by omega)
    rw [this, hz1]
    simp [Value.cells]
  have HCS : Hid (madeCells #[Value.int .i64 0] N = (List.replicate N (Value.int .i64 0)).toArray) := Lib.hid (by
    apply Array.toList_inj.1
    simpa using toList_madeCells_one (Value.int .i64 0) N)
  go_enter Try.func6, Try.ntmps6
  go_wp2_with fail
  clear un hN
  refine (new_any _ _).mono ?_
  rintro r w1 ⟨rfl, k1, b1, z1⟩
  rw [show (lim (N : Int) 1 16).toNat = N by unfold lim; omega] at k1
  go_wp2_with fail
  have o1 : Blk (w1.alloc (.cells (madeCells #[.int .i64 0] N) 2)) w1.heap.size 2 N (ol (fun _ => 0)) := Blk.ext (Blk.same (Own.new _ _ _) HCS.out) (fun i hi => rfl)
  have k2 : Prf (w1.alloc (.cells (madeCells #[.int .i64 0] N) 2)) w.heap.size N (upd (fun _ => false) 0 true) (fun _ => 0) := Blk.alloc k1 _
  have b2 := b1.alloc (Nat.le_of_lt z1) (.cells (madeCells #[.int .i64 0] N) 2)
  generalize w1.alloc (.cells (madeCells #[.int .i64 0] N) 2) = w2 at *
  obtain ⟨g, hg⟩ : ∃ g, g = w1.heap.size := ⟨_, rfl⟩
  rw [← hg] at o1 z1 ⊢
  clear hg hmk b1 k1 HCS
  go_loopw [30] (fun i wr => ∃ (k : Nat) (K : Nat → Bool) (B O : Nat → Int), i = .int .i64 k ∧ k ≤ n ∧ k ≤ 300 ∧ Prf wr w.heap.size N K B ∧ Blk wr g 2 N (ol O) ∧ Fit K B (1000 * (k : Int)) ∧ Near N K B O (40000 * (k : Int)) ∧ Below w.heap.size w wr) (fun i _ => n - (intOf i).toNat)
  case atStart => exact ⟨0, _, _, _, rfl, by omega, by omega, k2, o1, fun i => ⟨fun _ => rfl, Int.le_refl _, Int.le_refl _⟩, ⟨rfl, rfl, rfl, fun j hj => ⟨fun _ => ⟨Int.le_refl _, Int.le_refl _⟩, by simp, by simp⟩⟩, b2⟩
  case round =>
    obtain ⟨k, K, B, O, rfl, hk, hk3, kk, oo, ff, nr, bb⟩ := hrel
    by_cases hlt : k < n ∧ k < 300
    · obtain ⟨hlt, h300⟩ := hlt
      obtain ⟨b, o, rfl, hb, hc⟩ := hV.at_struct bb hlt (by decide)
      have c0 : wr.cell? ⟨b, o + k * 4, none⟩ = some (.int .i64 (X0 k)) := (hc 0 (by decide)).trans (congrArg some (H0.out k hlt))
      have c1 : wr.cell? ⟨b, o + k * 4 + 1, none⟩ = some (.int .i64 (X1 k)) := (hc 1 (by decide)).trans (congrArg some (H1.out k hlt))
      have c2 : wr.cell? ⟨b, o + k * 4 + 2, none⟩ = some (.int .i64 (X2 k)) := (hc 2 (by decide)).trans (congrArg some (H2.out k hlt))
      have c3 : wr.cell? ⟨b, o + k * 4 + 3, none⟩ = some (.int .i64 (X3 k)) := (hc 3 (by decide)).trans (congrArg some (H3.out k hlt))
      clear hc hV
      have hf0 : Hid (Fit K B (1000 * (k : Int))) := Lib.hid ff
      have hn0 : Hid (Near N K B O (40000 * (k : Int))) := Lib.hid nr
      have hfm : Hid (∀ j, 0 ≤ B j ∧ B j ≤ 4000000000000) := Lib.hid (fun j => by obtain ⟨_, f2, f3⟩ := ff j; exact ⟨f2, by omega⟩)
      have hfb : Hid (∀ j, -1000000000000 ≤ B j) := Lib.hid (fun j => by obtain ⟨_, f2, f3⟩ := ff j; omega)
      clear ff nr
      have hzz : wr.heap.size ≠ g := by have := oo.lt; omega
      by_cases hx0 : X0 k = 0
      · rw [hx0] at c0
        clear hx0
        go_wp2_with fail
        have ox : Own (wr.alloc (.cells #[.int .i64 0, .int .i64 (X1 k), .int .i64 (X2 k), .int .i64 (X3 k)] 32)) wr.heap.size 32 #[.int .i64 0, .int .i64 (X1 k), .int .i64 (X2 k), .int .i64 (X3 k)] := Own.new _ _ _
        have kx : Prf (wr.alloc (.cells #[.int .i64 0, .int .i64 (X1 k), .int .i64 (X2 k), .int .i64 (X3 k)] 32)) w.heap.size N K B := Blk.alloc kk _
        have vx : Blk (wr.alloc (.cells #[.int .i64 0, .int .i64 (X1 k), .int .i64 (X2 k), .int .i64 (X3 k)] 32)) g 2 N (ol O) := Blk.alloc oo _
        have bx := bb.alloc bb.size (.cells #[.int .i64 0, .int .i64 (X1 k), .int .i64 (X2 k), .int .i64 (X3 k)] 32)
        have zx : wr.heap.size < (wr.alloc (.cells #[.int .i64 0, .int .i64 (X1 k), .int .i64 (X2 k), .int .i64 (X3 k)] 32)).heap.size := by simp
        have hgz : g < wr.heap.size := oo.lt
        generalize wr.alloc (.cells #[.int .i64 0, .int .i64 (X1 k), .int .i64 (X2 k), .int .i64 (X3 k)] 32) = wx at *
        have x1 : wx.cell? ⟨wr.heap.size, 1, none⟩ = some (.int .i64 (X1 k)) := ox.cell 1
        have x2 : wx.cell? ⟨wr.heap.size, 2, none⟩ = some (.int .i64 (X2 k)) := ox.cell 2
        have x3 : wx.cell? ⟨wr.heap.size, 3, none⟩ = some (.int .i64 (X3 k)) := ox.cell 3
        clear c0 c1 c2 c3 bb kk oo
        generalize wr.heap.size = q0 at *
        refine (slot_any _ N _ _ _ kx (by omega) N1 hfb.out).mono ?_
        rintro r w4 ⟨rfl, k4, j4⟩
        have v4 := j4.blk vx (by omega)
        have b4 := j4.below bx (Nat.le_refl _) (by have := kx.lt; omega)
        have ox4 := j4.own ox (by have := kx.lt; omega)
        clear x1 x2 x3 kx vx bx ox
        go_wp2_with fail
        go_loopw [9] (fun i w5 => ∃ (j : Nat) (O' : Nat → Int), i = .int .i64 j ∧ 1 ≤ j ∧ j ≤ N ∧ Prf w5 w.heap.size N K (tick N K B N) ∧ Blk w5 g 2 N (ol O') ∧ Own w5 q0 32 #[.int .i64 0, .int .i64 (X1 k), .int .i64 (X2 k), .int .i64 (X3 k)] ∧ Hid (∀ q, (q < j → 0 < q → O q - 1 ≤ O' q ∧ O' q ≤ O q + 1) ∧ (q = 0 ∨ j ≤ q → O' q = O q)) ∧ Below w.heap.size w w5) (fun i _ => N - (intOf i).toNat)
        case atStart => exact ⟨1, O, rfl, by omega, by omega, k4, v4, ox4, Lib.hid (fun q => ⟨fun h1 h2 => by omega, fun _ => rfl⟩), b4⟩
        case round =>
          obtain ⟨j, O', rfl, hj1, hj, k5, v5, ox5, HO, b5⟩ := hrel
          by_cases hj2 : j < N
          · have x1 : wr.cell? ⟨q0, 1, none⟩ = some (.int .i64 (X1 k)) := ox5.cell 1
            have x2 : wr.cell? ⟨q0, 2, none⟩ = some (.int .i64 (X2 k)) := ox5.cell 2
            have ho := (HO.out j).2 (.inr (Nat.le_refl _))
            have hob := hn0.out.2.2.2 j hj2
            have cj : wr.cell? ⟨g, j, none⟩ = some (.int .i64 (O j)) := by rw [v5.cell hj2]; unfold ol; rw [ho]
            have fj : wr.frozen? ⟨g, j, none⟩ = false := v5.free j
            obtain ⟨p1, hp1, p10, p11⟩ := and_one_i64 (X1 k / 2 ^ j)
            obtain ⟨p2, hp2, p20, p21⟩ := and_one_i64 (X2 k / 2 ^ j)
            have e1 : IntKind.i64.wrap (p1 - p2) = p1 - p2 := IntWalk.i64_in _ (by omega)
            have e2 : IntKind.i64.wrap (O j + (p1 - p2)) = O j + (p1 - p2) := IntWalk.i64_in _ (by omega)
            have e3 : IntKind.u64.wrap (j : Int) = j := by rw [IntKind.wrap_u64]; omega
            clear ho hob
            go_wp2_with fail
            go_region
            all_goals
              go_wp2_with fail
              have v6 : Blk ((wr.setCell ⟨g, j, none⟩ (.int .i64 (O j + (p1 - p2)))).drewN 1) g 2 N (ol (upd O' j (O j + (p1 - p2)))) := Blk.ext (Blk.drewN (v5.put j _) 1) (fun q _ => by unfold ol upd; split <;> rfl)
              have j6 : Just g wr ((wr.setCell ⟨g, j, none⟩ (.int .i64 (O j + (p1 - p2)))).drewN 1) := (Just.set g wr j _).drewN 1
              refine ⟨⟨j + 1, upd O' j (O j + (p1 - p2)), by go_num, by omega, by omega, j6.blk k5 (by omega), v6, j6.own ox5 (by omega), Lib.hid (fun q => ⟨fun h1 h2 => ?_, fun h1 => ?_⟩), j6.below b5 (by omega) (by have := k5.lt; omega)⟩, by simp [intOf]; omega⟩
              · unfold upd
                by_cases hq : q = j
                · subst hq; rw [if_pos rfl]; omega
                · rw [if_neg hq]; exact (HO.out q).1 (by omega) h2
              · unfold upd
                rw [if_neg (by omega)]
                exact (HO.out q).2 (by omega)
          · obtain rfl : N = j := by omega
            have F5 : Hid (Fit K (tick N K B N) (1000 * ((k + 1 : Nat) : Int))) := Lib.hid (by
              have := fit_tick (N := N) hf0.out N
              intro q
              obtain ⟨t1, t2, t3⟩ := this q
              exact ⟨t1, t2, by omega⟩)
            have N5 : Hid (Near N K (tick N K B N) O' (40000 * ((k + 1 : Nat) : Int))) := Lib.hid (by
              obtain ⟨n1, n2, n3, n4⟩ := hn0.out
              refine ⟨n1, ?_, ?_, fun q hq => ?_⟩
              · unfold tick; rw [if_neg (by omega)]; exact n2
              · rw [(HO.out 0).2 (.inl rfl)]; exact n3
              · obtain ⟨m1, m2, m3⟩ := n4 q hq
                have hfq := (hf0.out q).2.2
                by_cases hq0 : q = 0
                · subst hq0
                  rw [(HO.out 0).2 (.inl rfl)]
                  unfold tick
                  rw [if_neg (by omega)]
                  exact ⟨m1, by omega, by omega⟩
                · have m4 := (HO.out q).1 hq (by omega)
                  refine ⟨fun hkq => ?_, by omega, by omega⟩
                  have m5 := m1 hkq
                  unfold tick
                  rw [if_pos ⟨by omega, hq, hkq, by omega⟩]
                  omega)
            generalize tick N K B N = B' at *
            obtain ⟨K', rfl⟩ : ∃ K', K' = K := ⟨K, rfl⟩
            clear HO ox5 hj2
            go_wp2_with fail
            go_loopw [140] (fun i w6 => ∃ j : Nat, i = .int .i64 j ∧ j ≤ N ∧ Prf w6 w.heap.size N K' B' ∧ Blk w6 g 2 N (ol O') ∧ Below w.heap.size w w6) (fun i _ => N - (intOf i).toNat)
            case atStart => exact ⟨0, rfl, by omega, k5, v5, b5⟩
            case round =>
              obtain ⟨j, rfl, hj, k6, v6, b6⟩ := hrel
              by_cases hj2 : j < N
              · obtain ⟨m1, m2, m3⟩ := N5.out.2.2.2 j hj2
                have m4 := (F5.out j).2.1
                cases hKj : K' j
                · have HKJ := Lib.hid hKj
                  clear hKj m1
                  go_wp2_with fail
                  refine (bound_in _ N j _ _ _ k6 hj2 N1).mono ?_
                  rintro r w7 ⟨rfl, m, rfl⟩
                  rw [HKJ.out]
                  go_wp2_with fail
                  exact ⟨⟨j + 1, by go_num, by omega, Blk.drewN k6 m, Blk.drewN v6 m, below_drewN b6 m⟩, by simp [intOf]; omega⟩
                · have HKJ := Lib.hid hKj
                  obtain ⟨m5, m6⟩ := m1 hKj
                  clear hKj m1
                  have q1 : decide (B' j < O' j) = false := by simp; omega
                  have q2 : decide (B' j < -O' j) = false := by simp; omega
                  go_wp2_with fail
                  refine (bound_in _ N j _ _ _ k6 hj2 N1).mono ?_
                  rintro r w7 ⟨rfl, m, rfl⟩
                  rw [HKJ.out]
                  have cj : (wr.drewN m).cell? ⟨g, j, none⟩ = some (.int .i64 (O' j)) := (Blk.drewN v6 m).cell hj2
                  go_wp2_with fail
                  exact ⟨⟨j + 1, by go_num, by omega, Blk.drewN k6 m, Blk.drewN v6 m, below_drewN b6 m⟩, by simp [intOf]; omega⟩
              · obtain rfl : N = j := by omega
                go_wp2_with fail
                exact ⟨⟨k + 1, K', B', O', by go_num, by omega, by omega, k6, v6, F5.out, N5.out, b6⟩, by simp [intOf]; omega⟩
      · by_cases hx1 : X0 k = 1
        · rw [hx1] at c0
          clear hx0 hx1
          go_wp2_with fail
          have ox : Own (wr.alloc (.cells #[.int .i64 1, .int .i64 (X1 k), .int .i64 (X2 k), .int .i64 (X3 k)] 32)) wr.heap.size 32 #[.int .i64 1, .int .i64 (X1 k), .int .i64 (X2 k), .int .i64 (X3 k)] := Own.new _ _ _
          have kx : Prf (wr.alloc (.cells #[.int .i64 1, .int .i64 (X1 k), .int .i64 (X2 k), .int .i64 (X3 k)] 32)) w.heap.size N K B := Blk.alloc kk _
          have vx : Blk (wr.alloc (.cells #[.int .i64 1, .int .i64 (X1 k), .int .i64 (X2 k), .int .i64 (X3 k)] 32)) g 2 N (ol O) := Blk.alloc oo _
          have bx := bb.alloc bb.size (.cells #[.int .i64 1, .int .i64 (X1 k), .int .i64 (X2 k), .int .i64 (X3 k)] 32)
          have zx : wr.heap.size < (wr.alloc (.cells #[.int .i64 1, .int .i64 (X1 k), .int .i64 (X2 k), .int .i64 (X3 k)] 32)).heap.size := by simp
          have hgz : g < wr.heap.size := oo.lt
          generalize wr.alloc (.cells #[.int .i64 1, .int .i64 (X1 k), .int .i64 (X2 k), .int .i64 (X3 k)] 32) = wx at *
          have x1 : wx.cell? ⟨wr.heap.size, 1, none⟩ = some (.int .i64 (X1 k)) := ox.cell 1
          have x2 : wx.cell? ⟨wr.heap.size, 2, none⟩ = some (.int .i64 (X2 k)) := ox.cell 2
          have x3 : wx.cell? ⟨wr.heap.size, 3, none⟩ = some (.int .i64 (X3 k)) := ox.cell 3
          clear c0 c1 c2 c3 bb kk oo
          generalize wr.heap.size = q0 at *
          refine (lose_any _ N _ _ _ _ kx (by omega) N1).mono ?_
          rintro r w4 ⟨rfl, k5, j4⟩
          have v5 := j4.blk vx (by omega)
          have b5 := j4.below bx (Nat.le_refl _) (by have := kx.lt; omega)
          clear x1 x2 x3 kx vx bx ox
          have F5 : Hid (Fit (lK N K (X1 k)) (lB N B (X1 k)) (1000 * ((k + 1 : Nat) : Int))) := Lib.hid (by
            have := fit_lose (N := N) hf0.out (by omega) (X1 k)
            intro j
            obtain ⟨t1, t2, t3⟩ := this j
            exact ⟨t1, t2, by omega⟩)
          have N5 : Hid (Near N (lK N K (X1 k)) (lB N B (X1 k)) O (40000 * ((k + 1 : Nat) : Int))) := Lib.hid (by
            obtain ⟨n1, n2, n3, n4⟩ := hn0.out
            unfold lK lB
            by_cases hok : okL N (X1 k) = true
            · rw [if_pos hok, if_pos hok]
              unfold okL at hok
              simp at hok
              refine ⟨by rw [upd_other _ _ (by omega)]; exact n1, by rw [upd_other _ _ (by omega)]; exact n2, n3, fun q hq => ?_⟩
              obtain ⟨m1, m2, m3⟩ := n4 q hq
              refine ⟨fun hkq => ?_, by omega, by omega⟩
              unfold upd at hkq ⊢
              split at hkq
              · cases hkq
              · rename_i hqq; rw [if_neg hqq]; exact m1 hkq
            · rw [if_neg hok, if_neg hok]
              refine ⟨n1, n2, n3, fun q hq => ?_⟩
              obtain ⟨m1, m2, m3⟩ := n4 q hq
              exact ⟨m1, by omega, by omega⟩)
          generalize lB N B (X1 k) = B' at *
          generalize lK N K (X1 k) = K' at *
          obtain ⟨O', rfl⟩ : ∃ O', O' = O := ⟨O, rfl⟩
          go_wp2_with fail
          go_loopw [140] (fun i w6 => ∃ j : Nat, i = .int .i64 j ∧ j ≤ N ∧ Prf w6 w.heap.size N K' B' ∧ Blk w6 g 2 N (ol O') ∧ Below w.heap.size w w6) (fun i _ => N - (intOf i).toNat)
          case atStart => exact ⟨0, rfl, by omega, k5, v5, b5⟩
          case round =>
            obtain ⟨j, rfl, hj, k6, v6, b6⟩ := hrel
            by_cases hj2 : j < N
            · obtain ⟨m1, m2, m3⟩ := N5.out.2.2.2 j hj2
              have m4 := (F5.out j).2.1
              cases hKj : K' j
              · have HKJ := Lib.hid hKj
                clear hKj m1
                go_wp2_with fail
                refine (bound_in _ N j _ _ _ k6 hj2 N1).mono ?_
                rintro r w7 ⟨rfl, m, rfl⟩
                rw [HKJ.out]
                go_wp2_with fail
                exact ⟨⟨j + 1, by go_num, by omega, Blk.drewN k6 m, Blk.drewN v6 m, below_drewN b6 m⟩, by simp [intOf]; omega⟩
              · have HKJ := Lib.hid hKj
                obtain ⟨m5, m6⟩ := m1 hKj
                clear hKj m1
                have q1 : decide (B' j < O' j) = false := by simp; omega
                have q2 : decide (B' j < -O' j) = false := by simp; omega
                go_wp2_with fail
                refine (bound_in _ N j _ _ _ k6 hj2 N1).mono ?_
                rintro r w7 ⟨rfl, m, rfl⟩
                rw [HKJ.out]
                have cj : (wr.drewN m).cell? ⟨g, j, none⟩ = some (.int .i64 (O' j)) := (Blk.drewN v6 m).cell hj2
                go_wp2_with fail
                exact ⟨⟨j + 1, by go_num, by omega, Blk.drewN k6 m, Blk.drewN v6 m, below_drewN b6 m⟩, by simp [intOf]; omega⟩
            · obtain rfl : N = j := by omega
              go_wp2_with fail
              exact ⟨⟨k + 1, K', B', O', by go_num, by omega, by omega, k6, v6, F5.out, N5.out, b6⟩, by simp [intOf]; omega⟩
        · have y0 : (X0 k == 0) = false := by simpa using hx0
          have yy1 : (X0 k == 1) = false := by simpa using hx1
          clear hx0 hx1
          have ua := u64_pos (X1 k)
          have ub := u64_pos (X2 k)
          obtain ⟨A, hA, hAN⟩ : ∃ A : Nat, (IntKind.u64.wrap (X1 k)).tmod (N : Int) = (A : Int) ∧ A < N := by
            have h1 := Int.emod_nonneg (IntKind.u64.wrap (X1 k)) (show (N : Int) ≠ 0 by omega)
            have h2 := Int.emod_lt_of_pos (IntKind.u64.wrap (X1 k)) (show (0 : Int) < N by omega)
            rw [Int.tmod_eq_emod_of_nonneg ua]
            exact ⟨(IntKind.u64.wrap (X1 k) % (N : Int)).toNat, by omega, by omega⟩
          obtain ⟨D, hD, hDN⟩ : ∃ A : Nat, (IntKind.u64.wrap (X2 k)).tmod (N : Int) = (A : Int) ∧ A < N := by
            have h1 := Int.emod_nonneg (IntKind.u64.wrap (X2 k)) (show (N : Int) ≠ 0 by omega)
            have h2 := Int.emod_lt_of_pos (IntKind.u64.wrap (X2 k)) (show (0 : Int) < N by omega)
            rw [Int.tmod_eq_emod_of_nonneg ub]
            exact ⟨(IntKind.u64.wrap (X2 k) % (N : Int)).toNat, by omega, by omega⟩
          have eN : IntKind.u64.wrap (N : Int) = N := by rw [IntKind.wrap_u64]; omega
          have eA : IntKind.i64.wrap (A : Int) = A := IntWalk.i64_in _ (by omega)
          have eD : IntKind.i64.wrap (D : Int) = D := IntWalk.i64_in _ (by omega)
          have nz : ¬ (N : Int) = 0 := by omega
          have nz2 : ((N : Int) == 0) = false := by simp; omega
          obtain ⟨y4, y5⟩ := tmod_bd (X3 k) 1000 (by omega)
          go_wp2_with fail
          have ox : Own (wr.alloc (.cells #[.int .i64 (X0 k), .int .i64 (X1 k), .int .i64 (X2 k), .int .i64 (X3 k)] 32)) wr.heap.size 32 #[.int .i64 (X0 k), .int .i64 (X1 k), .int .i64 (X2 k), .int .i64 (X3 k)] := Own.new _ _ _
          have kx : Prf (wr.alloc (.cells #[.int .i64 (X0 k), .int .i64 (X1 k), .int .i64 (X2 k), .int .i64 (X3 k)] 32)) w.heap.size N K B := Blk.alloc kk _
          have vx : Blk (wr.alloc (.cells #[.int .i64 (X0 k), .int .i64 (X1 k), .int .i64 (X2 k), .int .i64 (X3 k)] 32)) g 2 N (ol O) := Blk.alloc oo _
          have bx := bb.alloc bb.size (.cells #[.int .i64 (X0 k), .int .i64 (X1 k), .int .i64 (X2 k), .int .i64 (X3 k)] 32)
          have zx : wr.heap.size < (wr.alloc (.cells #[.int .i64 (X0 k), .int .i64 (X1 k), .int .i64 (X2 k), .int .i64 (X3 k)] 32)).heap.size := by simp
          have hgz : g < wr.heap.size := oo.lt
          generalize wr.alloc (.cells #[.int .i64 (X0 k), .int .i64 (X1 k), .int .i64 (X2 k), .int .i64 (X3 k)] 32) = wx at *
          have x1 : wx.cell? ⟨wr.heap.size, 1, none⟩ = some (.int .i64 (X1 k)) := ox.cell 1
          have x2 : wx.cell? ⟨wr.heap.size, 2, none⟩ = some (.int .i64 (X2 k)) := ox.cell 2
          have x3 : wx.cell? ⟨wr.heap.size, 3, none⟩ = some (.int .i64 (X3 k)) := ox.cell 3
          clear c0 c1 c2 c3 bb kk oo
          generalize wr.heap.size = q0 at *
          have cA : wx.cell? ⟨g, A, none⟩ = some (.int .i64 (O A)) := vx.cell hAN
          have cD : wx.cell? ⟨g, D, none⟩ = some (.int .i64 (O D)) := vx.cell hDN
          have fA : wx.frozen? ⟨g, A, none⟩ = false := vx.free A
          have hoA := hn0.out.2.2.2 A hAN
          have hoD := hn0.out.2.2.2 D hDN
          have F1 : Hid (Fit K B (1000 * ((k + 1 : Nat) : Int))) := Lib.hid (by
            intro q
            obtain ⟨t1, t2, t3⟩ := hf0.out q
            exact ⟨t1, t2, by omega⟩)
          have N1' : Hid (Near N K B O (40000 * ((k + 1 : Nat) : Int))) := Lib.hid (by
            obtain ⟨n1, n2, n3, n4⟩ := hn0.out
            refine ⟨n1, n2, n3, fun q hq => ?_⟩
            obtain ⟨m1, m2, m3⟩ := n4 q hq
            exact ⟨m1, by omega, by omega⟩)
          obtain ⟨_, a1, a2⟩ := hoA
          obtain ⟨_, d1, d2⟩ := hoD
          obtain ⟨e, he⟩ : ∃ e, (X3 k).tmod 1000 = e := ⟨_, rfl⟩
          rw [he] at y4 y5
          go_quiet (fail)
          have ky : Prf (wx.drewN nq) w.heap.size N K B := Blk.drewN kx nq
          have vy : Blk (wx.drewN nq) g 2 N (ol O) := Blk.drewN vx nq
          have by_ := below_drewN bx nq
          have oy : Own (wx.drewN nq) q0 32 #[.int .i64 (X0 k), .int .i64 (X1 k), .int .i64 (X2 k), .int .i64 (X3 k)] := Own.drewN ox nq
          generalize wx.drewN nq = wy at *
          clear kx vx bx ox x1 x2 x3 cA cD fA
          have x3 : wy.cell? ⟨q0, 3, none⟩ = some (.int .i64 (X3 k)) := oy.cell 3
          have cA : wy.cell? ⟨g, A, none⟩ = some (.int .i64 (O A)) := vy.cell hAN
          have cD : wy.cell? ⟨g, D, none⟩ = some (.int .i64 (O D)) := vy.cell hDN
          by_cases hA0 : A = 0
          · have t0 : ((A : Int) == 0) = true := by simp; exact hA0
            clear hA0
            go_wp2_with fail
            exact ⟨⟨k + 1, K, B, O, by go_num, by omega, by omega, ky, vy, F1.out, N1'.out, by_⟩, by simp [intOf]; omega⟩
          · have t0 : ((A : Int) == 0) = false := by simp; exact hA0
            have HA0 := Lib.hid hA0
            by_cases hAD : A = D
            · have t1 : ((A : Int) == (D : Int)) = true := by rw [hAD]; simp
              have t2 : (A == D) = true := by rw [hAD]; simp
              clear hA0 hAD
              go_wp2_with fail
              exact ⟨⟨k + 1, K, B, O, by go_num, by omega, by omega, ky, vy, F1.out, N1'.out, by_⟩, by simp [intOf]; omega⟩
            · have HAD := Lib.hid hAD
              have t1 : ((A : Int) == (D : Int)) = false := by simp; omega
              have t2 : (A == D) = false := by simp; exact hAD
              have e1 : IntKind.i64.wrap (O D - O A) = O D - O A := IntWalk.i64_in _ (by omega)
              have e2 : IntKind.i64.wrap (O D - O A + e) = O D - O A + e := IntWalk.i64_in _ (by omega)
              go_wp2_with fail
              go_quiet (fail)
              have kz : Prf (wy.drewN nq) w.heap.size N K B := Blk.drewN ky nq
              have vz : Blk (wy.drewN nq) g 2 N (ol O) := Blk.drewN vy nq
              have bz := below_drewN by_ nq
              generalize wy.drewN nq = wz at *
              clear ky vy by_ oy x3 cA cD
              have cA : wz.cell? ⟨g, A, none⟩ = some (.int .i64 (O A)) := vz.cell hAN
              have cD : wz.cell? ⟨g, D, none⟩ = some (.int .i64 (O D)) := vz.cell hDN
              have fA : wz.frozen? ⟨g, A, none⟩ = false := vz.free A
              by_cases hd1 : 30000 < O D - O A + e
              · go_wp2_with fail
                exact ⟨⟨k + 1, K, B, O, by go_num, by omega, by omega, kz, vz, F1.out, N1'.out, bz⟩, by simp [intOf]; omega⟩
              · by_cases hd2 : O D - O A + e < -30000
                · have hd3 : decide (30000 < O D - O A + e) = false := by simp; omega
                  clear hd1
                  go_wp2_with fail
                  exact ⟨⟨k + 1, K, B, O, by go_num, by omega, by omega, kz, vz, F1.out, N1'.out, bz⟩, by simp [intOf]; omega⟩
                · have hd3 : decide (30000 < O D - O A + e) = false := by simp; omega
                  have hd4 : decide (O D - O A + e < -30000) = false := by simp; omega
                  have HMe : Hid (meas (O A) (O D) e 1000 = O D - O A + e) := Lib.hid (by unfold meas far lim; omega)
                  have e3 : IntKind.i64.wrap (O A + (O D - O A + e)) = O A + (O D - O A + e) := IntWalk.i64_in _ (by omega)
                  clear hd1 hd2 hA0
                  have e4 : IntKind.i64.wrap (-e) = -e := IntWalk.i64_in _ (by omega)
                  go_upto_region 14 with (fail)
                  go_cut [30] from 30 to 168 (fun i wr => i = .int .i64 k ∧ wr = (wz.setCell ⟨g, A, none⟩ (.int .i64 (O A + (O D - O A + e)))).drewN 1)
                  case first =>
                    go_region_with (go_at_call 9; refine (measure_any _ _ _ _ _ (by decide)).mono ?_; rintro r w' ⟨rfl, rfl⟩; rw [HMe.out])
                    all_goals
                      go_wp2_with fail
                      go_meet
                      exact ⟨rfl, rfl⟩
                  case rest =>
                    obtain ⟨rfl, rfl⟩ := hcut
                    have k4 : Prf ((wz.setCell ⟨g, A, none⟩ (.int .i64 (O A + (O D - O A + e)))).drewN 1) w.heap.size N K B := Blk.drewN ((Just.set g wz A _).blk kz (by omega)) 1
                    have v4 : Blk ((wz.setCell ⟨g, A, none⟩ (.int .i64 (O A + (O D - O A + e)))).drewN 1) g 2 N (ol (upd O A (O A + (O D - O A + e)))) := Blk.ext (Blk.drewN (vz.put A _) 1) (fun q _ => by unfold ol upd; split <;> rfl)
                    have b4 : Below w.heap.size w ((wz.setCell ⟨g, A, none⟩ (.int .i64 (O A + (O D - O A + e)))).drewN 1) := below_drewN ((Just.set g wz A _).below bz (by omega) (by have := kz.lt; omega)) 1
                    generalize (wz.setCell ⟨g, A, none⟩ (.int .i64 (O A + (O D - O A + e)))).drewN 1 = w4 at *
                    clear kz vz bz cA cD fA
                    go_wp2_with fail
                    refine (heard_any _ N _ _ _ _ _ _ k4 (by omega) N1 hfm.out).mono ?_
                    rintro r w5 ⟨rfl, k5, j5⟩
                    have v5 := j5.blk v4 (by omega)
                    have b5 := j5.below b4 (Nat.le_refl _) (by have := k4.lt; omega)
                    have F5 : Hid (Fit (hK N K (A : Int) (D : Int)) (hB N K B (A : Int) (D : Int) (max e (-e))) (1000 * ((k + 1 : Nat) : Int))) := Lib.hid (by
                      have := fit_heard (N := N) hf0.out (by omega) (A : Int) (D : Int) (max e (-e))
                      intro j
                      obtain ⟨t1, t2, t3⟩ := this j
                      exact ⟨t1, t2, by omega⟩)
                    have N5 : Hid (Near N (hK N K (A : Int) (D : Int)) (hB N K B (A : Int) (D : Int) (max e (-e))) (upd O A (O A + (O D - O A + e))) (40000 * ((k + 1 : Nat) : Int))) := Lib.hid (by
                      obtain ⟨n1, n2, n3, n4⟩ := hn0.out
                      have hA0 := HA0.out
                      have hAD := HAD.out
                      have hok : okH N (A : Int) (D : Int) = true := by unfold okH; simp; omega
                      unfold hK hB
                      rw [if_pos hok, if_pos hok, Int.toNat_natCast, Int.toNat_natCast]
                      refine ⟨by rw [upd_other _ _ (by omega)]; exact n1, by rw [upd_other _ _ (by omega)]; exact n2, by rw [upd_other _ _ (by omega)]; exact n3, fun q hq => ?_⟩
                      obtain ⟨m1, m2, m3⟩ := n4 q hq
                      obtain ⟨p1, p2, p3⟩ := n4 D hDN
                      unfold upd
                      by_cases hqA : q = A
                      · subst hqA
                        rw [if_pos rfl, if_pos rfl, if_pos rfl]
                        refine ⟨fun hkd => ?_, by omega, by omega⟩
                        have := p1 hkd
                        rw [if_pos hkd]
                        unfold lim
                        omega
                      · rw [if_neg hqA, if_neg hqA, if_neg hqA]
                        exact ⟨m1, by omega, by omega⟩)
                    generalize hB N K B (A : Int) (D : Int) (max e (-e)) = B' at *
                    generalize hK N K (A : Int) (D : Int) = K' at *
                    generalize upd O A (O A + (O D - O A + e)) = O' at *
                    go_wp2_with fail
                    go_loopw [140] (fun i w6 => ∃ j : Nat, i = .int .i64 j ∧ j ≤ N ∧ Prf w6 w.heap.size N K' B' ∧ Blk w6 g 2 N (ol O') ∧ Below w.heap.size w w6) (fun i _ => N - (intOf i).toNat)
                    case atStart => exact ⟨0, rfl, by omega, k5, v5, b5⟩
                    case round =>
                      obtain ⟨j, rfl, hj, k6, v6, b6⟩ := hrel
                      by_cases hj2 : j < N
                      · obtain ⟨m1, m2, m3⟩ := N5.out.2.2.2 j hj2
                        have m4 := (F5.out j).2.1
                        cases hKj : K' j
                        · have HKJ := Lib.hid hKj
                          clear hKj m1
                          go_wp2_with fail
                          refine (bound_in _ N j _ _ _ k6 hj2 N1).mono ?_
                          rintro r w7 ⟨rfl, m, rfl⟩
                          rw [HKJ.out]
                          go_wp2_with fail
                          exact ⟨⟨j + 1, by go_num, by omega, Blk.drewN k6 m, Blk.drewN v6 m, below_drewN b6 m⟩, by simp [intOf]; omega⟩
                        · have HKJ := Lib.hid hKj
                          obtain ⟨m5, m6⟩ := m1 hKj
                          clear hKj m1
                          have q1 : decide (B' j < O' j) = false := by simp; omega
                          have q2 : decide (B' j < -O' j) = false := by simp; omega
                          go_wp2_with fail
                          refine (bound_in _ N j _ _ _ k6 hj2 N1).mono ?_
                          rintro r w7 ⟨rfl, m, rfl⟩
                          rw [HKJ.out]
                          have cj : (wr.drewN m).cell? ⟨g, j, none⟩ = some (.int .i64 (O' j)) := (Blk.drewN v6 m).cell hj2
                          go_wp2_with fail
                          exact ⟨⟨j + 1, by go_num, by omega, Blk.drewN k6 m, Blk.drewN v6 m, below_drewN b6 m⟩, by simp [intOf]; omega⟩
                      · obtain rfl : N = j := by omega
                        go_wp2_with fail
                        exact ⟨⟨k + 1, K', B', O', by go_num, by omega, by omega, k6, v6, F5.out, N5.out, b6⟩, by simp [intOf]; omega⟩
    · by_cases hlt2 : k < n
      · have h300 : ¬ k < 300 := fun h => hlt ⟨hlt2, h⟩
        obtain ⟨b, o, rfl, hb, hc⟩ := hV.at_struct bb hlt2 (by decide)
        have c0 : wr.cell? ⟨b, o + k * 4, none⟩ = some (.int .i64 (X0 k)) := (hc 0 (by decide)).trans (congrArg some (H0.out k hlt2))
        have c1 : wr.cell? ⟨b, o + k * 4 + 1, none⟩ = some (.int .i64 (X1 k)) := (hc 1 (by decide)).trans (congrArg some (H1.out k hlt2))
        have c2 : wr.cell? ⟨b, o + k * 4 + 2, none⟩ = some (.int .i64 (X2 k)) := (hc 2 (by decide)).trans (congrArg some (H2.out k hlt2))
        have c3 : wr.cell? ⟨b, o + k * 4 + 3, none⟩ = some (.int .i64 (X3 k)) := (hc 3 (by decide)).trans (congrArg some (H3.out k hlt2))
        have hzw : w.heap.size ≤ wr.heap.size := bb.size
        have kx : Prf (wr.alloc (.cells #[.int .i64 (X0 k), .int .i64 (X1 k), .int .i64 (X2 k), .int .i64 (X3 k)] 32)) w.heap.size N K B := Blk.alloc kk _
        have bx := bb.alloc hzw (.cells #[.int .i64 (X0 k), .int .i64 (X1 k), .int .i64 (X2 k), .int .i64 (X3 k)] 32)
        have hK0 := Lib.hid nr.1
        have hB0 := Lib.hid nr.2.1
        clear hc hV hlt ff nr kk oo bb
        go_wp2_with fail
        refine (bound_in _ N 0 _ _ _ kx (by omega) N1).mono ?_
        rintro r w3 ⟨rfl, m, rfl⟩
        rw [hK0.out, hB0.out]
        go_wp2_with fail
        refine (awake_any _).mono ?_
        rintro r w9 ⟨rfl, b9⟩
        go_wp2_with fail
        go_ret
        have bx := below_drewN bx m
        exact ⟨rfl, bx.trans (b9.mono bx.size)⟩
      · have hK0 := Lib.hid nr.1
        have hB0 := Lib.hid nr.2.1
        clear hlt ff hV nr
        go_wp2_with fail
        refine (bound_in _ N 0 _ _ _ kk (by omega) N1).mono ?_
        rintro r w3 ⟨rfl, m, rfl⟩
        rw [hK0.out, hB0.out]
        go_wp2_with fail
        refine (awake_any _).mono ?_
        rintro r w9 ⟨rfl, b9⟩
        go_wp2_with fail
        go_ret
        have bx := below_drewN bb m
        exact ⟨rfl, bx.trans (b9.mono bx.size)⟩

theorem walk (H : Type) (enc : TypeId × Value → H) : Walk H enc Try.prog 6 Try.f6 := by
  intro W base args ds p hval hA
  rw [Try.params6] at hA hval
  obtain ⟨v0, v1, d0, d1, p0, p1, rfl, rfl, rfl, h0, h1⟩ := trodAll_two hA
  obtain ⟨nn, rfl, rfl, rfl, w1⟩ := open_int Try.underlying3 (hval 0 _ v0 rfl rfl) h0
  obtain ⟨a, n, c, V, rfl, hn, hm, hV, hf⟩ := open_row_struct Try.underlying26 Try.underlying32 (by kernel_rfl) (by kernel_rfl) (by decide) (hval 1 _ v1 rfl rfl) h1
  obtain ⟨X0, e0⟩ := field_int (n := n) (m := 4) (j := 0) Try.underlying3 (fun i hi => hf i hi 0 _ rfl)
  obtain ⟨X1, e1⟩ := field_int (n := n) (m := 4) (j := 1) Try.underlying3 (fun i hi => hf i hi 1 _ rfl)
  obtain ⟨X2, e2⟩ := field_int (n := n) (m := 4) (j := 2) Try.underlying3 (fun i hi => hf i hi 2 _ rfl)
  obtain ⟨X3, e3⟩ := field_int (n := n) (m := 4) (j := 3) Try.underlying3 (fun i hi => hf i hi 3 _ rfl)
  exact body nn a n c V X0 X1 X2 X3 W hn hm hV (fun i hi => (e0 i hi).1) (fun i hi => (e1 i hi).1) (fun i hi => (e2 i hi).1) (fun i hi => (e3 i hi).1)

set_option maxRecDepth 100000 in
theorem lifted (os : Os) (started : os.Started) (H : Type) (enc : TypeId × Value → H) :
    ReturnsInHanded {} Try.checked os 6 .any (Rows.offsetTrueSpec.pre6 enc Try.prog Try.f6 Rows.offsetTrueRow.domain false) (Rows.offsetTrueSpec.post enc Try.prog Try.f6 false true false false) :=
  returnsInHanded_of_change (C := Try.checked) own started (by kernel_rfl) Try.func6
    (ChangeSpec.witness6 (enc := enc) (C := Try.checked) false ⟨#[], #[.int .i64 0, .slice none 0 0], []⟩ 8 (by kernel_rfl) (by kernel_rfl) (by kernel_rfl) (by kernel_rfl))
    fun W base args ds gs before hval hW _ _ => step_of_walk laidOut (by rw [Try.params6]; exact of_decide_eq_true (by kernel_rfl)) (by kernel_rfl) Try.underlying4 rfl
      (fun ds h => by
        rw [Try.params6] at h
        match ds, h with
        | [_, _], _ => rfl) (walk H enc) W base args ds gs before hval hW

theorem holds : Rows.OffsetTrueSaid :=
  OpenClaim.holds_of_wide 6 Try.f6 rfl rfl rfl rfl rfl rfl rfl ⟨rfl, rfl, rfl, rfl, rfl⟩ rfl rfl rfl rfl rfl (by kernel_rfl) Try.func6 (by kernel_rfl)
    (of_decide_eq_true (by kernel_rfl)) (by unfold Func.isWrapper; first | (rw [if_pos (by decide +kernel)]; kernel_rfl) | (rw [if_neg (by decide +kernel)]; exact ⟨rfl, rfl⟩))
    (fun os started H enc _ => lifted os started H enc)
#print axioms holds
end Go.Proofs.Ytjknppldpepcnaa.OffsetTrue
