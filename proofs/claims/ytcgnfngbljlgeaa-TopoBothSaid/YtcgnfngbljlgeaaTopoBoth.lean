/-
  Law TopoBoth: quality is the same both ways; who is near one, that one is near; who is forgotten is near nobody; the call returns true. No condition.
-/
import Derived.Test.YtcgnfngbljlgeaaTopoMore
import Derived.Deep.RegionHeld3
set_option maxRecDepth 100000
namespace Go.Proofs.Ytcgnfngbljlgeaa.TopoBoth
set_option linter.unusedVariables false
open Go.RowKit Go.ChangeShapes Go.WideShapes Go.ChangeAt Go.Deep Lb Tp
set_option linter.unusedVariables false
theorem own : ownKnob Try.prog.godebug = none := by kernel_rfl
theorem laidOut : laidOutB Try.prog = true := by kernel_rfl

theorem nr_zero {N : Nat} {Q : Nat → Nat → Int} {a y : Int} (h : ∀ k : Nat, qual N Q a k = 0) : ∀ n, nr N Q a y n = []
  | 0 => rfl
  | n + 1 => by rw [nr_not (by rw [h n]; omega), nr_zero h n]
set_option maxHeartbeats 16000000 in
theorem body (x : Int) (a : Option Addr) (n c : Nat) (V : Nat → Value) (C : Nat → Cl) (y z : Int) (w : World) (hn : n ≤ c) (hc : c ≤ maxLen) (hV : Row w a (n * 3) V)
    (hC : ∀ i, i < n → V (i * 3) = .bool (C i).f ∧ V (i * 3 + 1) = .int .i64 (C i).me ∧ V (i * 3 + 2) = .slice (C i).a (C i).n (C i).c ∧ (C i).ok w) :
    Calls Try.prog 5 #[.int .i64 x, .slice a n c, .int .i64 y, .int .i64 z] w fun r w' => r = .returned (.bool true) ∧ Below w.heap.size w w' := by
  have uz := u64_pos z
  go_enter Try.func5, Try.ntmps5
  go_wp2_with fail
  refine (made_any x a n c V C _ hn hc hV hC).mono ?_
  rintro r w1 ⟨g1, g2, N, Q, rfl, h1, h2, hF, z1, z2, b1⟩
  have HF := Lib.hid hF
  have hN := hF.2.1
  clear hF
  have hN1 : 1 ≤ N := HF.out.1
  go_wp2_with fail
  refine (nodes_any g1 _ N Q _ h1).mono ?_
  rintro r w' ⟨rfl, rfl⟩
  have hw : IntKind.u64.wrap (N : Int) = (N : Int) := by
    simp only [IntKind.wrap, IntKind.signed, IntKind.bits]
    simp
    omega
  have e1 : (1 : Int) ≤ (N : Int) := by omega
  go_wp2_with fail
  have hG0 : 0 ≤ wrap64 (IntKind.u64.wrap z % (N : Int)) ∧ wrap64 (IntKind.u64.wrap z % (N : Int)) < (N : Int) := by
    have m1 := Int.emod_nonneg (IntKind.u64.wrap z) (by omega : (N : Int) ≠ 0)
    have m2 := Int.emod_lt_of_pos (IntKind.u64.wrap z) (by omega : (0 : Int) < (N : Int))
    have m3 : wrap64 (IntKind.u64.wrap z % (N : Int)) = IntKind.u64.wrap z % (N : Int) := by unfold wrap64; omega
    rw [m3]
    exact ⟨m1, m2⟩
  generalize wrap64 (IntKind.u64.wrap z % (N : Int)) = G0 at *
  obtain ⟨G, rfl⟩ := Int.eq_ofNat_of_zero_le hG0.1
  have hGN : G < N := by omega
  clear hG0 uz hw h2
  have hz0 : Hid (1 ≤ 0 → ∀ a b : Nat, (a = G ∨ b = G) → qual N Q a b = 0) := Lib.hid (fun h => by omega)
  go_loopw [39] (fun i wr => ∃ (rd : Nat) (R : Nat → Nat → Int), i = .int .i64 rd ∧ rd ≤ 2 ∧ Hid (Fine N R) ∧ Hid (1 ≤ rd → ∀ a b : Nat, (a = G ∨ b = G) → qual N R a b = 0) ∧ Gr wr g1 55 N R ∧ Below w.heap.size w wr) (fun i _ => 2 - (intOf i).toNat)
  case atStart => exact ⟨0, Q, rfl, by omega, HF, hz0, h1, b1⟩
  case round =>
    clear hz0 h1 b1
    obtain ⟨rd, R, rfl, hrd, HR, HZ, h1, b1⟩ := hrel
    by_cases hrt : rd < 2
    · have e6 : decide ((rd : Int) < 2) = true := by simp; omega
      have HRT := Lib.hid hrt
      clear hrt
      go_wp2_with fail
      go_loopw [43] (fun i wr => ∃ a : Nat, i = .int .i64 a ∧ a ≤ N ∧ Gr wr g1 55 N R ∧ Below w.heap.size w wr) (fun i _ => N - (intOf i).toNat)
      case atStart => exact ⟨0, rfl, by omega, h1, b1⟩
      case round =>
        clear h1 b1
        obtain ⟨a, rfl, ha, h1, b1⟩ := hrel
        by_cases hat : a < N
        · go_wp2_with fail
          go_loopw [47] (fun i wr => ∃ b : Nat, i = .int .i64 b ∧ b ≤ N ∧ Gr wr g1 55 N R ∧ Below w.heap.size w wr) (fun i _ => N - (intOf i).toNat)
          case atStart => exact ⟨0, rfl, by omega, h1, b1⟩
          case round =>
            clear h1 b1
            obtain ⟨b, rfl, hb, h1, b1⟩ := hrel
            by_cases hbt : b < N
            · obtain ⟨q, hq⟩ : ∃ q, qual N R a b = q := ⟨_, rfl⟩
              have HQ := Lib.hid hq
              have HS : Hid (qual N R b a = q) := Lib.hid (by rw [qual_sym]; exact hq)
              obtain ⟨H, hH⟩ : ∃ H, hasL (near N R a y) (b : Int) = H := ⟨_, rfl⟩
              have HL1 := Lib.hid hH
              have HL2 : Hid (hasL (near N R b y) (a : Int) = H) := Lib.hid (by
                rw [← hH, hasL_near, hasL_near, qual_sym N R b a]
                congr 1
                exact propext ⟨fun h => ⟨hbt, h.2⟩, fun h => ⟨hat, h.2⟩⟩)
              have hl1 := nr_len N R a y N
              have hl2 := nr_len N R b y N
              clear hH
              by_cases hab : a = b
              · obtain rfl : q = 0 := by rw [← hq, hab]; exact qual_self HR.out _
                have e3 : ((a : Int) == (b : Int)) = true := by simp; omega
                clear hq hab
                rcases (show (((rd : Int) == 1) = false) ∨ (((rd : Int) == 1) = true ∧ ((a : Int) == (G : Int)) = true) ∨ (((rd : Int) == 1) = true ∧ ((a : Int) == (G : Int)) = false ∧ ((b : Int) == (G : Int)) = true) ∨ (((rd : Int) == 1) = true ∧ ((a : Int) == (G : Int)) = false ∧ ((b : Int) == (G : Int)) = false) by
                  cases ((rd : Int) == 1) <;> cases ((a : Int) == (G : Int)) <;> cases ((b : Int) == (G : Int)) <;> simp) with e5 | ⟨e5, e2⟩ | ⟨e5, e2, e4⟩ | ⟨e5, e2, e4⟩
                · go_wp2_with fail
                  refine (quality_any g1 _ N R a b _ h1 hN).mono ?_
                  rintro r w' ⟨rfl, m, rfl⟩
                  rw [HQ.out]
                  have h1 := Blk.drewN h1 m
                  have b1 := below_drewN b1 m
                  generalize wr.drewN m = wa at *
                  go_wp2_with fail
                  refine (quality_any g1 _ N R b a _ h1 hN).mono ?_
                  rintro r w' ⟨rfl, m, rfl⟩
                  rw [HS.out]
                  have h1 := Blk.drewN h1 m
                  have b1 := below_drewN b1 m
                  generalize wa.drewN m = wb at *
                  go_wp2_with fail
                  refine (quality_any g1 _ N R a b _ h1 hN).mono ?_
                  rintro r w' ⟨rfl, m, rfl⟩
                  rw [HQ.out]
                  have h1 := Blk.drewN h1 m
                  have b1 := below_drewN b1 m
                  generalize wb.drewN m = wc at *
                  go_wp2_with fail
                  refine (near_any g1 _ N R a y _ h1 hN).mono ?_
                  rintro r wd ⟨v, rfl, hv, bn⟩
                  have h1 := below_blk bn h1 h1.lt
                  obtain ⟨a1, c1, rfl, hc1, hm1, hR1⟩ := hv.row
                  have b1 := b1.trans (bn.mono b1.size)
                  clear hv bn
                  go_wp2_with fail
                  refine (has_list a1 c1 (near N R a y) b _ hc1 hm1 hR1).mono ?_
                  rintro r w' ⟨rfl, rfl⟩
                  rw [HL1.out]
                  go_wp2_with fail
                  refine (near_any g1 _ N R b y _ h1 hN).mono ?_
                  rintro r we ⟨v, rfl, hv, bn⟩
                  have h1 := below_blk bn h1 h1.lt
                  obtain ⟨a2, c2, rfl, hc2, hm2, hR2⟩ := hv.row
                  have b1 := b1.trans (bn.mono b1.size)
                  clear hv bn
                  go_wp2_with fail
                  refine (has_list a2 c2 (near N R b y) a _ hc2 hm2 hR2).mono ?_
                  rintro r w' ⟨rfl, rfl⟩
                  rw [HL2.out]
                  go_wp2_with fail
                  exact ⟨⟨b + 1, by simp [intOf], by omega, h1, b1⟩, by simp [intOf] <;> omega⟩
                · go_wp2_with fail
                  refine (quality_any g1 _ N R a b _ h1 hN).mono ?_
                  rintro r w' ⟨rfl, m, rfl⟩
                  rw [HQ.out]
                  have h1 := Blk.drewN h1 m
                  have b1 := below_drewN b1 m
                  generalize wr.drewN m = wa at *
                  go_wp2_with fail
                  refine (quality_any g1 _ N R b a _ h1 hN).mono ?_
                  rintro r w' ⟨rfl, m, rfl⟩
                  rw [HS.out]
                  have h1 := Blk.drewN h1 m
                  have b1 := below_drewN b1 m
                  generalize wa.drewN m = wb at *
                  go_wp2_with fail
                  refine (quality_any g1 _ N R a b _ h1 hN).mono ?_
                  rintro r w' ⟨rfl, m, rfl⟩
                  rw [HQ.out]
                  have h1 := Blk.drewN h1 m
                  have b1 := below_drewN b1 m
                  generalize wb.drewN m = wc at *
                  go_wp2_with fail
                  refine (near_any g1 _ N R a y _ h1 hN).mono ?_
                  rintro r wd ⟨v, rfl, hv, bn⟩
                  have h1 := below_blk bn h1 h1.lt
                  obtain ⟨a1, c1, rfl, hc1, hm1, hR1⟩ := hv.row
                  have b1 := b1.trans (bn.mono b1.size)
                  clear hv bn
                  go_wp2_with fail
                  refine (has_list a1 c1 (near N R a y) b _ hc1 hm1 hR1).mono ?_
                  rintro r w' ⟨rfl, rfl⟩
                  rw [HL1.out]
                  go_wp2_with fail
                  refine (near_any g1 _ N R b y _ h1 hN).mono ?_
                  rintro r we ⟨v, rfl, hv, bn⟩
                  have h1 := below_blk bn h1 h1.lt
                  obtain ⟨a2, c2, rfl, hc2, hm2, hR2⟩ := hv.row
                  have b1 := b1.trans (bn.mono b1.size)
                  clear hv bn
                  go_wp2_with fail
                  refine (has_list a2 c2 (near N R b y) a _ hc2 hm2 hR2).mono ?_
                  rintro r w' ⟨rfl, rfl⟩
                  rw [HL2.out]
                  go_wp2_with fail
                  refine (quality_any g1 _ N R a b _ h1 hN).mono ?_
                  rintro r w' ⟨rfl, m, rfl⟩
                  rw [HQ.out]
                  have h1 := Blk.drewN h1 m
                  have b1 := below_drewN b1 m
                  generalize we.drewN m = wf at *
                  go_wp2_with fail
                  exact ⟨⟨b + 1, by simp [intOf], by omega, h1, b1⟩, by simp [intOf] <;> omega⟩
                · go_wp2_with fail
                  refine (quality_any g1 _ N R a b _ h1 hN).mono ?_
                  rintro r w' ⟨rfl, m, rfl⟩
                  rw [HQ.out]
                  have h1 := Blk.drewN h1 m
                  have b1 := below_drewN b1 m
                  generalize wr.drewN m = wa at *
                  go_wp2_with fail
                  refine (quality_any g1 _ N R b a _ h1 hN).mono ?_
                  rintro r w' ⟨rfl, m, rfl⟩
                  rw [HS.out]
                  have h1 := Blk.drewN h1 m
                  have b1 := below_drewN b1 m
                  generalize wa.drewN m = wb at *
                  go_wp2_with fail
                  refine (quality_any g1 _ N R a b _ h1 hN).mono ?_
                  rintro r w' ⟨rfl, m, rfl⟩
                  rw [HQ.out]
                  have h1 := Blk.drewN h1 m
                  have b1 := below_drewN b1 m
                  generalize wb.drewN m = wc at *
                  go_wp2_with fail
                  refine (near_any g1 _ N R a y _ h1 hN).mono ?_
                  rintro r wd ⟨v, rfl, hv, bn⟩
                  have h1 := below_blk bn h1 h1.lt
                  obtain ⟨a1, c1, rfl, hc1, hm1, hR1⟩ := hv.row
                  have b1 := b1.trans (bn.mono b1.size)
                  clear hv bn
                  go_wp2_with fail
                  refine (has_list a1 c1 (near N R a y) b _ hc1 hm1 hR1).mono ?_
                  rintro r w' ⟨rfl, rfl⟩
                  rw [HL1.out]
                  go_wp2_with fail
                  refine (near_any g1 _ N R b y _ h1 hN).mono ?_
                  rintro r we ⟨v, rfl, hv, bn⟩
                  have h1 := below_blk bn h1 h1.lt
                  obtain ⟨a2, c2, rfl, hc2, hm2, hR2⟩ := hv.row
                  have b1 := b1.trans (bn.mono b1.size)
                  clear hv bn
                  go_wp2_with fail
                  refine (has_list a2 c2 (near N R b y) a _ hc2 hm2 hR2).mono ?_
                  rintro r w' ⟨rfl, rfl⟩
                  rw [HL2.out]
                  go_wp2_with fail
                  refine (quality_any g1 _ N R a b _ h1 hN).mono ?_
                  rintro r w' ⟨rfl, m, rfl⟩
                  rw [HQ.out]
                  have h1 := Blk.drewN h1 m
                  have b1 := below_drewN b1 m
                  generalize we.drewN m = wf at *
                  go_wp2_with fail
                  exact ⟨⟨b + 1, by simp [intOf], by omega, h1, b1⟩, by simp [intOf] <;> omega⟩
                · go_wp2_with fail
                  refine (quality_any g1 _ N R a b _ h1 hN).mono ?_
                  rintro r w' ⟨rfl, m, rfl⟩
                  rw [HQ.out]
                  have h1 := Blk.drewN h1 m
                  have b1 := below_drewN b1 m
                  generalize wr.drewN m = wa at *
                  go_wp2_with fail
                  refine (quality_any g1 _ N R b a _ h1 hN).mono ?_
                  rintro r w' ⟨rfl, m, rfl⟩
                  rw [HS.out]
                  have h1 := Blk.drewN h1 m
                  have b1 := below_drewN b1 m
                  generalize wa.drewN m = wb at *
                  go_wp2_with fail
                  refine (quality_any g1 _ N R a b _ h1 hN).mono ?_
                  rintro r w' ⟨rfl, m, rfl⟩
                  rw [HQ.out]
                  have h1 := Blk.drewN h1 m
                  have b1 := below_drewN b1 m
                  generalize wb.drewN m = wc at *
                  go_wp2_with fail
                  refine (near_any g1 _ N R a y _ h1 hN).mono ?_
                  rintro r wd ⟨v, rfl, hv, bn⟩
                  have h1 := below_blk bn h1 h1.lt
                  obtain ⟨a1, c1, rfl, hc1, hm1, hR1⟩ := hv.row
                  have b1 := b1.trans (bn.mono b1.size)
                  clear hv bn
                  go_wp2_with fail
                  refine (has_list a1 c1 (near N R a y) b _ hc1 hm1 hR1).mono ?_
                  rintro r w' ⟨rfl, rfl⟩
                  rw [HL1.out]
                  go_wp2_with fail
                  refine (near_any g1 _ N R b y _ h1 hN).mono ?_
                  rintro r we ⟨v, rfl, hv, bn⟩
                  have h1 := below_blk bn h1 h1.lt
                  obtain ⟨a2, c2, rfl, hc2, hm2, hR2⟩ := hv.row
                  have b1 := b1.trans (bn.mono b1.size)
                  clear hv bn
                  go_wp2_with fail
                  refine (has_list a2 c2 (near N R b y) a _ hc2 hm2 hR2).mono ?_
                  rintro r w' ⟨rfl, rfl⟩
                  rw [HL2.out]
                  go_wp2_with fail
                  exact ⟨⟨b + 1, by simp [intOf], by omega, h1, b1⟩, by simp [intOf] <;> omega⟩
              · have e3 : ((a : Int) == (b : Int)) = false := by simp; omega
                clear hab
                have hz1 : ((rd : Int) == 1) = true → ((a : Int) == (G : Int)) = true ∨ ((b : Int) == (G : Int)) = true → q = 0 := fun f1 f2 => by
                  have f3 : (rd : Int) = 1 := (by simpa using f1)
                  have f4 : a = G ∨ b = G := (by
                    rcases f2 with f2 | f2
                    · have f5 : (a : Int) = (G : Int) := (by simpa using f2)
                      omega
                    · have f5 : (b : Int) = (G : Int) := (by simpa using f2)
                      omega)
                  rw [← hq]
                  exact HZ.out (by omega) _ _ f4
                have HZ1 := Lib.hid hz1
                clear hz1
                rcases (show (((rd : Int) == 1) = false) ∨ (((rd : Int) == 1) = true ∧ ((a : Int) == (G : Int)) = true) ∨ (((rd : Int) == 1) = true ∧ ((a : Int) == (G : Int)) = false ∧ ((b : Int) == (G : Int)) = true) ∨ (((rd : Int) == 1) = true ∧ ((a : Int) == (G : Int)) = false ∧ ((b : Int) == (G : Int)) = false) by
                  cases ((rd : Int) == 1) <;> cases ((a : Int) == (G : Int)) <;> cases ((b : Int) == (G : Int)) <;> simp) with e5 | ⟨e5, e2⟩ | ⟨e5, e2, e4⟩ | ⟨e5, e2, e4⟩
                all_goals clear hq
                · go_wp2_with fail
                  refine (quality_any g1 _ N R a b _ h1 hN).mono ?_
                  rintro r w' ⟨rfl, m, rfl⟩
                  rw [HQ.out]
                  have h1 := Blk.drewN h1 m
                  have b1 := below_drewN b1 m
                  generalize wr.drewN m = wa at *
                  go_wp2_with fail
                  refine (quality_any g1 _ N R b a _ h1 hN).mono ?_
                  rintro r w' ⟨rfl, m, rfl⟩
                  rw [HS.out]
                  have h1 := Blk.drewN h1 m
                  have b1 := below_drewN b1 m
                  generalize wa.drewN m = wb at *
                  go_wp2_with fail
                  refine (near_any g1 _ N R a y _ h1 hN).mono ?_
                  rintro r wd ⟨v, rfl, hv, bn⟩
                  have h1 := below_blk bn h1 h1.lt
                  obtain ⟨a1, c1, rfl, hc1, hm1, hR1⟩ := hv.row
                  have b1 := b1.trans (bn.mono b1.size)
                  clear hv bn
                  go_wp2_with fail
                  refine (has_list a1 c1 (near N R a y) b _ hc1 hm1 hR1).mono ?_
                  rintro r w' ⟨rfl, rfl⟩
                  rw [HL1.out]
                  go_wp2_with fail
                  refine (near_any g1 _ N R b y _ h1 hN).mono ?_
                  rintro r we ⟨v, rfl, hv, bn⟩
                  have h1 := below_blk bn h1 h1.lt
                  obtain ⟨a2, c2, rfl, hc2, hm2, hR2⟩ := hv.row
                  have b1 := b1.trans (bn.mono b1.size)
                  clear hv bn
                  go_wp2_with fail
                  refine (has_list a2 c2 (near N R b y) a _ hc2 hm2 hR2).mono ?_
                  rintro r w' ⟨rfl, rfl⟩
                  rw [HL2.out]
                  go_wp2_with fail
                  exact ⟨⟨b + 1, by simp [intOf], by omega, h1, b1⟩, by simp [intOf] <;> omega⟩
                · obtain rfl : q = 0 := HZ1.out e5 (.inl e2)
                  go_wp2_with fail
                  refine (quality_any g1 _ N R a b _ h1 hN).mono ?_
                  rintro r w' ⟨rfl, m, rfl⟩
                  rw [HQ.out]
                  have h1 := Blk.drewN h1 m
                  have b1 := below_drewN b1 m
                  generalize wr.drewN m = wa at *
                  go_wp2_with fail
                  refine (quality_any g1 _ N R b a _ h1 hN).mono ?_
                  rintro r w' ⟨rfl, m, rfl⟩
                  rw [HS.out]
                  have h1 := Blk.drewN h1 m
                  have b1 := below_drewN b1 m
                  generalize wa.drewN m = wb at *
                  go_wp2_with fail
                  refine (near_any g1 _ N R a y _ h1 hN).mono ?_
                  rintro r wd ⟨v, rfl, hv, bn⟩
                  have h1 := below_blk bn h1 h1.lt
                  obtain ⟨a1, c1, rfl, hc1, hm1, hR1⟩ := hv.row
                  have b1 := b1.trans (bn.mono b1.size)
                  clear hv bn
                  go_wp2_with fail
                  refine (has_list a1 c1 (near N R a y) b _ hc1 hm1 hR1).mono ?_
                  rintro r w' ⟨rfl, rfl⟩
                  rw [HL1.out]
                  go_wp2_with fail
                  refine (near_any g1 _ N R b y _ h1 hN).mono ?_
                  rintro r we ⟨v, rfl, hv, bn⟩
                  have h1 := below_blk bn h1 h1.lt
                  obtain ⟨a2, c2, rfl, hc2, hm2, hR2⟩ := hv.row
                  have b1 := b1.trans (bn.mono b1.size)
                  clear hv bn
                  go_wp2_with fail
                  refine (has_list a2 c2 (near N R b y) a _ hc2 hm2 hR2).mono ?_
                  rintro r w' ⟨rfl, rfl⟩
                  rw [HL2.out]
                  go_wp2_with fail
                  refine (quality_any g1 _ N R a b _ h1 hN).mono ?_
                  rintro r w' ⟨rfl, m, rfl⟩
                  rw [HQ.out]
                  have h1 := Blk.drewN h1 m
                  have b1 := below_drewN b1 m
                  generalize we.drewN m = wf at *
                  go_wp2_with fail
                  exact ⟨⟨b + 1, by simp [intOf], by omega, h1, b1⟩, by simp [intOf] <;> omega⟩
                · obtain rfl : q = 0 := HZ1.out e5 (.inr e4)
                  go_wp2_with fail
                  refine (quality_any g1 _ N R a b _ h1 hN).mono ?_
                  rintro r w' ⟨rfl, m, rfl⟩
                  rw [HQ.out]
                  have h1 := Blk.drewN h1 m
                  have b1 := below_drewN b1 m
                  generalize wr.drewN m = wa at *
                  go_wp2_with fail
                  refine (quality_any g1 _ N R b a _ h1 hN).mono ?_
                  rintro r w' ⟨rfl, m, rfl⟩
                  rw [HS.out]
                  have h1 := Blk.drewN h1 m
                  have b1 := below_drewN b1 m
                  generalize wa.drewN m = wb at *
                  go_wp2_with fail
                  refine (near_any g1 _ N R a y _ h1 hN).mono ?_
                  rintro r wd ⟨v, rfl, hv, bn⟩
                  have h1 := below_blk bn h1 h1.lt
                  obtain ⟨a1, c1, rfl, hc1, hm1, hR1⟩ := hv.row
                  have b1 := b1.trans (bn.mono b1.size)
                  clear hv bn
                  go_wp2_with fail
                  refine (has_list a1 c1 (near N R a y) b _ hc1 hm1 hR1).mono ?_
                  rintro r w' ⟨rfl, rfl⟩
                  rw [HL1.out]
                  go_wp2_with fail
                  refine (near_any g1 _ N R b y _ h1 hN).mono ?_
                  rintro r we ⟨v, rfl, hv, bn⟩
                  have h1 := below_blk bn h1 h1.lt
                  obtain ⟨a2, c2, rfl, hc2, hm2, hR2⟩ := hv.row
                  have b1 := b1.trans (bn.mono b1.size)
                  clear hv bn
                  go_wp2_with fail
                  refine (has_list a2 c2 (near N R b y) a _ hc2 hm2 hR2).mono ?_
                  rintro r w' ⟨rfl, rfl⟩
                  rw [HL2.out]
                  go_wp2_with fail
                  refine (quality_any g1 _ N R a b _ h1 hN).mono ?_
                  rintro r w' ⟨rfl, m, rfl⟩
                  rw [HQ.out]
                  have h1 := Blk.drewN h1 m
                  have b1 := below_drewN b1 m
                  generalize we.drewN m = wf at *
                  go_wp2_with fail
                  exact ⟨⟨b + 1, by simp [intOf], by omega, h1, b1⟩, by simp [intOf] <;> omega⟩
                · go_wp2_with fail
                  refine (quality_any g1 _ N R a b _ h1 hN).mono ?_
                  rintro r w' ⟨rfl, m, rfl⟩
                  rw [HQ.out]
                  have h1 := Blk.drewN h1 m
                  have b1 := below_drewN b1 m
                  generalize wr.drewN m = wa at *
                  go_wp2_with fail
                  refine (quality_any g1 _ N R b a _ h1 hN).mono ?_
                  rintro r w' ⟨rfl, m, rfl⟩
                  rw [HS.out]
                  have h1 := Blk.drewN h1 m
                  have b1 := below_drewN b1 m
                  generalize wa.drewN m = wb at *
                  go_wp2_with fail
                  refine (near_any g1 _ N R a y _ h1 hN).mono ?_
                  rintro r wd ⟨v, rfl, hv, bn⟩
                  have h1 := below_blk bn h1 h1.lt
                  obtain ⟨a1, c1, rfl, hc1, hm1, hR1⟩ := hv.row
                  have b1 := b1.trans (bn.mono b1.size)
                  clear hv bn
                  go_wp2_with fail
                  refine (has_list a1 c1 (near N R a y) b _ hc1 hm1 hR1).mono ?_
                  rintro r w' ⟨rfl, rfl⟩
                  rw [HL1.out]
                  go_wp2_with fail
                  refine (near_any g1 _ N R b y _ h1 hN).mono ?_
                  rintro r we ⟨v, rfl, hv, bn⟩
                  have h1 := below_blk bn h1 h1.lt
                  obtain ⟨a2, c2, rfl, hc2, hm2, hR2⟩ := hv.row
                  have b1 := b1.trans (bn.mono b1.size)
                  clear hv bn
                  go_wp2_with fail
                  refine (has_list a2 c2 (near N R b y) a _ hc2 hm2 hR2).mono ?_
                  rintro r w' ⟨rfl, rfl⟩
                  rw [HL2.out]
                  go_wp2_with fail
                  exact ⟨⟨b + 1, by simp [intOf], by omega, h1, b1⟩, by simp [intOf] <;> omega⟩
            · obtain rfl : N = b := by omega
              go_wp2_with fail
              exact ⟨⟨a + 1, by simp [intOf], by omega, h1, b1⟩, by simp [intOf] <;> omega⟩
        · obtain rfl : N = a := by omega
          go_wp2_with fail
          refine (forget_any g1 _ N R G _ h1 hN).mono ?_
          rintro r w5 ⟨rfl, h5, j5⟩
          have b5 := j5.below b1 z1 b1.size
          have HR2 := Lib.hid (fine_gone HR.out (G : Int))
          have hrt := HRT.out
          have HZ2 : Hid (1 ≤ rd + 1 → ∀ a b : Nat, (a = G ∨ b = G) → qual N (goneTo N R G) a b = 0) := Lib.hid (fun _ a b h => qual_gone (by rw [hasB_iff]; omega) (by omega))
          clear hrt
          go_wp2_with fail
          have hrt := HRT.out
          exact ⟨⟨rd + 1, _, by simp [intOf], by omega, HR2, HZ2, h5, b5⟩, by simp [intOf] <;> omega⟩
    · obtain rfl : 2 = rd := by omega
      have HE : Hid (near N R G 0 = []) := Lib.hid (nr_zero (fun k => HZ.out (by omega) G k (.inl rfl)) N)
      go_wp2_with fail
      refine (near_any g1 _ N R G 0 _ h1 hN).mono ?_
      rintro r w6 ⟨v6, rfl, hv6, b6⟩
      rw [HE.out] at hv6
      obtain ⟨a6, c6, rfl, _, _, _⟩ := hv6.row
      have b6 := b1.trans (b6.mono b1.size)
      clear hv6
      go_wp2_with fail
      refine (awake_any _).mono ?_
      rintro r w9 ⟨rfl, b9⟩
      have bb := b6.trans (b9.mono b6.size)
      go_wp2_with fail
      go_ret
      exact ⟨rfl, bb⟩

theorem walk (H : Type) (enc : TypeId × Value → H) : Walk H enc Try.prog 5 Try.f5 := by
  intro W base args ds p hval hA
  rw [Try.params5] at hA hval
  obtain ⟨v0, v1, v2, v3, d0, d1, d2, d3, p0, p1, p2, p3, rfl, rfl, rfl, h0, h1, h2, h3⟩ := trodAll_four hA
  obtain ⟨x, rfl, rfl, rfl, _⟩ := open_int Try.underlying3 (hval 0 _ v0 rfl rfl) h0
  obtain ⟨a, n, c, V, C, rfl, hn, hm, hV, hC⟩ := open_calls (hval 1 _ v1 rfl rfl) h1
  obtain ⟨y, rfl, rfl, rfl, _⟩ := open_int Try.underlying3 (hval 2 _ v2 rfl rfl) h2
  obtain ⟨z, rfl, rfl, rfl, _⟩ := open_int Try.underlying3 (hval 3 _ v3 rfl rfl) h3
  exact body x a n c V C y z W hn hm hV hC

set_option maxRecDepth 100000 in
theorem lifted (os : Os) (started : os.Started) (H : Type) (enc : TypeId × Value → H) :
    ReturnsInHanded {} Try.checked os 5 .any (Rows.topoBothSpec.pre6 enc Try.prog Try.f5 Rows.topoBothRow.domain false) (Rows.topoBothSpec.post enc Try.prog Try.f5 false true false false) :=
  returnsInHanded_of_change (C := Try.checked) own started (by kernel_rfl) Try.func5
    (ChangeSpec.witness6 (enc := enc) (C := Try.checked) false ⟨#[], #[.int .i64 0, .slice none 0 0, .int .i64 0, .int .i64 0], []⟩ 8 (by kernel_rfl) (by kernel_rfl) (by kernel_rfl) (by kernel_rfl))
    fun W base args ds gs before hval hW _ _ => step_of_walk laidOut (by rw [Try.params5]; exact of_decide_eq_true (by kernel_rfl)) (by kernel_rfl) Try.underlying4 rfl
      (fun ds h => by
        rw [Try.params5] at h
        match ds, h with
        | [_, _, _, _], _ => rfl) (walk H enc) W base args ds gs before hval hW

theorem holds : Rows.TopoBothSaid :=
  OpenClaim.holds_of_wide 5 Try.f5 rfl rfl rfl rfl rfl rfl rfl ⟨rfl, rfl, rfl, rfl, rfl⟩ rfl rfl rfl rfl rfl (by kernel_rfl) Try.func5 (by kernel_rfl)
    (of_decide_eq_true (by kernel_rfl)) (by unfold Func.isWrapper; first | (rw [if_pos (by decide +kernel)]; kernel_rfl) | (rw [if_neg (by decide +kernel)]; exact ⟨rfl, rfl⟩))
    (fun os started H enc _ => lifted os started H enc)
#print axioms holds
end Go.Proofs.Ytcgnfngbljlgeaa.TopoBoth
