/-
  Law BitsShort: of fewer bits than are asked for nothing is told; the error stays; what fills a byte must be 0; the call returns true. No condition.
-/
import Derived.Test.YtamooehncjceiaaBfEnds
import Derived.Test.YtamooehncjceiaaRowRow
import Derived.IntWalk
set_option maxRecDepth 100000
namespace Go.Proofs.Ytamooehncjceiaa.BitsShort
set_option linter.unusedVariables false
open Go.RowKit Go.ChangeShapes Go.WideShapes Go.ChangeAt Go.Deep Lb Bf
set_option linter.unusedVariables false
theorem own : ownKnob Try.prog.godebug = none := by kernel_rfl
theorem laidOut : laidOutB Try.prog = true := by kernel_rfl
theorem left_empty (base b : Nat) (Z : Nat → Nat) (err : Int) (w : World) (h : Rd w base b 0 0 Z err (.slice none 0 0)) :
    Calls Try.prog 18 #[.pointer (some ⟨b, 0, none⟩)] w fun r w' => r = .returned (.int .i64 0) ∧ Rd w' base b 0 0 Z err (.slice none 0 0) ∧ Below base w w' := by
  refine (left_any base b 0 0 Z err _ w h (by omega) (by omega)).mono ?_
  rintro r w' ⟨rfl, m, rfl⟩
  exact ⟨rfl, h.drewN m, below_drewN (Below.refl _ _) m⟩
def two (x : Nat) (k : Nat) : Nat := if k = 0 then x else 7
theorem two_lt (x : Nat) (h : x < 256) : ∀ k, k < 2 → two x k < 256 := fun k _ => by
  unfold two
  split <;> omega
theorem low_num (x Y : Nat) (h0 : 1 ≤ Y) (h1 : Y ≤ 7) : Num (x % 2 ^ (8 - Y)) (8 - Y) (bt (two x)) Y where
  lt := Nat.mod_lt _ (Nat.two_pow_pos _)
  bit j hj := by
    rw [Nat.testBit_mod_two_pow]
    unfold bt two
    have e1 : (Y + (8 - Y - 1 - j)) / 8 = 0 := by omega
    have e2 : 7 - (Y + (8 - Y - 1 - j)) % 8 = j := by omega
    rw [e1, e2]
    simp [hj]
theorem seven_num (x : Nat) : Num 7 8 (bt (two x)) 8 where
  lt := by decide
  bit j hj := by
    unfold bt two
    have e1 : (8 + (8 - 1 - j)) / 8 = 1 := by omega
    have e2 : 7 - (8 + (8 - 1 - j)) % 8 = j := by omega
    rw [e1, e2]
    simp
theorem low_zero (x Y : Nat) (h0 : 1 ≤ Y) (h1 : Y ≤ 7) : x * 2 ^ Y % 256 = x % 2 ^ (8 - Y) * 2 ^ Y := by
  rw [show 256 = 2 ^ (8 - Y) * 2 ^ Y from by rw [← Nat.pow_add, show 8 - Y + Y = 8 from by omega], Nat.mul_mod_mul_right]
set_option maxHeartbeats 8000000 in
theorem body (a : Option Addr) (n c : Nat) (Z : Nat → Nat) (a2 : Option Addr) (n2 c2 : Nat) (X : Nat → Int) (low : Nat) (by_ : Int) (w : World) (hn : n ≤ c) (hc : c ≤ maxLen) (hV : Row w a n (fun i => .int .u8 (Z i : Nat))) (hz : ∀ k, k < n → Z k < 256)
    (hn2 : n2 ≤ c2) (hc2 : c2 ≤ maxLen) (hV2 : Row w a2 n2 (fun i => .int .i64 (X i))) (hlow : low < 256) :
    Calls Try.prog 7 #[.slice a n c, .slice a2 n2 c2, .int .u8 (low : Nat), .int .i64 by_] w fun r w' => r = .returned (.bool true) ∧ Below w.heap.size w w' := by
  have hcap : (n2 : Int) ≤ 9223372036854775807 := by unfold maxLen at hc2; omega
  by_cases h100 : 100 < n
  · have hcap : (n : Int) ≤ 9223372036854775807 := by unfold maxLen at hc; omega
    have g1 : (100 : Int) < (n : Int) := by omega
    go_enter Try.func7, Try.ntmps7
    go_wp2_with fail
    refine (awake_any _).mono ?_
    rintro r w9 ⟨rfl, b9⟩
    go_wp2_with fail
    go_ret
    exact ⟨rfl, b9⟩
  · have g1 : decide ((100 : Int) < (n : Int)) = false := by simp; omega
    have hn100 : n ≤ 100 := by omega
    have ha : a = none → n = 0 := fun e => by
      subst e
      rcases Nat.eq_zero_or_pos n with h | h
      · exact h
      · obtain ⟨_, _, h1, _⟩ := hV h
        cases h1
    clear h100
    obtain ⟨Y, hY⟩ : ∃ Y : Nat, 1 + (by_ % 18446744073709551616) % 7 = (Y : Int) := ⟨(1 + (by_ % 18446744073709551616) % 7).toNat, by omega⟩
    have hY2 : wrap64 (1 + wrap64 ((IntKind.u64.wrap by_).tmod 7)) = (Y : Int) := by
      have e : (IntKind.u64.wrap by_).tmod 7 = (by_ % 18446744073709551616) % 7 := by
        rw [IntKind.wrap_u64, Int.tmod_eq_emod_of_nonneg (Int.emod_nonneg _ (by decide))]
      rw [e, IntWalk.wrap64_in ((by_ % 18446744073709551616) % 7) ⟨by omega, by omega⟩, hY, IntWalk.wrap64_in (Y : Int) ⟨by omega, by omega⟩]
    have hY3 : IntKind.u64.wrap (Y : Int) = (Y : Int) := by rw [IntKind.wrap_u64]; omega
    have hY1 : 1 ≤ Y ∧ Y ≤ 7 := by omega
    clear hY
    have hm8 : min Y 8 = Y := by omega
    go_enter Try.func7, Try.ntmps7
    go_wp2_with fail
    refine (new_any a n c Z _ (by omega) hV hz ha).mono ?_
    rintro r w1 ⟨b, v, rfl, h1, b1⟩
    go_wp2_with fail
    refine (text_short w.heap.size b 0 n Z 0 ((n : Int) + 1) v _ h1 (by omega) (by omega) (by omega) (by omega)).mono ?_
    rintro r w2 ⟨rfl, h2, b2⟩
    have h2 : Rd w2 w.heap.size b 0 0 Z 2 (.slice none 0 0) := h2
    have b2 := b1.trans b2
    clear h1 b1
    go_wp2_with fail
    refine (left_empty w.heap.size b Z 2 _ h2).mono ?_
    rintro r w3 ⟨rfl, h3, b3⟩
    have b3 := b2.trans b3
    clear h2 b2
    go_wp2_with fail
    refine (end_err w.heap.size b 0 0 Z 2 _ _ h3 (by decide)).mono ?_
    rintro r w' ⟨rfl, rfl⟩
    go_wp2_with fail
    go_loopw [34] (fun i wr => ∃ k : Nat, i = .int .i64 k ∧ k ≤ n2 ∧ Rd wr w.heap.size b 0 0 Z 2 (.slice none 0 0) ∧ Below w.heap.size w wr) (fun i _ => n2 - (intOf i).toNat)
    case atStart => exact ⟨0, rfl, by omega, h3, b3⟩
    case round =>
      clear h3 b3
      obtain ⟨k, rfl, hk, h4, b4⟩ := hrel
      by_cases hlt : k < n2
      · obtain ⟨bo, off, rfl, hbo, c0⟩ := hV2.at_old b4 hlt
        by_cases hk20 : k < 20
        · have g2 : decide ((20 : Int) ≤ (k : Int)) = false := by simp; omega
          have g3 : decide (20 ≤ k) = false := by simp; omega
          obtain ⟨t, ht⟩ : ∃ t, X k = t := ⟨_, rfl⟩
          rw [ht] at c0
          clear ht
          go_wp2_with fail
          refine (even_yes w.heap.size b 0 0 Z 2 _ _ h4 (by decide)).mono ?_
          rintro r w' ⟨rfl, rfl⟩
          go_wp2_with fail
          refine (take_empty w.heap.size b Z 2 t _ h4 (by decide)).mono ?_
          rintro r w5 ⟨rfl, h5, b5⟩
          have b5 := b4.trans b5
          clear h4
          go_wp2_with fail
          refine (text_empty w.heap.size b Z 2 t _ h5 (by decide)).mono ?_
          rintro r w6 ⟨rfl, h6, b6⟩
          have b6 := b5.trans b6
          clear h5
          go_wp2_with fail
          refine (left_empty w.heap.size b Z 2 _ h6).mono ?_
          rintro r w7 ⟨rfl, h7, b7⟩
          have b7 := b6.trans b7
          clear h6
          go_wp2_with fail
          refine (end_err w.heap.size b 0 0 Z 2 _ _ h7 (by decide)).mono ?_
          rintro r w' ⟨rfl, rfl⟩
          go_wp2_with fail
          exact ⟨⟨k + 1, by simp, by omega, h7, b7⟩, by simp [intOf]; omega⟩
        · have g2 : (20 : Int) ≤ (k : Int) := by omega
          clear hk20
          go_wp2_with fail
          have hr2 := row_new (n := 2) (V := fun i => .int .u8 (two low i : Nat)) wr #[.int .u8 (low : Nat), .int .u8 7] 5 (0, 0) (fun i hi => by
            rcases (show i = 0 ∨ i = 1 by omega) with rfl | rfl <;> rfl)
          have b5 := b4.alloc b4.size (.cells #[.int .u8 (low : Nat), .int .u8 7] 5)
          refine (new_any (some ⟨wr.heap.size, 0, none⟩) 2 2 (two low) _ (by omega) hr2 (two_lt low hlow) (fun e => by cases e)).mono ?_
          rintro r wA ⟨bs, vs, rfl, hs, bA0⟩
          have hle := b5.size
          have bA := b5.trans (bA0.mono hle)
          clear bA0
          generalize (wr.alloc (.cells #[.int .u8 (low : Nat), .int .u8 7] 5)).heap.size = B2 at *
          clear h4 b4 b5 hr2
          go_wp2_with fail
          refine (take_any B2 bs 0 2 (two low) 0 vs Y _ hs (by omega) (by omega) (by omega)).mono ?_
          rintro r wB ⟨x1, rfl, hx1, hs2, bB⟩
          have bB := bA.trans (bB.mono hle)
          rw [Nat.zero_add] at hs2
          clear hs bA
          go_wp2_with fail
          refine (even_no B2 bs Y 2 (two low) 0 vs _ hs2 (by omega) (by omega) (by omega)).mono ?_
          rintro r wC ⟨rfl, bC, x, hx, hor⟩
          have bC := bB.trans (bC.mono hle)
          rw [show Y % 8 = Y from by omega] at hx hor
          have hxe := hx.uniq (low_num low Y hY1.1 hY1.2)
          have hW : (low : Int) * 2 ^ Y % 256 = ((x * 2 ^ Y : Nat) : Int) := by
            have := low_zero low Y hY1.1 hY1.2
            rw [← hxe] at this
            rw [← this]
            simp
          have hp2 := Nat.two_pow_pos Y
          clear hs2 bB hx hxe
          rcases hor with ⟨x0, hs3⟩ | ⟨x0, hs3⟩
          · subst x0
            rw [Nat.zero_mul] at hW
            have eL2 : (low : Int) * 2 ^ Y % 256 = 0 := hW
            have eL3 : IntKind.u8.wrap ((low : Int) * 2 ^ Y) = 0 := by rw [IntKind.wrap_u8', eL2]
            rw [show Y + (8 - Y) = 8 from by omega] at hs3
            clear hW hY1
            go_wp2_with fail
            refine (left_any B2 bs 8 2 (two low) 0 vs _ hs3 (by omega) (by omega)).mono ?_
            rintro r wD ⟨rfl, mD, hwD⟩
            have hs4 : Rd wD B2 bs 8 2 (two low) 0 vs := by rw [← hwD]; exact hs3.drewN mD
            have bD : Below w.heap.size w wD := by rw [← hwD]; exact below_drewN bC mD
            rw [show ((8 * 2 - 8 : Nat) : Int) = 8 from rfl]
            clear hwD hs3 bC
            go_wp2_with fail
            refine (take_any B2 bs 8 2 (two low) 0 vs 8 _ hs4 (by omega) (by omega) (by omega)).mono ?_
            rintro r wE ⟨x2, rfl, hx2, hs5, bE⟩
            have bE := bD.trans (bE.mono hle)
            obtain rfl : x2 = 7 := hx2.uniq (seven_num low)
            clear hs4 bD hx2
            go_wp2_with fail
            refine (end_ok B2 bs (8 + 8) 2 (two low) vs _ hs5 (by omega) (by omega)).mono ?_
            rintro r wG ⟨rfl, mG, hwG⟩
            have bG : Below w.heap.size w wG := by rw [← hwG]; exact below_drewN bE mG
            clear hwG bE hs5
            go_wp2_with fail
            refine (awake_any _).mono ?_
            rintro r w9 ⟨rfl, b9⟩
            go_wp2_with fail
            go_ret
            exact ⟨rfl, bG.trans (b9.mono bG.size)⟩
          · have hW0 := Nat.mul_pos (Nat.pos_of_ne_zero x0) hp2
            obtain ⟨U, hU⟩ : ∃ U, x * 2 ^ Y = U := ⟨_, rfl⟩
            rw [hU] at hW hW0
            have eL2 : ((low : Int) * 2 ^ Y % 256 == 0) = false := by rw [hW]; simp; omega
            have eL5 : ((low : Int) * 2 ^ Y % 256 != 0) = true := by rw [hW]; simp; omega
            have eL3 : IntKind.u8.wrap ((low : Int) * 2 ^ Y) = (U : Int) := by rw [IntKind.wrap_u8', hW]
            have eL4 : ((U : Int) == 0) = false := by simp; omega
            have hs3 : Rd wC B2 bs 0 0 (two low) 3 (.slice none 0 0) := hs3
            clear hU hW0 x0 hp2 hY1
            go_wp2_with fail
            refine (end_err B2 bs 0 0 (two low) 3 _ _ hs3 (by decide)).mono ?_
            rintro r w' ⟨rfl, rfl⟩
            go_wp2_with fail
            refine (left_empty B2 bs (two low) 3 _ hs3).mono ?_
            rintro r wD ⟨rfl, hs4, bD⟩
            have bD := bC.trans (bD.mono hle)
            clear hs3 bC
            go_wp2_with fail
            refine (take_empty B2 bs (two low) 3 8 _ hs4 (by decide)).mono ?_
            rintro r wE ⟨rfl, hs5, bE⟩
            have bE := bD.trans (bE.mono hle)
            clear hs4 bD
            go_wp2_with fail
            refine (awake_any _).mono ?_
            rintro r w9 ⟨rfl, b9⟩
            go_wp2_with fail
            go_ret
            exact ⟨rfl, bE.trans (b9.mono bE.size)⟩
      · have hkn : k = n2 := by omega
        have g4 : decide ((k : Int) < (n2 : Int)) = false := by simp; omega
        have g4' : decide (k < n2) = false := by simp; omega
        clear hkn hlt hk
        go_wp2_with fail
        have hr2 := row_new (n := 2) (V := fun i => .int .u8 (two low i : Nat)) wr #[.int .u8 (low : Nat), .int .u8 7] 5 (0, 0) (fun i hi => by
          rcases (show i = 0 ∨ i = 1 by omega) with rfl | rfl <;> rfl)
        have b5 := b4.alloc b4.size (.cells #[.int .u8 (low : Nat), .int .u8 7] 5)
        refine (new_any (some ⟨wr.heap.size, 0, none⟩) 2 2 (two low) _ (by omega) hr2 (two_lt low hlow) (fun e => by cases e)).mono ?_
        rintro r wA ⟨bs, vs, rfl, hs, bA0⟩
        have hle := b5.size
        have bA := b5.trans (bA0.mono hle)
        clear bA0
        generalize (wr.alloc (.cells #[.int .u8 (low : Nat), .int .u8 7] 5)).heap.size = B2 at *
        clear h4 b4 b5 hr2
        go_wp2_with fail
        refine (take_any B2 bs 0 2 (two low) 0 vs Y _ hs (by omega) (by omega) (by omega)).mono ?_
        rintro r wB ⟨x1, rfl, hx1, hs2, bB⟩
        have bB := bA.trans (bB.mono hle)
        rw [Nat.zero_add] at hs2
        clear hs bA
        go_wp2_with fail
        refine (even_no B2 bs Y 2 (two low) 0 vs _ hs2 (by omega) (by omega) (by omega)).mono ?_
        rintro r wC ⟨rfl, bC, x, hx, hor⟩
        have bC := bB.trans (bC.mono hle)
        rw [show Y % 8 = Y from by omega] at hx hor
        have hxe := hx.uniq (low_num low Y hY1.1 hY1.2)
        have hW : (low : Int) * 2 ^ Y % 256 = ((x * 2 ^ Y : Nat) : Int) := by
          have := low_zero low Y hY1.1 hY1.2
          rw [← hxe] at this
          rw [← this]
          simp
        have hp2 := Nat.two_pow_pos Y
        clear hs2 bB hx hxe
        rcases hor with ⟨x0, hs3⟩ | ⟨x0, hs3⟩
        · subst x0
          rw [Nat.zero_mul] at hW
          have eL2 : (low : Int) * 2 ^ Y % 256 = 0 := hW
          have eL3 : IntKind.u8.wrap ((low : Int) * 2 ^ Y) = 0 := by rw [IntKind.wrap_u8', eL2]
          rw [show Y + (8 - Y) = 8 from by omega] at hs3
          clear hW hY1
          go_wp2_with fail
          refine (left_any B2 bs 8 2 (two low) 0 vs _ hs3 (by omega) (by omega)).mono ?_
          rintro r wD ⟨rfl, mD, hwD⟩
          have hs4 : Rd wD B2 bs 8 2 (two low) 0 vs := by rw [← hwD]; exact hs3.drewN mD
          have bD : Below w.heap.size w wD := by rw [← hwD]; exact below_drewN bC mD
          rw [show ((8 * 2 - 8 : Nat) : Int) = 8 from rfl]
          clear hwD hs3 bC
          go_wp2_with fail
          refine (take_any B2 bs 8 2 (two low) 0 vs 8 _ hs4 (by omega) (by omega) (by omega)).mono ?_
          rintro r wE ⟨x2, rfl, hx2, hs5, bE⟩
          have bE := bD.trans (bE.mono hle)
          obtain rfl : x2 = 7 := hx2.uniq (seven_num low)
          clear hs4 bD hx2
          go_wp2_with fail
          refine (end_ok B2 bs (8 + 8) 2 (two low) vs _ hs5 (by omega) (by omega)).mono ?_
          rintro r wG ⟨rfl, mG, hwG⟩
          have bG : Below w.heap.size w wG := by rw [← hwG]; exact below_drewN bE mG
          clear hwG bE hs5
          go_wp2_with fail
          refine (awake_any _).mono ?_
          rintro r w9 ⟨rfl, b9⟩
          go_wp2_with fail
          go_ret
          exact ⟨rfl, bG.trans (b9.mono bG.size)⟩
        · have hW0 := Nat.mul_pos (Nat.pos_of_ne_zero x0) hp2
          obtain ⟨U, hU⟩ : ∃ U, x * 2 ^ Y = U := ⟨_, rfl⟩
          rw [hU] at hW hW0
          have eL2 : ((low : Int) * 2 ^ Y % 256 == 0) = false := by rw [hW]; simp; omega
          have eL5 : ((low : Int) * 2 ^ Y % 256 != 0) = true := by rw [hW]; simp; omega
          have eL3 : IntKind.u8.wrap ((low : Int) * 2 ^ Y) = (U : Int) := by rw [IntKind.wrap_u8', hW]
          have eL4 : ((U : Int) == 0) = false := by simp; omega
          have hs3 : Rd wC B2 bs 0 0 (two low) 3 (.slice none 0 0) := hs3
          clear hU hW0 x0 hp2 hY1
          go_wp2_with fail
          refine (end_err B2 bs 0 0 (two low) 3 _ _ hs3 (by decide)).mono ?_
          rintro r w' ⟨rfl, rfl⟩
          go_wp2_with fail
          refine (left_empty B2 bs (two low) 3 _ hs3).mono ?_
          rintro r wD ⟨rfl, hs4, bD⟩
          have bD := bC.trans (bD.mono hle)
          clear hs3 bC
          go_wp2_with fail
          refine (take_empty B2 bs (two low) 3 8 _ hs4 (by decide)).mono ?_
          rintro r wE ⟨rfl, hs5, bE⟩
          have bE := bD.trans (bE.mono hle)
          clear hs4 bD
          go_wp2_with fail
          refine (awake_any _).mono ?_
          rintro r w9 ⟨rfl, b9⟩
          go_wp2_with fail
          go_ret
          exact ⟨rfl, bE.trans (b9.mono bE.size)⟩
theorem walk (H : Type) (enc : TypeId × Value → H) : Walk H enc Try.prog 7 Try.f7 := by
  intro W base args ds p hval hA
  rw [Try.params7] at hA hval
  obtain ⟨v0, v1, v2, v3, d0, d1, d2, d3, p0, p1, p2, p3, rfl, rfl, rfl, h0, h1, h2, h3⟩ := trodAll_four hA
  obtain ⟨a, n, c, Z, rfl, hn, hm, hV, hz⟩ := open_row_int Try.underlying22 Try.underlying5 (by kernel_rfl) (hval 0 _ v0 rfl rfl) h0
  obtain ⟨a2, n2, c2, X, rfl, hn2, hm2, hV2, _⟩ := open_row_int Try.underlying50 Try.underlying3 (by kernel_rfl) (hval 1 _ v1 rfl rfl) h1
  obtain ⟨x, rfl, rfl, rfl, hx⟩ := open_int Try.underlying5 (hval 2 _ v2 rfl rfl) h2
  obtain ⟨y, rfl, rfl, rfl, _⟩ := open_int Try.underlying3 (hval 3 _ v3 rfl rfl) h3
  obtain ⟨x', rfl⟩ : ∃ x' : Nat, x = x' := ⟨x.toNat, by have := u8_bd hx; omega⟩
  exact body a n c (fun k => (Z k).toNat) a2 n2 c2 X x' y W hn hm (fun h => by
    obtain ⟨b, off, e1, e2, e3⟩ := hV h
    exact ⟨b, off, e1, e2, fun i hi => by
      rw [e3 i hi]
      have := u8_bd (hz i)
      show some (Value.int .u8 (Z i)) = some (.int .u8 ((Z i).toNat : Int))
      rw [Int.toNat_of_nonneg this.1]⟩) (fun k _ => by have := u8_bd (hz k); omega) hn2 hm2 hV2 (by have := u8_bd hx; omega)

set_option maxRecDepth 100000 in
theorem lifted (os : Os) (started : os.Started) (H : Type) (enc : TypeId × Value → H) :
    ReturnsInHanded {} Try.checked os 7 .any (Rows.bitsShortSpec.pre6 enc Try.prog Try.f7 Rows.bitsShortRow.domain false) (Rows.bitsShortSpec.post enc Try.prog Try.f7 false true false false) :=
  returnsInHanded_of_change (C := Try.checked) own started (by kernel_rfl) Try.func7
    (ChangeSpec.witness6 (enc := enc) (C := Try.checked) false ⟨#[], #[.slice none 0 0, .slice none 0 0, .int .u8 0, .int .i64 0], []⟩ 8 (by kernel_rfl) (by kernel_rfl) (by kernel_rfl) (by kernel_rfl))
    fun W base args ds gs before hval hW _ _ => step_of_walk laidOut (by rw [Try.params7]; exact of_decide_eq_true (by kernel_rfl)) (by kernel_rfl) Try.underlying4 rfl
      (fun ds h => by
        rw [Try.params7] at h
        match ds, h with
        | [_, _, _, _], _ => rfl) (walk H enc) W base args ds gs before hval hW

theorem holds : Rows.BitsShortSaid :=
  OpenClaim.holds_of_wide 7 Try.f7 rfl rfl rfl rfl rfl rfl rfl ⟨rfl, rfl, rfl, rfl, rfl⟩ rfl rfl rfl rfl rfl (by kernel_rfl) Try.func7 (by kernel_rfl)
    (of_decide_eq_true (by kernel_rfl)) (by unfold Func.isWrapper; first | (rw [if_pos (by decide +kernel)]; kernel_rfl) | (rw [if_neg (by decide +kernel)]; exact ⟨rfl, rfl⟩))
    (fun os started H enc _ => lifted os started H enc)
#print axioms holds
end Go.Proofs.Ytamooehncjceiaa.BitsShort
