/-
  Law ParentsBest: of all that are heard at one moment the three of the least ranks stay, among those below its own; the call returns true. No condition.
-/
import Derived.Test.YtjboilkbcajkcaaPaBest
set_option maxRecDepth 100000
namespace Go.Proofs.Ytjboilkbcajkcaa.ParentsBest
set_option linter.unusedVariables false
open Go.RowKit Go.ChangeShapes Go.WideShapes Go.ChangeAt Go.Deep Lb Pa
set_option linter.unusedVariables false
theorem own : ownKnob Try.prog.godebug = none := by kernel_rfl
theorem laidOut : laidOutB Try.prog = true := by kernel_rfl
set_option maxHeartbeats 4000000 in
theorem body (a : Option Addr) (n c : Nat) (Z : Nat → Int) (rk : Int) (w : World) (hn : n ≤ c) (hc : c ≤ maxLen) (hV : Row w a n (fun i => .int .i64 (Z i))) :
    Calls Try.prog 7 #[.slice a n c, .int .i64 rk] w fun q w' => q = .returned (.bool true) ∧ Below w.heap.size w w' := by
  have hcap : (n : Int) ≤ 9223372036854775807 := by unfold maxLen at hc; omega
  by_cases h15 : 15 < n
  · have g1 : decide (15 < n) = true := by simpa using h15
    have g2 : decide ((15 : Int) < (n : Int)) = true := by simp; omega
    go_enter Try.func7, Try.ntmps7
    go_wp2_with fail
    refine (awake_any _).mono ?_
    rintro r w9 ⟨rfl, b9⟩
    go_wp2_with fail
    go_ret
    exact ⟨rfl, b9⟩
  have g1 : decide (15 < n) = false := by simpa using h15
  have g2 : decide ((15 : Int) < (n : Int)) = false := by simp; omega
  obtain ⟨R, hR⟩ : ∃ B, 1 + rk % 18446744073709551616 % 250 = B := ⟨_, rfl⟩
  have hb : 1 ≤ R ∧ R ≤ 250 := by omega
  have tm : ∀ x m : Int, (IntKind.u64.wrap x).tmod m = (x % 18446744073709551616) % m := fun x m => by rw [IntKind.wrap_u64, Int.tmod_eq_emod_of_nonneg (Int.emod_nonneg _ (by decide))]
  have HB := Lib.hid (show wrap64 (1 + wrap64 ((IntKind.u64.wrap rk).tmod 250)) = R by rw [tm, IntWalk.wrap64_in (rk % 18446744073709551616 % 250) ⟨by omega, by omega⟩, hR, IntWalk.wrap64_in _ ⟨by omega, by omega⟩])
  obtain ⟨X, hX⟩ : ∃ X : Nat → Int, ∀ i, wrap64 ((IntKind.u64.wrap (Z i)).tmod 256) = X i := ⟨_, fun i => rfl⟩
  have hX0 : ∀ i, 0 ≤ X i ∧ X i ≤ 255 := fun i => by
    rw [← hX i, tm, IntWalk.wrap64_in _ ⟨by omega, by omega⟩]
    omega
  have HX := Lib.hid hX
  have HX0 := Lib.hid hX0
  have HV := Lib.hid hV
  clear hX hX0 hR tm hV
  go_enter Try.func7, Try.ntmps7
  go_wp2_with fail
  rw [HB.out]
  clear HB g1 g2
  refine (new_yes 15 R _ rfl (by simp [rkB]; omega)).mono ?_
  rintro r w1 ⟨rfl, t1, b1⟩
  have i1 : Hid (Best X 0 R []) := Lib.hid (best_zero X R hb)
  go_wp2_with fail
  go_loopw [32, 6] (fun i ls wr => ∃ (k : Nat) (q : Int) (l : List P) (v : Value), i = .int .i64 k ∧ ls = .int .i64 q ∧ k ≤ n ∧ Hid (Best X k q l) ∧ St wr w.heap.size w.heap.size 15 q l v ∧ Below w.heap.size w wr) (fun i _ _ => n - (intOf i).toNat)
  case atStart => exact ⟨0, R, [], _, rfl, rfl, by omega, i1, t1, b1⟩
  case round =>
    clear t1 b1 i1 hb
    obtain ⟨k, q, l, v, rfl, rfl, hk, hI, t, bb⟩ := hrel
    by_cases hlt : k < n
    · obtain ⟨bo, off, rfl, hbo, c0⟩ := HV.out.at_old bb hlt
      have hs := best_step hI.out (show k < 15 by omega) (HX0.out k)
      have HS1 := Lib.hid hs.1
      have HS2 := Lib.hid hs.2
      have hq := hI.out.inv.lo
      have hx0 := HX0.out k
      have HXk := Lib.hid (HX.out k)
      have h3 := hI.out.inv.three
      clear hs
      generalize X k = x at *
      generalize Z k = z at *
      go_wp2_with fail
      rw [HXk.out]
      refine (hear_any w.heap.size w.heap.size 15 q l v ⟨k, x, 5⟩ _ t (by omega) (by omega)).mono ?_
      rintro r w3 ⟨rfl, v3, t3, j3⟩
      rw [HS1.out] at t3
      have b3 := bb.trans (j3.old t)
      clear t c0 j3 bb HXk
      go_wp2_with fail
      exact ⟨⟨k + 1, min q (x + 1), _, v3, by simp, rfl, by omega, HS2, t3, b3⟩, by simp [intOf]; omega⟩
    · obtain rfl : n = k := by omega
      have hq := hI.out.inv.lo
      have hq1 := hI.out.pos
      go_wp2_with fail
      obtain ⟨w2, hw2⟩ : ∃ w2, wr = w2 := ⟨_, rfl⟩
      rw [hw2] at t bb ⊢
      clear hw2
      go_loopw [52, 9] (fun i cn wr => ∃ j : Nat, i = .int .i64 j ∧ cn = .int .i64 (cnt X q j : Nat) ∧ j ≤ n ∧ w2 = wr) (fun i _ _ => n - (intOf i).toNat)
      case atStart => exact ⟨0, rfl, rfl, by omega, rfl⟩
      case round =>
        obtain ⟨j, rfl, rfl, hj, rfl⟩ := hrel
        have hcj := cnt_le X q j
        by_cases hlt2 : j < n
        · obtain ⟨bo, off, rfl, hbo, c0⟩ := HV.out.at_old bb hlt2
          have hxj := HX.out j
          have hx0 := HX0.out j
          have HC := Lib.hid (cnt_succ X q j)
          generalize X j = x at *
          generalize Z j = z at *
          generalize hcc : cnt X q j = cn at *
          have HCC := Lib.hid hcc
          clear hcc
          by_cases hx : x < q
          · have HD : Hid (cnt X q (j + 1) = cn + 1) := Lib.hid (by rw [HC.out, if_pos hx])
            go_wp2_with fail
            exact ⟨⟨j + 1, by simp, by rw [HD.out]; simp, by omega, trivial⟩, by simp [intOf]; omega⟩
          · have HD : Hid (cnt X q (j + 1) = cn) := Lib.hid (by rw [HC.out, if_neg hx]; rfl)
            have e : decide (x < q) = false := by simpa using hx
            clear hx
            go_wp2_with fail
            exact ⟨⟨j + 1, by simp, by rw [HD.out], by omega, trivial⟩, by simp [intOf]; omega⟩
        · obtain rfl : n = j := by omega
          have hlen := hI.out.len
          by_cases h0 : l.length = 0
          · obtain ⟨cn, hcn⟩ : ∃ cn, cnt X q n = cn := ⟨_, rfl⟩
            have HCN := Lib.hid hcn
            obtain ⟨m, hm⟩ : ∃ m, l.length = m := ⟨_, rfl⟩
            have HM := Lib.hid hm
            have hcn0 : cn = 0 := by rw [hcn] at hlen; omega
            have hm0 : m = 0 := by omega
            have hmin : Hid (((m : Int) == min (cn : Int) 3) = true) := Lib.hid (by simp; omega)
            have hc0 : Hid (decide (0 < cn) = false) := Lib.hid (by simp; omega)
            clear hcn hm hcn0 hm0
            have hps : Hid (decide (0 < l.length) = false) := Lib.hid (by rw [h0]; rfl)
            have hf : Hid (fstN l = 0) := Lib.hid (by unfold fstN; rw [if_pos h0])
            clear h0 hlen
            rw [HCN.out]
            go_wp2_with fail
            refine (fst_any _ _ 15 q l v _ t).mono ?_
            rintro r w' ⟨rfl, rfl⟩
            rw [hf.out, hps.out]
            go_wp2_with fail
            refine (rko_any _ _ 15 q l v 0 _ t).mono ?_
            rintro r w5 ⟨rfl, b5⟩
            have t5 := t.below b5
            have b6 := bb.trans (b5.mono bb.size)
            generalize (rkoP l 0).1 = y1
            generalize (rkoP l 0).2 = y2
            clear t b5
            go_wp2_with fail
            refine (rnk_any _ _ 15 q l v w5 t5).mono ?_
            rintro r w' ⟨rfl, rfl⟩
            go_wp2_with fail
            refine (all_any _ _ 15 q l v w5 t5).mono ?_
            rintro r w7 ⟨A7, c7, rfl, hc7, hd7, hR7, b7⟩
            rw [HM.out] at hc7 ⊢
            have b8 := b6.trans (b7.mono b6.size)
            have hmin := hmin.out
            have hc0 := hc0.out
            clear hR7 t5
            go_wp2_with fail
            refine (awake_any _).mono ?_
            rintro r w9 ⟨rfl, b9⟩
            go_wp2_with fail
            go_ret
            exact ⟨rfl, b8.trans (b9.mono b8.size)⟩
          · have hfst := best_first hI.out (show 0 < l.length by omega)
            obtain ⟨cn, hcn⟩ : ∃ cn, cnt X q n = cn := ⟨_, rfl⟩
            have HCN := Lib.hid hcn
            obtain ⟨m, hm⟩ : ∃ m, l.length = m := ⟨_, rfl⟩
            have HM := Lib.hid hm
            rw [hcn, hm] at hlen
            rw [hm] at h0
            have hmin : Hid (((m : Int) == min (cn : Int) 3) = true) := Lib.hid (by simp; omega)
            have hc0 : 0 < cn := by omega
            have hcn15 : cn ≤ n := by rw [← hcn]; exact cnt_le X q n
            have hps : Hid (decide (0 < l.length) = true) := Lib.hid (by simp; omega)
            have HF := Lib.hid hfst
            have sq : IntKind.i64.wrap (q - 1) = q - 1 := IntWalk.i64_in _ (by omega)
            obtain ⟨f, hf⟩ : ∃ f, fstN l = f := ⟨_, rfl⟩
            rw [hf] at HF
            have HFF := Lib.hid hf
            clear hf hcn hm hfst hlen h0 sq
            rw [HCN.out]
            go_wp2_with fail
            refine (fst_any _ _ 15 q l v _ t).mono ?_
            rintro r w' ⟨rfl, rfl⟩
            rw [HFF.out, hps.out]
            go_wp2_with fail
            refine (rko_any _ _ 15 q l v f _ t).mono ?_
            rintro r w5 ⟨rfl, b5⟩
            rw [HF.out]
            have t5 := t.below b5
            have b6 := bb.trans (b5.mono bb.size)
            clear t b5
            go_wp2_with fail
            refine (rnk_any _ _ 15 q l v w5 t5).mono ?_
            rintro r w' ⟨rfl, rfl⟩
            go_wp2_with fail
            refine (all_any _ _ 15 q l v w5 t5).mono ?_
            rintro r w7 ⟨A7, c7, rfl, hc7, hd7, hR7, b7⟩
            rw [HM.out] at hc7 ⊢
            have b8 := b6.trans (b7.mono b6.size)
            have hmin := hmin.out
            clear hR7 t5
            go_wp2_with fail
            refine (awake_any _).mono ?_
            rintro r w9 ⟨rfl, b9⟩
            go_wp2_with fail
            go_ret
            exact ⟨rfl, b8.trans (b9.mono b8.size)⟩

theorem walk (H : Type) (enc : TypeId × Value → H) : Walk H enc Try.prog 7 Try.f7 := by
  intro W base args ds p hval hA
  rw [Try.params7] at hA hval
  obtain ⟨v0, v1, d0, d1, p0, p1, rfl, rfl, rfl, h0, h1⟩ := trodAll_two hA
  obtain ⟨A, n, c, Z, rfl, hn, hc, hV, hZ⟩ := open_row_int Try.underlying31 Try.underlying3 (by kernel_rfl) (hval 0 _ v0 rfl rfl) h0
  obtain ⟨b, rfl, rfl, rfl, _⟩ := open_int Try.underlying3 (hval 1 _ v1 rfl rfl) h1
  exact body A n c Z b W hn hc hV

set_option maxRecDepth 100000 in
theorem lifted (os : Os) (started : os.Started) (H : Type) (enc : TypeId × Value → H) :
    ReturnsInHanded {} Try.checked os 7 .any (Rows.parentsBestSpec.pre6 enc Try.prog Try.f7 Rows.parentsBestRow.domain false) (Rows.parentsBestSpec.post enc Try.prog Try.f7 false true false false) :=
  returnsInHanded_of_change (C := Try.checked) own started (by kernel_rfl) Try.func7
    (ChangeSpec.witness6 (enc := enc) (C := Try.checked) false ⟨#[], #[.slice none 0 0, .int .i64 0], []⟩ 8 (by kernel_rfl) (by kernel_rfl) (by kernel_rfl) (by kernel_rfl))
    fun W base args ds gs before hval hW _ _ => step_of_walk laidOut (by rw [Try.params7]; exact of_decide_eq_true (by kernel_rfl)) (by kernel_rfl) Try.underlying4 rfl
      (fun ds h => by
        rw [Try.params7] at h
        match ds, h with
        | [_, _], _ => rfl) (walk H enc) W base args ds gs before hval hW

theorem holds : Rows.ParentsBestSaid :=
  OpenClaim.holds_of_wide 7 Try.f7 rfl rfl rfl rfl rfl rfl rfl ⟨rfl, rfl, rfl, rfl, rfl⟩ rfl rfl rfl rfl rfl (by kernel_rfl) Try.func7 (by kernel_rfl)
    (of_decide_eq_true (by kernel_rfl)) (by unfold Func.isWrapper; first | (rw [if_pos (by decide +kernel)]; kernel_rfl) | (rw [if_neg (by decide +kernel)]; exact ⟨rfl, rfl⟩))
    (fun os started H enc _ => lifted os started H enc)
#print axioms holds
end Go.Proofs.Ytjboilkbcajkcaa.ParentsBest
