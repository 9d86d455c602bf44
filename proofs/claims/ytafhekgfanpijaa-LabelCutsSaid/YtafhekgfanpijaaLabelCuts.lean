/-
  Law LabelCuts: for every text and every two numbers: cut twice is cut by the lesser number, cut by as much as there is or more it stays, cut by less than nothing there is nothing; the call returns true. No condition.
-/
import Derived.Test.YtafhekgfanpijaaLaAwake
set_option maxRecDepth 100000
namespace Go.Proofs.Ytafhekgfanpijaa.LabelCuts
set_option linter.unusedVariables false
open Go.RowKit Go.ChangeShapes Go.WideShapes Go.ChangeAt Go.Deep Lb La
set_option linter.unusedVariables false
theorem own : ownKnob Try.prog.godebug = none := by kernel_rfl
theorem laidOut : laidOutB Try.prog = true := by kernel_rfl
theorem cut_twice (l : List UInt8) (a b : Nat) : cutB (cutB l a) b = cutB l (min (a : Int) (b : Int)) := by
  unfold cutB
  rw [Int.toNat_natCast, Int.toNat_natCast, show (min (a : Int) (b : Int)).toNat = min a b by omega]
  have h1 : wid (l.take (wid l a)) b = wid l (min a b) := by
    unfold wid
    have := rs_take a l
    unfold wid at this
    rw [this, List.take_take, Nat.min_comm]
  rw [h1, List.take_take]
  congr 1
  have hm : wid l (min a b) ≤ wid l a := by
    have h2 : wid l (min a b) = wid (l.take (wid l a)) b := h1.symm
    rw [h2]
    have := wid_le b (l.take (wid l a))
    rw [List.length_take] at this
    omega
  omega
theorem mod20 (a : Int) : ∃ A : Nat, A < 20 ∧ wrap64 ((IntKind.u64.wrap a).tmod 20) = (A : Int) := by
  have h0 : 0 ≤ IntKind.u64.wrap a := by
    unfold IntKind.wrap
    simp [IntKind.signed, IntKind.bits]
    omega
  refine ⟨(IntKind.u64.wrap a % 20).toNat, by omega, ?_⟩
  rw [Int.tmod_eq_emod_of_nonneg h0]
  unfold wrap64
  omega

theorem cut_to {l X : List UInt8} {n : Int} (h : cutB l n = X) (hl : l.length ≤ 1048576) (h0 : -9223372036854775808 ≤ n) (h1 : n ≤ 9223372036854775807) (w : World) :
    Calls Try.prog 16 #[.string ⟨⟨l⟩⟩, .int .i64 n] w fun r w' => r = .returned (.string ⟨⟨X⟩⟩) ∧ Below w.heap.size w w' := by
  subst h
  exact cut_any l n w hl h0 h1
theorem count_to {l : List UInt8} {N : Nat} (h : (ru l).length = N) (hl : l.length ≤ 1048576) (w : World) :
    Calls Try.prog 14 #[.string ⟨⟨l⟩⟩] w fun r w' => r = .returned (.int .i64 N) ∧ Below w.heap.size w w' := by
  subst h
  exact count_any l w hl
set_option maxHeartbeats 400000 in
theorem body (l : List UInt8) (a b : Int) (w : World) : Calls Try.prog 8 #[.string ⟨⟨l⟩⟩, .int .i64 a, .int .i64 b] w fun e w' => e = .returned (.bool true) ∧ Below w.heap.size w w' := by
  obtain ⟨n, hn⟩ : ∃ n, l.length = n := ⟨_, rfl⟩
  have hsz : (ByteArray.mk ⟨l⟩).size = n := hn
  by_cases h5 : 500 < n
  · go_enter Try.func8, Try.ntmps8
    go_wp2_with (go_at_call 9; refine (awake_any _).mono ?_)
    rintro r w1 ⟨rfl, b1⟩
    go_wp2_with fail
    go_ret
    exact ⟨rfl, b1⟩
  obtain ⟨A, hA, hA2⟩ := mod20 a
  obtain ⟨B, hB, hB2⟩ := mod20 b
  have hl : l.length ≤ 1048576 := by omega
  obtain ⟨N, hN⟩ : ∃ N, (ru l).length = N := ⟨_, rfl⟩
  have hNl : N ≤ 500 := by
    have := rs_le l
    rw [← hN, ru_len]
    omega
  have hc := cut_len l A
  have F1 := Lib.hid (cut_to (n := (A : Int)) (Eq.refl (cutB l A)) hl (by omega) (by omega))
  have F2 := Lib.hid (cut_to (n := (B : Int)) (cut_twice l A B) (by omega) (by omega) (by omega))
  have F3 := Lib.hid (cut_to (n := min (A : Int) (B : Int)) (Eq.refl (cutB l (min (A : Int) (B : Int)))) hl (by omega) (by omega))
  have F4 := Lib.hid (count_to hN hl)
  have F5 := Lib.hid (cut_to (n := (N : Int)) (cut_all hN (by omega)) hl (by omega) (by omega))
  have F6 := Lib.hid (cut_to (n := (N : Int) + A) (cut_all hN (by omega)) hl (by omega) (by omega))
  have F7 := Lib.hid (cut_to (l := l) (n := -1 - (A : Int)) (cut_none (by omega)) hl (by omega) (by omega))
  generalize cutB l A = P at *
  generalize cutB l (min (A : Int) (B : Int)) = X at *
  clear hc hl hn hN
  go_enter Try.func8, Try.ntmps8
  go_upto_region 4 with (fail)
  go_wp2_with (go_at_call 16; refine (F1.out _).mono ?_)
  rintro r w1 ⟨rfl, b1⟩
  go_wp2_with (go_at_call 16; refine (F2.out _).mono ?_)
  rintro r w2 ⟨rfl, b2⟩
  go_wp2_with (go_at_call 16; refine (F3.out _).mono ?_)
  rintro r w3 ⟨rfl, b3⟩
  go_wp2_with (go_at_call 14; refine (F4.out _).mono ?_)
  rintro r w4 ⟨rfl, b4⟩
  go_wp2_with (go_at_call 16; refine (F5.out _).mono ?_)
  rintro r w5 ⟨rfl, b5⟩
  go_wp2_with (go_at_call 14; refine (F4.out _).mono ?_)
  rintro r w6 ⟨rfl, b6⟩
  go_wp2_with (go_at_call 16; refine (F6.out _).mono ?_)
  rintro r w7 ⟨rfl, b7⟩
  go_wp2_with (go_at_call 16; refine (F7.out _).mono ?_)
  rintro r w8 ⟨rfl, b8⟩
  go_wp2_with (go_at_call 9; refine (awake_any _).mono ?_)
  rintro r w9 ⟨rfl, b9⟩
  go_wp2_with fail
  go_ret
  have c2 := b1.trans (b2.mono b1.size)
  have c3 := c2.trans (b3.mono c2.size)
  have c4 := c3.trans (b4.mono c3.size)
  have c5 := c4.trans (b5.mono c4.size)
  have c6 := c5.trans (b6.mono c5.size)
  have c7 := c6.trans (b7.mono c6.size)
  have c8 := c7.trans (b8.mono c7.size)
  exact ⟨rfl, c8.trans (b9.mono c8.size)⟩

theorem walk (H : Type) (enc : TypeId × Value → H) : Walk H enc Try.prog 8 Try.f8 := by
  intro W base args ds p hval hA
  rw [Try.params8] at hA hval
  obtain ⟨v0, v1, v2, d0, d1, d2, p0, p1, p2, rfl, rfl, rfl, h0, h1, h2⟩ := trodAll_three hA
  obtain ⟨⟨⟨l⟩⟩, rfl⟩ := okWide_string Try.underlying9 (hval 0 _ v0 rfl rfl)
  obtain ⟨a, rfl, rfl, rfl, w1⟩ := open_int Try.underlying3 (hval 1 _ v1 rfl rfl) h1
  obtain ⟨b, rfl, rfl, rfl, w2⟩ := open_int Try.underlying3 (hval 2 _ v2 rfl rfl) h2
  exact body l a b W

set_option maxRecDepth 100000 in
theorem lifted (os : Os) (started : os.Started) (H : Type) (enc : TypeId × Value → H) :
    ReturnsInHanded {} Try.checked os 8 .any (Rows.labelCutsSpec.pre6 enc Try.prog Try.f8 Rows.labelCutsRow.domain false) (Rows.labelCutsSpec.post enc Try.prog Try.f8 false true false false) :=
  returnsInHanded_of_change (C := Try.checked) own started (by kernel_rfl) Try.func8
    (ChangeSpec.witness6 (enc := enc) (C := Try.checked) false ⟨#[], #[.string ⟨#[]⟩, .int .i64 0, .int .i64 0], []⟩ 8 (by kernel_rfl) (by kernel_rfl) (by kernel_rfl) (by kernel_rfl))
    fun W base args ds gs before hval hW _ _ => step_of_walk laidOut (by rw [Try.params8]; exact of_decide_eq_true (by kernel_rfl)) (by kernel_rfl) Try.underlying4 rfl
      (fun ds h => by
        rw [Try.params8] at h
        match ds, h with
        | [_, _, _], _ => rfl) (walk H enc) W base args ds gs before hval hW

theorem holds : Rows.LabelCutsSaid :=
  OpenClaim.holds_of_wide 8 Try.f8 rfl rfl rfl rfl rfl rfl rfl ⟨rfl, rfl, rfl, rfl, rfl⟩ rfl rfl rfl rfl rfl (by kernel_rfl) Try.func8 (by kernel_rfl)
    (of_decide_eq_true (by kernel_rfl)) (by unfold Func.isWrapper; first | (rw [if_pos (by decide +kernel)]; kernel_rfl) | (rw [if_neg (by decide +kernel)]; exact ⟨rfl, rfl⟩))
    (fun os started H enc _ => lifted os started H enc)
#print axioms holds
end Go.Proofs.Ytafhekgfanpijaa.LabelCuts
