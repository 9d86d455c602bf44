/-
  Law LabelForms: for every text and every number: whether it may be a name, its small letters, how many runes it has, its beginning, its sum, it turned about, as the document's own reference says; the call returns true. No condition.
-/
import Derived.Test.YtafhekgfanpijaaLaRef2
set_option maxRecDepth 100000
namespace Go.Proofs.Ytafhekgfanpijaa.LabelForms
set_option linter.unusedVariables false
open Go.RowKit Go.ChangeShapes Go.WideShapes Go.ChangeAt Go.Deep Lb La
set_option linter.unusedVariables false
theorem own : ownKnob Try.prog.godebug = none := by kernel_rfl
theorem laidOut : laidOutB Try.prog = true := by kernel_rfl
set_option maxHeartbeats 2000000 in
theorem body (l : List UInt8) (k : Int) (w : World) (k0 : -9223372036854775808 ≤ k) (k1 : k ≤ 9223372036854775807) : Calls Try.prog 3 #[.string ⟨⟨l⟩⟩, .int .i64 k] w fun e w' => e = .returned (.bool true) ∧ Below w.heap.size w w' := by
  obtain ⟨n, hn⟩ : ∃ n, l.length = n := ⟨_, rfl⟩
  have hsz : (ByteArray.mk ⟨l⟩).size = n := hn
  by_cases h5 : 2000 < n
  · have h7 : decide (2000 < n) = true := by simp; omega
    have h8 : decide ((2000 : Int) < (n : Int)) = true := by simp; omega
    go_enter Try.func3, Try.ntmps3
    go_wp2_with (go_at_call 9; refine (awake_any _).mono ?_)
    rintro r w1 ⟨rfl, b1⟩
    go_wp2_with fail
    go_ret
    exact ⟨rfl, b1⟩
  have h5b : decide (2000 < n) = false := by simp; omega
  have h5c : decide ((2000 : Int) < (n : Int)) = false := by simp; omega
  have hl : l.length ≤ 2000 := by omega
  have F1 := Lib.hid (fun w => may_any l w)
  have G1 := Lib.hid (fun w => rmay_any l w hl)
  have F2 := Lib.hid (fun w => norm_any l w (by omega))
  have G2 := Lib.hid (fun w => rnorm_any l w hl)
  have F3 := Lib.hid (fun w => count_any l w (by omega))
  have G3 := Lib.hid (fun w => runes_any l w (by omega))
  have F4 := Lib.hid (fun w => cut_any l k w (by omega) k0 k1)
  have G4 := Lib.hid (fun w => rcut_any l k w (by omega) k0 k1)
  have F5 := Lib.hid (fun w => sum_any l w (by omega))
  have G5 := Lib.hid (fun w => rsum_any l w hl)
  have F6 := Lib.hid (fun w => turn_any l w (by omega))
  have G6 := Lib.hid (fun w => rturn_any l w hl)
  generalize mayL (ru l) = B at *
  generalize normB l = X at *
  generalize sumJ (ru l) (ru l).length = S at *
  generalize (ru l).length = N at *
  generalize rv (ru l) = V at *
  generalize cutB l k = C at *
  generalize turnB l = T at *
  have e1 : (B == B) = true := by simp
  clear hn hl
  go_enter Try.func3, Try.ntmps3
  go_wp2_with (go_at_call 10; refine (F1.out _).mono ?_)
  rintro r w1 ⟨rfl, b1⟩
  go_wp2_with (go_at_call 11; refine (G1.out _).mono ?_)
  rintro r w2 ⟨rfl, b2⟩
  go_wp2_with (go_at_call 12; refine (F2.out _).mono ?_)
  rintro r w3 ⟨rfl, b3⟩
  go_wp2_with (go_at_call 13; refine (G2.out _).mono ?_)
  rintro r w4 ⟨rfl, b4⟩
  go_wp2_with (go_at_call 14; refine (F3.out _).mono ?_)
  rintro r w5 ⟨rfl, b5⟩
  go_wp2_with (go_at_call 15; refine (G3.out _).mono ?_)
  rintro r w6 ⟨v, rfl, hv, b6⟩
  obtain ⟨a, c, rfl, _, _, _⟩ := hv.row
  clear hv
  go_wp2_with (go_at_call 16; refine (F4.out _).mono ?_)
  rintro r w7 ⟨rfl, b7⟩
  go_wp2_with (go_at_call 17; refine (G4.out _).mono ?_)
  rintro r w8 ⟨rfl, b8⟩
  go_wp2_with (go_at_call 18; refine (F5.out _).mono ?_)
  rintro r w9 ⟨rfl, b9⟩
  go_wp2_with (go_at_call 19; refine (G5.out _).mono ?_)
  rintro r w10 ⟨rfl, b10⟩
  go_wp2_with (go_at_call 20; refine (F6.out _).mono ?_)
  rintro r w11 ⟨rfl, b11⟩
  go_wp2_with (go_at_call 21; refine (G6.out _).mono ?_)
  rintro r w12 ⟨rfl, b12⟩
  go_wp2_with (go_at_call 9; refine (awake_any _).mono ?_)
  rintro r w13 ⟨rfl, b13⟩
  go_wp2_with fail
  go_ret
  exact ⟨rfl, two (two (two (two (two (two (two (two (two (two (two (two b1 b2) b3) b4) b5) b6) b7) b8) b9) b10) b11) b12) b13⟩

theorem walk (H : Type) (enc : TypeId × Value → H) : Walk H enc Try.prog 3 Try.f3 := by
  intro W base args ds p hval hA
  rw [Try.params3] at hA hval
  obtain ⟨v0, v1, d0, d1, p0, p1, rfl, rfl, rfl, h0, h1⟩ := trodAll_two hA
  obtain ⟨⟨⟨l⟩⟩, rfl⟩ := okWide_string Try.underlying9 (hval 0 _ v0 rfl rfl)
  obtain ⟨k, rfl, rfl, rfl, w1⟩ := open_int Try.underlying3 (hval 1 _ v1 rfl rfl) h1
  exact body l k W (i64_bd w1).1 (i64_bd w1).2

set_option maxRecDepth 100000 in
theorem lifted (os : Os) (started : os.Started) (H : Type) (enc : TypeId × Value → H) :
    ReturnsInHanded {} Try.checked os 3 .any (Rows.labelFormsSpec.pre6 enc Try.prog Try.f3 Rows.labelFormsRow.domain false) (Rows.labelFormsSpec.post enc Try.prog Try.f3 false true false false) :=
  returnsInHanded_of_change (C := Try.checked) own started (by kernel_rfl) Try.func3
    (ChangeSpec.witness6 (enc := enc) (C := Try.checked) false ⟨#[], #[.string ⟨#[]⟩, .int .i64 0], []⟩ 8 (by kernel_rfl) (by kernel_rfl) (by kernel_rfl) (by kernel_rfl))
    fun W base args ds gs before hval hW _ _ => step_of_walk laidOut (by rw [Try.params3]; exact of_decide_eq_true (by kernel_rfl)) (by kernel_rfl) Try.underlying4 rfl
      (fun ds h => by
        rw [Try.params3] at h
        match ds, h with
        | [_, _], _ => rfl) (walk H enc) W base args ds gs before hval hW

theorem holds : Rows.LabelFormsSaid :=
  OpenClaim.holds_of_wide 3 Try.f3 rfl rfl rfl rfl rfl rfl rfl ⟨rfl, rfl, rfl, rfl, rfl⟩ rfl rfl rfl rfl rfl (by kernel_rfl) Try.func3 (by kernel_rfl)
    (of_decide_eq_true (by kernel_rfl)) (by unfold Func.isWrapper; first | (rw [if_pos (by decide +kernel)]; kernel_rfl) | (rw [if_neg (by decide +kernel)]; exact ⟨rfl, rfl⟩))
    (fun os started H enc _ => lifted os started H enc)
#print axioms holds
end Go.Proofs.Ytafhekgfanpijaa.LabelForms
