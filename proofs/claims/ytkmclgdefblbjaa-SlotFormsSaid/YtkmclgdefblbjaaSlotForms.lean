/-
  Law SlotForms: any cells, whatever waits: what is decided is what the reference decides; the call returns true. No condition.
-/
import Derived.Test.YtkmclgdefblbjaaSlotLaws
import Derived.Test.YtkmclgdefblbjaaCellArg
set_option maxRecDepth 100000
namespace Go.Proofs.Ytkmclgdefblbjaa.SlotForms
set_option linter.unusedVariables false
open Go.RowKit Go.ChangeShapes Go.WideShapes Go.ChangeAt Go.Deep Lb Cl Sl
set_option linter.unusedVariables false
theorem own : ownKnob Try.prog.godebug = none := by kernel_rfl
theorem laidOut : laidOutB Try.prog = true := by kernel_rfl

set_option maxHeartbeats 1000000 in
theorem body (a b : Option Addr) (n c m e : Nat) (L : Nat → C) (W : Nat → Int) (free : Bool) (w : World) (hn : n ≤ c) (hc : c ≤ maxLen) (hm : m ≤ e) (he : e ≤ maxLen) (hL : Row w a (n * 5) (cv L)) (hW : Row w b m (fun i => .int .i64 (W i))) :
    Calls Try.prog 3 #[.slice a n c, .slice b m e, .bool free] w fun r w' => r = .returned (.bool true) ∧ Below w.heap.size w w' := by
  obtain ⟨d, hd⟩ : ∃ d, dec L n W m free = d := ⟨_, rfl⟩
  have HD := Lib.hid hd
  clear hd
  by_cases h1 : 100 < n
  · have g1 : (100 : Int) < (n : Int) := by omega
    go_enter Try.func3, Try.ntmps3
    go_wp2_with fail
    all_goals
      refine (awake_any _).mono ?_
      rintro r w9 ⟨rfl, b9⟩
      go_wp2_with fail
      go_ret
      exact ⟨rfl, b9⟩
  · have g1 : decide ((100 : Int) < (n : Int)) = false := by simp; omega
    by_cases h2 : 100 < m
    · have g2 : (100 : Int) < (m : Int) := by omega
      clear h1
      go_enter Try.func3, Try.ntmps3
      go_wp2_with fail
      refine (awake_any _).mono ?_
      rintro r w9 ⟨rfl, b9⟩
      go_wp2_with fail
      go_ret
      exact ⟨rfl, b9⟩
    · have g2 : decide ((100 : Int) < (m : Int)) = false := by simp; omega
      clear h1 h2
      go_enter Try.func3, Try.ntmps3
      go_wp2_with fail
      refine (decide_any a b n c m e L W free _ hn hc hm he hL hW).mono ?_
      rintro r w1 ⟨rfl, b1⟩
      rw [HD.out]
      go_wp2_with fail
      refine (ref_decide a b n c m e L W free _ hn hc hm he (hL.below b1) (hW.below b1)).mono ?_
      rintro r w2 ⟨rfl, b2⟩
      rw [HD.out]
      have bb := b1.trans (b2.mono b1.size)
      obtain ⟨k, ⟨f, s, c', o, p⟩, t⟩ := d
      simp only [A.vals]
      go_wp2_with fail
      refine (awake_any _).mono ?_
      rintro r w9 ⟨rfl, b9⟩
      go_wp2_with fail
      go_ret
      exact ⟨rfl, bb.trans (b9.mono bb.size)⟩

theorem walk (H : Type) (enc : TypeId × Value → H) : Walk H enc Try.prog 3 Try.f3 := by
  intro W base args ds p hval hA
  rw [Try.params3] at hA hval
  obtain ⟨v0, v1, v2, d0, d1, d2, p0, p1, p2, rfl, rfl, rfl, h0, h1, h2⟩ := trodAll_three hA
  obtain ⟨a, n, c, L, rfl, hn, hm, hZ, _⟩ := open_cells (hval 0 _ v0 rfl rfl) h0
  obtain ⟨b, m, e, Z, rfl, hm2, he, hW, hz⟩ := open_row_int Try.underlying23 Try.underlying3 (by kernel_rfl) (hval 1 _ v1 rfl rfl) h1
  obtain ⟨free, rfl, rfl, rfl⟩ := open_bool Try.underlying4 (hval 2 _ v2 rfl rfl) h2
  exact body a b n c m e L Z free W hn hm hm2 he hZ hW

set_option maxRecDepth 100000 in
theorem lifted (os : Os) (started : os.Started) (H : Type) (enc : TypeId × Value → H) :
    ReturnsInHanded {} Try.checked os 3 .any (Rows.slotFormsSpec.pre6 enc Try.prog Try.f3 Rows.slotFormsRow.domain false) (Rows.slotFormsSpec.post enc Try.prog Try.f3 false true false false) :=
  returnsInHanded_of_change (C := Try.checked) own started (by kernel_rfl) Try.func3
    (ChangeSpec.witness6 (enc := enc) (C := Try.checked) false ⟨#[], #[.slice none 0 0, .slice none 0 0, .bool true], []⟩ 8 (by kernel_rfl) (by kernel_rfl) (by kernel_rfl) (by kernel_rfl))
    fun W base args ds gs before hval hW _ _ => step_of_walk laidOut (by rw [Try.params3]; exact of_decide_eq_true (by kernel_rfl)) (by kernel_rfl) Try.underlying4 rfl
      (fun ds h => by
        rw [Try.params3] at h
        match ds, h with
        | [_, _, _], _ => rfl) (walk H enc) W base args ds gs before hval hW

theorem holds : Rows.SlotFormsSaid :=
  OpenClaim.holds_of_wide 3 Try.f3 rfl rfl rfl rfl rfl rfl rfl ⟨rfl, rfl, rfl, rfl, rfl⟩ rfl rfl rfl rfl rfl (by kernel_rfl) Try.func3 (by kernel_rfl)
    (of_decide_eq_true (by kernel_rfl)) (by unfold Func.isWrapper; first | (rw [if_pos (by decide +kernel)]; kernel_rfl) | (rw [if_neg (by decide +kernel)]; exact ⟨rfl, rfl⟩))
    (fun os started H enc _ => lifted os started H enc)
#print axioms holds
end Go.Proofs.Ytkmclgdefblbjaa.SlotForms
