/-
  Law CrcShort: for every byte and every number what has fewer than two bytes is not good, and two noughts are, alone and behind noughts; the call returns true. No condition.
-/
import Derived.Test.YtcgamfibnhlpjaaCrcWalks
set_option maxRecDepth 100000
namespace Go.Proofs.Ytcgamfibnhlpjaa.CrcShort
set_option linter.unusedVariables false
open Go.RowKit Go.ChangeShapes Go.WideShapes Go.ChangeAt Go.Deep Lb Cr
theorem own : ownKnob Try.prog.godebug = none := by kernel_rfl
theorem laidOut : laidOutB Try.prog = true := by kernel_rfl

theorem zeros (n : Nat) : goodb (fun _ => 0) (n + 2) = true := by
  unfold goodb
  rw [crc_zero _ (fun _ _ => rfl)]
  simp
theorem one_bad (Z : Nat → Int) : goodb Z 1 = false := by unfold goodb; simp
theorem none_bad (Z : Nat → Int) : goodb Z 0 = false := by unfold goodb; simp

set_option maxHeartbeats 2000000 in
theorem body (x q : Int) (w : World) (x0 : 0 ≤ x) (x1 : x < 256) :
    Calls Try.prog 7 #[.int .u8 x, .int .i64 q] w fun e w' => e = .returned (.bool true) ∧ Below w.heap.size w w' := by
  have hq := u64_pos q
  obtain ⟨m, hm⟩ : ∃ m : Nat, IntKind.u64.wrap q % 50 = m := ⟨(IntKind.u64.wrap q % 50).toNat, by omega⟩
  have hm50 : m < 50 := by omega
  have e2 : (2 : Int) + (m : Int) = ((m + 2 : Nat) : Int) := by omega
  obtain ⟨i0, hi0, hz0, hz1, hz2⟩ := info_parts info8
  have M := Lib.hid (show m + 2 ≤ maxLen by unfold maxLen; omega)
  have M1 := Lib.hid (show 1 ≤ maxLen by unfold maxLen; omega)
  go_enter Try.func7, Try.ntmps7
  go_wp2_with (at_make; go_must (refine wpList_make_full _ rfl _ _ 22 rfl w.heap.size 5 i0 _ 1 Try.underlying22 hi0 hz0 hz1 _ _ _ _ (m + 2) rfl rfl (by omega) (by omega) (by rw [hz2]; omega) M.out (Nat.le_refl _) ?_))
  intro w1 hown1 hg1
  have b1 : Below w.heap.size w w1 := (Below.refl _ _).grown hg1 (Nat.le_refl _) (fun k hk => by cases hk)
  have hR := (Mine.full hown1).rowAt
  have zb : Byte (fun _ => 0) := fun _ => ⟨Int.le_refl _, by show (0 : Int) < 256; decide⟩
  have g1 : goodb (fun _ => 0) (m + 2) = true := zeros m
  have g2 : goodb (fun _ => 0) 0 = false := none_bad _
  have g3 : goodb (fun _ => x) 1 = false := one_bad _
  have g4 : crc (fun _ => 0) (m + 2) = 0 := crc_zero _ (fun _ _ => rfl)
  have xb : Byte (fun _ => x) := fun _ => ⟨x0, x1⟩
  clear hown1 hg1
  go_wp2_with fail
  refine (good_any none 0 0 (fun _ => 0) _ (Nat.le_refl _) (Nat.zero_le _) (Row.nil _ _ _) zb).mono ?_
  rintro r w' ⟨rfl, rfl⟩
  go_wp2_with fail
  refine (good_any _ 1 1 (fun _ => x) _ (Nat.le_refl _) M1.out (row_new _ _ _ _ (fun i hi => by obtain rfl : i = 0 := (by omega); rfl)) xb).mono ?_
  rintro r w' ⟨rfl, rfl⟩
  have b2 := b1.alloc b1.size (.cells #[.int .u8 x] 5)
  have hR2 := hR.below (show Below w1.heap.size w1 (w1.alloc (.cells #[.int .u8 x] 5)) from (Below.refl _ _).alloc (Nat.le_refl _) _)
  generalize w1.alloc (.cells #[.int .u8 x] 5) = w2 at *
  clear hR b1
  go_wp2_with fail
  refine (good_any _ (m + 2) _ (fun _ => 0) _ (Nat.le_refl _) M.out hR2 zb).mono ?_
  rintro r w' ⟨rfl, rfl⟩
  go_wp2_with fail
  refine (sum_any _ (m + 2) _ (fun _ => 0) _ M.out hR2 zb).mono ?_
  rintro r w' ⟨rfl, rfl⟩
  go_wp2_with fail
  refine (awake_behind b2).mono ?_
  rintro r w9 ⟨rfl, b9⟩
  go_wp2_with fail
  go_ret
  exact ⟨rfl, b9⟩

theorem walk (H : Type) (enc : TypeId × Value → H) : Walk H enc Try.prog 7 Try.f7 := by
  intro W base args ds p hval hA
  rw [Try.params7] at hA hval
  obtain ⟨v0, v1, d0, d1, p0, p1, rfl, rfl, rfl, h0, h1⟩ := trodAll_two hA
  obtain ⟨x, rfl, rfl, rfl, w0⟩ := open_int Try.underlying5 (hval 0 _ v0 rfl rfl) h0
  obtain ⟨q, rfl, rfl, rfl, w1⟩ := open_int Try.underlying3 (hval 1 _ v1 rfl rfl) h1
  exact body x q W (u8_bd w0).1 (u8_bd w0).2

set_option maxRecDepth 100000 in
theorem lifted (os : Os) (started : os.Started) (H : Type) (enc : TypeId × Value → H) :
    ReturnsInHanded {} Try.checked os 7 .any (Rows.crcShortSpec.pre6 enc Try.prog Try.f7 Rows.crcShortRow.domain false) (Rows.crcShortSpec.post enc Try.prog Try.f7 false true false false) :=
  returnsInHanded_of_change (C := Try.checked) own started (by kernel_rfl) Try.func7
    (ChangeSpec.witness6 (enc := enc) (C := Try.checked) false ⟨#[], #[.int .u8 0, .int .i64 0], []⟩ 8 (by kernel_rfl) (by kernel_rfl) (by kernel_rfl) (by kernel_rfl))
    fun W base args ds gs before hval hW _ _ => step_of_walk laidOut (by rw [Try.params7]; exact of_decide_eq_true (by kernel_rfl)) (by kernel_rfl) Try.underlying4 rfl
      (fun ds h => by
        rw [Try.params7] at h
        match ds, h with
        | [_, _], _ => rfl) (walk H enc) W base args ds gs before hval hW

theorem holds : Rows.CrcShortSaid :=
  OpenClaim.holds_of_wide 7 Try.f7 rfl rfl rfl rfl rfl rfl rfl ⟨rfl, rfl, rfl, rfl, rfl⟩ rfl rfl rfl rfl rfl (by kernel_rfl) Try.func7 (by kernel_rfl)
    (of_decide_eq_true (by kernel_rfl)) (by unfold Func.isWrapper; first | (rw [if_pos (by decide +kernel)]; kernel_rfl) | (rw [if_neg (by decide +kernel)]; exact ⟨rfl, rfl⟩))
    (fun os started H enc _ => lifted os started H enc)
#print axioms holds
end Go.Proofs.Ytcgamfibnhlpjaa.CrcShort
