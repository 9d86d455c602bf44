/-
  Law SealKeys: for every key and every two rows of bytes: two tags are the same wherever the rows are, a tag is good just for its own, and nil and an empty row have one tag; the call returns true. No condition.
-/
import Derived.Test.YtkgbammgenefcaaSealWalks
import Derived.Test.YtkgbammgenefcaaOwn
set_option maxRecDepth 100000
namespace Go.Proofs.Ytkgbammgenefcaa.SealKeys
set_option linter.unusedVariables false
open Go.RowKit Go.ChangeShapes Go.WideShapes Go.ChangeAt Go.Deep Lb Se
theorem own : ownKnob Try.prog.godebug = none := by kernel_rfl
theorem laidOut : laidOutB Try.prog = true := by kernel_rfl

set_option maxHeartbeats 2000000 in
theorem body (key : Int) (a : Option Addr) (n c : Nat) (Z : Nat → Int) (a' : Option Addr) (n' c' : Nat) (Z' : Nat → Int) (w : World) (k0 : 0 ≤ key) (hn : n ≤ c) (hm : c ≤ maxLen) (hn' : n' ≤ c') (hm' : c' ≤ maxLen)
    (hZ : Row w a n (fun i => .int .u8 (Z i))) (hz : ∀ i, 0 ≤ Z i ∧ Z i < 256) (hZ' : Row w a' n' (fun i => .int .u8 (Z' i))) (hz' : ∀ i, 0 ≤ Z' i ∧ Z' i < 256) :
    Calls Try.prog 5 #[.int .u64 key, .slice a n c, .slice a' n' c'] w fun e w' => e = .returned (.bool true) ∧ Below w.heap.size w w' := by
  unfold maxLen at hm hm'
  by_cases h1 : 500 < n
  · go_enter Try.func5, Try.ntmps5
    go_wp2_with fail
    refine (awake_behind (Below.refl _ _)).mono ?_
    rintro r w9 ⟨rfl, b9⟩
    go_wp2_with fail
    go_ret
    exact ⟨rfl, b9⟩
  by_cases h2 : 500 < n'
  · go_enter Try.func5, Try.ntmps5
    go_wp2_with fail
    refine (awake_behind (Below.refl _ _)).mono ?_
    rintro r w9 ⟨rfl, b9⟩
    go_wp2_with fail
    go_ret
    exact ⟨rfl, b9⟩
  have m1 : n ≤ maxLen := by unfold maxLen; omega
  have m2 : n' ≤ maxLen := by unfold maxLen; omega
  have m3 : 0 ≤ maxLen := by unfold maxLen; omega
  have M := Lib.hid (And.intro m1 (And.intro m2 m3))
  clear m1 m2 m3
  have t0 : ∀ U : Nat → Int, tag key U 0 = tag key (fun _ => 0) 0 := fun U => rfl
  have H0 := Lib.hid t0
  clear t0
  have ks := conv_string (P := Try.prog) (dst := 9) (c := c) Try.underlying23 Try.underlying5 Try.underlying9 hZ
  have ks' := conv_string (P := Try.prog) (dst := 9) (c := c') Try.underlying23 Try.underlying5 Try.underlying9 hZ'
  have kp : (tag key (fun _ => 0) 0 == tag key (fun _ => 0) 0) = true := by simp
  by_cases hxy : tag key Z n = tag key Z' n'
  · have e1 : (tag key Z n == tag key Z' n') = true := by simpa using hxy
    have e2 : (tag key Z n == tag key Z n) = true := by simp
    clear hxy
    go_enter Try.func5, Try.ntmps5
    go_wp2_with fail
    refine (tag_any key a n c Z _ k0 M.out.1 hZ hz).mono ?_
    rintro r w' ⟨rfl, rfl⟩
    go_wp2_with fail
    refine (tag_any key a' n' c' Z' _ k0 M.out.2.1 hZ' hz').mono ?_
    rintro r w' ⟨rfl, rfl⟩
    go_wp2_with fail
    refine (good_any key _ a n c Z _ k0 M.out.1 hZ hz).mono ?_
    rintro r w' ⟨rfl, rfl⟩
    go_wp2_with fail
    refine (good_any key _ a n c Z _ k0 M.out.1 hZ hz).mono ?_
    rintro r w' ⟨rfl, rfl⟩
    go_wp2_with fail
    refine (tag_any key none 0 0 (fun _ => 0) _ k0 M.out.2.2 (Row.nil _ _ _) (fun _ => by omega)).mono ?_
    rintro r w' ⟨rfl, rfl⟩
    go_wp2_with fail
    refine (tag_any key _ 0 _ (fun _ => 0) _ k0 M.out.2.2 (Row.nil _ _ _) (fun _ => by omega)).mono ?_
    rintro r w' ⟨rfl, rfl⟩
    go_wp2_with fail
    refine (awake_behind ((Below.refl _ _).alloc (Nat.le_refl _) _)).mono ?_
    rintro r w9 ⟨rfl, b9⟩
    go_wp2_with fail
    go_ret
    exact ⟨rfl, b9⟩
  · have e1 : (tag key Z n == tag key Z' n') = false := by simpa using hxy
    have e2 : (tag key Z n == tag key Z n) = true := by simp
    have hs : ((str Z n).toList == (str Z' n').toList) = false := beq_eq_false_iff_ne.2 fun h => hxy (by
      obtain ⟨rfl, h3⟩ := str_list_inj hz hz' h
      exact tag_same key n h3)
    clear hxy
    go_enter Try.func5, Try.ntmps5
    go_wp2_with fail
    refine (tag_any key a n c Z _ k0 M.out.1 hZ hz).mono ?_
    rintro r w' ⟨rfl, rfl⟩
    go_wp2_with fail
    refine (tag_any key a' n' c' Z' _ k0 M.out.2.1 hZ' hz').mono ?_
    rintro r w' ⟨rfl, rfl⟩
    go_wp2_with fail
    refine (good_any key _ a n c Z _ k0 M.out.1 hZ hz).mono ?_
    rintro r w' ⟨rfl, rfl⟩
    go_wp2_with fail
    refine (good_any key _ a n c Z _ k0 M.out.1 hZ hz).mono ?_
    rintro r w' ⟨rfl, rfl⟩
    go_wp2_with fail
    refine (tag_any key none 0 0 (fun _ => 0) _ k0 M.out.2.2 (Row.nil _ _ _) (fun _ => by omega)).mono ?_
    rintro r w' ⟨rfl, rfl⟩
    go_wp2_with fail
    refine (tag_any key _ 0 _ (fun _ => 0) _ k0 M.out.2.2 (Row.nil _ _ _) (fun _ => by omega)).mono ?_
    rintro r w' ⟨rfl, rfl⟩
    go_wp2_with fail
    refine (awake_behind ((Below.refl _ _).alloc (Nat.le_refl _) _)).mono ?_
    rintro r w9 ⟨rfl, b9⟩
    go_wp2_with fail
    go_ret
    exact ⟨rfl, b9⟩

theorem walk (H : Type) (enc : TypeId × Value → H) : Walk H enc Try.prog 5 Try.f5 := by
  intro W base args ds p hval hA
  rw [Try.params5] at hA hval
  obtain ⟨v0, v1, v2, d0, d1, d2, p0, p1, p2, rfl, rfl, rfl, h0, h1, h2⟩ := trodAll_three hA
  obtain ⟨key, rfl, rfl, rfl, w0⟩ := open_int Try.underlying22 (hval 0 _ v0 rfl rfl) h0
  obtain ⟨a, n, c, Z, rfl, hn, hm, hZ, hz⟩ := open_row_int Try.underlying23 Try.underlying5 (by kernel_rfl) (hval 1 _ v1 rfl rfl) h1
  obtain ⟨a', n', c', Z', rfl, hn', hm', hZ', hz'⟩ := open_row_int Try.underlying23 Try.underlying5 (by kernel_rfl) (hval 2 _ v2 rfl rfl) h2
  exact body key a n c Z a' n' c' Z' W (u64_bd w0) hn hm hn' hm' hZ (fun i => u8_bd (hz i)) hZ' (fun i => u8_bd (hz' i))

set_option maxRecDepth 100000 in
theorem lifted (os : Os) (started : os.Started) (H : Type) (enc : TypeId × Value → H) :
    ReturnsInHanded {} Try.checked os 5 .any (Rows.sealKeysSpec.pre6 enc Try.prog Try.f5 Rows.sealKeysRow.domain false) (Rows.sealKeysSpec.post enc Try.prog Try.f5 false true false false) :=
  returnsInHanded_of_change (C := Try.checked) own started (by kernel_rfl) Try.func5
    (ChangeSpec.witness6 (enc := enc) (C := Try.checked) false ⟨#[], #[.int .u64 0, .slice none 0 0, .slice none 0 0], []⟩ 8 (by kernel_rfl) (by kernel_rfl) (by kernel_rfl) (by kernel_rfl))
    fun W base args ds gs before hval hW _ _ => step_of_walk laidOut (by rw [Try.params5]; exact of_decide_eq_true (by kernel_rfl)) (by kernel_rfl) Try.underlying4 rfl
      (fun ds h => by
        rw [Try.params5] at h
        match ds, h with
        | [_, _, _], _ => rfl) (walk H enc) W base args ds gs before hval hW

theorem holds : Rows.SealKeysSaid :=
  OpenClaim.holds_of_wide 5 Try.f5 rfl rfl rfl rfl rfl rfl rfl ⟨rfl, rfl, rfl, rfl, rfl⟩ rfl rfl rfl rfl rfl (by kernel_rfl) Try.func5 (by kernel_rfl)
    (of_decide_eq_true (by kernel_rfl)) (by unfold Func.isWrapper; first | (rw [if_pos (by decide +kernel)]; kernel_rfl) | (rw [if_neg (by decide +kernel)]; exact ⟨rfl, rfl⟩))
    (fun os started H enc _ => lifted os started H enc)
#print axioms holds
end Go.Proofs.Ytkgbammgenefcaa.SealKeys
