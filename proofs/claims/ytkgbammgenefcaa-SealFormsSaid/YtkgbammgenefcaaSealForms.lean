/-
  Law SealForms: for every key, every row of bytes and every tag: Tag tells what the reference tells, and Good tells whether it is that; the call returns true. No condition.
-/
import Derived.Test.YtkgbammgenefcaaSealWalks
import Derived.Test.YtkgbammgenefcaaBytesRef
set_option maxRecDepth 100000
namespace Go.Proofs.Ytkgbammgenefcaa.SealForms
set_option linter.unusedVariables false
open Go.RowKit Go.ChangeShapes Go.WideShapes Go.ChangeAt Go.Deep Lb Se
theorem own : ownKnob Try.prog.godebug = none := by kernel_rfl
theorem laidOut : laidOutB Try.prog = true := by kernel_rfl

theorem kst_bst (s x : Int) : ∀ k, k ≤ 8 → kst s x k = bst (octet x 8) s k
  | 0, _ => rfl
  | k + 1, h => by rw [kst, bst, kst_bst s x k (by omega)]; unfold octet; rw [show 8 * (8 - 1 - k) = 56 - 8 * k from by omega]

set_option maxHeartbeats 2000000 in
theorem rtag_any (key : Int) (a : Option Addr) (n c : Nat) (Z : Nat → Int) (w : World) (k0 : 0 ≤ key) (hm : n ≤ maxLen) (hZ : Row w a n (fun i => .int .u8 (Z i))) (hz : ∀ i, 0 ≤ Z i ∧ Z i < 256) :
    Calls Try.prog 8 #[.int .u64 key, .slice a n c] w fun r w' => r = .returned (.int .u32 (tag key Z n)) ∧ Below w.heap.size w w' := by
  unfold maxLen at hm
  have i0 : In32 2166136261 := by unfold In32; omega
  have hT : tag key Z n = bst (octet key 8) (bst Z (bst (octet key 8) 2166136261 8) n) 8 := by unfold tag; rw [kst_bst _ _ 8 (by omega), kst_bst _ _ 8 (by omega)]
  have HT := Lib.hid hT
  clear hT
  go_enter Try.func8, Try.ntmps8
  go_wp2_with fail
  refine (bytes_any key 8 _ k0 (by omega)).mono ?_
  rintro r w1 ⟨v, rfl, hv, b1⟩
  obtain ⟨ka, kc, hkv, hkc, hkm, hK⟩ := hv.row
  rw [hkv]
  clear hkv hv
  have hZ1 := hZ.below b1
  clear hZ
  have HN := Lib.hid (show n ≤ 9223372036854775807 from hm)
  go_wp2_with fail
  go_loop [6, 17] (fun t q => ∃ (k : Nat) (T : Int), t = .int .u32 T ∧ In32 T ∧ q = .int .i64 k ∧ k ≤ 3 ∧ Hid (T = if k = 0 then 2166136261 else if k = 1 then bst (octet key 8) 2166136261 8 else if k = 2 then bst Z (bst (octet key 8) 2166136261 8) n else tag key Z n)) (fun _ q => (3 - intOf q).toNat)
  case atStart => exact ⟨0, _, rfl, i0, rfl, by omega, Lib.hid rfl⟩
  case round =>
    obtain ⟨k, T, rfl, hT, rfl, hk, HK⟩ := hrel
    by_cases hlt : k < 3
    · have hix : ∃ (B : Option Addr) (m cc : Nat) (U : Nat → Int), (∀ W, (Instr.index 33 (.agg #[.slice ka 8 kc, .slice a n c, .slice ka 8 kc]) (.int .i64 (k : Int))).run Try.prog W = .ok (.slice B m cc) W) ∧ Row w1 B m (fun i => .int .u8 (U i)) ∧
          (∀ i, 0 ≤ U i ∧ U i < 256) ∧ m ≤ 9223372036854775807 ∧ Hid (bst U T m = if k + 1 = 0 then 2166136261 else if k + 1 = 1 then bst (octet key 8) 2166136261 8 else if k + 1 = 2 then bst Z (bst (octet key 8) 2166136261 8) n else tag key Z n) := by
        match k, hlt with
        | 0, _ => exact ⟨ka, 8, kc, octet key 8, fun _ => by kernel_rfl, hK, octet_in _ _, by omega, Lib.hid (by rw [HK.out]; simp)⟩
        | 1, _ => exact ⟨a, n, c, Z, fun _ => by kernel_rfl, hZ1, hz, HN.out, Lib.hid (by rw [HK.out]; simp)⟩
        | 2, _ => exact ⟨ka, 8, kc, octet key 8, fun _ => by kernel_rfl, hK, octet_in _ _, by omega, Lib.hid (by rw [HK.out, HT.out]; simp)⟩
      obtain ⟨B, m, cc, U, hindex, hU, hu, hmm, HU⟩ := hix
      clear HK HT
      go_wp2_with fail
      go_loop [6, 22] (fun t q => ∃ j : Nat, t = .int .u32 (bst U T j) ∧ q = .int .i64 j ∧ j ≤ m) (fun _ q => m - (intOf q).toNat)
      case atStart => exact ⟨0, rfl, rfl, by omega⟩
      case round =>
        obtain ⟨j, rfl, rfl, hj⟩ := hrel
        by_cases hjm : j < m
        · obtain ⟨b, o, rfl, hb, hc⟩ := hU.at_ hjm
          obtain ⟨t0, t1⟩ := bst_in U hT j
          obtain ⟨u0, u1⟩ := hu j
          have H := Lib.hid (show bits .xor .u32 (bst U T j) (U j) * 16777619 % 4294967296 = bst U T (j + 1) from rfl)
          clear hindex
          go_wp2_with fail
          go_round
          case rel => exact ⟨j + 1, by rw [← H.out], by go_num, by omega⟩
          case measure => simp [intOf]; omega
        · obtain rfl : j = m := by omega
          have hin := bst_in U hT j
          clear hindex
          go_wp2_with fail
          exact ⟨⟨k + 1, _, rfl, hin, by go_num, by omega, HU⟩, by simp [intOf]; omega⟩
    · obtain rfl : k = 3 := by omega
      go_wp2_with fail
      go_ret
      exact ⟨by rw [HK.out]; simp, b1⟩

set_option maxHeartbeats 1000000 in
theorem body (key : Int) (a : Option Addr) (n c : Nat) (Z : Nat → Int) (t : Int) (w : World) (k0 : 0 ≤ key) (hn : n ≤ c) (hm : c ≤ maxLen) (hZ : Row w a n (fun i => .int .u8 (Z i))) (hz : ∀ i, 0 ≤ Z i ∧ Z i < 256) :
    Calls Try.prog 3 #[.int .u64 key, .slice a n c, .int .u32 t] w fun e w' => e = .returned (.bool true) ∧ Below w.heap.size w w' := by
  have M := Lib.hid (Nat.le_trans hn hm)
  unfold maxLen at hm
  by_cases h1 : 2000 < n
  · go_enter Try.func3, Try.ntmps3
    go_wp2_with fail
    refine (awake_behind (Below.refl _ _)).mono ?_
    rintro r w9 ⟨rfl, b9⟩
    go_wp2_with fail
    go_ret
    exact ⟨rfl, b9⟩
  have e1 : (tag key Z n == tag key Z n) = true := by simp
  have e2 : ((tag key Z n == t) == (t == tag key Z n)) = true := by rw [beq_iff_eq, Bool.eq_iff_iff, beq_iff_eq, beq_iff_eq]; exact eq_comm
  go_enter Try.func3, Try.ntmps3
  go_wp2_with fail
  refine (tag_any key a n c Z _ k0 M.out hZ hz).mono ?_
  rintro r w' ⟨rfl, rfl⟩
  go_wp2_with fail
  refine (rtag_any key a n c Z _ k0 M.out hZ hz).mono ?_
  rintro r w1 ⟨rfl, b1⟩
  have hZ1 := hZ.below b1
  go_wp2_with fail
  refine (good_any key _ a n c Z _ k0 M.out hZ1 hz).mono ?_
  rintro r w' ⟨rfl, rfl⟩
  go_wp2_with fail
  refine (rtag_any key a n c Z _ k0 M.out hZ1 hz).mono ?_
  rintro r w2 ⟨rfl, b2⟩
  have b2' := b1.trans (b2.mono b1.size)
  go_wp2_with fail
  refine (awake_behind b2').mono ?_
  rintro r w9 ⟨rfl, b9⟩
  go_wp2_with fail
  go_ret
  exact ⟨rfl, b9⟩

theorem walk (H : Type) (enc : TypeId × Value → H) : Walk H enc Try.prog 3 Try.f3 := by
  intro W base args ds p hval hA
  rw [Try.params3] at hA hval
  obtain ⟨v0, v1, v2, d0, d1, d2, p0, p1, p2, rfl, rfl, rfl, h0, h1, h2⟩ := trodAll_three hA
  obtain ⟨key, rfl, rfl, rfl, w0⟩ := open_int Try.underlying22 (hval 0 _ v0 rfl rfl) h0
  obtain ⟨a, n, c, Z, rfl, hn, hm, hZ, hz⟩ := open_row_int Try.underlying23 Try.underlying5 (by kernel_rfl) (hval 1 _ v1 rfl rfl) h1
  obtain ⟨t, rfl, rfl, rfl, w2⟩ := open_int Try.underlying24 (hval 2 _ v2 rfl rfl) h2
  exact body key a n c Z t W (u64_bd w0) hn hm hZ (fun i => u8_bd (hz i))

set_option maxRecDepth 100000 in
theorem lifted (os : Os) (started : os.Started) (H : Type) (enc : TypeId × Value → H) :
    ReturnsInHanded {} Try.checked os 3 .any (Rows.sealFormsSpec.pre6 enc Try.prog Try.f3 Rows.sealFormsRow.domain false) (Rows.sealFormsSpec.post enc Try.prog Try.f3 false true false false) :=
  returnsInHanded_of_change (C := Try.checked) own started (by kernel_rfl) Try.func3
    (ChangeSpec.witness6 (enc := enc) (C := Try.checked) false ⟨#[], #[.int .u64 0, .slice none 0 0, .int .u32 0], []⟩ 8 (by kernel_rfl) (by kernel_rfl) (by kernel_rfl) (by kernel_rfl))
    fun W base args ds gs before hval hW _ _ => step_of_walk laidOut (by rw [Try.params3]; exact of_decide_eq_true (by kernel_rfl)) (by kernel_rfl) Try.underlying4 rfl
      (fun ds h => by
        rw [Try.params3] at h
        match ds, h with
        | [_, _, _], _ => rfl) (walk H enc) W base args ds gs before hval hW

theorem holds : Rows.SealFormsSaid :=
  OpenClaim.holds_of_wide 3 Try.f3 rfl rfl rfl rfl rfl rfl rfl ⟨rfl, rfl, rfl, rfl, rfl⟩ rfl rfl rfl rfl rfl (by kernel_rfl) Try.func3 (by kernel_rfl)
    (of_decide_eq_true (by kernel_rfl)) (by unfold Func.isWrapper; first | (rw [if_pos (by decide +kernel)]; kernel_rfl) | (rw [if_neg (by decide +kernel)]; exact ⟨rfl, rfl⟩))
    (fun os started H enc _ => lifted os started H enc)
#print axioms holds
end Go.Proofs.Ytkgbammgenefcaa.SealForms
