/-
  The reference's tag (chapter 17).
-/
import Derived.Test.YtphiohdhgkpgnaaSealWalks
import Derived.Test.YtphiohdhgkpgnaaBytesRef
set_option maxRecDepth 100000
namespace Go.Proofs.Ytphiohdhgkpgnaa.Se
set_option linter.unusedVariables false
open Go.RowKit Go.ChangeShapes Go.WideShapes Go.ChangeAt Go.Deep Lb
theorem kst_bst (s x : Int) : ∀ k, k ≤ 8 → kst s x k = bst (octet x 8) s k
  | 0, _ => rfl
  | k + 1, h => by rw [kst, bst, kst_bst s x k (by omega)]; unfold octet; rw [show 8 * (8 - 1 - k) = 56 - 8 * k from by omega]

set_option maxHeartbeats 2000000 in
theorem rtag_any (key : Int) (a : Option Addr) (n c : Nat) (Z : Nat → Int) (w : World) (k0 : 0 ≤ key) (hm : n ≤ maxLen) (hZ : Row w a n (fun i => .int .u8 (Z i))) (hz : ∀ i, 0 ≤ Z i ∧ Z i < 256) :
    Calls Try.prog 50 #[.int .u64 key, .slice a n c] w fun r w' => r = .returned (.int .u32 (tag key Z n)) ∧ Below w.heap.size w w' := by
  unfold maxLen at hm
  have i0 : In32 2166136261 := by unfold In32; omega
  have hT : tag key Z n = bst (octet key 8) (bst Z (bst (octet key 8) 2166136261 8) n) 8 := by unfold tag; rw [kst_bst _ _ 8 (by omega), kst_bst _ _ 8 (by omega)]
  have HT := Lib.hid hT
  clear hT
  go_enter Try.func50, Try.ntmps50
  go_wp2_with fail
  refine (bytes_any key 8 _ k0 (by omega)).mono ?_
  rintro r w1 ⟨v, rfl, hv, b1⟩
  obtain ⟨ka, kc, hkv, hkc, hkm, hK⟩ := hv.row
  rw [hkv]
  clear hkv hv
  have hZ1 := hZ.below b1
  clear hZ
  have HN := Lib.hid (show n ≤ 9223372036854775807 from hm)
  go_wp2_with fail
  go_loop [6, 17] (fun t q => ∃ (k : Nat) (T : Int), t = .int .u32 T ∧ In32 T ∧ q = .int .i64 k ∧ k ≤ 3 ∧ Hid (T = if k = 0 then 2166136261 else if k = 1 then bst (octet key 8) 2166136261 8 else if k = 2 then bst Z (bst (octet key 8) 2166136261 8) n else tag key Z n)) (fun _ q => (3 - intOf q).toNat)
  case atStart => exact ⟨0, _, rfl, i0, rfl, by omega, Lib.hid rfl⟩
  case round =>
    obtain ⟨k, T, rfl, hT, rfl, hk, HK⟩ := hrel
    by_cases hlt : k < 3
    · have hix : ∃ (B : Option Addr) (m cc : Nat) (U : Nat → Int), (∀ W, (Instr.index 38 (.agg #[.slice ka 8 kc, .slice a n c, .slice ka 8 kc]) (.int .i64 (k : Int))).run Try.prog W = .ok (.slice B m cc) W) ∧ Row w1 B m (fun i => .int .u8 (U i)) ∧
          (∀ i, 0 ≤ U i ∧ U i < 256) ∧ m ≤ 9223372036854775807 ∧ Hid (bst U T m = if k + 1 = 0 then 2166136261 else if k + 1 = 1 then bst (octet key 8) 2166136261 8 else if k + 1 = 2 then bst Z (bst (octet key 8) 2166136261 8) n else tag key Z n) := by
        match k, hlt with
        | 0, _ => exact ⟨ka, 8, kc, octet key 8, fun _ => by kernel_rfl, hK, octet_in _ _, by omega, Lib.hid (by rw [HK.out]; simp)⟩
        | 1, _ => exact ⟨a, n, c, Z, fun _ => by kernel_rfl, hZ1, hz, HN.out, Lib.hid (by rw [HK.out]; simp)⟩
        | 2, _ => exact ⟨ka, 8, kc, octet key 8, fun _ => by kernel_rfl, hK, octet_in _ _, by omega, Lib.hid (by rw [HK.out, HT.out]; simp)⟩
      obtain ⟨B, m, cc, U, hindex, hU, hu, hmm, HU⟩ := hix
      clear HK HT
      go_wp2_with fail
      go_loop [6, 22] (fun t q => ∃ j : Nat, t = .int .u32 (bst U T j) ∧ q = .int .i64 j ∧ j ≤ m) (fun _ q => m - (intOf q).toNat)
      case atStart => exact ⟨0, rfl, rfl, by omega⟩
      case round =>
        obtain ⟨j, rfl, rfl, hj⟩ := hrel
        by_cases hjm : j < m
        · obtain ⟨b, o, rfl, hb, hc⟩ := hU.at_ hjm
          obtain ⟨t0, t1⟩ := bst_in U hT j
          obtain ⟨u0, u1⟩ := hu j
          have H := Lib.hid (show bits .xor .u32 (bst U T j) (U j) * 16777619 % 4294967296 = bst U T (j + 1) from rfl)
          clear hindex
          go_wp2_with fail
          go_round
          case rel => exact ⟨j + 1, by rw [← H.out], by go_num, by omega⟩
          case measure => simp [intOf]; omega
        · obtain rfl : j = m := by omega
          have hin := bst_in U hT j
          clear hindex
          go_wp2_with fail
          exact ⟨⟨k + 1, _, rfl, hin, by go_num, by omega, HU⟩, by simp [intOf]; omega⟩
    · obtain rfl : k = 3 := by omega
      go_wp2_with fail
      go_ret
      exact ⟨by rw [HK.out]; simp, b1⟩

end Go.Proofs.Ytphiohdhgkpgnaa.Se
