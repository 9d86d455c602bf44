/-
  Contracts of package seal (chapter 17): the tag as a plain function of the key and the bytes; one step is a bijection.
-/
import Derived.Test.YtphiohdhgkpgnaaLib
import Derived.Deep.RegionWith
import Derived.Lib.Hide
import Derived.Lib.SlBytesConst
set_option maxRecDepth 100000
namespace Go.Proofs.Ytphiohdhgkpgnaa.Se
set_option linter.unusedVariables false
open Go.RowKit Lb

/-- One byte more. -/
def stp (s x : Int) : Int := bits .xor .u32 s x * 16777619 % 4294967296
/-- The key's first k bytes. -/
def kst (s x : Int) : Nat → Int
  | 0 => s
  | k + 1 => stp (kst s x k) (x / 2 ^ (56 - 8 * k) % 256)
/-- The first k bytes of Z. -/
def bst (Z : Nat → Int) (s : Int) : Nat → Int
  | 0 => s
  | k + 1 => stp (bst Z s k) (Z k)
def tag (key : Int) (Z : Nat → Int) (n : Nat) : Int := kst (bst Z (kst 2166136261 key 8) n) key 8

def In32 (s : Int) : Prop := 0 ≤ s ∧ s < 4294967296
theorem stp_in (s x : Int) : In32 (stp s x) := by unfold stp In32; omega
theorem kst_in {s : Int} (x : Int) (h : In32 s) : ∀ k, In32 (kst s x k)
  | 0 => h
  | k + 1 => stp_in _ _
theorem bst_in (Z : Nat → Int) {s : Int} (h : In32 s) : ∀ k, In32 (bst Z s k)
  | 0 => h
  | k + 1 => stp_in _ _
theorem first_in (key : Int) : In32 (kst 2166136261 key 8) := kst_in _ (by unfold In32; omega) 8
theorem tag_in (key : Int) (Z : Nat → Int) (n : Nat) : In32 (tag key Z n) := kst_in _ (bst_in _ (first_in key) n) 8

theorem mul_back (a : Int) : a * 16777619 % 4294967296 * 899433627 % 4294967296 = a % 4294967296 := by
  have h : (16777619 * 899433627 : Int) % 4294967296 = 1 := by decide
  rw [Int.mul_emod, Int.emod_emod_of_dvd _ (Int.dvd_refl _), ← Int.mul_emod, Int.mul_assoc, Int.mul_emod, h, Int.mul_one, Int.emod_emod_of_dvd _ (Int.dvd_refl _)]
theorem mul_inj {a b : Nat} (ha : a < 4294967296) (hb : b < 4294967296) (h : (a : Int) * 16777619 % 4294967296 = (b : Int) * 16777619 % 4294967296) : a = b := by
  have e1 := mul_back a
  have e2 := mul_back b
  rw [h, e2] at e1
  clear h e2
  rw [Int.emod_eq_of_lt (by omega) (by omega), Int.emod_eq_of_lt (by omega) (by omega)] at e1
  omega
theorem byte_in (x : Int) : 0 ≤ x % 256 ∧ x % 256 < 256 := ⟨Int.emod_nonneg _ (by decide), Int.emod_lt_of_pos _ (by decide)⟩
theorem xor_cancel {a b x : Nat} (h : a ^^^ x = b ^^^ x) : a = b := by
  have := congrArg (· ^^^ x) h
  simpa [Nat.xor_assoc] using this
theorem stp_nat {s x : Int} (hs : In32 s) (x0 : 0 ≤ x) (x1 : x < 256) : stp s x = ((s.toNat ^^^ x.toNat : Nat) : Int) * 16777619 % 4294967296 := by
  unfold stp
  rw [u32_xor s x hs.1 hs.2 x0 (by omega)]
theorem stp_inj {s t x : Int} (hs : In32 s) (ht : In32 t) (x0 : 0 ≤ x) (x1 : x < 256) (h : stp s x = stp t x) : s = t := by
  rw [stp_nat hs x0 x1, stp_nat ht x0 x1] at h
  have hs1 := hs.2; have ht1 := ht.2; have hs0 := hs.1; have ht0 := ht.1
  have hx : x.toNat < 2 ^ 32 := by omega
  have e := xor_cancel (mul_inj (Nat.xor_lt_two_pow (n := 32) (by omega) hx) (Nat.xor_lt_two_pow (n := 32) (by omega) hx) h)
  omega
theorem stp_other {s x y : Int} (hs : In32 s) (x0 : 0 ≤ x) (x1 : x < 256) (y0 : 0 ≤ y) (y1 : y < 256) (h : stp s x = stp s y) : x = y := by
  rw [stp_nat hs x0 x1, stp_nat hs y0 y1] at h
  have hs1 := hs.2; have hs0 := hs.1
  have hs' : s.toNat < 2 ^ 32 := by omega
  have e := mul_inj (Nat.xor_lt_two_pow (n := 32) hs' (by omega)) (Nat.xor_lt_two_pow (n := 32) hs' (by omega)) h
  rw [Nat.xor_comm s.toNat, Nat.xor_comm s.toNat] at e
  have e2 := xor_cancel e
  omega
theorem kst_inj {s t : Int} (x : Int) (hs : In32 s) (ht : In32 t) : ∀ k, kst s x k = kst t x k → s = t
  | 0, h => h
  | k + 1, h => kst_inj x hs ht k (stp_inj (kst_in x hs k) (kst_in x ht k) (byte_in _).1 (byte_in _).2 h)
/-- Rows that differ at one place alone have the same tag just if they do not differ. -/
theorem bst_same {Z Y : Nat → Int} {s : Int} : ∀ k, (∀ i, i < k → Z i = Y i) → bst Z s k = bst Y s k
  | 0, _ => rfl
  | k + 1, h => by rw [bst, bst, bst_same k (fun i hi => h i (by omega)), h k (by omega)]
theorem bst_tells {Z Y : Nat → Int} {s : Int} (hs : In32 s) (at_ : Nat) (hz : ∀ i, 0 ≤ Z i ∧ Z i < 256) (hy : ∀ i, 0 ≤ Y i ∧ Y i < 256) (hb : ∀ i, i ≠ at_ → Z i = Y i) :
    ∀ k, at_ < k → bst Z s k = bst Y s k → Z at_ = Y at_
  | 0, h, _ => absurd h (by omega)
  | k + 1, h, e => by
    rw [bst, bst] at e
    by_cases hk : k = at_
    · subst hk
      rw [bst_same k (fun i hi => hb i (by omega))] at e
      exact stp_other (bst_in _ hs k) (hz k).1 (hz k).2 (hy k).1 (hy k).2 e
    · rw [hb k hk] at e
      exact bst_tells hs at_ hz hy hb k (by omega) (stp_inj (bst_in _ hs k) (bst_in _ hs k) (hy k).1 (hy k).2 e)
theorem tag_tells {Z Y : Nat → Int} (key : Int) (at_ n : Nat) (hz : ∀ i, 0 ≤ Z i ∧ Z i < 256) (hy : ∀ i, 0 ≤ Y i ∧ Y i < 256) (hb : ∀ i, i ≠ at_ → Z i = Y i) (hn : at_ < n) (h : tag key Z n = tag key Y n) : Z at_ = Y at_ :=
  bst_tells (first_in key) at_ hz hy hb n hn (kst_inj key (bst_in _ (first_in key) n) (bst_in _ (first_in key) n) 8 h)
theorem tag_same {Z Y : Nat → Int} (key : Int) (n : Nat) (h : ∀ i, i < n → Z i = Y i) : tag key Z n = tag key Y n := by unfold tag; rw [bst_same n h]

/-! ### The walks -/
theorem with_any (s x : Int) (w : World) (h : In32 s) (x0 : 0 ≤ x) (x1 : x < 256) :
    Calls Try.prog 59 #[.int .u32 s, .int .u8 x] w fun r w' => r = .returned (.int .u32 (stp s x)) ∧ w = w' := by
  obtain ⟨h0, h1⟩ := h
  go_enter Try.func59, Try.ntmps59
  go_wp2_with fail
  go_ret
  exact ⟨rfl, rfl⟩

theorem key_any (s x : Int) (w : World) (h : In32 s) (x0 : 0 ≤ x) :
    Calls Try.prog 58 #[.int .u32 s, .int .u64 x] w fun r w' => r = .returned (.int .u32 (kst s x 8)) ∧ w = w' := by
  go_enter Try.func58, Try.ntmps58
  go_wp2_with fail
  go_loop [0, 5] (fun a b => ∃ k : Nat, a = .int .u32 (kst s x k) ∧ b = .int .i64 (56 - 8 * (k : Int)) ∧ k ≤ 8) (fun a b => (intOf b + 8).toNat)
  case atStart => exact ⟨0, rfl, rfl, by omega⟩
  case round =>
    obtain ⟨k, rfl, rfl, hk⟩ := hrel
    by_cases hlt : k < 8
    · have hin := kst_in x h k
      have H := Lib.hid (show stp (kst s x k) (x / 2 ^ (56 - 8 * k) % 256) = kst s x (k + 1) from rfl)
      go_wp2_with fail
      refine (with_any _ _ _ hin (byte_in _).1 (byte_in _).2).mono ?_
      rintro r w' ⟨rfl, rfl⟩
      rw [H.out]
      go_wp2_with fail
      go_round
      case rel => exact ⟨k + 1, rfl, by rw [show (56 - 8 * ((k + 1 : Nat) : Int)) = 56 - 8 * (k : Int) - 8 from by omega], by omega⟩
      case measure => simp [intOf]; omega
    · have hk8 : k = 8 := by omega
      subst hk8
      go_wp2_with fail
      go_ret
      exact ⟨rfl, rfl⟩

theorem tag_any (key : Int) (a : Option Addr) (n c : Nat) (Z : Nat → Int) (w : World) (k0 : 0 ≤ key) (hm : n ≤ maxLen) (hZ : Row w a n (fun i => .int .u8 (Z i))) (hz : ∀ i, 0 ≤ Z i ∧ Z i < 256) :
    Calls Try.prog 45 #[.int .u64 key, .slice a n c] w fun r w' => r = .returned (.int .u32 (tag key Z n)) ∧ w = w' := by
  unfold maxLen at hm
  have i0 : In32 2166136261 := by unfold In32; omega
  go_enter Try.func45, Try.ntmps45
  go_wp2_with fail
  refine (key_any _ _ _ i0 k0).mono ?_
  rintro r w' ⟨rfl, rfl⟩
  have hf := first_in key
  generalize hK : kst 2166136261 key 8 = K at *
  have HK := Lib.hid hK
  clear hK
  go_wp2_with fail
  go_loop [5, 12] (fun u i => ∃ k : Nat, u = .int .u32 (bst Z K k) ∧ i = .int .i64 k ∧ k ≤ n) (fun _ i => n - (intOf i).toNat)
  case atStart => exact ⟨0, rfl, rfl, by omega⟩
  case round =>
    obtain ⟨k, rfl, rfl, hk⟩ := hrel
    have hin := bst_in Z hf k
    by_cases hlt : k < n
    · obtain ⟨b, o, rfl, hb, hc⟩ := hZ.at_ hlt
      have H := Lib.hid (show stp (bst Z K k) (Z k) = bst Z K (k + 1) from rfl)
      go_wp2_with fail
      refine (with_any _ _ _ hin (hz k).1 (hz k).2).mono ?_
      rintro r w' ⟨rfl, rfl⟩
      rw [H.out]
      go_wp2_with fail
      go_round
      case rel => exact ⟨k + 1, rfl, by go_num, by omega⟩
      case measure => simp [intOf]; omega
    · have hkn : k = n := by omega
      subst hkn
      go_wp2_with fail
      refine (key_any _ _ _ hin k0).mono ?_
      rintro r w' ⟨rfl, rfl⟩
      go_wp2_with fail
      go_ret
      exact ⟨by unfold tag; rw [HK.out]; rfl, rfl⟩

theorem good_any (key t : Int) (a : Option Addr) (n c : Nat) (Z : Nat → Int) (w : World) (k0 : 0 ≤ key) (hm : n ≤ maxLen) (hZ : Row w a n (fun i => .int .u8 (Z i))) (hz : ∀ i, 0 ≤ Z i ∧ Z i < 256) :
    Calls Try.prog 57 #[.int .u64 key, .slice a n c, .int .u32 t] w fun r w' => r = .returned (.bool (tag key Z n == t)) ∧ w = w' := by
  go_enter Try.func57, Try.ntmps57
  go_wp2_with fail
  refine (tag_any key a n c Z _ k0 hm hZ hz).mono ?_
  rintro r w' ⟨rfl, rfl⟩
  go_wp2_with fail
  go_ret
  exact ⟨rfl, rfl⟩

def AB (i : Nat) : Int := if i = 0 then 97 else 98
def AC (i : Nat) : Int := if i = 0 then 97 else if i = 1 then 99 else 98
theorem ab_in (i : Nat) : 0 ≤ AB i ∧ AB i < 256 := by unfold AB; split <;> omega
theorem ac_in (i : Nat) : 0 ≤ AC i ∧ AC i < 256 := by unfold AC; split <;> (try split) <;> omega
theorem ab_ac : tag 5 AB 2 ≠ tag 5 AC 2 := fun h => by
  have := tag_tells 5 1 2 ab_in ac_in (fun i hi => by unfold AB AC; simp [hi]) (by omega) h
  revert this
  decide
theorem ab_row (w : World) (e : TypeId) : Row (w.alloc (.cells #[.int .u8 97, .int .u8 98] e (2, 3))) (some ⟨w.heap.size, 0, none⟩) 2 (fun i => .int .u8 (AB i)) :=
  row_new _ _ _ _ (fun i hi => by
    match i, hi with
    | 0, _ => rfl
    | 1, _ => rfl)
theorem ac_row (w : World) (e : TypeId) : Row (w.alloc (.cells #[.int .u8 97, .int .u8 99] e (2, 3))) (some ⟨w.heap.size, 0, none⟩) 2 (fun i => .int .u8 (AC i)) :=
  row_new _ _ _ _ (fun i hi => by
    match i, hi with
    | 0, _ => rfl
    | 1, _ => rfl)

theorem u64_bd {z : Int} (h : (Lit.int .u64 z).wf = true) : 0 ≤ z := by
  simp [Lit.wf, IntKind.min, IntKind.max, IntKind.signed, IntKind.bits] at h
  exact h.1
theorem u8_bd {z : Int} (h : (Lit.int .u8 z).wf = true) : 0 ≤ z ∧ z < 256 := by
  simp [Lit.wf, IntKind.min, IntKind.max, IntKind.signed, IntKind.bits] at h
  omega
end Go.Proofs.Ytphiohdhgkpgnaa.Se
