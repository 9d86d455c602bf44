/-
  Law CrcLines: for every three rows of bytes the sums, changed by one another, are that of the rows changed so, and noughts ahead change nothing; the call returns true. No condition.
-/
import Derived.Test.YtcgamfibnhlpjaaCrcWalks
import Derived.Test.YtcgamfibnhlpjaaMild
set_option maxRecDepth 100000
namespace Go.Proofs.Ytcgamfibnhlpjaa.CrcLines
set_option linter.unusedVariables false
open Go.RowKit Go.ChangeShapes Go.WideShapes Go.ChangeAt Go.Deep Lb Cr
theorem own : ownKnob Try.prog.godebug = none := by kernel_rfl
theorem laidOut : laidOutB Try.prog = true := by kernel_rfl

theorem xor_byte {z x : Int} (z0 : 0 ≤ z) (z1 : z < 256) (x0 : 0 ≤ x) (x1 : x < 256) : 0 ≤ bits .xor .u8 z x ∧ bits .xor .u8 z x < 256 ∧ (bits .xor .u8 z x).toNat = z.toNat ^^^ x.toNat := by
  have hlt : z.toNat ^^^ x.toNat < 2 ^ 8 := Nat.xor_lt_two_pow (by omega) (by omega)
  rw [u8_xor _ _ z0 z1 x0 x1]
  exact ⟨by omega, by omega, by omega⟩
def mix (X Y U : Nat → Int) (i : Nat) : Int := bits .xor .u8 (bits .xor .u8 (X i) (Y i)) (U i)
theorem mix_byte {X Y U : Nat → Int} (hx : Byte X) (hy : Byte Y) (hu : Byte U) : Byte (mix X Y U) := fun i => by
  obtain ⟨h1, h2, _⟩ := xor_byte (hx i).1 (hx i).2 (hy i).1 (hy i).2
  obtain ⟨h3, h4, _⟩ := xor_byte h1 h2 (hu i).1 (hu i).2
  exact ⟨h3, h4⟩
theorem mix_sum {X Y U : Nat → Int} (hx : Byte X) (hy : Byte Y) (hu : Byte U) (k : Nat) : crc (mix X Y U) k = crc X k ^^^ crc Y k ^^^ crc U k :=
  crc_xor3 k fun i _ => by
    obtain ⟨h1, h2, h3⟩ := xor_byte (hx i).1 (hx i).2 (hy i).1 (hy i).2
    obtain ⟨_, _, h6⟩ := xor_byte h1 h2 (hu i).1 (hu i).2
    unfold mix
    rw [h6, h3]
def late (Z : Nat → Int) (m i : Nat) : Int := if i < m then 0 else Z (i - m)
theorem late_byte {Z : Nat → Int} (hz : Byte Z) (m : Nat) : Byte (late Z m) := fun i => by
  unfold late
  split
  · omega
  · exact hz _
theorem late_sum (Z : Nat → Int) (m k : Nat) : crc (late Z m) (m + k) = crc Z k := by
  rw [crc_more, crc_zero m (fun i hi => by unfold late; rw [if_pos hi]), more_zero, more_same 0 k (fun i _ => by unfold late; rw [if_neg (by omega), Nat.add_sub_cancel_left])]
theorem run_min4 {P : Program} {w : World} (ts : Array TypeId) (t : TypeId) (x y z u : Int) : (Builtin.min_ ts t #[.int .i64 x, .int .i64 y, .int .i64 z, .int .i64 u]).run P w = .ok (.int .i64 (min x (min y (min z u)))) w := by
  have h : ∀ p q : Int, (if q < p then q else p) = min p q := fun p q => by rw [Int.min_def]; split <;> split <;> omega
  simp [Builtin.min_, Builtin.min2, h]

set_option maxHeartbeats 8000000 in
theorem body (a : Option Addr) (n c : Nat) (Z : Nat → Int) (a' : Option Addr) (n' c' : Nat) (Z' : Nat → Int) (b : Option Addr) (m d : Nat) (Y : Nat → Int) (q : Int) (w : World) (hn : n ≤ c) (hc : c ≤ maxLen) (hn' : n' ≤ c') (hc' : c' ≤ maxLen) (hm : m ≤ d) (hd : d ≤ maxLen)
    (hZ : Row w a n (fun i => .int .u8 (Z i))) (hz : Byte Z) (hZ' : Row w a' n' (fun i => .int .u8 (Z' i))) (hz' : Byte Z') (hY : Row w b m (fun i => .int .u8 (Y i))) (hy : Byte Y) :
    Calls Try.prog 5 #[.slice a n c, .slice a' n' c', .slice b m d, .int .i64 q] w fun e w' => e = .returned (.bool true) ∧ Below w.heap.size w w' := by
  have hq := u64_pos q
  unfold maxLen at hc hc' hd
  obtain ⟨i0, hi0, hz0, hz1, hz2⟩ := info_parts info8
  obtain ⟨k, hk⟩ : ∃ k : Nat, min (n : Int) (min (n' : Int) (min (m : Int) 500)) = k := ⟨(min (n : Int) (min (n' : Int) (min (m : Int) 500))).toNat, by omega⟩
  have k1 : k ≤ n := by omega
  have k2 : k ≤ n' := by omega
  have k3 : k ≤ m := by omega
  have k5 : k ≤ 500 := by omega
  obtain ⟨l, hl⟩ : ∃ l : Nat, IntKind.u64.wrap q % 50 = l := ⟨(IntKind.u64.wrap q % 50).toNat, by omega⟩
  have l5 : l < 50 := by omega
  have h4 := fun (W : World) (ts : Array TypeId) (t : TypeId) => run_min4 (P := Try.prog) (w := W) ts t (n : Int) (n' : Int) (m : Int) 500
  have K1 := Lib.hid (show k ≤ maxLen by unfold maxLen; omega)
  have K2 := Lib.hid (show l ≤ maxLen by unfold maxLen; omega)
  have K3 := Lib.hid (show l + k ≤ maxLen by unfold maxLen; omega)
  go_enter Try.func5, Try.ntmps5
  go_wp2_with (at_make; go_must (refine wpList_make_full _ rfl _ _ 22 rfl w.heap.size 5 i0 _ 1 Try.underlying22 hi0 hz0 hz1 _ _ _ _ k rfl rfl (by omega) (by omega) (by rw [hz2]; omega) K1.out (Nat.le_refl _) ?_))
  intro w1 hown1 hg1
  have b1 : Below w.heap.size w w1 := (Below.refl _ _).grown hg1 (Nat.le_refl _) (fun k hk => by cases hk)
  have hv1 := Mine.full hown1
  clear hown1 hg1 h4
  go_wp2_with fail
  clear hk
  go_loopw [23] (fun i wr => ∃ j : Nat, i = .int .i64 j ∧ j ≤ k ∧ Mine wr w.heap.size 5 (.slice (some ⟨w.heap.size, 0, none⟩) k k) k (fun i => .int .u8 (if i < j then mix Z Z' Y i else 0)) ∧ Below w.heap.size w wr) (fun i _ => k - (intOf i).toNat)
  case atStart => exact ⟨0, rfl, by omega, hv1.ext (fun i _ => by simp), b1⟩
  case round =>
    obtain ⟨j, rfl, hj, hv, bb⟩ := hrel
    by_cases hjk : j < k
    · obtain ⟨p1, o1, rfl, q1, c1⟩ := hZ.at_old bb (show j < n by omega)
      obtain ⟨p2, o2, rfl, q2, c2⟩ := hZ'.at_old bb (show j < n' by omega)
      obtain ⟨p3, o3, rfl, q3, c3⟩ := hY.at_old bb (show j < m by omega)
      obtain ⟨_, hlt, cd, fd⟩ := hv.at_ hjk
      have hst := (hv.store hjk (.int .u8 (mix Z Z' Y j))).ext (U := fun i => .int .u8 (if i < j + 1 then mix Z Z' Y i else 0)) (fun i _ => by
        by_cases h : i = j
        · subst h; simp
        · by_cases h2 : i < j
          · simp [h, h2, show i < j + 1 by omega]
          · simp [h, h2, show ¬ i < j + 1 by omega])
      have bst := bb.setCell (p := ⟨w.heap.size, j, none⟩) (Nat.le_refl _) (.int .u8 (mix Z Z' Y j))
      have HM := Lib.hid (show bits .xor .u8 (bits .xor .u8 (Z j) (Z' j)) (Y j) = mix Z Z' Y j from rfl)
      have cd' : wr.cell? ⟨w.heap.size, j, none⟩ = some (.int .u8 0) := by rw [cd]; simp
      clear cd
      go_wp2_with fail
      go_region
      all_goals
        go_wp2_with fail
        exact ⟨⟨j + 1, by go_num, by omega, hst, bst.drew⟩, by simp [intOf]; omega⟩
    · obtain rfl : j = k := by omega
      have hv2 : Mine wr w.heap.size 5 (.slice (some ⟨w.heap.size, 0, none⟩) j j) j (fun i => .int .u8 (mix Z Z' Y i)) := hv.ext (fun i hi => by simp [hi])
      have hs := bb.size
      clear hv hv1
      go_wp2_with (at_make; go_must (refine wpList_make_full _ rfl _ _ 22 rfl wr.heap.size 5 i0 _ 1 Try.underlying22 hi0 hz0 hz1 _ _ _ _ l rfl rfl (by omega) (by omega) (by rw [hz2]; omega) K2.out (Nat.le_refl _) ?_))
      intro w2 hown2 hg2
      have b2' : Below wr.heap.size wr w2 := (Below.refl _ _).grown hg2 (Nat.le_refl _) (fun k hk => by cases hk)
      have b2 : Below w.heap.size w w2 := bb.trans (b2'.mono hs)
      have hl2 := Mine.full hown2
      have hR2 := hv2.rowAt.below b2'
      clear hown2 hg2
      go_wp2_with (at_builtin; go_must (refine wp_app rfl (.tmp 48) (.tmp 49) _ rfl wr.heap.size 5 i0 _ 1 Try.underlying22 hi0 hz0 hz1 hz2 rfl _ l _ rfl hl2 _ j _ (fun i => .int .u8 (mix Z Z' Y i)) rfl hR2 (fun _ _ => rfl) K3.out ?c2 ?c3 ?_))
      case c2 => omega
      case c3 => exact b2'.size
      intro v3 w3 hv3 hg3
      have b3' : Below wr.heap.size wr w3 := b2'.grown hg3 b2'.size (fun k hk => (hl2.lt k hk).1)
      have b3 : Below w.heap.size w w3 := bb.trans (b3'.mono hs)
      have hv3' : Mine w3 wr.heap.size 5 v3 (l + j) (fun i => .int .u8 (late (mix Z Z' Y) l i)) := hv3.ext fun i hi => by
        unfold late
        by_cases h : i < l
        · simp [h]
        · simp [h]
      obtain ⟨va, vc, hve, hvc, hvm, hR3⟩ := hv3'.row
      rw [hve]
      have R0 := hv2.rowAt.below b3'
      have R1 := (hZ.below b3).cut k1
      have R2 := (hZ'.below b3).cut k2
      have R3 := (hY.below b3).cut k3
      have D0 := Lib.hid (mix_byte hz hz' hy)
      have D1 := Lib.hid (late_byte D0.out l)
      have S0 := mix_sum hz hz' hy j
      have S1 := late_sum (mix Z Z' Y) l j
      have L1 := crc_lt hz j
      have L2 := crc_lt hz' j
      have L3 := crc_lt hy j
      clear hv3 hg3 hve hl2 hR2 hZ hZ' hY hv2
      have x1 := u16_xor_nat (crc Z j) (crc Z' j) L1 L2
      have x2 := u16_xor_nat (crc Z j ^^^ crc Z' j) (crc Y j) (xor_lt L1 L2) L3
      go_wp2_with fail
      have A1 : ((crc (mix Z Z' Y) j : Int) == ((crc Z j ^^^ crc Z' j ^^^ crc Y j : Nat) : Int)) = true := by rw [S0]; simp
      have A2 : ((crc (late (mix Z Z' Y) l) (l + j) : Int) == (crc (mix Z Z' Y) j : Int)) = true := by rw [S1]; simp
      refine wp_region_mild w3.heap.size w3 (by kernel_rfl) (by kernel_rfl) (Below.refl _ _) ?_
      have hq := mild_forall w3.heap.size w3
      repeat (go_big_quiet_step (first
        | (intro hC; go_at_call 9; first
            | (with_reducible exact mild_left (x := .int .u16 ((crc (mix Z Z' Y) j : Nat) : Int)) hC (sum_any _ j _ (mix Z Z' Y) _ K1.out (R0.below hC) D0.out))
            | (with_reducible exact mild_left (x := .int .u16 ((crc (Z) j : Nat) : Int)) hC (sum_any _ j _ (Z) _ K1.out (R1.below hC) hz))
            | (with_reducible exact mild_left (x := .int .u16 ((crc (Z') j : Nat) : Int)) hC (sum_any _ j _ (Z') _ K1.out (R2.below hC) hz'))
            | (with_reducible exact mild_left (x := .int .u16 ((crc (Y) j : Nat) : Int)) hC (sum_any _ j _ (Y) _ K1.out (R3.below hC) hy))
            | (with_reducible exact mild_left (x := .int .u16 ((crc (late (mix Z Z' Y) l) (l + j) : Nat) : Int)) hC (sum_any _ (l + j) _ (late (mix Z Z' Y) l) _ K3.out (hR3.below hC) D1.out)))
        | (intro hC; go_at_call 8; with_reducible exact mild_below (x := .bool true) hC (Nat.le_refl _) (awake_any _))))
      refine wpQuiet_nil ?_
      intro w9 hC9
      go_wp2_with fail
      go_ret
      exact ⟨rfl, b3.trans (hC9.mono b3.size)⟩

theorem walk (H : Type) (enc : TypeId × Value → H) : Walk H enc Try.prog 5 Try.f5 := by
  intro W base args ds p hval hA
  rw [Try.params5] at hA hval
  obtain ⟨v0, v1, v2, v3, d0, d1, d2, d3, p0, p1, p2, p3, rfl, rfl, rfl, h0, h1, h2, h3⟩ := trodAll_four hA
  obtain ⟨a, n, c, Z, rfl, hn, hm, hZ, hz⟩ := open_row_int Try.underlying22 Try.underlying5 (by kernel_rfl) (hval 0 _ v0 rfl rfl) h0
  obtain ⟨a', n', c', Z', rfl, hn', hm', hZ', hz'⟩ := open_row_int Try.underlying22 Try.underlying5 (by kernel_rfl) (hval 1 _ v1 rfl rfl) h1
  obtain ⟨a2, n2, c2, Z2, rfl, hn2, hm2, hZ2, hz2⟩ := open_row_int Try.underlying22 Try.underlying5 (by kernel_rfl) (hval 2 _ v2 rfl rfl) h2
  obtain ⟨q, rfl, rfl, rfl, w3⟩ := open_int Try.underlying3 (hval 3 _ v3 rfl rfl) h3
  exact body a n c Z a' n' c' Z' a2 n2 c2 Z2 q W hn hm hn' hm' hn2 hm2 hZ (fun i => u8_bd (hz i)) hZ' (fun i => u8_bd (hz' i)) hZ2 (fun i => u8_bd (hz2 i))

set_option maxRecDepth 100000 in
theorem lifted (os : Os) (started : os.Started) (H : Type) (enc : TypeId × Value → H) :
    ReturnsInHanded {} Try.checked os 5 .any (Rows.crcLinesSpec.pre6 enc Try.prog Try.f5 Rows.crcLinesRow.domain false) (Rows.crcLinesSpec.post enc Try.prog Try.f5 false true false false) :=
  returnsInHanded_of_change (C := Try.checked) own started (by kernel_rfl) Try.func5
    (ChangeSpec.witness6 (enc := enc) (C := Try.checked) false ⟨#[], #[.slice none 0 0, .slice none 0 0, .slice none 0 0, .int .i64 0], []⟩ 8 (by kernel_rfl) (by kernel_rfl) (by kernel_rfl) (by kernel_rfl))
    fun W base args ds gs before hval hW _ _ => step_of_walk laidOut (by rw [Try.params5]; exact of_decide_eq_true (by kernel_rfl)) (by kernel_rfl) Try.underlying4 rfl
      (fun ds h => by
        rw [Try.params5] at h
        match ds, h with
        | [_, _, _, _], _ => rfl) (walk H enc) W base args ds gs before hval hW

theorem holds : Rows.CrcLinesSaid :=
  OpenClaim.holds_of_wide 5 Try.f5 rfl rfl rfl rfl rfl rfl rfl ⟨rfl, rfl, rfl, rfl, rfl⟩ rfl rfl rfl rfl rfl (by kernel_rfl) Try.func5 (by kernel_rfl)
    (of_decide_eq_true (by kernel_rfl)) (by unfold Func.isWrapper; first | (rw [if_pos (by decide +kernel)]; kernel_rfl) | (rw [if_neg (by decide +kernel)]; exact ⟨rfl, rfl⟩))
    (fun os started H enc _ => lifted os started H enc)
#print axioms holds
end Go.Proofs.Ytcgamfibnhlpjaa.CrcLines
