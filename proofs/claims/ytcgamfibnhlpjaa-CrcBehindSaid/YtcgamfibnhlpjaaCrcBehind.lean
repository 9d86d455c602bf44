/-
  Law CrcBehind: for every three rows of bytes the sum of what stands behind goes on from the sum ahead; the call returns true. No condition.
-/
import Derived.Test.YtcgamfibnhlpjaaCrcWalks
import Derived.Test.YtcgamfibnhlpjaaSized
set_option maxRecDepth 100000
namespace Go.Proofs.Ytcgamfibnhlpjaa.CrcBehind
set_option linter.unusedVariables false
open Go.RowKit Go.ChangeShapes Go.WideShapes Go.ChangeAt Go.Deep Lb Cr
theorem own : ownKnob Try.prog.godebug = none := by kernel_rfl
theorem laidOut : laidOutB Try.prog = true := by kernel_rfl

/-- Two rows, one behind the other. -/
def two (Z Y : Nat → Int) (n i : Nat) : Int := if i < n then Z i else Y (i - n)
theorem two_byte {Z Y : Nat → Int} (hz : Byte Z) (hy : Byte Y) (n : Nat) : Byte (two Z Y n) := fun i => by
  unfold two
  split
  · exact hz _
  · exact hy _
theorem two_sum (Z Y : Nat → Int) (n m : Nat) : crc (two Z Y n) (n + m) = more (crc Z n) Y m := by
  rw [crc_more, crc_same n (fun i hi => by unfold two; rw [if_pos hi]), more_same _ m (fun i _ => by unfold two; rw [if_neg (by omega), Nat.add_sub_cancel_left])]

set_option maxHeartbeats 4000000 in
theorem body (a : Option Addr) (n c : Nat) (Z : Nat → Int) (a' : Option Addr) (n' c' : Nat) (Z' : Nat → Int) (b : Option Addr) (m d : Nat) (Y : Nat → Int) (w : World) (hn : n ≤ c) (hc : c ≤ maxLen) (hn' : n' ≤ c') (hc' : c' ≤ maxLen) (hm : m ≤ d) (hd : d ≤ maxLen)
    (hZ : Row w a n (fun i => .int .u8 (Z i))) (hz : Byte Z) (hZ' : Row w a' n' (fun i => .int .u8 (Z' i))) (hz' : Byte Z') (hY : Row w b m (fun i => .int .u8 (Y i))) (hy : Byte Y) (hr : c ≤ 140737488351232) (hr' : c' ≤ 140737488351232) (hr2 : d ≤ 140737488351232) :
    Calls Try.prog 6 #[.slice a n c, .slice a' n' c', .slice b m d] w fun e w' => e = .returned (.bool true) ∧ Below w.heap.size w w' := by
  by_cases hbig : 2000 < n + n' + m
  · go_enter Try.func6, Try.ntmps6
    go_wp2_with fail
    refine (awake_behind (Below.refl _ _)).mono ?_
    rintro r w9 ⟨rfl, b9⟩
    go_wp2_with fail
    go_ret
    exact ⟨rfl, b9⟩
  obtain ⟨i0, hi0, hz0, hz1, hz2⟩ := info_parts info8
  have N1 := Lib.hid (show n ≤ maxLen by unfold maxLen; omega)
  have N2 := Lib.hid (show n' ≤ maxLen by unfold maxLen; omega)
  have N3 := Lib.hid (show n + m ≤ maxLen by unfold maxLen; omega)
  have N4 := Lib.hid (show n' + m ≤ maxLen by unfold maxLen; omega)
  have N0 := Lib.hid (show 0 ≤ maxLen by unfold maxLen; omega)
  have s1 := two_sum Z Y n m
  have s2 := two_sum Z' Y n' m
  have l1 := crc_lt hz n
  have l2 := crc_lt hz' n'
  clear hc hc' hd
  go_enter Try.func6, Try.ntmps6
  go_wp2_with fail
  refine (sum_any _ n _ Z _ N1.out hZ hz).mono ?_
  rintro r w' ⟨rfl, rfl⟩
  go_wp2_with fail
  refine (sum_any _ n' _ Z' _ N2.out hZ' hz').mono ?_
  rintro r w' ⟨rfl, rfl⟩
  have ba := (Below.refl w.heap.size w).alloc (Nat.le_refl _) (.cells #[] 5)
  go_wp2_with (at_builtin; go_must (refine wp_app rfl (.tmp 25) (.tmp 26) _ rfl w.heap.size 5 i0 _ 1 Try.underlying22 hi0 hz0 hz1 hz2 rfl _ 0 (fun i => .int .u8 (two Z Y n i)) rfl (Mine.made (Own.new w _ _) (Nat.le_refl _) N0.out (Nat.zero_le _) (fun i hi => absurd hi (by omega))) a n c (fun i => .int .u8 (Z i)) rfl (hZ.below ba) (fun _ _ => rfl) ?c1 ?c2 ?c3 ?_))
  case c1 => rw [Nat.zero_add]; exact N1.out
  case c2 => omega
  case c3 => simp
  intro v1 w1 hv1 hg1
  have b1 : Below w.heap.size w w1 := ba.grown hg1 (by simp) (fun k hk => by simp [Value.ownBlock] at hk; omega)
  have hv1' : Mine w1 w.heap.size 5 v1 n (fun i => .int .u8 (two Z Y n i)) := hv1.ext fun i hi => by unfold two; simp [hi]
  have hY1 := hY.below b1
  have hZ1 := hZ'.below b1
  clear hv1 hg1 ba
  go_wp2_with (at_builtin; go_must (refine wp_app rfl (.tmp 27) (.tmp 28) _ rfl w.heap.size 5 i0 _ 1 Try.underlying22 hi0 hz0 hz1 hz2 rfl v1 n (fun i => .int .u8 (two Z Y n i)) rfl hv1' b m d (fun i => .int .u8 (Y i)) rfl hY1 (fun _ _ => rfl) N3.out ?c2 ?c3 ?_))
  case c2 => omega
  case c3 => exact b1.size
  intro v2 w2 hv2 hg2
  have b2 : Below w.heap.size w w2 := b1.grown hg2 b1.size (fun k hk => (hv1'.lt k hk).1)
  have hv2' : Mine w2 w.heap.size 5 v2 (n + m) (fun i => .int .u8 (two Z Y n i)) := hv2.ext fun i hi => by
    by_cases h : i < n
    · simp [h]
    · unfold two; simp [h]
  obtain ⟨va, vc, hv2e, hvc, hvm, hR2⟩ := hv2'.row
  rw [hv2e]
  rw [hv2e] at hv2'
  clear hv2 hg2 hv1' hY1 hZ1
  have hs2 := b2.size
  have bb := b2.alloc hs2 (.cells #[] 5)
  go_wp2_with (at_builtin; go_must (refine wp_app rfl (.tmp 30) (.tmp 31) _ rfl w2.heap.size 5 i0 _ 1 Try.underlying22 hi0 hz0 hz1 hz2 rfl _ 0 (fun i => .int .u8 (two Z' Y n' i)) rfl (Mine.made (Own.new w2 _ _) (Nat.le_refl _) N0.out (Nat.zero_le _) (fun i hi => absurd hi (by omega))) a' n' c' (fun i => .int .u8 (Z' i)) rfl (hZ'.below bb) (fun _ _ => rfl) ?c1 ?c2 ?c3 ?_))
  case c1 => rw [Nat.zero_add]; exact N2.out
  case c2 => omega
  case c3 => simp
  intro v3 w3 hv3 hg3
  have b3' : Below w2.heap.size w2 w3 := ((Below.refl _ _).alloc (Nat.le_refl _) _).grown hg3 (by simp) (fun k hk => by simp [Value.ownBlock] at hk; omega)
  have b3 : Below w.heap.size w w3 := b2.trans (b3'.mono hs2)
  have hv3' : Mine w3 w2.heap.size 5 v3 n' (fun i => .int .u8 (two Z' Y n' i)) := hv3.ext fun i hi => by unfold two; simp [hi]
  have hY3 := hY.below b3
  clear hv3 hg3 bb
  go_wp2_with (at_builtin; go_must (refine wp_app rfl (.tmp 32) (.tmp 33) _ rfl w2.heap.size 5 i0 _ 1 Try.underlying22 hi0 hz0 hz1 hz2 rfl v3 n' (fun i => .int .u8 (two Z' Y n' i)) rfl hv3' b m d (fun i => .int .u8 (Y i)) rfl hY3 (fun _ _ => rfl) N4.out ?c2 ?c3 ?_))
  case c2 => omega
  case c3 => exact b3'.size
  intro v4 w4 hv4 hg4
  have b4' : Below w2.heap.size w2 w4 := b3'.grown hg4 b3'.size (fun k hk => (hv3'.lt k hk).1)
  have b4 : Below w.heap.size w w4 := b2.trans (b4'.mono hs2)
  have hv4' : Mine w4 w2.heap.size 5 v4 (n' + m) (fun i => .int .u8 (two Z' Y n' i)) := hv4.ext fun i hi => by
    by_cases h : i < n'
    · simp [h]
    · unfold two; simp [h]
  obtain ⟨ua, uc, hv4e, huc, hum, hR4⟩ := hv4'.row
  rw [hv4e]
  have hR2' := hR2.below b4'
  have D := Lib.hid (two_byte hz hy n)
  have E := Lib.hid (two_byte hz' hy n')
  have Q := Lib.hid (And.intro hvm hum)
  have hlt1 : more (crc Z n) Y m < 65536 := more_lt hy l1 m
  have hlt2 : more (crc Z' n') Y m < 65536 := more_lt hy l2 m
  clear hv4 hg4 hv3' hY3 hv4e hv2e hvm hum hR2
  by_cases hxy : crc Z n = crc Z' n'
  · rw [hxy] at s1 hlt1 ⊢
    have e1 : ((crc Z' n' : Int) != (crc Z' n' : Int)) = false := by simp
    have e2 : ((more (crc Z' n') Y m : Int) == (more (crc Z' n') Y m : Int)) = true := by simp
    clear hxy
    go_wp2_with fail
    refine (sum_any va (n + m) vc (two Z Y n) _ N3.out hR2' D.out).mono ?_
    rintro r w' ⟨rfl, rfl⟩
    rw [s1]
    go_wp2_with fail
    refine (sum_any ua (n' + m) uc (two Z' Y n') _ N4.out hR4 E.out).mono ?_
    rintro r w' ⟨rfl, rfl⟩
    rw [s2]
    go_wp2_with fail
    refine (sum_any va (n + m) vc (two Z Y n) _ N3.out hR2' D.out).mono ?_
    rintro r w' ⟨rfl, rfl⟩
    rw [s1]
    go_wp2_with fail
    refine (sum_any ua (n' + m) uc (two Z' Y n') _ N4.out hR4 E.out).mono ?_
    rintro r w' ⟨rfl, rfl⟩
    rw [s2]
    go_wp2_with fail
    refine (append_any va (n + m) vc (two Z Y n) _ (by omega) hR2' D.out).mono ?_
    rintro r w5 ⟨v5, rfl, hv5, b5⟩
    obtain ⟨b9, cs, hv5', _, _, _, _, _⟩ := hv5.block (by omega)
    rw [hv5']
    clear hv5 hv5'
    have hb5 := b4.trans (b5.mono b4.size)
    go_wp2_with fail
    refine (awake_behind hb5).mono ?_
    rintro r w9 ⟨rfl, b9⟩
    go_wp2_with fail
    go_ret
    exact ⟨rfl, b9⟩
  · have e1 : ((crc Z n : Int) != (crc Z' n' : Int)) = true := by simp; omega
    have e2 : ((more (crc Z n) Y m : Int) == (more (crc Z' n') Y m : Int)) = false := by
      simp
      intro h
      exact hxy (more_inj hy l1 l2 m (by omega))
    clear hxy
    by_cases hnn : n = n'
    · have e3 : ((n : Int) != (n' : Int)) = false := by simp; omega
      clear hnn
      go_wp2_with fail
      refine (sum_any va (n + m) vc (two Z Y n) _ N3.out hR2' D.out).mono ?_
      rintro r w' ⟨rfl, rfl⟩
      rw [s1]
      go_wp2_with fail
      refine (sum_any ua (n' + m) uc (two Z' Y n') _ N4.out hR4 E.out).mono ?_
      rintro r w' ⟨rfl, rfl⟩
      rw [s2]
      go_wp2_with fail
      refine (append_any va (n + m) vc (two Z Y n) _ (by omega) hR2' D.out).mono ?_
      rintro r w5 ⟨v5, rfl, hv5, b5⟩
      obtain ⟨b9, cs, hv5', _, _, _, _, _⟩ := hv5.block (by omega)
      rw [hv5']
      clear hv5 hv5'
      have hb5 := b4.trans (b5.mono b4.size)
      go_wp2_with fail
      refine (awake_behind hb5).mono ?_
      rintro r w9 ⟨rfl, b9⟩
      go_wp2_with fail
      go_ret
      exact ⟨rfl, b9⟩
    · have e3 : ((n : Int) != (n' : Int)) = true := by simp; omega
      clear hnn
      go_wp2_with fail
      refine (sum_any va (n + m) vc (two Z Y n) _ N3.out hR2' D.out).mono ?_
      rintro r w' ⟨rfl, rfl⟩
      rw [s1]
      go_wp2_with fail
      refine (sum_any ua (n' + m) uc (two Z' Y n') _ N4.out hR4 E.out).mono ?_
      rintro r w' ⟨rfl, rfl⟩
      rw [s2]
      go_wp2_with fail
      refine (append_any va (n + m) vc (two Z Y n) _ (by omega) hR2' D.out).mono ?_
      rintro r w5 ⟨v5, rfl, hv5, b5⟩
      obtain ⟨b9, cs, hv5', _, _, _, _, _⟩ := hv5.block (by omega)
      rw [hv5']
      clear hv5 hv5'
      have hb5 := b4.trans (b5.mono b4.size)
      go_wp2_with fail
      refine (awake_behind hb5).mono ?_
      rintro r w9 ⟨rfl, b9⟩
      go_wp2_with fail
      go_ret
      exact ⟨rfl, b9⟩

theorem walk (H : Type) (enc : TypeId × Value → H) : WalkS H enc Try.prog 6 Try.f6 := by
  intro W base args ds p hval hA hwt
  rw [Try.params6] at hA hval hwt
  obtain ⟨v0, v1, v2, d0, d1, d2, p0, p1, p2, rfl, rfl, rfl, h0, h1, h2⟩ := trodAll_three hA
  obtain ⟨a, n, c, Z, rfl, hn, hm, hZ, hz⟩ := open_row_int Try.underlying22 Try.underlying5 (by kernel_rfl) (hval 0 _ v0 rfl rfl) h0
  obtain ⟨a', n', c', Z', rfl, hn', hm', hZ', hz'⟩ := open_row_int Try.underlying22 Try.underlying5 (by kernel_rfl) (hval 1 _ v1 rfl rfl) h1
  obtain ⟨a2, n2, c2, Z2, rfl, hn2, hm2, hZ2, hz2⟩ := open_row_int Try.underlying22 Try.underlying5 (by kernel_rfl) (hval 2 _ v2 rfl rfl) h2
  have hr : c ≤ 140737488351232 := by
    have := row_reach hwt (j := 0) rfl rfl Try.underlying22 h0
    rwa [show Try.prog.bytesOf 5 = 1 from by kernel_rfl, Nat.mul_one] at this
  have hr' : c' ≤ 140737488351232 := by
    have := row_reach hwt (j := 1) rfl rfl Try.underlying22 h1
    rwa [show Try.prog.bytesOf 5 = 1 from by kernel_rfl, Nat.mul_one] at this
  have hr2 : c2 ≤ 140737488351232 := by
    have := row_reach hwt (j := 2) rfl rfl Try.underlying22 h2
    rwa [show Try.prog.bytesOf 5 = 1 from by kernel_rfl, Nat.mul_one] at this
  exact body a n c Z a' n' c' Z' a2 n2 c2 Z2 W hn hm hn' hm' hn2 hm2 hZ (fun i => u8_bd (hz i)) hZ' (fun i => u8_bd (hz' i)) hZ2 (fun i => u8_bd (hz2 i)) hr hr' hr2

set_option maxRecDepth 100000 in
theorem lifted (os : Os) (started : os.Started) (H : Type) (enc : TypeId × Value → H) :
    ReturnsInHanded {} Try.checked os 6 .any (Rows.crcBehindSpec.pre6 enc Try.prog Try.f6 Rows.crcBehindRow.domain false) (Rows.crcBehindSpec.post enc Try.prog Try.f6 false true false false) :=
  returnsInHanded_of_change_sized (C := Try.checked) own started (by kernel_rfl) Try.func6
    (ChangeSpec.witness6 (enc := enc) (C := Try.checked) false ⟨#[], #[.slice none 0 0, .slice none 0 0, .slice none 0 0], []⟩ 8 (by kernel_rfl) (by kernel_rfl) (by kernel_rfl) (by kernel_rfl))
    fun W base args ds gs before hval hW _ hwt _ => step_of_walk_sized laidOut (by rw [Try.params6]; exact of_decide_eq_true (by kernel_rfl)) (by kernel_rfl) Try.underlying4 rfl rfl
      (fun ds h => by
        rw [Try.params6] at h
        match ds, h with
        | [_, _, _], _ => rfl) (walk H enc) W base args ds gs before hval hW hwt

theorem holds : Rows.CrcBehindSaid :=
  OpenClaim.holds_of_wide 6 Try.f6 rfl rfl rfl rfl rfl rfl rfl ⟨rfl, rfl, rfl, rfl, rfl⟩ rfl rfl rfl rfl rfl (by kernel_rfl) Try.func6 (by kernel_rfl)
    (of_decide_eq_true (by kernel_rfl)) (by unfold Func.isWrapper; first | (rw [if_pos (by decide +kernel)]; kernel_rfl) | (rw [if_neg (by decide +kernel)]; exact ⟨rfl, rfl⟩))
    (fun os started H enc _ => lifted os started H enc)
#print axioms holds
end Go.Proofs.Ytcgamfibnhlpjaa.CrcBehind
