/-
  Law SealTells: for every key, every row of bytes, every place and every byte: with that one byte changed the tag is another one, wherever it is; the call returns true. No condition.
-/
import Derived.Test.YtkgbammgenefcaaSealWalks
import Derived.Test.YtkgbammgenefcaaOwn
set_option maxRecDepth 100000
namespace Go.Proofs.Ytkgbammgenefcaa.SealTells
set_option linter.unusedVariables false
open Go.RowKit Go.ChangeShapes Go.WideShapes Go.ChangeAt Go.Deep Lb Se
set_option linter.unusedVariables false
theorem own : ownKnob Try.prog.godebug = none := by kernel_rfl
theorem laidOut : laidOutB Try.prog = true := by kernel_rfl
theorem info : (Try.prog.info? 5).map (fun i => (i.zero, i.size, i.bytes)) = some (some (.int .u8 0), 1, 1) := by kernel_rfl

set_option maxHeartbeats 2000000 in
theorem body (key : Int) (a : Option Addr) (n c : Nat) (Z : Nat → Int) (q x : Int) (w : World) (k0 : 0 ≤ key) (hn : n ≤ c) (hm : c ≤ maxLen) (hZ : Row w a n (fun i => .int .u8 (Z i))) (hz : ∀ i, 0 ≤ Z i ∧ Z i < 256)
    (x0 : 0 ≤ x) (x1 : x < 256) :
    Calls Try.prog 4 #[.int .u64 key, .slice a n c, .int .i64 q, .int .u8 x] w fun e w' => e = .returned (.bool true) ∧ Below w.heap.size w w' := by
  unfold maxLen at hm
  have hq := u64_pos q
  by_cases h0 : n = 0
  · subst h0
    go_enter Try.func4, Try.ntmps4
    go_wp2_with fail
    refine (awake_behind (Below.refl _ _)).mono ?_
    rintro r w9 ⟨rfl, b9⟩
    go_wp2_with fail
    go_ret
    exact ⟨rfl, b9⟩
  by_cases h2 : 2000 < n
  · have e0 : ((n : Int) == 0) = false := by simp; omega
    go_enter Try.func4, Try.ntmps4
    go_wp2_with fail
    refine (awake_behind (Below.refl _ _)).mono ?_
    rintro r w9 ⟨rfl, b9⟩
    go_wp2_with fail
    go_ret
    exact ⟨rfl, b9⟩
  have e0 : ((n : Int) == 0) = false := by simp; omega
  obtain ⟨i0, hi0, hz0, hz1, hz2⟩ := info_parts info
  go_enter Try.func4, Try.ntmps4
  go_wp2_with (at_builtin; refine wp_app rfl (.tmp 20) (.tmp 21) _ rfl w.heap.size 5 i0 _ 1 Try.underlying23 hi0 hz0 hz1 hz2 rfl _ 0 (fun _ => undef) rfl (Mine.made (Own.new w _ _) (Nat.le_refl _) (Nat.zero_le _) (Nat.zero_le _) (fun i hi => absurd hi (by omega))) a n c (fun i => .int .u8 (Z i)) rfl (hZ.below ((Below.refl _ _).alloc (Nat.le_refl _) _)) (fun _ _ => rfl) ?c1 ?c2 ?c3 ?_)
  case c1 => unfold maxLen; omega
  case c2 => omega
  case c3 => simp
  intro v' w2 hv hg
  have b2 : Below w.heap.size w w2 := ((Below.refl _ _).alloc (Nat.le_refl _) _).grown hg (by simp) (fun k hk => by simp [Value.ownBlock] at hk; omega)
  obtain ⟨g, cs, hv', hg1, ho, hn1, hm1, hcs⟩ := hv.block (by omega)
  rw [hv']
  clear hv' hv hg
  try simp only [Nat.zero_add] at hn1 hcs
  have hcs' : ∀ i, i < n → cs[i]? = some (.int .u8 (Z i)) := fun i hi => by rw [hcs i hi]; try simp
  clear hcs
  obtain ⟨j, hj⟩ : ∃ j : Nat, IntKind.u64.wrap q % (n : Int) = j := ⟨(IntKind.u64.wrap q % (n : Int)).toNat, by rw [Int.toNat_of_nonneg (Int.emod_nonneg _ (by omega))]⟩
  have hjn : j < n := by
    have := Int.emod_lt_of_pos (IntKind.u64.wrap q) (show (0 : Int) < (n : Int) by omega)
    omega
  have hcj : w2.cell? ⟨g, j, none⟩ = some (.int .u8 (Z j)) := by rw [ho.cell, hcs' j hjn]
  have hfj : w2.frozen? ⟨g, j, none⟩ = false := ho.free j
  have hxor : 0 ≤ bits .xor .u8 (Z j) x ∧ bits .xor .u8 (Z j) x < 256 ∧ (bits .xor .u8 (Z j) x = Z j ↔ x = 0) := by
    rw [u8_xor _ _ (hz j).1 (hz j).2 x0 x1]
    have hz1 := (hz j).1; have hz2 := (hz j).2
    have hlt : (Z j).toNat ^^^ x.toNat < 2 ^ 8 := Nat.xor_lt_two_pow (by omega) (by omega)
    refine ⟨by omega, by omega, fun h => ?_, fun h => ?_⟩
    · have e : (Z j).toNat ^^^ x.toNat = (Z j).toNat := by omega
      have e2 := congrArg ((Z j).toNat ^^^ ·) e
      simp only [← Nat.xor_assoc, Nat.xor_self, Nat.zero_xor] at e2
      omega
    · subst h
      simp
      omega
  have HX := Lib.hid hxor
  clear hxor
  go_wp2_with fail
  have o3 := ho.put j (.int .u8 (bits .xor .u8 (Z j) x))
  have b3 := b2.setCell (p := ⟨g, j, none⟩) hg1 (.int .u8 (bits .xor .u8 (Z j) x))
  generalize w2.setCell ⟨g, j, none⟩ (.int .u8 (bits .xor .u8 (Z j) x)) = w3 at *
  generalize bits .xor .u8 (Z j) x = y at *
  have hy : ∀ i, 0 ≤ (if i = j then y else Z i) ∧ (if i = j then y else Z i) < 256 := fun i => by
    split
    · exact ⟨HX.out.1, HX.out.2.1⟩
    · exact hz i
  have hY : Row w3 (some ⟨g, 0, none⟩) n (fun i => .int .u8 (if i = j then y else Z i)) := Row.own o3 (fun i hi => by
    rw [Array.getElem?_setIfInBounds]
    by_cases hij : j = i
    · subst hij
      rw [if_pos rfl, if_pos (by omega), if_pos rfl]
    · rw [if_neg hij, hcs' i hi, if_neg (fun h => hij h.symm)])
  have hZ3 : Row w3 a n (fun i => .int .u8 (Z i)) := hZ.below b3
  refine (tag_any key a n c Z _ k0 (by unfold maxLen; omega) hZ3 hz).mono ?_
  rintro r w' ⟨rfl, rfl⟩
  go_wp2_with fail
  refine (tag_any key _ n _ _ _ k0 (by unfold maxLen; omega) hY hy).mono ?_
  rintro r w' ⟨rfl, rfl⟩
  have key1 : (tag key (fun i => if i = j then y else Z i) n == tag key Z n) = (x == 0) := by
    by_cases hx : x = 0
    · have e : y = Z j := HX.out.2.2.2 hx
      have : tag key (fun i => if i = j then y else Z i) n = tag key Z n := tag_same key n (fun i _ => by
        by_cases hij : i = j
        · subst hij; simp [e]
        · simp [hij])
      rw [this, hx]
      simp
    · have e : y ≠ Z j := fun h => hx (HX.out.2.2.1 h)
      have : tag key (fun i => if i = j then y else Z i) n ≠ tag key Z n := fun h => e (by
        have := tag_tells key j n hy hz (fun i hi => if_neg hi) hjn h
        simpa using this)
      rw [beq_eq_false_iff_ne.2 this, beq_eq_false_iff_ne.2 hx]
  have hs : (tag key Z n == tag key Z n) = true := by simp
  generalize tag key (fun i => if i = j then y else Z i) n = T1 at *
  by_cases hx : x = 0
  · subst hx
    have k1 : (T1 == tag key Z n) = true := by rw [key1]; rfl
    clear key1
    go_wp2_with fail
    refine (good_any key _ _ n _ Z _ k0 (by unfold maxLen; omega) hZ3 hz).mono ?_
    rintro r w' ⟨rfl, rfl⟩
    go_wp2_with fail
    refine (awake_behind b3).mono ?_
    rintro r w9 ⟨rfl, b9⟩
    go_wp2_with fail
    go_ret
    exact ⟨rfl, b9⟩
  · have hx' : (x == 0) = false := by simpa using hx
    have k1 : (T1 == tag key Z n) = false := by rw [key1, hx']
    clear key1
    go_wp2_with fail
    refine (good_any key _ _ n _ Z _ k0 (by unfold maxLen; omega) hZ3 hz).mono ?_
    rintro r w' ⟨rfl, rfl⟩
    go_wp2_with fail
    refine (awake_behind b3).mono ?_
    rintro r w9 ⟨rfl, b9⟩
    go_wp2_with fail
    go_ret
    exact ⟨rfl, b9⟩

theorem walk (H : Type) (enc : TypeId × Value → H) : Walk H enc Try.prog 4 Try.f4 := by
  intro W base args ds p hval hA
  rw [Try.params4] at hA hval
  obtain ⟨v0, v1, v2, v3, d0, d1, d2, d3, p0, p1, p2, p3, rfl, rfl, rfl, h0, h1, h2, h3⟩ := trodAll_four hA
  obtain ⟨key, rfl, rfl, rfl, w0⟩ := open_int Try.underlying22 (hval 0 _ v0 rfl rfl) h0
  obtain ⟨a, n, c, Z, rfl, hn, hm, hZ, hz⟩ := open_row_int Try.underlying23 Try.underlying5 (by kernel_rfl) (hval 1 _ v1 rfl rfl) h1
  obtain ⟨q, rfl, rfl, rfl, w2⟩ := open_int Try.underlying3 (hval 2 _ v2 rfl rfl) h2
  obtain ⟨x, rfl, rfl, rfl, w3⟩ := open_int Try.underlying5 (hval 3 _ v3 rfl rfl) h3
  exact body key a n c Z q x W (u64_bd w0) hn hm hZ (fun i => u8_bd (hz i)) (u8_bd w3).1 (u8_bd w3).2

set_option maxRecDepth 100000 in
theorem lifted (os : Os) (started : os.Started) (H : Type) (enc : TypeId × Value → H) :
    ReturnsInHanded {} Try.checked os 4 .any (Rows.sealTellsSpec.pre6 enc Try.prog Try.f4 Rows.sealTellsRow.domain false) (Rows.sealTellsSpec.post enc Try.prog Try.f4 false true false false) :=
  returnsInHanded_of_change (C := Try.checked) own started (by kernel_rfl) Try.func4
    (ChangeSpec.witness6 (enc := enc) (C := Try.checked) false ⟨#[], #[.int .u64 0, .slice none 0 0, .int .i64 0, .int .u8 0], []⟩ 8 (by kernel_rfl) (by kernel_rfl) (by kernel_rfl) (by kernel_rfl))
    fun W base args ds gs before hval hW _ _ => step_of_walk laidOut (by rw [Try.params4]; exact of_decide_eq_true (by kernel_rfl)) (by kernel_rfl) Try.underlying4 rfl
      (fun ds h => by
        rw [Try.params4] at h
        match ds, h with
        | [_, _, _, _], _ => rfl) (walk H enc) W base args ds gs before hval hW

theorem holds : Rows.SealTellsSaid :=
  OpenClaim.holds_of_wide 4 Try.f4 rfl rfl rfl rfl rfl rfl rfl ⟨rfl, rfl, rfl, rfl, rfl⟩ rfl rfl rfl rfl rfl (by kernel_rfl) Try.func4 (by kernel_rfl)
    (of_decide_eq_true (by kernel_rfl)) (by unfold Func.isWrapper; first | (rw [if_pos (by decide +kernel)]; kernel_rfl) | (rw [if_neg (by decide +kernel)]; exact ⟨rfl, rfl⟩))
    (fun os started H enc _ => lifted os started H enc)
#print axioms holds
end Go.Proofs.Ytkgbammgenefcaa.SealTells
