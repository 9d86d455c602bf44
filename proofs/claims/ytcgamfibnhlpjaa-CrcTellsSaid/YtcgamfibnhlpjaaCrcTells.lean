/-
  Law CrcTells: for every row of bytes, every place and every two bytes a change within two bytes side by side is told, wherever it is, in what is summed or in the sum; the call returns true. No condition.
-/
import Derived.Test.YtcgamfibnhlpjaaCrcWalks
import Derived.Test.YtcgamfibnhlpjaaSized
set_option maxRecDepth 100000
namespace Go.Proofs.Ytcgamfibnhlpjaa.CrcTells
set_option linter.unusedVariables false
open Go.RowKit Go.ChangeShapes Go.WideShapes Go.ChangeAt Go.Deep Lb Cr
theorem own : ownKnob Try.prog.godebug = none := by kernel_rfl
theorem laidOut : laidOutB Try.prog = true := by kernel_rfl

theorem xor_byte {z x : Int} (z0 : 0 ≤ z) (z1 : z < 256) (x0 : 0 ≤ x) (x1 : x < 256) : 0 ≤ bits .xor .u8 z x ∧ bits .xor .u8 z x < 256 ∧ (bits .xor .u8 z x).toNat = z.toNat ^^^ x.toNat := by
  have hlt : z.toNat ^^^ x.toNat < 2 ^ 8 := Nat.xor_lt_two_pow (by omega) (by omega)
  rw [u8_xor _ _ z0 z1 x0 x1]
  exact ⟨by omega, by omega, by omega⟩

set_option maxHeartbeats 4000000 in
theorem changed (b : Nat) (n : Nat) (Z : Nat → Int) (cs : Array Value) (j : Nat) (x y : Int) (w : World) (hz : Byte Z) (x0 : 0 ≤ x) (x1 : x < 256) (y0 : 0 ≤ y) (y1 : y < 256) (hxy : ¬ (x = 0 ∧ y = 0)) (hj : j + 2 ≤ n) (hc : crc Z n = 0)
    (ho : Own w b 5 cs) (hcs : ∀ i, i < n → cs[i]? = some (.int .u8 (Z i))) :
    ∃ Y, Byte Y ∧ goodb Y n = false ∧ Row ((w.setCell ⟨b, j, none⟩ (.int .u8 (bits .xor .u8 (Z j) x))).setCell ⟨b, j + 1, none⟩ (.int .u8 (bits .xor .u8 (Z (j + 1)) y))) (some ⟨b, 0, none⟩) n (fun i => .int .u8 (Y i)) := by
  obtain ⟨p0, p1, p2⟩ := xor_byte (hz j).1 (hz j).2 x0 x1
  obtain ⟨q0, q1, q2⟩ := xor_byte (hz (j + 1)).1 (hz (j + 1)).2 y0 y1
  generalize bits .xor .u8 (Z j) x = p at *
  generalize bits .xor .u8 (Z (j + 1)) y = q at *
  refine ⟨fun i => if i = j then p else if i = j + 1 then q else Z i, ?_, ?_, ?_⟩
  · intro i
    dsimp only
    split
    · exact ⟨p0, p1⟩
    · split
      · exact ⟨q0, q1⟩
      · exact hz i
  · have h := crc_tells (Y := fun i => if i = j then p else if i = j + 1 then q else Z i) hz ?_ j n x.toNat y.toNat (by omega) (by omega) (fun h => hxy ⟨by omega, by omega⟩) hj (by simp [p2]) (by simp [q2]) (fun i _ h1 h2 => by simp [h1, h2])
    · unfold goodb
      rw [hc] at h
      simp [h]
    · intro i
      dsimp only
      split
      · exact ⟨p0, p1⟩
      · split
        · exact ⟨q0, q1⟩
        · exact hz i
  · refine Row.own ((ho.put j _).put (j + 1) _) (fun i hi => ?_)
    rw [Array.getElem?_setIfInBounds]
    have hsz : n ≤ cs.size := by
      rcases Nat.eq_zero_or_pos n with h0 | h0
      · omega
      · have := hcs (n - 1) (by omega)
        have := (Array.getElem?_eq_some_iff.1 this).1
        omega
    by_cases h1 : j + 1 = i
    · subst h1
      rw [if_pos rfl, if_pos (by simp; omega)]
      simp
    · rw [if_neg h1, Array.getElem?_setIfInBounds]
      by_cases h2 : j = i
      · subst h2
        rw [if_pos rfl, if_pos (by omega)]
        simp
      · rw [if_neg h2, hcs i hi]
        have h3 : ¬ i = j := fun h => h2 h.symm
        have h4 : ¬ i = j + 1 := fun h => h1 h.symm
        simp [h3, h4]

set_option maxHeartbeats 4000000 in
theorem body (a : Option Addr) (n c : Nat) (Z : Nat → Int) (q x y : Int) (w : World) (hn : n ≤ c) (hc : c ≤ 140737488351232) (hZ : Row w a n (fun i => .int .u8 (Z i))) (hz : Byte Z) (x0 : 0 ≤ x) (x1 : x < 256) (y0 : 0 ≤ y) (y1 : y < 256) :
    Calls Try.prog 4 #[.slice a n c, .int .i64 q, .int .u8 x, .int .u8 y] w fun e w' => e = .returned (.bool true) ∧ Below w.heap.size w w' := by
  have hq := u64_pos q
  by_cases h1 : 2000 < n
  · go_enter Try.func4, Try.ntmps4
    go_wp2_with fail
    refine (append_any a n c Z _ (by omega) hZ hz).mono ?_
    rintro r w1 ⟨v, rfl, hv, b1⟩
    obtain ⟨b, cs, hv', hg1, ho, hn1, hm1, hcs⟩ := hv.block (by omega)
    rw [hv']
    clear hv' hv
    have M1 := Lib.hid hm1
    have hR : Row w1 (some ⟨b, 0, none⟩) (n + 2) (fun i => .int .u8 (app Z n i)) := Row.own ho hcs
    have g1 : goodb (app Z n) (n + 2) = true := by unfold goodb; rw [app_zero hz]; simp
    clear hm1
    go_wp2_with fail
    refine (good_any _ (n + 2) _ (app Z n) _ hn1 M1.out hR (app_byte hz n)).mono ?_
    rintro r w' ⟨rfl, rfl⟩
    go_wp2_with fail
    refine (awake_behind b1).mono ?_
    rintro r w9 ⟨rfl, b9⟩
    go_wp2_with fail
    go_ret
    exact ⟨rfl, b9⟩
  by_cases h2 : x = 0 ∧ y = 0
  · obtain ⟨rfl, rfl⟩ := h2
    go_enter Try.func4, Try.ntmps4
    go_wp2_with fail
    refine (append_any a n c Z _ (by omega) hZ hz).mono ?_
    rintro r w1 ⟨v, rfl, hv, b1⟩
    obtain ⟨b, cs, hv', hg1, ho, hn1, hm1, hcs⟩ := hv.block (by omega)
    rw [hv']
    clear hv' hv
    have M1 := Lib.hid hm1
    have hR : Row w1 (some ⟨b, 0, none⟩) (n + 2) (fun i => .int .u8 (app Z n i)) := Row.own ho hcs
    have g1 : goodb (app Z n) (n + 2) = true := by unfold goodb; rw [app_zero hz]; simp
    clear hm1
    go_wp2_with fail
    refine (good_any _ (n + 2) _ (app Z n) _ hn1 M1.out hR (app_byte hz n)).mono ?_
    rintro r w' ⟨rfl, rfl⟩
    go_wp2_with fail
    refine (awake_behind b1).mono ?_
    rintro r w9 ⟨rfl, b9⟩
    go_wp2_with fail
    go_ret
    exact ⟨rfl, b9⟩
  have hxy := Lib.hid h2
  by_cases hx : x = 0
  · have e0 : (x == 0) = true := by simpa using hx
    have e1 : (y == 0) = false := by simp; exact fun h => h2 ⟨hx, h⟩
    clear h2 hx
    go_enter Try.func4, Try.ntmps4
    go_wp2_with fail
    refine (append_any a n c Z _ (by omega) hZ hz).mono ?_
    rintro r w1 ⟨v, rfl, hv, b1⟩
    obtain ⟨b, cs, hv', hg1, ho, hn1, hm1, hcs⟩ := hv.block (by omega)
    rw [hv']
    clear hv' hv
    have M1 := Lib.hid hm1
    have hR : Row w1 (some ⟨b, 0, none⟩) (n + 2) (fun i => .int .u8 (app Z n i)) := Row.own ho hcs
    have g1 : goodb (app Z n) (n + 2) = true := by unfold goodb; rw [app_zero hz]; simp
    have g2 : crc (app Z n) (n + 2) = 0 := app_zero hz n
    have hnn : ((((n + 2 : Nat) : Int)) != (n : Int) + 2) = false := by simp
    clear hm1
    go_wp2_with fail
    refine (good_any _ (n + 2) _ (app Z n) _ hn1 M1.out hR (app_byte hz n)).mono ?_
    rintro r w' ⟨rfl, rfl⟩
    go_wp2_with fail
    refine (sum_any _ (n + 2) _ (app Z n) _ (Nat.le_trans hn1 M1.out) hR (app_byte hz n)).mono ?_
    rintro r w' ⟨rfl, rfl⟩
    rw [g2]
    obtain ⟨j, hj⟩ : ∃ j : Nat, IntKind.u64.wrap q % ((n : Int) + 2 - 1) = j := ⟨(IntKind.u64.wrap q % ((n : Int) + 2 - 1)).toNat, by rw [Int.toNat_of_nonneg (Int.emod_nonneg _ (by omega))]⟩
    have hjn : j < n + 1 := by
      have := Int.emod_lt_of_pos (IntKind.u64.wrap q) (show (0 : Int) < (n : Int) + 2 - 1 by omega)
      omega
    have cj : w1.cell? ⟨b, j, none⟩ = some (.int .u8 (app Z n j)) := by rw [ho.cell, hcs j (by omega)]
    have fj : w1.frozen? ⟨b, j, none⟩ = false := ho.free j
    have cj1 : w1.cell? ⟨b, j + 1, none⟩ = some (.int .u8 (app Z n (j + 1))) := by rw [ho.cell, hcs (j + 1) (by omega)]
    have fj1 : w1.frozen? ⟨b, j + 1, none⟩ = false := ho.free (j + 1)
    go_wp2_with fail
    obtain ⟨Y, hY, gY, rY⟩ := changed b (n + 2) (app Z n) cs j x y w1 (app_byte hz n) x0 x1 y0 y1 hxy.out (by omega) g2 ho hcs
    have b3 : Below w.heap.size w ((w1.setCell ⟨b, j, none⟩ (.int .u8 (bits .xor .u8 (app Z n j) x))).setCell ⟨b, j + 1, none⟩ (.int .u8 (bits .xor .u8 (app Z n (j + 1)) y))) := (b1.setCell (p := ⟨b, j, none⟩) hg1 _).setCell (p := ⟨b, j + 1, none⟩) hg1 _
    generalize (w1.setCell ⟨b, j, none⟩ (.int .u8 (bits .xor .u8 (app Z n j) x))).setCell ⟨b, j + 1, none⟩ (.int .u8 (bits .xor .u8 (app Z n (j + 1)) y)) = w3 at *
    refine (good_any _ (n + 2) _ Y _ hn1 M1.out rY hY).mono ?_
    rintro r w' ⟨rfl, rfl⟩
    rw [gY]
    go_wp2_with fail
    refine (awake_behind b3).mono ?_
    rintro r w9 ⟨rfl, b9⟩
    go_wp2_with fail
    go_ret
    exact ⟨rfl, b9⟩
  · have e1 : (x == 0) = false := by simpa using hx
    clear h2 hx
    go_enter Try.func4, Try.ntmps4
    go_wp2_with fail
    refine (append_any a n c Z _ (by omega) hZ hz).mono ?_
    rintro r w1 ⟨v, rfl, hv, b1⟩
    obtain ⟨b, cs, hv', hg1, ho, hn1, hm1, hcs⟩ := hv.block (by omega)
    rw [hv']
    clear hv' hv
    have M1 := Lib.hid hm1
    have hR : Row w1 (some ⟨b, 0, none⟩) (n + 2) (fun i => .int .u8 (app Z n i)) := Row.own ho hcs
    have g1 : goodb (app Z n) (n + 2) = true := by unfold goodb; rw [app_zero hz]; simp
    have g2 : crc (app Z n) (n + 2) = 0 := app_zero hz n
    have hnn : ((((n + 2 : Nat) : Int)) != (n : Int) + 2) = false := by simp
    clear hm1
    go_wp2_with fail
    refine (good_any _ (n + 2) _ (app Z n) _ hn1 M1.out hR (app_byte hz n)).mono ?_
    rintro r w' ⟨rfl, rfl⟩
    go_wp2_with fail
    refine (sum_any _ (n + 2) _ (app Z n) _ (Nat.le_trans hn1 M1.out) hR (app_byte hz n)).mono ?_
    rintro r w' ⟨rfl, rfl⟩
    rw [g2]
    obtain ⟨j, hj⟩ : ∃ j : Nat, IntKind.u64.wrap q % ((n : Int) + 2 - 1) = j := ⟨(IntKind.u64.wrap q % ((n : Int) + 2 - 1)).toNat, by rw [Int.toNat_of_nonneg (Int.emod_nonneg _ (by omega))]⟩
    have hjn : j < n + 1 := by
      have := Int.emod_lt_of_pos (IntKind.u64.wrap q) (show (0 : Int) < (n : Int) + 2 - 1 by omega)
      omega
    have cj : w1.cell? ⟨b, j, none⟩ = some (.int .u8 (app Z n j)) := by rw [ho.cell, hcs j (by omega)]
    have fj : w1.frozen? ⟨b, j, none⟩ = false := ho.free j
    have cj1 : w1.cell? ⟨b, j + 1, none⟩ = some (.int .u8 (app Z n (j + 1))) := by rw [ho.cell, hcs (j + 1) (by omega)]
    have fj1 : w1.frozen? ⟨b, j + 1, none⟩ = false := ho.free (j + 1)
    go_wp2_with fail
    obtain ⟨Y, hY, gY, rY⟩ := changed b (n + 2) (app Z n) cs j x y w1 (app_byte hz n) x0 x1 y0 y1 hxy.out (by omega) g2 ho hcs
    have b3 : Below w.heap.size w ((w1.setCell ⟨b, j, none⟩ (.int .u8 (bits .xor .u8 (app Z n j) x))).setCell ⟨b, j + 1, none⟩ (.int .u8 (bits .xor .u8 (app Z n (j + 1)) y))) := (b1.setCell (p := ⟨b, j, none⟩) hg1 _).setCell (p := ⟨b, j + 1, none⟩) hg1 _
    generalize (w1.setCell ⟨b, j, none⟩ (.int .u8 (bits .xor .u8 (app Z n j) x))).setCell ⟨b, j + 1, none⟩ (.int .u8 (bits .xor .u8 (app Z n (j + 1)) y)) = w3 at *
    refine (good_any _ (n + 2) _ Y _ hn1 M1.out rY hY).mono ?_
    rintro r w' ⟨rfl, rfl⟩
    rw [gY]
    go_wp2_with fail
    refine (awake_behind b3).mono ?_
    rintro r w9 ⟨rfl, b9⟩
    go_wp2_with fail
    go_ret
    exact ⟨rfl, b9⟩

theorem walk (H : Type) (enc : TypeId × Value → H) : WalkS H enc Try.prog 4 Try.f4 := by
  intro W base args ds p hval hA hwt
  rw [Try.params4] at hA hval hwt
  obtain ⟨v0, v1, v2, v3, d0, d1, d2, d3, p0, p1, p2, p3, rfl, rfl, rfl, h0, h1, h2, h3⟩ := trodAll_four hA
  obtain ⟨a, n, c, Z, rfl, hn, hm, hZ, hz⟩ := open_row_int Try.underlying22 Try.underlying5 (by kernel_rfl) (hval 0 _ v0 rfl rfl) h0
  have hr : c ≤ 140737488351232 := by
    have := row_reach hwt (j := 0) rfl rfl Try.underlying22 h0
    rwa [show Try.prog.bytesOf 5 = 1 from by kernel_rfl, Nat.mul_one] at this
  obtain ⟨q, rfl, rfl, rfl, w1⟩ := open_int Try.underlying3 (hval 1 _ v1 rfl rfl) h1
  obtain ⟨x, rfl, rfl, rfl, w2⟩ := open_int Try.underlying5 (hval 2 _ v2 rfl rfl) h2
  obtain ⟨y, rfl, rfl, rfl, w3⟩ := open_int Try.underlying5 (hval 3 _ v3 rfl rfl) h3
  exact body a n c Z q x y W hn hr hZ (fun i => u8_bd (hz i)) (u8_bd w2).1 (u8_bd w2).2 (u8_bd w3).1 (u8_bd w3).2

set_option maxRecDepth 100000 in
theorem lifted (os : Os) (started : os.Started) (H : Type) (enc : TypeId × Value → H) :
    ReturnsInHanded {} Try.checked os 4 .any (Rows.crcTellsSpec.pre6 enc Try.prog Try.f4 Rows.crcTellsRow.domain false) (Rows.crcTellsSpec.post enc Try.prog Try.f4 false true false false) :=
  returnsInHanded_of_change_sized (C := Try.checked) own started (by kernel_rfl) Try.func4
    (ChangeSpec.witness6 (enc := enc) (C := Try.checked) false ⟨#[], #[.slice none 0 0, .int .i64 0, .int .u8 0, .int .u8 0], []⟩ 8 (by kernel_rfl) (by kernel_rfl) (by kernel_rfl) (by kernel_rfl))
    fun W base args ds gs before hval hW _ hwt _ => step_of_walk_sized laidOut (by rw [Try.params4]; exact of_decide_eq_true (by kernel_rfl)) (by kernel_rfl) Try.underlying4 rfl rfl
      (fun ds h => by
        rw [Try.params4] at h
        match ds, h with
        | [_, _, _, _], _ => rfl) (walk H enc) W base args ds gs before hval hW hwt

theorem holds : Rows.CrcTellsSaid :=
  OpenClaim.holds_of_wide 4 Try.f4 rfl rfl rfl rfl rfl rfl rfl ⟨rfl, rfl, rfl, rfl, rfl⟩ rfl rfl rfl rfl rfl (by kernel_rfl) Try.func4 (by kernel_rfl)
    (of_decide_eq_true (by kernel_rfl)) (by unfold Func.isWrapper; first | (rw [if_pos (by decide +kernel)]; kernel_rfl) | (rw [if_neg (by decide +kernel)]; exact ⟨rfl, rfl⟩))
    (fun os started H enc _ => lifted os started H enc)
#print axioms holds
end Go.Proofs.Ytcgamfibnhlpjaa.CrcTells
