/-
  Law LabelParts: for every row of runes: as a text it has as many runes; what is cut and what is behind it are its parts, their runes counted together; small twice is small once; turned twice it is as it was; the call returns true. No condition.
-/
import Derived.Test.YtafhekgfanpijaaLaTo
import Derived.Laws.Cover4
set_option maxRecDepth 100000
namespace Go.Proofs.Ytafhekgfanpijaa.LabelParts
set_option linter.unusedVariables false
open Go.RowKit Go.ChangeShapes Go.WideShapes Go.ChangeAt Go.Deep Lb La
set_option linter.unusedVariables false
theorem own : ownKnob Try.prog.godebug = none := by kernel_rfl
theorem laidOut : laidOutB Try.prog = true := by kernel_rfl
def san (z : Int) : Nat := if validRune z = true then z.toNat else 0xFFFD
theorem san_valid (z : Int) : validRune (san z : Nat) = true := by
  unfold san
  split
  · rename_i h
    unfold validRune at h ⊢
    rw [decide_eq_true_eq] at h ⊢
    omega
  · decide
theorem encode_san (z : Int) : Utf8.encode z = ⟨⟨Lib.encodeRune (san z : Nat)⟩⟩ := by
  have hv := san_valid z
  have hc : (if validRune z = true then z.toNat else Utf8.runeError) = san z := rfl
  unfold Utf8.encode
  simp only [validRune_eq, hc]
  generalize san z = c at *
  rcases valid_cases hv with h | h | h | h
  · rw [enc1 h, if_pos h]
  · rw [enc2 h.1 h.2, if_neg (by omega), if_pos (by omega)]
  · rw [enc3 h, if_neg (by omega), if_neg (by omega), if_pos (by omega)]
  · rw [enc4 h.1 h.2, if_neg (by omega), if_neg (by omega), if_neg (by omega)]
theorem runes_fold : ∀ (zs : List Int) (p : List UInt8), zs.foldl (fun r n => r ++ Utf8.encode n) (ByteArray.mk ⟨p⟩) = ⟨⟨p ++ enc (zs.map san)⟩⟩
  | [], p => by simp [enc]
  | z :: zs, p => by
    rw [List.foldl_cons, encode_san, cat, runes_fold zs]
    show _ = ByteArray.mk ⟨p ++ (Lib.encodeRune (san z : Nat) ++ enc (zs.map san))⟩
    rw [List.append_assoc]
theorem runes_bytes (zs : List Int) : runesBytes zs = ⟨⟨enc (zs.map san)⟩⟩ := by
  have := runes_fold zs []
  rwa [List.nil_append] at this
theorem conv_runes {w : World} {a : Option Addr} {zs : List Int} {c : Nat} (h : Row w a zs.length (fun i => .int .i32 (zs.getD i 0))) :
    (convert 26 9 (.slice a zs.length c)).run Try.prog w = .ok (.string ⟨⟨enc (zs.map san)⟩⟩) w := by
  rcases Nat.eq_zero_or_pos zs.length with h0 | h0
  · have : zs = [] := List.eq_nil_of_length_eq_zero h0
    subst this
    rcases a with _ | ad
    · rw [run_convert_runes_nil w _ _ 21 _ _ Try.underlying26 Try.underlying21 Try.underlying9]
      rfl
    · have := run_convert_runes (P := Try.prog) w 26 9 21 ad 0 c [] (Nat.le_refl _) Try.underlying26 Try.underlying21 Try.underlying9 (fun j hj => absurd hj (Nat.not_lt_zero j))
      exact this
  · obtain ⟨b, off, rfl, _, h3⟩ := h h0
    have := run_convert_runes (P := Try.prog) w 26 9 21 ⟨b, off, none⟩ zs.length c zs (Nat.le_refl _) Try.underlying26 Try.underlying21 Try.underlying9 (fun j hj => by
      have h4 := h3 j hj
      by_cases h : j = 0
      · subst h
        simpa [Addr.add] using h4
      · simpa [Addr.add, h] using h4)
    rw [this, List.take_length, runes_bytes]
theorem ext_drop (l : List UInt8) {d : Nat} (hd : l.length = d) (e : Nat) : (ByteArray.mk ⟨l⟩).extract e d = ⟨⟨l.drop e⟩⟩ := by
  apply ByteArray.ext
  rw [ByteArray.data_extract]
  apply Array.ext'
  rw [Array.toList_extract]
  simp [List.take_of_length_le, hd]
theorem smN_valid {c : Nat} (h : validRune (c : Int) = true) : validRune (smN c : Nat) = true := by
  unfold smN
  split
  · rename_i h2
    unfold bigB at h2
    rw [decide_eq_true_eq] at h2
    unfold validRune
    rw [decide_eq_true_eq]
    omega
  · exact h
theorem smN_twice (c : Nat) : smN (smN c) = smN c := by
  unfold smN
  cases h : bigB (c : Int)
  · simp only [Bool.false_eq_true, if_false, h]
  · simp only [if_true]
    rw [if_neg]
    unfold bigB at h ⊢
    rw [decide_eq_true_eq] at h
    simp
    omega
theorem allV (zs : List Int) : ∀ c ∈ zs.map san, validRune (c : Nat) = true := fun c hc => by
  obtain ⟨z, _, rfl⟩ := List.mem_map.1 hc
  exact san_valid z
theorem norm_enc {q : List Nat} (h : ∀ c ∈ q, validRune (c : Nat) = true) : normB (enc q) = enc (q.map smN) := by
  unfold normB
  rw [ru_enc q h]
theorem turn_enc {q : List Nat} (h : ∀ c ∈ q, validRune (c : Nat) = true) : turnB (enc q) = enc q.reverse := by
  unfold turnB
  rw [ru_enc q h]

set_option maxHeartbeats 1000000 in
theorem body (a : Option Addr) (zs : List Int) (c : Nat) (k : Int) (w : World) (hR : Row w a zs.length (fun i => .int .i32 (zs.getD i 0))) :
    Calls Try.prog 4 #[.slice a zs.length c, .int .i64 k] w fun e w' => e = .returned (.bool true) ∧ Below w.heap.size w w' := by
  have hcv := conv_runes (c := c) hR
  have HQ := Lib.hid (allV zs)
  obtain ⟨q, hq⟩ : ∃ q, zs.map san = q := ⟨_, rfl⟩
  rw [hq] at hcv HQ
  obtain ⟨n, hn⟩ : ∃ n, zs.length = n := ⟨_, rfl⟩
  have hqn : q.length = n := by rw [← hq, List.length_map, hn]
  rw [hn] at hcv ⊢
  clear hq hR hn
  by_cases h5 : 500 < n
  · have h7 : decide (500 < n) = true := by simp; omega
    have h8 : decide ((500 : Int) < (n : Int)) = true := by simp; omega
    go_enter Try.func4, Try.ntmps4
    go_wp2_with (go_at_call 9; refine (awake_any _).mono ?_)
    rintro r w1 ⟨rfl, b1⟩
    go_wp2_with fail
    go_ret
    exact ⟨rfl, b1⟩
  have h5b : decide (500 < n) = false := by simp; omega
  have h5c : decide ((500 : Int) < (n : Int)) = false := by simp; omega
  have hel := enc_le q
  rw [hqn] at hel
  obtain ⟨A, hA⟩ : ∃ A : Nat, (IntKind.u64.wrap k % ((n : Int) + 1)).toNat = A := ⟨_, rfl⟩
  have hu0 : 0 ≤ IntKind.u64.wrap k := by
    unfold IntKind.wrap
    simp [IntKind.signed, IntKind.bits]
    omega
  have hm1 := Int.emod_lt_of_pos (IntKind.u64.wrap k) (show (0 : Int) < (n : Int) + 1 by omega)
  have hm0 := Int.emod_nonneg (IntKind.u64.wrap k) (show (n : Int) + 1 ≠ 0 by omega)
  have hAn : A ≤ n := by omega
  have hA2 : wrap64 ((IntKind.u64.wrap k).tmod ((n : Int) + 1)) = (A : Int) := by
    rw [Int.tmod_eq_emod_of_nonneg hu0, IntWalk.wrap64_in _ ⟨by omega, by omega⟩]
    omega
  clear hA hm1 hm0 hu0
  have hru : (ru (enc q)).length = n := by rw [ru_enc q HQ.out]; exact hqn
  have hVS : ∀ c ∈ q.map smN, validRune (c : Nat) = true := fun c hc => by
    obtain ⟨z, hz, rfl⟩ := List.mem_map.1 hc
    exact smN_valid (HQ.out z hz)
  have hVR : ∀ c ∈ q.reverse, validRune (c : Nat) = true := fun c hc => HQ.out c (List.mem_reverse.1 hc)
  have hn1 : normB (enc q) = enc (q.map smN) := norm_enc HQ.out
  have hn2 : normB (enc (q.map smN)) = enc (q.map smN) := by
    rw [norm_enc hVS, List.map_map, List.map_congr_left (f := smN ∘ smN) (g := smN) (fun c _ => smN_twice c)]
  have hn3 : (ru (enc (q.map smN))).length = n := by rw [ru_enc _ hVS, List.length_map, hqn]
  have ht1 : turnB (enc q) = enc q.reverse := turn_enc HQ.out
  have ht2 : turnB (enc q.reverse) = enc q := by rw [turn_enc hVR, List.reverse_reverse]
  have hl2 := enc_le (q.map smN)
  have hl3 := enc_le q.reverse
  rw [List.length_map, hqn] at hl2
  rw [List.length_reverse, hqn] at hl3
  have hc1 : (ru (cutB (enc q) A)).length = A := by
    rw [ru_len]
    unfold cutB
    rw [Int.toNat_natCast, rs_take, List.length_take, ← ru_len, hru]
    omega
  have hc2 : (ru ((enc q).drop (cutB (enc q) A).length)).length = n - A := by
    have h1 : (cutB (enc q) A).length = wid (enc q) A := by
      unfold cutB
      rw [Int.toNat_natCast, List.length_take]
      have := wid_le A (enc q)
      omega
    rw [h1, ru_len, rs_drop, List.length_drop, ← ru_len, hru]
  have hc3 : (enc q).take (cutB (enc q) A).length = cutB (enc q) A := by
    unfold cutB
    rw [List.length_take, Int.toNat_natCast]
    have := wid_le A (enc q)
    rw [Nat.min_eq_left this]
  have hc4 := cut_len (enc q) A
  have F1 := Lib.hid (to_count hru (by omega))
  have F2 := Lib.hid (to_cut (n := (A : Int)) (Eq.refl (cutB (enc q) A)) (by omega) (by omega) (by omega))
  have F3 := Lib.hid (to_count hc1 (by omega))
  have F4 := Lib.hid (to_count hc2 (by rw [List.length_drop]; omega))
  have F5 := Lib.hid (to_norm hn1 (by omega))
  have F6 := Lib.hid (to_norm hn2 (by omega))
  have F7 := Lib.hid (to_count hn3 (by omega))
  have F8 := Lib.hid (to_turn ht1 (by omega))
  have F9 := Lib.hid (to_turn ht2 (by omega))
  clear hn1 hn2 hn3 ht1 ht2 hc1 hc2 hVS hVR hru
  generalize cutB (enc q) A = C at *
  generalize enc (q.map smN) = T at *
  generalize enc q.reverse = U at *
  generalize enc q = D at *
  obtain ⟨d, hd⟩ : ∃ d, D.length = d := ⟨_, rfl⟩
  obtain ⟨e, he⟩ : ∃ e, C.length = e := ⟨_, rfl⟩
  have hs1 : (ByteArray.mk ⟨D⟩).size = d := hd
  have hs2 : (ByteArray.mk ⟨C⟩).size = e := he
  rw [hd, he] at hc4
  rw [hd] at hel
  rw [he] at hc3 F4
  obtain ⟨B, hB⟩ : ∃ B, n - A = B := ⟨_, rfl⟩
  rw [hB] at F4
  have hB2 : IntKind.i64.wrap ((n : Int) - (A : Int)) = (B : Int) := by rw [IntWalk.i64_in _ (by omega)]; omega
  have g1 : decide (d < e) = false := by simp; omega
  have g2 : decide ((d : Int) < (e : Int)) = false := by simp; omega
  have g3 : (0 : Int) ≤ (e : Int) ∧ e ≤ d := by omega
  have hex : ((ByteArray.mk ⟨D⟩).extract 0 e).toList = C := by rw [ext_take, ByteArray.toList_eq]; exact hc3
  have HDR := Lib.hid (ext_drop D hd e)
  clear hd he hB hl2 hl3
  go_enter Try.func4, Try.ntmps4
  go_wp2_with (go_at_call 14; refine (F1.out _).mono ?_)
  rintro r w1 ⟨rfl, b1⟩
  go_wp2_with (go_at_call 16; refine (F2.out _).mono ?_)
  rintro r w2 ⟨rfl, b2⟩
  go_wp2_with (go_at_call 14; refine (F3.out _).mono ?_)
  rintro r w3 ⟨rfl, b3⟩
  go_wp2_with (go_at_call 14; rw [HDR.out]; refine (F4.out _).mono ?_)
  rintro r w4 ⟨rfl, b4⟩
  go_wp2_with (go_at_call 12; refine (F5.out _).mono ?_)
  rintro r w5 ⟨rfl, b5⟩
  go_wp2_with (go_at_call 12; refine (F6.out _).mono ?_)
  rintro r w6 ⟨rfl, b6⟩
  go_wp2_with (go_at_call 14; refine (F7.out _).mono ?_)
  rintro r w7 ⟨rfl, b7⟩
  go_wp2_with (go_at_call 20; refine (F8.out _).mono ?_)
  rintro r w8 ⟨rfl, b8⟩
  go_wp2_with (go_at_call 20; refine (F9.out _).mono ?_)
  rintro r w9 ⟨rfl, b9⟩
  go_wp2_with (go_at_call 9; refine (awake_any _).mono ?_)
  rintro r w10 ⟨rfl, b10⟩
  go_wp2_with fail
  go_ret
  exact ⟨rfl, two (two (two (two (two (two (two (two (two b1 b2) b3) b4) b5) b6) b7) b8) b9) b10⟩

theorem walk (H : Type) (enc : TypeId × Value → H) : Walk H enc Try.prog 4 Try.f4 := by
  intro W base args ds p hval hA
  rw [Try.params4] at hA hval
  obtain ⟨v0, v1, d0, d1, p0, p1, rfl, rfl, rfl, h0, h1⟩ := trodAll_two hA
  obtain ⟨a, n, c, Z, rfl, hn, hm, hZ, _⟩ := open_row_int Try.underlying26 Try.underlying21 (by kernel_rfl) (hval 0 _ v0 rfl rfl) h0
  obtain ⟨k, rfl, rfl, rfl, w1⟩ := open_int Try.underlying3 (hval 1 _ v1 rfl rfl) h1
  have hl : ((List.range n).map Z).length = n := by simp
  have hR : Row W a ((List.range n).map Z).length (fun i => .int .i32 (((List.range n).map Z).getD i 0)) := by
    rw [hl]
    intro h
    obtain ⟨b, off, e1, e2, e3⟩ := hZ h
    exact ⟨b, off, e1, e2, fun i hi => by rw [e3 i hi]; simp [hi]⟩
  have := body a ((List.range n).map Z) c k W hR
  rw [hl] at this
  exact this

set_option maxRecDepth 100000 in
theorem lifted (os : Os) (started : os.Started) (H : Type) (enc : TypeId × Value → H) :
    ReturnsInHanded {} Try.checked os 4 .any (Rows.labelPartsSpec.pre6 enc Try.prog Try.f4 Rows.labelPartsRow.domain false) (Rows.labelPartsSpec.post enc Try.prog Try.f4 false true false false) :=
  returnsInHanded_of_change (C := Try.checked) own started (by kernel_rfl) Try.func4
    (ChangeSpec.witness6 (enc := enc) (C := Try.checked) false ⟨#[], #[.slice none 0 0, .int .i64 0], []⟩ 8 (by kernel_rfl) (by kernel_rfl) (by kernel_rfl) (by kernel_rfl))
    fun W base args ds gs before hval hW _ _ => step_of_walk laidOut (by rw [Try.params4]; exact of_decide_eq_true (by kernel_rfl)) (by kernel_rfl) Try.underlying4 rfl
      (fun ds h => by
        rw [Try.params4] at h
        match ds, h with
        | [_, _], _ => rfl) (walk H enc) W base args ds gs before hval hW

theorem holds : Rows.LabelPartsSaid :=
  OpenClaim.holds_of_wide 4 Try.f4 rfl rfl rfl rfl rfl rfl rfl ⟨rfl, rfl, rfl, rfl, rfl⟩ rfl rfl rfl rfl rfl (by kernel_rfl) Try.func4 (by kernel_rfl)
    (of_decide_eq_true (by kernel_rfl)) (by unfold Func.isWrapper; first | (rw [if_pos (by decide +kernel)]; kernel_rfl) | (rw [if_neg (by decide +kernel)]; exact ⟨rfl, rfl⟩))
    (fun os started H enc _ => lifted os started H enc)
#print axioms holds
end Go.Proofs.Ytafhekgfanpijaa.LabelParts
