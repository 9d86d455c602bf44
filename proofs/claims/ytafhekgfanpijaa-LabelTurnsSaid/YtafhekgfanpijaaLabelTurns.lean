/-
  Law LabelTurns: for every two texts of which no rune comes together where they meet: turned about the runes are the same ones, counted from behind, and one rune stays; the call returns true. No condition.
-/
import Derived.Test.YtafhekgfanpijaaLaTo
set_option maxRecDepth 100000
namespace Go.Proofs.Ytafhekgfanpijaa.LabelTurns
set_option linter.unusedVariables false
open Go.RowKit Go.ChangeShapes Go.WideShapes Go.ChangeAt Go.Deep Lb La
set_option linter.unusedVariables false
theorem own : ownKnob Try.prog.godebug = none := by kernel_rfl
theorem laidOut : laidOutB Try.prog = true := by kernel_rfl
theorem turn_cat {a b : List UInt8} (h : rs (a ++ b) = rs a ++ rs b) : turnB (a ++ b) = turnB b ++ turnB a := by
  unfold turnB
  rw [ru_app h, List.reverse_append, enc_app]
theorem turn_count (l : List UInt8) : (ru (turnB l)).length = (ru l).length := by
  unfold turnB
  rw [ru_enc _ (fun c hc => ru_valid l c (List.mem_reverse.1 hc)), List.length_reverse]
theorem turn_len (l : List UInt8) : (turnB l).length ≤ 4 * l.length := by
  unfold turnB
  have h1 := enc_le (ru l).reverse
  have h2 := rs_le l
  rw [List.length_reverse, ru_len] at h1
  omega

set_option maxHeartbeats 400000 in
theorem body (a b : List UInt8) (w : World) : Calls Try.prog 7 #[.string ⟨⟨a⟩⟩, .string ⟨⟨b⟩⟩] w fun e w' => e = .returned (.bool true) ∧ Below w.heap.size w w' := by
  obtain ⟨n, hn⟩ : ∃ n, a.length = n := ⟨_, rfl⟩
  obtain ⟨m, hm⟩ : ∃ m, b.length = m := ⟨_, rfl⟩
  have hsz : (ByteArray.mk ⟨a⟩).size = n := hn
  have hsz2 : (ByteArray.mk ⟨b⟩).size = m := hm
  by_cases h5 : 300 < n
  · have h7 : decide (300 < n) = true := by simp; omega
    have h8 : decide ((300 : Int) < (n : Int)) = true := by simp; omega
    go_enter Try.func7, Try.ntmps7
    go_wp2_with (go_at_call 9; refine (awake_any _).mono ?_)
    rintro r w1 ⟨rfl, b1⟩
    go_wp2_with fail
    go_ret
    exact ⟨rfl, b1⟩
  have h5b : decide (300 < n) = false := by simp; omega
  have h5c : decide ((300 : Int) < (n : Int)) = false := by simp; omega
  by_cases h6 : 300 < m
  · have h7 : decide (300 < m) = true := by simp; omega
    have h8 : decide ((300 : Int) < (m : Int)) = true := by simp; omega
    go_enter Try.func7, Try.ntmps7
    go_wp2_with (go_at_call 9; refine (awake_any _).mono ?_)
    rintro r w1 ⟨rfl, b1⟩
    go_wp2_with fail
    go_ret
    exact ⟨rfl, b1⟩
  have h6b : decide (300 < m) = false := by simp; omega
  have h6c : decide ((300 : Int) < (m : Int)) = false := by simp; omega
  have hab : (a ++ b).length ≤ 600 := by rw [List.length_append]; omega
  obtain ⟨N, hN⟩ : ∃ N, (ru a).length = N := ⟨_, rfl⟩
  obtain ⟨M, hM⟩ : ∃ M, (ru b).length = M := ⟨_, rfl⟩
  obtain ⟨K, hK⟩ : ∃ K, (ru (a ++ b)).length = K := ⟨_, rfl⟩
  have hN5 : N ≤ 300 := by have := rs_le a; rw [← hN, ru_len]; omega
  have hM5 : M ≤ 300 := by have := rs_le b; rw [← hM, ru_len]; omega
  have F1 := Lib.hid (to_count hK (by omega))
  have F2 := Lib.hid (to_count hN (by omega))
  have F3 := Lib.hid (to_count hM (by omega))
  have e1 : IntKind.i64.wrap ((N : Int) + (M : Int)) = (N : Int) + (M : Int) := wrap_small _ (by omega) (by omega)
  by_cases hk : K = N + M
  · have hrs : rs (a ++ b) = rs a ++ rs b := rs_app_eq (by rw [← ru_len, ← ru_len, ← ru_len, hK, hN, hM]; exact hk)
    have F4 := Lib.hid (to_turn (turn_cat hrs) (by omega))
    have F5 := Lib.hid (to_turn (Eq.refl (turnB a)) (by omega))
    have F6 := Lib.hid (to_turn (Eq.refl (turnB b)) (by omega))
    have hl1 := turn_len a
    have hl2 := turn_len b
    have F7 := Lib.hid (to_count (l := turnB b ++ turnB a) (N := K) (by rw [← turn_cat hrs, turn_count, hK]) (by rw [List.length_append]; omega))
    have F8 := Lib.hid (to_turn (l := [206, 178]) (X := [206, 178]) (by decide) (by decide))
    generalize turnB a = P at *
    generalize turnB b = Q at *
    obtain ⟨p, hp⟩ : ∃ p, P.length = p := ⟨_, rfl⟩
    obtain ⟨q, hq⟩ : ∃ q, Q.length = q := ⟨_, rfl⟩
    have hsz3 : (ByteArray.mk ⟨P⟩).size = p := hp
    have hsz4 : (ByteArray.mk ⟨Q⟩).size = q := hq
    have hp2 : p ≤ 1200 := by omega
    have hq2 : q ≤ 1200 := by omega
    clear hl1 hl2 hp hq
    have g1 : ((K : Int) != (N : Int) + (M : Int)) = false := by simp; omega
    have HCAT := Lib.hid (cat a b)
    have hcat2 : (ByteArray.mk ⟨Q⟩ ++ ByteArray.mk ⟨P⟩).toList = Q ++ P := by rw [cat, ByteArray.toList_eq]
    clear hn hm hN hM hK hrs hab hk
    go_enter Try.func7, Try.ntmps7
    go_wp2_with (go_at_call 14; rw [HCAT.out]; refine (F1.out _).mono ?_)
    rintro r w1 ⟨rfl, b1⟩
    go_wp2_with (go_at_call 14; refine (F2.out _).mono ?_)
    rintro r w2 ⟨rfl, b2⟩
    go_wp2_with (go_at_call 14; refine (F3.out _).mono ?_)
    rintro r w3 ⟨rfl, b3⟩
    go_wp2_with (go_at_call 20; rw [HCAT.out]; refine (F4.out _).mono ?_)
    rintro r w4 ⟨rfl, b4⟩
    go_wp2_with (go_at_call 20; refine (F6.out _).mono ?_)
    rintro r w5 ⟨rfl, b5⟩
    go_wp2_with (go_at_call 20; refine (F5.out _).mono ?_)
    rintro r w6 ⟨rfl, b6⟩
    go_wp2_with (go_at_call 14; refine (F7.out _).mono ?_)
    rintro r w7 ⟨rfl, b7⟩
    go_wp2_with (go_at_call 14; rw [HCAT.out]; refine (F1.out _).mono ?_)
    rintro r w8 ⟨rfl, b8⟩
    go_wp2_with (go_at_call 20; refine (F8.out _).mono ?_)
    rintro r w9 ⟨rfl, b9⟩
    go_wp2_with (go_at_call 9; refine (awake_any _).mono ?_)
    rintro r w10 ⟨rfl, b10⟩
    go_wp2_with fail
    go_ret
    exact ⟨rfl, two (two (two (two (two (two (two (two (two b1 b2) b3) b4) b5) b6) b7) b8) b9) b10⟩
  · have g1 : ((K : Int) != (N : Int) + (M : Int)) = true := by simp; omega
    have HCAT := Lib.hid (cat a b)
    clear hn hm hN hM hK hab hk
    go_enter Try.func7, Try.ntmps7
    go_wp2_with (go_at_call 14; rw [HCAT.out]; refine (F1.out _).mono ?_)
    rintro r w1 ⟨rfl, b1⟩
    go_wp2_with (go_at_call 14; refine (F2.out _).mono ?_)
    rintro r w2 ⟨rfl, b2⟩
    go_wp2_with (go_at_call 14; refine (F3.out _).mono ?_)
    rintro r w3 ⟨rfl, b3⟩
    go_wp2_with (go_at_call 9; refine (awake_any _).mono ?_)
    rintro r w4 ⟨rfl, b4⟩
    go_wp2_with fail
    go_ret
    exact ⟨rfl, two (two (two b1 b2) b3) b4⟩

theorem walk (H : Type) (enc : TypeId × Value → H) : Walk H enc Try.prog 7 Try.f7 := by
  intro W base args ds p hval hA
  rw [Try.params7] at hA hval
  obtain ⟨v0, v1, d0, d1, p0, p1, rfl, rfl, rfl, h0, h1⟩ := trodAll_two hA
  obtain ⟨⟨⟨a⟩⟩, rfl⟩ := okWide_string Try.underlying9 (hval 0 _ v0 rfl rfl)
  obtain ⟨⟨⟨b⟩⟩, rfl⟩ := okWide_string Try.underlying9 (hval 1 _ v1 rfl rfl)
  exact body a b W

set_option maxRecDepth 100000 in
theorem lifted (os : Os) (started : os.Started) (H : Type) (enc : TypeId × Value → H) :
    ReturnsInHanded {} Try.checked os 7 .any (Rows.labelTurnsSpec.pre6 enc Try.prog Try.f7 Rows.labelTurnsRow.domain false) (Rows.labelTurnsSpec.post enc Try.prog Try.f7 false true false false) :=
  returnsInHanded_of_change (C := Try.checked) own started (by kernel_rfl) Try.func7
    (ChangeSpec.witness6 (enc := enc) (C := Try.checked) false ⟨#[], #[.string ⟨#[]⟩, .string ⟨#[]⟩], []⟩ 8 (by kernel_rfl) (by kernel_rfl) (by kernel_rfl) (by kernel_rfl))
    fun W base args ds gs before hval hW _ _ => step_of_walk laidOut (by rw [Try.params7]; exact of_decide_eq_true (by kernel_rfl)) (by kernel_rfl) Try.underlying4 rfl
      (fun ds h => by
        rw [Try.params7] at h
        match ds, h with
        | [_, _], _ => rfl) (walk H enc) W base args ds gs before hval hW

theorem holds : Rows.LabelTurnsSaid :=
  OpenClaim.holds_of_wide 7 Try.f7 rfl rfl rfl rfl rfl rfl rfl ⟨rfl, rfl, rfl, rfl, rfl⟩ rfl rfl rfl rfl rfl (by kernel_rfl) Try.func7 (by kernel_rfl)
    (of_decide_eq_true (by kernel_rfl)) (by unfold Func.isWrapper; first | (rw [if_pos (by decide +kernel)]; kernel_rfl) | (rw [if_neg (by decide +kernel)]; exact ⟨rfl, rfl⟩))
    (fun os started H enc _ => lifted os started H enc)
#print axioms holds
end Go.Proofs.Ytafhekgfanpijaa.LabelTurns
