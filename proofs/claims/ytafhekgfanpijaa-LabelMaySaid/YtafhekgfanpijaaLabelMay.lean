/-
  Law LabelMay: for every text: a name that may be is small already; with a letter or a number more it may be as long as there is room; what begins with a number may not be, nor what ends with a big letter, nor an empty one; the call returns true. No condition.
-/
import Derived.Test.YtafhekgfanpijaaLaTo
set_option maxRecDepth 100000
namespace Go.Proofs.Ytafhekgfanpijaa.LabelMay
set_option linter.unusedVariables false
open Go.RowKit Go.ChangeShapes Go.WideShapes Go.ChangeAt Go.Deep Lb La
set_option linter.unusedVariables false
theorem own : ownKnob Try.prog.godebug = none := by kernel_rfl
theorem laidOut : laidOutB Try.prog = true := by kernel_rfl
theorem may_out {q : List Nat} (h : mayL q = true) : 1 ≤ q.length ∧ q.length ≤ 16 ∧ OkTo q q.length := by
  unfold mayL at h
  rwa [decide_eq_true_eq] at h
theorem ok_small {q : List Nat} {i : Nat} (h : okAt q i = true) : (97 ≤ q.getD i 0 ∧ q.getD i 0 ≤ 122) ∨ (945 ≤ q.getD i 0 ∧ q.getD i 0 ≤ 969) ∨ (48 ≤ q.getD i 0 ∧ q.getD i 0 ≤ 57) := by
  unfold okAt at h
  generalize q.getD i 0 = c at *
  unfold smallB digitB at h
  simp at h
  omega
theorem small_stays {q : List Nat} {i : Nat} (h : okAt q i = true) : smN (q.getD i 0) = q.getD i 0 ∧ q.getD i 0 ≠ 0xFFFD := by
  have h1 := ok_small h
  refine ⟨?_, by omega⟩
  unfold smN bigB
  rw [decide_eq_false (by omega)]
  rfl
theorem norm_same {l : List UInt8} (h : mayL (ru l) = true) : normB l = l := by
  have h1 := (may_out h).2.2
  have hm : ∀ c ∈ ru l, smN c = c ∧ c ≠ 0xFFFD := fun c hc => by
    obtain ⟨i, hi, rfl⟩ := List.getElem_of_mem hc
    have := small_stays (h1 i hi)
    rwa [List.getD_eq_getElem?_getD, List.getElem?_eq_getElem hi] at this
  unfold normB
  rw [List.map_congr_left (g := id) (fun c hc => (hm c hc).1), List.map_id]
  exact enc_ru l (fun c hc => (hm c hc).2)
theorem rs_one (x : UInt8) (h : x.toNat < 128) : rs [x] = [(x.toNat, 1)] := by
  rw [rs_cons _ (by simp), dec_ascii [x] (show bt [x] 0 < 128 from h)]
  rfl
theorem ru_snoc (l : List UInt8) (x : UInt8) (h : x.toNat < 128) : ru (l ++ [x]) = ru l ++ [x.toNat] := by
  have hr : rs (l ++ [x]) = rs l ++ rs [x] := rs_ascii l [x] (by rw [bt_zero]; omega)
  rw [ru_app hr]
  unfold ru
  rw [rs_one x h]
  rfl
theorem ru_one (x : UInt8) (l : List UInt8) (h : x.toNat < 128) : ru ([x] ++ l) = x.toNat :: ru l := by
  show ru (x :: l) = _
  rw [ru_cons _ (by simp), dec_ascii (x :: l) (show bt (x :: l) 0 < 128 from h)]
  rfl
theorem ok_left {q : List Nat} {i : Nat} (x : Nat) (h : i < q.length) : okAt (q ++ [x]) i = okAt q i := by
  unfold okAt
  rw [List.getD_eq_getElem?_getD, List.getD_eq_getElem?_getD, List.getElem?_append_left h]
theorem last_at (q : List Nat) (x : Nat) : (q ++ [x]).getD q.length 0 = x := by
  rw [List.getD_eq_getElem?_getD, List.getElem?_append_right (Nat.le_refl _), Nat.sub_self]
  rfl
/-- With one more behind. -/
theorem may_more {q : List Nat} {x : Nat} (h : mayL q = true) (hx : (smallB (x : Int) || digitB (x : Int)) = true) : mayL (q ++ [x]) = decide (q.length < 16) := by
  have h1 := may_out h
  unfold mayL
  rw [List.length_append]
  apply decide_eq_decide.2
  refine ⟨fun k => by have := k.2.1; simp at this; omega, fun k => ⟨by simp, by simp; omega, fun i hi => ?_⟩⟩
  by_cases e : i < q.length
  · rw [ok_left x e]; exact h1.2.2 i e
  · have hi2 : i = q.length := by simp at hi; omega
    subst hi2
    unfold okAt
    rw [last_at, decide_eq_true (by omega : 0 < q.length)]
    simpa using hx
theorem may_not {q : List Nat} {x : Nat} (hx : (smallB (x : Int) || digitB (x : Int)) = false) : mayL (q ++ [x]) = false := mayL_no (fun h => by
  have h1 := h.2.2 q.length (by simp)
  unfold okAt at h1
  rw [last_at] at h1
  simp at h1 hx
  rw [hx.1, hx.2] at h1
  simp at h1)
theorem may_first {q : List Nat} {x : Nat} (hx : smallB (x : Int) = false) : mayL (x :: q) = false := mayL_no (fun h => by
  have h1 := h.2.2 0 (by simp)
  unfold okAt at h1
  simp at h1
  rw [hx] at h1
  cases h1)

set_option maxHeartbeats 1000000 in
theorem body (l : List UInt8) (w : World) : Calls Try.prog 5 #[.string ⟨⟨l⟩⟩] w fun e w' => e = .returned (.bool true) ∧ Below w.heap.size w w' := by
  obtain ⟨n, hn⟩ : ∃ n, l.length = n := ⟨_, rfl⟩
  have hsz : (ByteArray.mk ⟨l⟩).size = n := hn
  by_cases h5 : 200 < n
  · have h7 : decide (200 < n) = true := by simp; omega
    have h8 : decide ((200 : Int) < (n : Int)) = true := by simp; omega
    go_enter Try.func5, Try.ntmps5
    go_wp2_with (go_at_call 9; refine (awake_any _).mono ?_)
    rintro r w1 ⟨rfl, b1⟩
    go_wp2_with fail
    go_ret
    exact ⟨rfl, b1⟩
  have h5b : decide (200 < n) = false := by simp; omega
  have h5c : decide ((200 : Int) < (n : Int)) = false := by simp; omega
  obtain ⟨N, hN⟩ : ∃ N, (ru l).length = N := ⟨_, rfl⟩
  have hN5 : N ≤ 200 := by have := rs_le l; rw [← hN, ru_len]; omega
  have F2 := Lib.hid (to_count hN (by omega))
  have F9 := Lib.hid (to_may (l := []) (b := false) (by decide))
  cases hm : mayL (ru l)
  · have F1 := Lib.hid (to_may hm)
    clear hm
    go_enter Try.func5, Try.ntmps5
    go_wp2_with (go_at_call 10; refine (F1.out _).mono ?_)
    rintro r w1 ⟨rfl, b1⟩
    go_wp2_with (go_at_call 14; refine (F2.out _).mono ?_)
    rintro r w2 ⟨rfl, b2⟩
    go_wp2_with (go_at_call 10; refine (F9.out _).mono ?_)
    rintro r w3 ⟨rfl, b3⟩
    go_wp2_with (go_at_call 9; refine (awake_any _).mono ?_)
    rintro r w4 ⟨rfl, b4⟩
    go_wp2_with fail
    go_ret
    exact ⟨rfl, two (two (two b1 b2) b3) b4⟩
  · have F1 := Lib.hid (to_may hm)
    have h1 := may_out hm
    rw [hN] at h1
    have g1 : decide (N < 1) = false := by simp; omega
    have g1b : decide ((N : Int) < 1) = false := by simp; omega
    have g2 : decide (16 < N) = false := by simp; omega
    have g2b : decide ((16 : Int) < (N : Int)) = false := by simp; omega
    obtain ⟨E, hE⟩ : ∃ E, decide (N < 16) = E := ⟨_, rfl⟩
    have hE2 : decide ((N : Int) < 16) = E := by rw [← hE]; apply decide_eq_decide.2; omega
    have F3 := Lib.hid (to_norm (norm_same hm) (by omega))
    have F4 := Lib.hid (to_may (l := [49] ++ l) (b := false) (by rw [ru_one _ _ (by decide)]; exact may_first (by decide)))
    have F5 := Lib.hid (to_may (l := l ++ [120]) (b := E) (by rw [ru_snoc _ _ (by decide), may_more hm (by decide), hN, hE]))
    have F6 := Lib.hid (to_may (l := l ++ [57]) (b := E) (by rw [ru_snoc _ _ (by decide), may_more hm (by decide), hN, hE]))
    have F7 := Lib.hid (to_may (l := l ++ [65]) (b := false) (by rw [ru_snoc _ _ (by decide)]; exact may_not (by decide)))
    have g3 : (E != E) = false := by simp
    have C1 := Lib.hid (show ByteArray.mk #[49] ++ ByteArray.mk ⟨l⟩ = ⟨⟨[49] ++ l⟩⟩ from cat [49] l)
    have C2 := Lib.hid (show ByteArray.mk ⟨l⟩ ++ ByteArray.mk #[120] = ⟨⟨l ++ [120]⟩⟩ from cat l [120])
    have C3 := Lib.hid (show ByteArray.mk ⟨l⟩ ++ ByteArray.mk #[57] = ⟨⟨l ++ [57]⟩⟩ from cat l [57])
    have C4 := Lib.hid (show ByteArray.mk ⟨l⟩ ++ ByteArray.mk #[65] = ⟨⟨l ++ [65]⟩⟩ from cat l [65])
    have s1 : (ByteArray.mk ⟨[49]⟩).size = 1 := rfl
    have s2 : (ByteArray.mk ⟨[120]⟩).size = 1 := rfl
    have s3 : (ByteArray.mk ⟨[57]⟩).size = 1 := rfl
    have s4 : (ByteArray.mk ⟨[65]⟩).size = 1 := rfl
    clear hm h1 hE hN hn
    go_enter Try.func5, Try.ntmps5
    go_wp2_with (go_at_call 10; refine (F1.out _).mono ?_)
    rintro r w1 ⟨rfl, b1⟩
    go_wp2_with (go_at_call 14; refine (F2.out _).mono ?_)
    rintro r w2 ⟨rfl, b2⟩
    go_wp2_with (go_at_call 12; refine (F3.out _).mono ?_)
    rintro r w3 ⟨rfl, b3⟩
    go_wp2_with (go_at_call 10; rw [C1.out]; refine (F4.out _).mono ?_)
    rintro r w4 ⟨rfl, b4⟩
    go_wp2_with (go_at_call 10; rw [C2.out]; refine (F5.out _).mono ?_)
    rintro r w5 ⟨rfl, b5⟩
    go_wp2_with (go_at_call 10; rw [C3.out]; refine (F6.out _).mono ?_)
    rintro r w6 ⟨rfl, b6⟩
    go_wp2_with (go_at_call 10; rw [C4.out]; refine (F7.out _).mono ?_)
    rintro r w7 ⟨rfl, b7⟩
    go_wp2_with (go_at_call 10; refine (F9.out _).mono ?_)
    rintro r w8 ⟨rfl, b8⟩
    go_wp2_with (go_at_call 9; refine (awake_any _).mono ?_)
    rintro r w9 ⟨rfl, b9⟩
    go_wp2_with fail
    go_ret
    exact ⟨rfl, two (two (two (two (two (two (two (two b1 b2) b3) b4) b5) b6) b7) b8) b9⟩

theorem walk (H : Type) (enc : TypeId × Value → H) : Walk H enc Try.prog 5 Try.f5 := by
  intro W base args ds p hval hA
  rw [Try.params5] at hA hval
  obtain ⟨v0, d0, rfl, rfl, h0⟩ := trodAll_one hA
  obtain ⟨⟨⟨l⟩⟩, rfl⟩ := okWide_string Try.underlying9 (hval 0 _ v0 rfl rfl)
  exact body l W

set_option maxRecDepth 100000 in
theorem lifted (os : Os) (started : os.Started) (H : Type) (enc : TypeId × Value → H) :
    ReturnsInHanded {} Try.checked os 5 .any (Rows.labelMaySpec.pre6 enc Try.prog Try.f5 Rows.labelMayRow.domain false) (Rows.labelMaySpec.post enc Try.prog Try.f5 false true false false) :=
  returnsInHanded_of_change (C := Try.checked) own started (by kernel_rfl) Try.func5
    (ChangeSpec.witness6 (enc := enc) (C := Try.checked) false ⟨#[], #[.string ⟨#[]⟩], []⟩ 8 (by kernel_rfl) (by kernel_rfl) (by kernel_rfl) (by kernel_rfl))
    fun W base args ds gs before hval hW _ _ => step_of_walk laidOut (by rw [Try.params5]; exact of_decide_eq_true (by kernel_rfl)) (by kernel_rfl) Try.underlying4 rfl
      (fun ds h => by
        rw [Try.params5] at h
        match ds, h with
        | [_], _ => rfl) (walk H enc) W base args ds gs before hval hW

theorem holds : Rows.LabelMaySaid :=
  OpenClaim.holds_of_wide 5 Try.f5 rfl rfl rfl rfl rfl rfl rfl ⟨rfl, rfl, rfl, rfl, rfl⟩ rfl rfl rfl rfl rfl (by kernel_rfl) Try.func5 (by kernel_rfl)
    (of_decide_eq_true (by kernel_rfl)) (by unfold Func.isWrapper; first | (rw [if_pos (by decide +kernel)]; kernel_rfl) | (rw [if_neg (by decide +kernel)]; exact ⟨rfl, rfl⟩))
    (fun os started H enc _ => lifted os started H enc)
#print axioms holds
end Go.Proofs.Ytafhekgfanpijaa.LabelMay
