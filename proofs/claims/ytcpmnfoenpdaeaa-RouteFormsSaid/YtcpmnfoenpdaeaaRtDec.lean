/-
  Package route (chapter 19): Decode.
-/
import Derived.Test.YtcpmnfoenpdaeaaRtDecM
import Derived.Test.YtcpmnfoenpdaeaaRtUp
set_option maxRecDepth 100000
namespace Go.Proofs.Ytcpmnfoenpdaeaa.Rt
set_option linter.unusedVariables false
open Go.RowKit Lb Go.Shelf Bf

theorem own_ne {w : World} {a b : Nat} {s t : TypeId} {cs ds : Array Value} (h : Lb.Own w a s cs) (k : Lb.Own w b t ds) (hne : s ≠ t) : a ≠ b := fun e => by
  subst e
  exact hne (own_type h k)
theorem rb_own {w : World} {base b : Nat} {l : List Int} {err : Int} (h : Rb w base b l err) : ∃ cs, Lb.Own w b 75 cs := by
  obtain ⟨_, _, _, _, h1, _⟩ := h
  exact ⟨_, h1.own⟩
theorem rb_byte {w : World} {base b : Nat} {l : List Int} {err : Int} (h : Rb w base b l err) : 0 ≤ l.getD 0 0 ∧ l.getD 0 0 < 256 := by
  obtain ⟨j, n, Z, v, h1, h2, h3, h4⟩ := h
  by_cases hl : 0 < l.length
  · have e := h4 0 hl
    have := h1.lt (j + 0) (by omega)
    omega
  · rw [List.getD_eq_getElem?_getD, List.getElem?_eq_none (by omega)]
    exact ⟨by decide, by decide⟩
/-- What is written into a block of another kind leaves the reader as it is. -/
theorem rb_just {w w' : World} {base b g : Nat} {l : List Int} {err : Int} {t : TypeId} {cs : Array Value} (h : Rb w base b l err) (z : Lb.Own w g t cs) (h1 : t ≠ 5) (h2 : t ≠ 75) (j : Just g w w') : Rb w' base b l err := by
  obtain ⟨q, n, Z, v, k1, k2⟩ := h
  exact ⟨q, n, Z, v, k1.just j (own_ne z k1.own h2) (mine_not k1.row z h1.symm), k2⟩
theorem rtake_any (base b : Nat) (L : List Int) (k : Nat) (w : World) (h : Rb w base b (Sl L k) (Se L k)) :
    Calls Try.prog 44 #[.pointer (some ⟨b, 0, none⟩)] w fun r w' => r = .returned (.int .i64 (L.getD k 0)) ∧ Rb w' base b (Sl L (k + 1)) (Se L (k + 1)) ∧ Just b w w' := by
  have hb := rb_byte h
  have ht := take8_any base b (Sl L k) (Se L k) w h
  rw [sl_step L k 1 (by decide), se_step L k 1 (by decide), sl_at, Nat.add_zero] at ht
  rw [sl_at, Nat.add_zero] at hb
  have HT := Lib.hid ht
  obtain ⟨x, hx⟩ : ∃ x, L.getD k 0 = x := ⟨_, rfl⟩
  rw [hx] at HT hb ⊢
  have e1 : wrap64 x = x := IntWalk.wrap64_in _ ⟨by omega, by omega⟩
  have e2 : IntKind.i64.wrap x = x := IntWalk.i64_in _ ⟨by omega, by omega⟩
  clear ht hx h
  go_enter Try.func44, Try.ntmps44
  go_wp2_with (go_at_call 45; refine HT.out.mono ?_)
  rintro r w' ⟨rfl, h1, j1⟩
  go_wp2_with fail
  go_ret
  exact ⟨rfl, h1, j1⟩
theorem dtake48 (base b : Nat) (L : List Int) (k : Nat) (w : World) (h : Rb w base b (Sl L k) (Se L k)) :
    Calls Try.prog 45 #[.pointer (some ⟨b, 0, none⟩), .int .i64 48] w fun r w' => ∃ x : Nat, r = .returned (.int .u64 (x : Nat)) ∧ x < 281474976710656 ∧ (k + 6 ≤ L.length → bytesK x 6 = (L.drop k).take 6) ∧ Rb w' base b (Sl L (k + 6)) (Se L (k + 6)) ∧ Just b w w' := by
  refine (take48_any base b (Sl L k) (Se L k) w h).mono ?_
  rintro r w' ⟨x, rfl, hx, h1, h2, h3⟩
  rw [sl_step L k 6 (by decide), se_step L k 6 (by decide)] at h2
  refine ⟨x, rfl, hx, fun hk => ?_, h2, h3⟩
  have := h1 (by rw [sl_len]; omega)
  rw [this]
  unfold Sl
  rw [if_neg (by omega)]
theorem dend (base b : Nat) (L : List Int) (k : Nat) (w : World) (h : Rb w base b (Sl L k) (Se L k)) :
    Calls Try.prog 46 #[.pointer (some ⟨b, 0, none⟩)] w fun r w' => r = .returned (.int .i64 (if L.length < k then 2 else if L.length = k then 0 else 3)) ∧ ∃ m, w.drewN m = w' := by
  have := endb_any base b (Sl L k) (Se L k) w h
  rwa [end_two] at this
end Go.Proofs.Ytcpmnfoenpdaeaa.Rt
