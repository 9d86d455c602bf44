/-
  Package label (chapter 1): a text's bytes as runes, by the model's own decoding: what stands behind changes no rune ahead; runes are laid and found again.
-/
import Derived.Test.YtafhekgfanpijaaLib
import Derived.Laws.RangeAny
import Derived.Laws.Runes
import Derived.Lib.RuneBytes
set_option maxRecDepth 100000
namespace Go.Proofs.Ytafhekgfanpijaa.La
set_option linter.unusedVariables false
open Go.RowKit

/-- A byte at place k that goes on a rune. -/
def isC (l : List UInt8) (k : Nat) : Bool := decide (k < l.length) && ((l.getD k 0).toNat / 64 == 2)
/-- The decoding, out of four bytes and which of them go on. -/
def decK (b0 v1 v2 v3 : Nat) (c1 c2 c3 : Bool) : Nat × Nat :=
  if b0 < 0x80 then (b0, 1)
  else if (b0 / 32 == 6 && c1) = true then
    (if (b0 % 32) * 64 + v1 % 64 ≥ 0x80 then ((b0 % 32) * 64 + v1 % 64, 2) else (0xFFFD, 1))
  else if (b0 / 16 == 14 && c1 && c2) = true then
    (if ((b0 % 16) * 4096 + (v1 % 64) * 64 + v2 % 64 ≥ 0x800 && validRune ((b0 % 16) * 4096 + (v1 % 64) * 64 + v2 % 64 : Nat)) = true then ((b0 % 16) * 4096 + (v1 % 64) * 64 + v2 % 64, 3) else (0xFFFD, 1))
  else if (b0 / 8 == 30 && c1 && c2 && c3) = true then
    (if ((b0 % 8) * 262144 + (v1 % 64) * 4096 + (v2 % 64) * 64 + v3 % 64 ≥ 0x10000 && validRune ((b0 % 8) * 262144 + (v1 % 64) * 4096 + (v2 % 64) * 64 + v3 % 64 : Nat)) = true then ((b0 % 8) * 262144 + (v1 % 64) * 4096 + (v2 % 64) * 64 + v3 % 64, 4) else (0xFFFD, 1))
  else (0xFFFD, 1)
def bt (l : List UInt8) (k : Nat) : Nat := (l.getD k 0).toNat
theorem bt_lt (l : List UInt8) (k : Nat) : bt l k < 256 := (l.getD k 0).toNat_lt
def dec (l : List UInt8) : Nat × Nat := decK (bt l 0) (bt l 1) (bt l 2) (bt l 3) (isC l 1) (isC l 2) (isC l 3)

theorem get_list (l : List UInt8) (p k : Nat) : (ByteArray.mk ⟨l⟩).get! (p + k) = (l.drop p).getD k 0 := by
  show (Array.mk l)[p + k]! = _
  by_cases h : p + k < l.length
  · rw [getElem!_pos (Array.mk l) (p + k) h]
    have h2 : k < (l.drop p).length := by rw [List.length_drop]; omega
    rw [List.getD_eq_getElem?_getD, List.getElem?_drop, List.getElem?_eq_getElem h]
    rfl
  · rw [getElem!_neg (Array.mk l) (p + k) h, List.getD_eq_getElem?_getD, List.getElem?_drop, List.getElem?_eq_none (by omega)]
    rfl
theorem decode_dec (l : List UInt8) (p : Nat) : Utf8.decode ⟨⟨l⟩⟩ p = dec (l.drop p) := by
  have hs : (ByteArray.mk ⟨l⟩).size = l.length := rfl
  have hc : ∀ k, (decide (p + k < (ByteArray.mk ⟨l⟩).size) && ((ByteArray.mk ⟨l⟩).get! (p + k)).toNat / 64 == 2) = isC (l.drop p) k := by
    intro k
    rw [get_list, hs]
    unfold isC
    have : decide (p + k < l.length) = decide (k < (l.drop p).length) := by
      rw [List.length_drop]; exact decide_eq_decide.2 (by omega)
    rw [this]
  unfold Utf8.decode dec decK
  simp only [hc]
  simp only [get_list, validRune_eq, Utf8.runeError]
  rfl

theorem isC_app (a b : List UInt8) (k : Nat) (h : k < a.length) : isC (a ++ b) k = isC a k := by
  unfold isC
  have h2 : k < (a ++ b).length := by rw [List.length_append]; omega
  rw [List.getD_eq_getElem?_getD, List.getD_eq_getElem?_getD, List.getElem?_append_left h]
  simp [h, h2]
  omega
theorem isC_out (a : List UInt8) (k : Nat) (h : a.length ≤ k) : isC a k = false := by
  unfold isC
  simp [Nat.not_lt.2 h]
theorem isC_lt {a : List UInt8} {k : Nat} (h : isC a k = true) : k < a.length := by
  unfold isC at h
  simp at h
  exact h.1
theorem bt_app (a b : List UInt8) (k : Nat) (h : k < a.length) : bt (a ++ b) k = bt a k := by
  unfold bt
  rw [List.getD_eq_getElem?_getD, List.getD_eq_getElem?_getD, List.getElem?_append_left h]
theorem dec_pos (l : List UInt8) : 1 ≤ (dec l).2 ∧ (dec l).2 ≤ 4 := by
  unfold dec decK
  repeat' split
  all_goals simp
theorem dec_le (l : List UInt8) (h : l ≠ []) : (dec l).2 ≤ l.length := by
  have h0 : 0 < l.length := List.length_pos_iff.2 h
  unfold dec decK
  split
  · exact h0
  · split
    · rename_i h1
      simp at h1
      have := isC_lt h1.2
      split <;> simp <;> omega
    · split
      · rename_i h1
        simp at h1
        have := isC_lt h1.2
        split <;> simp <;> omega
      · split
        · rename_i h1
          simp at h1
          have := isC_lt h1.2
          split <;> simp <;> omega
        · exact h0
/-- What stands behind changes nothing, or the bytes ahead were no whole rune. -/
theorem dec_app (a b : List UInt8) (h : a ≠ []) : dec (a ++ b) = dec a ∨ (dec a = (0xFFFD, 1) ∧ a.length < (dec (a ++ b)).2) := by
  have h0 : 0 < a.length := List.length_pos_iff.2 h
  unfold dec
  rw [bt_app a b 0 h0]
  generalize bt a 0 = b0
  by_cases h1 : 1 < a.length
  · rw [bt_app a b 1 h1, isC_app a b 1 h1]
    generalize isC a 1 = c1
    generalize bt a 1 = v1
    by_cases h2 : 2 < a.length
    · rw [bt_app a b 2 h2, isC_app a b 2 h2]
      generalize isC a 2 = c2
      generalize bt a 2 = v2
      by_cases h3 : 3 < a.length
      · rw [bt_app a b 3 h3, isC_app a b 3 h3]
        exact Or.inl rfl
      · rw [isC_out a 3 (by omega)]
        generalize isC (a ++ b) 3 = c3
        generalize bt (a ++ b) 3 = v3
        unfold decK
        repeat' split
        all_goals simp_all
        all_goals omega
    · rw [isC_out a 2 (by omega), isC_out a 3 (by omega)]
      generalize isC (a ++ b) 3 = c3
      generalize bt (a ++ b) 3 = v3
      generalize isC (a ++ b) 2 = c2
      generalize bt (a ++ b) 2 = v2
      unfold decK
      repeat' split
      all_goals simp_all
      all_goals omega
  · rw [isC_out a 1 (by omega), isC_out a 2 (by omega), isC_out a 3 (by omega)]
    generalize isC (a ++ b) 3 = c3
    generalize bt (a ++ b) 3 = v3
    generalize isC (a ++ b) 2 = c2
    generalize bt (a ++ b) 2 = v2
    generalize isC (a ++ b) 1 = c1
    generalize bt (a ++ b) 1 = v1
    unfold decK
    repeat' split
    all_goals simp_all
    all_goals omega
/-- The bytes of a rune that is longer than what stands ahead: each of them goes on. -/
theorem dec_wide (l : List UInt8) (k : Nat) (h0 : 1 ≤ k) (h : k < (dec l).2) : isC l k = true := by
  unfold dec decK at h
  split at h
  · simp at h; omega
  · split at h
    · rename_i h1
      simp at h1
      split at h
      · have : k = 1 := by simp at h; omega
        rw [this]; exact h1.2
      · simp at h; omega
    · split at h
      · rename_i h1
        simp at h1
        split at h
        · have : k = 1 ∨ k = 2 := by simp at h; omega
          rcases this with rfl | rfl
          · exact h1.1.2
          · exact h1.2
        · simp at h; omega
      · split at h
        · rename_i h1
          simp at h1
          split at h
          · have : k = 1 ∨ k = 2 ∨ k = 3 := by simp at h; omega
            rcases this with rfl | rfl | rfl
            · exact h1.1.1.2
            · exact h1.1.2
            · exact h1.2
          · simp at h; omega
        · simp at h; omega
/-- A byte that goes on is no rune. -/
theorem dec_cont (l : List UInt8) (h : bt l 0 / 64 = 2) : dec l = (0xFFFD, 1) := by
  unfold dec decK
  have a : ¬ bt l 0 < 128 := by omega
  have b : (bt l 0 / 32 == 6) = false := by simp; omega
  have c : (bt l 0 / 16 == 14) = false := by simp; omega
  have d : (bt l 0 / 8 == 30) = false := by simp; omega
  simp [a, b, c, d]
theorem dec_ascii (l : List UInt8) (h : bt l 0 < 128) : dec l = (bt l 0, 1) := by
  unfold dec decK
  rw [if_pos h]

/-- The runes of a text, each with its width. -/
def rsF : Nat → List UInt8 → List (Nat × Nat)
  | 0, _ => []
  | _ + 1, [] => []
  | n + 1, x :: l => dec (x :: l) :: rsF n ((x :: l).drop (dec (x :: l)).2)
def rs (l : List UInt8) : List (Nat × Nat) := rsF l.length l
theorem rsF_more : ∀ (n : Nat) (l : List UInt8), l.length ≤ n → rsF n l = rsF l.length l
  | 0, [], _ => rfl
  | n + 1, [], _ => rfl
  | n + 1, x :: l, h => by
    show dec (x :: l) :: rsF n _ = dec (x :: l) :: rsF l.length _
    have hp := (dec_pos (x :: l)).1
    have hl : ((x :: l).drop (dec (x :: l)).2).length ≤ l.length := by rw [List.length_drop, List.length_cons]; omega
    rw [rsF_more n _ (by rw [List.length_cons] at h; omega), rsF_more l.length _ hl]
theorem rs_nil : rs [] = [] := rfl
theorem rs_cons (l : List UInt8) (h : l ≠ []) : rs l = dec l :: rs (l.drop (dec l).2) := by
  cases l with
  | nil => exact absurd rfl h
  | cons x l =>
    have hp := (dec_pos (x :: l)).1
    have hl : ((x :: l).drop (dec (x :: l)).2).length ≤ l.length := by rw [List.length_drop, List.length_cons]; omega
    show dec (x :: l) :: rsF l.length _ = _
    rw [rsF_more l.length _ hl]
    rfl
/-- By the length of what is left. -/
theorem by_len {p : List UInt8 → Prop} (h : ∀ l, (∀ m : List UInt8, m.length < l.length → p m) → p l) (l : List UInt8) : p l := by
  have : ∀ n (l : List UInt8), l.length < n → p l := by
    intro n
    induction n with
    | zero => intro l hl; omega
    | succ n ih => intro l hl; exact h l fun m hm => ih m (by omega)
  exact this (l.length + 1) l (by omega)
theorem drop_less (l : List UInt8) (h : l ≠ []) : (l.drop (dec l).2).length < l.length := by
  have h0 : 0 < l.length := List.length_pos_iff.2 h
  have := (dec_pos l).1
  rw [List.length_drop]; omega
theorem rs_le (l : List UInt8) : (rs l).length ≤ l.length := by
  refine by_len (p := fun l => (rs l).length ≤ l.length) ?_ l
  intro l ih
  by_cases h : l = []
  · subst h; exact Nat.le_refl 0
  · rw [rs_cons l h, List.length_cons]
    have := ih _ (drop_less l h)
    have := drop_less l h
    omega
/-- Bytes that go on are so many runes. -/
theorem rs_conts : ∀ (c b : List UInt8), (∀ k, k < c.length → bt c k / 64 = 2) → rs (c ++ b) = c.map (fun _ => (0xFFFD, 1)) ++ rs b
  | [], b, _ => rfl
  | x :: c, b, h => by
    have h0 : bt (x :: c ++ b) 0 / 64 = 2 := h 0 (by simp)
    rw [rs_cons _ (by simp), dec_cont _ h0]
    show _ :: rs (c ++ b) = _
    rw [rs_conts c b fun k hk => h (k + 1) (by simp; omega)]
    rfl
theorem bt_drop (l : List UInt8) (i k : Nat) : bt (l.drop i) k = bt l (i + k) := by
  unfold bt
  rw [List.getD_eq_getElem?_getD, List.getD_eq_getElem?_getD, List.getElem?_drop]
theorem bt_take (l : List UInt8) (i k : Nat) (h : k < i) : bt (l.take i) k = bt l k := by
  unfold bt
  rw [List.getD_eq_getElem?_getD, List.getD_eq_getElem?_getD, List.getElem?_take, if_pos h]
theorem isC_bt {l : List UInt8} {k : Nat} (h : isC l k = true) : bt l k / 64 = 2 := by
  unfold isC at h
  simp at h
  exact h.2
/-- Of two texts together there are as many runes as of both, or fewer; if as many, they are both's. -/
theorem rs_app (b : List UInt8) (a : List UInt8) : rs (a ++ b) = rs a ++ rs b ∨ (rs (a ++ b)).length < (rs a).length + (rs b).length := by
  refine by_len (p := fun a => rs (a ++ b) = rs a ++ rs b ∨ (rs (a ++ b)).length < (rs a).length + (rs b).length) ?_ a
  intro a ih
  by_cases h : a = []
  · subst h; exact Or.inl rfl
  · have hab : a ++ b ≠ [] := by simp [h]
    rcases dec_app a b h with hd | ⟨he, hw⟩
    · have hle := dec_le a h
      have hdr : (a ++ b).drop (dec a).2 = a.drop (dec a).2 ++ b := List.drop_append_of_le_length hle
      rw [rs_cons _ hab, hd, hdr, rs_cons a h]
      rcases ih _ (drop_less a h) with h1 | h1
      · rw [h1]; exact Or.inl rfl
      · refine Or.inr ?_
        rw [List.length_cons, List.length_cons]; omega
    · refine Or.inr ?_
      have hle := dec_le _ hab
      have h0 : 0 < a.length := List.length_pos_iff.2 h
      rw [rs_cons _ hab, List.length_cons]
      generalize hW : (dec (a ++ b)).2 = W at hle hw ⊢
      have hal : (a ++ b).drop W = b.drop (W - a.length) := by
        rw [List.drop_append]
        simp [List.drop_eq_nil_of_le (Nat.le_of_lt hw)]
      have hbl : W - a.length ≤ b.length := by rw [List.length_append] at hle; omega
      have hb : rs b = (b.take (W - a.length)).map (fun _ => (0xFFFD, 1)) ++ rs (b.drop (W - a.length)) := by
        conv => lhs; rw [← List.take_append_drop (W - a.length) b]
        refine rs_conts _ _ fun k hk => ?_
        rw [List.length_take] at hk
        rw [bt_take _ _ _ (by omega)]
        have := isC_bt (dec_wide (a ++ b) (a.length + k) (by omega) (by omega))
        rw [← bt_drop] at this
        simpa using this
      have h1 : 1 ≤ (rs a).length := by rw [rs_cons a h, List.length_cons]; omega
      rw [hal, hb, List.length_append, List.length_map, List.length_take]
      omega
theorem rs_app_le (a b : List UInt8) : (rs (a ++ b)).length ≤ (rs a).length + (rs b).length := by
  rcases rs_app b a with h | h
  · rw [h, List.length_append]; exact Nat.le_refl _
  · omega
theorem rs_app_eq {a b : List UInt8} (h : (rs (a ++ b)).length = (rs a).length + (rs b).length) : rs (a ++ b) = rs a ++ rs b := by
  rcases rs_app b a with h1 | h1
  · exact h1
  · omega
/-- A byte that goes on nothing stands for itself. -/
theorem rs_ascii (a b : List UInt8) (h : bt b 0 / 64 ≠ 2) : rs (a ++ b) = rs a ++ rs b := by
  refine by_len (p := fun a => rs (a ++ b) = rs a ++ rs b) ?_ a
  intro a ih
  by_cases ha : a = []
  · subst ha; rfl
  · have hab : a ++ b ≠ [] := by simp [ha]
    rcases dec_app a b ha with hd | ⟨he, hw⟩
    · have hle := dec_le a ha
      have hdr : (a ++ b).drop (dec a).2 = a.drop (dec a).2 ++ b := List.drop_append_of_le_length hle
      rw [rs_cons _ hab, hd, hdr, rs_cons a ha, ih _ (drop_less a ha)]
      rfl
    · exfalso
      have h0 : 0 < a.length := List.length_pos_iff.2 ha
      have := isC_bt (dec_wide (a ++ b) a.length (by omega) hw)
      rw [show a.length = a.length + 0 from rfl, ← bt_drop] at this
      simp at this
      exact h this
end Go.Proofs.Ytafhekgfanpijaa.La
