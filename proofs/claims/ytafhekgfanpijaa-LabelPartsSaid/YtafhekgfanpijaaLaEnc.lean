/-
  Package label (chapter 1): runes as bytes; what is laid is found again; the first runes of a text.
-/
import Derived.Test.YtafhekgfanpijaaLaMath
set_option maxRecDepth 100000
namespace Go.Proofs.Ytafhekgfanpijaa.La
set_option linter.unusedVariables false
open Go.RowKit

theorem u8_nat (x : Nat) (h : x < 256) : (x.toUInt8).toNat = x := by
  rw [Nat.toUInt8_eq, UInt8.toNat_ofNat']
  omega
theorem u8_eq {x : Int} {b : UInt8} (h : x = (b.toNat : Int)) : x.toNat.toUInt8 = b := by
  have := b.toNat_lt
  apply UInt8.toNat_inj.1
  rw [h, Int.toNat_natCast, u8_nat _ (by omega)]
theorem enc1 {c : Nat} (h : c < 128) : Lib.encodeRune (c : Int) = [c.toUInt8] := by
  unfold Lib.encodeRune
  rw [Lib.encodeRuneZ_one (by omega) (by omega)]
  rfl
theorem enc2 {c : Nat} (h : 128 ≤ c) (h2 : c < 2048) : Lib.encodeRune (c : Int) = [(192 + c / 64).toUInt8, (128 + c % 64).toUInt8] := by
  unfold Lib.encodeRune
  rw [Lib.encodeRuneZ_two (by omega) (by omega)]
  simp only [List.map_cons, List.map_nil]
  rw [show (192 + (c : Int) / 64).toNat = 192 + c / 64 by omega, show (128 + (c : Int) % 64).toNat = 128 + c % 64 by omega]
theorem enc3 {c : Nat} (h : (2048 ≤ c ∧ c < 55296) ∨ (57343 < c ∧ c ≤ 65535)) : Lib.encodeRune (c : Int) = [(224 + c / 4096).toUInt8, (128 + c / 64 % 64).toUInt8, (128 + c % 64).toUInt8] := by
  unfold Lib.encodeRune
  rw [Lib.encodeRuneZ_three (by omega)]
  simp only [List.map_cons, List.map_nil]
  rw [show (224 + (c : Int) / 4096).toNat = 224 + c / 4096 by omega, show (128 + (c : Int) / 64 % 64).toNat = 128 + c / 64 % 64 by omega, show (128 + (c : Int) % 64).toNat = 128 + c % 64 by omega]
theorem enc4 {c : Nat} (h : 65536 ≤ c) (h2 : c ≤ 1114111) : Lib.encodeRune (c : Int) = [(240 + c / 262144).toUInt8, (128 + c / 4096 % 64).toUInt8, (128 + c / 64 % 64).toUInt8, (128 + c % 64).toUInt8] := by
  unfold Lib.encodeRune
  rw [Lib.encodeRuneZ_four (by omega) (by omega)]
  simp only [List.map_cons, List.map_nil]
  rw [show (240 + (c : Int) / 262144).toNat = 240 + c / 262144 by omega, show (128 + (c : Int) / 4096 % 64).toNat = 128 + c / 4096 % 64 by omega, show (128 + (c : Int) / 64 % 64).toNat = 128 + c / 64 % 64 by omega, show (128 + (c : Int) % 64).toNat = 128 + c % 64 by omega]
theorem valid_cases {c : Nat} (h : validRune (c : Int) = true) : c < 128 ∨ (128 ≤ c ∧ c < 2048) ∨ ((2048 ≤ c ∧ c < 55296) ∨ (57343 < c ∧ c ≤ 65535)) ∨ (65536 ≤ c ∧ c ≤ 1114111) := by
  unfold validRune at h
  rw [decide_eq_true_eq] at h
  omega
theorem enc_len {c : Nat} (h : validRune (c : Int) = true) : (Lib.encodeRune (c : Int)).length = if c < 128 then 1 else if c < 2048 then 2 else if c < 65536 then 3 else 4 := by
  rcases valid_cases h with h | h | h | h
  · rw [enc1 h, if_pos h]; rfl
  · rw [enc2 h.1 h.2, if_neg (by omega), if_pos h.2]; rfl
  · rw [enc3 h, if_neg (by omega), if_neg (by omega), if_pos (by omega)]; rfl
  · rw [enc4 h.1 h.2, if_neg (by omega), if_neg (by omega), if_neg (by omega)]; rfl
theorem bt_cons (x : UInt8) (l : List UInt8) (k : Nat) : bt (x :: l) (k + 1) = bt l k := by
  unfold bt
  rw [List.getD_cons_succ]
theorem bt_zero (x : UInt8) (l : List UInt8) : bt (x :: l) 0 = x.toNat := rfl
theorem isC_yes {l : List UInt8} {k : Nat} (h : k < l.length) (h2 : bt l k / 64 = 2) : isC l k = true := by
  show (decide (k < l.length) && (bt l k / 64 == 2)) = true
  rw [h2, decide_eq_true h]
  rfl
theorem dec_enc {c : Nat} (h : validRune (c : Int) = true) (r : List UInt8) : dec (Lib.encodeRune (c : Int) ++ r) = (c, (Lib.encodeRune (c : Int)).length) := by
  rcases valid_cases h with h1 | h1 | h1 | h1
  · rw [enc1 h1]
    have h0 : bt ([c.toUInt8] ++ r) 0 = c := u8_nat c (by omega)
    rw [dec_ascii _ (by rw [h0]; exact h1), h0]
    rfl
  · rw [enc2 h1.1 h1.2]
    have b0 : bt ([(192 + c / 64).toUInt8, (128 + c % 64).toUInt8] ++ r) 0 = 192 + c / 64 := u8_nat _ (by omega)
    have b1 : bt ([(192 + c / 64).toUInt8, (128 + c % 64).toUInt8] ++ r) 1 = 128 + c % 64 := u8_nat _ (by omega)
    have c1 := isC_yes (l := [(192 + c / 64).toUInt8, (128 + c % 64).toUInt8] ++ r) (k := 1) (by simp) (by rw [b1]; omega)
    unfold dec decK
    rw [b0, b1, c1, if_neg (by omega), if_pos (by simp; omega), if_pos (by omega)]
    refine Prod.ext ?_ rfl
    show _ = c
    omega
  · rw [enc3 h1]
    have b0 : bt ([(224 + c / 4096).toUInt8, (128 + c / 64 % 64).toUInt8, (128 + c % 64).toUInt8] ++ r) 0 = 224 + c / 4096 := u8_nat _ (by omega)
    have b1 : bt ([(224 + c / 4096).toUInt8, (128 + c / 64 % 64).toUInt8, (128 + c % 64).toUInt8] ++ r) 1 = 128 + c / 64 % 64 := u8_nat _ (by omega)
    have b2 : bt ([(224 + c / 4096).toUInt8, (128 + c / 64 % 64).toUInt8, (128 + c % 64).toUInt8] ++ r) 2 = 128 + c % 64 := u8_nat _ (by omega)
    have c1 := isC_yes (l := [(224 + c / 4096).toUInt8, (128 + c / 64 % 64).toUInt8, (128 + c % 64).toUInt8] ++ r) (k := 1) (by simp) (by rw [b1]; omega)
    have c2 := isC_yes (l := [(224 + c / 4096).toUInt8, (128 + c / 64 % 64).toUInt8, (128 + c % 64).toUInt8] ++ r) (k := 2) (by simp) (by rw [b2]; omega)
    unfold dec decK
    have e : (224 + c / 4096) % 16 * 4096 + (128 + c / 64 % 64) % 64 * 64 + (128 + c % 64) % 64 = c := by omega
    rw [b0, b1, b2, c1, c2, if_neg (by omega), if_neg (by simp; omega), if_pos (by simp; omega), e, if_pos (by simp [h]; omega)]
    rfl
  · rw [enc4 h1.1 h1.2]
    have b0 : bt ([(240 + c / 262144).toUInt8, (128 + c / 4096 % 64).toUInt8, (128 + c / 64 % 64).toUInt8, (128 + c % 64).toUInt8] ++ r) 0 = 240 + c / 262144 := u8_nat _ (by omega)
    have b1 : bt ([(240 + c / 262144).toUInt8, (128 + c / 4096 % 64).toUInt8, (128 + c / 64 % 64).toUInt8, (128 + c % 64).toUInt8] ++ r) 1 = 128 + c / 4096 % 64 := u8_nat _ (by omega)
    have b2 : bt ([(240 + c / 262144).toUInt8, (128 + c / 4096 % 64).toUInt8, (128 + c / 64 % 64).toUInt8, (128 + c % 64).toUInt8] ++ r) 2 = 128 + c / 64 % 64 := u8_nat _ (by omega)
    have b3 : bt ([(240 + c / 262144).toUInt8, (128 + c / 4096 % 64).toUInt8, (128 + c / 64 % 64).toUInt8, (128 + c % 64).toUInt8] ++ r) 3 = 128 + c % 64 := u8_nat _ (by omega)
    have c1 := isC_yes (l := [(240 + c / 262144).toUInt8, (128 + c / 4096 % 64).toUInt8, (128 + c / 64 % 64).toUInt8, (128 + c % 64).toUInt8] ++ r) (k := 1) (by simp) (by rw [b1]; omega)
    have c2 := isC_yes (l := [(240 + c / 262144).toUInt8, (128 + c / 4096 % 64).toUInt8, (128 + c / 64 % 64).toUInt8, (128 + c % 64).toUInt8] ++ r) (k := 2) (by simp) (by rw [b2]; omega)
    have c3 := isC_yes (l := [(240 + c / 262144).toUInt8, (128 + c / 4096 % 64).toUInt8, (128 + c / 64 % 64).toUInt8, (128 + c % 64).toUInt8] ++ r) (k := 3) (by simp) (by rw [b3]; omega)
    unfold dec decK
    have e : (240 + c / 262144) % 8 * 262144 + (128 + c / 4096 % 64) % 64 * 4096 + (128 + c / 64 % 64) % 64 * 64 + (128 + c % 64) % 64 = c := by omega
    rw [b0, b1, b2, b3, c1, c2, c3, if_neg (by omega), if_neg (by simp; omega), if_neg (by simp; omega), if_pos (by simp; omega), e, if_pos (by simp [h]; omega)]
    rfl
theorem take1 (l : List UInt8) (h : 0 < l.length) : l.take 1 = [l.getD 0 0] := by
  match l, h with
  | x :: _, _ => rfl
theorem take2 (l : List UInt8) (h : 1 < l.length) : l.take 2 = [l.getD 0 0, l.getD 1 0] := by
  match l, h with
  | _ :: _ :: _, _ => rfl
theorem take3 (l : List UInt8) (h : 2 < l.length) : l.take 3 = [l.getD 0 0, l.getD 1 0, l.getD 2 0] := by
  match l, h with
  | _ :: _ :: _ :: _, _ => rfl
theorem take4 (l : List UInt8) (h : 3 < l.length) : l.take 4 = [l.getD 0 0, l.getD 1 0, l.getD 2 0, l.getD 3 0] := by
  match l, h with
  | _ :: _ :: _ :: _ :: _, _ => rfl
theorem u8n_eq {x : Nat} {b : UInt8} (h : x = b.toNat) : x.toUInt8 = b := by
  have := b.toNat_lt
  apply UInt8.toNat_inj.1
  rw [h, u8_nat _ (by omega)]
theorem valid_dec (l : List UInt8) : validRune ((dec l).1 : Int) = true := by
  have h0 := bt_lt l 0
  have h1 := bt_lt l 1
  unfold dec decK
  split
  · unfold validRune; rw [decide_eq_true_eq]; simp only; omega
  · split
    · split
      · unfold validRune; rw [decide_eq_true_eq]; simp only; omega
      · rfl
    · split
      · split
        · rename_i h; simp at h; simpa using h.2
        · rfl
      · split
        · split
          · rename_i h; simp at h; simpa using h.2
          · rfl
        · rfl
/-- What is a rune is laid as it was. -/
theorem enc_dec (l : List UInt8) (h : l ≠ []) (hn : (dec l).1 ≠ 0xFFFD) : Lib.encodeRune ((dec l).1 : Int) = l.take (dec l).2 := by
  have hl : 0 < l.length := List.length_pos_iff.2 h
  have h0 := bt_lt l 0
  have h1 := bt_lt l 1
  have h2 := bt_lt l 2
  have h3 := bt_lt l 3
  have hv := valid_dec l
  unfold dec decK at hn hv ⊢
  split
  · rename_i ha
    rw [take1 l hl]
    simp only
    rw [enc1 ha, u8n_eq (show bt l 0 = (l.getD 0 0).toNat from rfl)]
  · rename_i ha
    rw [if_neg ha] at hn hv
    split
    · rename_i hb
      rw [if_pos hb] at hn hv
      simp at hb
      split
      · rename_i hc
        have e1 := isC_bt hb.2
        rw [take2 l (isC_lt hb.2)]
        simp only
        rw [enc2 (by omega) (by omega), u8n_eq (b := l.getD 0 0) (by unfold bt at *; omega), u8n_eq (b := l.getD 1 0) (by unfold bt at *; omega)]
      · rename_i hc
        rw [if_neg hc] at hn
        exact absurd rfl hn
    · rename_i hb
      rw [if_neg hb] at hn hv
      split
      · rename_i hd
        rw [if_pos hd] at hn hv
        simp at hd
        split
        · rename_i hc
          rw [if_pos hc] at hv
          simp only at hv
          simp at hc
          have e1 := isC_bt hd.1.2
          have e2 := isC_bt hd.2
          rw [take3 l (isC_lt hd.2)]
          simp only
          have hv2 := valid_cases hv
          rw [enc3 (by omega), u8n_eq (b := l.getD 0 0) (by unfold bt at *; omega), u8n_eq (b := l.getD 1 0) (by unfold bt at *; omega), u8n_eq (b := l.getD 2 0) (by unfold bt at *; omega)]
        · rename_i hc
          rw [if_neg hc] at hn
          exact absurd rfl hn
      · rename_i hd
        rw [if_neg hd] at hn hv
        split
        · rename_i hg
          rw [if_pos hg] at hn hv
          simp at hg
          split
          · rename_i hc
            rw [if_pos hc] at hv
            simp only at hv
            simp at hc
            have e1 := isC_bt hg.1.1.2
            have e2 := isC_bt hg.1.2
            have e3 := isC_bt hg.2
            rw [take4 l (isC_lt hg.2)]
            simp only
            have hv2 := valid_cases hv
            rw [enc4 (by omega) (by omega), u8n_eq (b := l.getD 0 0) (by unfold bt at *; omega), u8n_eq (b := l.getD 1 0) (by unfold bt at *; omega), u8n_eq (b := l.getD 2 0) (by unfold bt at *; omega), u8n_eq (b := l.getD 3 0) (by unfold bt at *; omega)]
          · rename_i hc
            rw [if_neg hc] at hn
            exact absurd rfl hn
        · rename_i hg
          rw [if_neg hg] at hn
          exact absurd rfl hn

/-- The runes alone. -/
def ru (l : List UInt8) : List Nat := (rs l).map (·.1)
theorem ru_len (l : List UInt8) : (ru l).length = (rs l).length := by unfold ru; rw [List.length_map]
theorem ru_cons (l : List UInt8) (h : l ≠ []) : ru l = (dec l).1 :: ru (l.drop (dec l).2) := by
  unfold ru
  rw [rs_cons l h, List.map_cons]
theorem ru_valid (l : List UInt8) : ∀ c ∈ ru l, validRune (c : Int) = true := by
  refine by_len (p := fun l => ∀ c ∈ ru l, validRune (c : Int) = true) ?_ l
  intro l ih
  by_cases h : l = []
  · subst h; intro c hc; cases hc
  · rw [ru_cons l h]
    intro c hc
    rcases List.mem_cons.1 hc with rfl | hc
    · exact valid_dec l
    · exact ih _ (drop_less l h) c hc
/-- Runes as bytes. -/
def enc : List Nat → List UInt8
  | [] => []
  | c :: q => Lib.encodeRune (c : Int) ++ enc q
theorem enc_app : ∀ p q : List Nat, enc (p ++ q) = enc p ++ enc q
  | [], _ => rfl
  | c :: p, q => by
    show _ ++ enc (p ++ q) = (_ ++ enc p) ++ enc q
    rw [enc_app p q, List.append_assoc]
theorem encR_ne (c : Nat) : Lib.encodeRune (c : Int) ≠ [] := by
  have h := (Lib.encodeRuneZ_length (c : Int)).1
  intro e
  have : (Lib.encodeRune (c : Int)).length = 0 := by rw [e]; rfl
  unfold Lib.encodeRune at this
  rw [List.length_map] at this
  omega
theorem rs_enc : ∀ q : List Nat, (∀ c ∈ q, validRune (c : Int) = true) → rs (enc q) = q.map (fun (c : Nat) => (c, (Lib.encodeRune (c : Int)).length))
  | [], _ => rfl
  | c :: q, h => by
    have hc := h c (List.mem_cons_self ..)
    have hne : Lib.encodeRune (c : Int) ++ enc q ≠ [] := by simp [encR_ne c]
    show rs (Lib.encodeRune (c : Int) ++ enc q) = _
    rw [rs_cons _ hne, dec_enc hc]
    show _ :: rs (List.drop _ (_ ++ enc q)) = _
    rw [List.drop_left, rs_enc q fun x hx => h x (List.mem_cons_of_mem _ hx)]
    rfl
theorem ru_enc (q : List Nat) (h : ∀ c ∈ q, validRune (c : Int) = true) : ru (enc q) = q := by
  unfold ru
  rw [rs_enc q h, List.map_map]
  exact List.map_id' _
theorem enc_ru (l : List UInt8) (h : ∀ c ∈ ru l, c ≠ 0xFFFD) : enc (ru l) = l := by
  revert h
  refine by_len (p := fun l => (∀ c ∈ ru l, c ≠ 0xFFFD) → enc (ru l) = l) ?_ l
  intro l ih hl
  by_cases h : l = []
  · subst h; rfl
  · rw [ru_cons l h] at hl ⊢
    show Lib.encodeRune _ ++ enc _ = l
    rw [enc_dec l h (hl _ (List.mem_cons_self ..)), ih _ (drop_less l h) fun c hc => hl c (List.mem_cons_of_mem _ hc)]
    exact List.take_append_drop _ _

/-- How many bytes the first n runes have. -/
def wid (l : List UInt8) (n : Nat) : Nat := (((rs l).take n).map (·.2)).sum
theorem wid_zero (l : List UInt8) : wid l 0 = 0 := rfl
theorem wid_succ (l : List UInt8) (n : Nat) (h : l ≠ []) : wid l (n + 1) = (dec l).2 + wid (l.drop (dec l).2) n := by
  unfold wid
  rw [rs_cons l h, List.take_succ_cons, List.map_cons, List.sum_cons]
theorem wid_nil (n : Nat) : wid [] n = 0 := by
  unfold wid
  rw [rs_nil, List.take_nil]
  rfl
theorem wid_le : ∀ (n : Nat) (l : List UInt8), wid l n ≤ l.length
  | 0, _ => Nat.zero_le _
  | n + 1, l => by
    by_cases h : l = []
    · subst h; rw [wid_nil]; exact Nat.zero_le _
    · rw [wid_succ l n h]
      have h1 := wid_le n (l.drop (dec l).2)
      have h2 := dec_le l h
      rw [List.length_drop] at h1
      omega
theorem rs_drop : ∀ (n : Nat) (l : List UInt8), rs (l.drop (wid l n)) = (rs l).drop n
  | 0, _ => rfl
  | n + 1, l => by
    by_cases h : l = []
    · subst h; rw [wid_nil, rs_nil, List.drop_nil, List.drop_nil]; rfl
    · rw [wid_succ l n h, ← List.drop_drop, rs_drop n, rs_cons l h, List.drop_succ_cons]
theorem dec_take (l : List UInt8) (m : Nat) (h : l ≠ []) (hm : (dec l).2 ≤ m) : dec (l.take m) = dec l := by
  have hp := (dec_pos l).1
  have hl : 0 < l.length := List.length_pos_iff.2 h
  have hle := dec_le l h
  have hne : l.take m ≠ [] := by
    intro e
    have : (l.take m).length = 0 := by rw [e]; rfl
    rw [List.length_take] at this
    omega
  rcases dec_app (l.take m) (l.drop m) hne with h1 | ⟨_, h1⟩
  · rw [List.take_append_drop] at h1
    exact h1.symm
  · rw [List.take_append_drop, List.length_take] at h1
    omega
theorem rs_take : ∀ (n : Nat) (l : List UInt8), rs (l.take (wid l n)) = (rs l).take n
  | 0, _ => rfl
  | n + 1, l => by
    by_cases h : l = []
    · subst h; rw [wid_nil, rs_nil, List.take_nil, List.take_nil]; rfl
    · have hle := dec_le l h
      have hp := (dec_pos l).1
      have hl : 0 < l.length := List.length_pos_iff.2 h
      rw [wid_succ l n h]
      have hne : l.take ((dec l).2 + wid (l.drop (dec l).2) n) ≠ [] := by
        intro e
        have : (l.take ((dec l).2 + wid (l.drop (dec l).2) n)).length = 0 := by rw [e]; rfl
        rw [List.length_take] at this
        omega
      rw [rs_cons _ hne, dec_take l _ h (by omega), rs_cons l h, List.take_succ_cons, List.drop_take, show (dec l).2 + wid (l.drop (dec l).2) n - (dec l).2 = wid (l.drop (dec l).2) n by omega, rs_take n]
theorem wid_all (l : List UInt8) : wid l (rs l).length = l.length := by
  have h1 := wid_le (rs l).length l
  have h2 := rs_drop (rs l).length l
  rw [List.drop_length] at h2
  by_cases h : l.drop (wid l (rs l).length) = []
  · have : (l.drop (wid l (rs l).length)).length = 0 := by rw [h]; rfl
    rw [List.length_drop] at this
    omega
  · rw [rs_cons _ h] at h2
    cases h2
theorem wid_big (l : List UInt8) (n : Nat) (h : (rs l).length ≤ n) : wid l n = l.length := by
  rw [← wid_all l]
  unfold wid
  rw [List.take_of_length_le h, List.take_length]
theorem wid_lt (l : List UInt8) (n : Nat) (h : wid l n < l.length) : n < (rs l).length := by
  by_cases h1 : n < (rs l).length
  · exact h1
  · rw [wid_big l n (by omega)] at h
    omega
/-- At each place the next rune. -/
theorem wid_next (l : List UInt8) (n : Nat) (h : wid l n < l.length) : wid l (n + 1) = wid l n + (dec (l.drop (wid l n))).2 ∧ (ru l)[n]? = some (dec (l.drop (wid l n))).1 := by
  have hn := wid_lt l n h
  have hne : l.drop (wid l n) ≠ [] := by
    intro e
    have : (l.drop (wid l n)).length = 0 := by rw [e]; rfl
    rw [List.length_drop] at this
    omega
  have h2 := rs_drop n l
  rw [rs_cons _ hne, List.drop_eq_getElem_cons hn] at h2
  have h3 : (rs l)[n] = dec (l.drop (wid l n)) := by injection h2 with h2 _; exact h2.symm
  refine ⟨?_, ?_⟩
  · unfold wid
    rw [List.take_add_one, List.getElem?_eq_getElem hn, List.map_append, List.sum_append]
    unfold wid at h3
    rw [h3]
    simp
  · unfold ru
    rw [List.getElem?_map, List.getElem?_eq_getElem hn, h3]
    rfl
end Go.Proofs.Ytafhekgfanpijaa.La
