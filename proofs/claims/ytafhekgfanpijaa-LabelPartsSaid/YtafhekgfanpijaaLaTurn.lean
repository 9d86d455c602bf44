/-
  Package label (chapter 1): Turn: its runes are the text's, from the last one.
-/
import Derived.Test.YtafhekgfanpijaaLaMore
import Derived.Test.YtafhekgfanpijaaBlk
import Derived.Test.YtafhekgfanpijaaOwn
import Derived.WalkKit
import Derived.BigCall
set_option maxRecDepth 100000
namespace Go.Proofs.Ytafhekgfanpijaa.La
set_option linter.unusedVariables false
open Go.RowKit Lb Go.Shelf
set_option linter.unusedVariables false

theorem enc_one (r : Int) (h0 : 0 ≤ r) (h1 : r ≤ 127) (g off m cap T : Nat) (V : Nat → Value) (w : World) (hB : Blk w g 5 T V) (ho : off + 1 ≤ T) (hm : 1 ≤ m) :
    Calls Try.prog 30 #[.slice (some ⟨g, off, none⟩) m cap, .int .i32 r] w fun e w' => e = .returned (.int .i64 1) ∧ w' = (w.setCell ⟨g, off, none⟩ (.int .u8 (r))) := by
  have c0 := hB.cell (i := off) (by omega)
  have f0 := hB.free (off)
  clear hB
  go_enter Try.func30, Try.ntmps30
  go_wp2_with fail
  go_ret
  exact ⟨rfl, rfl⟩
theorem enc_two (r : Int) (h0 : 128 ≤ r) (h1 : r ≤ 2047) (g off m cap T : Nat) (V : Nat → Value) (w : World) (hB : Blk w g 5 T V) (ho : off + 2 ≤ T) (hm : 2 ≤ m) :
    Calls Try.prog 34 #[.slice (some ⟨g, off, none⟩) m cap, .int .i32 r] w fun e w' => e = .returned (.int .i64 2) ∧ w' = ((w.setCell ⟨g, off, none⟩ (.int .u8 (192 + r / 64))).setCell ⟨g, off + 1, none⟩ (.int .u8 (128 + r % 64))) := by
  have c0 := hB.cell (i := off) (by omega)
  have f0 := hB.free (off)
  have c1 := hB.cell (i := off + 1) (by omega)
  have f1 := hB.free (off + 1)
  clear hB
  go_enter Try.func34, Try.ntmps34
  go_wp2_with fail
  go_ret
  exact ⟨rfl, rfl⟩
theorem enc_three_lo (r : Int) (h0 : 2048 ≤ r) (h1 : r < 55296) (g off m cap T : Nat) (V : Nat → Value) (w : World) (hB : Blk w g 5 T V) (ho : off + 3 ≤ T) (hm : 3 ≤ m) :
    Calls Try.prog 34 #[.slice (some ⟨g, off, none⟩) m cap, .int .i32 r] w fun e w' => e = .returned (.int .i64 3) ∧ w' = (((w.setCell ⟨g, off, none⟩ (.int .u8 (224 + r / 4096))).setCell ⟨g, off + 1, none⟩ (.int .u8 (128 + r / 64 % 64))).setCell ⟨g, off + 2, none⟩ (.int .u8 (128 + r % 64))) := by
  have c0 := hB.cell (i := off) (by omega)
  have f0 := hB.free (off)
  have c1 := hB.cell (i := off + 1) (by omega)
  have f1 := hB.free (off + 1)
  have c2 := hB.cell (i := off + 2) (by omega)
  have f2 := hB.free (off + 2)
  clear hB
  go_enter Try.func34, Try.ntmps34
  go_wp2_with fail
  go_ret
  exact ⟨rfl, rfl⟩
theorem enc_three_hi (r : Int) (h0 : 57343 < r) (h1 : r ≤ 65535) (g off m cap T : Nat) (V : Nat → Value) (w : World) (hB : Blk w g 5 T V) (ho : off + 3 ≤ T) (hm : 3 ≤ m) :
    Calls Try.prog 34 #[.slice (some ⟨g, off, none⟩) m cap, .int .i32 r] w fun e w' => e = .returned (.int .i64 3) ∧ w' = (((w.setCell ⟨g, off, none⟩ (.int .u8 (224 + r / 4096))).setCell ⟨g, off + 1, none⟩ (.int .u8 (128 + r / 64 % 64))).setCell ⟨g, off + 2, none⟩ (.int .u8 (128 + r % 64))) := by
  have c0 := hB.cell (i := off) (by omega)
  have f0 := hB.free (off)
  have c1 := hB.cell (i := off + 1) (by omega)
  have f1 := hB.free (off + 1)
  have c2 := hB.cell (i := off + 2) (by omega)
  have f2 := hB.free (off + 2)
  clear hB
  go_enter Try.func34, Try.ntmps34
  go_wp2_with fail
  go_ret
  exact ⟨rfl, rfl⟩
theorem enc_four (r : Int) (h0 : 65536 ≤ r) (h1 : r ≤ 1114111) (g off m cap T : Nat) (V : Nat → Value) (w : World) (hB : Blk w g 5 T V) (ho : off + 4 ≤ T) (hm : 4 ≤ m) :
    Calls Try.prog 34 #[.slice (some ⟨g, off, none⟩) m cap, .int .i32 r] w fun e w' => e = .returned (.int .i64 4) ∧ w' = ((((w.setCell ⟨g, off, none⟩ (.int .u8 (240 + r / 262144))).setCell ⟨g, off + 1, none⟩ (.int .u8 (128 + r / 4096 % 64))).setCell ⟨g, off + 2, none⟩ (.int .u8 (128 + r / 64 % 64))).setCell ⟨g, off + 3, none⟩ (.int .u8 (128 + r % 64))) := by
  have c0 := hB.cell (i := off) (by omega)
  have f0 := hB.free (off)
  have c1 := hB.cell (i := off + 1) (by omega)
  have f1 := hB.free (off + 1)
  have c2 := hB.cell (i := off + 2) (by omega)
  have f2 := hB.free (off + 2)
  have c3 := hB.cell (i := off + 3) (by omega)
  have f3 := hB.free (off + 3)
  clear hB
  go_enter Try.func34, Try.ntmps34
  go_wp2_with fail
  go_ret
  exact ⟨rfl, rfl⟩
def bv (l : List UInt8) (i : Nat) : Value := .int .u8 (bt l i)
theorem bv_cons {x : Nat} (h : x < 256) (l : List UInt8) : bv (x.toUInt8 :: l) 0 = .int .u8 x := by
  unfold bv
  rw [bt_zero, u8_nat x h]
theorem bv_succ (x : UInt8) (l : List UInt8) (i : Nat) : bv (x :: l) (i + 1) = bv l i := by
  unfold bv
  rw [bt_cons]
/-- What EncodeRune does. -/
theorem encodeRune_any (c : Nat) (hv : validRune (c : Int) = true) (g off m cap T : Nat) (V : Nat → Value) (w : World) (hB : Blk w g 5 T V) (ho : off + (Lib.encodeRune (c : Int)).length ≤ T) (hm : (Lib.encodeRune (c : Int)).length ≤ m) :
    Calls Try.prog 30 #[.slice (some ⟨g, off, none⟩) m cap, .int .i32 c] w fun e w' => (∃ k, e = .returned (.int .i64 k)) ∧ Blk w' g 5 T (fun i => if off ≤ i ∧ i < off + (Lib.encodeRune (c : Int)).length then bv (Lib.encodeRune (c : Int)) (i - off) else V i) ∧ Just g w w' := by
  rcases valid_cases hv with h | h | h | h
  · have el := enc1 h
    rw [el] at ho hm ⊢
    refine (enc_one (c : Int) (by omega) (by omega) g off m cap T V w hB ho hm).mono ?_
    rintro e w' ⟨rfl, rfl⟩
    refine ⟨⟨_, rfl⟩, Blk.ext (hB.put off _) (fun i hi => ?_), (Just.refl g w).put off _⟩
    show _ = if off ≤ i ∧ i < off + 1 then bv [c.toUInt8] (i - off) else V i
    by_cases h1 : i = off
    · rw [if_pos h1, if_pos (by omega), show i - off = 0 by omega, bv_cons (by omega)]
    · rw [if_neg h1, if_neg (by omega)]
  · have el := enc2 h.1 h.2
    rw [el] at ho hm ⊢
    have ne : decide ((c : Int) ≤ 127) = false := by simp; omega
    go_enter Try.func30, Try.ntmps30
    go_wp2_with (go_at_call 34; refine (enc_two (c : Int) (by omega) (by omega) g off m cap T V w hB ho hm).mono ?_)
    rintro e w' ⟨rfl, rfl⟩
    go_wp2_with fail
    go_ret
    refine ⟨⟨_, rfl⟩, Blk.ext ((hB.put off _).put (off + 1) _) (fun i hi => ?_), ((Just.refl g w).put off _).put (off + 1) _⟩
    show _ = if off ≤ i ∧ i < off + 2 then bv [(192 + c / 64).toUInt8, (128 + c % 64).toUInt8] (i - off) else V i
    by_cases h1 : i = off + 1
    · rw [if_pos h1, if_pos (by omega), show i - off = 0 + 1 by omega, bv_succ, bv_cons (by omega)]
      simp
    · rw [if_neg h1]
      by_cases h0 : i = off
      · rw [if_pos h0, if_pos (by omega), show i - off = 0 by omega, bv_cons (by omega)]
        simp
      · rw [if_neg h0, if_neg (by omega)]
  · have el := enc3 h
    rw [el] at ho hm ⊢
    have ne : decide ((c : Int) ≤ 127) = false := by simp; omega
    have fin : ∀ w' : World, w' = (((w.setCell ⟨g, off, none⟩ (.int .u8 (224 + (c : Int) / 4096))).setCell ⟨g, off + 1, none⟩ (.int .u8 (128 + (c : Int) / 64 % 64))).setCell ⟨g, off + 2, none⟩ (.int .u8 (128 + (c : Int) % 64))) → Blk w' g 5 T (fun i => if off ≤ i ∧ i < off + 3 then bv [(224 + c / 4096).toUInt8, (128 + c / 64 % 64).toUInt8, (128 + c % 64).toUInt8] (i - off) else V i) ∧ Just g w w' := by
      rintro w' rfl
      refine ⟨Blk.ext (((hB.put off _).put (off + 1) _).put (off + 2) _) (fun i hi => ?_), (((Just.refl g w).put off _).put (off + 1) _).put (off + 2) _⟩
      by_cases h2 : i = off + 2
      · rw [if_pos h2, if_pos (by omega), show i - off = 0 + 1 + 1 by omega, bv_succ, bv_succ, bv_cons (by omega)]
        simp
      · rw [if_neg h2]
        by_cases h1 : i = off + 1
        · rw [if_pos h1, if_pos (by omega), show i - off = 0 + 1 by omega, bv_succ, bv_cons (by omega)]
          simp
        · rw [if_neg h1]
          by_cases h0 : i = off
          · rw [if_pos h0, if_pos (by omega), show i - off = 0 by omega, bv_cons (by omega)]
            simp
          · rw [if_neg h0, if_neg (by omega)]
    rcases h with h | h
    · go_enter Try.func30, Try.ntmps30
      go_wp2_with (go_at_call 34; refine (enc_three_lo (c : Int) (by omega) (by omega) g off m cap T V w hB ho hm).mono ?_)
      rintro e w' ⟨rfl, hw⟩
      have hf := fin w' hw
      clear hw
      go_wp2_with fail
      go_ret
      exact ⟨⟨_, rfl⟩, hf⟩
    · go_enter Try.func30, Try.ntmps30
      go_wp2_with (go_at_call 34; refine (enc_three_hi (c : Int) (by omega) (by omega) g off m cap T V w hB ho hm).mono ?_)
      rintro e w' ⟨rfl, hw⟩
      have hf := fin w' hw
      clear hw
      go_wp2_with fail
      go_ret
      exact ⟨⟨_, rfl⟩, hf⟩
  · have el := enc4 h.1 h.2
    rw [el] at ho hm ⊢
    have ne : decide ((c : Int) ≤ 127) = false := by simp; omega
    go_enter Try.func30, Try.ntmps30
    go_wp2_with (go_at_call 34; refine (enc_four (c : Int) (by omega) (by omega) g off m cap T V w hB ho hm).mono ?_)
    rintro e w' ⟨rfl, rfl⟩
    go_wp2_with fail
    go_ret
    refine ⟨⟨_, rfl⟩, Blk.ext ((((hB.put off _).put (off + 1) _).put (off + 2) _).put (off + 3) _) (fun i hi => ?_), ((((Just.refl g w).put off _).put (off + 1) _).put (off + 2) _).put (off + 3) _⟩
    show _ = if off ≤ i ∧ i < off + 4 then bv [(240 + c / 262144).toUInt8, (128 + c / 4096 % 64).toUInt8, (128 + c / 64 % 64).toUInt8, (128 + c % 64).toUInt8] (i - off) else V i
    by_cases h3 : i = off + 3
    · rw [if_pos h3, if_pos (by omega), show i - off = 0 + 1 + 1 + 1 by omega, bv_succ, bv_succ, bv_succ, bv_cons (by omega)]
      simp
    · rw [if_neg h3]
      by_cases h2 : i = off + 2
      · rw [if_pos h2, if_pos (by omega), show i - off = 0 + 1 + 1 by omega, bv_succ, bv_succ, bv_cons (by omega)]
        simp
      · rw [if_neg h2]
        by_cases h1 : i = off + 1
        · rw [if_pos h1, if_pos (by omega), show i - off = 0 + 1 by omega, bv_succ, bv_cons (by omega)]
          simp
        · rw [if_neg h1]
          by_cases h0 : i = off
          · rw [if_pos h0, if_pos (by omega), show i - off = 0 by omega, bv_cons (by omega)]
            simp
          · rw [if_neg h0, if_neg (by omega)]
end Go.Proofs.Ytafhekgfanpijaa.La
