/-
  Package bits: a writer that stands at whole bytes: its bytes as a list; numbers of whole bytes, texts put there.
-/
import Derived.Test.YtlmbkgcclanpmaaBfLaws
import Derived.Deep.Cut
import Derived.Deep.CutRange
set_option maxRecDepth 100000
namespace Go.Proofs.Ytlmbkgcclanpmaa.Bf
set_option linter.unusedVariables false
open Go.RowKit Lb Go.Shelf

/-- N's lowest k bytes, the highest first. -/
def bytesK (N k : Nat) : List Int := (List.range k).map fun t => (((N >>> (8 * (k - 1 - t))) % 256 : Nat) : Int)
theorem bytesK_len (N k : Nat) : (bytesK N k).length = k := by simp [bytesK]
theorem bytesK_at (N k t : Nat) (h : t < k) : (bytesK N k).getD t 0 = (((N >>> (8 * (k - 1 - t))) % 256 : Nat) : Int) := by
  simp [bytesK, List.getD, h]
theorem bytesK_one (N : Nat) (h : N < 256) : bytesK N 1 = [(N : Int)] := by
  simp [bytesK, Nat.mod_eq_of_lt h]
/-- A writer at whole bytes: its bytes. -/
def Wb (w : World) (base b : Nat) (l : List Int) (v : Value) : Prop := ∃ Z B, Wr w base b (8 * l.length) l.length Z B v ∧ ∀ k, k < l.length → (Z k : Int) = l.getD k 0
theorem Wb.below {w w' : World} {base b : Nat} {l : List Int} {v : Value} (h : Wb w base b l v) (j : Below w.heap.size w w') : Wb w' base b l v := by
  obtain ⟨Z, B, h1, h2⟩ := h
  exact ⟨Z, B, h1.below j, h2⟩
theorem getD_app {l m : List Int} {k : Nat} : (l ++ m).getD k 0 = if k < l.length then l.getD k 0 else m.getD (k - l.length) 0 := by
  rw [List.getD_eq_getElem?_getD, List.getElem?_append]
  split <;> rw [List.getD_eq_getElem?_getD]
theorem str_put {n n' N k : Nat} {Z Z' : Nat → Nat} {B : Nat → Bool} (h : Str n (8 * n) Z B) (h' : Str n' (8 * n + 8 * k) Z' (app B (8 * n) N (8 * k))) (hn : n' = n + k) :
    (∀ q, q < n → Z' q = Z q) ∧ ∀ t, t < k → Z' (n + t) = (N >>> (8 * (k - 1 - t))) % 256 := by
  subst hn
  constructor
  · intro q hq
    refine eq_byte (h'.lt q (by omega)) (h.lt q hq) (fun i hi => ?_)
    rw [h'.bit q (by omega) i hi, h.bit q hq i hi]
    unfold app
    rw [if_pos (by omega)]
    simp [show 8 * q + i < 8 * n + 8 * k by omega, show 8 * q + i < 8 * n by omega]
  · intro t ht
    refine eq_byte (h'.lt _ (by omega)) (Nat.mod_lt _ (by decide)) (fun i hi => ?_)
    rw [h'.bit _ (by omega) i hi]
    unfold app
    rw [if_neg (by omega), show (256 : Nat) = 2 ^ 8 from rfl, Nat.testBit_mod_two_pow, Nat.testBit_shiftRight]
    simp only [show 8 * (n + t) + i < 8 * n + 8 * k by omega, show 7 - i < 8 by omega, decide_true, Bool.true_and]
    congr 1
    omega
theorem putk_any (base b : Nat) (l : List Int) (v : Value) (N k : Nat) (w : World) (h : Wb w base b l v) (hN : N < 18446744073709551616) (hk : k ≤ 8) (hl : l.length ≤ 100000) :
    Calls Try.prog 24 #[.pointer (some ⟨b, 0, none⟩), .int .u64 (N : Nat), .int .i64 ((8 * k : Nat) : Int)] w fun r w' => r = .returned (.tuple #[]) ∧ ∃ v', Wb w' base b (l ++ bytesK N k) v' ∧ Below base w w' ∧ Lone w w' b v v' := by
  obtain ⟨Z, B, h1, h2⟩ := h
  refine (put_any base b (8 * l.length) l.length Z B v N (8 * k) w h1 hN (by omega) (by omega)).mono ?_
  rintro r w' ⟨rfl, n', Z', v', h3, b3, l3⟩
  have hn : n' = l.length + k := by have := h3.le; have := h3.lt; omega
  obtain ⟨p1, p2⟩ := str_put h1.str h3.str hn
  have hlen : (l ++ bytesK N k).length = l.length + k := by rw [List.length_append, bytesK_len]
  refine ⟨rfl, v', ⟨Z', app B (8 * l.length) N (8 * k), ?_, fun q hq => ?_⟩, b3, l3⟩
  · rw [hlen, ← hn, show 8 * n' = 8 * l.length + 8 * k by omega]
    exact h3
  · rw [hlen] at hq
    rw [getD_app]
    by_cases e : q < l.length
    · rw [if_pos e, p1 q e, h2 q e]
    · rw [if_neg e, bytesK_at _ _ _ (by omega), ← p2 (q - l.length) (by omega), show l.length + (q - l.length) = q by omega]
theorem str_text {n m : Nat} {Z : Nat → Nat} {B : Nat → Bool} {Y : Nat → Nat} (h : Str n (8 * n) Z B) (hY : ∀ k, k < m → Y k < 256) :
    Str (n + m) (8 * n + 8 * m) (fun k => if k < n then Z k else Y (k - n)) (fun p => if p < 8 * n then B p else (Y (p / 8 - n)).testBit (7 - p % 8)) where
  lt k hk := by
    by_cases e : k < n
    · rw [if_pos e]; exact h.lt k e
    · rw [if_neg e]; exact hY _ (by omega)
  bit k hk i hi := by
    by_cases e : k < n
    · rw [if_pos e, h.bit k e i hi, if_pos (by omega)]
      simp [show 8 * k + i < 8 * n by omega, show 8 * k + i < 8 * n + 8 * m by omega]
    · rw [if_neg e, if_neg (by omega), show (8 * k + i) / 8 = k by omega, show (8 * k + i) % 8 = i by omega]
      simp [show 8 * k + i < 8 * n + 8 * m by omega]
theorem row_ext {w : World} {a : Option Addr} {n : Nat} {V U : Nat → Value} (h : Row w a n V) (hv : ∀ i, i < n → V i = U i) : Row w a n U := by
  intro hn
  obtain ⟨b, off, h1, h2, h3⟩ := h hn
  exact ⟨b, off, h1, h2, fun i hi => by rw [h3 i hi, hv i hi]⟩
end Go.Proofs.Ytlmbkgcclanpmaa.Bf
