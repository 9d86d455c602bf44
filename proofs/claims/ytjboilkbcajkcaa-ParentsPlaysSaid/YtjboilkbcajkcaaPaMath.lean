/-
  Package parents (chapter 14): rows of whom a node may follow, as lists; who is ahead of whom.
-/
import Derived.Test.YtjboilkbcajkcaaParIns
set_option maxRecDepth 100000
namespace Go.Proofs.Ytjboilkbcajkcaa.Pa
set_option linter.unusedVariables false
open Go.RowKit Lb

structure P where
  n : Int
  r : Int
  h : Int
instance : Inhabited P := ⟨⟨0, 0, 0⟩⟩
def P.vals (x : P) : Array Value := #[.int .i64 x.n, .int .i64 x.r, .int .i64 x.h]
def at_ (l : List P) (k : Nat) : P := l.getD k default
def pv (l : List P) (q : Nat) : Value := ((at_ l (q / 3)).vals[q % 3]?).getD undef
theorem pv_at (l : List P) (k : Nat) : pv l (k * 3) = .int .i64 (at_ l k).n ∧ pv l (k * 3 + 1) = .int .i64 (at_ l k).r ∧ pv l (k * 3 + 2) = .int .i64 (at_ l k).h := by
  unfold pv
  refine ⟨?_, ?_, ?_⟩
  · rw [show k * 3 / 3 = k by omega, show k * 3 % 3 = 0 by omega]; rfl
  · rw [show (k * 3 + 1) / 3 = k by omega, show (k * 3 + 1) % 3 = 1 by omega]; rfl
  · rw [show (k * 3 + 2) / 3 = k by omega, show (k * 3 + 2) % 3 = 2 by omega]; rfl
theorem pv_one (l : List P) (q : Nat) : (pv l q).oneCell' = true := by
  unfold pv
  rcases (show q % 3 = 0 ∨ q % 3 = 1 ∨ q % 3 = 2 by omega) with e | e | e <;> rw [e] <;> rfl
theorem prow {w w' : World} {a : Option Addr} {n k : Nat} {l : List P} (h : Row w a (n * 3) (pv l)) (hb : Below w.heap.size w w') (hk : k < n) :
    ∃ b off, a = some ⟨b, off, none⟩ ∧ b < w.heap.size ∧ w'.cell? ⟨b, off + k * 3, none⟩ = some (.int .i64 (at_ l k).n) ∧ w'.cell? ⟨b, off + k * 3 + 1, none⟩ = some (.int .i64 (at_ l k).r) ∧ w'.cell? ⟨b, off + k * 3 + 2, none⟩ = some (.int .i64 (at_ l k).h) := by
  obtain ⟨b, off, h1, h2, h3⟩ := h.at_struct hb hk (by decide)
  obtain ⟨e0, e1, e2⟩ := pv_at l k
  exact ⟨b, off, h1, h2, (h3 0 (by decide)).trans (congrArg some e0), (h3 1 (by decide)).trans (congrArg some e1), (h3 2 (by decide)).trans (congrArg some e2)⟩
theorem at_mem {l : List P} {k : Nat} (h : k < l.length) : at_ l k ∈ l := by
  unfold at_
  rw [List.getD_eq_getElem?_getD, List.getElem?_eq_getElem h]
  exact List.getElem_mem h
theorem mem_at {l : List P} {x : P} (h : x ∈ l) : ∃ k, k < l.length ∧ at_ l k = x := by
  obtain ⟨k, hk, e⟩ := List.getElem_of_mem h
  refine ⟨k, hk, ?_⟩
  unfold at_
  rw [List.getD_eq_getElem?_getD, List.getElem?_eq_getElem hk]
  exact e
def ins (l : List P) (i : Nat) (x : P) : List P := l.take i ++ x :: l.drop i
theorem ins_len {l : List P} {i : Nat} (x : P) (h : i ≤ l.length) : (ins l i x).length = l.length + 1 := by
  unfold ins
  simp
  omega
theorem at_ins {l : List P} {i : Nat} (x : P) (h : i ≤ l.length) (k : Nat) : at_ (ins l i x) k = if k < i then at_ l k else if k = i then x else at_ l (k - 1) := by
  unfold at_ ins
  simp only [List.getD_eq_getElem?_getD]
  by_cases h1 : k < i
  · rw [if_pos h1, List.getElem?_append_left (by simp; omega), List.getElem?_take, if_pos h1]
  · have hl : (l.take i).length = i := by simp; omega
    rw [if_neg h1, List.getElem?_append_right (by omega), hl]
    by_cases h2 : k = i
    · subst h2
      simp
    · rw [if_neg h2, show k - i = (k - i - 1) + 1 by omega, List.getElem?_cons_succ, List.getElem?_drop, show i + (k - i - 1) = k - 1 by omega]
theorem pv_ins {l : List P} {i : Nat} (x : P) (h : i ≤ l.length) (q : Nat) : insK 3 i (pv l) (pv [x]) q = pv (ins l i x) q := by
  unfold insK pv
  rw [at_ins x h]
  by_cases h1 : q < i * 3
  · rw [if_pos h1, if_pos (by omega)]
  · by_cases h2 : q < i * 3 + 3
    · rw [if_neg h1, if_pos h2, if_neg (by omega), if_pos (by omega), show (q - i * 3) / 3 = 0 by omega, show (q - i * 3) % 3 = q % 3 by omega]
      rfl
    · rw [if_neg h1, if_neg h2, if_neg (by omega), if_neg (by omega), show (q - 3) / 3 = q / 3 - 1 by omega, show (q - 3) % 3 = q % 3 by omega]
theorem pv_congr {l m : List P} {q : Nat} (h : at_ l (q / 3) = at_ m (q / 3)) : pv l q = pv m q := by
  unfold pv
  rw [h]

/-! ### The order: by rank, then by number -/
def orI (x y : Int) : Int := if x = 0 then y else x
def cmpI (x y : Int) : Int := if x < y then -1 else if y < x then 1 else 0
def cf (a b : P) : Int := orI (cmpI a.r b.r) (cmpI a.n b.n)
theorem cf_lt (a b : P) : cf a b < 0 ↔ a.r < b.r ∨ (a.r = b.r ∧ a.n < b.n) := by
  unfold cf orI cmpI
  repeat' split
  all_goals omega
theorem cf_eq (a b : P) : cf a b = 0 ↔ a.r = b.r ∧ a.n = b.n := by
  unfold cf orI cmpI
  repeat' split
  all_goals omega
theorem cf_trans {a b c : P} (h : cf a b < 0) (k : cf b c < 0) : cf a c < 0 := by
  rw [cf_lt] at *
  omega
def Srt (l : List P) : Prop := ∀ i j, i < j → j < l.length → cf (at_ l i) (at_ l j) < 0
theorem srt_mono {l : List P} (h : Srt l) (x : P) : ∀ a b, a ≤ b → b < l.length → cf (at_ l b) x < 0 → cf (at_ l a) x < 0 := fun a b hab hb hx => by
  by_cases e : a = b
  · subst e; exact hx
  · exact cf_trans (h a b (by omega) hb) hx
def pos : List P → P → Nat
  | [], _ => 0
  | c :: r, x => if cf c x < 0 then pos r x + 1 else 0
theorem pos_le (l : List P) (x : P) : pos l x ≤ l.length := by
  induction l with
  | nil => exact Nat.le_refl _
  | cons c r ih => unfold pos; split <;> simp <;> omega
theorem pos_is {x : P} : ∀ (l : List P) (i : Nat), i ≤ l.length → (∀ t, t < i → cf (at_ l t) x < 0) → (i < l.length → ¬ cf (at_ l i) x < 0) → pos l x = i
  | [], i, h, _, _ => by simp at h; subst h; rfl
  | c :: r, 0, _, _, h2 => by
    have := h2 (by simp)
    unfold pos
    exact if_neg this
  | c :: r, i + 1, h, h1, h2 => by
    have h0 : cf c x < 0 := h1 0 (by omega)
    unfold pos
    rw [if_pos h0, pos_is r i (by simpa using h) (fun t ht => h1 (t + 1) (by omega)) (fun hi => h2 (by simpa using hi))]

/-! ### Those that stay -/
def kept (g : P → Bool) (l : List P) (k : Nat) : List P := (l.take k).filter fun x => !g x
theorem kept_succ (g : P → Bool) (l : List P) (k : Nat) (hk : k < l.length) : kept g l (k + 1) = kept g l k ++ if g (at_ l k) = true then [] else [at_ l k] := by
  unfold kept
  have e : l.take (k + 1) = l.take k ++ [at_ l k] := by
    rw [List.take_succ_eq_append_getElem hk]
    unfold at_
    rw [List.getD_eq_getElem?_getD, List.getElem?_eq_getElem hk]
    rfl
  rw [e, List.filter_append]
  congr 1
  cases h : g (at_ l k) <;> simp [List.filter_cons, h]
theorem kept_len (g : P → Bool) (l : List P) (k : Nat) : (kept g l k).length ≤ k := by
  unfold kept
  have h1 := List.length_filter_le (fun x => !g x) (l.take k)
  have h2 : (l.take k).length ≤ k := List.length_take_le _ _
  omega
theorem kept_all (g : P → Bool) (l : List P) (k : Nat) (h : ∀ j, j < k → g (at_ l j) = false) (hk : k ≤ l.length) : kept g l k = l.take k := by
  unfold kept
  rw [List.filter_eq_self]
  intro x hx
  obtain ⟨j, hj, e⟩ := mem_at hx
  have hj2 : j < k := by simp at hj; omega
  have : at_ (l.take k) j = at_ l j := by
    unfold at_
    rw [List.getD_eq_getElem?_getD, List.getD_eq_getElem?_getD, List.getElem?_take, if_pos hj2]
  rw [← e, this, h j hj2]
  rfl
theorem at_snoc (l : List P) (x : P) (k : Nat) : at_ (l ++ [x]) k = if k < l.length then at_ l k else if k = l.length then x else default := by
  unfold at_
  simp only [List.getD_eq_getElem?_getD]
  by_cases h1 : k < l.length
  · rw [if_pos h1, List.getElem?_append_left h1]
  · rw [if_neg h1, List.getElem?_append_right (by omega)]
    by_cases h2 : k = l.length
    · rw [if_pos h2, h2]; simp
    · rw [if_neg h2, List.getElem?_eq_none (by simp; omega)]; rfl
end Go.Proofs.Ytjboilkbcajkcaa.Pa
