/-
  Package cell (chapter 8): rows of cells that stand in order, as lists; what adding, removing, asking makes of them.
-/
import Derived.Test.YtdpkiolngglpaaaRowC
import Derived.Test.YtdpkiolngglpaaaSlK
set_option maxRecDepth 100000
namespace Go.Proofs.Ytdpkiolngglpaaa.Ce
set_option linter.unusedVariables false
set_option linter.unusedSimpArgs false
open Go.RowKit Lb Cl

instance : Inhabited C := ⟨⟨0, 0, 0, 0, 0⟩⟩
def at_ (l : List C) (k : Nat) : C := l.getD k default
def lv (l : List C) (q : Nat) : Value := cv (at_ l) q
theorem vals_one (x : C) (j : Nat) (hj : j < 5) : ((x.vals[j]?).getD undef).oneCell' = true := by
  rcases (show j = 0 ∨ j = 1 ∨ j = 2 ∨ j = 3 ∨ j = 4 by omega) with rfl | rfl | rfl | rfl | rfl
  · rfl
  · rfl
  · rfl
  · rfl
  · rfl
theorem lv_one (l : List C) (q : Nat) : (lv l q).oneCell' = true := vals_one _ _ (by omega)
theorem at_mem {l : List C} {k : Nat} (h : k < l.length) : at_ l k ∈ l := by
  unfold at_
  rw [List.getD_eq_getElem?_getD, List.getElem?_eq_getElem h]
  exact List.getElem_mem h
theorem mem_at {l : List C} {x : C} (h : x ∈ l) : ∃ k, k < l.length ∧ at_ l k = x := by
  obtain ⟨k, hk, e⟩ := List.getElem_of_mem h
  refine ⟨k, hk, ?_⟩
  unfold at_
  rw [List.getD_eq_getElem?_getD, List.getElem?_eq_getElem hk]
  exact e
def ins (l : List C) (i : Nat) (x : C) : List C := l.take i ++ x :: l.drop i
theorem ins_len {l : List C} {i : Nat} (x : C) (h : i ≤ l.length) : (ins l i x).length = l.length + 1 := by
  unfold ins
  simp
  omega
theorem at_ins {l : List C} {i : Nat} (x : C) (h : i ≤ l.length) (k : Nat) : at_ (ins l i x) k = if k < i then at_ l k else if k = i then x else at_ l (k - 1) := by
  unfold at_ ins
  simp only [List.getD_eq_getElem?_getD]
  by_cases h1 : k < i
  · rw [if_pos h1, List.getElem?_append_left (by simp; omega), List.getElem?_take, if_pos h1]
  · have hl : (l.take i).length = i := by simp; omega
    rw [if_neg h1, List.getElem?_append_right (by omega), hl]
    by_cases h2 : k = i
    · subst h2
      simp
    · rw [if_neg h2, show k - i = (k - i - 1) + 1 by omega, List.getElem?_cons_succ, List.getElem?_drop, show i + (k - i - 1) = k - 1 by omega]
theorem lv_ins {l : List C} {i : Nat} (x : C) (h : i ≤ l.length) (q : Nat) : insK 5 i (lv l) (lv [x]) q = lv (ins l i x) q := by
  unfold insK lv cv
  rw [at_ins x h]
  by_cases h1 : q < i * 5
  · rw [if_pos h1, if_pos (by omega)]
  · by_cases h2 : q < i * 5 + 5
    · rw [if_neg h1, if_pos h2, if_neg (by omega), if_pos (by omega), show (q - i * 5) / 5 = 0 by omega, show (q - i * 5) % 5 = q % 5 by omega]
      rfl
    · rw [if_neg h1, if_neg h2, if_neg (by omega), if_neg (by omega), show (q - 5) / 5 = q / 5 - 1 by omega, show (q - 5) % 5 = q % 5 by omega]
theorem at_erase (l : List C) (i k : Nat) : at_ (l.eraseIdx i) k = if k < i then at_ l k else at_ l (k + 1) := by
  unfold at_
  simp only [List.getD_eq_getElem?_getD, List.getElem?_eraseIdx]
  split <;> rfl
theorem lv_erase (l : List C) (i q : Nat) : (if q < i * 5 then lv l q else lv l (q + 5)) = lv (l.eraseIdx i) q := by
  unfold lv cv
  rw [at_erase]
  by_cases h1 : q < i * 5
  · rw [if_pos h1, if_pos (by omega)]
  · rw [if_neg h1, if_neg (by omega), show (q + 5) / 5 = q / 5 + 1 by omega, show (q + 5) % 5 = q % 5 by omega]
theorem lv_snoc (l : List C) (x : C) (q : Nat) : (if q < l.length * 5 then lv l q else lv [x] (q - l.length * 5)) = lv (l ++ [x]) q ∨ (l.length + 1) * 5 ≤ q := by
  by_cases hq : (l.length + 1) * 5 ≤ q
  · exact .inr hq
  · left
    unfold lv cv at_
    simp only [List.getD_eq_getElem?_getD]
    by_cases h1 : q < l.length * 5
    · rw [if_pos h1, List.getElem?_append_left (by omega)]
    · rw [if_neg h1, List.getElem?_append_right (by omega), show (q - l.length * 5) / 5 = 0 by omega, show (q - l.length * 5) % 5 = q % 5 by omega, show q / 5 - l.length = 0 by omega]

/-! ### The order -/
def orI (x y : Int) : Int := if x = 0 then y else x
def cmpI (x y : Int) : Int := if x < y then -1 else if y < x then 1 else 0
def cf (a b : C) : Int := orI (cmpI a.f b.f) (orI (cmpI a.s b.s) (orI (cmpI a.c b.c) (orI (cmpI a.o b.o) (cmpI a.p b.p))))
theorem cmp_lt (x y : Int) : cmpI x y < 0 ↔ x < y := by unfold cmpI; split <;> (try split) <;> omega
theorem cmp_eq (x y : Int) : cmpI x y = 0 ↔ x = y := by unfold cmpI; split <;> (try split) <;> omega
theorem or_lt (x y z : Int) : orI (cmpI x y) z < 0 ↔ x < y ∨ (x = y ∧ z < 0) := by
  have h1 := cmp_lt x y
  have h2 := cmp_eq x y
  unfold orI
  split <;> omega
theorem or_eq (x y z : Int) : orI (cmpI x y) z = 0 ↔ x = y ∧ z = 0 := by
  have h1 := cmp_lt x y
  have h2 := cmp_eq x y
  unfold orI
  split <;> omega
theorem cf_lt (a b : C) : cf a b < 0 ↔ a.f < b.f ∨ (a.f = b.f ∧ (a.s < b.s ∨ (a.s = b.s ∧ (a.c < b.c ∨ (a.c = b.c ∧ (a.o < b.o ∨ (a.o = b.o ∧ a.p < b.p))))))) := by
  unfold cf
  rw [or_lt, or_lt, or_lt, or_lt, cmp_lt]
theorem cf_eq (a b : C) : cf a b = 0 ↔ a = b := by
  unfold cf
  rw [or_eq, or_eq, or_eq, or_eq, cmp_eq]
  obtain ⟨a1, a2, a3, a4, a5⟩ := a
  obtain ⟨b1, b2, b3, b4, b5⟩ := b
  simp only [C.mk.injEq]
theorem cf_trans {a b c : C} (h : cf a b < 0) (k : cf b c < 0) : cf a c < 0 := by
  rw [cf_lt] at *
  omega
theorem cf_asym {a b : C} (h : cf a b < 0) : ¬ cf b a < 0 := by
  rw [cf_lt] at *
  omega
theorem cf_total {a b : C} (h : ¬ cf a b < 0) (k : ¬ cf b a < 0) : a = b := by
  rw [cf_lt] at h k
  obtain ⟨a1, a2, a3, a4, a5⟩ := a
  obtain ⟨b1, b2, b3, b4, b5⟩ := b
  simp only [C.mk.injEq]
  simp only at h k
  omega
def Srt (l : List C) : Prop := ∀ i j, i < j → j < l.length → cf (at_ l i) (at_ l j) < 0
def pos : List C → C → Nat
  | [], _ => 0
  | c :: r, x => if cf c x < 0 then pos r x + 1 else 0
theorem pos_le (l : List C) (x : C) : pos l x ≤ l.length := by
  induction l with
  | nil => exact Nat.le_refl _
  | cons c r ih => unfold pos; split <;> simp <;> omega
theorem pos_is {x : C} : ∀ (l : List C) (i : Nat), i ≤ l.length → (∀ t, t < i → cf (at_ l t) x < 0) → (i < l.length → ¬ cf (at_ l i) x < 0) → pos l x = i
  | [], i, h, _, _ => by simp at h; subst h; rfl
  | c :: r, 0, _, _, h2 => by
    have := h2 (by simp)
    unfold pos
    exact if_neg this
  | c :: r, i + 1, h, h1, h2 => by
    have h0 := h1 0 (by omega)
    unfold pos
    have h0 : cf c x < 0 := h0
    rw [if_pos h0, pos_is r i (by simpa using h) (fun t ht => h1 (t + 1) (by omega)) (fun hi => h2 (by simpa using hi))]
theorem pos_lt {x : C} : ∀ (l : List C) (t : Nat), t < pos l x → cf (at_ l t) x < 0
  | [], t, h => by simp [pos] at h
  | c :: r, 0, h => by
    unfold pos at h
    split at h
    · assumption
    · omega
  | c :: r, t + 1, h => by
    unfold pos at h
    split at h
    · exact pos_lt r t (by omega)
    · omega
theorem pos_ge {x : C} : ∀ (l : List C), pos l x < l.length → ¬ cf (at_ l (pos l x)) x < 0
  | [], h => by simp at h
  | c :: r, h => by
    by_cases h0 : cf c x < 0
    · have e : pos (c :: r) x = pos r x + 1 := by simp [pos, h0]
      rw [e] at h ⊢
      exact pos_ge r (by simpa using h)
    · have e : pos (c :: r) x = 0 := by simp [pos, h0]
      rw [e]
      exact h0
theorem srt_mono {l : List C} (h : Srt l) (x : C) : ∀ a b, a ≤ b → b < l.length → cf (at_ l b) x < 0 → cf (at_ l a) x < 0 := fun a b hab hb hx => by
  by_cases e : a = b
  · subst e; exact hx
  · exact cf_trans (h a b (by omega) hb) hx
theorem srt_above {l : List C} (h : Srt l) {x : C} (hne : ∀ t, t < l.length → at_ l t ≠ x) {t : Nat} (h1 : pos l x ≤ t) (h2 : t < l.length) : cf x (at_ l t) < 0 := by
  by_cases hx : cf x (at_ l t) < 0
  · exact hx
  · have hp := pos_ge l (x := x) (by omega)
    have h3 : ¬ cf (at_ l t) x < 0 := fun h3 => hp (srt_mono h x _ _ h1 h2 h3)
    exact absurd (cf_total h3 hx) (hne t h2)
theorem srt_ins {l : List C} (h : Srt l) {x : C} (hne : ∀ t, t < l.length → at_ l t ≠ x) : Srt (ins l (pos l x) x) := by
  intro i j hij hj
  rw [ins_len x (pos_le l x)] at hj
  rw [at_ins x (pos_le l x), at_ins x (pos_le l x)]
  by_cases a1 : j < pos l x
  · rw [if_pos (by omega), if_pos a1]
    exact h i j hij (by have := pos_le l x; omega)
  · rw [if_neg a1]
    by_cases a2 : j = pos l x
    · rw [if_pos a2, if_pos (by omega)]
      exact pos_lt l i (by omega)
    · rw [if_neg a2]
      by_cases b1 : i < pos l x
      · rw [if_pos b1]
        exact h i (j - 1) (by omega) (by omega)
      · rw [if_neg b1]
        by_cases b2 : i = pos l x
        · rw [if_pos b2]
          exact srt_above h hne (by omega) (by omega)
        · rw [if_neg b2]
          exact h (i - 1) (j - 1) (by omega) (by omega)
theorem srt_erase {l : List C} (h : Srt l) (p : Nat) (hp : p < l.length) : Srt (l.eraseIdx p) := by
  intro i j hij hj
  rw [List.length_eraseIdx, if_pos hp] at hj
  rw [at_erase, at_erase]
  split <;> split
  · exact h i j hij (by omega)
  · exact h i (j + 1) (by omega) (by omega)
  · omega
  · exact h (i + 1) (j + 1) (by omega) (by omega)
theorem mem_ins {l : List C} {i : Nat} {x y : C} (h : y ∈ ins l i x) : y = x ∨ y ∈ l := by
  unfold ins at h
  rcases List.mem_append.1 h with h | h
  · exact .inr (List.mem_of_mem_take h)
  · rcases List.mem_cons.1 h with h | h
    · exact .inl h
    · exact .inr (List.mem_of_mem_drop h)

/-! ### A table -/
def same (x c : C) : Bool := x.f == c.f && (x.s == c.s && x.c == c.c)
def taken (l : List C) (c : C) : Bool := l.any fun x => same x c
theorem taken_no {l : List C} {c : C} (h : taken l c = false) : ∀ t, t < l.length → at_ l t ≠ c := fun t ht e => by
  unfold taken at h
  rw [List.any_eq_false] at h
  have := h _ (at_mem ht)
  rw [e] at this
  simp [same] at this
/-- What Add says: 1, 6, 9, 5 or 0; what is there then. -/
def addE (N : Nat → Int) (l : List C) (c : C) : Int := if c.may = false then 1 else if N c.f.toNat ≤ c.s then 6 else if taken l c = true then 9 else if 64 ≤ l.length then 5 else 0
def addL (N : Nat → Int) (l : List C) (c : C) : List C := if addE N l c = 0 then ins l (pos l c) c else l
def remE (l : List C) (c : C) : Int := if pos l c < l.length ∧ cf (at_ l (pos l c)) c = 0 then 0 else 6
def remL (l : List C) (c : C) : List C := if remE l c = 0 then l.eraseIdx (pos l c) else l
def longB (l : List C) (h n : Int) : Bool := l.any fun c => c.f == h && decide (n ≤ c.s)
def frE (l : List C) (h n : Int) : Int := if frB h && decide (0 ≤ n ∧ n ≤ 200) then (if longB l h n = true then 9 else 0) else 1
def frN (N : Nat → Int) (l : List C) (h n : Int) : Nat → Int := if frE l h n = 0 then fun i => if i = h.toNat then n else N i else N
def onB (N : Nat → Int) (t : Int) (c : C) : Bool := t % N c.f.toNat == c.s
def act (N : Nat → Int) (l : List C) (t : Int) : List C := if 0 ≤ t ∧ t < 1099511627776 then l.filter (onB N t) else []
/-- What a table keeps to. -/
structure Good (N : Nat → Int) (l : List C) : Prop where
  srt : Srt l
  few : l.length ≤ 64
  len : ∀ i, 0 ≤ N i ∧ N i ≤ 200
  cell : ∀ x ∈ l, 0 ≤ x.f ∧ x.f < 4 ∧ 0 ≤ x.s ∧ x.s < N x.f.toNat
theorem good_nil {N : Nat → Int} (h : ∀ i, 0 ≤ N i ∧ N i ≤ 200) : Good N [] := ⟨fun i j _ hj => by simp at hj, by simp, h, fun x hx => by simp at hx⟩
theorem good_add {N : Nat → Int} {l : List C} (g : Good N l) (c : C) : Good N (addL N l c) := by
  unfold addL
  split
  · rename_i h
    unfold addE at h
    split at h
    · omega
    · rename_i h1
      split at h
      · omega
      · rename_i h2
        split at h
        · omega
        · rename_i h3
          split at h
          · omega
          · have h3' : taken l c = false := by simpa using h3
            refine ⟨srt_ins g.srt (taken_no h3'), by rw [ins_len c (pos_le l c)]; omega, g.len, fun x hx => ?_⟩
            rcases mem_ins hx with rfl | hx
            · have hm : x.may = true := by simpa using h1
              unfold C.may mayC inB at hm
              simp only [Bool.and_eq_true, decide_eq_true_eq] at hm
              exact ⟨hm.1.1.1, hm.1.1.2.1, hm.1.1.2.2.1, by omega⟩
            · exact g.cell x hx
  · exact g
theorem good_rem {N : Nat → Int} {l : List C} (g : Good N l) (c : C) : Good N (remL l c) := by
  unfold remL
  split
  · rename_i h
    unfold remE at h
    split at h
    · rename_i h1
      exact ⟨srt_erase g.srt _ h1.1, by rw [List.length_eraseIdx]; have := g.few; split <;> omega, g.len, fun x hx => g.cell x (List.mem_of_mem_eraseIdx hx)⟩
    · omega
  · exact g
theorem good_fr {N : Nat → Int} {l : List C} (g : Good N l) (h n : Int) : Good (frN N l h n) l := by
  unfold frN
  split
  · rename_i e
    unfold frE at e
    split at e
    · rename_i e1
      simp only [Bool.and_eq_true, decide_eq_true_eq, frB] at e1
      split at e
      · omega
      · rename_i e2
        have e2 : longB l h n = false := by simpa using e2
        unfold longB at e2
        rw [List.any_eq_false] at e2
        refine ⟨g.srt, g.few, fun i => ?_, fun x hx => ?_⟩
        · have := g.len i
          show 0 ≤ (if i = h.toNat then n else N i) ∧ (if i = h.toNat then n else N i) ≤ 200
          split <;> omega
        · have h4 := g.cell x hx
          have h5 := e2 x hx
          simp only [Bool.and_eq_true, beq_iff_eq, decide_eq_true_eq] at h5
          show 0 ≤ x.f ∧ x.f < 4 ∧ 0 ≤ x.s ∧ x.s < (if x.f.toNat = h.toNat then n else N x.f.toNat)
          split <;> omega
    · omega
  · exact g
end Go.Proofs.Ytdpkiolngglpaaa.Ce
