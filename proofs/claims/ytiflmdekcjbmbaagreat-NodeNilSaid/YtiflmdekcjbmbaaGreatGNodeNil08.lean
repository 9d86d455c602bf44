/-
  Package parents (chapter 14): rows of whom a node may follow, as lists; who is ahead of whom. Package parents: who is ahead of whom. Package parents: slices.IndexFunc, slices.DeleteFunc, by whatever test that only makes memory. Package parents: slices.DeleteFunc, by whatever test that only makes memory. Package parents: the place of one in a row that stands in order.
-/
import Derived.Test.YtiflmdekcjbmbaaGreatGNodeNil07
import Derived.Lib.Hide
import Derived.IntWalk
import Derived.BigQuiet
import Derived.Deep.RegionHeld3
import Derived.Deep.LoopGhost
import Derived.Shelf.Abstract
set_option maxRecDepth 100000
namespace Go.Proofs.YtiflmdekcjbmbaaGreat.Pa
set_option linter.unusedVariables false
set_option linter.unusedSimpArgs false
open Go.RowKit Lb

structure P where
  n : Int
  r : Int
  h : Int
instance : Inhabited P := ⟨⟨0, 0, 0⟩⟩
def P.vals (x : P) : Array Value := #[.int .i64 x.n, .int .i64 x.r, .int .i64 x.h]
def at_ (l : List P) (k : Nat) : P := l.getD k default
def pv (l : List P) (q : Nat) : Value := ((at_ l (q / 3)).vals[q % 3]?).getD undef
theorem pv_at (l : List P) (k : Nat) : pv l (k * 3) = .int .i64 (at_ l k).n ∧ pv l (k * 3 + 1) = .int .i64 (at_ l k).r ∧ pv l (k * 3 + 2) = .int .i64 (at_ l k).h := by
  unfold pv
  refine ⟨?_, ?_, ?_⟩
  · rw [show k * 3 / 3 = k by omega, show k * 3 % 3 = 0 by omega]; rfl
  · rw [show (k * 3 + 1) / 3 = k by omega, show (k * 3 + 1) % 3 = 1 by omega]; rfl
  · rw [show (k * 3 + 2) / 3 = k by omega, show (k * 3 + 2) % 3 = 2 by omega]; rfl
theorem pv_one (l : List P) (q : Nat) : (pv l q).oneCell' = true := by
  unfold pv
  rcases (show q % 3 = 0 ∨ q % 3 = 1 ∨ q % 3 = 2 by omega) with e | e | e <;> rw [e] <;> rfl
theorem prow {w w' : World} {a : Option Addr} {n k : Nat} {l : List P} (h : Row w a (n * 3) (pv l)) (hb : Below w.heap.size w w') (hk : k < n) :
    ∃ b off, a = some ⟨b, off, none⟩ ∧ b < w.heap.size ∧ w'.cell? ⟨b, off + k * 3, none⟩ = some (.int .i64 (at_ l k).n) ∧ w'.cell? ⟨b, off + k * 3 + 1, none⟩ = some (.int .i64 (at_ l k).r) ∧ w'.cell? ⟨b, off + k * 3 + 2, none⟩ = some (.int .i64 (at_ l k).h) := by
  obtain ⟨b, off, h1, h2, h3⟩ := h.at_struct hb hk (by decide)
  obtain ⟨e0, e1, e2⟩ := pv_at l k
  exact ⟨b, off, h1, h2, (h3 0 (by decide)).trans (congrArg some e0), (h3 1 (by decide)).trans (congrArg some e1), (h3 2 (by decide)).trans (congrArg some e2)⟩
theorem at_mem {l : List P} {k : Nat} (h : k < l.length) : at_ l k ∈ l := by
  unfold at_
  rw [List.getD_eq_getElem?_getD, List.getElem?_eq_getElem h]
  exact List.getElem_mem h
theorem mem_at {l : List P} {x : P} (h : x ∈ l) : ∃ k, k < l.length ∧ at_ l k = x := by
  obtain ⟨k, hk, e⟩ := List.getElem_of_mem h
  refine ⟨k, hk, ?_⟩
  unfold at_
  rw [List.getD_eq_getElem?_getD, List.getElem?_eq_getElem hk]
  exact e
def ins (l : List P) (i : Nat) (x : P) : List P := l.take i ++ x :: l.drop i
theorem ins_len {l : List P} {i : Nat} (x : P) (h : i ≤ l.length) : (ins l i x).length = l.length + 1 := by
  unfold ins
  simp
  omega
theorem at_ins {l : List P} {i : Nat} (x : P) (h : i ≤ l.length) (k : Nat) : at_ (ins l i x) k = if k < i then at_ l k else if k = i then x else at_ l (k - 1) := by
  unfold at_ ins
  simp only [List.getD_eq_getElem?_getD]
  by_cases h1 : k < i
  · rw [if_pos h1, List.getElem?_append_left (by simp; omega), List.getElem?_take, if_pos h1]
  · have hl : (l.take i).length = i := by simp; omega
    rw [if_neg h1, List.getElem?_append_right (by omega), hl]
    by_cases h2 : k = i
    · subst h2
      simp
    · rw [if_neg h2, show k - i = (k - i - 1) + 1 by omega, List.getElem?_cons_succ, List.getElem?_drop, show i + (k - i - 1) = k - 1 by omega]
theorem pv_ins {l : List P} {i : Nat} (x : P) (h : i ≤ l.length) (q : Nat) : insK 3 i (pv l) (pv [x]) q = pv (ins l i x) q := by
  unfold insK pv
  rw [at_ins x h]
  by_cases h1 : q < i * 3
  · rw [if_pos h1, if_pos (by omega)]
  · by_cases h2 : q < i * 3 + 3
    · rw [if_neg h1, if_pos h2, if_neg (by omega), if_pos (by omega), show (q - i * 3) / 3 = 0 by omega, show (q - i * 3) % 3 = q % 3 by omega]
      rfl
    · rw [if_neg h1, if_neg h2, if_neg (by omega), if_neg (by omega), show (q - 3) / 3 = q / 3 - 1 by omega, show (q - 3) % 3 = q % 3 by omega]
theorem pv_congr {l m : List P} {q : Nat} (h : at_ l (q / 3) = at_ m (q / 3)) : pv l q = pv m q := by
  unfold pv
  rw [h]

/-! ### The order: by rank, then by number -/
def orI (x y : Int) : Int := if x = 0 then y else x
def cmpI (x y : Int) : Int := if x < y then -1 else if y < x then 1 else 0
def cf (a b : P) : Int := orI (cmpI a.r b.r) (cmpI a.n b.n)
theorem cf_lt (a b : P) : cf a b < 0 ↔ a.r < b.r ∨ (a.r = b.r ∧ a.n < b.n) := by
  unfold cf orI cmpI
  repeat' split
  all_goals omega
theorem cf_eq (a b : P) : cf a b = 0 ↔ a.r = b.r ∧ a.n = b.n := by
  unfold cf orI cmpI
  repeat' split
  all_goals omega
theorem cf_trans {a b c : P} (h : cf a b < 0) (k : cf b c < 0) : cf a c < 0 := by
  rw [cf_lt] at *
  omega
def Srt (l : List P) : Prop := ∀ i j, i < j → j < l.length → cf (at_ l i) (at_ l j) < 0
theorem srt_mono {l : List P} (h : Srt l) (x : P) : ∀ a b, a ≤ b → b < l.length → cf (at_ l b) x < 0 → cf (at_ l a) x < 0 := fun a b hab hb hx => by
  by_cases e : a = b
  · subst e; exact hx
  · exact cf_trans (h a b (by omega) hb) hx
def pos : List P → P → Nat
  | [], _ => 0
  | c :: r, x => if cf c x < 0 then pos r x + 1 else 0
theorem pos_le (l : List P) (x : P) : pos l x ≤ l.length := by
  induction l with
  | nil => exact Nat.le_refl _
  | cons c r ih => unfold pos; split <;> simp <;> omega
theorem pos_is {x : P} : ∀ (l : List P) (i : Nat), i ≤ l.length → (∀ t, t < i → cf (at_ l t) x < 0) → (i < l.length → ¬ cf (at_ l i) x < 0) → pos l x = i
  | [], i, h, _, _ => by simp at h; subst h; rfl
  | c :: r, 0, _, _, h2 => by
    have := h2 (by simp)
    unfold pos
    exact if_neg this
  | c :: r, i + 1, h, h1, h2 => by
    have h0 : cf c x < 0 := h1 0 (by omega)
    unfold pos
    rw [if_pos h0, pos_is r i (by simpa using h) (fun t ht => h1 (t + 1) (by omega)) (fun hi => h2 (by simpa using hi))]

/-! ### Those that stay -/
def kept (g : P → Bool) (l : List P) (k : Nat) : List P := (l.take k).filter fun x => !g x
theorem kept_succ (g : P → Bool) (l : List P) (k : Nat) (hk : k < l.length) : kept g l (k + 1) = kept g l k ++ if g (at_ l k) = true then [] else [at_ l k] := by
  unfold kept
  have e : l.take (k + 1) = l.take k ++ [at_ l k] := by
    rw [List.take_succ_eq_append_getElem hk]
    unfold at_
    rw [List.getD_eq_getElem?_getD, List.getElem?_eq_getElem hk]
    rfl
  rw [e, List.filter_append]
  congr 1
  cases h : g (at_ l k) <;> simp [List.filter_cons, h]
theorem kept_len (g : P → Bool) (l : List P) (k : Nat) : (kept g l k).length ≤ k := by
  unfold kept
  have h1 := List.length_filter_le (fun x => !g x) (l.take k)
  have h2 : (l.take k).length ≤ k := List.length_take_le _ _
  omega
theorem kept_all (g : P → Bool) (l : List P) (k : Nat) (h : ∀ j, j < k → g (at_ l j) = false) (hk : k ≤ l.length) : kept g l k = l.take k := by
  unfold kept
  rw [List.filter_eq_self]
  intro x hx
  obtain ⟨j, hj, e⟩ := mem_at hx
  have hj2 : j < k := by simp at hj; omega
  have : at_ (l.take k) j = at_ l j := by
    unfold at_
    rw [List.getD_eq_getElem?_getD, List.getD_eq_getElem?_getD, List.getElem?_take, if_pos hj2]
  rw [← e, this, h j hj2]
  rfl
theorem at_snoc (l : List P) (x : P) (k : Nat) : at_ (l ++ [x]) k = if k < l.length then at_ l k else if k = l.length then x else default := by
  unfold at_
  simp only [List.getD_eq_getElem?_getD]
  by_cases h1 : k < l.length
  · rw [if_pos h1, List.getElem?_append_left h1]
  · rw [if_neg h1, List.getElem?_append_right (by omega)]
    by_cases h2 : k = l.length
    · rw [if_pos h2, h2]; simp
    · rw [if_neg h2, List.getElem?_eq_none (by simp; omega)]; rfl
end Go.Proofs.YtiflmdekcjbmbaaGreat.Pa
set_option maxRecDepth 100000
namespace Go.Proofs.YtiflmdekcjbmbaaGreat.Pa
set_option linter.unusedVariables false
set_option linter.unusedSimpArgs false
open Go.RowKit Lb

theorem keep_cell {W W' : World} {p : Addr} {v : Value} (hb : Below W.heap.size W W') (h : W.cell? p = some v) : W'.cell? p = some v := (hb.cell (lt_of_cell h)).trans h
theorem isNaN_any (x : Int) (w : World) : Calls Tryz.prog 243 #[.int .i64 x] w fun r w' => r = .returned (.bool false) ∧ w = w' := by
  go_enter Tryz.func243, Tryz.ntmps243
  go_wp2_with fail
  all_goals
    go_ret
    exact ⟨by first | rfl | simp, rfl⟩
theorem cmp_any (x y : Int) (w : World) : Calls Tryz.prog 219 #[.int .i64 x, .int .i64 y] w fun r w' => r = .returned (.int .i64 (cmpI x y)) ∧ w = w' := by
  rcases (show x < y ∨ (decide (x < y) = false ∧ y < x) ∨ (decide (x < y) = false ∧ decide (y < x) = false) by
    by_cases h : x < y
    · exact .inl h
    · by_cases h2 : y < x
      · exact .inr (.inl ⟨by simp; omega, h2⟩)
      · exact .inr (.inr ⟨by simp; omega, by simp; omega⟩)) with h | ⟨h, h2⟩ | ⟨h, h2⟩
  · have HD : Hid (cmpI x y = -1) := Lib.hid (by unfold cmpI; rw [if_pos h])
    go_enter Tryz.func219, Tryz.ntmps219
    go_wp2_with ((with_reducible refine (isNaN_any _ _).mono ?_); rintro r w' ⟨rfl, rfl⟩)
    go_ret
    exact ⟨by rw [HD.out]; rfl, rfl⟩
  · have HD : Hid (cmpI x y = 1) := Lib.hid (by unfold cmpI; rw [if_neg (by simpa using h), if_pos h2])
    go_enter Tryz.func219, Tryz.ntmps219
    go_wp2_with ((with_reducible refine (isNaN_any _ _).mono ?_); rintro r w' ⟨rfl, rfl⟩)
    go_ret
    exact ⟨by rw [HD.out]; rfl, rfl⟩
  · have HD : Hid (cmpI x y = 0) := Lib.hid (by unfold cmpI; rw [if_neg (by simpa using h), if_neg (by simpa using h2)])
    go_enter Tryz.func219, Tryz.ntmps219
    go_wp2_with ((with_reducible refine (isNaN_any _ _).mono ?_); rintro r w' ⟨rfl, rfl⟩)
    go_ret
    exact ⟨by rw [HD.out]; rfl, rfl⟩
theorem or_two (b : Nat) (x y : Int) (w : World) (h0 : w.cell? ⟨b, 0, none⟩ = some (.int .i64 x)) (h1 : w.cell? ⟨b, 1, none⟩ = some (.int .i64 y)) :
    Calls Tryz.prog 218 #[.slice (some ⟨b, 0, none⟩) 2 2] w fun r w' => r = .returned (.int .i64 (orI x y)) ∧ w = w' := by
  have hc : ∀ k, k < 2 → w.cell? ⟨b, 0 + k, none⟩ = some (.int .i64 (if k = 0 then x else y)) := fun k hk => by
    rcases (show k = 0 ∨ k = 1 by omega) with rfl | rfl
    · exact h0
    · exact h1
  have HC := Lib.hid hc
  clear hc h0 h1
  go_enter Tryz.func218, Tryz.ntmps218
  go_wp2_with fail
  go_loopw [8] (fun i wr => ∃ k : Nat, i = .int .i64 k ∧ k ≤ 2 ∧ Hid (∀ j, j < k → (if j = 0 then x else y) = 0) ∧ w = wr) (fun i _ => 2 - (intOf i).toNat)
  case atStart => exact ⟨0, rfl, by omega, Lib.hid (fun j hj => by omega), rfl⟩
  case round =>
    obtain ⟨k, rfl, hk, HN, rfl⟩ := hrel
    by_cases hlt : k < 2
    · have g1 : (k : Int) < 2 := by omega
      have c0 := HC.out k hlt
      rw [Nat.zero_add] at c0
      obtain ⟨z, hz⟩ : ∃ z, (if k = 0 then x else y) = z := ⟨_, rfl⟩
      have HZ := Lib.hid hz
      rw [hz] at c0
      clear hz
      by_cases hz0 : z = 0
      · have HN2 : Hid (∀ j, j < k + 1 → (if j = 0 then x else y) = 0) := Lib.hid (fun j hj => by
          by_cases e : j = k
          · subst e; rw [HZ.out]; exact hz0
          · exact HN.out j (by omega))
        have e1 : (z != 0) = false := by simpa using hz0
        clear hz0
        go_wp2_with fail
        first
          | exact ⟨⟨k + 1, by simp, by omega, HN2, trivial⟩, by simp [intOf]; omega⟩
          | exact ⟨⟨k + 1, by simp [intOf], by omega, HN2, rfl⟩, by simp [intOf]; omega⟩
          | exact ⟨⟨_, _, ⟨k + 1, by simp, by omega, HN2⟩, rfl, rfl⟩, by simp [intOf]; omega⟩
      · have e1 : (z != 0) = true := by simpa using hz0
        have HD : Hid (orI x y = z) := Lib.hid (by
          unfold orI
          rcases (show k = 0 ∨ k = 1 by omega) with rfl | rfl
          · have := HZ.out
            simp only [if_true] at this
            rw [this, if_neg hz0]
          · have hx := HN.out 0 (by omega)
            simp only [if_true] at hx
            rw [if_pos hx]
            have := HZ.out
            rwa [if_neg (by omega)] at this)
        clear hz0
        go_wp2_with fail
        go_ret
        exact ⟨by rw [HD.out]; rfl, rfl⟩
    · obtain rfl : 2 = k := by omega
      have HD : Hid (orI x y = 0) := Lib.hid (by
        unfold orI
        have hx := HN.out 0 (by omega)
        have hy := HN.out 1 (by omega)
        simp only [if_true] at hx
        rw [if_neg (by omega)] at hy
        rw [if_pos hx, hy])
      go_wp2_with fail
      go_ret
      exact ⟨by rw [HD.out]; rfl, rfl⟩
set_option maxHeartbeats 2000000 in
theorem com_any (x y : P) (w : World) :
    Calls Tryz.prog 195 #[.agg #[.int .i64 x.n, .int .i64 x.r, .int .i64 x.h], .agg #[.int .i64 y.n, .int .i64 y.r, .int .i64 y.h]] w fun r w' => r = .returned (.int .i64 (cf x y)) ∧ Below w.heap.size w w' := by
  obtain ⟨x1, x2, x3⟩ := x
  obtain ⟨y1, y2, y3⟩ := y
  obtain ⟨c1, hc1⟩ : ∃ c, cmpI x2 y2 = c := ⟨_, rfl⟩
  obtain ⟨c2, hc2⟩ : ∃ c, cmpI x1 y1 = c := ⟨_, rfl⟩
  have H1 := Lib.hid hc1
  have H2 := Lib.hid hc2
  have HD : Hid (cf ⟨x1, x2, x3⟩ ⟨y1, y2, y3⟩ = orI c1 c2) := Lib.hid (by rw [← hc1, ← hc2]; rfl)
  clear hc1 hc2
  have k1 : Own ((w.alloc (.cells #[.int .i64 x1, .int .i64 x2, .int .i64 x3] 211)).alloc (.cells #[.int .i64 y1, .int .i64 y2, .int .i64 y3] 211)) w.heap.size 211 #[.int .i64 x1, .int .i64 x2, .int .i64 x3] := (Own.new w _ _).alloc _
  have k2 : Own ((w.alloc (.cells #[.int .i64 x1, .int .i64 x2, .int .i64 x3] 211)).alloc (.cells #[.int .i64 y1, .int .i64 y2, .int .i64 y3] 211)) (w.heap.size + 1) 211 #[.int .i64 y1, .int .i64 y2, .int .i64 y3] := by
    have := Own.new (w.alloc (.cells #[.int .i64 x1, .int .i64 x2, .int .i64 x3] 211)) 211 #[.int .i64 y1, .int .i64 y2, .int .i64 y3]
    rwa [show (w.alloc (.cells #[.int .i64 x1, .int .i64 x2, .int .i64 x3] 211)).heap.size = w.heap.size + 1 by simp] at this
  have b0 := ((Below.refl w.heap.size w).alloc (Nat.le_refl _) (.cells #[.int .i64 x1, .int .i64 x2, .int .i64 x3] 211)).alloc (by simp) (.cells #[.int .i64 y1, .int .i64 y2, .int .i64 y3] 211)
  go_enter Tryz.func195, Tryz.ntmps195
  go_wp2_with fail
  obtain ⟨w1, hw1⟩ : ∃ w1, (w.alloc (.cells #[.int .i64 x1, .int .i64 x2, .int .i64 x3] 211)).alloc (.cells #[.int .i64 y1, .int .i64 y2, .int .i64 y3] 211) = w1 := ⟨_, rfl⟩
  rw [hw1] at k1 k2 b0 ⊢
  clear hw1
  have s0 : (fun w' : World => w'.cell? ⟨w.heap.size, 0, none⟩ = some (.int .i64 x1) ∧ w'.cell? ⟨w.heap.size, 1, none⟩ = some (.int .i64 x2) ∧ w'.cell? ⟨w.heap.size + 1, 0, none⟩ = some (.int .i64 y1) ∧ w'.cell? ⟨w.heap.size + 1, 1, none⟩ = some (.int .i64 y2)) w1.drew := ⟨k1.cell 0, k1.cell 1, k2.cell 0, k2.cell 1⟩
  have o1 := (k1.drewN 1).alloc (.cells #[.int .i64 c1, .int .i64 c2] 3)
  have o2 := (k2.drewN 1).alloc (.cells #[.int .i64 c1, .int .i64 c2] 3)
  have s1 : (fun w' : World => w'.cell? ⟨w.heap.size, 0, none⟩ = some (.int .i64 x1) ∧ w'.cell? ⟨w.heap.size, 1, none⟩ = some (.int .i64 x2) ∧ w'.cell? ⟨w.heap.size + 1, 0, none⟩ = some (.int .i64 y1) ∧ w'.cell? ⟨w.heap.size + 1, 1, none⟩ = some (.int .i64 y2)) (w1.drew.alloc (.cells #[.int .i64 c1, .int .i64 c2] 3)) := ⟨o1.cell 0, o1.cell 1, o2.cell 0, o2.cell 1⟩
  have o3 := Own.new w1.drew 3 #[.int .i64 c1, .int .i64 c2]
  have hsz : w1.drew.heap.size = w1.heap.size := rfl
  rw [hsz] at o3
  have hb9 := (below_drewN b0 1).alloc b0.size (.cells #[.int .i64 c1, .int .i64 c2] 3)
  clear o1 o2 k1 k2
  go_region_held3 (fun w' : World => w'.cell? ⟨w.heap.size, 0, none⟩ = some (.int .i64 x1) ∧ w'.cell? ⟨w.heap.size, 1, none⟩ = some (.int .i64 x2) ∧ w'.cell? ⟨w.heap.size + 1, 0, none⟩ = some (.int .i64 y1) ∧ w'.cell? ⟨w.heap.size + 1, 1, none⟩ = some (.int .i64 y2)) (first | exact s0 | exact s1) (first
    | (go_at_call 219; first | ((with_reducible refine (cmp_any x2 y2 _).mono ?_); rintro q5 w5 ⟨rfl, rfl⟩; rw [H1.out]) | ((with_reducible refine (cmp_any x1 y1 _).mono ?_); rintro q5 w5 ⟨rfl, rfl⟩; rw [H2.out]))
    | (go_at_call 218; refine (or_two w1.heap.size c1 c2 _ (o3.cell 0) (o3.cell 1)).mono ?_; rintro q5 w5 ⟨rfl, rfl⟩))
  all_goals
    go_wp2_with fail
    go_ret
    exact ⟨by rw [HD.out]; rfl, hb9⟩
end Go.Proofs.YtiflmdekcjbmbaaGreat.Pa
set_option maxRecDepth 100000
namespace Go.Proofs.YtiflmdekcjbmbaaGreat.Pa
set_option linter.unusedVariables false
set_option linter.unusedSimpArgs false
open Go.RowKit Lb

/-- The function g, with what it has captured, says p of each, in whatever world that keeps OK; it only makes memory. -/
def Says (g : FuncId) (lb : Value) (p : P → Bool) (OK : World → Prop) : Prop :=
  ∀ (x : P) (w : World), OK w → Calls Tryz.prog g #[.agg #[.int .i64 x.n, .int .i64 x.r, .int .i64 x.h], lb] w fun e w' => e = .returned (.bool (p x)) ∧ Below w.heap.size w w'
def IdxOf (p : P → Bool) (l : List P) (z : Int) : Prop := (z = -1 ∧ ∀ j, j < l.length → p (at_ l j) = false) ∨ ∃ k : Nat, k < l.length ∧ z = k ∧ p (at_ l k) = true ∧ ∀ j, j < k → p (at_ l j) = false
def IdxPost (p : P → Bool) (l : List P) (w : World) (r : Ending) (w' : World) : Prop := ∃ z : Int, r = .returned (.int .i64 z) ∧ IdxOf p l z ∧ Below w.heap.size w w'
set_option maxHeartbeats 1000000 in
theorem idx_any (a : Option Addr) (n m : Nat) (l : List P) (g : FuncId) (lb : Value) (p : P → Bool) (OK : World → Prop) (w : World) (eg : ∀ args w, (callFunc g args).run Tryz.prog w = .ok (.enter g args) w) (hg : Says g lb p OK) (hO : OK w) (hok : ∀ W W', Below W.heap.size W W' → OK W → OK W')
    (hR : Row w a (n * 3) (pv l)) (hl : l.length = n) (hn : n ≤ 100000) :
    Calls Tryz.prog 228 #[.slice a n m, .func (.func g) #[] #[lb]] w (IdxPost p l w) := by
  have HR := Lib.hid hR
  have HL := Lib.hid hl
  have HG := Lib.hid hg
  have HOK := Lib.hid hok
  have HO := Lib.hid hO
  clear hR hl hg hok hO
  go_enter Tryz.func228, Tryz.ntmps228
  go_wp2_with fail
  go_loopw [8] (fun i wr => ∃ k : Nat, i = .int .i64 k ∧ k ≤ n ∧ Hid (∀ j, j < k → p (at_ l j) = false) ∧ Hid (OK wr) ∧ Below w.heap.size w wr) (fun i _ => n - (intOf i).toNat)
  case atStart => exact ⟨0, rfl, by omega, Lib.hid (fun j hj => by omega), HO, Below.refl _ _⟩
  case round =>
    obtain ⟨k, rfl, hk, HN, HO1, b1⟩ := hrel
    by_cases hlt : k < n
    · obtain ⟨b, off, rfl, hbl, c0, c1, c2⟩ := prow HR.out b1 hlt
      have htk := HG.out (at_ l k) wr HO1.out
      obtain ⟨x, hx⟩ : ∃ x, at_ l k = x := ⟨_, rfl⟩
      have HX := Lib.hid hx
      rw [hx] at c0 c1 c2 htk
      clear hx
      cases hs : p x
      · have HN2 : Hid (∀ j, j < k + 1 → p (at_ l j) = false) := Lib.hid (fun j hj => by
          by_cases e : j = k
          · subst e; rw [HX.out]; exact hs
          · exact HN.out j (by omega))
        rw [hs] at htk
        clear hs
        go_wp2_with (go_at_fn g; refine htk.mono ?_; rintro r w5 ⟨rfl, b5⟩)
        exact ⟨⟨k + 1, by simp, by omega, HN2, Lib.hid (HOK.out _ _ b5 HO1.out), b1.trans (b5.mono b1.size)⟩, by simp [intOf]; omega⟩
      · have HT : Hid (IdxOf p l (k : Int)) := Lib.hid (.inr ⟨k, by rw [HL.out]; exact hlt, rfl, by rw [HX.out]; exact hs, HN.out⟩)
        rw [hs] at htk
        clear hs
        go_wp2_with (go_at_fn g; refine htk.mono ?_; rintro r w5 ⟨rfl, b5⟩)
        go_ret
        exact ⟨_, rfl, HT.out, b1.trans (b5.mono b1.size)⟩
    · have HT : Hid (IdxOf p l (-1)) := Lib.hid (.inl ⟨rfl, fun j hj => HN.out j (by rw [HL.out] at hj; omega)⟩)
      go_wp2_with fail
      go_ret
      exact ⟨_, rfl, HT.out, b1⟩
end Go.Proofs.YtiflmdekcjbmbaaGreat.Pa
set_option maxRecDepth 100000
namespace Go.Proofs.YtiflmdekcjbmbaaGreat.Pa
set_option linter.unusedVariables false
set_option linter.unusedSimpArgs false
open Go.RowKit Lb

theorem zeroE (w : World) : (zeroValue 211).run Tryz.prog w = .ok (.agg #[.int .i64 0, .int .i64 0, .int .i64 0]) w := by kernel_rfl
theorem clear_run (W : World) (gb i n c C : Nat) (F : Nat → Value) (hB : Blk W gb 211 (C * 3) F) (hi : i < n) (hn : n ≤ C) :
    ∀ ty, (Builtin.clear_ #[207] ty #[.slice (some ⟨gb, i * 3, none⟩) (n - i) c]).run Tryz.prog W = .ok (.tuple #[]) (W.setCells gb (i * 3) (Builtin.zeroCells (Value.agg #[.int .i64 0, .int .i64 0, .int .i64 0]).cells (n - i)).toList) := fun ty => by
  have hlen : (Builtin.zeroCells (Value.agg #[.int .i64 0, .int .i64 0, .int .i64 0]).cells (n - i)).toList.length = (n - i) * 3 := by simp [size_zeroCells, Value.cells]
  have hth := hB.there (o := i * 3) (m := (n - i) * 3) (by omega)
  have hst := run_storeCells_cells (P := Tryz.prog) gb (i * 3) (Builtin.zeroCells (Value.agg #[.int .i64 0, .int .i64 0, .int .i64 0]).cells (n - i)).toList 0 W (fun j hj => by rw [Nat.add_zero]; exact (hth j (by omega)).1) (fun j hj => by rw [Nat.add_zero]; exact (hth j (by omega)).2) (by
    intro v hv
    simp only [Builtin.zeroCells, Value.cells, Array.toList_map, List.mem_map] at hv
    obtain ⟨q, _, rfl⟩ := hv
    have hq : q % 3 < 3 := Nat.mod_lt _ (by decide)
    show (((#[Value.int .i64 0, Value.int .i64 0, Value.int .i64 0] : Array Value)[q % 3]!).oneCell') = true
    rcases (show q % 3 = 0 ∨ q % 3 = 1 ∨ q % 3 = 2 by omega) with e | e | e <;> rw [e] <;> rfl)
  simp only [Nat.add_zero] at hst
  obtain ⟨m, hm⟩ : ∃ m, n - i = m + 1 := ⟨n - i - 1, by omega⟩
  rw [hm] at hst ⊢
  simp [Builtin.clear_, run_underlying Tryz.underlying207, zeroE, hst]
def KeptPost (base : Nat) (p : P → Bool) (l : List P) (v : Value) (w : World) (r : Ending) (w' : World) : Prop :=
  ∃ v', r = .returned v' ∧ MineK w' base 211 3 v' (kept p l l.length).length (pv (kept p l l.length)) ∧ w.grownBy w' v.ownBlock ∧ v'.ownBlock = v.ownBlock
theorem kept_put {p : P → Bool} {l : List P} {j : Nat} {V : Nat → Value} {x : P} (hj : j < l.length) (hx : at_ l j = x) (hp : p x = false) (hV : ∀ q, q < (kept p l j).length * 3 → V q = pv (kept p l j) q) :
    ∀ q, q < (kept p l (j + 1)).length * 3 → (if q = (kept p l j).length * 3 + 2 then .int .i64 x.h else if q = (kept p l j).length * 3 + 1 then .int .i64 x.r else if q = (kept p l j).length * 3 then .int .i64 x.n else V q) = pv (kept p l (j + 1)) q := by
  have e : kept p l (j + 1) = kept p l j ++ [x] := by rw [kept_succ p l j hj, hx, hp]; rfl
  intro q hq
  rw [e] at hq ⊢
  rw [List.length_append] at hq
  simp only [List.length_cons, List.length_nil] at hq
  obtain ⟨i, hi⟩ : ∃ i, (kept p l j).length = i := ⟨_, rfl⟩
  rw [hi] at hq hV ⊢
  have hat : at_ (kept p l j ++ [x]) i = x := by rw [at_snoc, hi, if_neg (by omega), if_pos rfl]
  obtain ⟨a0, a1, a2⟩ := pv_at (kept p l j ++ [x]) i
  rw [hat] at a0 a1 a2
  by_cases c2 : q = i * 3 + 2
  · rw [if_pos c2, c2, a2]
  · by_cases c1 : q = i * 3 + 1
    · rw [if_neg c2, if_pos c1, c1, a1]
    · by_cases c0 : q = i * 3
      · rw [if_neg c2, if_neg c1, if_pos c0, c0, a0]
      · rw [if_neg c2, if_neg c1, if_neg c0, hV q (by omega)]
        refine pv_congr ?_
        rw [at_snoc, hi, if_pos (by omega)]
set_option maxHeartbeats 400000 in
theorem dlf_any (base : Nat) (v : Value) (l : List P) (g : FuncId) (lb : Value) (p : P → Bool) (OK : World → Prop) (w : World) (eg : ∀ args w, (callFunc g args).run Tryz.prog w = .ok (.enter g args) w) (hg : Says g lb p OK) (hO : OK w) (hok : ∀ W W', W.grownBy W' v.ownBlock → OK W → OK W')
    (h : MineK w base 211 3 v l.length (pv l)) (hn : l.length ≤ 100000) :
    Calls Tryz.prog 207 #[v, .func (.func g) #[] #[lb]] w (KeptPost base p l v w) := by
  obtain ⟨A, c, rfl, hc1, hc2, hR⟩ := h.row
  unfold maxLen at hc2
  have hidx := idx_any A l.length c l g lb p OK w eg hg hO (fun W W' hb ho => hok W W' (below_grown hb _) ho) hR rfl hn
  have HI := Lib.hid hidx
  have HG := Lib.hid hg
  have HOK := Lib.hid hok
  have HO := Lib.hid hO
  have HH := Lib.hid h
  by_cases hall : ∀ j, j < l.length → p (at_ l j) = false
  · have HD : ∀ w', Below w.heap.size w w' → Hid (KeptPost base p l (.slice A l.length c) w (.returned (.slice A l.length c)) w') := fun w' hb => Lib.hid (by
      refine ⟨_, rfl, ?_, below_grown hb _, rfl⟩
      rw [kept_all p l l.length hall (Nat.le_refl _), List.take_of_length_le (Nat.le_refl _)]
      exact HH.out.below hb)
    have HAL := Lib.hid hall
    obtain ⟨n, hnn⟩ : ∃ n, l.length = n := ⟨_, rfl⟩
    have HL := Lib.hid hnn
    rw [hnn] at HI HD hc1
    clear hidx hg hok hO h hall hR hnn
    rw [HL.out]
    go_enter Tryz.func207, Tryz.ntmps207
    go_wp2_with (go_at_call 228; refine HI.out.mono ?_; rintro r w5 ⟨z, rfl, hz, b5⟩; obtain ⟨rfl, _⟩ := hz.resolve_right (fun ⟨k, hk, _, h1, _⟩ => by rw [HAL.out k hk] at h1; cases h1))
    go_ret
    exact (HD _ b5).out
  · have hex : ∃ k : Nat, k < l.length ∧ p (at_ l k) = true ∧ ∀ j, j < k → p (at_ l j) = false := by
      have hz : ∃ z, IdxOf p l z ∧ True := by
        by_cases hh : ∃ k, k < l.length ∧ p (at_ l k) = true
        · obtain ⟨k, hk, hp⟩ := hh
          induction k using Nat.strongRecOn with
          | ind k ih =>
            by_cases hm : ∃ j, j < k ∧ p (at_ l j) = true
            · obtain ⟨j, hj, hpj⟩ := hm
              exact ih j hj (by omega) hpj
            · exact ⟨k, .inr ⟨k, hk, rfl, hp, fun j hj => by
                cases e : p (at_ l j)
                · rfl
                · exact absurd ⟨j, hj, e⟩ hm⟩, trivial⟩
        · exact absurd (fun j hj => by
            cases e : p (at_ l j)
            · rfl
            · exact absurd ⟨j, hj, e⟩ hh) hall
      obtain ⟨z, hz, _⟩ := hz
      rcases hz with ⟨_, h1⟩ | ⟨k, hk, _, hp, h1⟩
      · exact absurd h1 hall
      · exact ⟨k, hk, hp, h1⟩
    obtain ⟨k0, hk0, hp0, hlow⟩ := hex
    have hz0 : ∀ z, IdxOf p l z → z = (k0 : Int) := fun z hz => by
      rcases hz with ⟨_, h1⟩ | ⟨k, hk, rfl, hp, h1⟩
      · rw [h1 k0 hk0] at hp0; cases hp0
      · rcases Nat.lt_trichotomy k k0 with e | e | e
        · rw [hlow k e] at hp; cases hp
        · rw [e]
        · rw [h1 k0 e] at hp0; cases hp0
    have HZ := Lib.hid hz0
    obtain ⟨gb, c', cs, hv, hgb, ho, _, _, hsz, hcv⟩ := h.block (by omega)
    injection hv with hv1 hv2 hv3
    subst hv1 hv3
    have hB0 := blk_of ho hsz
    have hV0 : ∀ q, q < l.length * 3 → cs.getD q undef = pv l q := fun q hq => by rw [Array.getD_eq_getD_getElem?, hcv q hq]; rfl
    have hkk : kept p l k0 = l.take k0 := kept_all p l k0 hlow (by omega)
    have hk1 : kept p l (k0 + 1) = l.take k0 := by rw [kept_succ p l k0 hk0, hp0, if_pos rfl, List.append_nil, hkk]
    have hkl : (l.take k0).length = k0 := by simp; omega
    have htk : ∀ q, q < k0 * 3 → pv l q = pv (l.take k0) q := fun q hq => pv_congr (by
      unfold at_
      rw [List.getD_eq_getElem?_getD, List.getD_eq_getElem?_getD, List.getElem?_take, if_pos (by omega)])
    obtain ⟨n, hnn⟩ : ∃ n, l.length = n := ⟨_, rfl⟩
    have HL := Lib.hid hnn
    have HKL := Lib.hid hkl
    have HK1 := Lib.hid hk1
    have HB0 := Lib.hid hB0
    have HV0 := Lib.hid hV0
    have HTK := Lib.hid htk
    rw [hnn] at HI hc1 hk0 hn HOK HV0
    have hglt := ho.lt
    have HHG := Lib.hid hgb
    have hne : ((k0 : Int) == -1) = false := by rw [beq_eq_false_iff_ne]; omega
    clear hidx hg hok hO h hall hR hcv hsz ho hB0 hV0 hkk hk1 hkl htk hz0 hlow hp0 hgb hnn hv2 HH
    rw [HL.out]
    go_enter Tryz.func207, Tryz.ntmps207
    go_wp2_with (go_at_call 228; refine HI.out.mono ?_; rintro r w5 ⟨z, rfl, hz, b5⟩; obtain rfl := HZ.out z hz)
    go_loopw [5, 6, 7] (fun s5 s6 s7 wr => ∃ (i j : Nat) (V : Nat → Value), s5 = .int .i64 i ∧ s6 = .int .i64 j ∧ j ≤ n ∧ i < j ∧ Blk wr gb 211 (c * 3) V ∧ Hid (∀ q, q < i * 3 → V q = pv (kept p l j) q) ∧ Hid (∀ q, i * 3 ≤ q → q < n * 3 → V q = pv l q) ∧ Hid ((kept p l j).length = i) ∧ Hid (OK wr) ∧ w.grownBy wr (some gb)) (fun _ j _ _ => n - (intOf j).toNat)
    case atStart => exact ⟨k0, k0 + 1, _, rfl, by simp, by omega, by omega, below_blk b5 HB0.out hglt, Lib.hid (fun q hq => by rw [HV0.out q (by omega), HTK.out q hq, HK1.out]), Lib.hid (fun q _ hq => HV0.out q hq), Lib.hid (by rw [HK1.out, HKL.out]), Lib.hid (HOK.out _ _ (below_grown b5 _) HO.out), below_grown b5 _⟩
    case round =>
      clear b5 hz
      obtain ⟨i, j, V, rfl, rfl, hj, hij, hB, HVl, HVh, HLN, HO1, g1⟩ := hrel
      by_cases hlt : j < n
      · obtain ⟨a0, a1, a2⟩ := pv_at l j
        have c0 : wr.cell? ⟨gb, j * 3, none⟩ = some (.int .i64 (at_ l j).n) := by rw [hB.cell (by omega), HVh.out _ (by omega) (by omega), a0]
        have c1 : wr.cell? ⟨gb, j * 3 + 1, none⟩ = some (.int .i64 (at_ l j).r) := by rw [hB.cell (by omega), HVh.out _ (by omega) (by omega), a1]
        have c2 : wr.cell? ⟨gb, j * 3 + 2, none⟩ = some (.int .i64 (at_ l j).h) := by rw [hB.cell (by omega), HVh.out _ (by omega) (by omega), a2]
        clear a0 a1 a2
        obtain ⟨x, hx⟩ : ∃ x, at_ l j = x := ⟨_, rfl⟩
        have HX := Lib.hid hx
        rw [hx] at c0 c1 c2
        clear hx
        have b2 := (Below.refl wr.heap.size wr).alloc (Nat.le_refl _) (.cells #[.int .i64 x.n, .int .i64 x.r, .int .i64 x.h] 211)
        have o2 : Own (wr.alloc (.cells #[.int .i64 x.n, .int .i64 x.r, .int .i64 x.h] 211)) wr.heap.size 211 #[.int .i64 x.n, .int .i64 x.r, .int .i64 x.h] := Own.new wr _ _
        have hO2 := HOK.out _ _ (below_grown b2 _) HO1.out
        have htk := HG.out x (wr.alloc (.cells #[.int .i64 x.n, .int .i64 x.r, .int .i64 x.h] 211)) hO2
        have HO2 := Lib.hid hO2
        clear hO2
        have hgl := hB.lt
        have e0 : (wr.alloc (.cells #[.int .i64 x.n, .int .i64 x.r, .int .i64 x.h] 211)).cell? ⟨wr.heap.size, 0, none⟩ = some (.int .i64 x.n) := o2.cell 0
        have e1 : (wr.alloc (.cells #[.int .i64 x.n, .int .i64 x.r, .int .i64 x.h] 211)).cell? ⟨wr.heap.size, 1, none⟩ = some (.int .i64 x.r) := o2.cell 1
        have e2 : (wr.alloc (.cells #[.int .i64 x.n, .int .i64 x.r, .int .i64 x.h] 211)).cell? ⟨wr.heap.size, 2, none⟩ = some (.int .i64 x.h) := o2.cell 2
        cases hs : p x
        · rw [hs] at htk
          have HS := Lib.hid hs
          clear hs
          go_wp2_with (go_at_fn g; refine htk.mono ?_; rintro r w3 ⟨rfl, b3⟩; have f0 := keep_cell b3 e0; have f1 := keep_cell b3 e1; have f2 := keep_cell b3 e2; have hB3 := below_blk (b2.trans (b3.mono b2.size)) hB hgl; have z0 : w3.frozen? ⟨gb, i * 3, none⟩ = false := hB3.free _; have z1 : w3.frozen? ⟨gb, i * 3 + 1, none⟩ = false := hB3.free _; have z2 : w3.frozen? ⟨gb, i * 3 + 2, none⟩ = false := hB3.free _; have y0 : w3.cell? ⟨gb, i * 3, none⟩ = some (V (i * 3)) := hB3.cell (by omega); have y1 : w3.cell? ⟨gb, i * 3 + 1, none⟩ = some (V (i * 3 + 1)) := hB3.cell (by omega); have y2 : w3.cell? ⟨gb, i * 3 + 2, none⟩ = some (V (i * 3 + 2)) := hB3.cell (by omega))
          have b4 := b2.trans (b3.mono b2.size)
          have hkp := kept_put (p := p) (l := l) (j := j) (V := V) (x := x) (by rw [HL.out]; exact hlt) HX.out HS.out (by rw [HLN.out]; exact HVl.out)
          have hk1 : (kept p l (j + 1)).length = i + 1 := by
            rw [kept_succ p l j (by rw [HL.out]; exact hlt), HX.out, HS.out]
            simp [HLN.out]
          rw [HLN.out, hk1] at hkp
          have kput := ((hB3.put (i * 3) (.int .i64 x.n)).put (i * 3 + 1) (.int .i64 x.r)).put (i * 3 + 2) (.int .i64 x.h)
          have gA : wr.grownBy (((w3.setCell ⟨gb, i * 3, none⟩ (.int .i64 x.n)).setCell ⟨gb, i * 3 + 1, none⟩ (.int .i64 x.r)).setCell ⟨gb, i * 3 + 2, none⟩ (.int .i64 x.h)) (some gb) := grown_setCells (below_grown b4 (some gb)) (.inl rfl) (i * 3) [.int .i64 x.n, .int .i64 x.r, .int .i64 x.h]
          exact ⟨⟨i + 1, j + 1, _, by simp, by simp, by omega, by omega, kput, Lib.hid hkp, Lib.hid (fun q h1 h2 => by
            show (if q = i * 3 + 2 then _ else if q = i * 3 + 1 then _ else if q = i * 3 then _ else V q) = _
            rw [if_neg (by omega), if_neg (by omega), if_neg (by omega)]
            exact HVh.out q (by omega) h2), Lib.hid hk1, Lib.hid (HOK.out _ _ gA HO1.out), grown_trans g1 gA (fun q e => .inl e)⟩, by simp [intOf]; omega⟩
        · rw [hs] at htk
          have HK : Hid (kept p l (j + 1) = kept p l j) := Lib.hid (by rw [kept_succ p l j (by rw [HL.out]; exact hlt), HX.out, hs]; simp)
          clear hs
          go_wp2_with (go_at_fn g; refine htk.mono ?_; rintro r w3 ⟨rfl, b3⟩)
          have b4 := b2.trans (b3.mono b2.size)
          exact ⟨⟨i, j + 1, V, rfl, by simp, by omega, by omega, below_blk b4 hB hgl, Lib.hid (by rw [HK.out]; exact HVl.out), HVh, Lib.hid (by rw [HK.out]; exact HLN.out), Lib.hid (HOK.out _ _ (below_grown b4 _) HO1.out), grown_trans g1 (below_grown b4 none) (fun q e => by cases e)⟩, by simp [intOf]; omega⟩
      · obtain rfl : n = j := by omega
        have hcl := clear_run wr gb i n (c - i) c V hB hij (by omega)
        have hci : ¬ c = i := by omega
        have k1 : i ≤ n := by omega
        have k2 : i ≤ c := by omega
        have hbl := hB.lt
        go_wp2_with fail
        go_ret
        refine ⟨.slice (some ⟨gb, 0, none⟩) i c, rfl, ?_, grown_setCells g1 (.inl rfl) _ _, rfl⟩
        rw [HL.out, HLN.out]
        exact mineK_made (hB.puts _ (i * 3)) HHG.out (by unfold maxLen; omega) (by omega) (fun q hq => by
          rw [putL_at, if_neg (by omega)]
          exact HVl.out q hq)
end Go.Proofs.YtiflmdekcjbmbaaGreat.Pa
set_option maxRecDepth 100000
namespace Go.Proofs.YtiflmdekcjbmbaaGreat.Pa
set_option linter.unusedVariables false
set_option linter.unusedSimpArgs false
open Go.RowKit Lb

def fndB (l : List P) (x : P) : Bool := decide (pos l x < l.length) && decide (cf (at_ l (pos l x)) x = 0)
set_option maxHeartbeats 400000 in
theorem bsf_any (a : Option Addr) (n m : Nat) (l : List P) (x : P) (w : World) (hR : Row w a (n * 3) (pv l)) (hl : l.length = n) (hn : n ≤ 100000) (hs : Srt l) :
    Calls Tryz.prog 194 #[.slice a n m, .agg #[.int .i64 x.n, .int .i64 x.r, .int .i64 x.h], .func (.func 195) #[] #[]] w fun r w' => r = .returned (.tuple #[.int .i64 (pos l x : Nat), .bool (fndB l x)]) ∧ Below w.heap.size w w' := by
  have HR := Lib.hid hR
  have HL := Lib.hid hl
  have HS := Lib.hid hs
  have o0 : Own (w.alloc (.cells #[.int .i64 x.n, .int .i64 x.r, .int .i64 x.h] 211)) w.heap.size 211 x.vals := Own.new w _ _
  have b0 := (Below.refl w.heap.size w).alloc (Nat.le_refl _) (.cells #[.int .i64 x.n, .int .i64 x.r, .int .i64 x.h] 211)
  have hz0 : w.heap.size < (w.alloc (.cells #[.int .i64 x.n, .int .i64 x.r, .int .i64 x.h] 211)).heap.size := by simp
  clear hR hl hs
  go_enter Tryz.func194, Tryz.ntmps194
  go_wp2_with fail
  generalize w.alloc (.cells #[.int .i64 x.n, .int .i64 x.r, .int .i64 x.h] 211) = w1 at *
  go_loopw [9, 10] (fun i j wr => ∃ lo hi : Nat, i = .int .i64 lo ∧ j = .int .i64 hi ∧ lo ≤ hi ∧ hi ≤ n ∧ Hid (∀ t, t < lo → cf (at_ l t) x < 0) ∧ Hid (∀ t, hi ≤ t → t < n → 0 ≤ cf (at_ l t) x) ∧ Own wr w.heap.size 211 x.vals ∧ Below w.heap.size w wr) (fun i j _ => (intOf j).toNat - (intOf i).toNat)
  case atStart => exact ⟨0, n, rfl, rfl, by omega, by omega, Lib.hid (fun t ht => by omega), Lib.hid (fun t h1 h2 => by omega), o0, b0⟩
  case round =>
    clear o0 b0 hz0
    obtain ⟨lo, hi, rfl, rfl, hlh, hin, HA, HB, o1, b1⟩ := hrel
    have hol := o1.lt
    have d0 : wr.cell? ⟨w.heap.size, 0, none⟩ = some (.int .i64 x.n) := o1.cell 0
    have d1 : wr.cell? ⟨w.heap.size, 1, none⟩ = some (.int .i64 x.r) := o1.cell 1
    have d2 : wr.cell? ⟨w.heap.size, 2, none⟩ = some (.int .i64 x.h) := o1.cell 2
    by_cases hlt : lo < hi
    · have hM : (lo + hi) / 2 < n := by omega
      obtain ⟨b, off, rfl, hbl, c0, c1, c2⟩ := prow HR.out b1 hM
      obtain ⟨y, hy⟩ : ∃ y, at_ l ((lo + hi) / 2) = y := ⟨_, rfl⟩
      have HY := Lib.hid hy
      rw [hy] at c0 c1 c2
      have hcom := fun w => com_any y x w
      obtain ⟨z, hz⟩ : ∃ z, cf y x = z := ⟨_, rfl⟩
      have HZ := Lib.hid hz
      rw [hz] at hcom
      clear hy hz
      by_cases hz0 : z < 0
      · have HA2 : Hid (∀ t, t < (lo + hi) / 2 + 1 → cf (at_ l t) x < 0) := Lib.hid (fun t ht => srt_mono HS.out x t ((lo + hi) / 2) (by omega) (by rw [HL.out]; exact hM) (by rw [HY.out, HZ.out]; exact hz0))
        have m1 : (0 : Int) ≤ ((lo : Int) + (hi : Int)) / 2 := by omega
        have m2 : ((lo : Int) + (hi : Int)) / 2 < (n : Int) := by omega
        have m3 : (((lo : Int) + (hi : Int)) / 2).toNat = (lo + hi) / 2 := by omega
        go_wp2_with fail
        have s0 : (fun w' : World => w'.cell? ⟨b, off + ((lo + hi) / 2) * 3, none⟩ = some (.int .i64 y.n) ∧ w'.cell? ⟨b, off + ((lo + hi) / 2) * 3 + 1, none⟩ = some (.int .i64 y.r) ∧ w'.cell? ⟨b, off + ((lo + hi) / 2) * 3 + 2, none⟩ = some (.int .i64 y.h) ∧ w'.cell? ⟨w.heap.size, 0, none⟩ = some (.int .i64 x.n) ∧ w'.cell? ⟨w.heap.size, 1, none⟩ = some (.int .i64 x.r) ∧ w'.cell? ⟨w.heap.size, 2, none⟩ = some (.int .i64 x.h)) wr.drew := ⟨c0, c1, c2, d0, d1, d2⟩
        go_region_held3 (fun w' : World => w'.cell? ⟨b, off + ((lo + hi) / 2) * 3, none⟩ = some (.int .i64 y.n) ∧ w'.cell? ⟨b, off + ((lo + hi) / 2) * 3 + 1, none⟩ = some (.int .i64 y.r) ∧ w'.cell? ⟨b, off + ((lo + hi) / 2) * 3 + 2, none⟩ = some (.int .i64 y.h) ∧ w'.cell? ⟨w.heap.size, 0, none⟩ = some (.int .i64 x.n) ∧ w'.cell? ⟨w.heap.size, 1, none⟩ = some (.int .i64 x.r) ∧ w'.cell? ⟨w.heap.size, 2, none⟩ = some (.int .i64 x.h)) (first | exact s0 | exact s2) ((go_at_call 195; refine (hcom _).mono ?_; rintro r w5 ⟨rfl, b5⟩; have s2 : (fun w' : World => w'.cell? ⟨b, off + ((lo + hi) / 2) * 3, none⟩ = some (.int .i64 y.n) ∧ w'.cell? ⟨b, off + ((lo + hi) / 2) * 3 + 1, none⟩ = some (.int .i64 y.r) ∧ w'.cell? ⟨b, off + ((lo + hi) / 2) * 3 + 2, none⟩ = some (.int .i64 y.h) ∧ w'.cell? ⟨w.heap.size, 0, none⟩ = some (.int .i64 x.n) ∧ w'.cell? ⟨w.heap.size, 1, none⟩ = some (.int .i64 x.r) ∧ w'.cell? ⟨w.heap.size, 2, none⟩ = some (.int .i64 x.h)) w5 := ⟨keep_cell b5 c0, keep_cell b5 c1, keep_cell b5 c2, keep_cell b5 d0, keep_cell b5 d1, keep_cell b5 d2⟩))
        all_goals
          go_wp2_with fail
          have b6 := (below_drewN b1 1).trans (b5.mono b1.size)
          have o6 := below_own b5 (o1.drewN 1) hol
          exact ⟨⟨(lo + hi) / 2 + 1, hi, by simp, rfl, by omega, hin, HA2, HB, o6, b6⟩, by simp [intOf]; omega⟩
      · have g1 : decide (z < 0) = false := by simpa using hz0
        have HB2 : Hid (∀ t, (lo + hi) / 2 ≤ t → t < n → 0 ≤ cf (at_ l t) x) := Lib.hid (fun t h1 h2 => by
          by_cases h3 : cf (at_ l t) x < 0
          · refine absurd ?_ hz0
            rw [← HZ.out, ← HY.out]
            exact srt_mono HS.out x ((lo + hi) / 2) t h1 (by rw [HL.out]; exact h2) h3
          · omega)
        clear hz0
        have m1 : (0 : Int) ≤ ((lo : Int) + (hi : Int)) / 2 := by omega
        have m2 : ((lo : Int) + (hi : Int)) / 2 < (n : Int) := by omega
        have m3 : (((lo : Int) + (hi : Int)) / 2).toNat = (lo + hi) / 2 := by omega
        go_wp2_with fail
        have s0 : (fun w' : World => w'.cell? ⟨b, off + ((lo + hi) / 2) * 3, none⟩ = some (.int .i64 y.n) ∧ w'.cell? ⟨b, off + ((lo + hi) / 2) * 3 + 1, none⟩ = some (.int .i64 y.r) ∧ w'.cell? ⟨b, off + ((lo + hi) / 2) * 3 + 2, none⟩ = some (.int .i64 y.h) ∧ w'.cell? ⟨w.heap.size, 0, none⟩ = some (.int .i64 x.n) ∧ w'.cell? ⟨w.heap.size, 1, none⟩ = some (.int .i64 x.r) ∧ w'.cell? ⟨w.heap.size, 2, none⟩ = some (.int .i64 x.h)) wr.drew := ⟨c0, c1, c2, d0, d1, d2⟩
        go_region_held3 (fun w' : World => w'.cell? ⟨b, off + ((lo + hi) / 2) * 3, none⟩ = some (.int .i64 y.n) ∧ w'.cell? ⟨b, off + ((lo + hi) / 2) * 3 + 1, none⟩ = some (.int .i64 y.r) ∧ w'.cell? ⟨b, off + ((lo + hi) / 2) * 3 + 2, none⟩ = some (.int .i64 y.h) ∧ w'.cell? ⟨w.heap.size, 0, none⟩ = some (.int .i64 x.n) ∧ w'.cell? ⟨w.heap.size, 1, none⟩ = some (.int .i64 x.r) ∧ w'.cell? ⟨w.heap.size, 2, none⟩ = some (.int .i64 x.h)) (first | exact s0 | exact s2) ((go_at_call 195; refine (hcom _).mono ?_; rintro r w5 ⟨rfl, b5⟩; have s2 : (fun w' : World => w'.cell? ⟨b, off + ((lo + hi) / 2) * 3, none⟩ = some (.int .i64 y.n) ∧ w'.cell? ⟨b, off + ((lo + hi) / 2) * 3 + 1, none⟩ = some (.int .i64 y.r) ∧ w'.cell? ⟨b, off + ((lo + hi) / 2) * 3 + 2, none⟩ = some (.int .i64 y.h) ∧ w'.cell? ⟨w.heap.size, 0, none⟩ = some (.int .i64 x.n) ∧ w'.cell? ⟨w.heap.size, 1, none⟩ = some (.int .i64 x.r) ∧ w'.cell? ⟨w.heap.size, 2, none⟩ = some (.int .i64 x.h)) w5 := ⟨keep_cell b5 c0, keep_cell b5 c1, keep_cell b5 c2, keep_cell b5 d0, keep_cell b5 d1, keep_cell b5 d2⟩))
        all_goals
          go_wp2_with fail
          have b6 := (below_drewN b1 1).trans (b5.mono b1.size)
          have o6 := below_own b5 (o1.drewN 1) hol
          exact ⟨⟨lo, (lo + hi) / 2, rfl, by simp, by omega, by omega, HA, HB2, o6, b6⟩, by simp [intOf]; omega⟩
    · obtain rfl : lo = hi := by omega
      have hP : pos l x = lo := pos_is l lo (by rw [HL.out]; exact hin) HA.out (fun h => by have := HB.out lo (by omega) (by rw [HL.out] at h; exact h); omega)
      have HP := Lib.hid hP
      clear hP
      by_cases hln : lo < n
      · obtain ⟨b, off, rfl, hbl, c0, c1, c2⟩ := prow HR.out b1 hln
        have hcom := fun w => com_any (at_ l lo) x w
        obtain ⟨z, hz⟩ : ∃ z, cf (at_ l lo) x = z := ⟨_, rfl⟩
        have HF : Hid (fndB l x = (z == 0)) := Lib.hid (by
          unfold fndB
          rw [HP.out, HL.out, hz, Bool.eq_iff_iff]
          simp [hln])
        rw [hz] at hcom
        generalize at_ l lo = y at *
        clear hz
        have m1 : (0 : Int) ≤ (lo : Int) := by omega
        have m2 : (lo : Int) < (n : Int) := by omega
        go_wp2_with fail
        have s0 : (fun w' : World => w'.cell? ⟨b, off + lo * 3, none⟩ = some (.int .i64 y.n) ∧ w'.cell? ⟨b, off + lo * 3 + 1, none⟩ = some (.int .i64 y.r) ∧ w'.cell? ⟨b, off + lo * 3 + 2, none⟩ = some (.int .i64 y.h) ∧ w'.cell? ⟨w.heap.size, 0, none⟩ = some (.int .i64 x.n) ∧ w'.cell? ⟨w.heap.size, 1, none⟩ = some (.int .i64 x.r) ∧ w'.cell? ⟨w.heap.size, 2, none⟩ = some (.int .i64 x.h)) wr.drew := ⟨c0, c1, c2, d0, d1, d2⟩
        go_region_held3 (fun w' : World => w'.cell? ⟨b, off + lo * 3, none⟩ = some (.int .i64 y.n) ∧ w'.cell? ⟨b, off + lo * 3 + 1, none⟩ = some (.int .i64 y.r) ∧ w'.cell? ⟨b, off + lo * 3 + 2, none⟩ = some (.int .i64 y.h) ∧ w'.cell? ⟨w.heap.size, 0, none⟩ = some (.int .i64 x.n) ∧ w'.cell? ⟨w.heap.size, 1, none⟩ = some (.int .i64 x.r) ∧ w'.cell? ⟨w.heap.size, 2, none⟩ = some (.int .i64 x.h)) (first | exact s0 | exact s2) ((go_at_call 195; refine (hcom _).mono ?_; rintro r w5 ⟨rfl, b5⟩; have s2 : (fun w' : World => w'.cell? ⟨b, off + lo * 3, none⟩ = some (.int .i64 y.n) ∧ w'.cell? ⟨b, off + lo * 3 + 1, none⟩ = some (.int .i64 y.r) ∧ w'.cell? ⟨b, off + lo * 3 + 2, none⟩ = some (.int .i64 y.h) ∧ w'.cell? ⟨w.heap.size, 0, none⟩ = some (.int .i64 x.n) ∧ w'.cell? ⟨w.heap.size, 1, none⟩ = some (.int .i64 x.r) ∧ w'.cell? ⟨w.heap.size, 2, none⟩ = some (.int .i64 x.h)) w5 := ⟨keep_cell b5 c0, keep_cell b5 c1, keep_cell b5 c2, keep_cell b5 d0, keep_cell b5 d1, keep_cell b5 d2⟩))
        all_goals
          go_wp2_with fail
          go_ret2
          have b6 := (below_drewN b1 1).trans (b5.mono b1.size)
          exact ⟨by rw [HF.out, HP.out]; rfl, b6⟩
      · have HF : Hid (fndB l x = false) := Lib.hid (by
          unfold fndB
          rw [HP.out, HL.out]
          simp
          omega)
        have g1 : decide ((lo : Int) < (n : Int)) = false := by simp; omega
        have g2 : decide (lo < n) = false := by simp; omega
        clear hln hlt
        go_wp2_with fail
        go_quiet (fail)
        go_wp2_with fail
        go_ret2
        exact ⟨by rw [HF.out, HP.out]; rfl, below_drewN b1 _⟩
end Go.Proofs.YtiflmdekcjbmbaaGreat.Pa
