/-
  Links (chapter 20): the graph as a function of two places; what a report makes of it, who is near, who is forgotten.
-/
import Derived.Test.YtahcplddonipcaaGreatMid
import Derived.Lib.Hide
set_option maxRecDepth 100000
namespace Go.Proofs.YtahcplddonipcaaGreat.Tp
set_option linter.unusedVariables false
set_option linter.unusedSimpArgs false
open Go.RowKit Lb

def gv (N : Nat) (Q : Nat → Nat → Int) (j : Nat) : Value := .int .i64 (if j = 0 then (N : Int) else Q ((j - 1) / 16) ((j - 1) % 16))
def Gr (w : World) (g : Nat) (t : TypeId) (N : Nat) (Q : Nat → Nat → Int) : Prop := Blk w g t 257 (gv N Q)
theorem Gr.n {w : World} {g : Nat} {t : TypeId} {N : Nat} {Q : Nat → Nat → Int} (h : Gr w g t N Q) : w.cell? ⟨g, 0, none⟩ = some (.int .i64 (N : Int)) := Blk.cell h (by decide)
theorem Gr.q {w : World} {g : Nat} {t : TypeId} {N : Nat} {Q : Nat → Nat → Int} (h : Gr w g t N Q) {a b : Nat} (ha : a < 16) (hb : b < 16) : w.cell? ⟨g, 1 + a * 16 + b, none⟩ = some (.int .i64 (Q a b)) := by
  rw [Blk.cell h (i := 1 + a * 16 + b) (by omega)]
  unfold gv
  rw [if_neg (by omega), show (1 + a * 16 + b - 1) / 16 = a by omega, show (1 + a * 16 + b - 1) % 16 = b by omega]
theorem Gr.f {w : World} {g : Nat} {t : TypeId} {N : Nat} {Q : Nat → Nat → Int} (h : Gr w g t N Q) (i : Nat) : w.frozen? ⟨g, i, none⟩ = false := Blk.free h i
theorem Gr.lt {w : World} {g : Nat} {t : TypeId} {N : Nat} {Q : Nat → Nat → Int} (h : Gr w g t N Q) : g < w.heap.size := Blk.lt h
theorem Gr.ext {w : World} {g : Nat} {t : TypeId} {N : Nat} {Q R : Nat → Nat → Int} (h : Gr w g t N Q) (hq : ∀ a b, a < 16 → b < 16 → Q a b = R a b) : Gr w g t N R :=
  Blk.ext h fun i hi => by
    unfold gv
    by_cases h0 : i = 0
    · rw [if_pos h0, if_pos h0]
    · rw [if_neg h0, if_neg h0, hq _ _ (by omega) (by omega)]
theorem Gr.put {w : World} {g : Nat} {t : TypeId} {N : Nat} {Q : Nat → Nat → Int} (h : Gr w g t N Q) {a b : Nat} (ha : a < 16) (hb : b < 16) (x : Int) :
    Gr (w.setCell ⟨g, 1 + a * 16 + b, none⟩ (.int .i64 x)) g t N (fun i j => if i = a ∧ j = b then x else Q i j) :=
  Blk.ext (Blk.put h (1 + a * 16 + b) (.int .i64 x)) fun i hi => by
    unfold gv
    dsimp only
    by_cases h0 : i = 1 + a * 16 + b
    · subst h0
      rw [if_pos rfl, if_neg (by omega), if_pos ⟨by omega, by omega⟩]
    · rw [if_neg h0]
      by_cases h1 : i = 0
      · rw [if_pos h1, if_pos h1]
      · rw [if_neg h1, if_neg h1, if_neg (by omega)]
/-- A row is stored. -/
theorem Gr.row {w : World} {g : Nat} {t : TypeId} {N : Nat} {Q : Nat → Nat → Int} (h : Gr w g t N Q) {a : Nat} (ha : a < 16) (R : Nat → Int) (vs : List Value) (hl : vs.length = 16) (hv : ∀ j, j < 16 → vs.getD j undef = .int .i64 (R j)) :
    Gr (w.setCells g (1 + a * 16) vs) g t N (fun i j => if i = a then R j else Q i j) :=
  Blk.ext (Blk.puts vs (1 + a * 16) h) fun i hi => by
    rw [putL_at, hl]
    unfold gv
    dsimp only
    by_cases h0 : 1 + a * 16 ≤ i ∧ i < 1 + a * 16 + 16
    · rw [if_pos h0, hv _ (by omega), if_neg (by omega), if_pos (by omega), show (i - 1) % 16 = i - (1 + a * 16) by omega]
    · rw [if_neg h0]
      by_cases h1 : i = 0
      · rw [if_pos h1, if_pos h1]
      · rw [if_neg h1, if_neg h1, if_neg (by omega)]

def hasB (N : Nat) (x : Int) : Bool := decide (0 ≤ x ∧ x < (N : Int))
def qual (N : Nat) (Q : Nat → Nat → Int) (a b : Int) : Int := if hasB N a = true ∧ hasB N b = true then min (Q a.toNat b.toNat) (Q b.toNat a.toNat) else 0
def nr (N : Nat) (Q : Nat → Nat → Int) (a least : Int) : Nat → List Nat
  | 0 => []
  | k + 1 => nr N Q a least k ++ if 0 < qual N Q a k ∧ least ≤ qual N Q a k then [k] else []
def near (N : Nat) (Q : Nat → Nat → Int) (a least : Int) : List Nat := nr N Q a least N
def gone (Q : Nat → Nat → Int) (n : Nat) (i j : Nat) : Int := if i = n ∨ j = n then 0 else Q i j
def goneTo (N : Nat) (Q : Nat → Nat → Int) (x : Int) : Nat → Nat → Int := if hasB N x = true then gone Q x.toNat else Q

structure Lk where
  a : Int
  b : Int
  q : Int
def Lk.vals (x : Lk) : Array Value := #[.int .i64 x.a, .int .i64 x.b, .int .i64 x.q]
def lv (L : Nat → Lk) (q : Nat) : Value := ((L (q / 3)).vals[q % 3]?).getD undef
theorem lv0 (L : Nat → Lk) (k : Nat) : lv L (k * 3) = .int .i64 (L k).a := by
  unfold lv; rw [show k * 3 / 3 = k by omega, show k * 3 % 3 = 0 by omega]; rfl
theorem lv1 (L : Nat → Lk) (k : Nat) : lv L (k * 3 + 1) = .int .i64 (L k).b := by
  unfold lv; rw [show (k * 3 + 1) / 3 = k by omega, show (k * 3 + 1) % 3 = 1 by omega]; rfl
theorem lv2 (L : Nat → Lk) (k : Nat) : lv L (k * 3 + 2) = .int .i64 (L k).q := by
  unfold lv; rw [show (k * 3 + 2) / 3 = k by omega, show (k * 3 + 2) % 3 = 2 by omega]; rfl
theorem lrow {w w' : World} {a : Option Addr} {n k : Nat} {L : Nat → Lk} (h : Row w a (n * 3) (lv L)) (hb : Below w.heap.size w w') (hk : k < n) :
    ∃ b off, a = some ⟨b, off, none⟩ ∧ b < w.heap.size ∧ w'.cell? ⟨b, off + k * 3, none⟩ = some (.int .i64 (L k).a) ∧ w'.cell? ⟨b, off + k * 3 + 1, none⟩ = some (.int .i64 (L k).b) ∧ w'.cell? ⟨b, off + k * 3 + 2, none⟩ = some (.int .i64 (L k).q) := by
  obtain ⟨b, off, h1, h2, h3⟩ := h.at_struct hb hk (by decide)
  exact ⟨b, off, h1, h2, (h3 0 (by decide)).trans (congrArg some (lv0 L k)), (h3 1 (by decide)).trans (congrArg some (lv1 L k)), (h3 2 (by decide)).trans (congrArg some (lv2 L k))⟩

/-- What a report's first k links say: the row, who has been named, whether all is in order. -/
def rowR (L : Nat → Lk) : Nat → Nat → Int
  | 0 => fun _ => 0
  | k + 1 => fun j => if j = (L k).b.toNat then (L k).q else rowR L k j
def seenR (L : Nat → Lk) : Nat → Nat → Bool
  | 0 => fun _ => false
  | k + 1 => fun j => if j = (L k).b.toNat then true else seenR L k j
def good1 (N : Nat) (me : Int) (L : Nat → Lk) (k : Nat) : Bool :=
  (L k).a == me && (L k).b != me && hasB N (L k).b && decide (0 ≤ (L k).q ∧ (L k).q ≤ 255) && !seenR L k (L k).b.toNat
def okR (N : Nat) (me : Int) (L : Nat → Lk) : Nat → Bool
  | 0 => true
  | k + 1 => okR N me L k && good1 N me L k
def repB (N : Nat) (me : Int) (L : Nat → Lk) (n : Nat) : Bool := hasB N me && decide (n ≤ 16) && okR N me L n
def repTo (N : Nat) (Q : Nat → Nat → Int) (me : Int) (L : Nat → Lk) (n : Nat) : Nat → Nat → Int := if repB N me L n = true then fun i j => if i = me.toNat then rowR L n j else Q i j else Q
def repN (N : Nat) (me : Int) (L : Nat → Lk) (n : Nat) : Int := if repB N me L n = true then 0 else 1
theorem rep_no {N : Nat} {Q : Nat → Nat → Int} {me : Int} {L : Nat → Lk} {n : Nat} (h : repB N me L n = false) : repN N me L n = 1 ∧ repTo N Q me L n = Q := by
  unfold repN repTo
  rw [h]
  exact ⟨rfl, rfl⟩
theorem rep_yes {N : Nat} {Q : Nat → Nat → Int} {m : Nat} {L : Nat → Lk} {n : Nat} (h : repB N m L n = true) : repN N m L n = 0 ∧ repTo N Q m L n = fun i j => if i = m then rowR L n j else Q i j := by
  unfold repN repTo
  rw [h]
  exact ⟨rfl, rfl⟩
theorem okR_false {N : Nat} {me : Int} {L : Nat → Lk} {k n : Nat} (h : good1 N me L k = false) (hk : k < n) : okR N me L n = false := by
  induction n with
  | zero => omega
  | succ n ih =>
    unfold okR
    by_cases h2 : k = n
    · subst h2; rw [h, Bool.and_false]
    · rw [ih (by omega), Bool.false_and]
theorem good_cases (N : Nat) (me : Int) (L : Nat → Lk) (k : Nat) (hN : N ≤ 16) :
    (good1 N me L k = false ∧ ((L k).a == me) = false) ∨ (good1 N me L k = false ∧ (L k).a = me ∧ (L k).b = me) ∨
    (good1 N me L k = false ∧ (L k).a = me ∧ ((L k).b == me) = false ∧ hasB N (L k).b = false) ∨
    (∃ b : Nat, b < N ∧ (L k).b = (b : Int) ∧ (L k).a = me ∧ ((L k).b == me) = false ∧ hasB N (L k).b = true ∧
      ((good1 N me L k = false ∧ (L k).q < 0) ∨ (good1 N me L k = false ∧ 0 ≤ (L k).q ∧ 255 < (L k).q) ∨ (good1 N me L k = false ∧ 0 ≤ (L k).q ∧ (L k).q ≤ 255 ∧ seenR L k b = true) ∨
        (good1 N me L k = true ∧ 0 ≤ (L k).q ∧ (L k).q ≤ 255 ∧ seenR L k b = false))) := by
  by_cases h1 : (L k).a = me
  · by_cases h2 : (L k).b = me
    · exact .inr (.inl ⟨by unfold good1; simp [h2], h1, h2⟩)
    · cases h3 : hasB N (L k).b
      · exact .inr (.inr (.inl ⟨by unfold good1; simp [h3], h1, by simpa using h2, rfl⟩))
      · have h3' := h3
        unfold hasB at h3'
        simp only [decide_eq_true_eq] at h3'
        obtain ⟨b, hb⟩ := Int.eq_ofNat_of_zero_le h3'.1
        have hbt : (L k).b.toNat = b := by omega
        refine .inr (.inr (.inr ⟨b, by omega, hb, h1, by simpa using h2, rfl, ?_⟩))
        by_cases h4 : (L k).q < 0
        · exact .inl ⟨by unfold good1; rw [decide_eq_false (by omega)]; simp, h4⟩
        · by_cases h5 : 255 < (L k).q
          · exact .inr (.inl ⟨by unfold good1; rw [decide_eq_false (by omega)]; simp, by omega, h5⟩)
          · cases h6 : seenR L k b
            · refine .inr (.inr (.inr ⟨?_, by omega, by omega, rfl⟩))
              unfold good1
              rw [hbt, h6, h3, decide_eq_true (by omega), h1]
              simp [h2]
            · exact .inr (.inr (.inl ⟨by unfold good1; rw [hbt, h6]; simp, by omega, by omega, rfl⟩))
  · exact .inl ⟨by unfold good1; simp [h1], by simpa using h1⟩
end Go.Proofs.YtahcplddonipcaaGreat.Tp
