/-
  Joining (chapter 18): what bytes grant; a reader beside rows of another kind that grow.
-/
import Derived.Test.YtphiohdhgkpgnaaJoGive
import Derived.Test.YtphiohdhgkpgnaaOwnK
set_option maxRecDepth 100000
namespace Go.Proofs.Ytphiohdhgkpgnaa.Jo
set_option linter.unusedVariables false
open Go.RowKit Lb Go.Shelf Bf Se Cl

def cellAt (l : List Int) (i : Nat) : C := ⟨l.getD i 0, l.getD (i + 1) 0, l.getD (i + 2) 0, l.getD (i + 3) 0, l.getD (i + 4) 0⟩
/-- The error behind k cells, m more to come. -/
def gE (l : List Int) : Nat → Nat → Int
  | k, 0 => if l.length < 6 + 5 * k + 4 then 2 else if l.length ≠ 6 + 5 * k + 4 then 3 else 0
  | k, m + 1 => if l.length < 6 + 5 * k + 5 then 2 else if (cellAt l (6 + 5 * k)).may = false then 3 else gE l (k + 1) m
def give2 (l : List Int) : Int := if l.length < 6 then 2 else if 8 < l.getD 5 0 then 3 else gE l 0 (l.getD 5 0).toNat
def giveR2 (nd : Int) (l : List Int) : Gt := ⟨nd, l.getD 0 0, n4 l 1, (l.getD 5 0).toNat, fun k => cellAt l (6 + 5 * k), n4 l (6 + 5 * (l.getD 5 0).toNat)⟩
theorem gE_ok {l : List Int} : ∀ {m k : Nat}, gE l k m = 0 → l.length = 6 + 5 * (k + m) + 4 ∧ ∀ j, k ≤ j → j < k + m → (cellAt l (6 + 5 * j)).may = true
  | 0, k, h => by
    unfold gE at h
    split at h
    · cases h
    · split at h
      · cases h
      · exact ⟨by omega, fun j h1 h2 => by omega⟩
  | m + 1, k, h => by
    unfold gE at h
    split at h
    · cases h
    · split at h
      · cases h
      · rename_i h1 h2
        obtain ⟨h3, h4⟩ := gE_ok h
        refine ⟨by omega, fun j h5 h6 => ?_⟩
        by_cases e : j = k
        · subst e
          simpa using h2
        · exact h4 j (by omega) (by omega)
/-- What is granted by bytes: the error, the grant. -/
def giveE (l : List Int) : Int :=
  if l.length < 1 then 2 else if l.getD 0 0 ≠ 71 then 3 else
  if l.length < 2 then 2 else if nodeB (l.getD 1 0) = false then 3 else give2 (l.drop 2)
def giveN : Gt := ⟨0, 0, 0, 0, fun _ => ⟨0, 0, 0, 0, 0⟩, 0⟩
def giveR (l : List Int) : Gt := if giveE l = 0 then giveR2 (l.getD 1 0) (l.drop 2) else giveN
theorem give2_ok {l : List Int} (h : give2 l = 0) : 6 ≤ l.length ∧ l.getD 5 0 ≤ 8 ∧ l.length = 6 + 5 * (l.getD 5 0).toNat + 4 ∧ ∀ j, j < (l.getD 5 0).toNat → (cellAt l (6 + 5 * j)).may = true := by
  unfold give2 at h
  split at h
  · cases h
  · split at h
    · cases h
    · obtain ⟨h1, h2⟩ := gE_ok h
      exact ⟨by omega, by omega, by omega, fun j hj => h2 j (Nat.zero_le _) (by omega)⟩
theorem mineK_just {w w' : World} {base b s : Nat} {e : TypeId} {v : Value} {n : Nat} {V : Nat → Value} (h : MineK w base e s v n V) (j : Just b w w') (hb : b < base) : MineK w' base e s v n V :=
  h.kept (fun q hq => if hl : q < w.heap.size then .inl (j.block q hl (by omega)) else .inr (fun e => hl (h.lt q e).2))
/-- A reader is left as it is by what turns rows of another kind. -/
theorem Rb.keep {w w' : World} {base b : Nat} {l : List Int} {err : Int} (h : Rb w base b l err) (hk : ∀ q t cs, (t = 5 ∨ t = 115) → Own w q t cs → w'.heap[q]? = w.heap[q]?) : Rb w' base b l err := by
  obtain ⟨j, n, Z, v, h1, h2, h3, h4⟩ := h
  refine ⟨j, n, Z, v, ⟨(hk b _ _ (.inr rfl) h1.own).trans h1.own, ?_, h1.lt, h1.low⟩, h2, h3, h4⟩
  rcases h1.row.2 with ⟨e1, e2⟩ | ⟨g, cap, cur, e1, e2, e3, e4⟩
  · exact ⟨h1.row.1, .inl ⟨e1, e2⟩⟩
  · exact ⟨h1.row.1, .inr ⟨g, cap, cur, e1, e2, (hk g _ _ (.inl rfl) e3).trans e3, e4⟩⟩
/-- What grows is of cells. -/
theorem grown_keep {w w' : World} {base : Nat} {e : TypeId} {s : Nat} {v : Value} {n : Nat} {V : Nat → Value} (hv : MineK w base e s v n V) (hg : w.grownBy w' v.ownBlock) (h1 : e ≠ 5) (h2 : e ≠ 115) :
    ∀ q t cs, (t = 5 ∨ t = 115) → Own w q t cs → w'.heap[q]? = w.heap[q]? := by
  intro q t cs ht ho
  refine hg.block q ho.lt (fun eq => ?_)
  rcases hv.2 with ⟨rfl, _⟩ | ⟨g, cap, cur, rfl, _, e3, _⟩
  · cases eq
  · have : q = g := by
      have h : some q = some g := eq
      injection h
    subst this
    have e4 : w.heap[q]? = some (.cells cs t (0, 0)) := ho
    rw [e3] at e4
    injection e4 with e4
    injection e4 with e5 e6
    rcases ht with rfl | rfl
    · exact h1 e6
    · exact h2 e6
theorem lft_zero (l : List Int) : lft l 0 = l := by rw [lft_yes (Nat.zero_le _)]; rfl
theorem er_zero (l : List Int) : er l 0 0 = 0 := er_yes (Nat.zero_le _)
theorem lft_getD {l : List Int} {k : Nat} (h : k ≤ l.length) (i : Nat) : (lft l k).getD i 0 = l.getD (k + i) 0 := by rw [lft_yes h, getD_drop]
theorem cinfo : (Try.prog.info? 62).map (fun i => (i.zero, i.size, i.bytes)) = some (some (.agg #[.int .i64 0, .int .i64 0, .int .i64 0, .int .i64 0, .int .i64 0]), 5, 40) := by kernel_rfl
theorem cv_one (L : Nat → C) (q : Nat) : (cv L q).oneCell' = true := by
  unfold cv
  have hq : q % 5 < 5 := Nat.mod_lt _ (by decide)
  generalize L (q / 5) = x
  rcases (show q % 5 = 0 ∨ q % 5 = 1 ∨ q % 5 = 2 ∨ q % 5 = 3 ∨ q % 5 = 4 by omega) with e | e | e | e | e <;> rw [e] <;> rfl
theorem cv_snoc {L : Nat → C} {x : C} {k i : Nat} (hx : L k = x) (hi : i < (k + 1) * 5) : (if i < k * 5 then cv L i else cv (fun _ => x) (i - k * 5)) = cv L i := by
  by_cases h : i < k * 5
  · rw [if_pos h]
  · rw [if_neg h]
    unfold cv
    rw [show i / 5 = k by omega, hx, show (i - k * 5) % 5 = i % 5 by omega]
end Go.Proofs.Ytphiohdhgkpgnaa.Jo
