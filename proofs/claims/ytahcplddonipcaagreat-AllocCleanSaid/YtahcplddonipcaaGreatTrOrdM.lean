/-
  By rank, then by number: what a sort that keeps the order of equals makes of ascending nodes.
-/
import Derived.Test.YtahcplddonipcaaGreatTrMath
import Derived.Test.YtahcplddonipcaaGreatCmpInt
import Derived.Test.YtahcplddonipcaaGreatTrWalks
import Derived.Sort.LotA
import Derived.Sort.Lot0
import Derived.Sort.WalkA
import Derived.Shelf.SlSortCmp.Insertion
set_option maxRecDepth 100000
namespace Go.Proofs.YtahcplddonipcaaGreat.Tr
set_option linter.unusedVariables false
set_option linter.unusedSimpArgs false
open Go.RowKit Lb Tp Go.Sort

section
variable {α : Type} [Inhabited α] {lt lt2 : α → α → Bool}
theorem inner_same (a : Nat) : ∀ (j : Nat) (d : Array α), j < d.size → (∀ q, q < j → lt2 d[j]! d[q]! = lt d[j]! d[q]!) → insInner lt2 a j d = insInner lt a j d
  | 0, d, _, _ => by rw [insInner, insInner]
  | j + 1, d, hj, h => by
    rw [insInner, insInner, h j (by omega)]
    split
    · refine inner_same a j _ (by rw [swp_size]; omega) (fun q hq => ?_)
      rw [swp_right d (j + 1) j (by omega), swp_other d (j + 1) j q (by omega) (by omega)]
      exact h q (by omega)
    · rfl
theorem inner_get (a : Nat) : ∀ (j : Nat) (d : Array α) (q : Nat), j < d.size → (j < q → (insInner lt a j d)[q]! = d[q]!) ∧ (q ≤ j → ∃ p, p ≤ j ∧ (insInner lt a j d)[q]! = d[p]!)
  | 0, d, q, _ => by
    rw [insInner]
    exact ⟨fun _ => rfl, fun h => ⟨q, h, rfl⟩⟩
  | j + 1, d, q, hj => by
    rw [insInner]
    split
    · obtain ⟨h1, h2⟩ := inner_get a j (swp d (j + 1) j) q (by rw [swp_size]; omega)
      refine ⟨fun hq => ?_, fun hq => ?_⟩
      · rw [h1 (by omega), swp_other d (j + 1) j q (by omega) (by omega)]
      · by_cases hqj : q ≤ j
        · obtain ⟨p, hp, e⟩ := h2 hqj
          rw [e]
          by_cases hpj : p = j
          · subst hpj
            exact ⟨p + 1, by omega, swp_right d (p + 1) p (by omega)⟩
          · exact ⟨p, by omega, swp_other d (j + 1) j p (by omega) hpj⟩
        · obtain rfl : q = j + 1 := by omega
          rw [h1 (by omega)]
          exact ⟨j, by omega, swp_left d (j + 1) j (by omega) (by omega)⟩
    · exact ⟨fun _ => rfl, fun h => ⟨q, h, rfl⟩⟩
theorem inner_size (a : Nat) : ∀ (j : Nat) (d : Array α), (insInner lt a j d).size = d.size
  | 0, d => by rw [insInner]
  | j + 1, d => by
    rw [insInner]
    split
    · rw [inner_size, swp_size]
    · rfl
theorem outer_same (a b : Nat) : ∀ (n i : Nat) (d : Array α), b - i = n → b ≤ d.size → (∀ p, i ≤ p → p < b → ∀ q, q < p → lt2 d[p]! d[q]! = lt d[p]! d[q]!) → insOuter lt2 a b i d = insOuter lt a b i d
  | 0, i, d, hn, _, _ => by rw [insOuter_stop _ _ _ _ _ (by omega), insOuter_stop _ _ _ _ _ (by omega)]
  | n + 1, i, d, hn, hb, h => by
    rw [insOuter_go lt2 a b i d (by omega), insOuter_go lt a b i d (by omega), inner_same a i d (by omega) (h i (Nat.le_refl _) (by omega))]
    refine outer_same a b n (i + 1) _ (by omega) (by rw [inner_size]; exact hb) (fun p hp hpb q hq => ?_)
    rw [(inner_get (lt := lt) a i d p (by omega)).1 (by omega)]
    by_cases hqi : q ≤ i
    · obtain ⟨s, hs, e⟩ := (inner_get (lt := lt) a i d q (by omega)).2 hqi
      rw [e]
      exact h p (by omega) hpb s (by omega)
    · rw [(inner_get (lt := lt) a i d q (by omega)).1 (by omega)]
      exact h p (by omega) hpb q hq
theorem outer_size (a b : Nat) : ∀ (n i : Nat) (d : Array α), b - i = n → (insOuter lt a b i d).size = d.size
  | 0, i, d, hn => by rw [insOuter_stop _ _ _ _ _ (by omega)]
  | n + 1, i, d, hn => by rw [insOuter_go lt a b i d (by omega), outer_size a b n (i + 1) _ (by omega), inner_size]
theorem sort_size (d : Array α) (a b : Nat) : (insertionSort lt d a b).size = d.size := outer_size a b _ _ d rfl
/-- On an ascending row a sort that keeps equals makes what the finer order makes. -/
theorem sort_same (d : Array α) (h : ∀ p, p < d.size → ∀ q, q < p → lt2 d[p]! d[q]! = lt d[p]! d[q]!) : insertionSort lt2 d 0 d.size = insertionSort lt d 0 d.size :=
  outer_same 0 d.size _ _ d rfl (Nat.le_refl _) (fun p _ hp q hq => h p hp q hq)
end
def cfR (R : Rk) (x y : Fin 16) : Int := cmpI (rkI R x) (rkI R y)
/-- By rank, then by number. -/
def ltR (R : Rk) (x y : Fin 16) : Bool := decide (rkI R x < rkI R y ∨ (rkI R x = rkI R y ∧ x.val < y.val))
theorem cfR_lt (R : Rk) (x y : Fin 16) : ltOf (cfR R) x y = decide (rkI R x < rkI R y) := by
  unfold ltOf cfR cmpI
  by_cases h1 : rkI R x < rkI R y
  · simp [h1]
  · by_cases h2 : rkI R y < rkI R x <;> simp [h1, h2]
theorem swoR (R : Rk) : SWO (ltR R) where
  irrefl x := by unfold ltR; simp
  trans x y z h1 h2 := by unfold ltR at *; simp at *; omega
  ntrans x y z h1 h2 := by unfold ltR at *; simp at *; omega
/-- All that have a rank, by rank, then by number. -/
def rowAt (R : Rk) (r : Nat) : List Nat := (List.range 16).filter fun i => R i == some r
def ordT (R : Rk) : List Nat := (List.range 16).flatMap (rowAt R)
def rowF (R : Rk) (r : Nat) : List (Fin 16) := (List.finRange 16).filter fun i => R i == some r
def ordF (R : Rk) : List (Fin 16) := (List.range 16).flatMap (rowF R)
def rnkF (R : Rk) : List (Fin 16) := (List.finRange 16).filter fun i => (R i).isSome
theorem fin_asc : (List.finRange 16).Pairwise (· < ·) := by decide
theorem ordF_pair (R : Rk) : (ordF R).Pairwise fun x y => ltR R x y = true := by
  unfold ordF
  rw [List.pairwise_flatMap]
  refine ⟨fun r _ => ?_, ?_⟩
  · unfold rowF
    refine List.Pairwise.imp_of_mem ?_ (fin_asc.filter _)
    intro x y hx hy hxy
    have h1 := (List.mem_filter.1 hx).2
    have h2 := (List.mem_filter.1 hy).2
    simp at h1 h2
    unfold ltR rkI
    rw [h1, h2, decide_eq_true_eq]
    exact .inr ⟨rfl, hxy⟩
  · refine List.Pairwise.imp ?_ List.pairwise_lt_range
    intro r s hrs x hx y hy
    have h1 := (List.mem_filter.1 hx).2
    have h2 := (List.mem_filter.1 hy).2
    simp at h1 h2
    unfold ltR rkI
    rw [h1, h2, decide_eq_true_eq]
    left
    simp
    omega
theorem mem_ordF {R : Rk} (hs : ∀ x s, R x = some s → s ≤ 15) (x : Fin 16) : x ∈ ordF R ↔ (R x).isSome = true := by
  unfold ordF rowF
  rw [List.mem_flatMap]
  constructor
  · rintro ⟨r, _, h⟩
    have := (List.mem_filter.1 h).2
    simp at this
    rw [this]
    rfl
  · intro h
    obtain ⟨r, hr⟩ := Option.isSome_iff_exists.1 h
    refine ⟨r, ?_, List.mem_filter.2 ⟨List.mem_finRange x, by simp [hr]⟩⟩
    have := hs _ _ hr
    rw [List.mem_range]
    omega
theorem ordF_perm {R : Rk} (hs : ∀ x s, R x = some s → s ≤ 15) : (ordF R).Perm (rnkF R) := by
  rw [List.perm_ext_iff_of_nodup]
  · intro x
    rw [mem_ordF hs]
    unfold rnkF
    rw [List.mem_filter]
    simp
  · refine (ordF_pair R).imp ?_
    intro x y h e
    subst e
    rw [(swoR R).irrefl] at h
    cases h
  · exact (fin_asc.filter _).imp (fun {x y} h e => by subst e; exact absurd h (by omega))
theorem ord_sorted {R : Rk} (hs : ∀ x s, R x = some s → s ≤ 15) (d : Array (Fin 16)) (hd : d.toList = rnkF R) : (insertionSort (ltOf (cfR R)) d 0 d.size).toList = ordF R := by
  have asc : ∀ p, p < d.size → ∀ q, q < p → ltR R d[p]! d[q]! = ltOf (cfR R) d[p]! d[q]! := fun p hp q hq => by
    have hpw : d.toList.Pairwise (· < ·) := by rw [hd]; exact fin_asc.filter _
    rw [List.pairwise_iff_getElem] at hpw
    have := hpw q p (by simp; omega) (by simpa using hp) hq
    rw [cfR_lt]
    unfold ltR
    rw [getElem!_pos d p hp, getElem!_pos d q (by omega)]
    simp only [Array.getElem_toList] at this
    have h2 : d[q].val < d[p].val := this
    congr 1
    apply propext
    constructor
    · rintro (h | h)
      · exact h
      · omega
    · exact .inl
  rw [← sort_same d asc]
  obtain ⟨hp, hso⟩ := insertionSort_holds (lt := ltR R) (swoR R) d 0 d.size (Nat.zero_le _) (Nat.le_refl _)
  generalize insertionSort (ltR R) d 0 d.size = d' at *
  have hperm : d'.toList.Perm (ordF R) := by
    have := hp.2.2
    rw [← hp.1, Array.extract_size, hp.1, Array.extract_size, hd] at this
    exact this.trans (ordF_perm hs).symm
  refine List.Perm.eq_of_pairwise (le := fun x y => ltR R y x = false) ?_ ?_ ?_ hperm
  · intro x y _ _ h1 h2
    unfold ltR at h1 h2
    simp at h1 h2
    omega
  · rw [List.pairwise_iff_getElem]
    intro i j hi hj hij
    have := hso i j (Nat.zero_le _) hij (by rw [← hp.1]; simpa using hj)
    rw [getElem!_pos d' j (by simpa using hj), getElem!_pos d' i (by simpa using hi)] at this
    simpa using this
  · refine (ordF_pair R).imp ?_
    intro x y h
    unfold ltR at *
    simp at *
    omega
theorem ordF_val (R : Rk) : (ordF R).map Fin.val = ordT R := by
  unfold ordF ordT
  rw [List.map_flatMap]
  congr 1
  funext r
  unfold rowF rowAt
  have : List.range 16 = (List.finRange 16).map Fin.val := by decide
  rw [this, List.filter_map]
  rfl
theorem rnkF_val (R : Rk) : (rnkF R).map Fin.val = (List.range 16).filter fun i => (R i).isSome := by
  unfold rnkF
  have : List.range 16 = (List.finRange 16).map Fin.val := by decide
  rw [this, List.filter_map]
  rfl
end Go.Proofs.YtahcplddonipcaaGreat.Tr
