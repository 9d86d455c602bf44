/-
  The reference's tree (chapter 21): ranks by rounds, parents by qualities: the same as the package's.
-/
import Derived.Test.YthdgnnjnkeljmaaTrFallM
set_option maxRecDepth 100000
namespace Go.Proofs.Ythdgnnjnkeljmaa.Tr
set_option linter.unusedVariables false
open Lb Tp

section
variable {N : Nat} {Q : Nat → Nat → Int} {least : Int} {R R' : Rk}
theorem fin_le (h : Fin_ N Q least R) (h' : Fin_ N Q least R') : ∀ r x, R x = some r → ∃ s, R' x = some s ∧ s ≤ r
  | 0, x, hx => by
    obtain rfl := h.only x hx
    exact ⟨0, h'.root, Nat.le_refl _⟩
  | r + 1, x, hx => by
    obtain ⟨y, hy, hr⟩ := h.up x r hx
    obtain ⟨s, hs, hle⟩ := fin_le h h' r y hr
    obtain ⟨t, ht, hle2⟩ := h'.near y s hs x (near_comm hy)
    exact ⟨t, ht, by omega⟩
theorem fin_unique (h : Fin_ N Q least R) (h' : Fin_ N Q least R') : R = R' := by
  funext x
  cases hx : R x with
  | some r =>
    obtain ⟨s, hs, h1⟩ := fin_le h h' r x hx
    obtain ⟨t, ht, h2⟩ := fin_le h' h s x hs
    rw [hx] at ht
    injection ht with ht
    rw [hs]
    congr 1
    omega
  | none =>
    cases hy : R' x with
    | none => rfl
    | some s =>
      obtain ⟨t, ht, _⟩ := fin_le h' h s x hy
      rw [hx] at ht
      cases ht
/-- One node of a round. -/
def rin (N : Nat) (Q : Nat → Nat → Int) (least : Int) (r : Nat) (R : Rk) (a : Nat) : Rk := if R a = some r then (visits r (R, []) (near N Q a least)).1 else R
def rndK (N : Nat) (Q : Nat → Nat → Int) (least : Int) (r : Nat) (R : Rk) (k : Nat) : Rk := (List.range k).foldl (rin N Q least r) R
def rallK (N : Nat) (Q : Nat → Nat → Int) (least : Int) (k : Nat) : Rk := (List.range k).foldl (fun R r => rndK N Q least r R N) R0
theorem rndK_next (r : Nat) (R : Rk) (k : Nat) : rndK N Q least r R (k + 1) = rin N Q least r (rndK N Q least r R k) k := by
  unfold rndK
  rw [List.range_succ, List.foldl_append]
  rfl
theorem rallK_next (k : Nat) : rallK N Q least (k + 1) = rndK N Q least k (rallK N Q least k) N := by
  unfold rallK
  rw [List.range_succ, List.foldl_append]
  rfl
/-- What holds in round r, k nodes on. -/
structure Jn (N : Nat) (Q : Nat → Nat → Int) (least : Int) (r k : Nat) (R : Rk) : Prop where
  root : R 0 = some 0
  inN : ∀ x s, R x = some s → x < N
  only : ∀ x, R x = some 0 → x = 0
  up : ∀ x s, R x = some (s + 1) → ∃ y, y ∈ near N Q x least ∧ R y = some s
  done : ∀ x s, R x = some s → (s < r ∨ (s = r ∧ x < k)) → ∀ y, y ∈ near N Q x least → ∃ t, R y = some t ∧ t ≤ s + 1
  small : Small R
  le : ∀ x s, R x = some s → s ≤ r + 1
theorem jn_start (hN : 1 ≤ N) : Jn N Q least 0 0 R0 := by
  have h0 : ∀ x s, R0 x = some s → x = 0 ∧ s = 0 := fun x s h => by
    unfold R0 at h
    split at h
    · injection h with h
      exact ⟨by assumption, h.symm⟩
    · cases h
  exact ⟨rfl, fun x s h => by have := (h0 x s h).1; omega, fun x h => (h0 x 0 h).1, fun x s h => by have := (h0 x _ h).2; omega, fun x s h hd => by have := h0 x s h; omega, small_start, fun x s h => by have := (h0 x s h).2; omega⟩
theorem jn_round {r : Nat} (h : Jn N Q least r N R) : Jn N Q least (r + 1) 0 R :=
  ⟨h.root, h.inN, h.only, h.up, fun x s hx hd => h.done x s hx (by have := h.inN x s hx; omega), h.small, fun x s hx => by have := h.le x s hx; omega⟩
theorem jn_step {r k : Nat} (hN : N ≤ 16) (h : Jn N Q least r k R) : Jn N Q least r (k + 1) (rin N Q least r R k) := by
  unfold rin
  by_cases hk : R k = some r
  · rw [if_pos hk]
    obtain ⟨news, _, _, hv⟩ := visits_is r (near N Q k least) R []
    obtain ⟨R', hR'⟩ : ∃ R', (visits r (R, []) (near N Q k least)).1 = R' := ⟨_, rfl⟩
    have hsm := small_visits (r := r) (near N Q k least) (R, []) (fun b hb => by have := (mem_near.1 hb).1; omega) h.small (h.small k r hk)
    rw [hR'] at hv hsm ⊢
    have hold : ∀ x s, R x = some s → R' x = some s := fun x s hx => by rw [hv, hx]; rfl
    have hnew : ∀ x s, R' x = some s → R x = some s ∨ (R x = none ∧ x ∈ near N Q k least ∧ s = r + 1) := fun x s hx => by
      rw [hv] at hx
      cases hR : R x with
      | some t => rw [hR] at hx; exact .inl hx
      | none =>
        rw [hR] at hx
        simp at hx
        exact .inr ⟨rfl, hx.1, hx.2.symm⟩
    have hin : ∀ x, x ∈ near N Q k least → ∃ t, R' x = some t := fun x hx => by
      rw [hv]
      cases hR : R x with
      | some t => exact ⟨t, rfl⟩
      | none => exact ⟨r + 1, by simp [hx]⟩
    refine ⟨hold _ _ h.root, fun x s hx => ?_, fun x hx => ?_, fun x s hx => ?_, fun x s hx hd => ?_, hsm.1, fun x s hx => ?_⟩
    · rcases hnew x s hx with h1 | ⟨_, h1, _⟩
      · exact h.inN x s h1
      · exact (mem_near.1 h1).1
    · rcases hnew x 0 hx with h1 | ⟨_, _, h1⟩
      · exact h.only x h1
      · omega
    · rcases hnew x _ hx with h1 | ⟨_, h1, h2⟩
      · obtain ⟨y, hy, hs⟩ := h.up x s h1
        exact ⟨y, hy, hold _ _ hs⟩
      · exact ⟨k, near_comm h1, by rw [hold _ _ hk]; congr 1; omega⟩
    · rcases hnew x s hx with h1 | ⟨_, h1, h2⟩
      · by_cases hxk : s = r ∧ x = k
        · obtain ⟨rfl, rfl⟩ := hxk
          intro y hy
          obtain ⟨t, ht⟩ := hin y hy
          refine ⟨t, ht, ?_⟩
          rcases hnew y t ht with h3 | ⟨_, _, h3⟩
          · exact h.le y t h3
          · omega
        · intro y hy
          obtain ⟨t, ht, hle⟩ := h.done x s h1 (by omega) y hy
          exact ⟨t, hold _ _ ht, hle⟩
      · omega
    · rcases hnew x s hx with h1 | ⟨_, _, h1⟩
      · exact h.le x s h1
      · omega
  · rw [if_neg hk]
    refine ⟨h.root, h.inN, h.only, h.up, fun x s hx hd => ?_, h.small, h.le⟩
    by_cases hxk : x = k
    · subst hxk
      have : s ≠ r := fun e => hk (by rw [hx, e])
      exact h.done x s hx (by omega)
    · exact h.done x s hx (by omega)
theorem jn_rnd {r k : Nat} (hN : N ≤ 16) (h : Jn N Q least r 0 R) : ∀ k, Jn N Q least r k (rndK N Q least r R k)
  | 0 => h
  | k + 1 => by
    rw [rndK_next]
    exact jn_step hN (jn_rnd (k := 0) hN h k)
theorem jn_all (hN1 : 1 ≤ N) (hN : N ≤ 16) : ∀ r, Jn N Q least r 0 (rallK N Q least r)
  | 0 => jn_start hN1
  | r + 1 => by
    rw [rallK_next]
    exact jn_round (jn_rnd (k := 0) hN (jn_all hN1 hN r) N)
theorem left_ge (hN : N ≤ 16) (h : ∀ x s, R x = some s → x < N) : 16 - N ≤ left R := by
  unfold left
  have e : List.range 16 = List.range N ++ (List.range (16 - N)).map (fun x => N + x) := by
    rw [← List.range_add, show N + (16 - N) = 16 by omega]
  rw [e, List.countP_append]
  have : ((List.range (16 - N)).map (fun x => N + x)).countP (fun i => (R i).isNone) = 16 - N := by
    rw [List.countP_eq_length.2, List.length_map, List.length_range]
    intro x hx
    obtain ⟨y, _, rfl⟩ := List.mem_map.1 hx
    cases hR : R (N + y) with
    | none => rfl
    | some s => have := h _ _ hR; omega
  omega
theorem rall_fin (hN1 : 1 ≤ N) (hN : N ≤ 16) : Fin_ N Q least (rallK N Q least N) ∧ ∀ x s, rallK N Q least N x = some s → s ≤ 15 := by
  have h := jn_all (Q := Q) (least := least) hN1 hN N
  have hl := left_ge hN h.inN
  refine ⟨⟨h.root, h.inN, h.only, h.up, fun x s hx => h.done x s hx (by have := h.small x s hx; omega)⟩, fun x s hx => by have := h.small x s hx; omega⟩
/-! ### Parents by qualities -/
def candR (N : Nat) (Q : Nat → Nat → Int) (least : Int) (R : Rk) (n : Nat) : List Nat := (near N Q n least).filter (isC R n)
def selQ (N : Nat) (Q : Nat → Nat → Int) (least : Int) (R : Rk) (n : Nat) (q : Nat) : List Nat := (candR N Q least R n).filter fun b => decide (qual N Q n b = ((255 - q : Nat) : Int))
def selAll (N : Nat) (Q : Nat → Nat → Int) (least : Int) (R : Rk) (n k : Nat) : List Nat := (List.range k).flatMap (selQ N Q least R n)
theorem near_asc (N : Nat) (Q : Nat → Nat → Int) (a least : Int) : (near N Q a least).Pairwise (· < ·) := nr_sorted N
theorem sel_pair (n : Nat) : (selAll N Q least R n 255).Pairwise fun x y => ltQ N Q n x y = true := by
  unfold selAll
  rw [List.pairwise_flatMap]
  refine ⟨fun q _ => ?_, ?_⟩
  · unfold selQ candR
    refine List.Pairwise.imp_of_mem ?_ (((near_asc N Q n least).filter _).filter _)
    intro x y hx hy hxy
    have h1 := (List.mem_filter.1 hx).2
    have h2 := (List.mem_filter.1 hy).2
    rw [decide_eq_true_eq] at h1 h2
    unfold ltQ
    rw [h1, h2, decide_eq_true_eq]
    exact .inr ⟨rfl, hxy⟩
  · refine List.Pairwise.imp_of_mem ?_ List.pairwise_lt_range
    intro r s hr hs hrs x hx y hy
    have h1 := (List.mem_filter.1 hx).2
    have h2 := (List.mem_filter.1 hy).2
    rw [decide_eq_true_eq] at h1 h2
    rw [List.mem_range] at hr hs
    unfold ltQ
    rw [h1, h2, decide_eq_true_eq]
    left
    omega
theorem qual_bd (hF : Fine N Q) (a b : Nat) : 0 ≤ qual N Q a b ∧ qual N Q a b ≤ 255 := by
  unfold qual
  split
  · have h1 := hF.2.2 (a : Int).toNat (b : Int).toNat
    have h2 := hF.2.2 (b : Int).toNat (a : Int).toNat
    omega
  · omega
theorem mem_sel (hF : Fine N Q) (n x : Nat) : x ∈ selAll N Q least R n 255 ↔ x ∈ candR N Q least R n := by
  unfold selAll
  rw [List.mem_flatMap]
  constructor
  · rintro ⟨q, _, h⟩
    exact (List.mem_filter.1 h).1
  · intro h
    have h1 := (mem_near.1 (List.mem_filter.1 h).1).2.1
    have h2 := qual_bd hF n x
    refine ⟨255 - (qual N Q n x).toNat, ?_, List.mem_filter.2 ⟨h, ?_⟩⟩
    · rw [List.mem_range]; omega
    · rw [decide_eq_true_eq]; omega
theorem ltQ_irr (n x : Nat) : ltQ N Q n x x = false := by
  unfold ltQ
  rw [decide_eq_false_iff_not]
  omega
theorem sel_sorted (hF : Fine N Q) (n : Nat) : selAll N Q least R n 255 = (candR N Q least R n).mergeSort fun x y => !ltQ N Q n y x := by
  have hnd : (selAll N Q least R n 255).Nodup := (sel_pair n).imp (fun {x y} h e => by rw [e, ltQ_irr] at h; cases h)
  have hnd2 : (candR N Q least R n).Nodup := ((near_asc N Q n least).filter _).imp (fun {x y} h e => by omega)
  have hp : (selAll N Q least R n 255).Perm (candR N Q least R n) := by
    rw [List.perm_iff_count]
    intro x
    have := mem_sel (least := least) (R := R) hF n x
    by_cases hx : x ∈ candR N Q least R n
    · rw [hnd.count, if_pos (this.2 hx), hnd2.count, if_pos hx]
    · rw [hnd.count, if_neg (fun h => hx (this.1 h)), hnd2.count, if_neg hx]
  have hs := List.pairwise_mergeSort (le := fun x y => !ltQ N Q n y x) (fun a b c h1 h2 => by
      unfold ltQ at *
      simp at h1 h2 ⊢
      omega) (fun a b => by
      unfold ltQ
      simp
      omega) (candR N Q least R n)
  refine List.Perm.eq_of_pairwise (le := fun x y => ltQ N Q n y x = false) (fun a b _ _ h1 h2 => ?_) ?_ ?_ (hp.trans (List.mergeSort_perm _ _).symm)
  · unfold ltQ at h1 h2
    rw [decide_eq_false_iff_not] at h1 h2
    omega
  · refine (sel_pair n).imp (fun {x y} h => ?_)
    unfold ltQ at h ⊢
    rw [decide_eq_true_eq] at h
    rw [decide_eq_false_iff_not]
    omega
  · refine hs.imp (fun {x y} h => ?_)
    simpa using h
theorem par_sel (hF : Fine N Q) (n : Nat) : (selAll N Q least R n 255).take 2 = par N Q least R n := by
  rw [sel_sorted hF]
  rfl
end
end Go.Proofs.Ythdgnnjnkeljmaa.Tr
