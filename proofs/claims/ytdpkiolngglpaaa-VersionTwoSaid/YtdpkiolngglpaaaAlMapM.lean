/-
  Rows as a map, and as the reference's sixteen rows (chapter 22): the mathematics.
-/
import Derived.Test.YtdpkiolngglpaaaAlRows
import Derived.Test.YtdpkiolngglpaaaAlMath
import Derived.Test.YtdpkiolngglpaaaAlRClean
import Derived.Test.YtdpkiolngglpaaaMapPut
set_option maxRecDepth 100000
namespace Go.Proofs.Ytdpkiolngglpaaa.Al
set_option linter.unusedVariables false
set_option linter.unusedSimpArgs false
open Go.RowKit Lb Cl Ce Mi

/-- The map that the first k rows make. -/
def mk (F : Nat → Rw) : Nat → List (Int × List C)
  | 0 => []
  | k + 1 => upd (mk F k) ((F k).n, (F k).l)
theorem mk_nd (F : Nat → Rw) : ∀ k, ((mk F k).map (·.1)).Nodup
  | 0 => List.nodup_nil
  | k + 1 => upd_nd (mk_nd F k)
theorem allO_cons (e : Int × List C) (L : List (Int × List C)) : (allO (e :: L)).length = e.2.length + (allO L).length := by
  unfold allO ofE
  rw [List.flatMap_cons, List.length_append, List.length_map]
theorem upd_tot : ∀ (L : List (Int × List C)) (e : Int × List C), (allO (upd L e)).length ≤ (allO L).length + e.2.length
  | [], e => by rw [upd, allO_cons]; omega
  | x :: L, e => by
    rw [upd]
    split
    · rw [allO_cons, allO_cons]; omega
    · have := upd_tot L e
      rw [allO_cons, allO_cons]; omega
theorem mk_tot (F : Nat → Rw) : ∀ k, (allO (mk F k)).length ≤ sumR F k
  | 0 => Nat.le_refl _
  | k + 1 => by
    have h1 := mk_tot F k
    have h2 := upd_tot (mk F k) ((F k).n, (F k).l)
    have h3 : sumR F (k + 1) = sumR F k + (F k).l.length := rfl
    rw [mk]
    dsimp only at h2
    omega
/-- The row of node i. -/
def dealt (S : List (Int × List C)) (i : Nat) : List C := ((S.reverse.find? fun e => e.1 == (i : Int)).map (·.2)).getD []
theorem dealt_nil (i : Nat) : dealt [] i = [] := rfl
theorem dealt_snoc (S : List (Int × List C)) (e : Int × List C) (i : Nat) : dealt (S ++ [e]) i = if e.1 = (i : Int) then e.2 else dealt S i := by
  unfold dealt
  rw [List.reverse_append, List.reverse_singleton, List.singleton_append, List.find?_cons]
  by_cases h : e.1 = (i : Int)
  · rw [if_pos h, beq_iff_eq.2 h]
    rfl
  · rw [if_neg h, beq_eq_false_iff_ne.2 h]
theorem dealt_has {S : List (Int × List C)} {i : Nat} (h : 0 < (dealt S i).length) : ∃ e ∈ S, e.1 = (i : Int) ∧ dealt S i = e.2 := by
  unfold dealt at h ⊢
  cases hf : S.reverse.find? (fun e => e.1 == (i : Int)) with
  | none => rw [hf] at h; exact absurd h (by simp)
  | some e =>
    have h1 := List.find?_some hf
    have h2 := List.mem_of_find?_eq_some hf
    exact ⟨e, List.mem_reverse.1 h2, by simpa using h1, rfl⟩
theorem one_key {S : List (Int × List C)} (hn : (S.map (·.1)).Nodup) {a b : Int × List C} (ha : a ∈ S) (hb : b ∈ S) (h : a.1 = b.1) : a = b := by
  induction S with
  | nil => cases ha
  | cons x S ih =>
    rw [List.map_cons, List.nodup_cons] at hn
    rcases List.mem_cons.1 ha with rfl | h1
    · rcases List.mem_cons.1 hb with rfl | h2
      · rfl
      · exact absurd (List.mem_map.2 ⟨b, h2, h.symm⟩) hn.1
    · rcases List.mem_cons.1 hb with rfl | h2
      · exact absurd (List.mem_map.2 ⟨a, h1, h⟩) hn.1
      · exact ih hn.2 h1 h2
theorem dealt_is {S : List (Int × List C)} (hn : (S.map (·.1)).Nodup) {e : Int × List C} {i : Nat} (he : e ∈ S) (h : e.1 = (i : Int)) : dealt S i = e.2 := by
  unfold dealt
  cases hf : S.reverse.find? (fun e => e.1 == (i : Int)) with
  | none =>
    rw [List.find?_eq_none] at hf
    exact absurd (by simpa using h) (hf e (List.mem_reverse.2 he))
  | some x =>
    have h1 := List.find?_some hf
    have h2 := List.mem_reverse.1 (List.mem_of_find?_eq_some hf)
    rw [one_key hn h2 he (by rw [h]; simpa using h1)]
    rfl
/-- How many cells are of what is no node. -/
def oddN : List (Int × List C) → Nat
  | [] => 0
  | e :: S => (if ndB e.1 then 0 else e.2.length) + oddN S
theorem oddN_snoc (e : Int × List C) : ∀ S : List (Int × List C), oddN (S ++ [e]) = oddN S + if ndB e.1 then 0 else e.2.length
  | [] => by
    rw [List.nil_append]
    unfold oddN oddN
    omega
  | x :: S => by
    rw [List.cons_append, oddN, oddN_snoc e S, oddN]
    omega
theorem oddN_le : ∀ S : List (Int × List C), oddN S ≤ (allO S).length
  | [] => Nat.le_refl _
  | e :: S => by
    have := oddN_le S
    rw [oddN, allO_cons]
    split <;> omega
theorem oddN_zero : ∀ {S : List (Int × List C)}, oddN S = 0 ↔ ∀ e ∈ S, e.2.length = 0 ∨ ndB e.1 = true
  | [] => by simp [oddN]
  | x :: S => by
    rw [oddN, Nat.add_eq_zero_iff, oddN_zero]
    constructor
    · intro ⟨h1, h2⟩ e he
      rcases List.mem_cons.1 he with rfl | he
      · cases hb : ndB e.1
        · rw [hb] at h1; exact .inl h1
        · exact .inr rfl
      · exact h2 e he
    · intro h
      refine ⟨?_, fun e he => h e (by simp [he])⟩
      rcases h x (by simp) with h1 | h1
      · split <;> omega
      · rw [if_pos h1]
theorem pair_of {α : Type} {R : α → α → Prop} (hs : ∀ a b, R a b → R b a) : ∀ {l : List α}, l.Pairwise R → ∀ a ∈ l, ∀ b ∈ l, a ≠ b → R a b
  | [], _, a, ha, _, _, _ => absurd ha (by simp)
  | x :: l, h, a, ha, b, hb, hne => by
    rw [List.pairwise_cons] at h
    rcases List.mem_cons.1 ha with rfl | h1
    · rcases List.mem_cons.1 hb with rfl | h2
      · exact absurd rfl hne
      · exact h.1 b h2
    · rcases List.mem_cons.1 hb with rfl | h2
      · exact hs _ _ (h.1 a h1)
      · exact pair_of hs h.2 a h1 b h2 hne
theorem noC_all (L : List (Int × List C)) : NoC (allO L) ↔ (∀ e ∈ L, NoC (ofE e)) ∧ L.Pairwise fun a b => ∀ x ∈ ofE a, ∀ y ∈ ofE b, clashB x.c y.c x.n y.n = false := by
  unfold NoC allO
  rw [List.pairwise_flatMap]
theorem noC_of (e : Int × List C) : NoC (ofE e) ↔ ∀ i, i < e.2.length → ∀ j, j < i → clashB (at_ e.2 i) (at_ e.2 j) e.1 e.1 = false := by
  unfold NoC ofE
  rw [List.pairwise_map, List.pairwise_iff_getElem]
  have hg : ∀ k (hk : k < e.2.length), at_ e.2 k = e.2[k] := fun k hk => by
    unfold at_
    rw [List.getD_eq_getElem?_getD, List.getElem?_eq_getElem hk]
    rfl
  constructor
  · intro h i hi j hj
    have := h j i (by omega) hi hj
    rw [hg i hi, hg j (by omega), clash_comm]
    exact this
  · intro h i j hi hj hij
    have := h j hj i hij
    rw [hg i hi, hg j hj, clash_comm] at this
    exact this
theorem mem_of {e : Int × List C} {x : Ow} (h : x ∈ ofE e) : x.n = e.1 ∧ ∃ j, j < e.2.length ∧ x.c = at_ e.2 j := by
  unfold ofE at h
  obtain ⟨c, hc, rfl⟩ := List.mem_map.1 h
  obtain ⟨j, hj, rfl⟩ := List.mem_iff_getElem.1 hc
  refine ⟨rfl, j, hj, ?_⟩
  unfold at_
  rw [List.getD_eq_getElem?_getD, List.getElem?_eq_getElem hj]
  rfl
theorem of_mem {e : Int × List C} {j : Nat} (hj : j < e.2.length) : (⟨at_ e.2 j, e.1⟩ : Ow) ∈ ofE e := by
  unfold ofE
  refine List.mem_map.2 ⟨_, ?_, rfl⟩
  unfold at_
  rw [List.getD_eq_getElem?_getD, List.getElem?_eq_getElem hj]
  exact List.getElem_mem hj
theorem nd_nat {x : Int} (h : ndB x = true) : ∃ k : Nat, k < 16 ∧ x = (k : Int) := by
  unfold ndB at h
  have : 0 ≤ x ∧ x < 16 := by simpa using h
  exact ⟨x.toNat, by omega, by omega⟩
theorem at_in {l : List C} {k : Nat} (hk : k < l.length) : at_ l k ∈ l := by
  unfold at_
  rw [List.getD_eq_getElem?_getD, List.getElem?_eq_getElem hk]
  exact List.getElem_mem hk
/-- Nothing clashes: as the package says it, as the reference says it. -/
theorem clB_RCn {M : List (Int × List C)} (hn : (M.map (·.1)).Nodup) (hlen : ∀ e ∈ M, e.2.length ≤ 800) : clB M = true ↔ oddN M = 0 ∧ RC (dealt M) := by
  unfold clB
  rw [Bool.and_eq_true, decide_eq_true_iff, List.all_eq_true, noC_all, oddN_zero]
  constructor
  · rintro ⟨h1, h2, h3⟩
    have h3' := pair_of (fun a b h x hx y hy => by rw [clash_comm]; exact h y hy x hx) h3
    refine ⟨fun e he => ?_, fun x hx i hi => ?_⟩
    · have := h1 e he
      unfold okE at this
      rw [Bool.and_eq_true, Bool.or_eq_true] at this
      rcases this.1 with h | h
      · exact .inl (by simpa using h)
      · exact .inr h
    · obtain ⟨e, he, hk, hd⟩ := dealt_has (Nat.lt_of_le_of_lt (Nat.zero_le _) hi)
      have hi2 := hi
      rw [hd] at hi2
      have h5 := h1 e he
      unfold okE at h5
      rw [Bool.and_eq_true, Bool.and_eq_true, List.all_eq_true] at h5
      refine ⟨?_, fun j hj => ?_, fun y hy j hj => ?_⟩
      · rw [hd]
        exact h5.2.2 _ (at_in hi2)
      · have := (noC_of e).1 (h2 e he) i hi2 j hj
        rw [hk] at this
        rw [hd]
        exact this
      · obtain ⟨f, hf, hk2, hd2⟩ := dealt_has (Nat.lt_of_le_of_lt (Nat.zero_le _) hj)
        rw [hd2] at hj
        have := h3' e he f hf (fun q => by rw [q] at hk; rw [hk] at hk2; omega) _ (of_mem hi2) _ (of_mem hj)
        dsimp only at this
        rw [hk, hk2] at this
        rw [hd, hd2]
        exact this
  · rintro ⟨h1, h2⟩
    have hwhere : ∀ e ∈ M, ∀ j, j < e.2.length → ∃ k : Nat, k < 16 ∧ e.1 = (k : Int) ∧ dealt M k = e.2 := fun e he j hj => by
      rcases h1 e he with h | h
      · omega
      · obtain ⟨k, hk, e1⟩ := nd_nat h
        exact ⟨k, hk, e1, dealt_is hn he e1⟩
    refine ⟨fun e he => ?_, fun e he => ?_, ?_⟩
    · unfold okE
      rw [Bool.and_eq_true, Bool.and_eq_true, List.all_eq_true, Bool.or_eq_true]
      refine ⟨?_, by simpa using hlen e he, fun c hc => ?_⟩
      · rcases h1 e he with h | h
        · exact .inl (by simpa using h)
        · exact .inr h
      · obtain ⟨j, hj, rfl⟩ := List.mem_iff_getElem.1 hc
        obtain ⟨k, hk, e1, e2⟩ := hwhere e he j hj
        have := (h2 k hk j (by rw [e2]; exact hj)).1
        rw [e2] at this
        unfold at_ at this
        rw [List.getD_eq_getElem?_getD, List.getElem?_eq_getElem hj] at this
        exact this
    · refine (noC_of e).2 (fun i hi j hj => ?_)
      obtain ⟨k, hk, e1, e2⟩ := hwhere e he i hi
      have := (h2 k hk i (by rw [e2]; exact hi)).2.1 j hj
      rw [e2] at this
      rw [e1]
      exact this
    · have hd : M.Pairwise fun a b => a ≠ b ∧ a ∈ M ∧ b ∈ M ∧ a.1 ≠ b.1 := by
        have hp : M.Pairwise fun a b => a.1 ≠ b.1 := by
          have := hn
          unfold List.Nodup at this
          rw [List.pairwise_map] at this
          exact this
        have := List.Pairwise.and_mem.1 hp
        exact this.imp (fun {a b} h => ⟨fun q => h.2.2 (by rw [q]), h.1, h.2.1, h.2.2⟩)
      refine hd.imp (fun {a b} h x hx y hy => ?_)
      obtain ⟨_, ha, hb, hne⟩ := h
      obtain ⟨x1, i, hi, x2⟩ := mem_of hx
      obtain ⟨y1, j, hj, y2⟩ := mem_of hy
      obtain ⟨k, hk, e1, e2⟩ := hwhere a ha i hi
      obtain ⟨m, hm, f1, f2⟩ := hwhere b hb j hj
      rw [x1, x2, y1, y2, e1, f1]
      rcases Nat.lt_trichotomy k m with h | h | h
      · have := (h2 m hm j (by rw [f2]; exact hj)).2.2 k h i (by rw [e2]; exact hi)
        rw [e2, f2] at this
        rw [clash_comm]
        exact this
      · exact absurd (by rw [e1, f1, h]) hne
      · have := (h2 k hk i (by rw [e2]; exact hi)).2.2 m h j (by rw [f2]; exact hj)
        rw [e2, f2] at this
        exact this
theorem clB_RC {M : List (Int × List C)} (hn : (M.map (·.1)).Nodup) (ht : (allO M).length ≤ 800) : clB M = true ↔ oddN M = 0 ∧ RC (dealt M) := by
  have hlen : ∀ e ∈ M, e.2.length ≤ 800 := fun e he => by
    obtain ⟨A, B, rfl⟩ := List.append_of_mem he
    have : (allO (A ++ e :: B)).length = (allO A).length + (e.2.length + (allO B).length) := by
      rw [← allO_cons]
      unfold allO
      rw [List.flatMap_append, List.length_append]
    omega
  exact clB_RCn hn hlen
end Go.Proofs.Ytdpkiolngglpaaa.Al
