/-
  Deal (chapter 22), what follows: with as many slots as there are links all get theirs; one slot is too few for any.
-/
import Derived.Test.YtahcplddonipcaaGreatAlDeM
set_option maxRecDepth 100000
namespace Go.Proofs.YtahcplddonipcaaGreat.Al
set_option linter.unusedVariables false
set_option linter.unusedSimpArgs false
open Go.RowKit Lb Cl Ce

theorem may_s {f : Int} {s ch y : Nat} (hf : 0 ≤ f ∧ f < 4) (hs : s < 200) (hc : ch < 16) (hy : y < 16) : (sC f s ch y).may = true := by
  unfold C.may sC mayC inB peB opB
  dsimp only
  simp
  omega
theorem may_h {f : Int} {s ch x : Nat} {o : Int} (hf : 0 ≤ f ∧ f < 4) (hs : s < 200) (hc : ch < 16) (hx : x < 16) (ho : o = 2 ∨ o = 10) : (hC f s ch o x).may = true := by
  unfold C.may hC mayC inB peB opB
  dsimp only
  rcases ho with rfl | rfl
  · simp
    omega
  · simp
    omega
/-- In other slots cells that may be do not clash. -/
theorem clash_slot {a b : C} {x y : Int} (ha : a.may = true) (hb : b.may = true) (hx : ndB x = true) (hy : ndB y = true) (h : a.s ≠ b.s) : clashB a b x y = false := by
  unfold clashB okB apartB
  rw [ha, hb, hx, hy]
  have : (a.s != b.s) = true := by simpa using h
  rw [this]
  simp
/-- One node has but one cell in a slot. -/
theorem clash_own {a b : C} {x : Int} (hf : a.f = b.f) (hs : a.s = b.s) : clashB a b x x = true := by
  unfold clashB apartB nearB linkB
  rw [hf, hs]
  simp
theorem nd_of {x : Nat} (h : x < 16) : ndB (x : Int) = true := by
  unfold ndB
  rw [decide_eq_true_eq]
  omega
/-- What was dealt: cells that may be, of slotframe f, in the slots U. -/
structure Us (F : Hs) (f : Int) (U : List Nat) : Prop where
  ok : ∀ y, y < 16 → ∀ o ∈ F y, o.may = true ∧ o.f = f ∧ ∃ s ∈ U, o.s = ((s : Nat) : Int)
  few : ∀ y, (F y).length ≤ U.length
theorem us_free {F : Hs} {f : Int} {U : List Nat} (h : Us F f U) {s : Nat} (hs : s ∉ U) {c : C} {x : Int} (hc : c.may = true) (hcs : c.s = (s : Int)) (hx : ndB x = true) : fitsF F c x = true := by
  rw [fitsF_yes]
  intro y hy o ho
  obtain ⟨h1, _, t, ht, h2⟩ := h.ok y hy o ho
  refine clash_slot hc h1 hx (nd_of hy) (fun e => hs ?_)
  rw [hcs, h2] at e
  have : s = t := by omega
  rw [this]
  exact ht
theorem nodup_le : ∀ (l U : List Nat), l.Nodup → (∀ x ∈ l, x ∈ U) → l.length ≤ U.length
  | [], _, _, _ => Nat.zero_le _
  | x :: l, U, hn, h => by
    rw [List.nodup_cons] at hn
    have hx := h x (by simp)
    have := nodup_le l (U.erase x) hn.2 (fun y hy => (List.mem_erase_of_ne (fun e => hn.1 (by rw [← e]; exact hy))).2 (h y (by simp [hy])))
    rw [List.length_erase_of_mem hx] at this
    have := List.length_pos_of_mem hx
    rw [List.length_cons]
    omega
/-- Among more numbers than there are in U one is not in U. -/
theorem free_slot : ∀ (n : Nat) (U : List Nat), U.length < n → ∃ s, s < n ∧ s ∉ U := by
  intro n U h
  refine Decidable.byContradiction fun hno => ?_
  have hall : ∀ s, s < n → s ∈ U := fun s hs => Decidable.byContradiction fun q => hno ⟨s, hs, q⟩
  have := nodup_le (List.range n) U List.nodup_range (fun s hs => hall s (List.mem_range.1 hs))
  rw [List.length_range] at this
  omega
theorem link_there {F : Hs} {f : Int} {U : List Nat} {len chans x y : Nat} {o : Int} (h : Us F f U) (hf : 0 ≤ f ∧ f < 4) (hlen : len ≤ 200) (hch : 1 ≤ chans ∧ chans ≤ 16) (hx : x < 16) (hy : y < 16) (hxy : x ≠ y) (ho : o = 2 ∨ o = 10) (hU : U.length < len) (h64 : U.length < 64) :
    ∃ G s, linkF F f len chans x y o = some G ∧ Us G f (U ++ [s]) ∧ ((G x).length = (F x).length + 1 ∧ (G y).length = (F y).length + 1 ∧ ∀ k, k ≠ x → k ≠ y → G k = F k) := by
  obtain ⟨s, hs, hsU⟩ := free_slot len U hU
  have hfull : ¬ (64 ≤ (F x).length ∨ 64 ≤ (F y).length) := by
    have h1 := h.few x
    have h2 := h.few y
    omega
  have hi : s * chans < len * chans := Nat.mul_lt_mul_of_pos_right hs (by omega)
  have hfit : fitAt F f chans x y o (s * chans) = true := by
    unfold fitAt
    rw [Nat.mul_div_cancel _ (by omega), Nat.mul_mod_left, us_free h hsU (may_s hf (by omega) (by omega) hy) rfl (nd_of hx), us_free h hsU (may_h hf (by omega) (by omega) hx ho) rfl (nd_of hy)]
    rfl
  cases hp : placeF F f len chans x y o with
  | none =>
    unfold placeF at hp
    rw [if_neg hfull, List.find?_range_eq_none] at hp
    have := hp _ hi
    rw [hfit] at this
    cases this
  | some i =>
    obtain ⟨_, _, hil, _, _⟩ := place_is hp
    have hdiv : i / chans < len := Nat.div_lt_of_lt_mul (by rw [Nat.mul_comm]; exact hil)
    have hmod : i % chans < chans := Nat.mod_lt _ (by omega)
    refine ⟨linkTo F f chans x y o i, i / chans, by unfold linkF; rw [hp]; rfl, ⟨fun k hk q hq => ?_, fun k => ?_⟩, ?_, ?_, ?_⟩
    · have hold : q ∈ F k → q.may = true ∧ q.f = f ∧ ∃ t ∈ U ++ [i / chans], q.s = ((t : Nat) : Int) := fun hq => by
        obtain ⟨h1, h2, t, ht, h3⟩ := h.ok k hk q hq
        exact ⟨h1, h2, t, by simp [ht], h3⟩
      unfold linkTo addF at hq
      by_cases e2 : k = y
      · rw [if_pos e2] at hq
        rcases List.mem_append.1 hq with hq | hq
        · rw [if_neg (fun e => hxy (e.symm.trans e2))] at hq
          exact hold hq
        · rw [List.mem_singleton] at hq
          subst hq
          exact ⟨may_h hf (by omega) (by omega) hx ho, rfl, i / chans, by simp, rfl⟩
      · rw [if_neg e2] at hq
        by_cases e1 : k = x
        · rw [if_pos e1] at hq
          rcases List.mem_append.1 hq with hq | hq
          · exact hold hq
          · rw [List.mem_singleton] at hq
            subst hq
            exact ⟨may_s hf (by omega) (by omega) hy, rfl, i / chans, by simp, rfl⟩
        · rw [if_neg e1] at hq
          exact hold hq
    · have h1 := h.few k
      rw [List.length_append, List.length_singleton]
      unfold linkTo addF
      by_cases e2 : k = y
      · rw [if_pos e2, if_neg (fun e => hxy (e.symm.trans e2)), List.length_append, List.length_singleton]
        omega
      · rw [if_neg e2]
        by_cases e1 : k = x
        · rw [if_pos e1, List.length_append, List.length_singleton]
          omega
        · rw [if_neg e1]
          omega
    · unfold linkTo
      rw [add_off _ _ hxy, add_at, List.length_append, List.length_singleton]
    · unfold linkTo
      rw [add_at, List.length_append, List.length_singleton, add_off _ _ (fun e => hxy e.symm)]
    · intro k h1 h2
      unfold linkTo
      rw [add_off _ _ h2, add_off _ _ h1]
/-- How many cells the nodes have, all together. -/
def tot (F : Hs) : Nat := ((List.range 16).map fun k => (F k).length).sum
theorem tot_link {F G : Hs} {x y : Nat} (hx : x < 16) (hy : y < 16) (hxy : x ≠ y) (h : (G x).length = (F x).length + 1 ∧ (G y).length = (F y).length + 1 ∧ ∀ k, k ≠ x → k ≠ y → G k = F k) : tot G = tot F + 2 := by
  have key : ∀ (l : List Nat), l.Nodup → (l.map fun k => (G k).length).sum = (l.map fun k => (F k).length).sum + (if x ∈ l then 1 else 0) + (if y ∈ l then 1 else 0) := by
    intro l
    induction l with
    | nil => intro _; rfl
    | cons a l ih =>
      intro hn
      rw [List.nodup_cons] at hn
      rw [List.map_cons, List.map_cons, List.sum_cons, List.sum_cons, ih hn.2]
      by_cases e1 : a = x
      · subst e1
        have h1 : ¬ y = a := fun e => hxy e.symm
        have h2 : (if a ∈ l then 1 else 0) = 0 := if_neg hn.1
        simp only [List.mem_cons, h1, h2, h.1, true_or, if_true, false_or]
        omega
      · by_cases e2 : a = y
        · subst e2
          have h2 : (if a ∈ l then 1 else 0) = 0 := if_neg hn.1
          have h1 : ¬ x = a := fun e => e1 e.symm
          simp only [List.mem_cons, h1, h2, h.2.1, true_or, if_true, false_or]
          omega
        · have h1 : ¬ x = a := fun e => e1 e.symm
          have h2 : ¬ y = a := fun e => e2 e.symm
          rw [h.2.2 a e1 e2]
          simp only [List.mem_cons, h1, h2, false_or]
          omega
  have := key (List.range 16) List.nodup_range
  rw [if_pos (List.mem_range.2 hx), if_pos (List.mem_range.2 hy)] at this
  exact this
/-- All that have a way get theirs. -/
theorem all_dealt {f : Int} {len chans n : Nat} {par : Nat → Nat} (hf : 0 ≤ f ∧ f < 4) (hlen : len ≤ 200) (hch : 1 ≤ chans ∧ chans ≤ 16) (hn : n ≤ 15) (hl : 2 * n ≤ len) (ord : List Nat) (hp : ∀ x ∈ ord, x ≠ 0 → x < 16 ∧ par x < 16 ∧ x ≠ par x) (hc : (ord.filter fun x => decide (x ≠ 0)).length ≤ n) :
    (dealF f len chans par ord).2 = [] ∧ (∃ U, Us (dealF f len chans par ord).1 f U ∧ U.length = 2 * (ord.filter fun x => decide (x ≠ 0)).length) ∧ tot (dealF f len chans par ord).1 = 4 * (ord.filter fun x => decide (x ≠ 0)).length := by
  have key : ∀ (l : List Nat), (∀ x ∈ l, x ≠ 0 → x < 16 ∧ par x < 16 ∧ x ≠ par x) → ∀ (s : Hs × List Nat) (U : List Nat), Us s.1 f U → U.length + 2 * (l.filter fun x => decide (x ≠ 0)).length ≤ 2 * n → (l.foldl (stepF f len chans par) s).2 = s.2 ∧ (∃ U', Us (l.foldl (stepF f len chans par) s).1 f U' ∧ U'.length = U.length + 2 * (l.filter fun x => decide (x ≠ 0)).length) ∧ tot (l.foldl (stepF f len chans par) s).1 = tot s.1 + 4 * (l.filter fun x => decide (x ≠ 0)).length := by
    intro l
    induction l with
    | nil => intro _ s U hU _; exact ⟨by simp, ⟨U, by simpa using hU, by simp⟩, by simp⟩
    | cons x l ih =>
      intro hq s U hU hle
      rw [List.foldl_cons]
      by_cases hx : x = 0
      · subst hx
        have e : stepF f len chans par s 0 = s := if_pos rfl
        have e2 : ((0 :: l).filter fun x => decide (x ≠ 0)) = l.filter fun x => decide (x ≠ 0) := List.filter_cons_of_neg (by simp)
        rw [e, e2]
        rw [e2] at hle
        exact ih (fun y hy => hq y (by simp [hy])) s U hU hle
      · obtain ⟨h1, h2, h3⟩ := hq x (by simp) hx
        have e2 : ((x :: l).filter fun x => decide (x ≠ 0)) = x :: l.filter fun x => decide (x ≠ 0) := List.filter_cons_of_pos (by simpa using hx)
        rw [e2, List.length_cons] at hle ⊢
        obtain ⟨G, s1, hG, hUG, hGl⟩ := link_there (o := 2) hU hf hlen hch h1 h2 h3 (.inl rfl) (by omega) (by omega)
        have hUGl : (U ++ [s1]).length = U.length + 1 := by simp
        obtain ⟨K, s2, hK, hUK, hKl⟩ := link_there (o := 10) hUG hf hlen hch h2 h1 (fun e => h3 e.symm) (.inr rfl) (by omega) (by omega)
        have hs : serveF s.1 f len chans x (par x) = some K := by unfold serveF; rw [hG]; exact hK
        have e : stepF f len chans par s x = (K, s.2) := by
          unfold stepF
          rw [if_neg hx, hs]
        rw [e]
        have hUKl : (U ++ [s1] ++ [s2]).length = U.length + 2 := by simp
        obtain ⟨q1, ⟨U', q2, q3⟩, q4⟩ := ih (fun y hy => hq y (by simp [hy])) (K, s.2) _ hUK (by omega)
        refine ⟨q1, ⟨U', q2, by omega⟩, ?_⟩
        rw [q4]
        have t1 := tot_link h1 h2 h3 hGl
        have t2 := tot_link h2 h1 (fun e => h3 e.symm) hKl
        show tot K + _ = _
        omega
  have := key ord hp (fun _ => [], []) [] ⟨fun _ _ _ h => (by cases h), fun _ => Nat.le_refl _⟩ (by rw [List.length_nil]; omega)
  obtain ⟨h1, ⟨U, h2, h3⟩, h4⟩ := this
  refine ⟨h1, ⟨U, h2, by rw [h3]; simp⟩, ?_⟩
  have e0 : tot (fun _ => []) = 0 := by decide
  unfold dealF
  rw [h4]
  show tot (fun _ => []) + _ = _
  rw [e0, Nat.zero_add]
/-- One slot is too few for a link up and a link down. -/
theorem one_slot {F : Hs} {f : Int} {chans x y : Nat} (hx : x < 16) (hy : y < 16) (hxy : x ≠ y) (hch : 1 ≤ chans) : serveF F f 1 chans x y = none := by
  unfold serveF
  cases hG : linkF F f 1 chans x y 2 with
  | none => rfl
  | some G =>
    show linkF G f 1 chans y x 10 = none
    unfold linkF at hG
    cases hp : placeF F f 1 chans x y 2 with
    | none => rw [hp] at hG; cases hG
    | some i =>
      rw [hp] at hG
      injection hG with hG
      obtain ⟨_, _, hil, _, _⟩ := place_is hp
      rw [Nat.one_mul] at hil
      have hd : i / chans = 0 := Nat.div_eq_of_lt hil
      have hmem : hC f (i / chans) (i % chans) 2 x ∈ G y := by
        rw [← hG]
        unfold linkTo
        rw [add_at]
        simp
      unfold linkF
      rw [place_none]
      · rfl
      · intro j hj
        rw [Nat.one_mul] at hj
        have hj0 : j / chans = 0 := Nat.div_eq_of_lt hj
        unfold fitAt
        have hcl : clashB (sC f (j / chans) (j % chans) x) (hC f (i / chans) (i % chans) 2 x) (y : Int) (y : Int) = true := clash_own rfl (by
          show ((j / chans : Nat) : Int) = ((i / chans : Nat) : Int)
          rw [hd, hj0])
        rw [fitsF_no hy hmem hcl, Bool.false_and]
theorem none_dealt {f : Int} {chans : Nat} {par : Nat → Nat} (hch : 1 ≤ chans) (ord : List Nat) (hp : ∀ x ∈ ord, x ≠ 0 → x < 16 ∧ par x < 16 ∧ x ≠ par x) :
    (dealF f 1 chans par ord).1 = (fun _ => []) ∧ (dealF f 1 chans par ord).2 = ord.filter fun x => decide (x ≠ 0) := by
  have key : ∀ (l : List Nat), (∀ x ∈ l, x ≠ 0 → x < 16 ∧ par x < 16 ∧ x ≠ par x) → ∀ (s : Hs × List Nat), l.foldl (stepF f 1 chans par) s = (s.1, s.2 ++ l.filter fun x => decide (x ≠ 0)) := by
    intro l
    induction l with
    | nil => intro _ s; simp
    | cons x l ih =>
      intro hq s
      rw [List.foldl_cons, ih (fun y hy => hq y (by simp [hy]))]
      by_cases hx : x = 0
      · subst hx
        have e : stepF f 1 chans par s 0 = s := if_pos rfl
        have e2 : ((0 :: l).filter fun x => decide (x ≠ 0)) = l.filter fun x => decide (x ≠ 0) := List.filter_cons_of_neg (by simp)
        rw [e, e2]
      · obtain ⟨h1, h2, h3⟩ := hq x (by simp) hx
        have e2 : ((x :: l).filter fun x => decide (x ≠ 0)) = x :: l.filter fun x => decide (x ≠ 0) := List.filter_cons_of_pos (by simpa using hx)
        have e : stepF f 1 chans par s x = (s.1, s.2 ++ [x]) := by
          unfold stepF
          rw [if_neg hx, one_slot h1 h2 h3 hch]
        rw [e, e2]
        simp
  unfold dealF
  rw [key ord hp]
  exact ⟨rfl, by simp⟩
end Go.Proofs.YtahcplddonipcaaGreat.Al
