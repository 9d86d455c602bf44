/-
  What a dealt table is (chapter 22): plain words, merged: Neat, Up, what is left out.
-/
import Derived.Test.YtahcplddonipcaaGreatAlRoomM
import Derived.Test.YtahcplddonipcaaGreatAlMath
set_option linter.unusedSimpArgs false
set_option maxRecDepth 100000
namespace Go.Proofs.YtahcplddonipcaaGreat.Al
set_option linter.unusedVariables false
set_option linter.unusedSimpArgs false
open Go.RowKit Lb Cl Ce

/-- A cell that Deal may have made, of node x. -/
def shp (f : Int) (len chans x : Nat) (c : C) : Prop := ∃ s ch p : Nat, s < len ∧ ch < chans ∧ p < 16 ∧ p ≠ x ∧ (c = sC f s ch p ∨ c = hC f s ch 2 p ∨ c = hC f s ch 10 p)
structure Neat (F : Hs) (f : Int) (len chans : Nat) : Prop where
  shape : ∀ x, x < 16 → ∀ c ∈ F x, shp f len chans x c
  own : ∀ x, x < 16 → ((F x).map fun c => c.s).Nodup
  mate : ∀ x, x < 16 → ∀ c ∈ F x, ∃ (y : Nat) (d : C), y < 16 ∧ y ≠ x ∧ d ∈ F y ∧ c.p = (y : Int) ∧ d.p = (x : Int) ∧ d.s = c.s ∧ d.c = c.c ∧ ((wy c.o = 1 ∧ wy d.o = 2) ∨ (wy c.o = 2 ∧ wy d.o = 1))
  two : ∀ x y, x < 16 → y < 16 → x ≠ y → ∀ c ∈ F x, ∀ d ∈ F y, c.s = d.s → c.c = d.c → c.p = (y : Int) ∧ d.p = (x : Int)
  clean : ∀ x y, x < 16 → y < 16 → x ≠ y → ∀ c ∈ F x, ∀ d ∈ F y, clashB c d x y = false
theorem neat_nil (f : Int) (len chans : Nat) : Neat (fun _ => []) f len chans :=
  ⟨fun _ _ _ h => (by cases h), fun _ _ => List.nodup_nil, fun _ _ _ h => (by cases h), fun _ _ _ _ _ _ h => (by cases h), fun _ _ _ _ _ _ h => (by cases h)⟩
theorem shp_may {f : Int} {len chans x : Nat} {c : C} (hf : 0 ≤ f ∧ f < 4) (hlen : len ≤ 200) (hch : chans ≤ 16) (h : shp f len chans x c) : c.may = true ∧ c.f = f := by
  obtain ⟨s, ch, p, h1, h2, h3, _, rfl | rfl | rfl⟩ := h
  · exact ⟨may_s hf (by omega) (by omega) h3, rfl⟩
  · exact ⟨may_h hf (by omega) (by omega) h3 (.inl rfl), rfl⟩
  · exact ⟨may_h hf (by omega) (by omega) h3 (.inr rfl), rfl⟩
theorem wy_one : wy 1 = 1 := by decide
theorem wy_two : wy 2 = 2 := by decide
theorem wy_ten : wy 10 = 2 := by decide
/-- Where two cells at one place do not clash, they are a link's ends. -/
theorem link_of {a b : C} {x y : Nat} (ha : a.may = true) (hb : b.may = true) (hx : x < 16) (hy : y < 16) (hf : a.f = b.f) (hs : a.s = b.s) (hc : a.c = b.c) (h : clashB a b x y = false) : a.p = (y : Int) ∧ b.p = (x : Int) := by
  unfold clashB okB at h
  rw [ha, hb, nd_of hx, nd_of hy] at h
  have hn : nearB a b x y = true := by
    unfold nearB
    rw [hc]
    simp
  have hap : apartB a b x y = true := by
    cases hq : apartB a b x y with
    | true => rfl
    | false => rw [hq, hn] at h; simp at h
  unfold apartB at hap
  rw [hf, hs] at hap
  have hl : linkB a b x y = true := by simpa using hap
  unfold linkB at hl
  simp only [Bool.and_eq_true, beq_iff_eq] at hl
  exact ⟨hl.2.1, hl.2.2.1⟩
/-- The ends of a link do not clash. -/
theorem clash_link {f : Int} {s ch x y : Nat} {o : Int} (m1 : (sC f s ch y).may = true) (m2 : (hC f s ch o x).may = true) (hx : x < 16) (hy : y < 16) (hxy : x ≠ y) (hw : wy o = 2) : clashB (sC f s ch y) (hC f s ch o x) x y = false := by
  have hl : linkB (sC f s ch y) (hC f s ch o x) x y = true := by
    unfold linkB sC hC
    dsimp only
    rw [hw, wy_one]
    have : ((x : Int) != (y : Int)) = true := by simp; omega
    rw [this]
    simp
  unfold clashB okB apartB
  rw [m1, m2, nd_of hx, nd_of hy, hl]
  simp
theorem add_mem {F : Hs} {x k : Nat} {c q : C} (h : q ∈ addF F x c k) : (k = x ∧ q = c) ∨ q ∈ F k := by
  unfold addF at h
  split at h
  · rename_i e
    rcases List.mem_append.1 h with h | h
    · exact .inr h
    · exact .inl ⟨e, List.mem_singleton.1 h⟩
  · exact .inr h
theorem add_old {F : Hs} {x k : Nat} {c q : C} (h : q ∈ F k) : q ∈ addF F x c k := by
  unfold addF
  split
  · exact List.mem_append_left _ h
  · exact h
theorem add_new (F : Hs) (x : Nat) (c : C) : c ∈ addF F x c x := by
  rw [add_at]
  simp
/-- Both cells of a link are put in where they fit. -/
theorem neat_two {F : Hs} {f : Int} {len chans x y s ch : Nat} {o : Int} (h : Neat F f len chans) (hf : 0 ≤ f ∧ f < 4) (hlen : len ≤ 200) (hch : chans ≤ 16) (hx : x < 16) (hy : y < 16) (hxy : x ≠ y) (ho : o = 2 ∨ o = 10) (hs : s < len) (hc : ch < chans) (h1 : fitsF F (sC f s ch y) x = true) (h2 : fitsF F (hC f s ch o x) y = true) :
    Neat (addF (addF F x (sC f s ch y)) y (hC f s ch o x)) f len chans := by
  have f1 := fitsF_yes.1 h1
  have f2 := fitsF_yes.1 h2
  have m1 : (sC f s ch y).may = true := may_s hf (by omega) (by omega) hy
  have m2 : (hC f s ch o x).may = true := may_h hf (by omega) (by omega) hx ho
  have hw : wy o = 2 := by rcases ho with rfl | rfl; exact wy_two; exact wy_ten
  have hmem : ∀ k q, q ∈ addF (addF F x (sC f s ch y)) y (hC f s ch o x) k → (k = y ∧ q = hC f s ch o x) ∨ (k = x ∧ q = sC f s ch y) ∨ q ∈ F k := fun k q hq => by
    rcases add_mem hq with ⟨e, e2⟩ | hq
    · exact .inl ⟨e, e2⟩
    · rcases add_mem hq with ⟨e, e2⟩ | hq
      · exact .inr (.inl ⟨e, e2⟩)
      · exact .inr (.inr hq)
  have in1 : sC f s ch y ∈ addF (addF F x (sC f s ch y)) y (hC f s ch o x) x := add_old (add_new F x _)
  have in2 : hC f s ch o x ∈ addF (addF F x (sC f s ch y)) y (hC f s ch o x) y := add_new _ y _
  -- no cell of x, of y lies in slot s
  have n1 : ∀ q ∈ F x, q.s ≠ (s : Int) := fun q hq e => by
    have hq2 := shp_may hf hlen hch (h.shape x hx q hq)
    have := f1 x hx q hq
    rw [clash_own hq2.2.symm e.symm] at this
    cases this
  have n2 : ∀ q ∈ F y, q.s ≠ (s : Int) := fun q hq e => by
    have hq2 := shp_may hf hlen hch (h.shape y hy q hq)
    have := f2 y hy q hq
    rw [clash_own hq2.2.symm e.symm] at this
    cases this
  refine ⟨fun k hk q hq => ?_, fun k hk => ?_, fun k hk q hq => ?_, fun k l hk hl hkl q hq r hr e1 e2 => ?_, fun k l hk hl hkl q hq r hr => ?_⟩
  · rcases hmem k q hq with ⟨rfl, rfl⟩ | ⟨rfl, rfl⟩ | hq
    · refine ⟨s, ch, x, hs, hc, hx, hxy, ?_⟩
      rcases ho with rfl | rfl
      · exact .inr (.inl rfl)
      · exact .inr (.inr rfl)
    · exact ⟨s, ch, y, hs, hc, hy, fun e => hxy e.symm, .inl rfl⟩
    · exact h.shape k hk q hq
  · have hsn : ∀ (l : List C) (c : C), (l.map fun c => c.s).Nodup → (∀ q ∈ l, q.s ≠ c.s) → ((l ++ [c]).map fun c => c.s).Nodup := fun l c hl hq => by
      rw [List.map_append, List.map_singleton, List.nodup_append]
      refine ⟨hl, by simp, fun a ha b hb => ?_⟩
      obtain ⟨q, hq2, rfl⟩ := List.mem_map.1 ha
      rw [List.mem_singleton] at hb
      subst hb
      exact hq q hq2
    by_cases ey : k = y
    · subst ey
      rw [add_at, add_off _ _ (fun e => hxy e.symm)]
      exact hsn _ _ (h.own k hk) (fun q hq => n2 q hq)
    · rw [add_off _ _ ey]
      by_cases ex : k = x
      · subst ex
        rw [add_at]
        exact hsn _ _ (h.own k hk) (fun q hq => n1 q hq)
      · rw [add_off _ _ ex]
        exact h.own k hk
  · rcases hmem k q hq with ⟨rfl, rfl⟩ | ⟨rfl, rfl⟩ | hq
    · exact ⟨x, sC f s ch k, hx, hxy, in1, rfl, rfl, rfl, rfl, .inr ⟨hw, wy_one⟩⟩
    · exact ⟨y, hC f s ch o k, hy, fun e => hxy e.symm, in2, rfl, rfl, rfl, rfl, .inl ⟨wy_one, hw⟩⟩
    · obtain ⟨z, d, g1, g2, g3, g4⟩ := h.mate k hk q hq
      exact ⟨z, d, g1, g2, add_old (add_old g3), g4⟩
  · have new1 : ∀ l, l < 16 → l ≠ x → ∀ r ∈ F l, (s : Int) = r.s → (ch : Int) = r.c → ((y : Int) = (l : Int) ∧ r.p = (x : Int)) := fun l hl hlx r hr e1 e2 => by
      have hr2 := shp_may hf hlen hch (h.shape l hl r hr)
      have g := f1 l hl r hr
      exact link_of m1 hr2.1 hx hl hr2.2.symm e1 e2 g
    have new2 : ∀ l, l < 16 → l ≠ y → ∀ r ∈ F l, (s : Int) = r.s → (ch : Int) = r.c → ((x : Int) = (l : Int) ∧ r.p = (y : Int)) := fun l hl hly r hr e1 e2 => by
      have hr2 := shp_may hf hlen hch (h.shape l hl r hr)
      have g := f2 l hl r hr
      exact link_of m2 hr2.1 hy hl hr2.2.symm e1 e2 g
    rcases hmem k q hq with ⟨rfl, rfl⟩ | ⟨rfl, rfl⟩ | hq'
    · rcases hmem l r hr with ⟨rfl, rfl⟩ | ⟨rfl, rfl⟩ | hr'
      · exact absurd rfl hkl
      · exact ⟨rfl, rfl⟩
      · exact new2 l hl (fun e => hkl e.symm) r hr' e1 e2
    · rcases hmem l r hr with ⟨rfl, rfl⟩ | ⟨rfl, rfl⟩ | hr'
      · exact ⟨rfl, rfl⟩
      · exact absurd rfl hkl
      · exact new1 l hl (fun e => hkl e.symm) r hr' e1 e2
    · rcases hmem l r hr with ⟨rfl, rfl⟩ | ⟨rfl, rfl⟩ | hr'
      · have g := new2 k hk hkl q hq' e1.symm e2.symm
        exact ⟨g.2, g.1⟩
      · have g := new1 k hk hkl q hq' e1.symm e2.symm
        exact ⟨g.2, g.1⟩
      · exact h.two k l hk hl hkl q hq' r hr' e1 e2
  · have hlk := clash_link m1 m2 hx hy hxy hw
    rcases hmem k q hq with ⟨rfl, rfl⟩ | ⟨rfl, rfl⟩ | hq'
    · rcases hmem l r hr with ⟨rfl, rfl⟩ | ⟨rfl, rfl⟩ | hr'
      · exact absurd rfl hkl
      · rw [clash_comm]
        exact hlk
      · exact f2 l hl r hr'
    · rcases hmem l r hr with ⟨rfl, rfl⟩ | ⟨rfl, rfl⟩ | hr'
      · exact hlk
      · exact absurd rfl hkl
      · exact f1 l hl r hr'
    · rcases hmem l r hr with ⟨rfl, rfl⟩ | ⟨rfl, rfl⟩ | hr'
      · rw [clash_comm]
        exact f2 k hk q hq'
      · rw [clash_comm]
        exact f1 k hk q hq'
      · exact h.clean k l hk hl hkl q hq' r hr'
theorem neat_link {F G : Hs} {f : Int} {len chans x y : Nat} {o : Int} (h : Neat F f len chans) (hf : 0 ≤ f ∧ f < 4) (hlen : len ≤ 200) (hch : 1 ≤ chans ∧ chans ≤ 16) (hx : x < 16) (hy : y < 16) (hxy : x ≠ y) (ho : o = 2 ∨ o = 10) (hG : linkF F f len chans x y o = some G) :
    Neat G f len chans ∧ ∃ s ch, s < len ∧ ch < chans ∧ G = addF (addF F x (sC f s ch y)) y (hC f s ch o x) := by
  unfold linkF at hG
  cases hp : placeF F f len chans x y o with
  | none => rw [hp] at hG; cases hG
  | some i =>
    rw [hp] at hG
    injection hG with hG
    obtain ⟨_, _, hi, hfit, _⟩ := place_is hp
    unfold fitAt at hfit
    rw [Bool.and_eq_true] at hfit
    have hdiv : i / chans < len := Nat.div_lt_of_lt_mul (by rw [Nat.mul_comm]; exact hi)
    have hmod : i % chans < chans := Nat.mod_lt _ (by omega)
    subst hG
    exact ⟨neat_two h hf hlen hch.2 hx hy hxy ho hdiv hmod hfit.1 hfit.2, i / chans, i % chans, hdiv, hmod, rfl⟩
end Go.Proofs.YtahcplddonipcaaGreat.Al
set_option linter.unusedSimpArgs false
set_option maxRecDepth 100000
namespace Go.Proofs.YtahcplddonipcaaGreat.Al
set_option linter.unusedVariables false
set_option linter.unusedSimpArgs false
open Go.RowKit Lb Cl Ce

def pl (s ch : Int) (c : C) : Bool := c.s == s && c.c == ch
theorem one_in {F : Hs} {f : Int} {len chans x : Nat} (h : Neat F f len chans) (hx : x < 16) (s : Int) : (F x).countP (fun c => c.s == s) ≤ 1 := by
  have h1 := List.nodup_iff_count.1 (h.own x hx) s
  unfold List.count at h1
  rw [List.countP_map] at h1
  exact h1
theorem pl_le {F : Hs} {f : Int} {len chans x : Nat} (h : Neat F f len chans) (hx : x < 16) (s ch : Int) : (F x).countP (pl s ch) ≤ 1 :=
  Nat.le_trans (List.countP_mono_left (fun c _ hc => by unfold pl at hc; rw [Bool.and_eq_true] at hc; exact hc.1)) (one_in h hx s)
theorem pl_one {F : Hs} {f : Int} {len chans x : Nat} {c : C} (h : Neat F f len chans) (hx : x < 16) (hc : c ∈ F x) {s ch : Int} (h1 : c.s = s) (h2 : c.c = ch) : (F x).countP (pl s ch) = 1 := by
  have hp : 0 < (F x).countP (pl s ch) := List.countP_pos_iff.2 ⟨c, hc, by unfold pl; rw [h1, h2]; simp⟩
  have := pl_le h hx s ch
  omega
theorem sum_two (g : Nat → Nat) {x y : Nat} (hxy : x ≠ y) (hx : g x = 1) (hy : g y = 1) : ∀ l : List Nat, l.Nodup → (∀ k ∈ l, k ≠ x → k ≠ y → g k = 0) → (l.map g).sum = (if x ∈ l then 1 else 0) + (if y ∈ l then 1 else 0)
  | [], _, _ => rfl
  | a :: l, hn, h => by
    rw [List.nodup_cons] at hn
    rw [List.map_cons, List.sum_cons, sum_two g hxy hx hy l hn.2 (fun k hk => h k (by simp [hk]))]
    by_cases e1 : a = x
    · subst e1
      have h1 : ¬ y = a := fun e => hxy e.symm
      have h2 : (if a ∈ l then 1 else 0) = 0 := if_neg hn.1
      simp only [List.mem_cons, h1, h2, hx, true_or, if_true, false_or]
      omega
    · by_cases e2 : a = y
      · subst e2
        have h2 : (if a ∈ l then 1 else 0) = 0 := if_neg hn.1
        have h1 : ¬ x = a := fun e => e1 e.symm
        simp only [List.mem_cons, h1, h2, hy, true_or, if_true, false_or]
        omega
      · have h1 : ¬ x = a := fun e => e1 e.symm
        have h2 : ¬ y = a := fun e => e2 e.symm
        rw [h a (by simp) e1 e2]
        simp only [List.mem_cons, h1, h2, false_or]
        omega
/-- A place that holds a cell holds two. -/
theorem place_two {F : Hs} {f : Int} {len chans x : Nat} {c : C} (h : Neat F f len chans) (hx : x < 16) (hc : c ∈ F x) : ((List.range 16).map fun k => (F k).countP (pl c.s c.c)).sum = 2 := by
  obtain ⟨y, d, hy, hyx, hd, _, _, h1, h2, _⟩ := h.mate x hx c hc
  have := sum_two (fun k => (F k).countP (pl c.s c.c)) (fun e => hyx e.symm) (pl_one h hx hc rfl rfl) (pl_one h hy hd h1 h2) (List.range 16) List.nodup_range (fun k hk e1 e2 => by
    have hk := List.mem_range.1 hk
    rw [List.countP_eq_zero]
    intro q hq hpl
    unfold pl at hpl
    rw [Bool.and_eq_true, beq_iff_eq, beq_iff_eq] at hpl
    have g1 := h.two x k hx hk (fun e => e1 e.symm) c hc q hq hpl.1.symm hpl.2.symm
    have g2 := h.two x y hx hy (fun e => hyx e.symm) c hc d hd h1.symm h2.symm
    have : (k : Int) = (y : Int) := g1.1.symm.trans g2.1
    exact e2 (by omega))
  rw [if_pos (List.mem_range.2 hx), if_pos (List.mem_range.2 hy)] at this
  exact this
/-- Cells up to the first parent; cells down from it. -/
def isUp (p : Int) (c : C) : Bool := c.p == p && (Go.bits .and .i64 c.o 1 != 0)
def isDn (p : Int) (c : C) : Bool := c.p == p && ((Go.bits .and .i64 c.o 2 != 0) && (Go.bits .and .i64 c.o 8 != 0))
theorem bits_o : (Go.bits .and .i64 1 1 != 0) = true ∧ (Go.bits .and .i64 1 2 != 0) = false ∧ (Go.bits .and .i64 2 1 != 0) = false ∧ (Go.bits .and .i64 2 8 != 0) = false ∧ (Go.bits .and .i64 10 1 != 0) = false ∧ (Go.bits .and .i64 10 2 != 0) = true ∧ (Go.bits .and .i64 10 8 != 0) = true := by decide
theorem up_s (f : Int) (s ch y : Nat) (p : Int) : isUp p (sC f s ch y) = ((y : Int) == p) ∧ isDn p (sC f s ch y) = false := by
  unfold isUp isDn sC
  dsimp only
  rw [bits_o.1, bits_o.2.1]
  simp
theorem up_h (f : Int) (s ch x : Nat) (o p : Int) (ho : o = 2 ∨ o = 10) : isUp p (hC f s ch o x) = false ∧ isDn p (hC f s ch o x) = ((x : Int) == p && o == 10) := by
  unfold isUp isDn hC
  dsimp only
  rcases ho with rfl | rfl
  · rw [bits_o.2.2.1, bits_o.2.2.2.1]
    simp
  · rw [bits_o.2.2.2.2.1, bits_o.2.2.2.2.2.1, bits_o.2.2.2.2.2.2]
    simp
/-- What is known while the nodes are served: l are done. -/
structure Up (F : Hs) (par : Nat → Nat) (l out : List Nat) (n : Nat) : Prop where
  up : (F n).countP (isUp (par n)) = if n ∈ l ∧ n ∉ out then 1 else 0
  dn : (F n).countP (isDn (par n)) = if n ∈ l ∧ n ∉ out then 1 else 0
theorem serve_cells {F G : Hs} {f : Int} {len chans m p : Nat} (h : Neat F f len chans) (hf : 0 ≤ f ∧ f < 4) (hlen : len ≤ 200) (hch : 1 ≤ chans ∧ chans ≤ 16) (hm : m < 16) (hp : p < 16) (hmp : m ≠ p) (hG : serveF F f len chans m p = some G) :
    Neat G f len chans ∧ ∃ s ch t dh, G = addF (addF (addF (addF F m (sC f s ch p)) p (hC f s ch 2 m)) p (sC f t dh m)) m (hC f t dh 10 p) := by
  unfold serveF at hG
  cases h1 : linkF F f len chans m p 2 with
  | none => rw [h1] at hG; cases hG
  | some K =>
    rw [h1] at hG
    obtain ⟨n1, s, ch, _, _, e1⟩ := neat_link h hf hlen hch hm hp hmp (.inl rfl) h1
    obtain ⟨n2, t, dh, _, _, e2⟩ := neat_link n1 hf hlen hch hp hm (fun e => hmp e.symm) (.inr rfl) hG
    subst e1
    exact ⟨n2, s, ch, t, dh, e2⟩
theorem count_add (F : Hs) (x k : Nat) (c : C) (q : C → Bool) : (addF F x c k).countP q = (F k).countP q + if k = x ∧ q c = true then 1 else 0 := by
  unfold addF
  by_cases e : k = x
  · rw [if_pos e, List.countP_append, List.countP_cons, List.countP_nil]
    by_cases h : q c = true
    · simp [e, h]
    · simp [e, h]
  · rw [if_neg e]
    simp [e]
theorem up_serve {F G : Hs} {par : Nat → Nat} {l out : List Nat} {f : Int} {len chans m n : Nat} (h : Neat F f len chans) (hf : 0 ≤ f ∧ f < 4) (hlen : len ≤ 200) (hch : 1 ≤ chans ∧ chans ≤ 16) (hm : m < 16) (hp : par m < 16) (hmp : m ≠ par m) (hn : n = par m → par n ≠ m) (hl : m ∉ l) (hout : ∀ x ∈ out, x ∈ l) (hU : Up F par l out n) (hG : serveF F f len chans m (par m) = some G) : Up G par (l ++ [m]) out n := by
  obtain ⟨_, s, ch, t, dh, rfl⟩ := serve_cells h hf hlen hch hm hp hmp hG
  have hmo : m ∉ out := fun e => hl (hout m e)
  refine ⟨?_, ?_⟩
  · rw [count_add, count_add, count_add, count_add, hU.up, (up_s f s ch (par m) _).1, (up_h f s ch m 2 _ (.inl rfl)).1, (up_s f t dh m _).1, (up_h f t dh (par m) 10 _ (.inr rfl)).1]
    by_cases e : n = m
    · subst e
      have h1 : ¬ n = par n := hmp
      simp [hl, hmo, h1]
    · by_cases e2 : n = par m
      · have h1 : ¬ (m : Int) = (par n : Int) := fun q => hn e2 (by omega)
        simp [e, h1]
      · simp [e, e2]
  · rw [count_add, count_add, count_add, count_add, hU.dn, (up_s f s ch (par m) _).2, (up_h f s ch m 2 _ (.inl rfl)).2, (up_s f t dh m _).2, (up_h f t dh (par m) 10 _ (.inr rfl)).2]
    by_cases e : n = m
    · subst e
      have h1 : ¬ n = par n := hmp
      simp [hl, hmo, h1]
    · by_cases e2 : n = par m
      · simp [e]
      · simp [e, e2]
/-- All of it, once all are served. -/
theorem deal_neat {f : Int} {len chans : Nat} {par : Nat → Nat} (hf : 0 ≤ f ∧ f < 4) (hlen : len ≤ 200) (hch : 1 ≤ chans ∧ chans ≤ 16) (ord : List Nat) (hnd : ord.Nodup) (hp : ∀ m ∈ ord, m ≠ 0 → m < 16 ∧ par m < 16 ∧ m ≠ par m ∧ (par m ≠ 0 → par (par m) ≠ m)) :
    Neat (dealF f len chans par ord).1 f len chans ∧ ∀ n, n ≠ 0 → Up (dealF f len chans par ord).1 par ord (dealF f len chans par ord).2 n := by
  have key : ∀ (l done : List Nat) (s : Hs × List Nat), (done ++ l).Nodup → (∀ m ∈ l, m ≠ 0 → m < 16 ∧ par m < 16 ∧ m ≠ par m ∧ (par m ≠ 0 → par (par m) ≠ m)) → Neat s.1 f len chans → (∀ x ∈ s.2, x ∈ done) → (∀ n, n ≠ 0 → Up s.1 par done s.2 n) →
      Neat (l.foldl (stepF f len chans par) s).1 f len chans ∧ ∀ n, n ≠ 0 → Up (l.foldl (stepF f len chans par) s).1 par (done ++ l) (l.foldl (stepF f len chans par) s).2 n := by
    intro l
    induction l with
    | nil => intro done s _ _ hN _ hU; rw [List.append_nil]; exact ⟨hN, hU⟩
    | cons m l ih =>
      intro done s hd hq hN ho hU
      rw [List.foldl_cons]
      have e3 : done ++ m :: l = (done ++ [m]) ++ l := by simp
      have hml : m ∉ done := fun e => by
        rw [List.nodup_append] at hd
        exact hd.2.2 m e m (by simp) rfl
      rw [e3] at hd ⊢
      by_cases hm0 : m = 0
      · subst hm0
        have e : stepF f len chans par s 0 = s := if_pos rfl
        rw [e]
        refine ih (done ++ [0]) s hd (fun y hy => hq y (by simp [hy])) hN (fun x hx => List.mem_append_left _ (ho x hx)) (fun n hn => ?_)
        have h1 := hU n hn
        have h2 : (n ∈ done ++ [0] ∧ n ∉ s.2) ↔ (n ∈ done ∧ n ∉ s.2) := by simp [hn]
        exact ⟨by rw [h1.up]; simp only [h2], by rw [h1.dn]; simp only [h2]⟩
      · obtain ⟨h1, h2, h3, h4⟩ := hq m (by simp) hm0
        cases hs : serveF s.1 f len chans m (par m) with
        | none =>
          have e : stepF f len chans par s m = (s.1, s.2 ++ [m]) := by
            unfold stepF
            rw [if_neg hm0, hs]
          rw [e]
          refine ih (done ++ [m]) (s.1, s.2 ++ [m]) hd (fun y hy => hq y (by simp [hy])) hN (fun x hx => ?_) (fun n hn => ?_)
          · rcases List.mem_append.1 hx with hx | hx
            · exact List.mem_append_left _ (ho x hx)
            · exact List.mem_append_right _ hx
          · have g1 := hU n hn
            have g2 : (n ∈ done ++ [m] ∧ n ∉ s.2 ++ [m]) ↔ (n ∈ done ∧ n ∉ s.2) := by
              by_cases e : n = m
              · subst e
                simp [hml]
              · simp [e]
            exact ⟨by rw [g1.up]; simp only [g2], by rw [g1.dn]; simp only [g2]⟩
        | some G =>
          have e : stepF f len chans par s m = (G, s.2) := by
            unfold stepF
            rw [if_neg hm0, hs]
          rw [e]
          refine ih (done ++ [m]) (G, s.2) hd (fun y hy => hq y (by simp [hy])) (serve_cells hN hf hlen hch h1 h2 h3 hs).1 (fun x hx => List.mem_append_left _ (ho x hx)) (fun n hn => ?_)
          exact up_serve hN hf hlen hch h1 h2 h3 (fun e => by subst e; exact h4 hn) hml ho (hU n hn) hs
  have := key ord [] (fun _ => [], []) (by simpa using hnd) hp (neat_nil f len chans) (fun x hx => by cases hx) (fun n _ => ⟨by simp, by simp⟩)
  exact this
end Go.Proofs.YtahcplddonipcaaGreat.Al
set_option linter.unusedSimpArgs false
set_option maxRecDepth 100000
namespace Go.Proofs.YtahcplddonipcaaGreat.Al
set_option linter.unusedVariables false
set_option linter.unusedSimpArgs false
open Go.RowKit Lb Cl Ce

theorem neat_perm {F G : Hs} {f : Int} {len chans : Nat} (h : Neat F f len chans) (hp : ∀ k, (G k).Perm (F k)) : Neat G f len chans :=
  ⟨fun x hx c hc => h.shape x hx c ((hp x).mem_iff.1 hc), fun x hx => ((hp x).map _).nodup_iff.2 (h.own x hx), fun x hx c hc => by
    obtain ⟨y, d, g1, g2, g3, g4⟩ := h.mate x hx c ((hp x).mem_iff.1 hc)
    exact ⟨y, d, g1, g2, (hp y).mem_iff.2 g3, g4⟩, fun x y hx hy hxy c hc d hd => h.two x y hx hy hxy c ((hp x).mem_iff.1 hc) d ((hp y).mem_iff.1 hd), fun x y hx hy hxy c hc d hd => h.clean x y hx hy hxy c ((hp x).mem_iff.1 hc) d ((hp y).mem_iff.1 hd)⟩
theorem okc_shp {f : Int} {len chans x : Nat} {c : C} (hf : 0 ≤ f ∧ f < 4) (hlen : len ≤ 200) (hch : chans ≤ 16) (h : shp f len chans x c) : okc c = true := by
  unfold okc
  rw [(shp_may hf hlen hch h).1]
  obtain ⟨s, ch, p, _, _, _, _, rfl | rfl | rfl⟩ := h
  · exact (by decide : (Go.bits .and .i64 1 4 == 0) = true)
  · exact (by decide : (Go.bits .and .i64 2 4 == 0) = true)
  · exact (by decide : (Go.bits .and .i64 10 4 == 0) = true)
/-- The rows of the nodes ks. -/
def rowsOf (F : Hs) (ks : List Nat) : List (Int × List C) := ks.map fun k : Nat => ((k : Int), F k)
theorem neat_clean {F : Hs} {f : Int} {len chans : Nat} (h : Neat F f len chans) (hf : 0 ≤ f ∧ f < 4) (hlen : len ≤ 200) (hch : chans ≤ 16) {ks : List Nat} (h8 : ∀ k ∈ ks, (F k).length ≤ 800) (hk : ∀ k ∈ ks, k < 16) (hn : ks.Nodup) : clB (rowsOf F ks) = true := by
  unfold clB
  rw [Bool.and_eq_true]
  constructor
  · rw [List.all_eq_true]
    intro e he
    obtain ⟨k, hks, rfl⟩ := List.mem_map.1 he
    unfold okE
    dsimp only
    rw [nd_of (hk k hks), Bool.or_true, Bool.true_and, Bool.and_eq_true]
    refine ⟨decide_eq_true (h8 k hks), ?_⟩
    rw [List.all_eq_true]
    exact fun c hc => okc_shp hf hlen hch (h.shape k (hk k hks) c hc)
  · rw [decide_eq_true_eq]
    unfold NoC allO rowsOf
    rw [List.flatMap_map, List.pairwise_flatMap]
    constructor
    · intro k hks
      unfold ofE
      dsimp only
      rw [List.pairwise_map]
      have h1 := h.own k (hk k hks)
      unfold List.Nodup at h1
      rw [List.pairwise_map] at h1
      refine (List.Pairwise.and_mem.1 h1).imp (fun {a b} q => ?_)
      obtain ⟨ha, hb, hab⟩ := q
      exact clash_slot (shp_may hf hlen hch (h.shape k (hk k hks) a ha)).1 (shp_may hf hlen hch (h.shape k (hk k hks) b hb)).1 (nd_of (hk k hks)) (nd_of (hk k hks)) hab
    · refine (List.Pairwise.and_mem.1 hn).imp (fun {a b} q => ?_)
      obtain ⟨ha, hb, hab⟩ := q
      intro p hp r hr
      unfold ofE at hp hr
      obtain ⟨c, hc, rfl⟩ := List.mem_map.1 hp
      obtain ⟨d, hd, rfl⟩ := List.mem_map.1 hr
      exact h.clean a b (hk a ha) (hk b hb) hab c hc d hd
/-- How many have no link up, among the first k that stand in order. -/
def leftN (F : Hs) (par : Nat → Nat) (l : List Nat) : Nat := (l.map fun n => if n = 0 then 0 else 1 - (F n).countP (isUp (par n))).sum
theorem left_up {F : Hs} {par : Nat → Nat} {out : List Nat} : ∀ (l ord : List Nat), (∀ n ∈ l, n ∈ ord) → (∀ n, n ≠ 0 → Up F par ord out n) → leftN F par l = (l.filter fun n => decide (n ≠ 0 ∧ n ∈ out)).length
  | [], _, _, _ => rfl
  | n :: l, ord, hl, hU => by
    have ih := left_up l ord (fun m hm => hl m (by simp [hm])) hU
    unfold leftN at ih ⊢
    rw [List.map_cons, List.sum_cons, ih]
    by_cases h0 : n = 0
    · rw [if_pos h0, List.filter_cons_of_neg (by simp [h0])]
      omega
    · rw [if_neg h0, (hU n h0).up]
      have hn : n ∈ ord := hl n (by simp)
      by_cases ho : n ∈ out
      · rw [if_neg (fun q => q.2 ho), List.filter_cons_of_pos (by simp [h0, ho]), List.length_cons]
        omega
      · rw [if_pos ⟨hn, ho⟩, List.filter_cons_of_neg (by simp [ho])]
        omega
theorem leftN_all {F : Hs} {par : Nat → Nat} {out ord : List Nat} (hn : ord.Nodup) (ho : out.Nodup) (hs : ∀ x ∈ out, x ∈ ord ∧ x ≠ 0) (hU : ∀ n, n ≠ 0 → Up F par ord out n) : leftN F par ord = out.length := by
  rw [left_up ord ord (fun _ h => h) hU]
  have hp : (ord.filter fun n => decide (n ≠ 0 ∧ n ∈ out)).Perm out := by
    refine (List.perm_ext_iff_of_nodup (List.Pairwise.filter _ hn) ho).2 (fun a => ?_)
    rw [List.mem_filter, decide_eq_true_eq]
    exact ⟨fun h => h.2.2, fun h => ⟨(hs a h).1, (hs a h).2, h⟩⟩
  exact hp.length_eq
theorem neat_len {F : Hs} {f : Int} {len chans x : Nat} (h : Neat F f len chans) (hx : x < 16) : (F x).length ≤ len := by
  have h1 : ((F x).map fun c => c.s.toNat).Nodup := by
    have h0 := h.own x hx
    unfold List.Nodup at h0 ⊢
    rw [List.pairwise_map] at h0 ⊢
    refine (List.Pairwise.and_mem.1 h0).imp (fun {a b} q => ?_)
    obtain ⟨ha, hb, hab⟩ := q
    intro e
    obtain ⟨s, _, _, _, _, _, _, ea⟩ := h.shape x hx a ha
    obtain ⟨t, _, _, _, _, _, _, eb⟩ := h.shape x hx b hb
    have e1 : a.s = (s : Int) := by rcases ea with rfl | rfl | rfl <;> rfl
    have e2 : b.s = (t : Int) := by rcases eb with rfl | rfl | rfl <;> rfl
    rw [e1, e2] at e hab
    exact hab (by omega)
  have h2 := nodup_le _ (List.range len) h1 (fun q hq => by
    obtain ⟨c, hc, rfl⟩ := List.mem_map.1 hq
    obtain ⟨s, _, _, hs, _, _, _, ec⟩ := h.shape x hx c hc
    have e1 : c.s = (s : Int) := by rcases ec with rfl | rfl | rfl <;> rfl
    rw [e1, List.mem_range]
    omega)
  rw [List.length_map, List.length_range] at h2
  exact h2
theorem rows_len (F : Hs) (B : Nat) : ∀ ks : List Nat, (∀ k ∈ ks, (F k).length ≤ B) → (allO (rowsOf F ks)).length ≤ ks.length * B
  | [], _ => Nat.zero_le _
  | k :: ks, h => by
    have ih := rows_len F B ks (fun q hq => h q (by simp [hq]))
    have h1 := h k (by simp)
    have e : allO (rowsOf F (k :: ks)) = ofE ((k : Int), F k) ++ allO (rowsOf F ks) := rfl
    rw [e, List.length_append, List.length_cons, Nat.succ_mul]
    have e2 : (ofE ((k : Int), F k)).length = (F k).length := by
      unfold ofE
      exact List.length_map _
    omega
/-- Of a node's cell: what the law asks of it. -/
theorem shp_parts {f : Int} {len chans x : Nat} {c : C} (h : shp f len chans x c) : ∃ s ch p : Nat, s < len ∧ ch < chans ∧ p < 16 ∧ p ≠ x ∧ c.f = f ∧ c.s = (s : Int) ∧ c.c = (ch : Int) ∧ c.p = (p : Int) ∧ (c.o = 1 ∨ c.o = 2 ∨ c.o = 10) := by
  obtain ⟨s, ch, p, h1, h2, h3, h4, rfl | rfl | rfl⟩ := h
  · exact ⟨s, ch, p, h1, h2, h3, h4, rfl, rfl, rfl, rfl, .inl rfl⟩
  · exact ⟨s, ch, p, h1, h2, h3, h4, rfl, rfl, rfl, rfl, .inr (.inl rfl)⟩
  · exact ⟨s, ch, p, h1, h2, h3, h4, rfl, rfl, rfl, rfl, .inr (.inr rfl)⟩
end Go.Proofs.YtahcplddonipcaaGreat.Al
