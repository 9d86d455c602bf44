/-
  A region that draws its order, whose calls make memory: what each operation leaves is told by a kind of its own ('is v', 'of p'), in whatever order they come up; one walk, in the order of the text. A region that draws its order and holds calls that make memory: by kinds, beside names that the calls give away: so that what one makes is told from what another made. A region that draws its order, whose operations read and whose calls may make memory but turn nothing that was there: its worlds as a type of their own, so that facts on what is read are rows of the walk. The reference's Bytes: the lowest k bytes of a number, the highest first, in a row of its own. A field that is a slice of structs, in a row of structs that came in: its cells, field by field.
-/
import Derived.Test.YtiflmdekcjbmbaaGNodeSends01
import Derived.Orders
import Derived.BigRegion
import Derived.Deep.MidRow
import Derived.BigQuiet
import Derived.Deep.Quiet
import Derived.Deep.QuietTactic
import Derived.Lib.Hide
namespace Go.Proofs.Ytiflmdekcjbmbaa.Lb
set_option linter.unusedVariables false
set_option linter.unusedSimpArgs false
open Go.RowKit

/-- What an operation leaves: just this value, or one of which this is known. -/
inductive Ty (S : Type) where
  | is (v : Value)
  | of (p : Value → S → Prop)
def Ty.holds {S : Type} : Ty S → Value → S → Prop
  | .is u, v, _ => v = u
  | .of p, v, s => p v s
def Ty.val {S : Type} : Ty S → Value → Value
  | .is u, _ => u
  | .of _, v => v
theorem Ty.holds_val {S : Type} {T : Ty S} {v : Value} {s : S} (h : T.holds v s) : T.val v = v := by
  cases T with
  | is u => exact (show v = u from h).symm
  | of p => rfl
def bindsOn (o : Oper) (j : Nat) : Bool := o.after.any fun e => Region.binds .any e && e.on == j
/-- The region's shape: each looks at what stands ahead of it alone, and waits for it; each has a slot of its own. -/
def tyOp (ops : Array Oper) (n i : Nat) (o : Oper) : Bool :=
  (match o.dst with
   | some d => decide (d < n) && (List.range ops.size).all fun j => j == i || ((ops[j]?).bind (·.dst)) != some d
   | none => false) &&
  ((o.looksAt ops).all fun t => (List.range ops.size).all fun j => ((ops[j]?).bind (·.dst)) != some t || (decide (j < i) && bindsOn o j)) &&
  (o.after.all fun e => !Region.binds .any e || decide (e.on < i))
def tyB (ops : Array Oper) (n : Nat) : Bool := Region.noSelect ops && (List.range ops.size).all fun i => match ops[i]? with
  | some o => tyOp ops n i o
  | none => true
section
variable {P : Program} {ops : Array Oper} {S : Type} {toW : S → World} {R : Nat → S → S → Prop} {kill : Nat → Nat → Bool}
abbrev Done (S : Type) := List (Ty S × Value)
/-- Nobody else ends what is known of j. -/
def aliveB (kill : Nat → Nat → Bool) (n i j : Nat) : Bool := (List.range n).all fun k => k == i || !kill k j
def Facts (kill : Nat → Nat → Bool) (n : Nat) (o : Oper) (done : Done S) (s : S) : Prop := ∀ (j : Nat) (T : Ty S) (v : Value), done[j]? = some (T, v) → bindsOn o j = true → aliveB kill n done.length j = true → T.holds v s
/-- One operation, in a world of which what it waits for is known. -/
def tyStep (P : Program) (ops : Array Oper) (kill : Nat → Nat → Bool) (toW : S → World) (R : Nat → S → S → Prop) (o : Oper) (T : Ty S) (done : Done S) (a : Act) : Prop :=
  ∀ s, Facts kill ops.size o done s → ∀ (K : Act → World → Prop) (Q : Exit → Act → World → Prop), (∀ v s', R done.length s s' → T.holds v s' → K (a.put o.dst v) (toW s')) →
    if Region.wanted o (yielded ops a.tmps) = true then Oper.wp P o a (toW s) K Q else K (a.put o.dst undef) (toW s)
def wpTy (P : Program) (ops : Array Oper) (kill : Nat → Nat → Bool) (toW : S → World) (R : Nat → S → S → Prop) (Qf : Done S → Act → Prop) : List Oper → List (Ty S) → Done S → Act → Prop
  | [], _, done, a => Qf done a
  | _ :: _, [], _, _ => False
  | o :: l, T :: Ts, done, a => tyStep P ops kill toW R o T done a ∧ match T with
    | .is u => wpTy P ops kill toW R Qf l Ts (done ++ [(.is u, u)]) (a.put o.dst u)
    | .of p => ∀ v, wpTy P ops kill toW R Qf l Ts (done ++ [(.of p, v)]) (a.put o.dst v)
def actAt (l : List Oper) (Ts : List (Ty S)) (c : Nat → Value) (a : Act) : Nat → Act
  | 0 => a
  | m + 1 => match l[m]?, Ts[m]? with
    | some o, some T => (actAt l Ts c a m).put o.dst (T.val (c m))
    | _, _ => actAt l Ts c a m
def doneAt (Ts : List (Ty S)) (c : Nat → Value) : Nat → Done S
  | 0 => []
  | m + 1 => match Ts[m]? with
    | some T => doneAt Ts c m ++ [(T, T.val (c m))]
    | none => doneAt Ts c m
theorem wpTy_at {Qf : Done S → Act → Prop} {l : List Oper} {Ts : List (Ty S)} {a : Act} (c : Nat → Value) (h : wpTy P ops kill toW R Qf l Ts [] a) : ∀ m, m ≤ l.length → wpTy P ops kill toW R Qf (l.drop m) (Ts.drop m) (doneAt Ts c m) (actAt l Ts c a m) ∧ ∀ i, i < m → i < Ts.length
  | 0, _ => ⟨h, fun i hi => absurd hi (Nat.not_lt_zero i)⟩
  | m + 1, hm => by
    obtain ⟨h1, h2⟩ := wpTy_at c h m (by omega)
    rw [List.drop_eq_getElem_cons (show m < l.length by omega)] at h1
    by_cases hT : m < Ts.length
    · rw [List.drop_eq_getElem_cons hT] at h1
      refine ⟨?_, fun i hi => by rcases Nat.lt_succ_iff_lt_or_eq.1 hi with h | h; exact h2 i h; omega⟩
      unfold actAt doneAt
      rw [List.getElem?_eq_getElem (show m < l.length by omega), List.getElem?_eq_getElem hT]
      dsimp only
      unfold wpTy at h1
      obtain ⟨_, h1⟩ := h1
      cases hTT : Ts[m] with
      | is u =>
        rw [hTT] at h1
        exact h1
      | of p =>
        rw [hTT] at h1
        exact h1 (c m)
    · rw [show Ts.drop m = [] from List.drop_eq_nil_of_le (by omega)] at h1
      exact (show False from h1).elim
theorem doneAt_at (Ts : List (Ty S)) (c : Nat → Value) : ∀ m, m ≤ Ts.length → (doneAt Ts c m).length = m ∧ ∀ j (T : Ty S) v, (doneAt Ts c m)[j]? = some (T, v) → j < m ∧ Ts[j]? = some T ∧ v = T.val (c j)
  | 0, _ => ⟨rfl, fun j T v h => by simp [doneAt] at h⟩
  | m + 1, hm => by
    obtain ⟨h1, h2⟩ := doneAt_at Ts c m (by omega)
    unfold doneAt
    rw [List.getElem?_eq_getElem (show m < Ts.length by omega)]
    dsimp only
    refine ⟨by simp [h1], fun j T v h => ?_⟩
    rw [List.getElem?_append] at h
    split at h
    · obtain ⟨h3, h4⟩ := h2 j T v h
      exact ⟨by omega, h4⟩
    · rename_i hj
      rw [h1] at h hj
      have hj2 : j - m = 0 := by
        rcases Nat.eq_zero_or_pos (j - m) with e | e
        · exact e
        · rw [List.getElem?_eq_none (by simp; omega)] at h
          cases h
      obtain rfl : j = m := by omega
      simp at h
      exact ⟨by omega, by rw [List.getElem?_eq_getElem (show j < Ts.length by omega), h.1], by rw [← h.2, h.1]⟩
theorem getD_set (x : Array Value) (i t : Nat) (v : Value) : (x.setIfInBounds i v).getD t undef = if i = t ∧ t < x.size then v else x.getD t undef := by
  simp only [Array.getD_eq_getD_getElem?, Array.getElem?_setIfInBounds]
  by_cases h : i = t
  · by_cases h2 : t < x.size
    · rw [if_pos h, if_pos (by rw [h]; exact h2), if_pos ⟨h, h2⟩]
      rfl
    · rw [if_pos h, if_neg (by rw [h]; exact h2), if_neg (fun q => h2 q.2), Array.getElem?_eq_none (by omega)]
  · rw [if_neg h, if_neg (fun q => h q.1)]
theorem actAt_same {l : List Oper} {Ts : List (Ty S)} {c : Nat → Value} {a : Act} : ∀ m, (actAt l Ts c a m).tmps.size = a.tmps.size ∧ (actAt l Ts c a m).defers = a.defers
  | 0 => ⟨rfl, rfl⟩
  | m + 1 => by
    have ih := actAt_same (l := l) (Ts := Ts) (c := c) (a := a) m
    unfold actAt
    split
    · rename_i o T _ _
      cases hd : o.dst with
      | none => exact ih
      | some d => exact ⟨by simpa [Act.put] using ih.1, ih.2⟩
    · exact ih
theorem actAt_else {l : List Oper} {Ts : List (Ty S)} {c : Nat → Value} {a : Act} {t : Nat} : ∀ m, (∀ j o, j < m → l[j]? = some o → o.dst ≠ some t) → (actAt l Ts c a m).tmps.getD t undef = a.tmps.getD t undef
  | 0, _ => rfl
  | m + 1, h => by
    have ih := actAt_else (l := l) (Ts := Ts) (c := c) (a := a) (t := t) m (fun j o hj => h j o (by omega))
    unfold actAt
    split
    · rename_i o T ho _
      have := h m o (by omega) ho
      cases hd : o.dst with
      | none => exact ih
      | some d =>
        unfold Act.put
        dsimp only
        rw [getD_set, if_neg (fun q => this (by rw [hd, q.1])), ih]
    · exact ih
theorem actAt_there {l : List Oper} {Ts : List (Ty S)} {c : Nat → Value} {a : Act} {i t : Nat} {o : Oper} {T : Ty S} (ho : l[i]? = some o) (hT : Ts[i]? = some T) (hd : o.dst = some t) (ht : t < a.tmps.size)
    (hone : ∀ j o', j ≠ i → l[j]? = some o' → o'.dst ≠ some t) : ∀ m, i < m → (actAt l Ts c a m).tmps.getD t undef = T.val (c i)
  | 0, h => absurd h (Nat.not_lt_zero i)
  | m + 1, h => by
    have hs := (actAt_same (l := l) (Ts := Ts) (c := c) (a := a) m).1
    unfold actAt
    by_cases hi : i = m
    · subst hi
      rw [ho, hT]
      dsimp only
      rw [hd]
      unfold Act.put
      dsimp only
      rw [getD_set, if_pos ⟨rfl, by omega⟩]
    · have ih := actAt_there (c := c) ho hT hd ht hone m (by omega)
      split
      · rename_i o' T' ho' _
        have := hone m o' (fun e => hi e.symm) ho'
        cases hd' : o'.dst with
        | none => exact ih
        | some d =>
          unfold Act.put
          dsimp only
          rw [getD_set, if_neg (fun q => this (by rw [hd', q.1])), ih]
      · exact ih
/-- What holds at any time: of each that has come up its kind, in the world at hand. -/
structure TyInv (l : List Oper) (Ts : List (Ty S)) (kill : Nat → Nat → Bool) (a : Act) (listed : Array Bool) (a' : Act) (s : S) : Prop where
  size : a'.tmps.size = a.tmps.size
  defers : a'.defers = a.defers
  rest : ∀ t, (∀ (j : Nat) o, l[j]? = some o → o.dst ≠ some t) → a'.tmps.getD t undef = a.tmps.getD t undef
  deps : ∀ (j : Nat) o k, listed.getD j false = true → l[j]? = some o → bindsOn o k = true → listed.getD k false = true
  val : ∀ (j : Nat) o T d, listed.getD j false = true → l[j]? = some o → Ts[j]? = some T → o.dst = some d → T.val (a'.tmps.getD d undef) = a'.tmps.getD d undef
  there : ∀ (j : Nat) o T d, listed.getD j false = true → (∀ i, listed.getD i false = true → kill i j = false) → l[j]? = some o → Ts[j]? = some T → o.dst = some d → T.holds (a'.tmps.getD d undef) s
def freeB (l : List Oper) (kill : Nat → Nat → Bool) (i j : Nat) : Bool := i != j && !kill i j && (match l[i]? with
  | some o => (List.range l.length).all fun k => !(bindsOn o k && kill k j)
  | none => false) && (match l[j]? with
  | some o => !bindsOn o i
  | none => false)
structure TyShape (l : List Oper) (n : Nat) (i : Nat) (o : Oper) : Prop where
  dst : ∃ d, o.dst = some d ∧ d < n ∧ ∀ (j : Nat) o', j ≠ i → l[j]? = some o' → o'.dst ≠ some d
  looks : ∀ t ∈ o.looksAt l.toArray, ∀ (j : Nat) o', l[j]? = some o' → o'.dst = some t → j < i ∧ bindsOn o j = true
  after : ∀ e ∈ o.after, Region.binds .any e = true → e.on < i
theorem tyB_shape {l : List Oper} {n : Nat} (h : tyB l.toArray n = true) : Region.noSelect l.toArray = true ∧ ∀ (i : Nat) o, l[i]? = some o → TyShape l n i o := by
  unfold tyB at h
  rw [Bool.and_eq_true] at h
  refine ⟨h.1, fun i o ho => ?_⟩
  have hi : i < l.length := (List.getElem?_eq_some_iff.1 ho).1
  have h2 := List.all_eq_true.1 h.2 i (by simpa using hi)
  have ho' : l.toArray[i]? = some o := by simpa using ho
  rw [ho'] at h2
  dsimp only at h2
  unfold tyOp at h2
  rw [Bool.and_eq_true, Bool.and_eq_true] at h2
  obtain ⟨⟨h3, h4⟩, h5⟩ := h2
  refine ⟨?_, fun t ht j o' hj hd => ?_, fun e he hb => ?_⟩
  · cases hd : o.dst with
    | none => rw [hd] at h3; cases h3
    | some d =>
      rw [hd] at h3
      dsimp only at h3
      rw [Bool.and_eq_true, decide_eq_true_eq] at h3
      refine ⟨d, rfl, h3.1, fun j o' hji hj e => ?_⟩
      have := List.all_eq_true.1 h3.2 j (by simpa using (List.getElem?_eq_some_iff.1 hj).1)
      have hj' : l.toArray[j]? = some o' := by simpa using hj
      rw [hj'] at this
      simp [hji, e] at this
  · have := List.all_eq_true.1 (List.all_eq_true.1 h4 t ht) j (by simpa using (List.getElem?_eq_some_iff.1 hj).1)
    have hj' : l.toArray[j]? = some o' := by simpa using hj
    rw [hj'] at this
    simpa [hd] using this
  · have := Array.all_eq_true_iff_forall_mem.1 h5 e he
    simpa [hb] using this
section
variable {l : List Oper} {Ts : List (Ty S)} {a a' : Act} {listed : Array Bool} {s : S}
def cont (l : List Oper) (a' : Act) (j : Nat) : Value := match l[j]? with
  | some o => match o.dst with
    | some d => a'.tmps.getD d undef
    | none => undef
  | none => undef
theorem cont_at {j d : Nat} {o : Oper} (ho : l[j]? = some o) (hd : o.dst = some d) : cont l a' j = a'.tmps.getD d undef := by
  unfold cont
  rw [ho]
  dsimp only
  rw [hd]
/-- A slot that an operation looks at holds what it holds in the walk's frame. -/
theorem slot_same (hI : TyInv l Ts kill a listed a' s) (hB : ∀ (i : Nat) o, l[i]? = some o → TyShape l a.tmps.size i o) (hl : ∀ i, i < l.length → i < Ts.length) {i t : Nat} (hi : i ≤ l.length)
    (h : ∀ (j : Nat) o', l[j]? = some o' → o'.dst = some t → j < i ∧ listed.getD j false = true) : (actAt l Ts (cont l a') a i).tmps.getD t undef = a'.tmps.getD t undef := by
  by_cases ht : ∃ (j : Nat) (o' : Oper), l[j]? = some o' ∧ o'.dst = some t
  · obtain ⟨j, o', hj, hd⟩ := ht
    obtain ⟨h1, h2⟩ := h j o' hj hd
    have hT := List.getElem?_eq_getElem (hl j (by omega))
    obtain ⟨d, e1, e2, e3⟩ := (hB j o' hj).dst
    rw [hd] at e1
    injection e1 with e1
    subst e1
    rw [actAt_there hj hT hd e2 e3 i h1, cont_at hj hd]
    exact hI.val j o' _ t h2 hj hT hd
  · have hn : ∀ (j : Nat) o', l[j]? = some o' → o'.dst ≠ some t := fun j o' hj hd => ht ⟨j, o', hj, hd⟩
    rw [actAt_else i (fun j o' _ hj => hn j o' hj), hI.rest t hn]
theorem get_of_getD {x y : Array Value} (hs : x.size = y.size) {t : Nat} (h : x.getD t undef = y.getD t undef) : x[t]? = y[t]? := by
  simp only [Array.getD_eq_getD_getElem?] at h
  by_cases ht : t < x.size
  · rw [Array.getElem?_eq_getElem ht, Array.getElem?_eq_getElem (show t < y.size by omega)] at h ⊢
    simpa using h
  · rw [Array.getElem?_eq_none (by omega), Array.getElem?_eq_none (by omega)]
theorem step_inv {i : Nat} {o : Oper} {T : Ty S} {w : World} {Q : Exit → Act → World → Prop} (hw : toW s = w) (hI : TyInv l Ts kill a listed a' s) (hn : Region.noSelect l.toArray = true) (hB : ∀ (i : Nat) o, l[i]? = some o → TyShape l a.tmps.size i o) (hl : ∀ i, i < l.length → i < Ts.length)
    (hstab : ∀ (i j : Nat) (T : Ty S), Ts[j]? = some T → freeB l kill i j = true → ∀ v s s', R i s s' → T.holds v s → T.holds v s') (ho : l[i]? = some o) (hT : Ts[i]? = some T) (hr : ∀ j, bindsOn o j = true → listed.getD j false = true) (hun : listed.getD i false = false) (hsz : l.length ≤ listed.size) (hkl : ∀ i j, l.length ≤ i → kill i j = false)
    (h : tyStep P l.toArray kill toW R o T (doneAt Ts (cont l a') i) (actAt l Ts (cont l a') a i)) :
    wpOp P l.toArray Q i (fun a2 w2 => ∃ s2, toW s2 = w2 ∧ TyInv l Ts kill a (listed.setIfInBounds i true) a2 s2) a' w := by
  subst hw
  have hi : i < l.length := (List.getElem?_eq_some_iff.1 ho).1
  obtain ⟨d, hd, hdn, hone⟩ := (hB i o ho).dst
  have hs := actAt_same (l := l) (Ts := Ts) (c := cont l a') (a := a) i
  have hlook : ∀ t ∈ o.looksAt l.toArray, (actAt l Ts (cont l a') a i).tmps.getD t undef = a'.tmps.getD t undef := fun t ht =>
    slot_same hI hB hl (by omega) (fun j o' hj hd' => by
      obtain ⟨h1, h2⟩ := (hB i o ho).looks t ht j o' hj hd'
      exact ⟨h1, hr j h2⟩)
  have hexec : execOp (actAt l Ts (cont l a') a i).eval o = execOp a'.eval o := by
    refine execOp_congr o (fun cs b => Region.noSelect_spec hn i o cs b (by simpa using ho)) (fun x hx => ?_)
    cases x with
    | tmp t => exact hlook t (List.mem_append_left _ (List.mem_filterMap.2 ⟨.tmp t, by simpa using hx, rfl⟩))
    | const v => rfl
    | global g => rfl
    | func f => rfl
  have hwant : Region.wanted o (yielded l.toArray (actAt l Ts (cont l a') a i).tmps) = Region.wanted o (yielded l.toArray a'.tmps) := by
    unfold Region.wanted
    cases hg : o.guard with
    | none => rfl
    | some gw =>
      obtain ⟨g, want⟩ := gw
      have : yielded l.toArray (actAt l Ts (cont l a') a i).tmps g = yielded l.toArray a'.tmps g := by
        unfold yielded
        cases ht : (l.toArray[g]?).bind (·.dst) with
        | none => rfl
        | some t =>
          simp only [Option.bind_some]
          rw [get_of_getD (hs.1.trans hI.size.symm) (hlook t (List.mem_append_right _ (by rw [hg]; dsimp only; rw [ht]; simp)))]
      simp only [this]
  have hF : Facts kill l.toArray.size o (doneAt Ts (cont l a') i) s := fun j T' v hj hb hal => by
    have hTl : i ≤ Ts.length := Nat.le_of_lt (hl i hi)
    obtain ⟨h1, h2, rfl⟩ := (doneAt_at Ts (cont l a') i hTl).2 j T' v hj
    have hjl := List.getElem?_eq_getElem (show j < l.length by omega)
    obtain ⟨d', hd', _, _⟩ := (hB j _ hjl).dst
    have := hI.there j _ T' d' (hr j hb) (fun k hk1 => by
      rcases Nat.lt_or_ge k l.length with hkk | hkk
      case inr => exact hkl k j hkk
      rw [(doneAt_at Ts (cont l a') i hTl).1] at hal
      have h9 := List.all_eq_true.1 hal k (List.mem_range.2 (by simpa using hkk))
      by_cases e : k = i
      · rw [e, hun] at hk1
        cases hk1
      · simpa [e] using h9) hjl h2 hd'
    rw [cont_at hjl hd', hI.val j _ T' d' (hr j hb) hjl h2 hd']
    exact this
  have hdl : (doneAt Ts (cont l a') i).length = i := (doneAt_at Ts (cont l a') i (Nat.le_of_lt (hl i hi))).1
  unfold tyStep at h
  rw [hdl] at h
  have back : ∀ j, j ≠ i → (listed.setIfInBounds i true).getD j false = listed.getD j false := fun j hji => by
    rw [Array.getD_eq_getD_getElem?, Array.getElem?_setIfInBounds_ne (fun e => hji e.symm), ← Array.getD_eq_getD_getElem?]
  have self : (listed.setIfInBounds i true).getD i false = true := by
    simp only [Array.getD_eq_getD_getElem?]
    rw [Array.getElem?_setIfInBounds_self, if_pos (by omega)]
    rfl
  have next : ∀ v s', R i s s' → T.holds v s' → TyInv l Ts kill a (listed.setIfInBounds i true) (a'.put o.dst v) s' := fun v s' hR hv => by
    rw [hd]
    refine ⟨by simpa [Act.put] using hI.size, hI.defers, fun t ht => ?_, fun j o' k hj hjo hb => ?_, fun j o' T' d' hj hjo hjT hjd => ?_, fun j o' T' d' hj hal hjo hjT hjd => ?_⟩
    · unfold Act.put
      dsimp only
      rw [getD_set, if_neg (fun q => ht i o ho (by rw [hd, q.1]))]
      exact hI.rest t ht
    · have hk2 : listed.getD k false = true := by
        by_cases hji : j = i
        · subst hji
          rw [ho] at hjo
          injection hjo with hjo
          subst hjo
          exact hr k hb
        · rw [back j hji] at hj
          exact hI.deps j o' k hj hjo hb
      by_cases e : k = i
      · rw [e]; exact self
      · rw [back k e]; exact hk2
    · unfold Act.put
      dsimp only
      by_cases hji : j = i
      · subst hji
        rw [ho] at hjo
        rw [hT] at hjT
        injection hjo with hjo
        injection hjT with hjT
        subst hjo hjT
        rw [hd] at hjd
        injection hjd with hjd
        subst hjd
        rw [getD_set, if_pos ⟨rfl, by rw [hI.size]; exact hdn⟩]
        exact Ty.holds_val hv
      · have hne : d ≠ d' := fun e => hone j o' hji hjo (by rw [hjd, e])
        rw [getD_set, if_neg (fun q => hne q.1)]
        rw [back j hji] at hj
        exact hI.val j o' T' d' hj hjo hjT hjd
    · unfold Act.put
      dsimp only
      by_cases hji : j = i
      · subst hji
        rw [ho] at hjo
        rw [hT] at hjT
        injection hjo with hjo
        injection hjT with hjT
        subst hjo hjT
        rw [hd] at hjd
        injection hjd with hjd
        subst hjd
        rw [getD_set, if_pos ⟨rfl, by rw [hI.size]; exact hdn⟩]
        exact hv
      · have hne : d ≠ d' := fun e => hone j o' hji hjo (by rw [hjd, e])
        rw [getD_set, if_neg (fun q => hne q.1)]
        rw [back j hji] at hj
        have hal2 : ∀ k, listed.getD k false = true → kill k j = false := fun k hk1 => hal k (by
          by_cases e : k = i
          · rw [e]; exact self
          · rw [back k e]; exact hk1)
        refine hstab i j T' hjT ?_ _ _ _ hR (hI.there j o' T' d' hj hal2 hjo hjT hjd)
        unfold freeB
        rw [ho, hjo]
        simp only [Bool.and_eq_true]
        refine ⟨⟨⟨by simpa using fun e => hji e.symm, by rw [hal i self]; rfl⟩, ?_⟩, ?_⟩
        · rw [List.all_eq_true]
          intro k _
          cases hb : bindsOn o k
          · rfl
          · rw [hal2 k (hr k hb)]; rfl
        · cases hb : bindsOn o' i
          · rfl
          · have := hI.deps j o' i hj hjo hb
            rw [hun] at this
            cases this
  have put_d : ∀ {b : Act} {v u : Value}, b.tmps.size = a.tmps.size → b.put o.dst v = b.put o.dst u → v = u := fun {b v u} hb e => by
    rw [hd] at e
    have e2 := congrArg (fun x : Act => x.tmps.getD d undef) e
    unfold Act.put at e2
    dsimp only at e2
    have hdb : d < b.tmps.size := by rw [hb]; exact hdn
    rw [getD_set, getD_set, if_pos ⟨rfl, hdb⟩, if_pos ⟨rfl, hdb⟩] at e2
    exact e2
  have hst := h s hF (fun a2 w2 => ∃ v s', a2 = (actAt l Ts (cont l a') a i).put o.dst v ∧ toW s' = w2 ∧ R i s s' ∧ T.holds v s') (fun _ _ _ => False) (fun v s' h1 h2 => ⟨v, s', rfl, rfl, h1, h2⟩)
  rw [hwant] at hst
  unfold wpOp
  rw [show l.toArray[i]? = some o by simpa using ho]
  dsimp only
  split at hst
  · rename_i hw
    rw [if_pos hw]
    left
    unfold Oper.wp at *
    rw [hexec] at hst
    generalize (execOp a'.eval o).run P (toW s) = r at *
    cases r with
    | ok n w' =>
      cases n <;> simp only [Oper.upon] at hst ⊢
      case value u =>
        obtain ⟨v, s', e1, rfl, hR, hv⟩ := hst
        obtain rfl := put_d hs.1 e1
        exact ⟨s', rfl, next _ s' hR hv⟩
      case skip =>
        obtain ⟨v, s', e1, rfl, hR, hv⟩ := hst
        obtain rfl := put_d hs.1 e1
        exact ⟨s', rfl, next _ s' hR hv⟩
      case defer q =>
        obtain ⟨v, s', e1, _⟩ := hst
        rw [hd] at e1
        have e2 := congrArg (fun x : Act => x.defers.length) e1
        simp [Act.put] at e2
      case enter f args =>
        refine hst.mono fun e w'' he => ?_
        cases e with
        | returned u =>
          obtain ⟨v, s', e1, rfl, hR, hv⟩ := he
          obtain rfl := put_d hs.1 e1
          exact ⟨s', rfl, next _ s' hR hv⟩
        | panicked c => exact he.elim
        | outgrown => exact absurd he (by unfold LetsOut; simp)
      case row row args =>
        refine hst.mono fun u w'' he => ?_
        obtain ⟨v, s', e1, rfl, hR, hv⟩ := he
        obtain rfl := put_d hs.1 e1
        exact ⟨s', rfl, next _ s' hR hv⟩
    | halt x w' => cases x <;> simp only [Oper.upon] at hst
  · rename_i hw
    rw [if_neg hw]
    obtain ⟨v, s', e1, e2, hR, hv⟩ := hst
    obtain rfl := put_d hs.1 e1
    exact ⟨s', e2, next _ s' hR hv⟩
end
section
variable {l : List Oper} {Ts : List (Ty S)} {a : Act}
theorem mem_ready_iff {ops : Array Oper} {listed : Array Bool} {i : Nat} {o : Oper} (hi : ops[i]? = some o) : i ∈ Region.ready .any ops listed ↔ listed.getD i true = false ∧ ∀ e ∈ o.after, Region.binds .any e = true → listed.getD e.on false = true := by
  have hlt : i < ops.size := (Array.getElem?_eq_some_iff.1 hi).1
  unfold Region.ready
  rw [List.mem_filter, List.mem_range, hi]
  simp only [Option.map_some, Option.getD_some, Bool.and_eq_true, Bool.not_eq_true', Array.all_eq_true_iff_forall_mem, Bool.or_eq_true]
  constructor
  · rintro ⟨_, h1, h2⟩
    refine ⟨h1, fun e he hb => ?_⟩
    rcases h2 e he with h | h
    · rw [hb] at h
      cases h
    · exact h
  · rintro ⟨h1, h2⟩
    refine ⟨hlt, h1, fun e he => ?_⟩
    cases hb : Region.binds .any e
    · exact .inl rfl
    · exact .inr (h2 e he hb)
theorem all_listed (hB : ∀ (i : Nat) o, l[i]? = some o → TyShape l a.tmps.size i o) {listed : Array Bool} (hsz : listed.size = l.length) (h : Region.ready .any l.toArray listed = []) : ∀ i, i < l.length → listed.getD i false = true := by
  intro i
  induction i using Nat.strongRecOn with
  | _ i ih =>
    intro hi
    cases hc : listed.getD i false with
    | true => rfl
    | false =>
      have ho := List.getElem?_eq_getElem hi
      have : i ∈ Region.ready .any l.toArray listed := by
        rw [mem_ready_iff (o := l[i]) (by simp [hi])]
        refine ⟨?_, fun e he hb => ih e.on ((hB i _ ho).after e he hb) (by have := (hB i _ ho).after e he hb; omega)⟩
        simp only [Array.getD_eq_getD_getElem?] at hc ⊢
        rw [Array.getElem?_eq_getElem (show i < listed.size by omega)] at hc ⊢
        exact hc
      rw [h] at this
      cases this
theorem typed_end {listed : Array Bool} {a' : Act} {s : S} {Qf : Done S → Act → Prop} (hI : TyInv l Ts kill a listed a' s) (hB : ∀ (i : Nat) o, l[i]? = some o → TyShape l a.tmps.size i o) (hl : ∀ i, i < l.length → i < Ts.length) (hall : ∀ i, i < l.length → listed.getD i false = true) (hkl : ∀ i j, l.length ≤ i → kill i j = false)
    (h : wpTy P l.toArray kill toW R Qf l Ts [] a) : ∃ done, Qf done a' ∧ ∀ (j : Nat) (T : Ty S) v, done[j]? = some (T, v) → (∀ i, i < l.length → kill i j = false) → T.holds v s := by
  have hw := (wpTy_at (cont l a') h l.length (Nat.le_refl _)).1
  rw [List.drop_length] at hw
  have hle : l.length ≤ Ts.length := by
    rcases Nat.eq_zero_or_pos l.length with e | e
    · omega
    · have := hl (l.length - 1) (by omega)
      omega
  have hact : actAt l Ts (cont l a') a l.length = a' := by
    have hs := actAt_same (l := l) (Ts := Ts) (c := cont l a') (a := a) l.length
    have hp : (actAt l Ts (cont l a') a l.length).tmps = a'.tmps := by
      apply Array.ext
      · rw [hs.1, hI.size]
      · intro t h1 h2
        have := slot_same hI hB hl (Nat.le_refl _) (t := t) (fun j o' hj _ => ⟨(List.getElem?_eq_some_iff.1 hj).1, hall j (List.getElem?_eq_some_iff.1 hj).1⟩)
        simp only [Array.getD_eq_getD_getElem?] at this
        rw [Array.getElem?_eq_getElem h1, Array.getElem?_eq_getElem h2] at this
        exact this
    have hd := hs.2.trans hI.defers.symm
    generalize actAt l Ts (cont l a') a l.length = b at *
    cases b
    cases a'
    simp only at hp hd
    rw [hp, hd]
  rw [hact] at hw
  refine ⟨_, hw, fun j T v hj hal => ?_⟩
  obtain ⟨h1, h2, rfl⟩ := (doneAt_at Ts (cont l a') l.length hle).2 j T v hj
  have hjl := List.getElem?_eq_getElem h1
  obtain ⟨d', hd', _, _⟩ := (hB j _ hjl).dst
  have := hI.there j _ T d' (hall j h1) (fun i hi => by
    rcases Nat.lt_or_ge i l.length with h | h
    · exact hal i h
    · exact hkl i j h) hjl h2 hd'
  rw [cont_at hjl hd', hI.val j _ T d' (hall j h1) hjl h2 hd']
  exact this
def unl (listed : Array Bool) (n : Nat) : Nat := (List.range n).countP fun j => !listed.getD j false
theorem unl_set {listed : Array Bool} {n i : Nat} (hi : i < n) (hn : n ≤ listed.size) (h : listed.getD i false = false) : unl (listed.setIfInBounds i true) n + 1 = unl listed n := by
  unfold unl
  induction n with
  | zero => omega
  | succ n ih =>
    rw [List.range_succ, List.countP_append, List.countP_append]
    by_cases e : i = n
    · subst e
      have e1 : (List.range i).countP (fun j => !(listed.setIfInBounds i true).getD j false) = (List.range i).countP (fun j => !listed.getD j false) := by
        refine List.countP_congr (fun x hx => ?_)
        have := List.mem_range.1 hx
        rw [Array.getD_eq_getD_getElem?, Array.getElem?_setIfInBounds_ne (by omega), ← Array.getD_eq_getD_getElem?]
      have e2 : (listed.setIfInBounds i true).getD i false = true := by
        simp only [Array.getD_eq_getD_getElem?]
        rw [Array.getElem?_setIfInBounds_self, if_pos (by omega)]
        rfl
      rw [e1]
      simp only [List.countP_singleton, h, e2]
      rfl
    · have := ih (by omega) (by omega)
      have e2 : (listed.setIfInBounds i true).getD n false = listed.getD n false := by
        rw [Array.getD_eq_getD_getElem?, Array.getElem?_setIfInBounds_ne e, ← Array.getD_eq_getD_getElem?]
      simp only [List.countP_singleton, e2]
      omega
theorem typed_any {Q : Exit → Act → World → Prop} {Qf : Done S → Act → Prop} (hn : Region.noSelect l.toArray = true) (hB : ∀ (i : Nat) o, l[i]? = some o → TyShape l a.tmps.size i o) (hl : ∀ i, i < l.length → i < Ts.length) (hkl : ∀ i j, l.length ≤ i → kill i j = false)
    (hstab : ∀ (i j : Nat) (T : Ty S), Ts[j]? = some T → freeB l kill i j = true → ∀ v s s', R i s s' → T.holds v s → T.holds v s') (h : wpTy P l.toArray kill toW R Qf l Ts [] a)
    (hQ : ∀ done a' s, Qf done a' → (∀ (j : Nat) (T : Ty S) v, done[j]? = some (T, v) → (∀ i, i < l.length → kill i j = false) → T.holds v s) → Q .normal a' (toW s)) :
    ∀ fuel listed a' s, listed.size = l.length → unl listed l.length = fuel → TyInv l Ts kill a listed a' s → wpAny P .any l.toArray Q fuel listed a' (toW s) := by
  have fin : ∀ listed a' s, listed.size = l.length → TyInv l Ts kill a listed a' s → Region.ready .any l.toArray listed = [] → Q .normal a' (toW s) := fun listed a' s hsz hI hr => by
    obtain ⟨done, h1, h2⟩ := typed_end hI hB hl (all_listed hB hsz hr) hkl h
    exact hQ done a' s h1 h2
  intro fuel
  induction fuel with
  | zero =>
    intro listed a' s hsz hu hI
    have hr : Region.ready .any l.toArray listed = [] := by
      apply List.eq_nil_iff_forall_not_mem.2
      intro i hi
      have hlt : i < l.length := by
        unfold Region.ready at hi
        simpa using List.mem_range.1 (List.mem_filter.1 hi).1
      have h1 := ((mem_ready_iff (o := l[i]) (by simp [hlt])).1 hi).1
      unfold unl at hu
      rw [List.countP_eq_zero] at hu
      have := hu i (List.mem_range.2 hlt)
      simp only [Array.getD_eq_getD_getElem?] at h1 this
      rw [Array.getElem?_eq_getElem (show i < listed.size by omega)] at h1 this
      simp at h1 this
      rw [h1] at this
      cases this
    exact ⟨hr, fin listed a' s hsz hI hr⟩
  | succ fuel ih =>
    intro listed a' s hsz hu hI
    refine ⟨fin listed a' s hsz hI, fun i hi => ?_⟩
    have hlt : i < l.length := by
      unfold Region.ready at hi
      simpa using List.mem_range.1 (List.mem_filter.1 hi).1
    have ho := List.getElem?_eq_getElem hlt
    have hT := List.getElem?_eq_getElem (hl i hlt)
    obtain ⟨h1, h2⟩ := (mem_ready_iff (o := l[i]) (by simp [hlt])).1 hi
    have h3 : listed.getD i false = false := by
      simp only [Array.getD_eq_getD_getElem?] at h1 ⊢
      rw [Array.getElem?_eq_getElem (show i < listed.size by omega)] at h1 ⊢
      exact h1
    have hw := (wpTy_at (cont l a') h i (Nat.le_of_lt hlt)).1
    rw [List.drop_eq_getElem_cons hlt, List.drop_eq_getElem_cons (hl i hlt)] at hw
    unfold wpTy at hw
    refine wpOp_mono (fun a2 w2 h4 => ?_) (step_inv rfl hI hn hB hl hstab ho hT (fun j hj => ?_) h3 (Nat.le_of_eq hsz.symm) hkl hw.1)
    · obtain ⟨s2, rfl, hI2⟩ := h4
      refine ih _ a2 s2 (by simpa using hsz) ?_ hI2
      have := unl_set (listed := listed) (n := l.length) hlt (by omega) h3
      omega
    · unfold bindsOn at hj
      obtain ⟨e, he, hb⟩ := Array.any_eq_true'.1 hj
      rw [Bool.and_eq_true, beq_iff_eq] at hb
      rw [← hb.2]
      exact h2 e he hb.1
theorem wpTy_mono {Qf Qg : Done S → Act → Prop} (hq : ∀ done a, Qf done a → Qg done a) : ∀ {l' : List Oper} {Ts : List (Ty S)} {done : Done S} {a : Act}, wpTy P ops kill toW R Qf l' Ts done a → wpTy P ops kill toW R Qg l' Ts done a
  | [], _, _, _, h => hq _ _ h
  | _ :: _, [], _, _, h => h
  | o :: l, .is u :: Ts, done, a, h => ⟨h.1, wpTy_mono hq h.2⟩
  | o :: l, .of p :: Ts, done, a, h => ⟨h.1, fun v => wpTy_mono hq (h.2 v)⟩
/-- **The region, by kinds.** -/
theorem wp_region_typedK {id : Nat} {w : World} {Q : Exit → Act → World → Prop} (toW : S → World) (R : Nat → S → S → Prop) (kill : Nat → Nat → Bool) (Ts : List (Ty S)) (s0 : S) (hm : P.follows .mixedOrders = true) (hB : tyB l.toArray a.tmps.size = true) (hlen : Ts.length = l.length) (h0 : toW s0 = w.drew) (hkl : ∀ i j, l.length ≤ i → kill i j = false)
    (hstab : ∀ (i j : Nat) (T : Ty S), Ts[j]? = some T → freeB l kill i j = true → ∀ v s s', R i s s' → T.holds v s → T.holds v s')
    (h : wpTy P l.toArray kill toW R (fun done a' => ∀ s, (∀ (j : Nat) (T : Ty S) v, done[j]? = some (T, v) → (∀ i, i < l.length → kill i j = false) → T.holds v s) → Q .normal a' (toW s)) l Ts [] a) : (Code.region id l.toArray true).wp P Q a w := by
  obtain ⟨h1, h2⟩ := tyB_shape hB
  refine wp_region_any hm ?_
  have h0' : toW s0 = { w with drawn := w.drawn + 1 } := h0
  rw [← h0']
  have none : ∀ j, (Array.replicate l.toArray.size false).getD j false = false := fun j => by
    simp only [Array.getD_eq_getD_getElem?, Array.getElem?_replicate]
    split <;> rfl
  refine typed_any h1 h2 (fun i hi => by omega) hkl hstab h (fun done a' s hq hf => hq s hf) _ _ a s0 (by simp) ?_ ⟨rfl, rfl, fun t _ => rfl, fun j o k hj => (by rw [none j] at hj; cases hj), fun j o T d hj => (by rw [none j] at hj; cases hj), fun j o T d hj => (by rw [none j] at hj; cases hj)⟩
  · unfold unl
    have : ∀ n, n ≤ l.length → (List.range n).countP (fun j => !(Array.replicate l.toArray.size false).getD j false) = n := fun n => by
      induction n with
      | zero => intro _; rfl
      | succ n ih =>
        intro hn
        rw [List.range_succ, List.countP_append, ih (by omega)]
        simp [show n < l.length by omega]
    simpa using this l.length (Nat.le_refl _)
/-- The same where nothing is ended. -/
theorem wp_region_typed {id : Nat} {w : World} {Q : Exit → Act → World → Prop} (toW : S → World) (R : S → S → Prop) (Ts : List (Ty S)) (s0 : S) (hm : P.follows .mixedOrders = true) (hB : tyB l.toArray a.tmps.size = true) (hlen : Ts.length = l.length) (h0 : toW s0 = w.drew)
    (hstab : ∀ T ∈ Ts, ∀ v s s', R s s' → T.holds v s → T.holds v s')
    (h : wpTy P l.toArray (fun _ _ => false) toW (fun _ => R) (fun done a' => ∀ s, (∀ (j : Nat) (T : Ty S) v, done[j]? = some (T, v) → T.holds v s) → Q .normal a' (toW s)) l Ts [] a) : (Code.region id l.toArray true).wp P Q a w := by
  refine wp_region_typedK toW (fun _ => R) (fun _ _ => false) Ts s0 hm hB hlen h0 (fun _ _ _ => rfl) (fun i j T hT _ => hstab T (List.mem_of_getElem? hT)) ?_
  refine wpTy_mono (fun done a' h s hs => h s (fun j T v hj => hs j T v hj (fun _ _ => rfl))) h
/-! ### A last operation that may turn anything -/
theorem wpOp_ops {ops : Array Oper} {i : Nat} {K : Act → World → Prop} {Q : Exit → Act → World → Prop} {b : Act} {w : World} (hi : ops[i]? = l.toArray[i]?) (hD : ∀ g : Nat, (ops[g]?).bind (fun x : Oper => x.dst) = (l.toArray[g]?).bind (fun x : Oper => x.dst)) (h : wpOp P l.toArray Q i K b w) : wpOp P ops Q i K b w := by
  have hy : ∀ t : Array Value, yielded ops t = yielded l.toArray t := fun t => by
    funext g
    unfold yielded
    rw [hD]
  unfold wpOp at *
  rw [hi]
  cases he : l.toArray[i]? with
  | none => rw [he] at h; exact h
  | some o =>
    rw [he] at h
    dsimp only at h ⊢
    rw [hy]
    exact h
def tailB (l : List Oper) (o : Oper) : Bool := o.dst.isNone && (o.after.all fun e => !Region.binds .any e || decide (e.on < l.length)) && (List.range l.length).all fun j => bindsOn o j || (List.range l.length).any fun k => decide (j < k) && match l[k]? with
  | some ok => bindsOn ok j
  | none => false
theorem tail_all {o : Oper} {listed : Array Bool} {a' : Act} {s : S} (ht : tailB l o = true) (hI : TyInv l Ts kill a listed a' s) (hr : ∀ j, bindsOn o j = true → listed.getD j false = true) : ∀ i, i < l.length → listed.getD i false = true := by
  unfold tailB at ht
  rw [Bool.and_eq_true] at ht
  have h : ∀ d i, l.length - i = d → i < l.length → listed.getD i false = true := by
    intro d
    induction d using Nat.strongRecOn with
    | _ d ih =>
      intro i hd hi
      have := List.all_eq_true.1 ht.2 i (List.mem_range.2 hi)
      rw [Bool.or_eq_true] at this
      rcases this with h | h
      · exact hr i h
      · obtain ⟨k, hk, hb⟩ := List.any_eq_true.1 h
        rw [Bool.and_eq_true, decide_eq_true_eq] at hb
        have hkl := List.mem_range.1 hk
        have hkk := ih (l.length - k) (by omega) k rfl hkl
        have hko := List.getElem?_eq_getElem hkl
        rw [hko] at hb
        exact hI.deps k _ i hkk hko hb.2
  exact fun i hi => h _ i rfl hi
theorem wpAny_end {ops : Array Oper} {listed : Array Bool} {b : Act} {w : World} {Q : Exit → Act → World → Prop} (hr : Region.ready .any ops listed = []) (h : Q .normal b w) : ∀ fuel, wpAny P .any ops Q fuel listed b w
  | 0 => ⟨hr, h⟩
  | _ + 1 => ⟨fun _ => h, by rw [hr]; simp⟩
theorem getD_set_ne {listed : Array Bool} {i j : Nat} (h : i ≠ j) : (listed.setIfInBounds i true).getD j false = listed.getD j false := by
  rw [Array.getD_eq_getD_getElem?, Array.getElem?_setIfInBounds_ne h, ← Array.getD_eq_getD_getElem?]
theorem getD_set_self {listed : Array Bool} {i : Nat} (h : i < listed.size) : (listed.setIfInBounds i true).getD i false = true := by
  simp only [Array.getD_eq_getD_getElem?]
  rw [Array.getElem?_setIfInBounds_self, if_pos h]
  rfl
theorem getD_tf {listed : Array Bool} {i : Nat} (h : i < listed.size) : listed.getD i true = listed.getD i false := by
  simp only [Array.getD_eq_getD_getElem?]
  rw [Array.getElem?_eq_getElem h]
  rfl
theorem tail_any {o : Oper} {Q : Exit → Act → World → Prop} {Qf : Done S → Act → Prop} (ht : tailB l o = true) (hn : Region.noSelect l.toArray = true) (hB : ∀ (i : Nat) o, l[i]? = some o → TyShape l a.tmps.size i o) (hl : ∀ i, i < l.length → i < Ts.length) (hkl : ∀ i j, l.length ≤ i → kill i j = false)
    (hstab : ∀ (i j : Nat) (T : Ty S), Ts[j]? = some T → freeB l kill i j = true → ∀ v s s', R i s s' → T.holds v s → T.holds v s') (h : wpTy P l.toArray kill toW R Qf l Ts [] a)
    (hQ : ∀ done a' s, Qf done a' → (∀ (j : Nat) (T : Ty S) v, done[j]? = some (T, v) → (∀ i, i < l.length → kill i j = false) → T.holds v s) →
      if Region.wanted o (yielded (l ++ [o]).toArray a'.tmps) = true then Oper.wp P o a' (toW s) (fun a2 w2 => Q .normal a2 w2) Q else Q .normal (a'.put o.dst undef) (toW s)) :
    ∀ fuel listed a' s, listed.size = l.length + 1 → listed.getD l.length false = false → unl listed (l.length + 1) = fuel → TyInv l Ts kill a listed a' s → wpAny P .any (l ++ [o]).toArray Q fuel listed a' (toW s) := by
  have ht2 := ht
  unfold tailB at ht2
  rw [Bool.and_eq_true, Bool.and_eq_true, Option.isNone_iff_eq_none] at ht2
  have hops : ∀ i, i < l.length → (l ++ [o]).toArray[i]? = l.toArray[i]? := fun i hi => by simp [List.getElem?_append, hi]
  have hlast : (l ++ [o]).toArray[l.length]? = some o := by simp
  have hD : ∀ g : Nat, (((l ++ [o]).toArray)[g]?).bind (fun x : Oper => x.dst) = (l.toArray[g]?).bind (fun x : Oper => x.dst) := fun g => by
    rcases Nat.lt_or_ge g l.length with hg | hg
    · rw [hops g hg]
    · by_cases e : g = l.length
      · subst e
        rw [hlast]
        simp [ht2.1.1]
      · have e1 : (l ++ [o]).toArray[g]? = none := by simp; omega
        have e2 : l.toArray[g]? = none := by simp; omega
        rw [e1, e2]
  have fin : ∀ listed a' s, listed.size = l.length + 1 → TyInv l Ts kill a listed a' s → listed.getD l.length false = false → Region.ready .any (l ++ [o]).toArray listed ≠ [] := fun listed a' s hsz hI hun hr => by
    have hall : ∀ i, i < l.length → listed.getD i false = true := by
      intro i
      induction i using Nat.strongRecOn with
      | _ i ih =>
        intro hi
        cases hc : listed.getD i false with
        | true => rfl
        | false =>
          have ho := List.getElem?_eq_getElem hi
          have : i ∈ Region.ready .any (l ++ [o]).toArray listed := by
            rw [mem_ready_iff (o := l[i]) (by rw [hops i hi]; simp [hi])]
            exact ⟨by rw [getD_tf (by omega)]; exact hc, fun e he hb => ih e.on ((hB i _ ho).after e he hb) (by have := (hB i _ ho).after e he hb; omega)⟩
          rw [hr] at this
          cases this
    have : l.length ∈ Region.ready .any (l ++ [o]).toArray listed := by
      rw [mem_ready_iff (o := o) hlast]
      refine ⟨by rw [getD_tf (by omega)]; exact hun, fun e he hb => hall e.on ?_⟩
      have := Array.all_eq_true_iff_forall_mem.1 ht2.1.2 e he
      simpa [hb] using this
    rw [hr] at this
    cases this
  intro fuel
  induction fuel with
  | zero =>
    intro listed a' s hsz hun hu hI
    unfold unl at hu
    rw [List.countP_eq_zero] at hu
    have := hu l.length (List.mem_range.2 (Nat.lt_succ_self _))
    rw [hun] at this
    exact absurd rfl this
  | succ fuel ih =>
    intro listed a' s hsz hun hu hI
    refine ⟨fun hr => absurd hr (fin listed a' s hsz hI hun), fun i hi => ?_⟩
    have hlt : i < l.length + 1 := by
      unfold Region.ready at hi
      simpa using List.mem_range.1 (List.mem_filter.1 hi).1
    by_cases hlast2 : i = l.length
    · subst hlast2
      obtain ⟨h1, h2⟩ := (mem_ready_iff (o := o) hlast).1 hi
      have hall := tail_all ht hI (fun j hj => by
        unfold bindsOn at hj
        obtain ⟨e, he, hb⟩ := Array.any_eq_true'.1 hj
        rw [Bool.and_eq_true, beq_iff_eq] at hb
        rw [← hb.2]
        exact h2 e he hb.1)
      obtain ⟨done, h3, h4⟩ := typed_end hI hB hl hall hkl h
      have h5 := hQ done a' s h3 h4
      have hend : Region.ready .any (l ++ [o]).toArray (listed.setIfInBounds l.length true) = [] := by
        apply List.eq_nil_iff_forall_not_mem.2
        intro j hj
        have hjlt : j < l.length + 1 := by
          unfold Region.ready at hj
          simpa using List.mem_range.1 (List.mem_filter.1 hj).1
        unfold Region.ready at hj
        have h7 := (List.mem_filter.1 hj).2
        rw [Bool.and_eq_true, Bool.not_eq_true'] at h7
        have h8 := h7.1
        rw [getD_tf (by simp; omega)] at h8
        by_cases e : j = l.length
        · rw [e, getD_set_self (by omega)] at h8
          cases h8
        · rw [getD_set_ne (by omega), hall j (by omega)] at h8
          cases h8
      unfold wpOp
      rw [hlast]
      dsimp only
      split at h5
      · rename_i hw
        rw [if_pos hw]
        exact .inl (Oper.wp_mono (fun a2 w2 h6 => wpAny_end hend h6 fuel) h5)
      · rename_i hw
        rw [if_neg hw]
        exact wpAny_end hend h5 fuel
    · have hil : i < l.length := by omega
      have ho := List.getElem?_eq_getElem hil
      have hT := List.getElem?_eq_getElem (hl i hil)
      obtain ⟨h1, h2⟩ := (mem_ready_iff (o := l[i]) (by rw [hops i hil]; simp [hil])).1 hi
      have h3 : listed.getD i false = false := by rw [getD_tf (by omega)] at h1; exact h1
      have hw := (wpTy_at (cont l a') h i (Nat.le_of_lt hil)).1
      rw [List.drop_eq_getElem_cons hil, List.drop_eq_getElem_cons (hl i hil)] at hw
      unfold wpTy at hw
      refine wpOp_ops (hops i hil) hD (wpOp_mono (fun a2 w2 h4 => ?_) (step_inv rfl hI hn hB hl hstab ho hT (fun j hj => ?_) h3 (by omega) hkl hw.1))
      · obtain ⟨s2, rfl, hI2⟩ := h4
        refine ih _ a2 s2 (by simpa using hsz) (by rw [getD_set_ne (by omega)]; exact hun) ?_ hI2
        have := unl_set (listed := listed) (n := l.length + 1) (i := i) (by omega) (by omega) h3
        omega
      · unfold bindsOn at hj
        obtain ⟨e, he, hb⟩ := Array.any_eq_true'.1 hj
        rw [Bool.and_eq_true, beq_iff_eq] at hb
        rw [← hb.2]
        exact h2 e he hb.1
/-- **The region, by kinds, and a last operation that may turn anything.** -/
theorem wp_region_typedT {o : Oper} {id : Nat} {w : World} {Q : Exit → Act → World → Prop} (toW : S → World) (R : Nat → S → S → Prop) (kill : Nat → Nat → Bool) (Ts : List (Ty S)) (s0 : S) (hm : P.follows .mixedOrders = true) (hB : tyB l.toArray a.tmps.size = true) (ht : tailB l o = true) (hlen : Ts.length = l.length) (h0 : toW s0 = w.drew) (hkl : ∀ i j, l.length ≤ i → kill i j = false)
    (hstab : ∀ (i j : Nat) (T : Ty S), Ts[j]? = some T → freeB l kill i j = true → ∀ v s s', R i s s' → T.holds v s → T.holds v s')
    (h : wpTy P l.toArray kill toW R (fun done a' => ∀ s, (∀ (j : Nat) (T : Ty S) v, done[j]? = some (T, v) → (∀ i, i < l.length → kill i j = false) → T.holds v s) →
      if Region.wanted o (yielded (l ++ [o]).toArray a'.tmps) = true then Oper.wp P o a' (toW s) (fun a2 w2 => Q .normal a2 w2) Q else Q .normal (a'.put o.dst undef) (toW s)) l Ts [] a) : (Code.region id (l ++ [o]).toArray true).wp P Q a w := by
  obtain ⟨h1, h2⟩ := tyB_shape hB
  refine wp_region_any hm ?_
  have h0' : toW s0 = { w with drawn := w.drawn + 1 } := h0
  rw [← h0']
  have none : ∀ j, (Array.replicate (l ++ [o]).toArray.size false).getD j false = false := fun j => by
    simp only [Array.getD_eq_getD_getElem?, Array.getElem?_replicate]
    split <;> rfl
  refine tail_any ht h1 h2 (fun i hi => by omega) hkl hstab h (fun done a' s hq hf => hq s hf) _ _ a s0 (by simp) (none _) ?_ ⟨rfl, rfl, fun t _ => rfl, fun j o k hj => (by rw [none j] at hj; cases hj), fun j o T d hj => (by rw [none j] at hj; cases hj), fun j o T d hj => (by rw [none j] at hj; cases hj)⟩
  unfold unl
  have h9 : ∀ n, (List.range n).countP (fun j => !(Array.replicate (l ++ [o]).toArray.size false).getD j false) = n := fun n => by
    induction n with
    | zero => rfl
    | succ n ih =>
      rw [List.range_succ, List.countP_append, ih, List.countP_singleton, none n]
      rfl
  rw [h9]
  simp
end
end
end Go.Proofs.Ytiflmdekcjbmbaa.Lb
set_option maxRecDepth 100000
namespace Go.Proofs.Ytiflmdekcjbmbaa.Lb
set_option linter.unusedVariables false
set_option linter.unusedSimpArgs false
open Go.RowKit

/-- A world behind v, and names. -/
structure Gh (v : World) where
  toW : World
  ok : Below v.heap.size v toW
  g : Nat → Option Nat
section
variable {v : World}
/-- From s to s' nothing has turned, and no name but i's. -/
structure Gh.R (i : Nat) (s s' : Gh v) : Prop where
  bel : Below s.toW.heap.size s.toW s'.toW
  g : ∀ j, j ≠ i → s'.g j = s.g j
theorem Gh.R.refl (i : Nat) (s : Gh v) : Gh.R i s s := ⟨Below.refl _ _, fun _ _ => rfl⟩
/-- Behind what makes memory. -/
def Gh.to (s : Gh v) (w' : World) (h : Below s.toW.heap.size s.toW w') : Gh v := ⟨w', s.ok.trans (h.mono s.ok.size), s.g⟩
theorem Gh.to_R (i : Nat) (s : Gh v) (w' : World) (h : Below s.toW.heap.size s.toW w') : Gh.R i s (s.to w' h) := ⟨h, fun _ _ => rfl⟩
/-- The same, and name k is b. -/
def Gh.name (s : Gh v) (w' : World) (h : Below s.toW.heap.size s.toW w') (k b : Nat) : Gh v := ⟨w', s.ok.trans (h.mono s.ok.size), fun j => if j = k then some b else s.g j⟩
theorem Gh.name_R (s : Gh v) (w' : World) (h : Below s.toW.heap.size s.toW w') (k b : Nat) : Gh.R k s (s.name w' h k b) := ⟨h, fun j hj => if_neg hj⟩
theorem Gh.name_at (s : Gh v) (w' : World) (h : Below s.toW.heap.size s.toW w') (k b : Nat) : (s.name w' h k b).g k = some b := if_pos rfl
theorem Gh.name_ne (s : Gh v) (w' : World) (h : Below s.toW.heap.size s.toW w') {k j : Nat} (b : Nat) (hj : j ≠ k) : (s.name w' h k b).g j = s.g j := if_neg hj
variable {P : Program} {ops : Array Oper} {Qf : Done (Gh v) → Act → Prop} {o : Oper} {l : List Oper} {Ts : List (Ty (Gh v))} {done : Done (Gh v)} {a : Act}
abbrev gK : Nat → Nat → Bool := fun _ _ => false
abbrev gRR : Nat → Gh v → Gh v → Prop := Gh.R
theorem gh_is {u : Value} (hw : Region.wanted o (yielded ops a.tmps) = true)
    (h1 : ∀ s : Gh v, Facts gK ops.size o done s → ∀ (K : Act → World → Prop) (Q : Exit → Act → World → Prop), (∀ a' w', a' = a.put o.dst u → w' = s.toW → K a' w') → Oper.wp P o a s.toW K Q)
    (h2 : wpTy P ops gK Gh.toW gRR Qf l Ts (done ++ [(.is u, u)]) (a.put o.dst u)) : wpTy P ops gK Gh.toW gRR Qf (o :: l) (.is u :: Ts) done a :=
  ⟨fun s hs K Q hK => by rw [if_pos hw]; exact h1 s hs K Q (fun a' w' e1 e2 => by rw [e1, e2]; exact hK u s (Gh.R.refl _ s) rfl), h2⟩
theorem gh_of {p : Value → Gh v → Prop} (hw : Region.wanted o (yielded ops a.tmps) = true)
    (h1 : ∀ s : Gh v, Facts gK ops.size o done s → ∀ (K : Act → World → Prop) (Q : Exit → Act → World → Prop), (∀ a' w', (∃ x s', a' = a.put o.dst x ∧ w' = s'.toW ∧ Gh.R done.length s s' ∧ p x s') → K a' w') → Oper.wp P o a s.toW K Q)
    (h2 : ∀ x, wpTy P ops gK Gh.toW gRR Qf l Ts (done ++ [(.of p, x)]) (a.put o.dst x)) : wpTy P ops gK Gh.toW gRR Qf (o :: l) (.of p :: Ts) done a :=
  ⟨fun s hs K Q hK => by rw [if_pos hw]; exact h1 s hs K Q (fun a' w' ⟨x, s', e1, e2, e3, e4⟩ => by rw [e1, e2]; exact hK x s' e3 e4), h2⟩
theorem gfact {s : Gh v} {n : Nat} (hs : Facts gK n o done s) (j : Nat) (p : Value → Gh v → Prop) (x : Value) (h1 : done[j]? = some (.of p, x)) (h2 : bindsOn o j = true) : p x s :=
  hs j (.of p) x h1 h2 (by unfold aliveB; rw [List.all_eq_true]; intro k _; simp)
/-- The region, with a last operation that may turn anything. -/
theorem wp_region_ghost {id : Nat} {w : World} {Q : Exit → Act → World → Prop} (v : World) (hv : Below v.heap.size v w) (Ts : List (Ty (Gh v))) (hm : P.follows .mixedOrders = true) (hB : tyB l.toArray a.tmps.size = true) (ht : tailB l o = true) (hlen : Ts.length = l.length)
    (hst : ∀ (i j : Nat) (T : Ty (Gh v)), Ts[j]? = some T → freeB l gK i j = true → ∀ x (s s' : Gh v), Gh.R i s s' → T.holds x s → T.holds x s')
    (h : wpTy P l.toArray gK Gh.toW gRR (fun done a' => ∀ s : Gh v, (∀ (j : Nat) (T : Ty (Gh v)) x, done[j]? = some (T, x) → T.holds x s) →
      if Region.wanted o (yielded (l ++ [o]).toArray a'.tmps) = true then Oper.wp P o a' s.toW (fun a2 w2 => Q .normal a2 w2) Q else Q .normal (a'.put o.dst undef) s.toW) l Ts [] a) : (Code.region id (l ++ [o]).toArray true).wp P Q a w :=
  wp_region_typedT Gh.toW gRR gK Ts ⟨w.drew, ⟨hv.os, hv.tape, hv.output, hv.size, hv.block⟩, fun _ => none⟩ hm hB ht hlen rfl (fun _ _ _ => rfl) hst
    (wpTy_mono (fun done a' h s hs => h s (fun j T x hj => hs j T x hj (fun _ _ => rfl))) h)
theorem just_cells (b : Nat) : ∀ (vs : List Value) (o : Nat) (w : World), Just b w (w.setCells b o vs)
  | [], _, w => Just.refl b w
  | x :: r, o, w => by
    rw [World.setCells]
    exact (Just.set b w o x).trans (just_cells b r (o + 1) _)
theorem blk_cells {b n : Nat} {t : TypeId} : ∀ (vs : List Value) (o : Nat) (w : World) (V : Nat → Value), Blk w b t n V → Blk (w.setCells b o vs) b t n (fun k => if o ≤ k ∧ k < o + vs.length then vs.getD (k - o) undef else V k)
  | [], o, w, V, h => h.ext (fun i _ => (if_neg (fun q => by have := q.1; have := q.2; rw [List.length_nil] at this; omega)).symm)
  | x :: r, o, w, V, h => by
    rw [World.setCells]
    refine (blk_cells r (o + 1) _ _ (h.put o x)).ext (fun i _ => ?_)
    by_cases h1 : o + 1 ≤ i ∧ i < o + 1 + r.length
    · rw [if_pos h1, if_pos (by simp; omega), show i - o = (i - (o + 1)) + 1 by omega]
      rfl
    · rw [if_neg h1]
      by_cases h2 : i = o
      · subst h2
        rw [if_pos rfl, if_pos (by simp), Nat.sub_self]
        rfl
      · rw [if_neg h2, if_neg (by simp; omega)]
end
end Go.Proofs.Ytiflmdekcjbmbaa.Lb
namespace Go.Proofs.Ytiflmdekcjbmbaa.Lb
set_option linter.unusedVariables false
set_option linter.unusedSimpArgs false
open Go.RowKit
structure Ext (v : World) where
  toW : World
  ok : Below v.heap.size v toW
instance (v : World) : Nonempty (Ext v) := ⟨⟨v, Below.refl _ _⟩⟩
theorem wp_region_ext {P : Program} {id : Nat} {Q : Exit → Act → World → Prop} {a : Act} {w : World} {l : List Oper} (v : World) (hm : P.follows .mixedOrders = true) (hB : Region.lexB .any l.toArray = true) (hC : Below v.heap.size v w)
    (h : wpQuiet P l.toArray (fun w' => ∃ x : Ext v, w' = x.toW) (fun a' => ∀ w', (∃ x : Ext v, w' = x.toW) → Q .normal a' w') l a) : (Code.region id l.toArray true).wp P Q a w :=
  wp_region_quiet (C := fun w' => ∃ x : Ext v, w' = x.toW) hm hB ⟨⟨{ w with drawn := w.drawn + 1 }, ⟨hC.os, hC.tape, hC.output, hC.size, hC.block⟩⟩, rfl⟩ (by simpa using h)
theorem ext_same {P : Program} {f : FuncId} {args : Array Value} {v : World} (x : Ext v) {u : Value} (h : Calls P f args x.toW fun e w' => e = .returned u ∧ x.toW = w') : Calls P f args x.toW fun e w' => e = .returned u ∧ ∃ y : Ext v, w' = y.toW :=
  h.mono fun _ _ ⟨h1, h2⟩ => ⟨h1, x, h2.symm⟩
theorem ext_drew {P : Program} {f : FuncId} {args : Array Value} {v : World} (x : Ext v) {u : Value} (h : Calls P f args x.toW fun e w' => e = .returned u ∧ ∃ m, x.toW.drewN m = w') : Calls P f args x.toW fun e w' => e = .returned u ∧ ∃ y : Ext v, w' = y.toW :=
  h.mono fun _ _ ⟨h1, _, h2⟩ => ⟨h1, ⟨_, below_drewN x.ok _⟩, h2.symm⟩
theorem ext_below {P : Program} {f : FuncId} {args : Array Value} {v : World} (x : Ext v) {u : Value} (h : Calls P f args x.toW fun e w' => e = .returned u ∧ Below x.toW.heap.size x.toW w') : Calls P f args x.toW fun e w' => e = .returned u ∧ ∃ y : Ext v, w' = y.toW :=
  h.mono fun _ _ ⟨h1, h2⟩ => ⟨h1, ⟨_, x.ok.trans (h2.mono x.ok.size)⟩, rfl⟩
end Go.Proofs.Ytiflmdekcjbmbaa.Lb
set_option maxRecDepth 100000
namespace Go.Proofs.Ytiflmdekcjbmbaa.Lb
set_option linter.unusedVariables false
set_option linter.unusedSimpArgs false
open Go.RowKit

def octet (x : Int) (k i : Nat) : Int := x / 2 ^ (8 * (k - 1 - i)) % 256
theorem octet_in (x : Int) (k i : Nat) : 0 ≤ octet x k i ∧ octet x k i < 256 := ⟨Int.emod_nonneg _ (by decide), Int.emod_lt_of_pos _ (by decide)⟩

end Go.Proofs.Ytiflmdekcjbmbaa.Lb
set_option maxRecDepth 100000
namespace Go.Proofs.Ytiflmdekcjbmbaa.Lb
set_option linter.unusedVariables false
set_option linter.unusedSimpArgs false
open Go.RowKit Go.ChangeShapes Go.WideShapes Go.ChangeAt Go.Deep

section
variable {H : Type} {enc : TypeId × Value → H} {P : Program} {w : World} {base : Nat}
theorem open_cell_struct {t e : TypeId} {fs : Array Field} {v : Value} {y : DataW H × List MemPlace} {fuel : Nat} (ht : P.underlying t = some (.slice e)) (he : P.underlying e = some (.struct fs)) (hone : oneCellFields P fs = true)
    (hC : P.cellsOf e = fs.size) (hpos : 0 < fs.size) (hf : DataW.trod enc P w 0 (fun _ => true) true fuel t [v] = some y) :
    ∃ a n c V, v = .slice a n c ∧ n ≤ c ∧ c ≤ maxLen ∧ Row w a (n * fs.size) V ∧ ∀ i, i < n → ∀ (j : Nat) (g : Field), fs[j]? = some g → ∃ f y, DataW.trod enc P w 0 (fun _ => true) true f g.type [V (i * fs.size + j)] = some y := by
  obtain ⟨d, p⟩ := y
  rcases open_slice ht hf with ⟨hcs, _⟩ | ⟨x, l, c, m, n, D, Pl, hcs, _, hl, hm, hmm, _, hx⟩
  · simp at hcs
    subst hcs
    exact ⟨none, 0, 0, fun _ => undef, rfl, Nat.le_refl _, Nat.zero_le _, by rw [Nat.zero_mul]; exact Row.nil _ _ _, fun i hi => absurd hi (by omega)⟩
  · simp at hcs
    subst hcs
    simp only [if_true] at hmm
    subst hmm
    obtain ⟨b, off, spot⟩ := x
    obtain ⟨C, hCs⟩ := choose_fn (q := fun i cs' => w.cells? 0 ((⟨b, off, spot⟩ : Addr).add (i * P.cellsOf e)) (P.cellsOf e) = some cs' ∧ DataW.trod enc P w 0 (fun _ => true) true n e cs' = some (D i, Pl i)) ([] : List Value) (n := l)
      (fun i hi => hx i (by omega))
    rw [hC] at hCs
    have hcell : ∀ i, i < l → ∀ j, j < fs.size → w.cell? (((⟨b, off, spot⟩ : Addr).add (i * fs.size)).add j) = (C i)[j]? := fun i hi => (World.cells?_some (hCs i hi).1).2.2
    have hlen : ∀ i, i < l → (C i).length = fs.size := fun i hi => (World.cells?_some (hCs i hi).1).2.1
    refine ⟨_, _, _, fun q => ((C (q / fs.size))[q % fs.size]?).getD undef, rfl, hl, hm, fun hn => ?_, fun i hi j g hj => ?_⟩
    · have hl0 : 0 < l := Nat.pos_of_mul_pos_right hn
      have h0 := hcell 0 hl0 0 hpos
      rw [List.getElem?_eq_getElem (by rw [hlen 0 hl0]; exact hpos)] at h0
      have hspot : spot = none := by simpa [Addr.add] using World.cell?_spot h0
      subst hspot
      refine ⟨b, off, rfl, by simpa [Addr.add] using lt_of_cell h0, fun q hq => ?_⟩
      have hi : q / fs.size < l := Nat.div_lt_of_lt_mul (by rw [Nat.mul_comm]; exact hq)
      have hj : q % fs.size < fs.size := Nat.mod_lt _ hpos
      have h1 := hcell _ hi _ hj
      have he : (((⟨b, off, none⟩ : Addr).add (q / fs.size * fs.size)).add (q % fs.size)) = ⟨b, off + q, none⟩ := by
        have hq' : q / fs.size * fs.size + q % fs.size = q := Nat.div_add_mod' q fs.size
        unfold Addr.add
        split <;> split <;> simp <;> omega
      rw [he] at h1
      have hjc : q % fs.size < (C (q / fs.size)).length := by rw [hlen _ hi]; exact hj
      rw [h1]
      simp only [List.getElem?_eq_getElem hjc, Option.getD_some]
    · obtain ⟨ys, n', _, _, hcl, hyl, hg⟩ := DataW.trod_struct he (hCs i hi).2
      obtain ⟨ho, hk⟩ := hone_of hone j g hj
      have hjl : j < fs.size := (Array.getElem?_eq_some_iff.1 hj).1
      have h1 := hg j g hj
      rw [ho, hk] at h1
      have hcj : j < (C i).length := by rw [hlen i hi]; exact hjl
      have e1 : ((C i).drop j).take 1 = [(C i)[j]] := by
        rw [List.drop_eq_getElem_cons hcj]
        rfl
      have e2 : (i * fs.size + j) / fs.size = i := by rw [Nat.add_comm, Nat.add_mul_div_right _ _ hpos, Nat.div_eq_of_lt hjl, Nat.zero_add]
      have e3 : (i * fs.size + j) % fs.size = j := by rw [Nat.add_comm, Nat.add_mul_mod_self_right, Nat.mod_eq_of_lt hjl]
      rw [e1, List.getElem?_eq_getElem (by omega)] at h1
      exact ⟨n', _, by simp only [e2, e3, List.getElem?_eq_getElem hcj, Option.getD_some]; exact h1⟩
end
end Go.Proofs.Ytiflmdekcjbmbaa.Lb
