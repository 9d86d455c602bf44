/-
  A region that draws its order and appends to slices of its own making: rows that stand, rows that grow.
-/
import Derived.Test.YtdpkiolngglpaaaTy
import Derived.Test.YtdpkiolngglpaaaOwn
namespace Go.Proofs.Ytdpkiolngglpaaa.Lb
set_option linter.unusedVariables false
set_option linter.unusedSimpArgs false
open Go.RowKit

/-- A world behind 'v': what was there is as it was; 'loose' says which blocks may still turn. -/
structure Gw (v : World) where
  toW : World
  ok : Below v.heap.size v toW
  loose : Nat → Prop
section
variable {v : World}
/-- Nothing that is there turns. -/
structure Gw.still (s s' : Gw v) : Prop where
  below : Below s.toW.heap.size s.toW s'.toW
  loose : ∀ k, k < s.toW.heap.size → (s'.loose k ↔ s.loose k)
/-- What is loose may turn. -/
structure Gw.grows (s s' : Gw v) : Prop where
  size : s.toW.heap.size ≤ s'.toW.heap.size
  block : ∀ k, k < s.toW.heap.size → ¬ s.loose k → s'.toW.heap[k]? = s.toW.heap[k]?
  loose : ∀ k, k < s.toW.heap.size → (s'.loose k → s.loose k)
theorem Gw.still.to {s s' : Gw v} (h : s.still s') : s.grows s' := ⟨h.below.size, fun k hk _ => h.below.block k hk, fun k hk => (h.loose k hk).1⟩
/-- The kinds. -/
inductive Kd (v : World) where
  | is (x : Value)
  | of (p : Value → Gw v → Prop) (h : ∀ x s s', Gw.grows s s' → p x s → p x s')
  | grow (p : Value → Gw v → Prop) (h : ∀ x s s', Gw.still s s' → p x s → p x s')
def Kd.ty : Kd v → Ty (Gw v)
  | .is x => .is x
  | .of p _ => .of p
  | .grow p _ => .of p
def Kd.grew : Kd v → Bool
  | .grow _ _ => true
  | _ => false
theorem Kd.still (k : Kd v) {x : Value} {s s' : Gw v} (h : s.still s') (hk : k.ty.holds x s) : k.ty.holds x s' := by
  cases k with
  | is u => exact hk
  | of p hp => exact hp x s s' h.to hk
  | grow p hp => exact hp x s s' h hk
theorem Kd.grows (k : Kd v) (hg : k.grew = false) {x : Value} {s s' : Gw v} (h : s.grows s') (hk : k.ty.holds x s) : k.ty.holds x s' := by
  cases k with
  | is u => exact hk
  | of p hp => exact hp x s s' h hk
  | grow p hp => cases hg
def gKill (l : List Oper) (Ks : List (Kd v)) (app : List Nat) (i j : Nat) : Bool := app.contains i && (match Ks[j]? with
  | some k => k.grew
  | none => false) && (match l[i]? with
  | some o => bindsOn o j
  | none => false)
def growB (l : List Oper) (Ks : List (Kd v)) (app : List Nat) : Bool :=
  app.all fun i => (List.range Ks.length).all fun j => match Ks[j]? with
    | some k => !k.grew || !freeB l (gKill l Ks app) i j
    | none => true
def gR (app : List Nat) (i : Nat) (s s' : Gw v) : Prop := if app.contains i then s.grows s' else s.still s'
theorem gKill_out (l : List Oper) (Ks : List (Kd v)) (app : List Nat) (i j : Nat) (h : l.length ≤ i) : gKill l Ks app i j = false := by
  unfold gKill
  rw [List.getElem?_eq_none h]
  simp
theorem gStab {l : List Oper} {Ks : List (Kd v)} {app : List Nat} (hg : growB l Ks app = true) (i j : Nat) (T : Ty (Gw v)) (hT : (Ks.map Kd.ty)[j]? = some T) (hf : freeB l (gKill l Ks app) i j = true) (x : Value) (s s' : Gw v) (hR : gR app i s s') (hx : T.holds x s) : T.holds x s' := by
  unfold growB at hg
  rw [List.getElem?_map] at hT
  obtain ⟨k, hk, rfl⟩ := Option.map_eq_some_iff.1 hT
  unfold gR at hR
  split at hR
  · rename_i hi
    have hj : j < Ks.length := (List.getElem?_eq_some_iff.1 hk).1
    have h1 := List.all_eq_true.1 (List.all_eq_true.1 hg i (by simpa using hi)) j (List.mem_range.2 hj)
    rw [hk] at h1
    dsimp only at h1
    rw [hf] at h1
    exact k.grows (by simpa using h1) hR hx
  · exact k.still hR hx
theorem wp_region_grow {P : Program} {l : List Oper} {a : Act} {id : Nat} {w : World} {Q : Exit → Act → World → Prop} (v : World) (hv : Below v.heap.size v w) (Ks : List (Kd v)) (app : List Nat) (hm : P.follows .mixedOrders = true) (hB : tyB l.toArray a.tmps.size = true) (hlen : Ks.length = l.length) (hg : growB l Ks app = true)
    (h : wpTy P l.toArray (gKill l Ks app) Gw.toW (gR app) (fun done a' => ∀ s : Gw v, (∀ (j : Nat) (T : Ty (Gw v)) x, done[j]? = some (T, x) → (∀ i, i < l.length → gKill l Ks app i j = false) → T.holds x s) → Q .normal a' s.toW) l (Ks.map Kd.ty) [] a) : (Code.region id l.toArray true).wp P Q a w := by
  refine wp_region_typedK Gw.toW (gR app) (gKill l Ks app) (Ks.map Kd.ty) ⟨w.drew, ⟨hv.os, hv.tape, hv.output, hv.size, hv.block⟩, fun _ => False⟩ hm hB (by simpa using hlen) rfl (gKill_out l Ks app) (fun i j T hT hf x s s' => gStab hg i j T hT hf x s s') h
/-- The same, with a last operation that may turn anything. -/
theorem wp_region_tail {P : Program} {l : List Oper} {o : Oper} {a : Act} {id : Nat} {w : World} {Q : Exit → Act → World → Prop} (v : World) (hv : Below v.heap.size v w) (Ks : List (Kd v)) (app : List Nat) (hm : P.follows .mixedOrders = true) (hB : tyB l.toArray a.tmps.size = true) (ht : tailB l o = true) (hlen : Ks.length = l.length) (hg : growB l Ks app = true)
    (h : wpTy P l.toArray (gKill l Ks app) Gw.toW (gR app) (fun done a' => ∀ s : Gw v, (∀ (j : Nat) (T : Ty (Gw v)) x, done[j]? = some (T, x) → (∀ i, i < l.length → gKill l Ks app i j = false) → T.holds x s) →
      if Region.wanted o (yielded (l ++ [o]).toArray a'.tmps) = true then Oper.wp P o a' s.toW (fun a2 w2 => Q .normal a2 w2) Q else Q .normal (a'.put o.dst undef) s.toW) l (Ks.map Kd.ty) [] a) : (Code.region id (l ++ [o]).toArray true).wp P Q a w :=
  wp_region_typedT Gw.toW (gR app) (gKill l Ks app) (Ks.map Kd.ty) ⟨w.drew, ⟨hv.os, hv.tape, hv.output, hv.size, hv.block⟩, fun _ => False⟩ hm hB ht (by simpa using hlen) rfl (gKill_out l Ks app) (fun i j T hT hf x s s' => gStab hg i j T hT hf x s s') h
inductive Snoc {α : Type} : List α → List α → α → Prop where
  | one (o : α) : Snoc [o] [] o
  | cons (x : α) {r l : List α} {o : α} (h : Snoc r l o) : Snoc (x :: r) (x :: l) o
theorem Snoc.eq {α : Type} {ll l : List α} {o : α} (h : Snoc ll l o) : ll = l ++ [o] := by
  induction h with
  | one o => rfl
  | cons x _ ih => rw [ih]; rfl
/-- The region written out, its last operation apart: 'apply wp_tail_start; case hl => repeat (first | exact Snoc.one _ | apply Snoc.cons)'. -/
theorem wp_tail_start {P : Program} {ll l : List Oper} {o : Oper} {a : Act} {id : Nat} {w : World} {Q : Exit → Act → World → Prop} (hl : Snoc ll l o) (h : (Code.region id (l ++ [o]).toArray true).wp P Q a w) : (Code.region id ll.toArray true).wp P Q a w := by
  obtain rfl := hl.eq
  exact h
/-- A row that stands. -/
def rowP (v : World) (n : Nat) (V : Nat → Value) (x : Value) (s : Gw v) : Prop := ∃ A c, x = .slice A n c ∧ n ≤ c ∧ c ≤ maxLen ∧ Row s.toW A n V ∧ (0 < n → ∀ p, A = some p → p.block < s.toW.heap.size ∧ ¬ s.loose p.block)
theorem rowP_grows (v : World) (n : Nat) (V : Nat → Value) (x : Value) (s s' : Gw v) (h : s.grows s') (hx : rowP v n V x s) : rowP v n V x s' := by
  obtain ⟨A, c, rfl, h1, h2, h3, h4⟩ := hx
  refine ⟨A, c, rfl, h1, h2, fun h0 => ?_, fun h0 p hp => ?_⟩
  · obtain ⟨b, off, rfl, hb, hc⟩ := h3 h0
    obtain ⟨h5, h6⟩ := h4 h0 _ rfl
    exact ⟨b, off, rfl, Nat.lt_of_lt_of_le hb h.size, fun i hi => (World.cell?_of_block (a := ⟨b, off + i, none⟩) (h.block b h5 h6)).trans (hc i hi)⟩
  · obtain ⟨h5, h6⟩ := h4 h0 p hp
    exact ⟨Nat.lt_of_lt_of_le h5 h.size, fun q => h6 (h.loose _ h5 q)⟩
def Kd.row (v : World) (n : Nat) (V : Nat → Value) : Kd v := .of (rowP v n V) (rowP_grows v n V)
/-- A value that holds a row that stands. -/
def viaP (v : World) (f : Value → Value) (n : Nat) (V : Nat → Value) (x : Value) (s : Gw v) : Prop := ∃ y, x = f y ∧ rowP v n V y s
def Kd.via (v : World) (f : Value → Value) (n : Nat) (V : Nat → Value) : Kd v := .of (viaP v f n V) (fun _ s s' h ⟨y, e, hy⟩ => ⟨y, e, rowP_grows v n V y s s' h hy⟩)
/-- A row, where nothing grows. -/
def rowS (v : World) (n : Nat) (V : Nat → Value) (x : Value) (s : Gw v) : Prop := ∃ A c, x = .slice A n c ∧ n ≤ c ∧ c ≤ maxLen ∧ Row s.toW A n V
theorem rowS_still (v : World) (n : Nat) (V : Nat → Value) (x : Value) (s s' : Gw v) (h : s.still s') (hx : rowS v n V x s) : rowS v n V x s' := by
  obtain ⟨A, c, rfl, h1, h2, h3⟩ := hx
  exact ⟨A, c, rfl, h1, h2, h3.below h.below⟩
def Kd.rows (v : World) (n : Nat) (V : Nat → Value) : Kd v := .grow (rowS v n V) (rowS_still v n V)
/-- A value that holds one. -/
def viaS (v : World) (f : Value → Value) (n : Nat) (V : Nat → Value) (x : Value) (s : Gw v) : Prop := ∃ y, x = f y ∧ rowS v n V y s
def Kd.vias (v : World) (f : Value → Value) (n : Nat) (V : Nat → Value) : Kd v := .grow (viaS v f n V) (fun _ s s' h ⟨y, e, hy⟩ => ⟨y, e, rowS_still v n V y s s' h hy⟩)
/-- A value that holds a row in memory from lo on. -/
def viaL (v : World) (lo : Nat) (f : Value → Value) (n : Nat) (V : Nat → Value) (x : Value) (s : Gw v) : Prop := ∃ A c, x = f (.slice A n c) ∧ n ≤ c ∧ c ≤ maxLen ∧ Row s.toW A n V ∧ ∀ p, A = some p → lo ≤ p.block
theorem viaL_still (v : World) (lo : Nat) (f : Value → Value) (n : Nat) (V : Nat → Value) (x : Value) (s s' : Gw v) (h : s.still s') (hx : viaL v lo f n V x s) : viaL v lo f n V x s' := by
  obtain ⟨A, c, rfl, h1, h2, h3, h4⟩ := hx
  exact ⟨A, c, rfl, h1, h2, h3.below h.below, h4⟩
def Kd.vial (v : World) (lo : Nat) (f : Value → Value) (n : Nat) (V : Nat → Value) : Kd v := .grow (viaL v lo f n V) (viaL_still v lo f n V)
/-- A row of one's own that may grow. -/
def growP (v : World) (e : TypeId) (n : Nat) (V : Nat → Value) (x : Value) (s : Gw v) : Prop := Mine s.toW v.heap.size e x n V ∧ ∀ b, x.ownBlock = some b → s.loose b
theorem growP_still (v : World) (e : TypeId) (n : Nat) (V : Nat → Value) (x : Value) (s s' : Gw v) (h : s.still s') (hx : growP v e n V x s) : growP v e n V x s' := by
  obtain ⟨h1, h2⟩ := hx
  refine ⟨h1.kept (fun b _ => by
    rcases Nat.lt_or_ge b s.toW.heap.size with hb | hb
    · exact .inl (h.below.block b hb)
    · exact .inr (fun e => by have := (h1.lt b e).2; omega)), fun b hb => ?_⟩
  have := (h1.lt b hb).2
  exact (h.loose b this).2 (h2 b hb)
def Kd.own (v : World) (e : TypeId) (n : Nat) (V : Nat → Value) : Kd v := .grow (growP v e n V) (growP_still v e n V)
theorem Gw.still.refl (s : Gw v) : s.still s := ⟨Below.refl _ _, fun _ _ => Iff.rfl⟩
/-- Behind what makes memory and turns nothing; what is new stands. -/
def Gw.to (s : Gw v) (w' : World) (h : Below s.toW.heap.size s.toW w') : Gw v := ⟨w', s.ok.trans (h.mono s.ok.size), fun k => k < s.toW.heap.size ∧ s.loose k⟩
theorem Gw.to_still (s : Gw v) (w' : World) (h : Below s.toW.heap.size s.toW w') : s.still (s.to w' h) := ⟨h, fun k hk => ⟨fun q => q.2, fun q => ⟨hk, q⟩⟩⟩
/-- The same; what is new may grow. -/
def Gw.new (s : Gw v) (w' : World) (h : Below s.toW.heap.size s.toW w') : Gw v := ⟨w', s.ok.trans (h.mono s.ok.size), fun k => s.toW.heap.size ≤ k ∨ s.loose k⟩
theorem Gw.new_still (s : Gw v) (w' : World) (h : Below s.toW.heap.size s.toW w') : s.still (s.new w' h) := ⟨h, fun k hk => ⟨fun q => q.elim (fun q => absurd q (by omega)) id, .inr⟩⟩
variable {P : Program} {ops : Array Oper} {Qf : Done (Gw v) → Act → Prop} {o : Oper} {l : List Oper} {Ks : List (Kd v)} {done : Done (Gw v)} {a : Act} {app : List Nat} {kill : Nat → Nat → Bool}
theorem gR_still {s s' : Gw v} {i : Nat} (h : s.still s') : gR app i s s' := by
  unfold gR
  split
  · exact h.to
  · exact h
theorem kd_is {u : Value} (hw : Region.wanted o (yielded ops a.tmps) = true)
    (h1 : ∀ s : Gw v, Facts kill ops.size o done s → ∀ (K : Act → World → Prop) (Q : Exit → Act → World → Prop), (∀ a' w', a' = a.put o.dst u → w' = s.toW → K a' w') → Oper.wp P o a s.toW K Q)
    (h2 : wpTy P ops kill Gw.toW (gR app) Qf l (Ks.map Kd.ty) (done ++ [(.is u, u)]) (a.put o.dst u)) : wpTy P ops kill Gw.toW (gR app) Qf (o :: l) ((Kd.is u :: Ks).map Kd.ty) done a :=
  ⟨fun s hs K Q hK => by rw [if_pos hw]; exact h1 s hs K Q (fun a' w' e1 e2 => by rw [e1, e2]; exact hK u s (gR_still (.refl s)) rfl), h2⟩
theorem kd_isc {u : Value} (hw : Region.wanted o (yielded ops a.tmps) = true)
    (h1 : ∀ s : Gw v, Facts kill ops.size o done s → ∀ (K : Act → World → Prop) (Q : Exit → Act → World → Prop), (∀ a' w', a' = a.put o.dst u → Below s.toW.heap.size s.toW w' → K a' w') → Oper.wp P o a s.toW K Q)
    (h2 : wpTy P ops kill Gw.toW (gR app) Qf l (Ks.map Kd.ty) (done ++ [(.is u, u)]) (a.put o.dst u)) : wpTy P ops kill Gw.toW (gR app) Qf (o :: l) ((Kd.is u :: Ks).map Kd.ty) done a :=
  ⟨fun s hs K Q hK => by rw [if_pos hw]; exact h1 s hs K Q (fun a' w' e1 e2 => by rw [e1]; exact hK u (s.to w' e2) (gR_still (s.to_still w' e2)) rfl), h2⟩
theorem kd_skip (hw : Region.wanted o (yielded ops a.tmps) = false)
    (h2 : wpTy P ops kill Gw.toW (gR app) Qf l (Ks.map Kd.ty) (done ++ [(.is undef, undef)]) (a.put o.dst undef)) : wpTy P ops kill Gw.toW (gR app) Qf (o :: l) ((Kd.is undef :: Ks).map Kd.ty) done a :=
  ⟨fun s hs K Q hK => by rw [if_neg (by rw [hw]; decide)]; exact hK undef s (gR_still (.refl s)) rfl, h2⟩
theorem kd_of {p : Value → Gw v → Prop} {hp} (hw : Region.wanted o (yielded ops a.tmps) = true)
    (h1 : ∀ s : Gw v, Facts kill ops.size o done s → ∀ (K : Act → World → Prop) (Q : Exit → Act → World → Prop), (∀ a' w', (∃ x s', a' = a.put o.dst x ∧ w' = s'.toW ∧ s.still s' ∧ p x s') → K a' w') → Oper.wp P o a s.toW K Q)
    (h2 : ∀ x, wpTy P ops kill Gw.toW (gR app) Qf l (Ks.map Kd.ty) (done ++ [(.of p, x)]) (a.put o.dst x)) : wpTy P ops kill Gw.toW (gR app) Qf (o :: l) ((Kd.of p hp :: Ks).map Kd.ty) done a :=
  ⟨fun s hs K Q hK => by rw [if_pos hw]; exact h1 s hs K Q (fun a' w' ⟨x, s', e1, e2, e3, e4⟩ => by rw [e1, e2]; exact hK x s' (gR_still e3) e4), h2⟩
theorem kd_grow {p : Value → Gw v → Prop} {hp} (hw : Region.wanted o (yielded ops a.tmps) = true)
    (h1 : ∀ s : Gw v, Facts kill ops.size o done s → ∀ (K : Act → World → Prop) (Q : Exit → Act → World → Prop), (∀ a' w', (∃ x s', a' = a.put o.dst x ∧ w' = s'.toW ∧ s.still s' ∧ p x s') → K a' w') → Oper.wp P o a s.toW K Q)
    (h2 : ∀ x, wpTy P ops kill Gw.toW (gR app) Qf l (Ks.map Kd.ty) (done ++ [(.of p, x)]) (a.put o.dst x)) : wpTy P ops kill Gw.toW (gR app) Qf (o :: l) ((Kd.grow p hp :: Ks).map Kd.ty) done a :=
  ⟨fun s hs K Q hK => by rw [if_pos hw]; exact h1 s hs K Q (fun a' w' ⟨x, s', e1, e2, e3, e4⟩ => by rw [e1, e2]; exact hK x s' (gR_still e3) e4), h2⟩
theorem fact_at {s : Gw v} {n : Nat} (hs : Facts kill n o done s) (j : Nat) (p : Value → Gw v → Prop) (x : Value) (h1 : done[j]? = some (.of p, x)) (h2 : bindsOn o j = true) (h3 : aliveB kill n done.length j = true) : p x s := hs j (.of p) x h1 h2 h3
theorem exec_free (ρ : Operand → Value) (o : Oper) : execOp ρ { o with guard := none } = execOp ρ o := by
  obtain ⟨dst, op, type, pos, after, guard⟩ := o
  cases op <;> rfl
theorem wp_free {w : World} {K : Act → World → Prop} {Q : Exit → Act → World → Prop} (h : Oper.wp P { o with guard := none } a w K Q) : Oper.wp P o a w K Q := by
  unfold Oper.wp at *
  rw [exec_free] at h
  exact h
/-- An append: what is loose may turn. -/
theorem kd_app {p : Value → Gw v → Prop} {hp} (happ : app.contains done.length = true) (hw : Region.wanted o (yielded ops a.tmps) = true)
    (h1 : ∀ s : Gw v, Facts kill ops.size o done s → ∀ (K : Act → World → Prop) (Q : Exit → Act → World → Prop), (∀ x s', s.grows s' → p x s' → K (a.put o.dst x) s'.toW) → if Region.wanted { o with guard := none } (yielded ops a.tmps) = true then Oper.wp P { o with guard := none } a s.toW K Q else False)
    (h2 : ∀ x, wpTy P ops kill Gw.toW (gR app) Qf l (Ks.map Kd.ty) (done ++ [(.of p, x)]) (a.put o.dst x)) : wpTy P ops kill Gw.toW (gR app) Qf (o :: l) ((Kd.grow p hp :: Ks).map Kd.ty) done a :=
  ⟨fun s hs K Q hK => by
    rw [if_pos hw]
    have := h1 s hs K Q (fun x s' e3 e4 => hK x s' (by unfold gR; rw [happ]; exact e3) e4)
    rw [if_pos (show Region.wanted { o with guard := none } (yielded ops a.tmps) = true from rfl)] at this
    exact wp_free this, h2⟩
/-- A value that is known, by what turns loose memory. -/
theorem kd_isa {u : Value} (happ : app.contains done.length = true) (hw : Region.wanted o (yielded ops a.tmps) = true)
    (h1 : ∀ s : Gw v, Facts kill ops.size o done s → ∀ (K : Act → World → Prop) (Q : Exit → Act → World → Prop), (∀ a' w', (∃ s' : Gw v, a' = a.put o.dst u ∧ w' = s'.toW ∧ s.grows s') → K a' w') → Oper.wp P o a s.toW K Q)
    (h2 : wpTy P ops kill Gw.toW (gR app) Qf l (Ks.map Kd.ty) (done ++ [(.is u, u)]) (a.put o.dst u)) : wpTy P ops kill Gw.toW (gR app) Qf (o :: l) ((Kd.is u :: Ks).map Kd.ty) done a :=
  ⟨fun s hs K Q hK => by
    rw [if_pos hw]
    exact h1 s hs K Q (fun a' w' ⟨s', e1, e2, e3⟩ => by rw [e1, e2]; exact hK u s' (by unfold gR; rw [happ]; exact e3) rfl), h2⟩
theorem kd_nil (h : Qf done a) : wpTy P ops kill Gw.toW (gR app) Qf [] (([] : List (Kd v)).map Kd.ty) done a := h
/-- Where an append leads. -/
theorem Gw.app_ok (s : Gw v) {x : Value} {w' : World} {e : TypeId} {n : Nat} {V : Nat → Value} (hx : Mine s.toW v.heap.size e x n V) (hg : s.toW.grownBy w' x.ownBlock) : Below v.heap.size v w' :=
  s.ok.grown hg s.ok.size (fun q hq => (hx.lt q hq).1)
theorem Gw.app_grows (s : Gw v) {x : Value} {w' : World} (hg : s.toW.grownBy w' x.ownBlock) (hs : s.toW.heap.size ≤ w'.heap.size) (hl : ∀ b, x.ownBlock = some b → s.loose b) (hok : Below v.heap.size v w') :
    s.grows ⟨w', hok, fun k => s.toW.heap.size ≤ k ∨ s.loose k⟩ :=
  ⟨hs, fun k hk hn => hg.block k hk (fun e => hn (hl k e.symm)), fun k hk q => q.elim (fun q => absurd q (by omega)) id⟩
end
end Go.Proofs.Ytdpkiolngglpaaa.Lb
