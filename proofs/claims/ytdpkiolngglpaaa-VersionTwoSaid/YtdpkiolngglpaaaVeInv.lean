/-
  Chapter 23: a book and its nodes' plans, side by side with what was told: what holds at every moment.
-/
import Derived.Test.YtdpkiolngglpaaaVePlan
import Derived.Deep.MidRow
set_option maxRecDepth 100000
namespace Go.Proofs.Ytdpkiolngglpaaa.Ve
set_option linter.unusedVariables false
set_option linter.unusedSimpArgs false
open Go.RowKit Lb Cl Ce Mi Al

theorem lk_len : ∀ {L : List (Int × List C)} {k : Int}, (∀ e ∈ L, e.2.length ≤ 64) → (lk L k).length ≤ 64
  | [], _, _ => by rw [lk_nil]; simp
  | x :: L, k, h => by
    rw [lk]
    split
    · exact h x (by simp)
    · exact lk_len (fun e he => h e (by simp [he]))
theorem srtC_srt (l : List C) : srtC (srtC l) = srtC l := by
  obtain ⟨h1, h2⟩ := srtC_all l
  obtain ⟨h3, h4⟩ := srtC_all (srtC l)
  refine List.Perm.eq_of_pairwise (le := UpTo) (fun x y _ _ a b => ?_) h3 h1 h4
  exact cf_total b a
def upA {α : Type} (f : Nat → α) (k : Nat) (x : α) (j : Nat) : α := if j = k then x else f j
theorem upA_same {α : Type} (f : Nat → α) (k : Nat) (x : α) : upA f k x k = x := if_pos rfl
theorem upA_ne {α : Type} (f : Nat → α) {k j : Nat} (x : α) (h : j ≠ k) : upA f k x j = f j := if_neg h
/-- What holds, without memory. -/
structure Q2 (N : Nat) (v la : Int) (g : Bool) (Ln Lx : List (Int × List C)) (D : Nat → Nat → List C) (X : Nat → List C) (pv pp : Nat → Int) (l m : Nat → List C) : Prop where
  v0 : 0 ≤ v
  vl : v ≤ la
  vg : g = true → v < la
  n16 : N ≤ 16
  en : Sm N Ln (D v.toNat)
  ex : g = true → Sm N Lx X
  dl : ∀ u i, (D u i).length ≤ 64
  xl : ∀ i, (X i).length ≤ 64
  xs : ∀ i, srtC (X i) = X i
  p0 : ∀ i, 0 ≤ pv i ∧ pv i ≤ v ∧ 0 ≤ pp i ∧ pp i ≤ la
  pz : ∀ i, pv i = 0 → l i = []
  pl : ∀ i, 0 < pv i → l i = D (pv i).toNat i
  pn : ∀ i, 0 < pp i → pp i = v → m i = D v.toNat i
  px : ∀ i, g = true → pp i = la → m i = X i
section
variable {N : Nat} {v la : Int} {g : Bool} {Ln Lx Lx' : List (Int × List C)} {D : Nat → Nat → List C} {X X' : Nat → List C} {pv pp : Nat → Int} {l m : Nat → List C}
theorem Q2.len (q : Q2 N v la g Ln Lx D X pv pp l m) (i : Nat) : (l i).length ≤ 64 := by
  rcases Int.lt_or_le 0 (pv i) with h | h
  · rw [q.pl i h]; exact q.dl _ _
  · rw [q.pz i (by have := q.p0 i; omega)]; simp
theorem Q2.begin_ (q : Q2 N v la false Ln Lx D X pv pp l m) (hs : Sm N Lx' X') (hx : ∀ i, srtC (X' i) = X' i) : Q2 N v (la + 1) true Ln Lx' D X' pv pp l m :=
  ⟨q.v0, by have := q.vl; omega, fun _ => by have := q.vl; omega, q.n16, q.en, fun _ => hs, q.dl, fun i => by rw [← hs.eq i]; exact lk_len (fun e he => (hs.ok e he).2), hx,
    fun i => by have := q.p0 i; omega, q.pz, q.pl, q.pn, fun i _ h => by have := q.p0 i; omega⟩
theorem Q2.commit (q : Q2 N v la true Ln Lx D X pv pp l m) : Q2 N la la false Lx [] (upA D la.toNat X) X pv pp l m := by
  have h1 := q.vg rfl
  have h0 := q.v0
  refine ⟨by omega, Int.le_refl _, (fun h => by cases h), q.n16, ?_, (fun h => by cases h), fun u i => ?_, q.xl, q.xs, fun i => ?_, q.pz, fun i h => ?_, fun i _ h => ?_, (fun _ h => by cases h)⟩
  · rw [upA_same]; exact q.ex rfl
  · unfold upA
    split
    · exact q.xl i
    · exact q.dl u i
  · have := q.p0 i; omega
  · rw [upA_ne _ _ (by have := q.p0 i; omega)]
    exact q.pl i h
  · rw [upA_same]
    exact q.px i rfl h
theorem Q2.abort (q : Q2 N v la true Ln Lx D X pv pp l m) : Q2 N v la false Ln [] D X pv pp l m :=
  ⟨q.v0, q.vl, (fun h => by cases h), q.n16, q.en, (fun h => by cases h), q.dl, q.xl, q.xs, q.p0, q.pz, q.pl, q.pn, (fun _ h => by cases h)⟩
theorem Q2.prep (q : Q2 N v la true Ln Lx D X pv pp l m) (k : Nat) : Q2 N v la true Ln Lx D X pv (upA pp k la) l (upA m k (srtC (X k))) := by
  have h1 := q.vg rfl
  have h0 := q.v0
  refine ⟨q.v0, q.vl, q.vg, q.n16, q.en, q.ex, q.dl, q.xl, q.xs, fun i => ?_, q.pz, q.pl, fun i => ?_, fun i hg => ?_⟩
  · have := q.p0 i
    unfold upA
    split
    · omega
    · omega
  · unfold upA
    split
    · intro _ h; omega
    · exact q.pn i
  · unfold upA
    split
    · rename_i e
      subst e
      intro _
      exact q.xs i
    · exact q.px i hg
theorem Q2.word (q : Q2 N v la g Ln Lx D X pv pp l m) (k : Nat) (h : 0 < pp k) (hv : pp k = v) : Q2 N v la g Ln Lx D X (upA pv k v) (upA pp k 0) (upA l k (m k)) (upA m k []) := by
  have h0 := q.v0
  have hl := q.vl
  refine ⟨q.v0, q.vl, q.vg, q.n16, q.en, q.ex, q.dl, q.xl, q.xs, fun i => ?_, fun i => ?_, fun i => ?_, fun i => ?_, fun i hg => ?_⟩
  · have := q.p0 i
    unfold upA
    split
    · omega
    · omega
  · unfold upA
    split
    · intro e; omega
    · exact q.pz i
  · unfold upA
    split
    · rename_i e
      subst e
      intro _
      exact q.pn i h hv
    · exact q.pl i
  · unfold upA
    split
    · intro e; omega
    · exact q.pn i
  · unfold upA
    split
    · intro e
      have := q.vg hg
      omega
    · exact q.px i hg
end
theorem Pn.apart {w w' : World} {b r : Nat} {v p : Int} {u x : Value} {l m : List C} (h : Pn w b v p u x l m) (hr : No5 w r) (j : Just r w w') (hne : b ≠ r) : Pn w' b v p u x l m :=
  ⟨j.own h.own hne, rv5_apart h.now hr j, rv5_apart h.next hr j⟩
theorem just_cells (b : Nat) : ∀ (vs : List Value) (o : Nat) (w : World), Just b w (w.setCells b o vs)
  | [], _, w => Just.refl b w
  | v :: r, o, w => by
    rw [World.setCells]
    exact (Just.set b w o v).trans (just_cells b r (o + 1) _)
theorem blk_cells {b n : Nat} {t : TypeId} : ∀ (vs : List Value) (o : Nat) (w : World) (V : Nat → Value), Blk w b t n V → Blk (w.setCells b o vs) b t n (fun k => if o ≤ k ∧ k < o + vs.length then vs.getD (k - o) undef else V k)
  | [], o, w, V, h => h.ext (fun i _ => (if_neg (fun q => by have := q.1; have := q.2; rw [List.length_nil] at this; omega)).symm)
  | v :: r, o, w, V, h => by
    rw [World.setCells]
    refine (blk_cells r (o + 1) _ _ (h.put o v)).ext (fun i _ => ?_)
    by_cases h1 : o + 1 ≤ i ∧ i < o + 1 + r.length
    · rw [if_pos h1, if_pos (by simp; omega), show i - o = (i - (o + 1)) + 1 by omega]
      rfl
    · rw [if_neg h1]
      by_cases h2 : i = o
      · subst h2
        rw [if_pos rfl, if_pos (by simp), Nat.sub_self]
        rfl
      · rw [if_neg h2, if_neg (by simp; omega)]
/-- The memory. -/
structure M2 (W w : World) (b N sb pb nb : Nat) (pl : Nat → Nat) (v la : Int) (g : Bool) (R : Nat → Bool) (now next : Option Nat) (Ln Lx : List (Int × List C)) (PV XV : Nat → Value) (D : Nat → Nat → List C) (X : Nat → List C) (pv pp : Nat → Int) (U Y : Nat → Value) (l m : Nat → List C) : Prop where
  bk : Bk w b N v la g R now next Ln Lx
  sl : Blk w sb 54 N (fun i => .pointer (some ⟨pl i, 0, none⟩))
  pn : ∀ i, i < N → Pn w (pl i) (pv i) (pp i) (U i) (Y i) (l i) (m i)
  past : Blk w pb 62 1296 PV
  nx : Blk w nb 36 16 XV
  pr : ∀ u i, u < 81 → i < 16 → Rv w 0 (PV (u * 16 + i)) (D u i)
  xr : ∀ i, i < 16 → Rv w 0 (XV i) (X i)
  bel : Below W.heap.size W w
  low : W.heap.size ≤ b
  o1 : b < sb
  o2 : ∀ i, i < N → sb < pl i ∧ pl i < pb
  o3 : pb < nb
  inj : ∀ i j, i < N → j < N → pl i = pl j → i = j
  pos : 0 < N
section
variable {W w w' : World} {b N sb pb nb : Nat} {pl : Nat → Nat} {v la v' la' : Int} {g g' : Bool} {R R' : Nat → Bool} {now next now' next' : Option Nat} {Ln Lx Ln' Lx' : List (Int × List C)} {PV XV : Nat → Value} {D : Nat → Nat → List C} {X : Nat → List C} {pv pp : Nat → Int} {U Y : Nat → Value} {l m : Nat → List C}
theorem M2.below (t : M2 W w b N sb pb nb pl v la g R now next Ln Lx PV XV D X pv pp U Y l m) (j : Below w.heap.size w w') : M2 W w' b N sb pb nb pl v la g R now next Ln Lx PV XV D X pv pp U Y l m :=
  ⟨t.bk.below j, below_own j t.sl t.sl.lt, fun i hi => (t.pn i hi).below j, below_own j t.past t.past.lt, below_own j t.nx t.nx.lt, fun u i hu hi => (t.pr u i hu hi).below j, fun i hi => (t.xr i hi).below j, t.bel.trans (j.mono t.bel.size), t.low, t.o1, t.o2, t.o3, t.inj, t.pos⟩
theorem M2.lts (t : M2 W w b N sb pb nb pl v la g R now next Ln Lx PV XV D X pv pp U Y l m) : sb < pb ∧ nb < w.heap.size := by
  have := t.o2 0 t.pos
  exact ⟨by omega, t.nx.lt⟩
theorem M2.book (t : M2 W w b N sb pb nb pl v la g R now next Ln Lx PV XV D X pv pp U Y l m) (h : Bk w' b N v' la' g' R' now' next' Ln' Lx') (j : Just b w w') : M2 W w' b N sb pb nb pl v' la' g' R' now' next' Ln' Lx' PV XV D X pv pp U Y l m := by
  have h5 := t.bk.no5
  have hl := t.lts
  have ho1 := t.o1
  have ho3 := t.o3
  exact ⟨h, j.blk t.sl (by omega), fun i hi => (t.pn i hi).apart h5 j (by have := t.o2 i hi; omega), j.blk t.past (by omega), j.blk t.nx (by omega), fun u i hu hi => rv5_apart (t.pr u i hu hi) h5 j, fun i hi => rv5_apart (t.xr i hi) h5 j,
    j.below t.bel t.low t.bel.size, t.low, t.o1, t.o2, t.o3, t.inj, t.pos⟩
theorem own_blk4 {b : Nat} {t : TypeId} {a0 a1 a2 a3 : Value} (h : Own w b t #[a0, a1, a2, a3]) : ∃ V, Blk w b t 4 V :=
  ⟨fun i => #[a0, a1, a2, a3].getD i undef, Blk.of h rfl (fun i hi => by rcases (show i = 0 ∨ i = 1 ∨ i = 2 ∨ i = 3 by omega) with rfl | rfl | rfl | rfl <;> rfl)⟩
theorem M2.plan {k : Nat} {y q : Int} {u x : Value} {ll mm : List C} (t : M2 W w b N sb pb nb pl v la g R now next Ln Lx PV XV D X pv pp U Y l m) (hk : k < N) (h : Pn w' (pl k) y q u x ll mm) (j : Just (pl k) w w') :
    M2 W w' b N sb pb nb pl v la g R now next Ln Lx PV XV D X (upA pv k y) (upA pp k q) (upA U k u) (upA Y k x) (upA l k ll) (upA m k mm) := by
  have h5 := (t.pn k hk).no5
  obtain ⟨V, hB⟩ := own_blk4 (t.pn k hk).own
  have hl := t.lts
  have ho1 := t.o1
  have ho2 := t.o2 k hk
  have ho3 := t.o3
  have hlow := t.low
  refine ⟨t.bk.apart hB h5 (by omega) j, j.blk t.sl (by omega), fun i hi => ?_, j.blk t.past (by omega), j.blk t.nx (by omega), fun u i hu hi => rv5_apart (t.pr u i hu hi) h5 j, fun i hi => rv5_apart (t.xr i hi) h5 j,
    j.below t.bel (by omega) t.bel.size, t.low, t.o1, t.o2, t.o3, t.inj, t.pos⟩
  by_cases e : i = k
  · subst e
    rw [upA_same, upA_same, upA_same, upA_same, upA_same, upA_same]
    exact h
  · rw [upA_ne _ _ e, upA_ne _ _ e, upA_ne _ _ e, upA_ne _ _ e, upA_ne _ _ e, upA_ne _ _ e]
    exact (t.pn i hi).apart h5 j (fun q => e (t.inj i k hi hk q))
theorem rv_slice {lo : Nat} {v : Value} {l : List C} (h : Rv w lo v l) : ∀ z, v ≠ .int .i64 z := by
  obtain ⟨a, c, rfl, _⟩ := h
  intro z e
  cases e
theorem M2.nb5 (t : M2 W w b N sb pb nb pl v la g R now next Ln Lx PV XV D X pv pp U Y l m) : No5 w nb := no5_of t.nx (fun off => ⟨0, by omega, fun hi => rv_slice (t.xr (off + 0) hi)⟩)
theorem M2.pb5 (t : M2 W w b N sb pb nb pl v la g R now next Ln Lx PV XV D X pv pp U Y l m) : No5 w pb := no5_of t.past (fun off => ⟨0, by omega, fun hi => by
  have := t.pr ((off + 0) / 16) ((off + 0) % 16) (by omega) (by omega)
  rw [show (off + 0) / 16 * 16 + (off + 0) % 16 = off + 0 by omega] at this
  exact rv_slice this⟩)
theorem M2.setX {k : Nat} {u : Value} {ll : List C} (t : M2 W w b N sb pb nb pl v la g R now next Ln Lx PV XV D X pv pp U Y l m) (hu : Rv w 0 u ll) :
    M2 W (w.setCell ⟨nb, k, none⟩ u) b N sb pb nb pl v la g R now next Ln Lx PV (upA XV k u) D (upA X k ll) pv pp U Y l m := by
  have h5 := t.nb5
  have j := Just.set nb w k u
  have hl := t.lts
  have ho1 := t.o1
  have ho3 := t.o3
  have hlow := t.low
  have ho20 := t.o2 0 t.pos
  refine ⟨t.bk.apart t.nx h5 (by omega) j, j.blk t.sl (by omega), fun i hi => (t.pn i hi).apart h5 j (by have := t.o2 i hi; omega), j.blk t.past (by omega), t.nx.put k u, fun u i hu hi => rv5_apart (t.pr u i hu hi) h5 j, fun i hi => ?_,
    j.below t.bel (by omega) t.bel.size, t.low, t.o1, t.o2, t.o3, t.inj, t.pos⟩
  unfold upA
  split
  · exact rv5_apart hu h5 j
  · exact rv5_apart (t.xr i hi) h5 j
theorem M2.setP {k : Nat} (t : M2 W w b N sb pb nb pl v la g R now next Ln Lx PV XV D X pv pp U Y l m) (vs : List Value) (hvl : vs.length = 16) (hv : ∀ i, i < 16 → vs.getD i undef = XV i) :
    ∃ PV', M2 W (w.setCells pb (k * 16) vs) b N sb pb nb pl v la g R now next Ln Lx PV' XV (upA D k X) X pv pp U Y l m := by
  have h5 := t.pb5
  have j := just_cells pb vs (k * 16) w
  have hl := t.lts
  have ho1 := t.o1
  have ho3 := t.o3
  have hlow := t.low
  have ho20 := t.o2 0 t.pos
  refine ⟨_, t.bk.apart t.past h5 (by omega) j, j.blk t.sl (by omega), fun i hi => (t.pn i hi).apart h5 j (by have := t.o2 i hi; omega), blk_cells vs (k * 16) w PV t.past, j.blk t.nx (by omega), fun u i hu hi => ?_, fun i hi => rv5_apart (t.xr i hi) h5 j,
    j.below t.bel (by omega) t.bel.size, t.low, t.o1, t.o2, t.o3, t.inj, t.pos⟩
  rw [hvl]
  unfold upA
  by_cases e : u = k
  · subst e
    rw [if_pos (by omega), if_pos rfl, show u * 16 + i - u * 16 = i by omega, hv i hi]
    exact rv5_apart (t.xr i hi) h5 j
  · rw [if_neg (by omega), if_neg e]
    exact rv5_apart (t.pr u i hu hi) h5 j
end
end Go.Proofs.Ytdpkiolngglpaaa.Ve
