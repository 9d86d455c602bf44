/-
  A step that turns one block and one row of its own, and makes new memory: what it leaves alone.
-/
import Derived.Test.YtdpkiolngglpaaaOwn
import Derived.Test.YtdpkiolngglpaaaOwnK
namespace Go.Proofs.Ytdpkiolngglpaaa.Lb
set_option linter.unusedVariables false
set_option linter.unusedSimpArgs false
open Go.RowKit

/-- From w to w' nothing has turned but block b, the block of v, and what is new; v' lies there. -/
structure Turn (w w' : World) (b : Nat) (v v' : Value) : Prop where
  os : w'.os = w.os
  tape : w'.tape = w.tape
  output : w'.output = w.output
  size : w.heap.size ≤ w'.heap.size
  keep : ∀ q, q < w.heap.size → q ≠ b → v.ownBlock ≠ some q → w'.heap[q]? = w.heap[q]?
  own : ∀ q, v'.ownBlock = some q → v.ownBlock = some q ∨ w.heap.size ≤ q
theorem Turn.of_below {w w' : World} (h : Below w.heap.size w w') (b : Nat) (v : Value) : Turn w w' b v v := ⟨h.os, h.tape, h.output, h.size, fun q hq _ _ => h.block q hq, fun _ e => .inl e⟩
theorem Turn.of_grown {w w' : World} {v v' : Value} (h : w.grownBy w' v.ownBlock) (ho : v'.ownBlock = v.ownBlock ∨ v'.ownBlock = some w.heap.size) (b : Nat) : Turn w w' b v v' :=
  ⟨h.os, h.tape, h.output, h.size, fun q hq _ hv => h.block q hq (fun e => hv e.symm), fun q e => by
    rcases ho with ho | ho
    · exact .inl (ho ▸ e)
    · rw [ho] at e; injection e with e; exact .inr (by omega)⟩
theorem Turn.of_just {w w' : World} {b : Nat} (h : Just b w w') (v : Value) : Turn w w' b v v := ⟨h.os, h.tape, h.output, h.size, fun q hq hb _ => h.block q hq hb, fun _ e => .inl e⟩
/-- The row's block alone has turned. -/
theorem Turn.of_row {w w' : World} {b g : Nat} {v v' : Value} (h : Just g w w') (hv : v.ownBlock = some g) (hv' : ∀ q, v'.ownBlock = some q → v.ownBlock = some q) : Turn w w' b v v' :=
  ⟨h.os, h.tape, h.output, h.size, fun q hq _ hx => h.block q hq (fun e => hx (e ▸ hv)), fun q e => .inl (hv' q e)⟩
theorem Turn.trans {u v w : World} {b : Nat} {x y z : Value} (h : Turn u v b x y) (k : Turn v w b y z) : Turn u w b x z :=
  ⟨k.os.trans h.os, k.tape.trans h.tape, k.output.trans h.output, Nat.le_trans h.size k.size, fun q hq hb hx => (k.keep q (Nat.lt_of_lt_of_le hq h.size) hb (fun e => (h.own q e).elim hx (fun h' => by omega))).trans (h.keep q hq hb hx),
    fun q e => (k.own q e).elim (fun e' => h.own q e') (fun h' => .inr (Nat.le_trans h.size h'))⟩
theorem Turn.put {w w1 : World} {b : Nat} {v v1 : Value} (h : Turn w w1 b v v1) (i : Nat) (u : Value) : Turn w (w1.setCell ⟨b, i, none⟩ u) b v v1 := h.trans (Turn.of_just (Just.set b w1 i u) v1)
theorem Turn.below {w w' : World} {b base : Nat} {v v' : Value} (h : Turn w w' b v v') (hb : base ≤ b) (hv : ∀ q, v.ownBlock = some q → base ≤ q) (hs : base ≤ w.heap.size) : Below base w w' :=
  ⟨h.os, h.tape, h.output, h.size, fun q hq => h.keep q (by omega) (by omega) (fun e => by have := hv q e; omega)⟩
theorem Turn.box {w w' : World} {b q : Nat} {v v' : Value} {t : TypeId} {cs : Array Value} (j : Turn w w' b v v') (h : Own w q t cs) (hq : q ≠ b) (hv : v.ownBlock ≠ some q) : Own w' q t cs := (j.keep q h.lt hq hv).trans h
theorem own_ty {w : World} {b : Nat} {s t : TypeId} {cs ds : Array Value} (h : Own w b s cs) (g : Own w b t ds) : s = t := by
  unfold Own at h g
  rw [g] at h
  injection h with h
  injection h with _ h _
  exact h.symm
theorem mineK_own {w : World} {base s n : Nat} {e : TypeId} {v : Value} {V : Nat → Value} (h : MineK w base e s v n V) {q : Nat} (hq : v.ownBlock = some q) : ∃ cs, Own w q e cs := by
  obtain ⟨_, h2⟩ := h
  rcases h2 with ⟨hv, _⟩ | ⟨g, cap, cur, hv, _, hh, _⟩
  · subst hv; cases hq
  · subst hv
    have e : some g = some q := hq
    injection e with e
    subst e
    exact ⟨_, hh⟩
theorem mk_low {w : World} {base base' s n : Nat} {e : TypeId} {v : Value} {V : Nat → Value} (h : MineK w base e s v n V) (hb : base' ≤ base) : MineK w base' e s v n V := by
  obtain ⟨h1, h2⟩ := h
  refine ⟨h1, ?_⟩
  rcases h2 with h2 | ⟨g, cap, cur, hv, hg, r⟩
  · exact .inl h2
  · exact .inr ⟨g, cap, cur, hv, Nat.le_trans hb hg, r⟩
theorem mn_low {w : World} {base base' n : Nat} {e : TypeId} {v : Value} {V : Nat → Value} (h : Mine w base e v n V) (hb : base' ≤ base) : Mine w base' e v n V := by
  obtain ⟨h1, h2⟩ := h
  refine ⟨h1, ?_⟩
  rcases h2 with h2 | ⟨g, cap, cur, hv, hg, r⟩
  · exact .inl h2
  · exact .inr ⟨g, cap, cur, hv, Nat.le_trans hb hg, r⟩
/-- A block whose type is none of the two that turn is kept. -/
theorem Turn.ty {w w' : World} {b q base s n : Nat} {v v' : Value} {t e u : TypeId} {cs ds : Array Value} {V : Nat → Value} (j : Turn w w' b v v') (ho : Own w b t ds) (hr : MineK w base e s v n V) (h : Own w q u cs) (h1 : u ≠ t) (h2 : u ≠ e) : Own w' q u cs :=
  j.box h (fun e' => by subst e'; exact h1 (own_ty h ho)) (fun e' => by
    obtain ⟨cs', hc⟩ := mineK_own hr e'
    exact h2 (own_ty h hc))
end Go.Proofs.Ytdpkiolngglpaaa.Lb
