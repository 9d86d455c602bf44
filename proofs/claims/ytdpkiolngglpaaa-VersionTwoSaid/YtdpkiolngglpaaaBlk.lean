/-
  A block of the call's own that is known whole by a function from places to values.
-/
import Derived.Test.YtdpkiolngglpaaaLib
namespace Go.Proofs.Ytdpkiolngglpaaa.Lb
set_option linter.unusedVariables false
set_option linter.unusedSimpArgs false
open Go.RowKit

/-- Block b holds just the n cells V 0, V 1, .., of element type t, none frozen. -/
def Blk (w : World) (b : Nat) (t : TypeId) (n : Nat) (V : Nat → Value) : Prop := Own w b t (Array.ofFn (n := n) fun i => V i)

theorem Blk.lt {w : World} {b : Nat} {t : TypeId} {n : Nat} {V : Nat → Value} (h : Blk w b t n V) : b < w.heap.size := Own.lt h
theorem Blk.cell {w : World} {b : Nat} {t : TypeId} {n : Nat} {V : Nat → Value} (h : Blk w b t n V) {i : Nat} (hi : i < n) : w.cell? ⟨b, i, none⟩ = some (V i) := by
  rw [Own.cell h i]
  simp [hi]
theorem Blk.free {w : World} {b : Nat} {t : TypeId} {n : Nat} {V : Nat → Value} (h : Blk w b t n V) (i : Nat) : w.frozen? ⟨b, i, none⟩ = false := Own.free h i
theorem Blk.ext {w : World} {b : Nat} {t : TypeId} {n : Nat} {V U : Nat → Value} (h : Blk w b t n V) (hu : ∀ i, i < n → V i = U i) : Blk w b t n U := by
  have e : (Array.ofFn (n := n) fun i => V i) = Array.ofFn (n := n) fun i => U i := by
    congr 1
    funext i
    exact hu i i.isLt
  unfold Blk at h ⊢
  rw [← e]
  exact h
theorem Blk.of {w : World} {b : Nat} {t : TypeId} {n : Nat} {V : Nat → Value} {cs : Array Value} (h : Own w b t cs) (hs : cs.size = n) (hv : ∀ i, i < n → cs[i]? = some (V i)) : Blk w b t n V := by
  have e : cs = Array.ofFn (n := n) fun i => V i := by
    apply Array.ext
    · simp [hs]
    · intro i h1 h2
      have := hv i (by omega)
      rw [Array.getElem?_eq_getElem h1] at this
      injection this with this
      rw [this]
      simp
  unfold Blk
  rw [← e]
  exact h
theorem Blk.put {w : World} {b : Nat} {t : TypeId} {n : Nat} {V : Nat → Value} (h : Blk w b t n V) (i : Nat) (u : Value) : Blk (w.setCell ⟨b, i, none⟩ u) b t n (fun j => if j = i then u else V j) := by
  refine Blk.of (Own.put h i u) (by simp) fun j hj => ?_
  rw [Array.getElem?_setIfInBounds]
  by_cases hij : i = j
  · subst hij
    simp [hj]
  · rw [if_neg hij]
    simp [hj, show ¬ j = i from fun e => hij e.symm]
theorem Blk.drewN {w : World} {b : Nat} {t : TypeId} {n : Nat} {V : Nat → Value} (h : Blk w b t n V) (m : Nat) : Blk (w.drewN m) b t n V := h
theorem Blk.alloc {w : World} {b : Nat} {t : TypeId} {n : Nat} {V : Nat → Value} (h : Blk w b t n V) (o : Obj) : Blk (w.alloc o) b t n V := Own.alloc h o
theorem Just.blk {b b' : Nat} {w w' : World} {t : TypeId} {n : Nat} {V : Nat → Value} (j : Just b w w') (h : Blk w b' t n V) (hne : b' ≠ b) : Blk w' b' t n V := j.own h hne
theorem below_blk {B b : Nat} {w w' : World} {t : TypeId} {n : Nat} {V : Nat → Value} (h : Below B w w') (k : Blk w b t n V) (hb : b < B) : Blk w' b t n V := below_own h k hb
/-- A block of n cells that are all the same. -/
theorem Blk.same {w : World} {b : Nat} {t : TypeId} {n : Nat} {v : Value} {cs : Array Value} (h : Own w b t cs) (hc : cs = (List.replicate n v).toArray) : Blk w b t n (fun _ => v) := by
  subst hc
  exact Blk.of h (by simp) (fun i hi => by simp [hi])
end Go.Proofs.Ytdpkiolngglpaaa.Lb
