/-
  A slice's beginning and its rest, as run equations that hold in every world, whatever is empty.
-/
import Derived.Test.YtdpkiolngglpaaaLib
import Derived.Laws.Slices
namespace Go.Proofs.Ytdpkiolngglpaaa.Lb
set_option linter.unusedVariables false
set_option linter.unusedSimpArgs false
open Go.RowKit

/-- 's[:K]'. -/
theorem cut_to {P : Program} (t e : TypeId) (s : Nat) (ht : P.underlying t = some (.slice e)) (hz : ∀ w, (Go.sizeOf e).run P w = .ok s w) (A : Option Addr) (n c K : Nat) (hK : K ≤ c) (w : World) :
    (Instr.slice t (.slice A n c) none (some (.int .i64 (K : Int))) none).run P w = .ok (.slice A K c) w := by
  have ht' : P.underlying t = some (.slice (P.elem t)) := by simp [Program.elem, ht]
  have he : P.elem t = e := by simp [Program.elem, ht]
  rw [run_slice_h w t _ _ _ ht' .i64 _ (by omega) (by omega), he, hz]
  cases A with
  | none => simp [Result.andThen, sliced]
  | some a => simp [Result.andThen, sliced, Addr.add]
/-- 's[K:]': where it begins. -/
def cutA (A : Option Addr) (c K s : Nat) : Option Addr := if c = K then A else A.map (·.add (K * s))
theorem cut_from {P : Program} (t e : TypeId) (s : Nat) (ht : P.underlying t = some (.slice e)) (hz : ∀ w, (Go.sizeOf e).run P w = .ok s w) (A : Option Addr) (n c K : Nat) (hK : K ≤ n) (w : World) :
    (Instr.slice t (.slice A n c) (some (.int .i64 (K : Int))) none none).run P w = .ok (.slice (cutA A c K s) (n - K) (c - K)) w := by
  have ht' : P.underlying t = some (.slice (P.elem t)) := by simp [Program.elem, ht]
  have he : P.elem t = e := by simp [Program.elem, ht]
  rw [run_slice_l w t _ _ _ ht' .i64 _ (by omega) (by omega), he, hz]
  simp [Result.andThen, sliced, cutA]
theorem cut_row {w : World} {A : Option Addr} {n c K s : Nat} {V : Nat → Value} (h : Row w A (n * s) V) (hn : n ≤ c) : Row w (cutA A c K s) ((n - K) * s) (fun i => V (K * s + i)) := fun h0 => by
  have hs : 0 < s := Nat.pos_of_ne_zero (fun e => by subst e; simp at h0)
  have hK : K < n := by
    have := Nat.pos_of_mul_pos_right h0
    omega
  obtain ⟨b, off, rfl, h2, h3⟩ := h (Nat.mul_pos (by omega) hs)
  unfold cutA
  rw [if_neg (by omega)]
  have hm : K * s + (n - K) * s = n * s := by rw [← Nat.add_mul]; congr 1; omega
  refine ⟨b, off + K * s, ?_, h2, fun i hi => ?_⟩
  · show some ((⟨b, off, none⟩ : Addr).add (K * s)) = _
    unfold Addr.add
    split
    · rename_i e
      rw [e]
      rfl
    · rfl
  · rw [Nat.add_assoc]
    exact h3 _ (by omega)
end Go.Proofs.Ytdpkiolngglpaaa.Lb
