/-
  Package label: what the methods answer, the answer named beforehand.
-/
import Derived.Test.YtafhekgfanpijaaLaAwake
set_option maxRecDepth 100000
namespace Go.Proofs.Ytafhekgfanpijaa.La
set_option linter.unusedVariables false
open Go.RowKit Lb Go.Shelf
set_option linter.unusedVariables false
theorem to_cut {l X : List UInt8} {n : Int} (h : cutB l n = X) (hl : l.length ≤ 1048576) (h0 : -9223372036854775808 ≤ n) (h1 : n ≤ 9223372036854775807) (w : World) :
    Calls Try.prog 16 #[.string ⟨⟨l⟩⟩, .int .i64 n] w fun r w' => r = .returned (.string ⟨⟨X⟩⟩) ∧ Below w.heap.size w w' := by
  subst h
  exact cut_any l n w hl h0 h1
theorem to_count {l : List UInt8} {N : Nat} (h : (ru l).length = N) (hl : l.length ≤ 1048576) (w : World) :
    Calls Try.prog 14 #[.string ⟨⟨l⟩⟩] w fun r w' => r = .returned (.int .i64 N) ∧ Below w.heap.size w w' := by
  subst h
  exact count_any l w hl
theorem to_may {l : List UInt8} {b : Bool} (h : mayL (ru l) = b) (w : World) :
    Calls Try.prog 10 #[.string ⟨⟨l⟩⟩] w fun r w' => r = .returned (.bool b) ∧ Below w.heap.size w w' := by
  subst h
  exact may_any l w
theorem to_norm {l X : List UInt8} (h : normB l = X) (hl : l.length ≤ 1048576) (w : World) :
    Calls Try.prog 12 #[.string ⟨⟨l⟩⟩] w fun r w' => r = .returned (.string ⟨⟨X⟩⟩) ∧ Below w.heap.size w w' := by
  subst h
  exact norm_any l w hl
theorem to_turn {l X : List UInt8} (h : turnB l = X) (hl : l.length ≤ 1048576) (w : World) :
    Calls Try.prog 20 #[.string ⟨⟨l⟩⟩] w fun r w' => r = .returned (.string ⟨⟨X⟩⟩) ∧ Below w.heap.size w w' := by
  subst h
  exact turn_any l w hl
theorem to_sum {l : List UInt8} {N : Nat} (h : sumJ (ru l) (ru l).length = N) (hl : l.length ≤ 1048576) (w : World) :
    Calls Try.prog 18 #[.string ⟨⟨l⟩⟩] w fun r w' => r = .returned (.int .i64 N) ∧ Below w.heap.size w w' := by
  subst h
  exact sum_any l w hl
theorem cat (a b : List UInt8) : ByteArray.mk ⟨a⟩ ++ ByteArray.mk ⟨b⟩ = ⟨⟨a ++ b⟩⟩ := by
  apply ByteArray.ext
  rw [ByteArray.data_append]
  apply Array.ext'
  simp
theorem ru_app {a b : List UInt8} (h : rs (a ++ b) = rs a ++ rs b) : ru (a ++ b) = ru a ++ ru b := by
  unfold ru
  rw [h, List.map_append]
theorem two {u v w : World} (h : Below u.heap.size u v) (k : Below v.heap.size v w) : Below u.heap.size u w := h.trans (k.mono h.size)
end Go.Proofs.Ytafhekgfanpijaa.La
