/-
  Rows of cells that are alike (the reference's SameCells).
-/
import Derived.Test.YtdpkiolngglpaaaCeSort
import Derived.Test.YtdpkiolngglpaaaCeEq
set_option maxRecDepth 100000
namespace Go.Proofs.Ytdpkiolngglpaaa.Ce
set_option linter.unusedVariables false
set_option linter.unusedSimpArgs false
open Go.RowKit Lb Cl
theorem same_cells (a b : Option Addr) (n c d : Nat) (l : List C) (w : World) (hn : n ≤ c) (hm : n ≤ d) (hc : c ≤ maxLen) (hd : d ≤ maxLen) (hX : Row w a (n * 5) (lv l)) (hY : Row w b (n * 5) (lv l)) :
    Calls Try.prog 24 #[.slice a n c, .slice b n d] w fun r w' => r = .returned (.bool true) ∧ ∃ m, w.drewN m = w' := by
  unfold maxLen at hc hd
  go_enter Try.func24, Try.ntmps24
  go_wp2_with fail
  go_loopw [13] (fun i wr => ∃ (k m : Nat), i = .int .i64 k ∧ k ≤ n ∧ w.drewN m = wr) (fun i _ => n - (intOf i).toNat)
  case atStart => exact ⟨0, 0, rfl, by omega, rfl⟩
  case round =>
    obtain ⟨k, m, rfl, hk, rfl⟩ := hrel
    by_cases hlt : k < n
    · obtain ⟨p, o, rfl, _, d0, d1, d2, d3, d4⟩ := row_c5 hX hlt
      obtain ⟨q, s, rfl, _, e0, e1, e2, e3, e4⟩ := row_c5 hY hlt
      have hq := neq_c (at_ l k) (at_ l k)
      have hs : eqC (at_ l k) (at_ l k) = true := (eqC_is _ _).2 rfl
      simp only [hs, Bool.not_true] at hq
      generalize at_ l k = x at *
      clear hs
      go_wp2_with fail
      go_quiet (fail)
      go_wp2_with fail
      exact ⟨⟨k + 1, _, by go_num, by omega, rfl⟩, by simp [intOf]; omega⟩
    · obtain rfl : k = n := by omega
      go_wp2_with fail
      go_ret
      exact ⟨rfl, m, rfl⟩
end Go.Proofs.Ytdpkiolngglpaaa.Ce
