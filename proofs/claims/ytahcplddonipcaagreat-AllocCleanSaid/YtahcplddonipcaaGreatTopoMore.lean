/-
  Layer 20: who is near, as a set; two lists that read alike; a graph that there isn't.
-/
import Derived.Test.YtahcplddonipcaaGreatTopoMade
set_option maxRecDepth 100000
namespace Go.Proofs.YtahcplddonipcaaGreat.Tp
set_option linter.unusedVariables false
set_option linter.unusedSimpArgs false
open Go.RowKit Lb

theorem mem_nr {N : Nat} {Q : Nat → Nat → Int} {a y : Int} {k : Nat} : ∀ n, k ∈ nr N Q a y n ↔ k < n ∧ 0 < qual N Q a k ∧ y ≤ qual N Q a k
  | 0 => by simp [nr]
  | n + 1 => by
    by_cases h : 0 < qual N Q a n ∧ y ≤ qual N Q a n
    · rw [nr_yes h, List.mem_append, mem_nr n, List.mem_singleton]
      constructor
      · rintro (⟨h1, h2⟩ | rfl)
        · exact ⟨by omega, h2⟩
        · exact ⟨by omega, h⟩
      · rintro ⟨h1, h2⟩
        by_cases e : k = n
        · exact .inr e
        · exact .inl ⟨by omega, h2⟩
    · rw [nr_not h, mem_nr n]
      constructor
      · rintro ⟨h1, h2⟩; exact ⟨by omega, h2⟩
      · rintro ⟨h1, h2⟩
        refine ⟨?_, h2⟩
        by_cases e : k = n
        · subst e; exact absurd h2 h
        · omega
theorem near_get {N : Nat} {Q : Nat → Nat → Int} {a y : Int} {i : Nat} (h : i < (near N Q a y).length) : (near N Q a y).getD i 0 < N ∧ 0 < qual N Q a ((near N Q a y).getD i 0 : Nat) ∧ y ≤ qual N Q a ((near N Q a y).getD i 0 : Nat) := by
  refine (mem_nr (N := N) (Q := Q) N).1 ?_
  rw [List.getD_eq_getElem?_getD, List.getElem?_eq_getElem h]
  exact List.getElem_mem h
theorem hasL_near {N : Nat} {Q : Nat → Nat → Int} {a y : Int} {k : Nat} : hasL (near N Q a y) (k : Int) = decide (k < N ∧ 0 < qual N Q a k ∧ y ≤ qual N Q a k) := by
  have := mem_nr (N := N) (Q := Q) (a := a) (y := y) (k := k) N
  cases e : hasL (near N Q a y) (k : Int)
  · symm
    rw [decide_eq_false_iff_not]
    intro h
    have hm := this.2 h
    unfold hasL at e
    rw [List.any_eq_false] at e
    exact e k hm (by simp)
  · symm
    rw [decide_eq_true_eq]
    unfold hasL at e
    rw [List.any_eq_true] at e
    obtain ⟨z, hz, h2⟩ := e
    obtain rfl : z = k := by have h3 : (z : Int) = (k : Int) := by simpa using h2
                             omega
    exact this.1 hz
theorem nr_le {N : Nat} {Q : Nat → Nat → Int} {a x y : Int} (h : x ≤ y) : ∀ n, (nr N Q a y n).length ≤ (nr N Q a x n).length
  | 0 => Nat.le_refl _
  | n + 1 => by
    have ih := nr_le (N := N) (Q := Q) (a := a) h n
    by_cases h1 : 0 < qual N Q a n ∧ y ≤ qual N Q a n
    · rw [nr_yes h1, nr_yes (least := x) ⟨h1.1, by omega⟩]
      simp only [List.length_append, List.length_cons, List.length_nil]
      omega
    · rw [nr_not h1]
      by_cases h2 : 0 < qual N Q a n ∧ x ≤ qual N Q a n
      · rw [nr_yes h2]
        simp only [List.length_append, List.length_cons, List.length_nil]
        omega
      · rw [nr_not h2]
        exact ih
theorem qual_le {N : Nat} {Q : Nat → Nat → Int} (h : Fine N Q) (a b : Int) : 0 ≤ qual N Q a b ∧ qual N Q a b ≤ 255 := by
  unfold qual
  have h1 := h.2.2 a.toNat b.toNat
  have h2 := h.2.2 b.toNat a.toNat
  split <;> omega
theorem nr_none_above {N : Nat} {Q : Nat → Nat → Int} (h : Fine N Q) (a : Int) {y : Int} (hy : 255 < y) : ∀ n, nr N Q a y n = []
  | 0 => rfl
  | n + 1 => by
    have := qual_le h a n
    rw [nr_not (by omega), nr_none_above h a hy n]
theorem qual_sym (N : Nat) (Q : Nat → Nat → Int) (a b : Int) : qual N Q a b = qual N Q b a := by
  unfold qual
  by_cases h : hasB N a = true ∧ hasB N b = true
  · rw [if_pos h, if_pos ⟨h.2, h.1⟩, Int.min_comm]
  · rw [if_neg h, if_neg (fun e => h ⟨e.2, e.1⟩)]
theorem qual_self {N : Nat} {Q : Nat → Nat → Int} (h : Fine N Q) (a : Int) : qual N Q a a = 0 := by
  unfold qual
  have h1 := (h.2.2 a.toNat a.toNat).2.2.1
  split
  · rw [h1]; rfl
  · rfl
theorem qual_gone {N : Nat} {Q : Nat → Nat → Int} {x : Int} (hx : hasB N x = true) {a b : Int} (h : a = x ∨ b = x) : qual N (goneTo N Q x) a b = 0 := by
  unfold qual goneTo
  rw [if_pos hx]
  split
  · unfold gone
    rcases h with rfl | rfl
    · simp
    · simp
  · rfl
theorem same_ints (a b : Option Addr) (n c d : Nat) (V : Nat → Value) (X : Nat → Int) (w : World) (hV : V = fun i => .int .i64 (X i)) (hn : n ≤ c) (hm : n ≤ d) (hc : c ≤ maxLen) (hd : d ≤ maxLen) (hX : Row w a n V) (hY : Row w b n V) :
    Calls Tryz.prog 11 #[.slice a n c, .slice b n d] w fun r w' => r = .returned (.bool true) ∧ ∃ m, w.drewN m = w' := by
  subst hV
  unfold maxLen at hc hd
  go_enter Tryz.func11, Tryz.ntmps11
  go_wp2_with fail
  go_loopw [13] (fun i wr => ∃ (k m : Nat), i = .int .i64 k ∧ k ≤ n ∧ w.drewN m = wr) (fun i _ => n - (intOf i).toNat)
  case atStart => exact ⟨0, 0, rfl, by omega, rfl⟩
  case round =>
    obtain ⟨k, m, rfl, hk, rfl⟩ := hrel
    by_cases hlt : k < n
    · obtain ⟨p, o, rfl, _, h1⟩ := hX.at_ hlt
      obtain ⟨q, s, rfl, _, h2⟩ := hY.at_ hlt
      go_wp2_with fail
      go_quiet (fail)
      go_wp2_with fail
      exact ⟨⟨k + 1, _, by go_num, by omega, rfl⟩, by simp [intOf]; omega⟩
    · obtain rfl : k = n := by omega
      go_wp2_with fail
      go_ret
      exact ⟨rfl, m, rfl⟩
end Go.Proofs.YtahcplddonipcaaGreat.Tp
