/-
  A queue of nodes: a slice that is cut at its head and appended to.
-/
import Derived.Test.YtahcplddonipcaaGreatTrMath
import Derived.Test.YtahcplddonipcaaGreatCut
import Derived.Test.YtahcplddonipcaaGreatMid
import Derived.ArgAppend
set_option maxRecDepth 100000
namespace Go.Proofs.YtahcplddonipcaaGreat.Tr
set_option linter.unusedVariables false
set_option linter.unusedSimpArgs false
open Go.RowKit Lb Tp

def Fq (w : World) (base g : Nat) (v : Value) (l : List Nat) : Prop := ∃ off cap cs, v = .slice (some ⟨g, off, none⟩) l.length cap ∧ base ≤ g ∧ Own w g 3 cs ∧ off + cap ≤ cs.size ∧ l.length ≤ cap ∧ cap ≤ maxLen ∧ ∀ i, i < l.length → cs[off + i]? = some (ln l i)
theorem Fq.lt {w : World} {base g : Nat} {v : Value} {l : List Nat} (h : Fq w base g v l) : base ≤ g ∧ g < w.heap.size := by
  obtain ⟨_, _, _, _, h1, h2, _⟩ := h
  exact ⟨h1, h2.lt⟩
theorem Fq.just {w w' : World} {base g b : Nat} {v : Value} {l : List Nat} (h : Fq w base g v l) (j : Just b w w') (hb : g ≠ b) : Fq w' base g v l := by
  obtain ⟨off, cap, cs, h0, h1, h2, h3⟩ := h
  exact ⟨off, cap, cs, h0, h1, j.own h2 hb, h3⟩
theorem Fq.below {w w' : World} {base g B : Nat} {v : Value} {l : List Nat} (h : Fq w base g v l) (j : Below B w w') (hB : g < B) : Fq w' base g v l := by
  obtain ⟨off, cap, cs, h0, h1, h2, h3⟩ := h
  exact ⟨off, cap, cs, h0, h1, below_own j h2 hB, h3⟩
theorem infoT : (Tryz.prog.info? 3).map (fun i => (i.zero, i.size, i.bytes)) = some (some (.int .i64 0), 1, 8) := by kernel_rfl
theorem size_i : ∀ w : World, (Go.sizeOf 3).run Tryz.prog w = .ok 1 w := fun _ => rfl
theorem ln_cons (x : Nat) (l : List Nat) (i : Nat) : ln (x :: l) (i + 1) = ln l i := by
  unfold ln
  simp
theorem Fq.head {w : World} {base g x : Nat} {v : Value} {l : List Nat} (h : Fq w base g v (x :: l)) : ∃ off cap, v = .slice (some ⟨g, off, none⟩) (l.length + 1) cap ∧ w.cell? ⟨g, off, none⟩ = some (.int .i64 (x : Int)) ∧ (l.length : Int) + 1 ≤ 9223372036854775807 := by
  obtain ⟨off, cap, cs, h0, h1, h2, h3, h4, h5, h6⟩ := h
  refine ⟨off, cap, h0, ?_, ?_⟩
  · rw [h2.cell, ← Nat.add_zero off, h6 0 (by simp)]
    rfl
  · rw [List.length_cons] at h4
    unfold maxLen at h5
    omega
theorem Fq.cut {w : World} {base g x : Nat} {v : Value} {l : List Nat} (h : Fq w base g v (x :: l)) : ∃ v', (∀ w' : World, (Instr.slice 29 v (some (.int .i64 1)) none none).run Tryz.prog w' = .ok v' w') ∧ Fq w base g v' l := by
  obtain ⟨off, cap, cs, rfl, h1, h2, h3, h4, h5, h6⟩ := h
  rw [List.length_cons] at h4
  have hc := fun w' => cut_from 29 3 1 Tryz.underlying29 size_i (some ⟨g, off, none⟩) (l.length + 1) cap 1 (by omega) w'
  refine ⟨_, hc, ?_⟩
  unfold cutA
  by_cases hcap : cap = 1
  · subst hcap
    have hl : l.length = 0 := by omega
    rw [if_pos rfl, List.length_eq_zero_iff.1 hl]
    exact ⟨off, 0, cs, rfl, h1, h2, by omega, Nat.le_refl _, by omega, fun i hi => absurd hi (by simp)⟩
  · rw [if_neg hcap]
    refine ⟨off + 1, cap - 1, cs, ?_, h1, h2, by omega, by omega, by omega, fun i hi => ?_⟩
    · show Value.slice (some ((⟨g, off, none⟩ : Addr).add (1 * 1))) _ _ = _
      rfl
    · rw [Nat.add_assoc, Nat.add_comm 1 i, h6 (i + 1) (by rw [List.length_cons]; omega), ln_cons]
theorem Fq.app {w : World} {base g : Nat} {v : Value} {l : List Nat} (h : Fq w base g v l) (x : Nat) {b : Nat} (hb : Own w b 3 #[.int .i64 (x : Int)]) (hl : l.length ≤ 1000) (hbase : base ≤ w.heap.size) :
    ∃ v' g' w', (Builtin.append_ #[29, 29] 29 #[v, .slice (some ⟨b, 0, none⟩) 1 1]).run Tryz.prog w = .ok v' w' ∧ Fq w' base g' v' (l ++ [x]) ∧ (g' = g ∨ w.heap.size ≤ g') ∧ Just g w w' := by
  obtain ⟨off, cap, cs, rfl, h1, h2, h3, h4, h5, h6⟩ := h
  have hnews : ∀ j u, [Value.int .i64 (x : Int)][j]? = some u → w.cell? ((⟨b, 0, none⟩ : Addr).add j) = some u := fun j u hu => by
    rcases j with _ | j
    · injection hu with hu
      subst hu
      exact hb.cell 0
    · simp at hu
  have hone : ∀ u ∈ [Value.int .i64 (x : Int)], u.oneCell' = true := fun u hu => by
    rw [List.mem_singleton.1 hu]
    rfl
  obtain ⟨i0, hi0, hz0, hz1, hz2⟩ := info_parts infoT
  by_cases hr : l.length + 1 ≤ cap
  · have hrun := run_append_room_cells (P := Tryz.prog) w 29 29 3 i0 Tryz.underlying29 hi0 g off l.length cap ⟨b, 0, none⟩ 1 1 [.int .i64 (x : Int)] (by rw [hz1]; rfl) hnews hone hr (fun j hj => by
      have : j = 0 := by simpa using hj
      subst this
      rw [h2.cell, hz1, Nat.mul_one, Nat.add_zero, Array.getElem?_eq_getElem (by omega)]
      rfl) (fun j hj => h2.free _)
    rw [hz1, Nat.mul_one] at hrun
    refine ⟨_, g, _, hrun, ?_, .inl rfl, ?_⟩
    · have ho := h2.put (off + l.length) (.int .i64 (x : Int))
      refine ⟨off, cap, _, by rw [List.length_append, List.length_singleton], h1, ho, by simpa using h3, by rw [List.length_append, List.length_singleton]; exact hr, h5, fun i hi => ?_⟩
      rw [List.length_append, List.length_singleton] at hi
      rw [Array.getElem?_setIfInBounds]
      by_cases e : i = l.length
      · subst e
        rw [if_pos rfl, if_pos (by omega)]
        unfold ln
        simp
      · rw [if_neg (by omega), h6 i (by omega)]
        unfold ln
        rw [List.getD_eq_getElem?_getD, List.getD_eq_getElem?_getD, List.getElem?_append_left (by omega)]
    · exact Just.puts g [.int .i64 (x : Int)] w (off + l.length)
  · obtain ⟨v', w', hrun, hown, hgr⟩ := run_append_arg_grows (P := Tryz.prog) w 29 29 3 i0 (.int .i64 0) 1 8 Tryz.underlying29 hi0 hz0 hz1 hz2 rfl (by decide) ⟨g, off, none⟩ l.length cap ((List.range l.length).map (ln l)) (by simp) (fun j u hu => by
      have hj : j < l.length := by
        have := (List.getElem?_eq_some_iff.1 hu).1
        simpa using this
      have hu' : u = ln l j := by simpa [hj] using hu.symm
      subst hu'
      have : (⟨g, off, none⟩ : Addr).add j = ⟨g, off + j, none⟩ := by
        unfold Addr.add
        split
        · rename_i e
          subst e
          rfl
        · rfl
      rw [this, h2.cell, h6 j hj]) ⟨b, 0, none⟩ 1 1 [.int .i64 (x : Int)] (by rfl) hnews (by omega) (by unfold maxLen; omega) (by omega)
    obtain ⟨hlen, h7 | ⟨g', cap', cur, rfl, hg1, hg2, hg3, hg4, hg5, hg6⟩⟩ := hown
    · omega
    · refine ⟨_, g', w', hrun, ⟨0, cap', cur, by rw [List.length_append, List.length_singleton], by omega, hg2, by omega, by rw [List.length_append, List.length_singleton]; exact hg3, hg4, fun i hi => ?_⟩, .inr hg1, ⟨hgr.os, hgr.tape, hgr.output, hgr.size, fun k hk _ => hgr.block k hk (by simp)⟩⟩
      · rw [List.length_append, List.length_singleton] at hi
        rw [Nat.zero_add]
        have e1 := congrArg (fun l : List Value => l[i]?) hg6
        simp only [Nat.mul_one, List.getElem?_take, if_pos hi, Array.getElem?_toList] at e1
        rw [e1]
        by_cases e : i = l.length
        · subst e
          unfold ln
          simp
        · unfold ln
          rw [List.getElem?_append_left (by simp; omega), List.getD_eq_getElem?_getD, List.getElem?_append_left (by omega)]
          simp [show i < l.length by omega]
end Go.Proofs.YtahcplddonipcaaGreat.Tr
