/-
  A map that is ranged over, by its entries, whichever order the tape says.
-/
import Derived.Test.YtdpkiolngglpaaaOwn
import Derived.Maps.RangeWalk
set_option maxRecDepth 100000
namespace Go.Proofs.Ytdpkiolngglpaaa.Lb
set_option linter.unusedVariables false
set_option linter.unusedSimpArgs false
open Go.RowKit Go.ChangeMaps

theorem just_setBlock (w : World) (r : Nat) (o : Obj) : Just r w (setBlock w r o) := by
  refine ⟨rfl, rfl, rfl, by simp [setBlock], fun k hk hne => ?_⟩
  unfold setBlock
  simp only
  rw [Array.getElem?_setIfInBounds_ne (fun e => hne e.symm)]
theorem heap_setBlock {w : World} {r : Nat} (h : r < w.heap.size) (o : Obj) : (setBlock w r o).heap[r]? = some o := by
  unfold setBlock
  simp [h]
theorem iter_lt {w : World} {r : Nat} {o : Obj} (h : w.heap[r]? = some o) : r < w.heap.size := by
  by_cases hb : r < w.heap.size
  · exact hb
  · rw [Array.getElem?_eq_none (by omega)] at h
    cases h
/-- The step of a range over a map. -/
theorem wpList_next_raw {P : Program} {w : World} {ops : Array Oper} {rest : List Oper} {o : Oper} {a : Act} {Q : Exit → Act → World → Prop} (hg : o.guard = none) (it : Operand) (hop : o.op = Op.next it false) (r bm since c0 : Nat) (seen : Array Nat) (es : Array MapEntry) (clock : Nat)
    (hit : a.eval it = .pointer (some ⟨r, 0, none⟩)) (hr : w.heap[r]? = some (.mapIter (some bm) since seen c0)) (hb : w.heap[bm]? = some (.map es clock)) (hold : ∀ x ∈ es.toList, x.born < since) (hsc : since ≤ c0)
    (hDone : (leftOf es seen).size = 0 → wpList P ops Q rest (a.put o.dst (.tuple #[.bool false])) w)
    (hMore : ∀ e ∈ (leftOf es seen).toList, ∀ w' : World, w'.heap[r]? = some (.mapIter (some bm) since (seen.push e.born) clock) → Just r w w' → wpList P ops Q rest (a.put o.dst (.tuple #[.bool true, e.key, e.val])) w') :
    wpList P ops Q (o :: rest) a w := by
  refine wpList_plain hg fun K' hK' => ?_
  unfold Oper.wp
  rcases run_next_at (P := P) w o.type r bm since c0 seen es clock hr hb hold hsc with ⟨h0, hrun⟩ | ⟨e, he, w1, hw1, hrun⟩
  · simp [execOp, hop, hit, hrun, Result.andThen]
    exact hK' _ _ (hDone h0)
  · simp [execOp, hop, hit, hrun, Result.andThen]
    have hlt := iter_lt hr
    have hj : Just r w (setBlock w1 r (.mapIter (some bm) since (seen.push e.born) clock)) := by
      rcases hw1 with rfl | rfl
      · exact just_setBlock _ _ _
      · exact ((Just.refl r w).drewN 1).trans (just_setBlock w.drew _ _)
    refine hK' _ _ (hMore e he _ ?_ hj)
    exact heap_setBlock (by rcases hw1 with rfl | rfl <;> exact hlt) _
/-- One entry of those that are left comes out. -/
theorem left_step {es : Array MapEntry} {seen : Array Nat} {e : MapEntry} (hn : (es.toList.map (·.born)).Nodup) (he : e ∈ (leftOf es seen).toList) : (e :: (leftOf es (seen.push e.born)).toList).Perm (leftOf es seen).toList := by
  unfold leftOf at he ⊢
  rw [Array.toList_filter] at he ⊢
  rw [Array.toList_filter]
  obtain ⟨hm, hs⟩ := List.mem_filter.1 he
  generalize es.toList = l at *
  induction l with
  | nil => cases hm
  | cons x l ih =>
    rw [List.map_cons, List.nodup_cons] at hn
    rcases List.mem_cons.1 hm with rfl | h2
    · have h1 : (!(seen.push e.born).contains e.born) = false := by rw [Array.contains_push]; simp
      have h2 : List.filter (fun y => !(seen.push e.born).contains y.born) (e :: l) = List.filter (fun y => !(seen.push e.born).contains y.born) l := List.filter_cons_of_neg (by rw [h1]; decide)
      have h3 : List.filter (fun y => !seen.contains y.born) (e :: l) = e :: List.filter (fun y => !seen.contains y.born) l := List.filter_cons_of_pos hs
      rw [h2, h3]
      refine List.Perm.cons _ (List.Perm.of_eq ?_)
      refine List.filter_congr (fun y hy => ?_)
      rw [Array.contains_push]
      have : ¬ y.born = e.born := fun q => hn.1 (List.mem_map.2 ⟨y, hy, q⟩)
      simp [this]
    · have hx : ¬ x.born = e.born := fun q => hn.1 (List.mem_map.2 ⟨e, h2, q.symm⟩)
      have ih2 := ih hn.2 (List.mem_filter.2 ⟨h2, hs⟩) h2
      by_cases hb : seen.contains x.born = true
      · have h3 : List.filter (fun y => !(seen.push e.born).contains y.born) (x :: l) = List.filter (fun y => !(seen.push e.born).contains y.born) l := List.filter_cons_of_neg (by rw [Array.contains_push, hb]; simp)
        have h4 : List.filter (fun y => !seen.contains y.born) (x :: l) = List.filter (fun y => !seen.contains y.born) l := List.filter_cons_of_neg (by rw [hb]; simp)
        rw [h3, h4]
        exact ih2
      · have hb : seen.contains x.born = false := by simpa using hb
        have h3 : List.filter (fun y => !(seen.push e.born).contains y.born) (x :: l) = x :: List.filter (fun y => !(seen.push e.born).contains y.born) l := List.filter_cons_of_pos (by rw [Array.contains_push, hb]; simpa using hx)
        have h4 : List.filter (fun y => !seen.contains y.born) (x :: l) = x :: List.filter (fun y => !seen.contains y.born) l := List.filter_cons_of_pos (by rw [hb]; rfl)
        rw [h3, h4]
        exact (List.Perm.swap x e _).trans (ih2.cons x)
theorem left_all (es : Array MapEntry) : (leftOf es #[]).toList = es.toList := by
  unfold leftOf
  rw [Array.toList_filter]
  refine List.filter_eq_self.2 (fun x _ => by simp)
end Go.Proofs.Ytdpkiolngglpaaa.Lb
