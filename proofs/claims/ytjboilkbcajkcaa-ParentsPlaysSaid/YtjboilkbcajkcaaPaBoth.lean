/-
  Package parents: the set and the reference's, side by side in one memory.
-/
import Derived.Test.YtjboilkbcajkcaaPaRef3
import Derived.Test.YtjboilkbcajkcaaPaRef4
import Derived.Test.YtjboilkbcajkcaaPaSame
set_option maxRecDepth 100000
namespace Go.Proofs.Ytjboilkbcajkcaa.Pa
set_option linter.unusedVariables false
open Go.RowKit Lb Go.Shelf
theorem mineK_own {w : World} {base s n : Nat} {e : TypeId} {v : Value} {V : Nat → Value} (h : MineK w base e s v n V) {q : Nat} (hq : v.ownBlock = some q) : ∃ cs, Own w q e cs := by
  obtain ⟨_, h2⟩ := h
  rcases h2 with ⟨hv, _⟩ | ⟨g, cap, cur, hv, _, hh, _⟩
  · subst hv; cases hq
  · subst hv
    have e : some g = some q := hq
    injection e with e
    subst e
    exact ⟨_, hh⟩
theorem Turn.rs {w w' : World} {base b rb : Nat} {me rk me' rk' : Int} {l l' : List P} {v v' rv : Value} (j : Turn w w' b v v') (t : St w base b me rk l v) (r : Rs w base rb me' rk' l' rv) : Rs w' base rb me' rk' l' rv := by
  have h1 : ∀ q cs, Own w q 41 cs → w'.heap[q]? = w.heap[q]? := fun q cs h => j.keep q h.lt (fun e => by subst e; exact absurd (own_ty h t.own) (by decide)) (fun e => by
    obtain ⟨ds, hd⟩ := mineK_own t.row e
    exact absurd (own_ty h hd) (by decide))
  have h2 : ∀ q cs, Own w q 61 cs → w'.heap[q]? = w.heap[q]? := fun q cs h => j.keep q h.lt (fun e => by subst e; exact absurd (own_ty h t.own) (by decide)) (fun e => by
    obtain ⟨ds, hd⟩ := mineK_own t.row e
    exact absurd (own_ty h hd) (by decide))
  refine ⟨(h1 rb _ r.own).trans r.own, r.row.kept (fun q _ => ?_), r.few, r.low⟩
  by_cases e : rv.ownBlock = some q
  · obtain ⟨cs, hc⟩ := mineK_own r.row e
    exact .inl (h2 q cs hc)
  · exact .inr e
theorem Rs.st {w w' : World} {base b rb : Nat} {me rk me' rk' : Int} {l l' : List P} {v rv : Value} (r : Rs w base rb me' rk' l' rv) (j : Just rb w w') (t : St w base b me rk l v) : St w' base b me rk l v := by
  refine ⟨(j.block b t.own.lt (fun e => by subst e; exact absurd (own_ty t.own r.own) (by decide))).trans t.own, t.row.kept (fun q _ => ?_), t.srt, t.few, t.low⟩
  by_cases e : v.ownBlock = some q
  · obtain ⟨cs, hc⟩ := mineK_own t.row e
    exact .inl (j.block q hc.lt (fun e' => by subst e'; exact absurd (own_ty hc r.own) (by decide)))
  · exact .inr e
theorem mem_take_of {l : List P} {k : Nat} {x : P} (h : x ∈ l.take k) : x ∈ l := List.mem_of_mem_take h
theorem In16.sub {l m : List P} (h : In16 l) (s : m.Sublist l) : In16 m := fun x hx => h x (s.subset hx)
theorem In16.old {l : List P} (h : In16 l) (c : Cl) : In16 (oldL c l) := by
  unfold oldL
  split
  · exact h
  · exact h.sub (kept_sub _ _ _)
theorem In16.hear {me rk : Int} {l : List P} {x : P} (h : In16 l) (hx : x.h ≤ 9223372036854775807) : In16 (hearL me rk l x) := by
  unfold hearL
  split
  · rename_i hm
    split
    · exact h.sub (kept_sub _ _ _)
    · have h0 : 0 ≤ x.n ∧ x.n < 16 ∧ 0 ≤ x.h ∧ x.h ≤ 9223372036854775807 := by
        unfold mayH ndB at hm
        simp at hm
        omega
      have h2 : In16 (l2 l x) := fun y hy => by
        have hp : (l2 l x).Perm (x :: l1 l x.n) := ins_perm _ _ _
        rcases List.mem_cons.1 (hp.mem_iff.1 hy) with e | e
        · subst e; exact h0
        · exact h.sub (kept_sub _ _ _) y e
      have h3 : In16 (l3 rk l x) := by
        unfold l3
        split
        · exact h2.sub (kept_sub _ _ _)
        · exact h2
      exact h3.sub (List.take_sublist _ _)
  · exact h
end Go.Proofs.Ytjboilkbcajkcaa.Pa
