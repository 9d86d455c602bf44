/-
  Package parents: a parent that every program must know. Package parents: what holds of a set at every moment: ranks below its own, each node once, at most three. Two rows of numbers that are alike are told so.
-/
import Derived.Test.YtiflmdekcjbmbaaGreatGNodeWaits10
import Derived.Test.YtiflmdekcjbmbaaGreatGNodeWaits30
import Derived.Deep.Strs
import Derived.IntWalk
import Derived.Lib.SmallJoins
set_option maxRecDepth 100000
namespace Go.Proofs.YtiflmdekcjbmbaaGreat.Pa
set_option linter.unusedVariables false
set_option linter.unusedSimpArgs false
open Go.RowKit Lb Go.Shelf

theorem hear_nil (x : P) (w : World) : Calls Tryz.prog 144 #[.pointer none, .int .i64 x.n, .int .i64 x.r, .int .i64 x.h] w fun r w' => r = .returned (.bool false) ∧ Below w.heap.size w w' := by
  have o1 : Own ((w.alloc (.cells #[.pointer none] 89)).alloc (.cells #[.int .i64 x.n] 3)) w.heap.size 89 #[.pointer none] := (Own.new w _ _).alloc _
  have b0 := ((Below.refl w.heap.size w).alloc (Nat.le_refl _) (.cells #[.pointer none] 89)).alloc (by simp) (.cells #[.int .i64 x.n] 3)
  have c0 : ((w.alloc (.cells #[.pointer none] 89)).alloc (.cells #[.int .i64 x.n] 3)).cell? ⟨w.heap.size, 0, none⟩ = some (.pointer none) := o1.cell 0
  go_enter Tryz.func144, Tryz.ntmps144
  go_wp2_with fail
  generalize (w.alloc (.cells #[.pointer none] 89)).alloc (.cells #[.int .i64 x.n] 3) = w1 at *
  go_quiet (fail)
  go_wp2_with fail
  go_ret
  exact ⟨rfl, below_drewN b0 _⟩
end Go.Proofs.YtiflmdekcjbmbaaGreat.Pa
set_option maxRecDepth 100000
namespace Go.Proofs.YtiflmdekcjbmbaaGreat.Pa
set_option linter.unusedVariables false
set_option linter.unusedSimpArgs false
open Go.RowKit Lb Go.Shelf

structure Inv (me rk : Int) (l : List P) : Prop where
  lo : 0 ≤ rk ∧ rk ≤ 255
  three : l.length ≤ 3
  below : ∀ x, x ∈ l → x.r < rk
  other : ∀ x, x ∈ l → x.n ≠ me
  once : (l.map (·.n)).Nodup
  pos : ∀ x, x ∈ l → 0 ≤ x.r
theorem Inv.sub {me rk : Int} {l m : List P} (h : Inv me rk l) (s : m.Sublist l) : Inv me rk m :=
  ⟨h.lo, Nat.le_trans s.length_le h.three, fun x hx => h.below x (s.subset hx), fun x hx => h.other x (s.subset hx), h.once.sublist (s.map _), fun x hx => h.pos x (s.subset hx)⟩
theorem kept_sub (p : P → Bool) (l : List P) (k : Nat) : (kept p l k).Sublist l := (List.filter_sublist).trans (List.take_sublist k l)
theorem Inv.kept {me rk : Int} {l : List P} (h : Inv me rk l) (p : P → Bool) (k : Nat) : Inv me rk (kept p l k) := h.sub (kept_sub p l k)
theorem ins_perm (l : List P) (i : Nat) (x : P) : (ins l i x).Perm (x :: l) := by
  unfold ins
  have := List.perm_middle (a := x) (l₁ := l.take i) (l₂ := l.drop i)
  rwa [List.take_append_drop] at this
theorem hearR_le (me rk : Int) (l : List P) (x : P) : hearR me rk l x ≤ rk := by
  unfold hearR rk3
  repeat' split
  all_goals omega
theorem Inv.hear {me rk : Int} {l : List P} (h : Inv me rk l) (x : P) : Inv me (hearR me rk l x) (hearL me rk l x) := by
  unfold hearR hearL
  by_cases hm : mayH me x = true
  · rw [if_pos hm, if_pos hm]
    by_cases hr : rk ≤ x.r
    · rw [if_pos hr, if_pos hr]
      exact h.kept _ _
    · rw [if_neg hr, if_neg hr]
      have hx : 0 ≤ x.r ∧ x.n ≠ me := by
        unfold mayH rkB at hm
        simp at hm
        omega
      have hp : (l2 l x).Perm (x :: l1 l x.n) := ins_perm _ _ _
      have i1 := h.kept (fun y => y.n == x.n) l.length
      have hn1 : ∀ y, y ∈ l1 l x.n → y.n ≠ x.n := fun y hy => by
        obtain ⟨k, hk, rfl⟩ := mem_at hy
        exact l1_ne l x.n k hk
      have n2 : ((l2 l x).map (·.n)).Nodup := by
        refine (hp.map (·.n)).nodup_iff.2 ?_
        rw [List.map_cons, List.nodup_cons]
        refine ⟨fun hc => ?_, i1.once⟩
        obtain ⟨y, hy, e⟩ := List.mem_map.1 hc
        exact hn1 y hy e
      have m2 : ∀ y, y ∈ l2 l x → y = x ∨ y ∈ l1 l x.n := fun y hy => List.mem_cons.1 (hp.mem_iff.1 hy)
      have s3 : (l3 rk l x).Sublist (l2 l x) := by
        unfold l3
        split
        · exact kept_sub _ _ _
        · exact List.Sublist.refl _
      have b3 : ∀ y, y ∈ l3 rk l x → y.r < rk3 rk x := fun y hy => by
        have hy2 := s3.subset hy
        unfold l3 at hy
        unfold rk3
        by_cases hq : x.r + 1 < rk
        · rw [if_pos hq] at hy ⊢
          unfold Pa.kept at hy
          have := (List.mem_filter.mp hy).2
          simp at this
          omega
        · rw [if_neg hq] at hy ⊢
          rcases m2 y hy with rfl | h1
          · omega
          · exact i1.below y h1
      have s4 : (l4 rk l x).Sublist (l3 rk l x) := List.take_sublist _ _
      have hk : 0 ≤ rk3 rk x ∧ rk3 rk x ≤ 255 := by
        have := h.lo
        unfold rk3
        split <;> omega
      refine ⟨hk, by unfold l4; exact List.length_take_le _ _, fun y hy => b3 y (s4.subset hy), fun y hy => ?_, n2.sublist ((s4.trans s3).map _), fun y hy => ?_⟩
      · rcases m2 y ((s4.trans s3).subset hy) with rfl | h1
        · exact hx.2
        · exact i1.other y h1
      · rcases m2 y ((s4.trans s3).subset hy) with rfl | h1
        · exact hx.1
        · exact i1.pos y h1
  · rw [if_neg hm, if_neg hm]
    exact h
theorem Inv.rank {me rk : Int} {l : List P} (h : Inv me rk l) {k : Nat} (hk : k < l.length) : rkoP l (at_ l k).n = ((at_ l k).r, true) := by
  refine rko_at hk (fun j hj => ?_) (by simp)
  have e : ∀ i (hi : i < l.length), at_ l i = l[i] := fun i hi => by
    unfold at_
    rw [List.getD_eq_getElem?_getD, List.getElem?_eq_getElem hi]
    rfl
  have hp := List.pairwise_iff_getElem.1 h.once j k (by simp; omega) (by simpa using hk) hj
  rw [e j (by omega), e k hk]
  simpa using hp
theorem srt_rank {l : List P} (h : Srt l) {j k : Nat} (hj : j ≤ k) (hk : k < l.length) : (at_ l j).r ≤ (at_ l k).r := by
  by_cases e : j = k
  · subst e; omega
  · have := h j k (by omega) hk
    rw [cf_lt] at this
    omega
end Go.Proofs.YtiflmdekcjbmbaaGreat.Pa
set_option maxRecDepth 100000
namespace Go.Proofs.YtiflmdekcjbmbaaGreat.Pa
set_option linter.unusedVariables false
set_option linter.unusedSimpArgs false
open Go.RowKit Go.ChangeShapes Go.WideShapes Go.ChangeAt Go.Deep Lb
theorem same_ints (a b : Option Addr) (n c d : Nat) (V : Nat → Value) (X : Nat → Int) (w : World) (hV : V = fun i => .int .i64 (X i)) (hn : n ≤ c) (hm : n ≤ d) (hc : c ≤ maxLen) (hd : d ≤ maxLen) (hX : Row w a n V) (hY : Row w b n V) :
    Calls Tryz.prog 42 #[.slice a n c, .slice b n d] w fun r w' => r = .returned (.bool true) ∧ ∃ m, w.drewN m = w' := by
  subst hV
  unfold maxLen at hc hd
  go_enter Tryz.func42, Tryz.ntmps42
  go_wp2_with fail
  go_loopw [13] (fun i wr => ∃ (k m : Nat), i = .int .i64 k ∧ k ≤ n ∧ w.drewN m = wr) (fun i _ => n - (intOf i).toNat)
  case atStart => exact ⟨0, 0, rfl, by omega, rfl⟩
  case round =>
    obtain ⟨k, m, rfl, hk, rfl⟩ := hrel
    by_cases hlt : k < n
    · obtain ⟨p, o, rfl, _, h1⟩ := hX.at_ hlt
      obtain ⟨q, s, rfl, _, h2⟩ := hY.at_ hlt
      go_wp2_with fail
      go_quiet (fail)
      go_wp2_with fail
      exact ⟨⟨k + 1, _, by go_num, by omega, rfl⟩, by simp [intOf]; omega⟩
    · obtain rfl : k = n := by omega
      go_wp2_with fail
      go_ret
      exact ⟨rfl, m, rfl⟩
end Go.Proofs.YtiflmdekcjbmbaaGreat.Pa
