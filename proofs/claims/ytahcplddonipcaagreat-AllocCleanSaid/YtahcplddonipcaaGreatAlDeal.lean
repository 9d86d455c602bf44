/-
  Package alloc (chapter 22): Deal, of any tree.
-/
import Derived.Test.YtahcplddonipcaaGreatAlServe
import Derived.Test.YtahcplddonipcaaGreatTrOrder
import Derived.Test.YtahcplddonipcaaGreatAlOrd
import Derived.Test.YtahcplddonipcaaGreatAlClean
import Derived.Test.YtahcplddonipcaaGreatAlSrt
import Derived.Test.YtahcplddonipcaaGreatSortN
set_option maxRecDepth 100000
namespace Go.Proofs.YtahcplddonipcaaGreat.Al
set_option linter.unusedVariables false
set_option linter.unusedSimpArgs false
open Go.RowKit Lb Cl Ce Mi Tp Tr

/-- What lay below lo is as it was, but for block bm. -/
structure Jl (lo bm : Nat) (w w' : World) : Prop where
  size : w.heap.size ≤ w'.heap.size
  os : w'.os = w.os
  tape : w'.tape = w.tape
  output : w'.output = w.output
  block : ∀ k, k < lo → k ≠ bm → w'.heap[k]? = w.heap[k]?
theorem Jl.trans {lo bm : Nat} {u v w : World} (h : Jl lo bm u v) (k : Jl lo bm v w) : Jl lo bm u w := ⟨Nat.le_trans h.size k.size, k.os.trans h.os, k.tape.trans h.tape, k.output.trans h.output, fun i hi hb => (k.block i hi hb).trans (h.block i hi hb)⟩
theorem Jl.refl (lo bm : Nat) (w : World) : Jl lo bm w w := ⟨Nat.le_refl _, rfl, rfl, rfl, fun _ _ _ => rfl⟩
theorem Jl.of_below {lo bm : Nat} {w w' : World} (h : Below w.heap.size w w') (hl : lo ≤ w.heap.size) : Jl lo bm w w' := ⟨h.size, h.os, h.tape, h.output, fun k hk _ => h.block k (by omega)⟩
theorem Jb.low {lo bm : Nat} {w w' : World} (h : Jb lo bm w w') (hl : lo ≤ w.heap.size) : Jl lo bm w w' := ⟨h.size, h.os, h.tape, h.output, fun k hk hb => h.block k (by omega) hb (.inl hk)⟩
theorem Jl.of_grown {lo bm : Nat} {w w' : World} {row : Option Nat} (h : w.grownBy w' row) (hr : ∀ q, row = some q → lo ≤ q) (hl : lo ≤ w.heap.size) : Jl lo bm w w' := by
  have b : Below lo w w' := (Below.refl lo w).grown h hl hr
  exact ⟨b.size, b.os, b.tape, b.output, fun k hk _ => b.block k hk⟩
theorem Jl.below {lo bm B : Nat} {w w' : World} (h : Jl lo bm w w') (hB : B ≤ lo) (hb : B ≤ bm) : Below B w w' := ⟨h.os, h.tape, h.output, h.size, fun k hk => h.block k (by omega) (by omega)⟩
theorem row_jb {w w' : World} {A : Option Addr} {n lo bm : Nat} {V : Nat → Value} (h : Row w A n V) (hl : 0 < n → ∀ q, A.map Addr.block = some q → q < lo) (hb : ∃ es c, w.heap[bm]? = some (.map es c)) (j : Jl lo bm w w') : Row w' A n V := by
  intro hn
  obtain ⟨q, off, e1, e2, e3⟩ := h hn
  have hq := hl hn q (by rw [e1]; rfl)
  have hqb : q ≠ bm := fun e => by
    subst e
    obtain ⟨es, c, hb⟩ := hb
    have := e3 0 hn
    rw [cell_map hb] at this
    cases this
  refine ⟨q, off, e1, Nat.lt_of_lt_of_le e2 j.size, fun i hi => ?_⟩
  have := j.block q hq hqb
  have h6 := e3 i hi
  unfold World.cell? at h6 ⊢
  rw [← h6, this]
theorem row_size {w : World} {A : Option Addr} {n : Nat} {V : Nat → Value} (h : Row w A n V) : 0 < n → ∀ q, A.map Addr.block = some q → q < w.heap.size := fun hn q hq => by
  obtain ⟨b, off, e1, e2, _⟩ := h hn
  rw [e1] at hq
  injection hq with hq
  subst hq
  exact e2
theorem tre_jb {w w' : World} {t bm : Nat} {R : Rk} {P : Nat → List Nat} (h : Tre w t R P) (hb : ∃ es c, w.heap[bm]? = some (.map es c)) (j : Jl w.heap.size bm w w') : Tre w' t R P := by
  obtain ⟨A, K, hT, hR⟩ := h
  have hne : t ≠ bm := fun e => by
    obtain ⟨es, c, hb⟩ := hb
    have o : w.heap[t]? = some _ := hT
    rw [e, hb] at o
    cases o
  refine ⟨A, K, (j.block t (Blk.lt hT) hne).trans hT, fun x hx => ⟨(hR x hx).le, (hR x hx).cap, row_jb (hR x hx).row (row_size (hR x hx).row) hb j, (hR x hx).lo⟩⟩
theorem mine_jb {w w' : World} {lo bm n : Nat} {v : Value} {V : Nat → Value} (h : Mine w lo 3 v n V) (hb : ∃ es c, w.heap[bm]? = some (.map es c)) (j : Jb lo bm w w') : Mine w' lo 3 v n V := h.kept (fun q _ => by
  by_cases e : v.ownBlock = some q
  · obtain ⟨_, cs, o⟩ := owns_at h e
    refine .inl (j.block q o.lt (fun e2 => ?_) (.inr (fun ds o2 => ?_)))
    · obtain ⟨es, c, hb⟩ := hb
      have o' : w.heap[q]? = some _ := o
      rw [e2, hb] at o'
      cases o'
    · have : (3 : TypeId) = 50 := own_type o o2
      exact absurd this (by decide)
  · exact .inr e)
/-- A row of numbers grew: what was dealt is as it was. -/
theorem dr_grown {w w' : World} {lo db bm n : Nat} {f len chans : Int} {vs : Nat → Value} {F : Hs} {v : Value} {V : Nat → Value} (h : Dr w lo db bm f len chans vs F) (m : Mine w lo 3 v n V) (g : w.grownBy w' v.ownBlock) : Dr w' lo db bm f len chans vs F := by
  have hs : w.heap.size ≤ w'.heap.size := g.size
  have hdb : v.ownBlock ≠ some db := fun e => by
    obtain ⟨_, cs, o⟩ := owns_at m e
    have : (3 : TypeId) = 64 := own_type o h.own
    exact absurd this (by decide)
  have hbm : v.ownBlock ≠ some bm := fun e => by
    obtain ⟨_, cs, o⟩ := owns_at m e
    obtain ⟨es, c, hb, _⟩ := h.dm.ms
    have o' : w.heap[bm]? = some _ := o
    rw [hb] at o'
    cases o'
  refine ⟨grown_own g h.own hdb, ⟨h.dm.ms.keep (g.block bm h.dm.ms.lt (fun e => hbm e.symm)), ⟨fun k hk => (h.dm.rows.row k hk).kept (fun q _ => ?_), h.dm.rows.apart⟩, h.dm.nil⟩, h.few, Nat.le_trans h.le hs⟩
  by_cases e : (vs k).ownBlock = some q
  · obtain ⟨_, cs, o⟩ := owns_at (h.dm.rows.row k hk) e
    refine .inl (g.block q o.lt (fun e2 => ?_))
    obtain ⟨_, ds, o2⟩ := owns_at m e2.symm
    have : (3 : TypeId) = 50 := own_type o2 o
    exact absurd this (by decide)
  · exact .inr e
def outZ (l : List Nat) : List Int := l.map fun n : Nat => (n : Int)
theorem outZ_len (l : List Nat) : (outZ l).length = l.length := by
  unfold outZ
  exact List.length_map _
theorem outZ_snoc (l : List Nat) (x : Nat) : outZ (l ++ [x]) = outZ l ++ [(x : Int)] := by
  unfold outZ
  rw [List.map_append]
  rfl
theorem zval_snoc (l : List Int) (x : Int) (i : Nat) (hi : i < l.length + 1) : (if i < l.length then zval l i else zval [x] (i - l.length)) = zval (l ++ [x]) i := by
  unfold zval
  by_cases h : i < l.length
  · rw [if_pos h, List.getD_eq_getElem?_getD, List.getD_eq_getElem?_getD, List.getElem?_append_left h]
  · obtain rfl : i = l.length := by omega
    rw [if_neg h]
    simp
/-- What is there while the rows are put in order; D: which are. -/
structure L2 (W lo db bm : Nat) (f len chans : Int) (vs : Nat → Value) (F : Hs) (es : Array MapEntry) (clock : Nat) (zs : List Int) (u : Value) (D : Nat → Prop) (w wr : World) : Prop where
  own : Own wr db 64 #[.int .i64 f, .int .i64 len, .int .i64 chans, .map (some bm)]
  map : wr.heap[bm]? = some (.map es clock)
  done : ∀ k, k < 16 → D k → ∃ g c, vs k = .slice (some ⟨g, 0, none⟩) (F k).length c ∧ (F k).length ≤ c ∧ c ≤ maxLen ∧ (∃ cs, Own wr g 50 cs) ∧ Row wr (some ⟨g, 0, none⟩) ((srtA (F k)).length * 5) (lv (srtA (F k)))
  todo : ∀ k, k < 16 → ¬ D k → MineK wr lo 50 5 (vs k) (F k).length (lv (F k))
  nums : Mine wr lo 3 u zs.length (zval zs)
  bel : Below W w wr
  le : W ≤ lo
section
variable {W lo db bm : Nat} {f len chans : Int} {vs : Nat → Value} {F : Hs} {es : Array MapEntry} {clock : Nat} {zs : List Int} {u : Value} {D : Nat → Prop} {w wr : World}
theorem row_same {w w' : World} {g n : Nat} {V : Nat → Value} (h : Row w (some ⟨g, 0, none⟩) n V) (hs : w.heap.size ≤ w'.heap.size) (e : w'.heap[g]? = w.heap[g]?) : Row w' (some ⟨g, 0, none⟩) n V := by
  intro hn
  obtain ⟨q, off, e1, e2, e3⟩ := h hn
  injection e1 with e1
  injection e1 with e1 e4
  subst e1
  subst e4
  refine ⟨g, 0, rfl, Nat.lt_of_lt_of_le e2 hs, fun i hi => ?_⟩
  have h6 := e3 i hi
  unfold World.cell? at h6 ⊢
  rw [← h6, e]
theorem L2.congr {D' : Nat → Prop} (h : L2 W lo db bm f len chans vs F es clock zs u D w wr) (e : ∀ q, D q ↔ D' q) : L2 W lo db bm f len chans vs F es clock zs u D' w wr :=
  ⟨h.own, h.map, fun k hk hD => h.done k hk ((e k).2 hD), fun k hk hD => h.todo k hk (fun d => hD ((e k).1 d)), h.nums, h.bel, h.le⟩
/-- Only a block that is no cells and is not the map's has turned. -/
theorem L2.iter {r : Nat} {a : Option Nat} {b d : Nat} {c : Array Nat} {w' : World} (h : L2 W lo db bm f len chans vs F es clock zs u D w wr) (hr : wr.heap[r]? = some (.mapIter a b c d)) (j : Just r wr w') (hW : W ≤ r) : L2 W lo db bm f len chans vs F es clock zs u D w w' := by
  have hc : ∀ q t cs, Own wr q t cs → w'.heap[q]? = wr.heap[q]? := fun q t cs o => j.block q o.lt (fun e => by
    have o' : wr.heap[q]? = some _ := o
    rw [e, hr] at o'
    cases o')
  refine ⟨(hc _ _ _ h.own).trans h.own, (j.block bm (iter_lt h.map) (fun e => by have := h.map; rw [e, hr] at this; cases this)).trans h.map, fun k hk hD => ?_, fun k hk hD => (h.todo k hk hD).kept (fun q _ => ?_), h.nums.kept (fun q _ => ?_), j.below h.bel hW (Nat.le_trans hW (Nat.le_of_lt (iter_lt hr))), h.le⟩
  · obtain ⟨g, c, h1, h2, h3, ⟨cs, h4⟩, h5⟩ := h.done k hk hD
    have e := hc _ _ _ h4
    exact ⟨g, c, h1, h2, h3, ⟨cs, e.trans h4⟩, row_same h5 j.size e⟩
  · by_cases e : (vs k).ownBlock = some q
    · obtain ⟨_, cs, o⟩ := owns_at (h.todo k hk hD) e
      exact .inl (hc _ _ _ o)
    · exact .inr e
  · by_cases e : u.ownBlock = some q
    · obtain ⟨_, cs, o⟩ := owns_at h.nums e
      exact .inl (hc _ _ _ o)
    · exact .inr e
/-- Row k is in order now. -/
theorem L2.sorted {k g c : Nat} {w' : World} (h : L2 W lo db bm f len chans vs F es clock zs u D w wr) (hk : k < 16) (hD : ¬ D k) (hap : ∀ j k, j < 16 → k < 16 → j ≠ k → ∀ q, (vs j).ownBlock = some q → (vs k).ownBlock ≠ some q) (hg : vs k = .slice (some ⟨g, 0, none⟩) (F k).length c) (hc : (F k).length ≤ c) (hm : c ≤ maxLen) (hr : Row w' (some ⟨g, 0, none⟩) ((srtA (F k)).length * 5) (lv (srtA (F k)))) (ho : ∃ cs, Own w' g 50 cs) (j : Just g wr w') : L2 W lo db bm f len chans vs F es clock zs u (fun q => D q ∨ q = k) w w' := by
  have hob : (vs k).ownBlock = some g := by rw [hg]; rfl
  obtain ⟨hlo, cg, og⟩ := owns_at (h.todo k hk hD) hob
  have hc2 : ∀ q t cs, Own wr q t cs → t ≠ 50 → w'.heap[q]? = wr.heap[q]? := fun q t cs o ht => j.block q o.lt (fun e => by
    subst e
    exact ht (own_type o og))
  refine ⟨(hc2 _ _ _ h.own dt_ne).trans h.own, (j.block bm (iter_lt h.map) (fun e => by
    have o' : wr.heap[g]? = some _ := og
    rw [← e, h.map] at o'
    cases o')).trans h.map, fun q hq hDq => ?_, fun q hq hDq => ?_, h.nums.kept (fun q _ => ?_), j.below h.bel (Nat.le_trans h.le hlo) (Nat.le_trans (Nat.le_trans h.le hlo) (Nat.le_of_lt og.lt)), h.le⟩
  · by_cases e : q = k
    · subst e
      exact ⟨g, c, hg, hc, hm, ho, hr⟩
    · rcases hDq with hDq | hDq
      · obtain ⟨g2, c2, h1, h2, h3, ⟨cs, h4⟩, h5⟩ := h.done q hq hDq
        have hne : g2 ≠ g := fun e2 => hap q k hq hk e g (by rw [h1, e2]; rfl) hob
        have e3 := j.block g2 h4.lt hne
        exact ⟨g2, c2, h1, h2, h3, ⟨cs, e3.trans h4⟩, row_same h5 j.size e3⟩
      · exact absurd hDq e
  · have hqk : q ≠ k := fun e => hDq (.inr e)
    refine (h.todo q hq (fun d => hDq (.inl d))).kept (fun b _ => ?_)
    by_cases e : (vs q).ownBlock = some b
    · obtain ⟨_, cs, o⟩ := owns_at (h.todo q hq (fun d => hDq (.inl d))) e
      exact .inl (j.block b o.lt (fun e2 => hap q k hq hk hqk b e (by rw [e2]; exact hob)))
    · exact .inr e
  · by_cases e : u.ownBlock = some q
    · obtain ⟨_, cs, o⟩ := owns_at h.nums e
      exact .inl (hc2 _ _ _ o (by decide))
    · exact .inr e
end
/-- A map that says F, to be read. -/
structure Fm (w : World) (bm : Nat) (vs : Nat → Value) (F : Hs) : Prop where
  ms : Ms w bm (fun k => decide (F k ≠ [])) vs
  row : ∀ k, k < 16 → ∃ a c, vs k = .slice a (F k).length c ∧ (F k).length ≤ c ∧ c ≤ maxLen ∧ Row w a ((F k).length * 5) (lv (F k))
  nil : ∀ k, F k = [] → vs k = .slice none 0 0
theorem Fm.below {w w' : World} {bm : Nat} {vs : Nat → Value} {F : Hs} (h : Fm w bm vs F) (j : Below w.heap.size w w') : Fm w' bm vs F := ⟨h.ms.below j, fun k hk => by
  obtain ⟨a, c, h1, h2, h3, h4⟩ := h.row k hk
  exact ⟨a, c, h1, h2, h3, h4.below j⟩, h.nil⟩
theorem Fm.look {w : World} {bm k : Nat} {vs : Nat → Value} {F : Hs} (h : Fm w bm vs F) (hk : k < 16) : (Instr.lookup 28 (.map (some bm)) (kv k) false).run Tryz.prog w = .ok (vs k) w := h.ms.look hk (fun e => h.nil k (by simpa using e))
theorem deal_take (f : Int) (len chans : Nat) (par : Nat → Nat) (l : List Nat) {k : Nat} (hk : k < l.length) : dealF f len chans par (l.take (k + 1)) = stepF f len chans par (dealF f len chans par (l.take k)) (l.getD k 0) := by
  unfold dealF
  rw [List.take_add_one, List.foldl_append, List.getD_eq_getElem?_getD, List.getElem?_eq_getElem hk]
  rfl
theorem step_none {f : Int} {len chans : Nat} {par : Nat → Nat} {s : Hs × List Nat} {n : Nat} (h : n ≠ 0) (hs : serveF s.1 f len chans n (par n) = none) : stepF f len chans par s n = (s.1, s.2 ++ [n]) := by
  unfold stepF
  rw [if_neg h, hs]
theorem step_some {f : Int} {len chans : Nat} {par : Nat → Nat} {s : Hs × List Nat} {n : Nat} {G : Hs} (h : n ≠ 0) (hs : serveF s.1 f len chans n (par n) = some G) : stepF f len chans par s n = (G, s.2) := by
  unfold stepF
  rw [if_neg h, hs]
theorem step_out {f : Int} {len chans : Nat} {par : Nat → Nat} {s : Hs × List Nat} {n : Nat} : (stepF f len chans par s n).2.length ≤ s.2.length + 1 := by
  unfold stepF
  split
  · omega
  · split
    · dsimp only
      omega
    · rw [List.length_append]
      exact Nat.le_refl _
theorem deal_out (f : Int) (len chans : Nat) (par : Nat → Nat) (l : List Nat) : ∀ k, (dealF f len chans par (l.take k)).2.length ≤ k
  | 0 => by rw [List.take_zero]; exact Nat.le_refl _
  | k + 1 => by
    by_cases hk : k < l.length
    · rw [deal_take f len chans par l hk]
      exact Nat.le_trans step_out (Nat.succ_le_succ (deal_out f len chans par l k))
    · have h1 := deal_out f len chans par l k
      rw [List.take_of_length_le (by omega)] at h1
      rw [List.take_of_length_le (by omega)]
      omega
end Go.Proofs.YtahcplddonipcaaGreat.Al
