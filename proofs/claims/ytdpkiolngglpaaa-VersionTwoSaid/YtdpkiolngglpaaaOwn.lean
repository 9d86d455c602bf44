/-
  My own words on slices that the call makes: append from whatever source that reads as a row; what is owned, as a block.
-/
import Derived.Test.YtdpkiolngglpaaaLib
import Derived.OwnWalk
import Derived.Laws.OwnMore
import Derived.Laws.AppendOwn
import Derived.Laws.BytesArg
import Derived.Maps.AppendAt
namespace Go.Proofs.Ytdpkiolngglpaaa.Lb
set_option linter.unusedVariables false
set_option linter.unusedSimpArgs false
open Go.RowKit

theorem info8 : (Try.prog.info? 5).map (fun i => (i.zero, i.size, i.bytes)) = some (some (.int .u8 0), 1, 1) := by kernel_rfl

/-- The slice v owns its row: n cells V 0, V 1, .., in a block of its own from base on. -/
def Mine (w : World) (base : Nat) (e : TypeId) (v : Value) (n : Nat) (V : Nat → Value) : Prop := w.ownsRow base e 1 v n ((List.range n).map V)

theorem Mine.ext {w : World} {base : Nat} {e : TypeId} {v : Value} {n : Nat} {V U : Nat → Value} (h : Mine w base e v n V) (hv : ∀ i, i < n → V i = U i) : Mine w base e v n U := by
  have : (List.range n).map V = (List.range n).map U := List.map_congr_left fun i hi => hv i (List.mem_range.1 hi)
  unfold Mine at h ⊢
  rw [← this]
  exact h
theorem Mine.nil (w : World) (base : Nat) (e : TypeId) (V : Nat → Value) : Mine w base e (.slice none 0 0) 0 V := ⟨rfl, .inl ⟨rfl, rfl⟩⟩
/-- An empty literal, 'make(.., 0, n)': a block of the call's own. -/
theorem Mine.made {w : World} {base b : Nat} {e : TypeId} {cs : Array Value} {n : Nat} {V : Nat → Value} (h : Own w b e cs) (hb : base ≤ b) (hm : cs.size ≤ maxLen) (hn : n ≤ cs.size) (hv : ∀ i, i < n → cs[i]? = some (V i)) :
    Mine w base e (.slice (some ⟨b, 0, none⟩) n cs.size) n V := by
  refine ⟨by simp, .inr ⟨b, cs.size, cs, rfl, hb, h, hn, hm, by simp, ?_⟩⟩
  apply List.ext_getElem?
  intro i
  rw [Nat.mul_one, List.getElem?_take]
  by_cases hi : i < n
  · rw [if_pos hi, Array.getElem?_toList, hv i hi]
    simp [hi]
  · rw [if_neg hi]
    simp [hi]
theorem made_list (z : Value) : ∀ n, (madeCells #[z] n).toList = (List.range n).map (fun _ => z) := by
  intro n
  rw [toList_madeCells_one]
  apply List.ext_getElem?
  intro i
  by_cases h : i < n
  · rw [List.getElem?_replicate, if_pos h]; simp [h]
  · rw [List.getElem?_replicate, if_neg h]; simp [h]
/-- 'make(.., n)' with a variable n: n zeros. -/
theorem Mine.full {w : World} {base : Nat} {e : TypeId} {v z : Value} {n : Nat} (h : w.ownsRow base e 1 v n (madeCells #[z] n).toList) : Mine w base e v n (fun _ => z) := by
  rw [made_list] at h
  exact h
/-- What is owned, as a block. -/
theorem Mine.block {w : World} {base : Nat} {e : TypeId} {v : Value} {n : Nat} {V : Nat → Value} (h : Mine w base e v n V) (hn : 0 < n) :
    ∃ b cs, v = .slice (some ⟨b, 0, none⟩) n cs.size ∧ base ≤ b ∧ Own w b e cs ∧ n ≤ cs.size ∧ cs.size ≤ maxLen ∧ ∀ i, i < n → cs[i]? = some (V i) := by
  obtain ⟨_, h2⟩ := h
  rcases h2 with ⟨_, h0⟩ | ⟨g, cap, cur, hv, hg, hh, hc, hm, hs, ht⟩
  · omega
  · rw [Nat.mul_one] at hs
    subst hs
    refine ⟨g, cur, hv, hg, hh, hc, hm, fun i hi => ?_⟩
    have e1 := congrArg (fun l : List Value => l[i]?) ht
    simp only [Nat.mul_one, List.getElem?_take, if_pos hi, Array.getElem?_toList] at e1
    rw [e1]
    simp [hi]
/-- What is owned, as a row. -/
theorem Mine.row {w : World} {base : Nat} {e : TypeId} {v : Value} {n : Nat} {V : Nat → Value} (h : Mine w base e v n V) : ∃ a c, v = .slice a n c ∧ n ≤ c ∧ c ≤ maxLen ∧ Row w a n V := by
  obtain ⟨_, h2⟩ := id h
  rcases h2 with ⟨hv, h0⟩ | ⟨g, cap, cur, hv, hg, hh, hc, hm, hs, ht⟩
  · subst h0
    exact ⟨none, 0, hv, by omega, by omega, Row.nil _ _ _⟩
  · refine ⟨_, _, hv, hc, hm, fun hn => ?_⟩
    obtain ⟨b, cs, hv', _, ho, _, _, hcs⟩ := Mine.block h hn
    rw [hv'] at hv
    injection hv with h1 _ _
    injection h1 with h1
    injection h1 with h1
    subst h1
    exact ⟨_, _, rfl, ho.lt, fun i hi => by rw [Nat.zero_add, ho.cell, hcs i hi]⟩
theorem Mine.rowAt {w : World} {base : Nat} {e : TypeId} {a : Option Addr} {n c : Nat} {V : Nat → Value} (h : Mine w base e (.slice a n c) n V) : Row w a n V := by
  obtain ⟨a', c', h1, _, _, h2⟩ := h.row
  injection h1 with h1 _ _
  rw [h1]
  exact h2
theorem Mine.at_ {w : World} {base b : Nat} {e : TypeId} {n c : Nat} {V : Nat → Value} (h : Mine w base e (.slice (some ⟨b, 0, none⟩) n c) n V) {j : Nat} (hj : j < n) :
    base ≤ b ∧ b < w.heap.size ∧ w.cell? ⟨b, j, none⟩ = some (V j) ∧ w.frozen? ⟨b, j, none⟩ = false := by
  obtain ⟨b', cs, hv, hb, ho, hn, hm, hcs⟩ := h.block (by omega)
  injection hv with h1 _ _
  injection h1 with h1
  injection h1 with h1
  subst h1
  exact ⟨hb, ho.lt, by rw [ho.cell, hcs j hj], ho.free j⟩
theorem Mine.store {w : World} {base b : Nat} {e : TypeId} {n c : Nat} {V : Nat → Value} (h : Mine w base e (.slice (some ⟨b, 0, none⟩) n c) n V) {j : Nat} (hj : j < n) (u : Value) :
    Mine (w.setCell ⟨b, j, none⟩ u) base e (.slice (some ⟨b, 0, none⟩) n c) n (fun i => if i = j then u else V i) := by
  obtain ⟨b', cs, hv, hb, ho, hn, hm, hcs⟩ := h.block (by omega)
  injection hv with h1 _ h3
  injection h1 with h1
  injection h1 with h1
  subst h1
  subst h3
  have hsz : (cs.setIfInBounds j u).size = cs.size := by simp
  have := Mine.made (base := base) (n := n) (V := fun i => if i = j then u else V i) (ho.put j u) hb (by rw [hsz]; exact hm) (by rw [hsz]; exact hn) (fun i hi => by
    rw [Array.getElem?_setIfInBounds]
    by_cases hij : j = i
    · subst hij
      rw [if_pos rfl, if_pos (by omega), if_pos rfl]
    · rw [if_neg hij, hcs i hi, if_neg (fun h => hij h.symm)])
  rw [hsz] at this
  exact this
theorem Mine.other {w : World} {base : Nat} {e : TypeId} {v : Value} {n : Nat} {V : Nat → Value} (h : Mine w base e v n V) {p : Addr} (hp : v.ownBlock ≠ some p.block) (u : Value) : Mine (w.setCell p u) base e v n V :=
  ownsRow_setCell_other h hp u
theorem Mine.kept {w w' : World} {base : Nat} {e : TypeId} {v : Value} {n : Nat} {V : Nat → Value} (h : Mine w base e v n V) (hk : ∀ b, base ≤ b → w'.heap[b]? = w.heap[b]? ∨ v.ownBlock ≠ some b) : Mine w' base e v n V := by
  obtain ⟨h1, h2⟩ := h
  refine ⟨h1, ?_⟩
  rcases h2 with h2 | ⟨g, cap, cur, hv, hg, hh, r⟩
  · exact .inl h2
  · refine .inr ⟨g, cap, cur, hv, hg, ?_, r⟩
    rcases hk g hg with e1 | e1
    · rw [e1]; exact hh
    · subst hv
      exact absurd rfl e1
theorem Mine.drewN {w : World} {base : Nat} {e : TypeId} {v : Value} {n : Nat} {V : Nat → Value} (h : Mine w base e v n V) (m : Nat) : Mine (w.drewN m) base e v n V := h
theorem Mine.alloc {w : World} {base : Nat} {e : TypeId} {v : Value} {n : Nat} {V : Nat → Value} (h : Mine w base e v n V) (o : Obj) : Mine (w.alloc o) base e v n V := World.ownsRow.alloc h o
theorem Mine.lt {w : World} {base : Nat} {e : TypeId} {v : Value} {n : Nat} {V : Nat → Value} (h : Mine w base e v n V) : ∀ k, v.ownBlock = some k → base ≤ k ∧ k < w.heap.size := World.ownsRow.lt h

theorem grown_own {w w' : World} {row : Option Nat} {b : Nat} {t : TypeId} {cs : Array Value} (hg : w.grownBy w' row) (h : Own w b t cs) (hr : row ≠ some b) : Own w' b t cs := (hg.block b h.lt (fun e => hr e.symm)).trans h
theorem Mine.just {w w' : World} {base g : Nat} {e : TypeId} {v : Value} {n : Nat} {V : Nat → Value} (h : Mine w base e v n V) (j : Just g w w') (hg : g < base) : Mine w' base e v n V :=
  h.kept (fun b hb => by
    by_cases hl : b < w.heap.size
    · exact .inl (j.block b hl (by omega))
    · exact .inr (fun e => by have := (h.lt b e).2; omega))
theorem map_append (n m : Nat) (V U : Nat → Value) : (List.range n).map V ++ (List.range m).map U = (List.range (n + m)).map (fun i => if i < n then V i else U (i - n)) := by
  apply List.ext_getElem?
  intro i
  rw [List.getElem?_append]
  simp only [List.length_map, List.length_range, List.getElem?_map]
  by_cases h : i < n
  · simp [h, show i < n + m by omega]
  · by_cases h2 : i < n + m
    · simp [h, h2, show i - n < m by omega]
    · simp [h, h2, show ¬ i - n < m by omega]

/-- append of nothing. -/
theorem run_app_none {P : Program} {w : World} {base : Nat} {t ty e : TypeId} {i : TypeInfo} (ht : P.underlying t = some (.slice e)) (hi : P.info? e = some i) {v : Value} {n : Nat} {V : Nat → Value} (hown : Mine w base e v n V) (c : Nat) :
    (Builtin.append_ #[t, t] ty #[v, .slice none 0 c]).run P w = .ok v w := by
  obtain ⟨_, h2⟩ := hown
  rcases h2 with ⟨rfl, rfl⟩ | ⟨g, cap, cur, rfl, _, _, hnc, _⟩
  · simp [Builtin.append_, run_underlying ht, sizeOf, typeInfo, hi, Builtin.lenOf, Builtin.firstCells]
  · simp [Builtin.append_, run_underlying ht, sizeOf, typeInfo, hi, Builtin.lenOf, Builtin.firstCells, hnc, storeCells]

/-- append: what is owned, with a row of whatever place behind it. -/
theorem wp_app {P : Program} {w : World} {ops : Array Oper} {rest : List Oper} {o : Oper} {a : Act} {Q : Exit → Act → World → Prop} (hgd : o.guard = none) (s x : Operand) (t : TypeId)
    (ho : o.op = .call { callee := .builtin .append, args := #[s, x], argTypes := #[t, t] })
    (base : Nat) (e : TypeId) (i : TypeInfo) (z : Value) (bytes : Nat) (ht : P.underlying t = some (.slice e)) (hi : P.info? e = some i) (hz : i.zero = some z)
    (hsize : i.size = 1) (hby : i.bytes = bytes) (hzs : z.cells.size = 1)
    (v : Value) (n : Nat) (V : Nat → Value) (hs : a.eval s = v) (hown : Mine w base e v n V)
    (A : Option Addr) (m c : Nat) (U : Nat → Value) (hx : a.eval x = .slice A m c) (hr : Row w A m U) (h1 : ∀ i, i < m → (U i).oneCell' = true)
    (h63 : n + m ≤ maxLen) (hbytes : (n + m) * bytes ≤ 140737488355328) (hbase : base ≤ w.heap.size)
    (h : ∀ v' w', Mine w' base e v' (n + m) (fun i => if i < n then V i else U (i - n)) → w.grownBy w' v.ownBlock → wpList P ops Q rest (a.put o.dst v') w') : wpList P ops Q (o :: rest) a w := by
  have h1' : ∀ u ∈ (List.range m).map U, u.oneCell' = true := by
    intro u hu
    obtain ⟨i, hi, rfl⟩ := List.mem_map.1 hu
    exact h1 i (List.mem_range.1 hi)
  rcases A with _ | ad
  · have hm0 : m = 0 := by
      rcases Nat.eq_zero_or_pos m with h0 | h0
      · exact h0
      · obtain ⟨b, off, h2, _⟩ := hr h0
        cases h2
    subst hm0
    refine wpList_plain hgd fun K hK => ?_
    have hrun := run_app_none (P := P) (w := w) (ty := o.type) ht hi hown c
    have hK' := hK _ _ (h v w (hown.ext fun i hi => by rw [if_pos (by omega)]) ⟨rfl, rfl, rfl, Nat.le_refl _, fun _ _ _ => rfl⟩)
    unfold Oper.wp
    simp only [execOp, ho, resolve, invoke, builtin, Sem.run_bind, Sem.run_pure, Result.andThen_ok, List.map_toArray, List.map_cons, List.map_nil, hs, hx, hrun]
    exact hK'
  · refine wpList_append_own w hgd s x t ho base e i z 1 bytes ht hi hz hsize hby hzs (by omega) v n _ hs hown ad m c ((List.range m).map U) hx (by simp) ?_ h1' h63 hbytes hbase ?_
    · intro j u hu
      have hj : j < m := by
        have := (List.getElem?_eq_some_iff.1 hu).1
        simpa using this
      obtain ⟨b, off, h2, _, h3⟩ := hr (by omega)
      injection h2 with h2
      subst h2
      have hu' : u = U j := by simpa [hj] using hu.symm
      subst hu'
      have e1 := h3 j hj
      unfold Addr.add
      split
      · rename_i hj0
        subst hj0
        exact e1
      · exact e1
    · intro v' w' g1 g2 _
      refine h v' w' ?_ g2
      unfold Mine
      rw [← map_append]
      exact g1

/-- append: as wp_app, and where the new row lies: in the old one's block, or in one that is new. -/
theorem wp_app_at {P : Program} {w : World} {ops : Array Oper} {rest : List Oper} {o : Oper} {a : Act} {Q : Exit → Act → World → Prop} (hgd : o.guard = none) (s x : Operand) (t : TypeId)
    (ho : o.op = .call { callee := .builtin .append, args := #[s, x], argTypes := #[t, t] })
    (base : Nat) (e : TypeId) (i : TypeInfo) (z : Value) (bytes : Nat) (ht : P.underlying t = some (.slice e)) (hi : P.info? e = some i) (hz : i.zero = some z)
    (hsize : i.size = 1) (hby : i.bytes = bytes) (hzs : z.cells.size = 1)
    (v : Value) (n : Nat) (V : Nat → Value) (hs : a.eval s = v) (hown : Mine w base e v n V)
    (A : Option Addr) (m c : Nat) (U : Nat → Value) (hx : a.eval x = .slice A m c) (hr : Row w A m U) (h1 : ∀ i, i < m → (U i).oneCell' = true)
    (h63 : n + m ≤ maxLen) (hbytes : (n + m) * bytes ≤ 140737488355328) (hbase : base ≤ w.heap.size)
    (h : ∀ v' w', Mine w' base e v' (n + m) (fun i => if i < n then V i else U (i - n)) → w.grownBy w' v.ownBlock → (v'.ownBlock = v.ownBlock ∨ v'.ownBlock = some w.heap.size) → wpList P ops Q rest (a.put o.dst v') w') : wpList P ops Q (o :: rest) a w := by
  have h1' : ∀ u ∈ (List.range m).map U, u.oneCell' = true := by
    intro u hu
    obtain ⟨i, hi, rfl⟩ := List.mem_map.1 hu
    exact h1 i (List.mem_range.1 hi)
  rcases A with _ | ad
  · have hm0 : m = 0 := by
      rcases Nat.eq_zero_or_pos m with h0 | h0
      · exact h0
      · obtain ⟨b, off, h2, _⟩ := hr h0
        cases h2
    subst hm0
    refine wpList_plain hgd fun K hK => ?_
    have hrun := run_app_none (P := P) (w := w) (ty := o.type) ht hi hown c
    have hK' := hK _ _ (h v w (hown.ext fun i hi => by rw [if_pos (by omega)]) ⟨rfl, rfl, rfl, Nat.le_refl _, fun _ _ _ => rfl⟩ (.inl rfl))
    unfold Oper.wp
    simp only [execOp, ho, resolve, invoke, builtin, Sem.run_bind, Sem.run_pure, Result.andThen_ok, List.map_toArray, List.map_cons, List.map_nil, hs, hx, hrun]
    exact hK'
  · refine wpList_append_own_at w hgd s x t ho base e i z 1 bytes ht hi hz hsize hby hzs (by omega) v n _ hs hown ad m c ((List.range m).map U) hx (by simp) ?_ h1' h63 hbytes hbase ?_
    · intro j u hu
      have hj : j < m := by
        have := (List.getElem?_eq_some_iff.1 hu).1
        simpa using this
      obtain ⟨b, off, h2, _, h3⟩ := hr (by omega)
      injection h2 with h2
      subst h2
      have hu' : u = U j := by simpa [hj] using hu.symm
      subst hu'
      have e1 := h3 j hj
      unfold Addr.add
      split
      · rename_i hj0
        subst hj0
        exact e1
      · exact e1
    · intro v' w' g1 g2 _ g4
      refine h v' w' ?_ g2 g4
      unfold Mine
      rw [← map_append]
      exact g1

/-- string(b): the bytes of a row. -/
def str (Z : Nat → Int) (n : Nat) : ByteArray := strOfNums ((List.range n).map Z)
theorem conv_string {P : Program} {w : World} {src dst e : TypeId} (hs : P.underlying src = some (.slice e)) (he : P.underlying e = some (.int .u8)) (hd : P.underlying dst = some .string)
    {A : Option Addr} {n c : Nat} {Z : Nat → Int} (h : Row w A n (fun i => .int .u8 (Z i))) : (convert src dst (.slice A n c)).run P w = .ok (.string (str Z n)) w := by
  rcases Nat.eq_zero_or_pos n with h0 | h0
  · subst h0
    rcases A with _ | ad
    · exact run_convert_bytes_nil w src e hs he 0 c dst hd
    · rw [run_convert_bytes_string w src dst e _ 0 c hs he hd, run_bytesToString w ad 0 c [] (by simp [loadCells, loadCellsFrom])]
      rfl
  · obtain ⟨b, off, rfl, _, h3⟩ := h h0
    exact run_convert_bytes_arg w src e hs he b off n c ((List.range n).map Z) (by simp) (fun i hi => by rw [h3 i hi]; simp [hi]) dst hd
theorem str_inj {Z Y : Nat → Int} {n m : Nat} (hz : ∀ i, 0 ≤ Z i ∧ Z i < 256) (hy : ∀ i, 0 ≤ Y i ∧ Y i < 256) (h : str Z n = str Y m) : n = m ∧ ∀ i, i < n → Z i = Y i := by
  have h1 := congrArg (fun s : ByteArray => s.data.toList) h
  simp only [str, strOfNums_data, List.map_map] at h1
  have hn : n = m := by
    have := congrArg List.length h1
    simpa using this
  subst hn
  refine ⟨rfl, fun i hi => ?_⟩
  have h2 := congrArg (fun l : List UInt8 => l[i]?) h1
  simp [hi] at h2
  have h3 := congrArg UInt8.toNat h2
  simp [UInt8.toNat_ofNat'] at h3
  have := hz i; have := hy i
  omega
theorem str_list_inj {Z Y : Nat → Int} {n m : Nat} (hz : ∀ i, 0 ≤ Z i ∧ Z i < 256) (hy : ∀ i, 0 ≤ Y i ∧ Y i < 256) (h : (str Z n).toList = (str Y m).toList) : n = m ∧ ∀ i, i < n → Z i = Y i :=
  str_inj hz hy (by
    rw [ByteArray.toList_eq, ByteArray.toList_eq] at h
    have : (str Z n).data = (str Y m).data := Array.toList_inj.1 h
    cases h1 : str Z n; cases h2 : str Y m
    rw [h1, h2] at this
    simp_all)
theorem str_congr {Z Y : Nat → Int} {n : Nat} (h : ∀ i, i < n → Z i = Y i) : str Z n = str Y n := by
  unfold str
  rw [List.map_congr_left fun i hi => h i (List.mem_range.1 hi)]
end Go.Proofs.Ytdpkiolngglpaaa.Lb
