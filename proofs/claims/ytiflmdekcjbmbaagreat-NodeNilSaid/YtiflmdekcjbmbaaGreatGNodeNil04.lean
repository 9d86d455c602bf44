/-
  My own words on slices that the call makes: append from whatever source that reads as a row; what is owned, as a block. Slices of structs that the call makes: elements of s cells each. Package queue (chapter 10): what waits, as a list; what each method makes of it. Many cells stored at once in the middle of a block that is known whole; a row's load in a region whose operations but the last ones only read.
-/
import Derived.Test.YtiflmdekcjbmbaaGreatGNodeNil01
import Derived.OwnWalk
import Derived.Laws.OwnMore
import Derived.Laws.AppendOwn
import Derived.Laws.BytesArg
import Derived.Maps.AppendAt
import Derived.Lib.Hide
import Derived.Deep.RegionHeld3
import Derived.BigQuiet
import Derived.Shelf.Bytes.SlClone
import Derived.Ground.SlbCloneProg
import Derived.Deep.MidRow
import Derived.StillTailTactics
namespace Go.Proofs.YtiflmdekcjbmbaaGreat.Lb
set_option linter.unusedVariables false
set_option linter.unusedSimpArgs false
open Go.RowKit

theorem info8 : (Tryz.prog.info? 5).map (fun i => (i.zero, i.size, i.bytes)) = some (some (.int .u8 0), 1, 1) := by kernel_rfl

/-- The slice v owns its row: n cells V 0, V 1, .., in a block of its own from base on. -/
def Mine (w : World) (base : Nat) (e : TypeId) (v : Value) (n : Nat) (V : Nat → Value) : Prop := w.ownsRow base e 1 v n ((List.range n).map V)

theorem Mine.ext {w : World} {base : Nat} {e : TypeId} {v : Value} {n : Nat} {V U : Nat → Value} (h : Mine w base e v n V) (hv : ∀ i, i < n → V i = U i) : Mine w base e v n U := by
  have : (List.range n).map V = (List.range n).map U := List.map_congr_left fun i hi => hv i (List.mem_range.1 hi)
  unfold Mine at h ⊢
  rw [← this]
  exact h
theorem Mine.nil (w : World) (base : Nat) (e : TypeId) (V : Nat → Value) : Mine w base e (.slice none 0 0) 0 V := ⟨rfl, .inl ⟨rfl, rfl⟩⟩
/-- An empty literal, 'make(.., 0, n)': a block of the call's own. -/
theorem Mine.made {w : World} {base b : Nat} {e : TypeId} {cs : Array Value} {n : Nat} {V : Nat → Value} (h : Own w b e cs) (hb : base ≤ b) (hm : cs.size ≤ maxLen) (hn : n ≤ cs.size) (hv : ∀ i, i < n → cs[i]? = some (V i)) :
    Mine w base e (.slice (some ⟨b, 0, none⟩) n cs.size) n V := by
  refine ⟨by simp, .inr ⟨b, cs.size, cs, rfl, hb, h, hn, hm, by simp, ?_⟩⟩
  apply List.ext_getElem?
  intro i
  rw [Nat.mul_one, List.getElem?_take]
  by_cases hi : i < n
  · rw [if_pos hi, Array.getElem?_toList, hv i hi]
    simp [hi]
  · rw [if_neg hi]
    simp [hi]
theorem made_list (z : Value) : ∀ n, (madeCells #[z] n).toList = (List.range n).map (fun _ => z) := by
  intro n
  rw [toList_madeCells_one]
  apply List.ext_getElem?
  intro i
  by_cases h : i < n
  · rw [List.getElem?_replicate, if_pos h]; simp [h]
  · rw [List.getElem?_replicate, if_neg h]; simp [h]
/-- 'make(.., n)' with a variable n: n zeros. -/
theorem Mine.full {w : World} {base : Nat} {e : TypeId} {v z : Value} {n : Nat} (h : w.ownsRow base e 1 v n (madeCells #[z] n).toList) : Mine w base e v n (fun _ => z) := by
  rw [made_list] at h
  exact h
/-- What is owned, as a block. -/
theorem Mine.block {w : World} {base : Nat} {e : TypeId} {v : Value} {n : Nat} {V : Nat → Value} (h : Mine w base e v n V) (hn : 0 < n) :
    ∃ b cs, v = .slice (some ⟨b, 0, none⟩) n cs.size ∧ base ≤ b ∧ Own w b e cs ∧ n ≤ cs.size ∧ cs.size ≤ maxLen ∧ ∀ i, i < n → cs[i]? = some (V i) := by
  obtain ⟨_, h2⟩ := h
  rcases h2 with ⟨_, h0⟩ | ⟨g, cap, cur, hv, hg, hh, hc, hm, hs, ht⟩
  · omega
  · rw [Nat.mul_one] at hs
    subst hs
    refine ⟨g, cur, hv, hg, hh, hc, hm, fun i hi => ?_⟩
    have e1 := congrArg (fun l : List Value => l[i]?) ht
    simp only [Nat.mul_one, List.getElem?_take, if_pos hi, Array.getElem?_toList] at e1
    rw [e1]
    simp [hi]
/-- What is owned, as a row. -/
theorem Mine.row {w : World} {base : Nat} {e : TypeId} {v : Value} {n : Nat} {V : Nat → Value} (h : Mine w base e v n V) : ∃ a c, v = .slice a n c ∧ n ≤ c ∧ c ≤ maxLen ∧ Row w a n V := by
  obtain ⟨_, h2⟩ := id h
  rcases h2 with ⟨hv, h0⟩ | ⟨g, cap, cur, hv, hg, hh, hc, hm, hs, ht⟩
  · subst h0
    exact ⟨none, 0, hv, by omega, by omega, Row.nil _ _ _⟩
  · refine ⟨_, _, hv, hc, hm, fun hn => ?_⟩
    obtain ⟨b, cs, hv', _, ho, _, _, hcs⟩ := Mine.block h hn
    rw [hv'] at hv
    injection hv with h1 _ _
    injection h1 with h1
    injection h1 with h1
    subst h1
    exact ⟨_, _, rfl, ho.lt, fun i hi => by rw [Nat.zero_add, ho.cell, hcs i hi]⟩
theorem Mine.rowAt {w : World} {base : Nat} {e : TypeId} {a : Option Addr} {n c : Nat} {V : Nat → Value} (h : Mine w base e (.slice a n c) n V) : Row w a n V := by
  obtain ⟨a', c', h1, _, _, h2⟩ := h.row
  injection h1 with h1 _ _
  rw [h1]
  exact h2
theorem Mine.at_ {w : World} {base b : Nat} {e : TypeId} {n c : Nat} {V : Nat → Value} (h : Mine w base e (.slice (some ⟨b, 0, none⟩) n c) n V) {j : Nat} (hj : j < n) :
    base ≤ b ∧ b < w.heap.size ∧ w.cell? ⟨b, j, none⟩ = some (V j) ∧ w.frozen? ⟨b, j, none⟩ = false := by
  obtain ⟨b', cs, hv, hb, ho, hn, hm, hcs⟩ := h.block (by omega)
  injection hv with h1 _ _
  injection h1 with h1
  injection h1 with h1
  subst h1
  exact ⟨hb, ho.lt, by rw [ho.cell, hcs j hj], ho.free j⟩
theorem Mine.store {w : World} {base b : Nat} {e : TypeId} {n c : Nat} {V : Nat → Value} (h : Mine w base e (.slice (some ⟨b, 0, none⟩) n c) n V) {j : Nat} (hj : j < n) (u : Value) :
    Mine (w.setCell ⟨b, j, none⟩ u) base e (.slice (some ⟨b, 0, none⟩) n c) n (fun i => if i = j then u else V i) := by
  obtain ⟨b', cs, hv, hb, ho, hn, hm, hcs⟩ := h.block (by omega)
  injection hv with h1 _ h3
  injection h1 with h1
  injection h1 with h1
  subst h1
  subst h3
  have hsz : (cs.setIfInBounds j u).size = cs.size := by simp
  have := Mine.made (base := base) (n := n) (V := fun i => if i = j then u else V i) (ho.put j u) hb (by rw [hsz]; exact hm) (by rw [hsz]; exact hn) (fun i hi => by
    rw [Array.getElem?_setIfInBounds]
    by_cases hij : j = i
    · subst hij
      rw [if_pos rfl, if_pos (by omega), if_pos rfl]
    · rw [if_neg hij, hcs i hi, if_neg (fun h => hij h.symm)])
  rw [hsz] at this
  exact this
theorem Mine.other {w : World} {base : Nat} {e : TypeId} {v : Value} {n : Nat} {V : Nat → Value} (h : Mine w base e v n V) {p : Addr} (hp : v.ownBlock ≠ some p.block) (u : Value) : Mine (w.setCell p u) base e v n V :=
  ownsRow_setCell_other h hp u
theorem Mine.kept {w w' : World} {base : Nat} {e : TypeId} {v : Value} {n : Nat} {V : Nat → Value} (h : Mine w base e v n V) (hk : ∀ b, base ≤ b → w'.heap[b]? = w.heap[b]? ∨ v.ownBlock ≠ some b) : Mine w' base e v n V := by
  obtain ⟨h1, h2⟩ := h
  refine ⟨h1, ?_⟩
  rcases h2 with h2 | ⟨g, cap, cur, hv, hg, hh, r⟩
  · exact .inl h2
  · refine .inr ⟨g, cap, cur, hv, hg, ?_, r⟩
    rcases hk g hg with e1 | e1
    · rw [e1]; exact hh
    · subst hv
      exact absurd rfl e1
theorem Mine.drewN {w : World} {base : Nat} {e : TypeId} {v : Value} {n : Nat} {V : Nat → Value} (h : Mine w base e v n V) (m : Nat) : Mine (w.drewN m) base e v n V := h
theorem Mine.alloc {w : World} {base : Nat} {e : TypeId} {v : Value} {n : Nat} {V : Nat → Value} (h : Mine w base e v n V) (o : Obj) : Mine (w.alloc o) base e v n V := World.ownsRow.alloc h o
theorem Mine.lt {w : World} {base : Nat} {e : TypeId} {v : Value} {n : Nat} {V : Nat → Value} (h : Mine w base e v n V) : ∀ k, v.ownBlock = some k → base ≤ k ∧ k < w.heap.size := World.ownsRow.lt h

theorem grown_own {w w' : World} {row : Option Nat} {b : Nat} {t : TypeId} {cs : Array Value} (hg : w.grownBy w' row) (h : Own w b t cs) (hr : row ≠ some b) : Own w' b t cs := (hg.block b h.lt (fun e => hr e.symm)).trans h
theorem Mine.just {w w' : World} {base g : Nat} {e : TypeId} {v : Value} {n : Nat} {V : Nat → Value} (h : Mine w base e v n V) (j : Just g w w') (hg : g < base) : Mine w' base e v n V :=
  h.kept (fun b hb => by
    by_cases hl : b < w.heap.size
    · exact .inl (j.block b hl (by omega))
    · exact .inr (fun e => by have := (h.lt b e).2; omega))
theorem map_append (n m : Nat) (V U : Nat → Value) : (List.range n).map V ++ (List.range m).map U = (List.range (n + m)).map (fun i => if i < n then V i else U (i - n)) := by
  apply List.ext_getElem?
  intro i
  rw [List.getElem?_append]
  simp only [List.length_map, List.length_range, List.getElem?_map]
  by_cases h : i < n
  · simp [h, show i < n + m by omega]
  · by_cases h2 : i < n + m
    · simp [h, h2, show i - n < m by omega]
    · simp [h, h2, show ¬ i - n < m by omega]

/-- append of nothing. -/
theorem run_app_none {P : Program} {w : World} {base : Nat} {t ty e : TypeId} {i : TypeInfo} (ht : P.underlying t = some (.slice e)) (hi : P.info? e = some i) {v : Value} {n : Nat} {V : Nat → Value} (hown : Mine w base e v n V) (c : Nat) :
    (Builtin.append_ #[t, t] ty #[v, .slice none 0 c]).run P w = .ok v w := by
  obtain ⟨_, h2⟩ := hown
  rcases h2 with ⟨rfl, rfl⟩ | ⟨g, cap, cur, rfl, _, _, hnc, _⟩
  · simp [Builtin.append_, run_underlying ht, sizeOf, typeInfo, hi, Builtin.lenOf, Builtin.firstCells]
  · simp [Builtin.append_, run_underlying ht, sizeOf, typeInfo, hi, Builtin.lenOf, Builtin.firstCells, hnc, storeCells]

/-- append: what is owned, with a row of whatever place behind it. -/
theorem wp_app {P : Program} {w : World} {ops : Array Oper} {rest : List Oper} {o : Oper} {a : Act} {Q : Exit → Act → World → Prop} (hgd : o.guard = none) (s x : Operand) (t : TypeId)
    (ho : o.op = .call { callee := .builtin .append, args := #[s, x], argTypes := #[t, t] })
    (base : Nat) (e : TypeId) (i : TypeInfo) (z : Value) (bytes : Nat) (ht : P.underlying t = some (.slice e)) (hi : P.info? e = some i) (hz : i.zero = some z)
    (hsize : i.size = 1) (hby : i.bytes = bytes) (hzs : z.cells.size = 1)
    (v : Value) (n : Nat) (V : Nat → Value) (hs : a.eval s = v) (hown : Mine w base e v n V)
    (A : Option Addr) (m c : Nat) (U : Nat → Value) (hx : a.eval x = .slice A m c) (hr : Row w A m U) (h1 : ∀ i, i < m → (U i).oneCell' = true)
    (h63 : n + m ≤ maxLen) (hbytes : (n + m) * bytes ≤ 140737488355328) (hbase : base ≤ w.heap.size)
    (h : ∀ v' w', Mine w' base e v' (n + m) (fun i => if i < n then V i else U (i - n)) → w.grownBy w' v.ownBlock → wpList P ops Q rest (a.put o.dst v') w') : wpList P ops Q (o :: rest) a w := by
  have h1' : ∀ u ∈ (List.range m).map U, u.oneCell' = true := by
    intro u hu
    obtain ⟨i, hi, rfl⟩ := List.mem_map.1 hu
    exact h1 i (List.mem_range.1 hi)
  rcases A with _ | ad
  · have hm0 : m = 0 := by
      rcases Nat.eq_zero_or_pos m with h0 | h0
      · exact h0
      · obtain ⟨b, off, h2, _⟩ := hr h0
        cases h2
    subst hm0
    refine wpList_plain hgd fun K hK => ?_
    have hrun := run_app_none (P := P) (w := w) (ty := o.type) ht hi hown c
    have hK' := hK _ _ (h v w (hown.ext fun i hi => by rw [if_pos (by omega)]) ⟨rfl, rfl, rfl, Nat.le_refl _, fun _ _ _ => rfl⟩)
    unfold Oper.wp
    simp only [execOp, ho, resolve, invoke, builtin, Sem.run_bind, Sem.run_pure, Result.andThen_ok, List.map_toArray, List.map_cons, List.map_nil, hs, hx, hrun]
    exact hK'
  · refine wpList_append_own w hgd s x t ho base e i z 1 bytes ht hi hz hsize hby hzs (by omega) v n _ hs hown ad m c ((List.range m).map U) hx (by simp) ?_ h1' h63 hbytes hbase ?_
    · intro j u hu
      have hj : j < m := by
        have := (List.getElem?_eq_some_iff.1 hu).1
        simpa using this
      obtain ⟨b, off, h2, _, h3⟩ := hr (by omega)
      injection h2 with h2
      subst h2
      have hu' : u = U j := by simpa [hj] using hu.symm
      subst hu'
      have e1 := h3 j hj
      unfold Addr.add
      split
      · rename_i hj0
        subst hj0
        exact e1
      · exact e1
    · intro v' w' g1 g2 _
      refine h v' w' ?_ g2
      unfold Mine
      rw [← map_append]
      exact g1

/-- append: as wp_app, and where the new row lies: in the old one's block, or in one that is new. -/
theorem wp_app_at {P : Program} {w : World} {ops : Array Oper} {rest : List Oper} {o : Oper} {a : Act} {Q : Exit → Act → World → Prop} (hgd : o.guard = none) (s x : Operand) (t : TypeId)
    (ho : o.op = .call { callee := .builtin .append, args := #[s, x], argTypes := #[t, t] })
    (base : Nat) (e : TypeId) (i : TypeInfo) (z : Value) (bytes : Nat) (ht : P.underlying t = some (.slice e)) (hi : P.info? e = some i) (hz : i.zero = some z)
    (hsize : i.size = 1) (hby : i.bytes = bytes) (hzs : z.cells.size = 1)
    (v : Value) (n : Nat) (V : Nat → Value) (hs : a.eval s = v) (hown : Mine w base e v n V)
    (A : Option Addr) (m c : Nat) (U : Nat → Value) (hx : a.eval x = .slice A m c) (hr : Row w A m U) (h1 : ∀ i, i < m → (U i).oneCell' = true)
    (h63 : n + m ≤ maxLen) (hbytes : (n + m) * bytes ≤ 140737488355328) (hbase : base ≤ w.heap.size)
    (h : ∀ v' w', Mine w' base e v' (n + m) (fun i => if i < n then V i else U (i - n)) → w.grownBy w' v.ownBlock → (v'.ownBlock = v.ownBlock ∨ v'.ownBlock = some w.heap.size) → wpList P ops Q rest (a.put o.dst v') w') : wpList P ops Q (o :: rest) a w := by
  have h1' : ∀ u ∈ (List.range m).map U, u.oneCell' = true := by
    intro u hu
    obtain ⟨i, hi, rfl⟩ := List.mem_map.1 hu
    exact h1 i (List.mem_range.1 hi)
  rcases A with _ | ad
  · have hm0 : m = 0 := by
      rcases Nat.eq_zero_or_pos m with h0 | h0
      · exact h0
      · obtain ⟨b, off, h2, _⟩ := hr h0
        cases h2
    subst hm0
    refine wpList_plain hgd fun K hK => ?_
    have hrun := run_app_none (P := P) (w := w) (ty := o.type) ht hi hown c
    have hK' := hK _ _ (h v w (hown.ext fun i hi => by rw [if_pos (by omega)]) ⟨rfl, rfl, rfl, Nat.le_refl _, fun _ _ _ => rfl⟩ (.inl rfl))
    unfold Oper.wp
    simp only [execOp, ho, resolve, invoke, builtin, Sem.run_bind, Sem.run_pure, Result.andThen_ok, List.map_toArray, List.map_cons, List.map_nil, hs, hx, hrun]
    exact hK'
  · refine wpList_append_own_at w hgd s x t ho base e i z 1 bytes ht hi hz hsize hby hzs (by omega) v n _ hs hown ad m c ((List.range m).map U) hx (by simp) ?_ h1' h63 hbytes hbase ?_
    · intro j u hu
      have hj : j < m := by
        have := (List.getElem?_eq_some_iff.1 hu).1
        simpa using this
      obtain ⟨b, off, h2, _, h3⟩ := hr (by omega)
      injection h2 with h2
      subst h2
      have hu' : u = U j := by simpa [hj] using hu.symm
      subst hu'
      have e1 := h3 j hj
      unfold Addr.add
      split
      · rename_i hj0
        subst hj0
        exact e1
      · exact e1
    · intro v' w' g1 g2 _ g4
      refine h v' w' ?_ g2 g4
      unfold Mine
      rw [← map_append]
      exact g1

/-- string(b): the bytes of a row. -/
def str (Z : Nat → Int) (n : Nat) : ByteArray := strOfNums ((List.range n).map Z)
theorem conv_string {P : Program} {w : World} {src dst e : TypeId} (hs : P.underlying src = some (.slice e)) (he : P.underlying e = some (.int .u8)) (hd : P.underlying dst = some .string)
    {A : Option Addr} {n c : Nat} {Z : Nat → Int} (h : Row w A n (fun i => .int .u8 (Z i))) : (convert src dst (.slice A n c)).run P w = .ok (.string (str Z n)) w := by
  rcases Nat.eq_zero_or_pos n with h0 | h0
  · subst h0
    rcases A with _ | ad
    · exact run_convert_bytes_nil w src e hs he 0 c dst hd
    · rw [run_convert_bytes_string w src dst e _ 0 c hs he hd, run_bytesToString w ad 0 c [] (by simp [loadCells, loadCellsFrom])]
      rfl
  · obtain ⟨b, off, rfl, _, h3⟩ := h h0
    exact run_convert_bytes_arg w src e hs he b off n c ((List.range n).map Z) (by simp) (fun i hi => by rw [h3 i hi]; simp [hi]) dst hd
theorem str_inj {Z Y : Nat → Int} {n m : Nat} (hz : ∀ i, 0 ≤ Z i ∧ Z i < 256) (hy : ∀ i, 0 ≤ Y i ∧ Y i < 256) (h : str Z n = str Y m) : n = m ∧ ∀ i, i < n → Z i = Y i := by
  have h1 := congrArg (fun s : ByteArray => s.data.toList) h
  simp only [str, strOfNums_data, List.map_map] at h1
  have hn : n = m := by
    have := congrArg List.length h1
    simpa using this
  subst hn
  refine ⟨rfl, fun i hi => ?_⟩
  have h2 := congrArg (fun l : List UInt8 => l[i]?) h1
  simp [hi] at h2
  have h3 := congrArg UInt8.toNat h2
  simp [UInt8.toNat_ofNat'] at h3
  have := hz i; have := hy i
  omega
theorem str_list_inj {Z Y : Nat → Int} {n m : Nat} (hz : ∀ i, 0 ≤ Z i ∧ Z i < 256) (hy : ∀ i, 0 ≤ Y i ∧ Y i < 256) (h : (str Z n).toList = (str Y m).toList) : n = m ∧ ∀ i, i < n → Z i = Y i :=
  str_inj hz hy (by
    rw [ByteArray.toList_eq, ByteArray.toList_eq] at h
    have : (str Z n).data = (str Y m).data := Array.toList_inj.1 h
    cases h1 : str Z n; cases h2 : str Y m
    rw [h1, h2] at this
    simp_all)
theorem str_congr {Z Y : Nat → Int} {n : Nat} (h : ∀ i, i < n → Z i = Y i) : str Z n = str Y n := by
  unfold str
  rw [List.map_congr_left fun i hi => h i (List.mem_range.1 hi)]
end Go.Proofs.YtiflmdekcjbmbaaGreat.Lb
namespace Go.Proofs.YtiflmdekcjbmbaaGreat.Lb
set_option linter.unusedVariables false
set_option linter.unusedSimpArgs false
open Go.RowKit

/-- The slice v owns its row: n elements of s cells each, V 0, V 1, .., in a block of its own from base on. -/
def MineK (w : World) (base : Nat) (e : TypeId) (s : Nat) (v : Value) (n : Nat) (V : Nat → Value) : Prop := w.ownsRow base e s v n ((List.range (n * s)).map V)

theorem MineK.ext {w : World} {base s : Nat} {e : TypeId} {v : Value} {n : Nat} {V U : Nat → Value} (h : MineK w base e s v n V) (hv : ∀ i, i < n * s → V i = U i) : MineK w base e s v n U := by
  have : (List.range (n * s)).map V = (List.range (n * s)).map U := List.map_congr_left fun i hi => hv i (List.mem_range.1 hi)
  unfold MineK at h ⊢
  rw [← this]
  exact h
theorem MineK.nil (w : World) (base : Nat) (e : TypeId) (s : Nat) (V : Nat → Value) : MineK w base e s (.slice none 0 0) 0 V := ⟨by simp, .inl ⟨rfl, rfl⟩⟩
theorem MineK.made {w : World} {base b s c : Nat} {e : TypeId} {cs : Array Value} {n : Nat} {V : Nat → Value} (h : Own w b e cs) (hb : base ≤ b) (hc : cs.size = c * s) (hm : c ≤ maxLen) (hn : n ≤ c) (hv : ∀ i, i < n * s → cs[i]? = some (V i)) :
    MineK w base e s (.slice (some ⟨b, 0, none⟩) n c) n V := by
  have hle : n * s ≤ cs.size := by rw [hc]; exact Nat.mul_le_mul_right s hn
  refine ⟨by simp, .inr ⟨b, c, cs, rfl, hb, h, hn, hm, hc, ?_⟩⟩
  apply List.ext_getElem?
  intro i
  rw [List.getElem?_take]
  by_cases hi : i < n * s
  · rw [if_pos hi, Array.getElem?_toList, hv i hi]
    simp [hi]
  · rw [if_neg hi]
    simp [hi]
theorem MineK.block {w : World} {base s : Nat} {e : TypeId} {v : Value} {n : Nat} {V : Nat → Value} (h : MineK w base e s v n V) (hn : 0 < n) :
    ∃ b c cs, v = .slice (some ⟨b, 0, none⟩) n c ∧ base ≤ b ∧ Own w b e cs ∧ n ≤ c ∧ c ≤ maxLen ∧ cs.size = c * s ∧ ∀ i, i < n * s → cs[i]? = some (V i) := by
  obtain ⟨_, h2⟩ := h
  rcases h2 with ⟨_, h0⟩ | ⟨g, cap, cur, hv, hg, hh, hc, hm, hs, ht⟩
  · omega
  · refine ⟨g, cap, cur, hv, hg, hh, hc, hm, hs, fun i hi => ?_⟩
    have e1 := congrArg (fun l : List Value => l[i]?) ht
    simp only [List.getElem?_take, if_pos hi, Array.getElem?_toList] at e1
    rw [e1]
    simp [hi]
theorem MineK.row {w : World} {base s : Nat} {e : TypeId} {v : Value} {n : Nat} {V : Nat → Value} (h : MineK w base e s v n V) : ∃ a c, v = .slice a n c ∧ n ≤ c ∧ c ≤ maxLen ∧ Row w a (n * s) V := by
  obtain ⟨_, h2⟩ := id h
  rcases h2 with ⟨hv, h0⟩ | ⟨g, cap, cur, hv, hg, hh, hc, hm, hs, ht⟩
  · subst h0
    exact ⟨none, 0, hv, by omega, by omega, by rw [Nat.zero_mul]; exact Row.nil _ _ _⟩
  · refine ⟨_, _, hv, hc, hm, fun hn => ?_⟩
    obtain ⟨b, c, cs, hv', _, ho, _, _, _, hcs⟩ := MineK.block h (Nat.pos_of_mul_pos_right hn)
    rw [hv'] at hv
    injection hv with h1 _ _
    injection h1 with h1
    injection h1 with h1
    subst h1
    exact ⟨_, _, rfl, ho.lt, fun i hi => by rw [Nat.zero_add, ho.cell, hcs i hi]⟩
theorem MineK.rowAt {w : World} {base s : Nat} {e : TypeId} {a : Option Addr} {n c : Nat} {V : Nat → Value} (h : MineK w base e s (.slice a n c) n V) : Row w a (n * s) V := by
  obtain ⟨a', c', h1, _, _, h2⟩ := h.row
  injection h1 with h1 _ _
  rw [h1]
  exact h2
theorem MineK.kept {w w' : World} {base s : Nat} {e : TypeId} {v : Value} {n : Nat} {V : Nat → Value} (h : MineK w base e s v n V) (hk : ∀ b, base ≤ b → w'.heap[b]? = w.heap[b]? ∨ v.ownBlock ≠ some b) : MineK w' base e s v n V := by
  obtain ⟨h1, h2⟩ := h
  refine ⟨h1, ?_⟩
  rcases h2 with h2 | ⟨g, cap, cur, hv, hg, hh, r⟩
  · exact .inl h2
  · refine .inr ⟨g, cap, cur, hv, hg, ?_, r⟩
    rcases hk g hg with e1 | e1
    · rw [e1]; exact hh
    · subst hv
      exact absurd rfl e1
theorem MineK.drewN {w : World} {base s : Nat} {e : TypeId} {v : Value} {n : Nat} {V : Nat → Value} (h : MineK w base e s v n V) (m : Nat) : MineK (w.drewN m) base e s v n V := h
theorem MineK.alloc {w : World} {base s : Nat} {e : TypeId} {v : Value} {n : Nat} {V : Nat → Value} (h : MineK w base e s v n V) (o : Obj) : MineK (w.alloc o) base e s v n V := World.ownsRow.alloc h o
theorem MineK.lt {w : World} {base s : Nat} {e : TypeId} {v : Value} {n : Nat} {V : Nat → Value} (h : MineK w base e s v n V) : ∀ k, v.ownBlock = some k → base ≤ k ∧ k < w.heap.size := World.ownsRow.lt h
theorem MineK.below {w w' : World} {base s : Nat} {e : TypeId} {v : Value} {n : Nat} {V : Nat → Value} (h : MineK w base e s v n V) (hb : Below w.heap.size w w') : MineK w' base e s v n V :=
  h.kept fun b _ => by
    by_cases hl : b < w.heap.size
    · exact .inl (hb.block b hl)
    · exact .inr (fun e => by have := (h.lt b e).2; omega)
theorem mapK_append (n m s : Nat) (V U : Nat → Value) : (List.range (n * s)).map V ++ (List.range (m * s)).map U = (List.range ((n + m) * s)).map (fun i => if i < n * s then V i else U (i - n * s)) := by
  rw [map_append, Nat.add_mul]

/-- append: what is owned, with a row of whatever place behind it. -/
theorem run_appK {P : Program} {w : World} (t ty : TypeId) (base : Nat) (e : TypeId) (i : TypeInfo) (z : Value) (k bytes : Nat) (ht : P.underlying t = some (.slice e)) (hi : P.info? e = some i) (hz : i.zero = some z)
    (hsize : i.size = k) (hby : i.bytes = bytes) (hzs : z.cells.size = k) (hk : 0 < k)
    (v : Value) (n : Nat) (V : Nat → Value) (hown : MineK w base e k v n V)
    (A : Option Addr) (m c : Nat) (U : Nat → Value) (hr : Row w A (m * k) U) (h1 : ∀ i, i < m * k → (U i).oneCell' = true)
    (h63 : n + m ≤ maxLen) (hbytes : (n + m) * bytes ≤ 140737488355328) (hbase : base ≤ w.heap.size) :
    ∃ v' w', (Builtin.append_ #[t, t] ty #[v, .slice A m c]).run P w = .ok v' w' ∧ MineK w' base e k v' (n + m) (fun i => if i < n * k then V i else U (i - n * k)) ∧ w.grownBy w' v.ownBlock ∧ (v'.ownBlock = v.ownBlock ∨ v'.ownBlock = some w.heap.size) := by
  have h1' : ∀ u ∈ (List.range (m * k)).map U, u.oneCell' = true := by
    intro u hu
    obtain ⟨i, hi, rfl⟩ := List.mem_map.1 hu
    exact h1 i (List.mem_range.1 hi)
  rcases A with _ | ad
  · have hm0 : m = 0 := by
      rcases Nat.eq_zero_or_pos m with h0 | h0
      · exact h0
      · obtain ⟨b, off, h2, _⟩ := hr (Nat.mul_pos h0 hk)
        cases h2
    subst hm0
    have hrun : (Builtin.append_ #[t, t] ty #[v, .slice none 0 c]).run P w = .ok v w := by
      obtain ⟨_, h2⟩ := id hown
      rcases h2 with ⟨rfl, rfl⟩ | ⟨g, cap, cur, rfl, _, _, hnc, _⟩
      · simp [Builtin.append_, run_underlying ht, sizeOf, typeInfo, hi, Builtin.lenOf, Builtin.firstCells]
      · simp [Builtin.append_, run_underlying ht, sizeOf, typeInfo, hi, Builtin.lenOf, Builtin.firstCells, hnc, storeCells]
    exact ⟨v, w, hrun, hown.ext fun i hi => by rw [if_pos hi], ⟨rfl, rfl, rfl, Nat.le_refl _, fun _ _ _ => rfl⟩, .inl rfl⟩
  · obtain ⟨v', w', hrun, g1, g2, _, g4⟩ := run_append_own_at (P := P) w base t ty e i z k bytes ht hi hz hsize hby hzs hk v n _ hown ad m c ((List.range (m * k)).map U) (by simp) (by
      intro j u hu
      have hj : j < m * k := by
        have := (List.getElem?_eq_some_iff.1 hu).1
        simpa using this
      obtain ⟨b, off, h2, _, h3⟩ := hr (by omega)
      injection h2 with h2
      subst h2
      have hu' : u = U j := by simpa [hj] using hu.symm
      subst hu'
      have e1 := h3 j hj
      unfold Addr.add
      split
      · rename_i hj0
        subst hj0
        exact e1
      · exact e1) h1' h63 hbytes hbase
    refine ⟨v', w', hrun, ?_, g2, g4⟩
    unfold MineK
    rw [← mapK_append]
    exact g1
theorem op_appK {P : Program} {w : World} {o : Oper} {a : Act} {K : Act → World → Prop} {Q : Exit → Act → World → Prop} (s x : Operand) (t : TypeId)
    (ho : o.op = .call { callee := .builtin .append, args := #[s, x], argTypes := #[t, t] })
    (base : Nat) (e : TypeId) (i : TypeInfo) (z : Value) (k bytes : Nat) (ht : P.underlying t = some (.slice e)) (hi : P.info? e = some i) (hz : i.zero = some z)
    (hsize : i.size = k) (hby : i.bytes = bytes) (hzs : z.cells.size = k) (hk : 0 < k)
    (v : Value) (n : Nat) (V : Nat → Value) (hs : a.eval s = v) (hown : MineK w base e k v n V)
    (A : Option Addr) (m c : Nat) (U : Nat → Value) (hx : a.eval x = .slice A m c) (hr : Row w A (m * k) U) (h1 : ∀ i, i < m * k → (U i).oneCell' = true)
    (h63 : n + m ≤ maxLen) (hbytes : (n + m) * bytes ≤ 140737488355328) (hbase : base ≤ w.heap.size)
    (h : ∀ v' w', MineK w' base e k v' (n + m) (fun i => if i < n * k then V i else U (i - n * k)) → w.grownBy w' v.ownBlock → (v'.ownBlock = v.ownBlock ∨ v'.ownBlock = some w.heap.size) → K (a.put o.dst v') w') : o.wp P a w K Q := by
  obtain ⟨v', w', hr, h2, h3, h4⟩ := run_appK (P := P) (w := w) t o.type base e i z k bytes ht hi hz hsize hby hzs hk v n V hown A m c U hr h1 h63 hbytes hbase
  unfold Oper.wp execOp
  simp only [ho, resolve, invoke, builtin, Sem.run_bind, Sem.run_pure, Result.andThen_ok, List.map_toArray, List.map_cons, List.map_nil, hs, hx, hr]
  exact h v' w' h2 h3 h4
/-- In a plain region's list. -/
theorem wp_appK {P : Program} {w : World} {ops : Array Oper} {rest : List Oper} {o : Oper} {a : Act} {Q : Exit → Act → World → Prop} (hgd : o.guard = none) (s x : Operand) (t : TypeId)
    (ho : o.op = .call { callee := .builtin .append, args := #[s, x], argTypes := #[t, t] })
    (base : Nat) (e : TypeId) (i : TypeInfo) (z : Value) (k bytes : Nat) (ht : P.underlying t = some (.slice e)) (hi : P.info? e = some i) (hz : i.zero = some z)
    (hsize : i.size = k) (hby : i.bytes = bytes) (hzs : z.cells.size = k) (hk : 0 < k)
    (v : Value) (n : Nat) (V : Nat → Value) (hs : a.eval s = v) (hown : MineK w base e k v n V)
    (A : Option Addr) (m c : Nat) (U : Nat → Value) (hx : a.eval x = .slice A m c) (hr : Row w A (m * k) U) (h1 : ∀ i, i < m * k → (U i).oneCell' = true)
    (h63 : n + m ≤ maxLen) (hbytes : (n + m) * bytes ≤ 140737488355328) (hbase : base ≤ w.heap.size)
    (h : ∀ v' w', MineK w' base e k v' (n + m) (fun i => if i < n * k then V i else U (i - n * k)) → w.grownBy w' v.ownBlock → (v'.ownBlock = v.ownBlock ∨ v'.ownBlock = some w.heap.size) → wpList P ops Q rest (a.put o.dst v') w') : wpList P ops Q (o :: rest) a w :=
  wpList_plain hgd fun _ hK => op_appK s x t ho base e i z k bytes ht hi hz hsize hby hzs hk v n V hs hown A m c U hx hr h1 h63 hbytes hbase fun v' w' h2 h3 h4 => hK _ _ (h v' w' h2 h3 h4)
/-- At a step of a region that draws its order. -/
theorem step_appK {P : Program} {w : World} {ops : Array Oper} {o : Oper} {a : Act} {K : Act → World → Prop} {Q : Exit → Act → World → Prop} {E : Prop} (hgd : o.guard = none) (s x : Operand) (t : TypeId)
    (ho : o.op = .call { callee := .builtin .append, args := #[s, x], argTypes := #[t, t] })
    (base : Nat) (e : TypeId) (i : TypeInfo) (z : Value) (k bytes : Nat) (ht : P.underlying t = some (.slice e)) (hi : P.info? e = some i) (hz : i.zero = some z)
    (hsize : i.size = k) (hby : i.bytes = bytes) (hzs : z.cells.size = k) (hk : 0 < k)
    (v : Value) (n : Nat) (V : Nat → Value) (hs : a.eval s = v) (hown : MineK w base e k v n V)
    (A : Option Addr) (m c : Nat) (U : Nat → Value) (hx : a.eval x = .slice A m c) (hr : Row w A (m * k) U) (h1 : ∀ i, i < m * k → (U i).oneCell' = true)
    (h63 : n + m ≤ maxLen) (hbytes : (n + m) * bytes ≤ 140737488355328) (hbase : base ≤ w.heap.size)
    (h : ∀ v' w', MineK w' base e k v' (n + m) (fun i => if i < n * k then V i else U (i - n * k)) → w.grownBy w' v.ownBlock → (v'.ownBlock = v.ownBlock ∨ v'.ownBlock = some w.heap.size) → K (a.put o.dst v') w') :
    if Region.wanted o (yielded ops a.tmps) = true then Oper.wp P o a w K Q else E := by
  have hw : Region.wanted o (yielded ops a.tmps) = true := by simp [Region.wanted, hgd]
  rw [if_pos hw]
  exact op_appK s x t ho base e i z k bytes ht hi hz hsize hby hzs hk v n V hs hown A m c U hx hr h1 h63 hbytes hbase h
end Go.Proofs.YtiflmdekcjbmbaaGreat.Lb
set_option maxRecDepth 100000
namespace Go.Proofs.YtiflmdekcjbmbaaGreat.Qu
set_option linter.unusedVariables false
set_option linter.unusedSimpArgs false
open Go.RowKit Lb Go.Shelf

/-- One that waits: to whom, the slice, how many bytes, which. -/
structure It where
  to : Int
  v : Value
  n : Nat
  Z : Nat → Int
instance : Inhabited It := ⟨⟨0, .slice none 0 0, 0, fun _ => 0⟩⟩
/-- The slice's bytes: nil, or a row in a block of bytes. -/
def Bs (w : World) (v : Value) (n : Nat) (Z : Nat → Int) : Prop :=
  (v = .slice none 0 0 ∧ n = 0) ∨ ∃ g off c cs, v = .slice (some ⟨g, off, none⟩) n c ∧ Own w g 5 cs ∧ n ≤ c ∧ c ≤ maxLen ∧ ∀ i, i < n → cs[off + i]? = some (.int .u8 (Z i))
theorem Bs.row {w : World} {v : Value} {n : Nat} {Z : Nat → Int} (h : Bs w v n Z) : ∃ a c, v = .slice a n c ∧ n ≤ c ∧ c ≤ maxLen ∧ Row w a n (fun i => .int .u8 (Z i)) ∧ (a = none → n = 0 ∧ c = 0) := by
  rcases h with ⟨rfl, rfl⟩ | ⟨g, off, c, cs, rfl, ho, h1, h2, h3⟩
  · exact ⟨none, 0, rfl, Nat.le_refl _, Nat.zero_le _, Row.nil _ _ _, fun _ => ⟨rfl, rfl⟩⟩
  · exact ⟨_, c, rfl, h1, h2, fun _ => ⟨g, off, rfl, ho.lt, fun i hi => by rw [ho.cell, h3 i hi]⟩, fun e => by cases e⟩
theorem Bs.just {w w' : World} {v : Value} {n b : Nat} {Z : Nat → Int} {t : TypeId} {cs : Array Value} (h : Bs w v n Z) (j : Just b w w') (ho : Own w b t cs) (ht : t ≠ 5) : Bs w' v n Z := by
  rcases h with h | ⟨g, off, c, cs', hv, ho', r⟩
  · exact .inl h
  · refine .inr ⟨g, off, c, cs', hv, j.own ho' (fun e => ?_), r⟩
    subst e
    unfold Own at ho ho'
    rw [ho] at ho'
    injection ho' with e
    injection e with _ e _
    exact ht e
theorem Bs.below {w w' : World} {v : Value} {n : Nat} {Z : Nat → Int} (h : Bs w v n Z) (b : Below w.heap.size w w') : Bs w' v n Z := by
  rcases h with h | ⟨g, off, c, cs', hv, ho', r⟩
  · exact .inl h
  · exact .inr ⟨g, off, c, cs', hv, below_own b ho' ho'.lt, r⟩
/-- The cells of a row of items. -/
def iv (l : List It) (j : Nat) : Value := if j % 2 = 0 then .int .i64 (l.getD (j / 2) default).to else (l.getD (j / 2) default).v
theorem iv_at (l : List It) (k : Nat) : iv l (k * 2) = .int .i64 (l.getD k default).to ∧ iv l (k * 2 + 1) = (l.getD k default).v := by
  unfold iv
  rw [if_pos (by omega), if_neg (by omega), show k * 2 / 2 = k by omega, show (k * 2 + 1) / 2 = k by omega]
  exact ⟨rfl, rfl⟩
/-- The queue in block b: so much room, so many that found none, what waits. -/
structure Que (w : World) (base b : Nat) (most lost : Int) (l : List It) (v : Value) : Prop where
  own : Own w b 220 #[.int .i64 most, .int .i64 lost, v]
  row : MineK w base 229 2 v l.length (iv l)
  bytes : ∀ x ∈ l, Bs w x.v x.n x.Z
  low : base ≤ b
theorem Que.c0 {w : World} {base b : Nat} {most lost : Int} {l : List It} {v : Value} (h : Que w base b most lost l v) : w.cell? ⟨b, 0, none⟩ = some (.int .i64 most) := h.own.cell 0
theorem Que.c1 {w : World} {base b : Nat} {most lost : Int} {l : List It} {v : Value} (h : Que w base b most lost l v) : w.cell? ⟨b, 1, none⟩ = some (.int .i64 lost) := h.own.cell 1
theorem Que.c2 {w : World} {base b : Nat} {most lost : Int} {l : List It} {v : Value} (h : Que w base b most lost l v) : w.cell? ⟨b, 2, none⟩ = some v := h.own.cell 2
theorem Que.below {w w' : World} {base b : Nat} {most lost : Int} {l : List It} {v : Value} (h : Que w base b most lost l v) (j : Below w.heap.size w w') : Que w' base b most lost l v where
  own := below_own j h.own h.own.lt
  row := h.row.below j
  bytes x hx := (h.bytes x hx).below j
  low := h.low
theorem new_any (x : Int) (w : World) :
    Calls Tryz.prog 119 #[.int .i64 x] w fun r w' => r = .returned (.pointer (some ⟨w.heap.size, 0, none⟩)) ∧ Que w' w.heap.size w.heap.size (min (max x 1) 32) 0 [] (.slice none 0 0) ∧ Below w.heap.size w w' ∧ w.heap.size < w'.heap.size := by
  have ho := Own.new w 220 #[.int .i64 (min (max x 1) 32), .int .i64 0, .slice none 0 0]
  have hb := (Below.refl w.heap.size w).alloc (Nat.le_refl _) (.cells #[.int .i64 (min (max x 1) 32), .int .i64 0, .slice none 0 0] 220)
  have hs : w.heap.size < (w.alloc (.cells #[.int .i64 (min (max x 1) 32), .int .i64 0, .slice none 0 0] 220)).heap.size := by simp
  go_enter Tryz.func119, Tryz.ntmps119
  go_wp2_with fail
  go_ret
  exact ⟨rfl, ⟨ho, MineK.nil _ _ _ _ _, fun x hx => by simp at hx, Nat.le_refl _⟩, hb, hs⟩
theorem len_any (base b : Nat) (most lost : Int) (l : List It) (v : Value) (w : World) (h : Que w base b most lost l v) :
    Calls Tryz.prog 103 #[.pointer (some ⟨b, 0, none⟩)] w fun r w' => r = .returned (.int .i64 (l.length : Int)) ∧ w = w' := by
  obtain ⟨a, c, rfl, h1, h2, _⟩ := h.row.row
  have c2 := h.c2
  unfold maxLen at h2
  go_enter Tryz.func103, Tryz.ntmps103
  go_wp2_with fail
  go_ret
  exact ⟨rfl, rfl⟩
theorem len_nil (w : World) : Calls Tryz.prog 103 #[.pointer none] w fun r w' => r = .returned (.int .i64 0) ∧ w = w' := by
  go_enter Tryz.func103, Tryz.ntmps103
  go_wp2_with fail
  go_ret
  exact ⟨rfl, rfl⟩
def hasB (n : Nat) (i : Int) : Bool := decide (0 ≤ i ∧ i < (n : Int))
theorem has_any (base b : Nat) (most lost : Int) (l : List It) (v : Value) (i : Int) (w : World) (h : Que w base b most lost l v) :
    Calls Tryz.prog 178 #[.pointer (some ⟨b, 0, none⟩), .int .i64 i] w fun r w' => r = .returned (.bool (hasB l.length i)) ∧ w = w' := by
  obtain ⟨a, c, rfl, h1, h2, _⟩ := h.row.row
  have c2 := h.c2
  unfold maxLen at h2
  by_cases i0 : 0 ≤ i
  · by_cases i1 : i < (l.length : Int)
    · have HD : Hid (hasB l.length i = true) := Lib.hid (by simp [hasB, i0, i1])
      go_enter Tryz.func178, Tryz.ntmps178
      go_wp2_with fail
      go_ret
      exact ⟨by rw [HD.out]; rfl, rfl⟩
    · have HD : Hid (hasB l.length i = false) := Lib.hid (by simp [hasB]; omega)
      have g1 : decide (i < (l.length : Int)) = false := by simp; omega
      clear i1
      go_enter Tryz.func178, Tryz.ntmps178
      go_wp2_with fail
      go_ret
      exact ⟨by rw [HD.out]; rfl, rfl⟩
  · have HD : Hid (hasB l.length i = false) := Lib.hid (by simp [hasB]; omega)
    have g1 : decide (0 ≤ i) = false := by simp; omega
    clear i0
    go_enter Tryz.func178, Tryz.ntmps178
    go_wp2_with fail
    go_ret
    exact ⟨by rw [HD.out]; rfl, rfl⟩
theorem has_nil (i : Int) (w : World) : Calls Tryz.prog 178 #[.pointer none, .int .i64 i] w fun r w' => r = .returned (.bool false) ∧ w = w' := by
  go_enter Tryz.func178, Tryz.ntmps178
  go_wp2_with fail
  go_ret
  exact ⟨rfl, rfl⟩
def cloneL_ren : Go.Shelf.Ren := ⟨fun | 4 => 179 | n => n, fun | 22 => 35 | 4 => 4 | 5 => 5 | n => n, fun | n => n⟩
theorem cloneL : Go.Proofs.SlLaysK.n4 Tryz.prog cloneL_ren := {
  mixed := by kernel_rfl
  f4 := Tryz.func179.trans (congrArg some (by kernel_rfl))
  t4 := Tryz.underlying4
  a4 := Tryz.isAgg4
  z4 := Tryz.sizeOf4
  v4 := Tryz.zeroValue4
  t22 := Tryz.underlying35
  a22 := Tryz.isAgg35
  z22 := Tryz.sizeOf35
  v22 := Tryz.zeroValue35
  t5 := Tryz.underlying5
  i5 := by kernel_rfl }
theorem clone_any (a : Option Addr) (n c : Nat) (Z : Nat → Int) (w : World) (hn : n ≤ c) (hc : n ≤ 140737488355328) (hR : Row w a n (fun i => .int .u8 (Z i))) (ha : a = none → n = 0) :
    Calls Tryz.prog 179 #[.slice a n c] w fun r w' => ∃ v, r = .returned v ∧ Bs w' v n Z ∧ Below w.heap.size w w' := by
  have hmap : ((List.range n).map Z).map (Value.int .u8) = (List.range n).map (fun i => .int .u8 (Z i)) := by rw [List.map_map]; rfl
  cases a with
  | none =>
    have hcon := Any.bytes_Clone_nil cloneL n c w
    refine Calls.mono hcon ?_
    rintro r w' ⟨rfl, rfl⟩
    exact ⟨_, rfl, .inl ⟨rfl, ha rfl⟩, Below.refl _ _⟩
  | some p =>
    have hcon := Any.bytes_Clone_at cloneL p n c ((List.range n).map Z) w (by simp) hc (fun i hi => by
      obtain ⟨b, off, hp, _, h3⟩ := hR.at_ hi
      injection hp with hp
      subst hp
      rw [Addr.add_lit, h3]
      simp [hi])
    refine Calls.mono hcon ?_
    rintro r w' ⟨v, rfl, hown, hne, hb⟩
    refine ⟨v, rfl, ?_, hb⟩
    rw [hmap] at hown
    obtain ⟨_, h2⟩ := hown
    rcases h2 with ⟨hv, _⟩ | ⟨g, cap, cur, hv, hg, hh, hc, hm, hs, ht⟩
    · exact absurd hv hne
    · refine .inr ⟨g, 0, cap, cur, hv, hh, hc, hm, fun i hi => ?_⟩
      have e1 := congrArg (fun l : List Value => l[i]?) ht
      simp only [Nat.mul_one, List.getElem?_take, if_pos hi, Array.getElem?_toList] at e1
      rw [Nat.zero_add, e1]
      simp [hi]
end Go.Proofs.YtiflmdekcjbmbaaGreat.Qu
set_option maxRecDepth 100000
namespace Go.Proofs.YtiflmdekcjbmbaaGreat.Lb
set_option linter.unusedVariables false
set_option linter.unusedSimpArgs false
open Go.RowKit

def putL (V : Nat → Value) : Nat → List Value → Nat → Value
  | _, [] => V
  | o, v :: vs => putL (fun j => if j = o then v else V j) (o + 1) vs
theorem putL_at : ∀ (vs : List Value) (V : Nat → Value) (o j : Nat), putL V o vs j = if o ≤ j ∧ j < o + vs.length then vs.getD (j - o) undef else V j
  | [], V, o, j => by
    unfold putL
    rw [if_neg (by simp)]
  | v :: vs, V, o, j => by
    unfold putL
    rw [putL_at vs]
    by_cases h1 : o + 1 ≤ j ∧ j < o + 1 + vs.length
    · rw [if_pos h1, if_pos ⟨by omega, by simp only [List.length_cons]; omega⟩, show j - o = (j - (o + 1)) + 1 by omega]
      rfl
    · rw [if_neg h1]
      by_cases h2 : j = o
      · subst h2
        rw [if_pos rfl, if_pos ⟨Nat.le_refl _, by simp⟩]
        simp
      · rw [if_neg h2, if_neg (by simp only [List.length_cons]; omega)]
theorem Blk.puts {b : Nat} {t : TypeId} {n : Nat} : ∀ (vs : List Value) {w : World} {V : Nat → Value} (o : Nat), Blk w b t n V → Blk (w.setCells b o vs) b t n (putL V o vs)
  | [], _, _, _, h => h
  | v :: vs, _, _, o, h => Blk.puts vs (o + 1) (Blk.put h o v)
theorem Just.puts (b : Nat) : ∀ (vs : List Value) (w : World) (o : Nat), Just b w (w.setCells b o vs)
  | [], w, _ => Just.refl b w
  | v :: vs, w, o => (Just.set b w o v).trans (Just.puts b vs _ (o + 1))
theorem Blk.apart {w : World} {b : Nat} {t : TypeId} {n : Nat} {V : Nat → Value} (h : Blk w b t n V) {p : Addr} (hp : b ≠ p.block) (u : Value) : Blk (w.setCell p u) b t n V := Own.apart h hp u
theorem Blk.there {w : World} {b : Nat} {t : TypeId} {n : Nat} {V : Nat → Value} (h : Blk w b t n V) {o m : Nat} (hm : o + m ≤ n) : w.there b o m := fun j hj =>
  ⟨by rw [h.cell (by omega)]; rfl, h.free _⟩
theorem ofn_cells (F : Nat → Value) (n : Nat) (h : ∀ i, (F i).oneCell' = true) : (Array.ofFn (n := n) fun i => F i).all (·.oneCell') = true := by
  rw [Array.all_eq_true]
  intro i hi
  simp only [Array.getElem_ofFn]
  exact h _

theorem still_load {P : Program} {ops : Array Oper} {w : World} {o : Oper} {a : Act} {rest : List Oper} {Q : Act → Prop} {x : Operand} {ty : TypeId} {g : Nat} {t : TypeId} {cs : Array Value} {fr : Nat × Nat} {d : TypeDesc}
    (hgd : o.guard = none) (ho : o.op = .load ty x) (hx : a.eval x = .pointer (some ⟨g, 0, none⟩)) (hg : w.heap[g]? = some (.cells cs t fr))
    (hu : P.underlying ty = some d) (hd : (match d with | .struct _ | .array _ _ => true | _ => false) = true) (hi : (P.info? ty).map (·.size) = some cs.size)
    (h : wpStill P ops w Q rest (a.put o.dst (.agg cs))) : wpStill P ops w Q (o :: rest) a := by
  have hw : Region.wanted o (yielded ops a.tmps) = true := by simp [Region.wanted, hgd]
  unfold wpStill
  rw [if_pos hw]
  have hrun : (execOp a.eval o).run P w = .ok (.value (.agg cs)) w := by
    unfold execOp
    simp only [ho, hx, Instr.loadAt, Instr.sureAddr, Sem.run_bind, Sem.run_pure, Result.andThen_ok, run_loadVar_row w g t ty cs fr d hg hu hd hi]
  unfold Oper.still
  rw [hrun, Oper.stillUpon_value]
  exact h
end Go.Proofs.YtiflmdekcjbmbaaGreat.Lb
