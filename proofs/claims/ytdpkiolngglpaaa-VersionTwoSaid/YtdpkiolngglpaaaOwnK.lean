/-
  Slices of structs that the call makes: elements of s cells each.
-/
import Derived.Test.YtdpkiolngglpaaaOwn
namespace Go.Proofs.Ytdpkiolngglpaaa.Lb
set_option linter.unusedVariables false
set_option linter.unusedSimpArgs false
open Go.RowKit

/-- The slice v owns its row: n elements of s cells each, V 0, V 1, .., in a block of its own from base on. -/
def MineK (w : World) (base : Nat) (e : TypeId) (s : Nat) (v : Value) (n : Nat) (V : Nat → Value) : Prop := w.ownsRow base e s v n ((List.range (n * s)).map V)

theorem MineK.ext {w : World} {base s : Nat} {e : TypeId} {v : Value} {n : Nat} {V U : Nat → Value} (h : MineK w base e s v n V) (hv : ∀ i, i < n * s → V i = U i) : MineK w base e s v n U := by
  have : (List.range (n * s)).map V = (List.range (n * s)).map U := List.map_congr_left fun i hi => hv i (List.mem_range.1 hi)
  unfold MineK at h ⊢
  rw [← this]
  exact h
theorem MineK.nil (w : World) (base : Nat) (e : TypeId) (s : Nat) (V : Nat → Value) : MineK w base e s (.slice none 0 0) 0 V := ⟨by simp, .inl ⟨rfl, rfl⟩⟩
theorem MineK.made {w : World} {base b s c : Nat} {e : TypeId} {cs : Array Value} {n : Nat} {V : Nat → Value} (h : Own w b e cs) (hb : base ≤ b) (hc : cs.size = c * s) (hm : c ≤ maxLen) (hn : n ≤ c) (hv : ∀ i, i < n * s → cs[i]? = some (V i)) :
    MineK w base e s (.slice (some ⟨b, 0, none⟩) n c) n V := by
  have hle : n * s ≤ cs.size := by rw [hc]; exact Nat.mul_le_mul_right s hn
  refine ⟨by simp, .inr ⟨b, c, cs, rfl, hb, h, hn, hm, hc, ?_⟩⟩
  apply List.ext_getElem?
  intro i
  rw [List.getElem?_take]
  by_cases hi : i < n * s
  · rw [if_pos hi, Array.getElem?_toList, hv i hi]
    simp [hi]
  · rw [if_neg hi]
    simp [hi]
theorem MineK.block {w : World} {base s : Nat} {e : TypeId} {v : Value} {n : Nat} {V : Nat → Value} (h : MineK w base e s v n V) (hn : 0 < n) :
    ∃ b c cs, v = .slice (some ⟨b, 0, none⟩) n c ∧ base ≤ b ∧ Own w b e cs ∧ n ≤ c ∧ c ≤ maxLen ∧ cs.size = c * s ∧ ∀ i, i < n * s → cs[i]? = some (V i) := by
  obtain ⟨_, h2⟩ := h
  rcases h2 with ⟨_, h0⟩ | ⟨g, cap, cur, hv, hg, hh, hc, hm, hs, ht⟩
  · omega
  · refine ⟨g, cap, cur, hv, hg, hh, hc, hm, hs, fun i hi => ?_⟩
    have e1 := congrArg (fun l : List Value => l[i]?) ht
    simp only [List.getElem?_take, if_pos hi, Array.getElem?_toList] at e1
    rw [e1]
    simp [hi]
theorem MineK.row {w : World} {base s : Nat} {e : TypeId} {v : Value} {n : Nat} {V : Nat → Value} (h : MineK w base e s v n V) : ∃ a c, v = .slice a n c ∧ n ≤ c ∧ c ≤ maxLen ∧ Row w a (n * s) V := by
  obtain ⟨_, h2⟩ := id h
  rcases h2 with ⟨hv, h0⟩ | ⟨g, cap, cur, hv, hg, hh, hc, hm, hs, ht⟩
  · subst h0
    exact ⟨none, 0, hv, by omega, by omega, by rw [Nat.zero_mul]; exact Row.nil _ _ _⟩
  · refine ⟨_, _, hv, hc, hm, fun hn => ?_⟩
    obtain ⟨b, c, cs, hv', _, ho, _, _, _, hcs⟩ := MineK.block h (Nat.pos_of_mul_pos_right hn)
    rw [hv'] at hv
    injection hv with h1 _ _
    injection h1 with h1
    injection h1 with h1
    subst h1
    exact ⟨_, _, rfl, ho.lt, fun i hi => by rw [Nat.zero_add, ho.cell, hcs i hi]⟩
theorem MineK.rowAt {w : World} {base s : Nat} {e : TypeId} {a : Option Addr} {n c : Nat} {V : Nat → Value} (h : MineK w base e s (.slice a n c) n V) : Row w a (n * s) V := by
  obtain ⟨a', c', h1, _, _, h2⟩ := h.row
  injection h1 with h1 _ _
  rw [h1]
  exact h2
theorem MineK.kept {w w' : World} {base s : Nat} {e : TypeId} {v : Value} {n : Nat} {V : Nat → Value} (h : MineK w base e s v n V) (hk : ∀ b, base ≤ b → w'.heap[b]? = w.heap[b]? ∨ v.ownBlock ≠ some b) : MineK w' base e s v n V := by
  obtain ⟨h1, h2⟩ := h
  refine ⟨h1, ?_⟩
  rcases h2 with h2 | ⟨g, cap, cur, hv, hg, hh, r⟩
  · exact .inl h2
  · refine .inr ⟨g, cap, cur, hv, hg, ?_, r⟩
    rcases hk g hg with e1 | e1
    · rw [e1]; exact hh
    · subst hv
      exact absurd rfl e1
theorem MineK.drewN {w : World} {base s : Nat} {e : TypeId} {v : Value} {n : Nat} {V : Nat → Value} (h : MineK w base e s v n V) (m : Nat) : MineK (w.drewN m) base e s v n V := h
theorem MineK.alloc {w : World} {base s : Nat} {e : TypeId} {v : Value} {n : Nat} {V : Nat → Value} (h : MineK w base e s v n V) (o : Obj) : MineK (w.alloc o) base e s v n V := World.ownsRow.alloc h o
theorem MineK.lt {w : World} {base s : Nat} {e : TypeId} {v : Value} {n : Nat} {V : Nat → Value} (h : MineK w base e s v n V) : ∀ k, v.ownBlock = some k → base ≤ k ∧ k < w.heap.size := World.ownsRow.lt h
theorem MineK.below {w w' : World} {base s : Nat} {e : TypeId} {v : Value} {n : Nat} {V : Nat → Value} (h : MineK w base e s v n V) (hb : Below w.heap.size w w') : MineK w' base e s v n V :=
  h.kept fun b _ => by
    by_cases hl : b < w.heap.size
    · exact .inl (hb.block b hl)
    · exact .inr (fun e => by have := (h.lt b e).2; omega)
theorem mapK_append (n m s : Nat) (V U : Nat → Value) : (List.range (n * s)).map V ++ (List.range (m * s)).map U = (List.range ((n + m) * s)).map (fun i => if i < n * s then V i else U (i - n * s)) := by
  rw [map_append, Nat.add_mul]

/-- append: what is owned, with a row of whatever place behind it. -/
theorem run_appK {P : Program} {w : World} (t ty : TypeId) (base : Nat) (e : TypeId) (i : TypeInfo) (z : Value) (k bytes : Nat) (ht : P.underlying t = some (.slice e)) (hi : P.info? e = some i) (hz : i.zero = some z)
    (hsize : i.size = k) (hby : i.bytes = bytes) (hzs : z.cells.size = k) (hk : 0 < k)
    (v : Value) (n : Nat) (V : Nat → Value) (hown : MineK w base e k v n V)
    (A : Option Addr) (m c : Nat) (U : Nat → Value) (hr : Row w A (m * k) U) (h1 : ∀ i, i < m * k → (U i).oneCell' = true)
    (h63 : n + m ≤ maxLen) (hbytes : (n + m) * bytes ≤ 140737488355328) (hbase : base ≤ w.heap.size) :
    ∃ v' w', (Builtin.append_ #[t, t] ty #[v, .slice A m c]).run P w = .ok v' w' ∧ MineK w' base e k v' (n + m) (fun i => if i < n * k then V i else U (i - n * k)) ∧ w.grownBy w' v.ownBlock ∧ (v'.ownBlock = v.ownBlock ∨ v'.ownBlock = some w.heap.size) := by
  have h1' : ∀ u ∈ (List.range (m * k)).map U, u.oneCell' = true := by
    intro u hu
    obtain ⟨i, hi, rfl⟩ := List.mem_map.1 hu
    exact h1 i (List.mem_range.1 hi)
  rcases A with _ | ad
  · have hm0 : m = 0 := by
      rcases Nat.eq_zero_or_pos m with h0 | h0
      · exact h0
      · obtain ⟨b, off, h2, _⟩ := hr (Nat.mul_pos h0 hk)
        cases h2
    subst hm0
    have hrun : (Builtin.append_ #[t, t] ty #[v, .slice none 0 c]).run P w = .ok v w := by
      obtain ⟨_, h2⟩ := id hown
      rcases h2 with ⟨rfl, rfl⟩ | ⟨g, cap, cur, rfl, _, _, hnc, _⟩
      · simp [Builtin.append_, run_underlying ht, sizeOf, typeInfo, hi, Builtin.lenOf, Builtin.firstCells]
      · simp [Builtin.append_, run_underlying ht, sizeOf, typeInfo, hi, Builtin.lenOf, Builtin.firstCells, hnc, storeCells]
    exact ⟨v, w, hrun, hown.ext fun i hi => by rw [if_pos hi], ⟨rfl, rfl, rfl, Nat.le_refl _, fun _ _ _ => rfl⟩, .inl rfl⟩
  · obtain ⟨v', w', hrun, g1, g2, _, g4⟩ := run_append_own_at (P := P) w base t ty e i z k bytes ht hi hz hsize hby hzs hk v n _ hown ad m c ((List.range (m * k)).map U) (by simp) (by
      intro j u hu
      have hj : j < m * k := by
        have := (List.getElem?_eq_some_iff.1 hu).1
        simpa using this
      obtain ⟨b, off, h2, _, h3⟩ := hr (by omega)
      injection h2 with h2
      subst h2
      have hu' : u = U j := by simpa [hj] using hu.symm
      subst hu'
      have e1 := h3 j hj
      unfold Addr.add
      split
      · rename_i hj0
        subst hj0
        exact e1
      · exact e1) h1' h63 hbytes hbase
    refine ⟨v', w', hrun, ?_, g2, g4⟩
    unfold MineK
    rw [← mapK_append]
    exact g1
theorem op_appK {P : Program} {w : World} {o : Oper} {a : Act} {K : Act → World → Prop} {Q : Exit → Act → World → Prop} (s x : Operand) (t : TypeId)
    (ho : o.op = .call { callee := .builtin .append, args := #[s, x], argTypes := #[t, t] })
    (base : Nat) (e : TypeId) (i : TypeInfo) (z : Value) (k bytes : Nat) (ht : P.underlying t = some (.slice e)) (hi : P.info? e = some i) (hz : i.zero = some z)
    (hsize : i.size = k) (hby : i.bytes = bytes) (hzs : z.cells.size = k) (hk : 0 < k)
    (v : Value) (n : Nat) (V : Nat → Value) (hs : a.eval s = v) (hown : MineK w base e k v n V)
    (A : Option Addr) (m c : Nat) (U : Nat → Value) (hx : a.eval x = .slice A m c) (hr : Row w A (m * k) U) (h1 : ∀ i, i < m * k → (U i).oneCell' = true)
    (h63 : n + m ≤ maxLen) (hbytes : (n + m) * bytes ≤ 140737488355328) (hbase : base ≤ w.heap.size)
    (h : ∀ v' w', MineK w' base e k v' (n + m) (fun i => if i < n * k then V i else U (i - n * k)) → w.grownBy w' v.ownBlock → (v'.ownBlock = v.ownBlock ∨ v'.ownBlock = some w.heap.size) → K (a.put o.dst v') w') : o.wp P a w K Q := by
  obtain ⟨v', w', hr, h2, h3, h4⟩ := run_appK (P := P) (w := w) t o.type base e i z k bytes ht hi hz hsize hby hzs hk v n V hown A m c U hr h1 h63 hbytes hbase
  unfold Oper.wp execOp
  simp only [ho, resolve, invoke, builtin, Sem.run_bind, Sem.run_pure, Result.andThen_ok, List.map_toArray, List.map_cons, List.map_nil, hs, hx, hr]
  exact h v' w' h2 h3 h4
/-- In a plain region's list. -/
theorem wp_appK {P : Program} {w : World} {ops : Array Oper} {rest : List Oper} {o : Oper} {a : Act} {Q : Exit → Act → World → Prop} (hgd : o.guard = none) (s x : Operand) (t : TypeId)
    (ho : o.op = .call { callee := .builtin .append, args := #[s, x], argTypes := #[t, t] })
    (base : Nat) (e : TypeId) (i : TypeInfo) (z : Value) (k bytes : Nat) (ht : P.underlying t = some (.slice e)) (hi : P.info? e = some i) (hz : i.zero = some z)
    (hsize : i.size = k) (hby : i.bytes = bytes) (hzs : z.cells.size = k) (hk : 0 < k)
    (v : Value) (n : Nat) (V : Nat → Value) (hs : a.eval s = v) (hown : MineK w base e k v n V)
    (A : Option Addr) (m c : Nat) (U : Nat → Value) (hx : a.eval x = .slice A m c) (hr : Row w A (m * k) U) (h1 : ∀ i, i < m * k → (U i).oneCell' = true)
    (h63 : n + m ≤ maxLen) (hbytes : (n + m) * bytes ≤ 140737488355328) (hbase : base ≤ w.heap.size)
    (h : ∀ v' w', MineK w' base e k v' (n + m) (fun i => if i < n * k then V i else U (i - n * k)) → w.grownBy w' v.ownBlock → (v'.ownBlock = v.ownBlock ∨ v'.ownBlock = some w.heap.size) → wpList P ops Q rest (a.put o.dst v') w') : wpList P ops Q (o :: rest) a w :=
  wpList_plain hgd fun _ hK => op_appK s x t ho base e i z k bytes ht hi hz hsize hby hzs hk v n V hs hown A m c U hx hr h1 h63 hbytes hbase fun v' w' h2 h3 h4 => hK _ _ (h v' w' h2 h3 h4)
/-- At a step of a region that draws its order. -/
theorem step_appK {P : Program} {w : World} {ops : Array Oper} {o : Oper} {a : Act} {K : Act → World → Prop} {Q : Exit → Act → World → Prop} {E : Prop} (hgd : o.guard = none) (s x : Operand) (t : TypeId)
    (ho : o.op = .call { callee := .builtin .append, args := #[s, x], argTypes := #[t, t] })
    (base : Nat) (e : TypeId) (i : TypeInfo) (z : Value) (k bytes : Nat) (ht : P.underlying t = some (.slice e)) (hi : P.info? e = some i) (hz : i.zero = some z)
    (hsize : i.size = k) (hby : i.bytes = bytes) (hzs : z.cells.size = k) (hk : 0 < k)
    (v : Value) (n : Nat) (V : Nat → Value) (hs : a.eval s = v) (hown : MineK w base e k v n V)
    (A : Option Addr) (m c : Nat) (U : Nat → Value) (hx : a.eval x = .slice A m c) (hr : Row w A (m * k) U) (h1 : ∀ i, i < m * k → (U i).oneCell' = true)
    (h63 : n + m ≤ maxLen) (hbytes : (n + m) * bytes ≤ 140737488355328) (hbase : base ≤ w.heap.size)
    (h : ∀ v' w', MineK w' base e k v' (n + m) (fun i => if i < n * k then V i else U (i - n * k)) → w.grownBy w' v.ownBlock → (v'.ownBlock = v.ownBlock ∨ v'.ownBlock = some w.heap.size) → K (a.put o.dst v') w') :
    if Region.wanted o (yielded ops a.tmps) = true then Oper.wp P o a w K Q else E := by
  have hw : Region.wanted o (yielded ops a.tmps) = true := by simp [Region.wanted, hgd]
  rw [if_pos hw]
  exact op_appK s x t ho base e i z k bytes ht hi hz hsize hby hzs hk v n V hs hown A m c U hx hr h1 h63 hbytes hbase h
end Go.Proofs.Ytdpkiolngglpaaa.Lb
