/-
  My own small words on worlds: a block of the call's own that is known whole; a step that turns one block alone; the frame of a law ('the call returns true and turns nothing that was there') reduced to its walk. A block of the call's own that is known whole by a function from places to values. Shifts by what is not known, and single bits, over natural numbers. My own words on slices that the call makes: append from whatever source that reads as a row; what is owned, as a block. Slices of structs that the call makes: elements of s cells each.
-/
import Derived.Test.YtiflmdekcjbmbaaRows
import Derived.WalkKit
import Derived.WalkSpells
import Derived.WalkLawsBesides
import Derived.Lib.MinMax
import Derived.Deep.QuietTactic
import Derived.BigQuiet
import Derived.ProofKit
import Derived.OpenShut
import Derived.ShutString
import Derived.ChangeOld
import Derived.Deep.Slices
import Derived.Deep.Grids
import Derived.Deep.Fields
import Derived.ChangeCalls
import Derived.Laws.BitsAllLaws
import Derived.Laws.Bits64
import Derived.OwnWalk
import Derived.Laws.OwnMore
import Derived.Laws.AppendOwn
import Derived.Laws.BytesArg
import Derived.Maps.AppendAt
namespace Go.Proofs.Ytiflmdekcjbmbaa.Lb
set_option linter.unusedVariables false
set_option linter.unusedSimpArgs false
open Go.RowKit Go.ChangeShapes Go.WideShapes Go.ChangeAt Go.Deep

/-! ### Numbers -/
theorem u64_pos (n : Int) : 0 ≤ IntKind.u64.wrap n := by
  simp only [IntKind.wrap, IntKind.signed, IntKind.bits]
  simp
  omega

theorem tdiv_low (d k : Int) (h : d < 0) (hk : 0 < k) : d.tdiv k = -((-d) / k) := by
  have e : d = -(-d) := by omega
  rw [e, Int.neg_tdiv, Int.tdiv_eq_ediv_of_nonneg (by omega)]
  simp
theorem tmod_low (d k : Int) (h : d < 0) : d.tmod k = -((-d) % k) := by
  have e : d = -(-d) := by omega
  rw [e, Int.neg_tmod, Int.tmod_eq_emod_of_nonneg (by omega)]
  simp

theorem tmod_bd (x k : Int) (hk : 0 < k) : -k < x.tmod k ∧ x.tmod k < k := by
  by_cases h : 0 ≤ x
  · rw [Int.tmod_eq_emod_of_nonneg h]
    have h1 := Int.emod_nonneg x (by omega : k ≠ 0)
    have h2 := Int.emod_lt_of_pos x hk
    omega
  · rw [tmod_low x k (by omega)]
    have h1 := Int.emod_nonneg (-x) (by omega : k ≠ 0)
    have h2 := Int.emod_lt_of_pos (-x) hk
    omega
theorem i64_bd {z : Int} (h : (Lit.int .i64 z).wf = true) : -9223372036854775808 ≤ z ∧ z ≤ 9223372036854775807 := by
  simp [Lit.wf, IntKind.min, IntKind.max, IntKind.signed, IntKind.bits] at h
  exact h

theorem u32_bd {z : Int} (h : (Lit.int .u32 z).wf = true) : 0 ≤ z ∧ z < 4294967296 := by
  simp [Lit.wf, IntKind.min, IntKind.max, IntKind.signed, IntKind.bits] at h
  omega
theorem u64_bd {z : Int} (h : (Lit.int .u64 z).wf = true) : 0 ≤ z ∧ z < 18446744073709551616 := by
  simp [Lit.wf, IntKind.min, IntKind.max, IntKind.signed, IntKind.bits] at h
  omega
theorem u8_bd {z : Int} (h : (Lit.int .u8 z).wf = true) : 0 ≤ z ∧ z < 256 := by
  simp [Lit.wf, IntKind.min, IntKind.max, IntKind.signed, IntKind.bits] at h
  omega

/-! ### Blocks -/
/-- Block b holds just these cells, of element type t, none frozen. -/
def Own (w : World) (b : Nat) (t : TypeId) (cs : Array Value) : Prop := w.heap[b]? = some (.cells cs t (0, 0))

theorem Own.lt {w : World} {b : Nat} {t : TypeId} {cs : Array Value} (h : Own w b t cs) : b < w.heap.size := by
  by_cases hb : b < w.heap.size
  · exact hb
  · have : w.heap[b]? = none := Array.getElem?_eq_none (by omega)
    unfold Own at h
    rw [this] at h
    cases h
theorem Own.cell {w : World} {b : Nat} {t : TypeId} {cs : Array Value} (h : Own w b t cs) (i : Nat) : w.cell? ⟨b, i, none⟩ = cs[i]? := by
  unfold Own at h
  simp [World.cell?, h]
theorem Own.free {w : World} {b : Nat} {t : TypeId} {cs : Array Value} (h : Own w b t cs) (i : Nat) : w.frozen? ⟨b, i, none⟩ = false := by
  unfold Own at h
  simp [World.frozen?, h]
theorem Own.new (w : World) (t : TypeId) (cs : Array Value) : Own (w.alloc (.cells cs t)) w.heap.size t cs := heap_alloc_new w _
theorem Own.drewN {w : World} {b : Nat} {t : TypeId} {cs : Array Value} (h : Own w b t cs) (n : Nat) : Own (w.drewN n) b t cs := h
theorem Own.alloc {w : World} {b : Nat} {t : TypeId} {cs : Array Value} (h : Own w b t cs) (o : Obj) : Own (w.alloc o) b t cs := (Below.heap_alloc w o b h.lt).trans h
theorem Own.put {w : World} {b : Nat} {t : TypeId} {cs : Array Value} (h : Own w b t cs) (i : Nat) (u : Value) : Own (w.setCell ⟨b, i, none⟩ u) b t (cs.setIfInBounds i u) := by
  unfold Own at h ⊢
  simp [World.setCell, Array.getElem?_modify, h]
theorem Own.apart {w : World} {b : Nat} {t : TypeId} {cs : Array Value} (h : Own w b t cs) {p : Addr} (hp : b ≠ p.block) (u : Value) : Own (w.setCell p u) b t cs := (Below.heap_setCell w p u b hp).trans h

/-- From w to w' block b alone has turned, and what is new. -/
structure Just (b : Nat) (w w' : World) : Prop where
  os : w'.os = w.os
  tape : w'.tape = w.tape
  output : w'.output = w.output
  size : w.heap.size ≤ w'.heap.size
  block : ∀ k, k < w.heap.size → k ≠ b → w'.heap[k]? = w.heap[k]?

theorem Just.refl (b : Nat) (w : World) : Just b w w := ⟨rfl, rfl, rfl, Nat.le_refl _, fun _ _ _ => rfl⟩
theorem Just.trans {b : Nat} {u v w : World} (h : Just b u v) (k : Just b v w) : Just b u w :=
  ⟨k.os.trans h.os, k.tape.trans h.tape, k.output.trans h.output, Nat.le_trans h.size k.size, fun i hi hb => (k.block i (Nat.lt_of_lt_of_le hi h.size) hb).trans (h.block i hi hb)⟩
theorem Just.drewN {b : Nat} {u w : World} (h : Just b u w) (n : Nat) : Just b u (w.drewN n) := ⟨h.os, h.tape, h.output, h.size, h.block⟩
theorem Just.set (b : Nat) (w : World) (i : Nat) (u : Value) : Just b w (w.setCell ⟨b, i, none⟩ u) :=
  ⟨rfl, rfl, rfl, by simp [World.setCell], fun k _ hb => Below.heap_setCell w _ u k hb⟩
theorem Just.put {b : Nat} {v w : World} (h : Just b v w) (i : Nat) (u : Value) : Just b v (w.setCell ⟨b, i, none⟩ u) := h.trans (Just.set b w i u)
theorem Just.alloc {b : Nat} {v w : World} (h : Just b v w) (o : Obj) : Just b v (w.alloc o) :=
  h.trans ⟨rfl, rfl, rfl, by simp, fun k hk _ => Below.heap_alloc w o k hk⟩
theorem Just.own {b b' : Nat} {w w' : World} {t : TypeId} {cs : Array Value} (j : Just b w w') (h : Own w b' t cs) (hne : b' ≠ b) : Own w' b' t cs := (j.block b' h.lt hne).trans h
theorem Just.below {b B : Nat} {a w w' : World} (j : Just b w w') (h : Below B a w) (hb : B ≤ b) (hB : B ≤ w.heap.size) : Below B a w' :=
  h.trans ⟨j.os, j.tape, j.output, j.size, fun k hk => j.block k (by omega) (by omega)⟩
theorem below_drewN {B : Nat} {a w : World} (h : Below B a w) (n : Nat) : Below B a (w.drewN n) := ⟨h.os, h.tape, h.output, h.size, h.block⟩
theorem below_own {B b : Nat} {w w' : World} {t : TypeId} {cs : Array Value} (h : Below B w w') (k : Own w b t cs) (hb : b < B) : Own w' b t cs := (h.block b hb).trans k
theorem below_le {w w' : World} {B : Nat} (h : Below B w w') : w.heap.size ≤ w'.heap.size := h.size

/-! ### Quiet calls: the callee draws, and that is all -/
theorem quiet_left {P : Program} {f : FuncId} {args : Array Value} {w : World} {a : Nat} {v : Value} (h : Calls P f args (w.drewN a) fun e w' => e = .returned v ∧ w.drewN a = w') :
    Calls P f args (w.drewN a) fun e w' => e = .returned v ∧ ∃ m, w' = w.drewN m :=
  h.mono fun _ _ ⟨he, hw⟩ => ⟨he, a, hw.symm⟩
theorem quiet_some {P : Program} {f : FuncId} {args : Array Value} {w : World} {a : Nat} {v : Value} (h : Calls P f args (w.drewN a) fun e w' => e = .returned v ∧ ∃ m, (w.drewN a).drewN m = w') :
    Calls P f args (w.drewN a) fun e w' => e = .returned v ∧ ∃ m, w' = w.drewN m :=
  h.mono fun _ _ ⟨he, m, hw⟩ => ⟨he, a + m, by rw [← hw, World.drewN_drewN]⟩
theorem quiet_left_add {P : Program} {f : FuncId} {args : Array Value} {w : World} {a b : Nat} {v : Value} (h : Calls P f args (w.drewN (a + b)) fun e w' => e = .returned v ∧ w.drewN (a + b) = w') :
    Calls P f args (w.drewN (a + b)) fun e w' => e = .returned v ∧ ∃ m, w' = w.drewN (a + m) :=
  h.mono fun _ _ ⟨he, hw⟩ => ⟨he, b, hw.symm⟩
theorem quiet_some_add {P : Program} {f : FuncId} {args : Array Value} {w : World} {a b : Nat} {v : Value} (h : Calls P f args (w.drewN (a + b)) fun e w' => e = .returned v ∧ ∃ m, (w.drewN (a + b)).drewN m = w') :
    Calls P f args (w.drewN (a + b)) fun e w' => e = .returned v ∧ ∃ m, w' = w.drewN (a + m) :=
  h.mono fun _ _ ⟨he, m, hw⟩ => ⟨he, b + m, by rw [← hw, World.drewN_drewN, Nat.add_assoc]⟩

/-! ### Slices that came in -/
/-- The slice at a reads as the n cells V 0, V 1, .. -/
def Row (w : World) (a : Option Addr) (n : Nat) (V : Nat → Value) : Prop :=
  0 < n → ∃ b off, a = some ⟨b, off, none⟩ ∧ b < w.heap.size ∧ ∀ i, i < n → w.cell? ⟨b, off + i, none⟩ = some (V i)
theorem Row.at_ {w : World} {a : Option Addr} {n k : Nat} {V : Nat → Value} (h : Row w a n V) (hk : k < n) :
    ∃ b off, a = some ⟨b, off, none⟩ ∧ b < w.heap.size ∧ w.cell? ⟨b, off + k, none⟩ = some (V k) := by
  obtain ⟨b, off, h1, h2, h3⟩ := h (by omega)
  exact ⟨b, off, h1, h2, h3 k hk⟩
theorem Row.below {w w' : World} {a : Option Addr} {n : Nat} {V : Nat → Value} (h : Row w a n V) (hb : Below w.heap.size w w') : Row w' a n V := by
  intro hn
  obtain ⟨b, off, h1, h2, h3⟩ := h hn
  exact ⟨b, off, h1, Nat.lt_of_lt_of_le h2 hb.size, fun i hi => (hb.cell (p := ⟨b, off + i, none⟩) h2).trans (h3 i hi)⟩
theorem Row.cut {w : World} {a : Option Addr} {n m : Nat} {V : Nat → Value} (h : Row w a n V) (hm : m ≤ n) : Row w a m V := by
  intro hn
  obtain ⟨b, off, h1, h2, h3⟩ := h (by omega)
  exact ⟨b, off, h1, h2, fun i hi => h3 i (by omega)⟩
theorem Row.nil (w : World) (a : Option Addr) (V : Nat → Value) : Row w a 0 V := fun h => absurd h (by omega)
theorem Row.at_old {w w' : World} {a : Option Addr} {n k : Nat} {V : Nat → Value} (h : Row w a n V) (hb : Below w.heap.size w w') (hk : k < n) :
    ∃ b off, a = some ⟨b, off, none⟩ ∧ b < w.heap.size ∧ w'.cell? ⟨b, off + k, none⟩ = some (V k) := by
  obtain ⟨b, off, h1, h2, h3⟩ := h.at_ hk
  exact ⟨b, off, h1, h2, (hb.cell (p := ⟨b, off + k, none⟩) h2).trans h3⟩

/-- Struct k of a row of structs of m cells, in a later world. -/
theorem Row.at_struct {w w' : World} {a : Option Addr} {n m k : Nat} {V : Nat → Value} (h : Row w a (n * m) V) (hb : Below w.heap.size w w') (hk : k < n) (hm : 0 < m) :
    ∃ b off, a = some ⟨b, off, none⟩ ∧ b < w.heap.size ∧ ∀ j, j < m → w'.cell? ⟨b, off + k * m + j, none⟩ = some (V (k * m + j)) := by
  have hl : ∀ j, j < m → k * m + j < n * m := fun j hj => by
    have : (k + 1) * m ≤ n * m := Nat.mul_le_mul_right m hk
    rw [Nat.add_mul] at this
    omega
  obtain ⟨b, off, h1, h2, h3⟩ := h (by have := hl 0 hm; omega)
  exact ⟨b, off, h1, h2, fun j hj => (hb.cell (p := ⟨b, off + k * m + j, none⟩) h2).trans (by rw [Nat.add_assoc]; exact h3 _ (hl j hj))⟩
theorem row_new (w : World) (cs : Array Value) (e : TypeId) (fz : Nat × Nat) {n : Nat} {V : Nat → Value} (h : ∀ i, i < n → cs[i]? = some (V i)) : Row (w.alloc (.cells cs e fz)) (some ⟨w.heap.size, 0, none⟩) n V := by
  intro hn
  refine ⟨_, _, rfl, by simp, fun i hi => ?_⟩
  have e1 : (w.alloc (.cells cs e fz)).heap[w.heap.size]? = some (.cells cs e fz) := heap_alloc_new w _
  rw [Nat.zero_add, cell_of_row _ _ _ _ _ _ e1, h i hi]
theorem Row.own {w : World} {b : Nat} {t : TypeId} {cs : Array Value} {n : Nat} {V : Nat → Value} (h : Own w b t cs) (hv : ∀ i, i < n → cs[i]? = some (V i)) : Row w (some ⟨b, 0, none⟩) n V := by
  intro hn
  exact ⟨_, _, rfl, h.lt, fun i hi => by rw [Nat.zero_add, h.cell, hv i hi]⟩
theorem Row.drewN {w : World} {a : Option Addr} {n : Nat} {V : Nat → Value} (h : Row w a n V) (m : Nat) : Row (w.drewN m) a n V := h

theorem lt_of_cell {w : World} {a : Addr} {v : Value} (h : w.cell? a = some v) : a.block < w.heap.size := by
  by_cases hb : a.block < w.heap.size
  · exact hb
  · have : w.heap[a.block]? = none := Array.getElem?_eq_none (by omega)
    unfold World.cell? at h
    rw [this] at h
    cases h

section
variable {H : Type} {enc : TypeId × Value → H} {P : Program} {w : World} {base : Nat}
theorem open_row {t e : TypeId} {v : Value} {d : DataW H} {p : List MemPlace} (ht : P.underlying t = some (.slice e)) (hc : P.cellsOf e = 1) (hv : Value.okWide P w .any base t v)
    (h : DataW.Trod enc P w 0 (fun _ => true) true t v d p) :
    ∃ a n c V, v = .slice a n c ∧ n ≤ c ∧ c ≤ maxLen ∧ Row w a n V ∧ ∀ i, i < n → ∃ f y, DataW.trod enc P w 0 (fun _ => true) true f e [V i] = some y := by
  obtain ⟨a0, len, cap, rfl⟩ := okWide_slice ht hv
  obtain ⟨fuel, hf⟩ := h
  rcases open_slice1 ht hc hf with ⟨hcs, _⟩ | ⟨x, l, c, m, n, V, D, Pl, hcs, _, hl, hm, hmm, _, hx⟩
  · simp [Value.cells] at hcs
    obtain ⟨rfl, rfl, rfl⟩ := hcs
    exact ⟨none, 0, 0, fun _ => undef, rfl, Nat.le_refl _, Nat.zero_le _, Row.nil _ _ _, fun i hi => absurd hi (by omega)⟩
  · simp [Value.cells] at hcs
    obtain ⟨rfl, rfl, rfl⟩ := hcs
    simp only [if_true] at hmm
    subst hmm
    obtain ⟨b, off, spot⟩ := x
    refine ⟨_, _, _, V, rfl, hl, hm, fun hn => ?_, fun i hi => ⟨_, _, (hx i (by omega)).2⟩⟩
    have h0 := (hx 0 (by omega)).1
    have hspot : spot = none := by simpa [Addr.add] using World.cell?_spot h0
    subst hspot
    refine ⟨b, off, rfl, ?_, fun i hi => ?_⟩
    · simpa [Addr.add] using lt_of_cell h0
    · have := (hx i (by omega)).1
      unfold Addr.add at this
      split at this
      · rename_i hi0
        subst hi0
        exact this
      · exact this

theorem choose_fn {α : Type} {q : Nat → α → Prop} {n : Nat} (d : α) (h : ∀ i, i < n → ∃ x, q i x) : ∃ f : Nat → α, ∀ i, i < n → q i (f i) := by
  refine ⟨fun i => if hi : i < n then Classical.choose (h i hi) else d, fun i hi => ?_⟩
  simp only [dif_pos hi]
  exact Classical.choose_spec (h i hi)

/-- A slice of structs, each field of one cell: the cells, field by field. -/
theorem open_row_struct {t e : TypeId} {fs : Array Field} {v : Value} {d : DataW H} {p : List MemPlace} (ht : P.underlying t = some (.slice e)) (he : P.underlying e = some (.struct fs)) (hone : oneCellFields P fs = true)
    (hC : P.cellsOf e = fs.size) (hpos : 0 < fs.size) (hv : Value.okWide P w .any base t v) (h : DataW.Trod enc P w 0 (fun _ => true) true t v d p) :
    ∃ a n c V, v = .slice a n c ∧ n ≤ c ∧ c ≤ maxLen ∧ Row w a (n * fs.size) V ∧ ∀ i, i < n → ∀ (j : Nat) (g : Field), fs[j]? = some g → ∃ f y, DataW.trod enc P w 0 (fun _ => true) true f g.type [V (i * fs.size + j)] = some y := by
  obtain ⟨a0, len, cap, rfl⟩ := okWide_slice ht hv
  obtain ⟨fuel, hf⟩ := h
  rcases open_slice ht hf with ⟨hcs, _⟩ | ⟨x, l, c, m, n, D, Pl, hcs, _, hl, hm, hmm, _, hx⟩
  · simp [Value.cells] at hcs
    obtain ⟨rfl, rfl, rfl⟩ := hcs
    exact ⟨none, 0, 0, fun _ => undef, rfl, Nat.le_refl _, Nat.zero_le _, by rw [Nat.zero_mul]; exact Row.nil _ _ _, fun i hi => absurd hi (by omega)⟩
  · simp [Value.cells] at hcs
    obtain ⟨rfl, rfl, rfl⟩ := hcs
    simp only [if_true] at hmm
    subst hmm
    obtain ⟨b, off, spot⟩ := x
    obtain ⟨C, hCs⟩ := choose_fn (q := fun i cs' => w.cells? 0 ((⟨b, off, spot⟩ : Addr).add (i * P.cellsOf e)) (P.cellsOf e) = some cs' ∧ DataW.trod enc P w 0 (fun _ => true) true n e cs' = some (D i, Pl i)) ([] : List Value) (n := len)
      (fun i hi => hx i (by omega))
    rw [hC] at hCs
    have hcell : ∀ i, i < len → ∀ j, j < fs.size → w.cell? (((⟨b, off, spot⟩ : Addr).add (i * fs.size)).add j) = (C i)[j]? := fun i hi => (World.cells?_some (hCs i hi).1).2.2
    have hlen : ∀ i, i < len → (C i).length = fs.size := fun i hi => (World.cells?_some (hCs i hi).1).2.1
    refine ⟨_, _, _, fun q => ((C (q / fs.size))[q % fs.size]?).getD undef, rfl, hl, hm, fun hn => ?_, fun i hi j g hj => ?_⟩
    · have hl0 : 0 < len := Nat.pos_of_mul_pos_right hn
      have h0 := hcell 0 hl0 0 hpos
      rw [List.getElem?_eq_getElem (by rw [hlen 0 hl0]; exact hpos)] at h0
      have hspot : spot = none := by simpa [Addr.add] using World.cell?_spot h0
      subst hspot
      refine ⟨b, off, rfl, by simpa [Addr.add] using lt_of_cell h0, fun q hq => ?_⟩
      have hi : q / fs.size < len := Nat.div_lt_of_lt_mul (by rw [Nat.mul_comm]; exact hq)
      have hj : q % fs.size < fs.size := Nat.mod_lt _ hpos
      have h1 := hcell _ hi _ hj
      have he : (((⟨b, off, none⟩ : Addr).add (q / fs.size * fs.size)).add (q % fs.size)) = ⟨b, off + q, none⟩ := by
        have hq' : q / fs.size * fs.size + q % fs.size = q := Nat.div_add_mod' q fs.size
        unfold Addr.add
        split <;> split <;> simp <;> omega
      rw [he] at h1
      have hjc : q % fs.size < (C (q / fs.size)).length := by rw [hlen _ hi]; exact hj
      rw [h1]
      simp only [List.getElem?_eq_getElem hjc, Option.getD_some]
    · obtain ⟨ys, n', _, _, hcl, hyl, hg⟩ := DataW.trod_struct he (hCs i hi).2
      obtain ⟨ho, hk⟩ := hone_of hone j g hj
      have hjl : j < fs.size := (Array.getElem?_eq_some_iff.1 hj).1
      have h1 := hg j g hj
      rw [ho, hk] at h1
      have hcj : j < (C i).length := by rw [hlen i hi]; exact hjl
      have e1 : ((C i).drop j).take 1 = [(C i)[j]] := by
        rw [List.drop_eq_getElem_cons hcj]
        rfl
      have e2 : (i * fs.size + j) / fs.size = i := by rw [Nat.add_comm, Nat.add_mul_div_right _ _ hpos, Nat.div_eq_of_lt hjl, Nat.zero_add]
      have e3 : (i * fs.size + j) % fs.size = j := by rw [Nat.add_comm, Nat.add_mul_mod_self_right, Nat.mod_eq_of_lt hjl]
      rw [e1, List.getElem?_eq_getElem (by omega)] at h1
      exact ⟨n', _, by simp only [e2, e3, List.getElem?_eq_getElem hcj, Option.getD_some]; exact h1⟩

/-- A field of integers of a row of structs; a field of bools. -/
theorem field_int {n m j : Nat} {t : TypeId} {k : IntKind} {V : Nat → Value} (ht : P.underlying t = some (.int k)) (hf : ∀ i, i < n → ∃ f y, DataW.trod enc P w 0 (fun _ => true) true f t [V (i * m + j)] = some y) :
    ∃ X : Nat → Int, ∀ i, i < n → V (i * m + j) = .int k (X i) ∧ (Lit.int k (X i)).wf = true :=
  choose_fn (q := fun i z => V (i * m + j) = .int k z ∧ (Lit.int k z).wf = true) (0 : Int) (fun i hi => by
    obtain ⟨f, y, hy⟩ := hf i hi
    obtain ⟨z, hz, _, hw⟩ := DataW.trod_int ht hy
    exact ⟨z, by simpa using hz, hw⟩)
theorem field_bool {n m j : Nat} {t : TypeId} {V : Nat → Value} (ht : P.underlying t = some .bool) (hf : ∀ i, i < n → ∃ f y, DataW.trod enc P w 0 (fun _ => true) true f t [V (i * m + j)] = some y) :
    ∃ X : Nat → Bool, ∀ i, i < n → V (i * m + j) = .bool (X i) :=
  choose_fn (q := fun i z => V (i * m + j) = .bool z) false (fun i hi => by
    obtain ⟨f, y, hy⟩ := hf i hi
    obtain ⟨z, hz, _⟩ := DataW.trod_bool ht hy
    exact ⟨z, by simpa using hz⟩)
theorem open_row_bool {t e : TypeId} {v : Value} {d : DataW H} {p : List MemPlace} (ht : P.underlying t = some (.slice e)) (he : P.underlying e = some .bool) (hc : P.cellsOf e = 1) (hv : Value.okWide P w .any base t v)
    (h : DataW.Trod enc P w 0 (fun _ => true) true t v d p) : ∃ a n c, ∃ B : Nat → Bool, v = .slice a n c ∧ n ≤ c ∧ c ≤ maxLen ∧ Row w a n (fun i => .bool (B i)) := by
  obtain ⟨a, n, c, V, rfl, h1, h2, h3, h4⟩ := open_row ht hc hv h
  obtain ⟨B, hB⟩ := choose_fn (q := fun i b => V i = .bool b) false (fun i hi => by
    obtain ⟨f, y, hy⟩ := h4 i hi
    obtain ⟨b, hb, _⟩ := DataW.trod_bool he hy
    exact ⟨b, by simpa using hb⟩)
  refine ⟨a, n, c, B, rfl, h1, h2, fun hn => ?_⟩
  obtain ⟨b, off, e1, e2, e3⟩ := h3 hn
  exact ⟨b, off, e1, e2, fun i hi => by rw [e3 i hi, hB i hi]⟩

theorem open_row_int {t e : TypeId} {k : IntKind} {v : Value} {d : DataW H} {p : List MemPlace} (ht : P.underlying t = some (.slice e)) (he : P.underlying e = some (.int k)) (hc : P.cellsOf e = 1) (hv : Value.okWide P w .any base t v)
    (h : DataW.Trod enc P w 0 (fun _ => true) true t v d p) : ∃ a n c, ∃ Z : Nat → Int, v = .slice a n c ∧ n ≤ c ∧ c ≤ maxLen ∧ Row w a n (fun i => .int k (Z i)) ∧ ∀ i, (Lit.int k (Z i)).wf = true := by
  obtain ⟨a, n, c, V, rfl, h1, h2, h3, h4⟩ := open_row ht hc hv h
  obtain ⟨Z, hZ⟩ := choose_fn (q := fun i z => V i = .int k z ∧ (Lit.int k z).wf = true) (0 : Int) (fun i hi => by
    obtain ⟨f, y, hy⟩ := h4 i hi
    obtain ⟨z, hz, _, hw⟩ := DataW.trod_int he hy
    exact ⟨z, by simpa using hz, hw⟩)
  refine ⟨a, n, c, fun i => if i < n then Z i else 0, rfl, h1, h2, fun hn => ?_, fun i => ?_⟩
  · obtain ⟨b, off, e1, e2, e3⟩ := h3 hn
    exact ⟨b, off, e1, e2, fun i hi => by simp only [e3 i hi, (hZ i hi).1, if_pos hi]⟩
  · by_cases hi : i < n
    · simp only [if_pos hi]; exact (hZ i hi).2
    · simp only [if_neg hi]; cases k <;> decide
end

/-! ### The frame of a law -/
section
variable {H : Type} {enc : TypeId × Value → H} {P : Program}
theorem trodAll_below (hl : laidOutB P = true) {W W' : World} (hb : Below W.heap.size W W') :
    ∀ {ts : List TypeId} {vs : List Value} {ds : List (DataW H)} {ps : List MemPlace}, (∀ t ∈ ts, P.readableRec t = true ∧ t < P.types.size) →
      DataW.TrodAll enc P W 0 (fun _ => true) true ts vs ds ps → (∀ x ∈ ps, x.block < W.heap.size) → DataW.TrodAll enc P W' 0 (fun b => decide (b < W.heap.size)) true ts vs ds ps
  | [], _, _, _, _, h, _ => by obtain ⟨rfl, rfl, rfl⟩ := trodAll_nil h; exact trodAll_mk0
  | t :: ts, vs, ds, ps, hts, h, hp => by
    obtain ⟨v, vs', d, ds', p, q, rfl, rfl, rfl, h0, h1⟩ := trodAll_cons h
    have ht := hts t (by simp)
    exact trodAll_cons_mk (Below.trod hl ht.1 ht.2 h0 hb (fun x hx => hp x (by simp [hx]))) (trodAll_below hl hb (fun u hu => hts u (by simp [hu])) h1 (fun x hx => hp x (by simp [hx])))

/-- What a law's walk owes: for whatever arguments that can be read the call returns true and turns nothing that was there. -/
def Walk (H : Type) (enc : TypeId × Value → H) (P : Program) (F : FuncId) (f : Func) : Prop :=
  ∀ (W : World) (base : Nat) (args : Array Value) (ds : List (DataW H)) (p : List MemPlace),
    (∀ (j : Nat) t v, f.params[j]? = some t → args[j]? = some v → Value.okWide P W .any base t v) →
    DataW.TrodAll enc P W 0 (fun _ => true) true f.params.toList args.toList ds p →
    Calls P F args W fun e w' => e = .returned (.bool true) ∧ Below W.heap.size W w'

theorem step_of_walk {F : FuncId} {f : Func} {s : ChangeSpec} {tb : TypeId} (hl : laidOutB P = true) (hts : ∀ t ∈ f.params.toList, P.readableRec t = true ∧ t < P.types.size)
    (hres : f.resultTypes = #[tb]) (htb : P.underlying tb = some .bool) (hv : s.vars = [])
    (hs : ∀ ds : List (DataW H), ds.length = f.params.size → s.fn H ds = { results := [.lit (.bool true)], args := ds })
    (walk : Walk H enc P F f) :
    ∀ (W : World) (base : Nat) (args : Array Value) (ds gs : List (DataW H)) (before : List MemPlace),
      (∀ (j : Nat) t v, f.params[j]? = some t → args[j]? = some v → Value.okWide P W .any base t v) →
      DataW.Whole enc P f.params.toList s.vars false W args.toList ds gs before → 
      Calls P F args W fun e W' => ∃ v, e = .returned v ∧ s.post enc P f false true false false W args v W' := by
  intro W base args ds gs before hval hW
  have hW' := hW
  obtain ⟨p, q, hA, hV, rfl, hfz, hnd⟩ := hW
  rw [hv] at hV
  obtain ⟨rfl, rfl⟩ := trodVars_none hV
  have hlt : ∀ x ∈ p, x.block < W.heap.size := fun x hx => hW'.lt x (by simp [hx])
  have hlen : ds.length = f.params.size := by
    have := (trodAll_length hA).2
    simpa using this
  refine (walk W base args ds p hval hA).mono fun e W' ⟨he, bel⟩ => ?_
  subst he
  have hfn : s.fn H (ds ++ []) = { results := [.lit (.bool true)], args := ds } := by rw [List.append_nil]; exact hs ds hlen
  refine ⟨_, rfl, ds, [], p ++ [], [], p, [], hW', ?_, ?_, ?_, bel.frame _, fun h => by cases h⟩
  · rw [hfn, hres]
    exact trodAll_mk1 (shut_bool htb _)
  · rw [hfn]
    exact trodAll_below hl bel hts hA hlt
  · rw [hv, hfn]
    rfl
end
end Go.Proofs.Ytiflmdekcjbmbaa.Lb
namespace Go.Proofs.Ytiflmdekcjbmbaa.Lb
set_option linter.unusedVariables false
set_option linter.unusedSimpArgs false
open Go.RowKit

/-- Block b holds just the n cells V 0, V 1, .., of element type t, none frozen. -/
def Blk (w : World) (b : Nat) (t : TypeId) (n : Nat) (V : Nat → Value) : Prop := Own w b t (Array.ofFn (n := n) fun i => V i)

theorem Blk.lt {w : World} {b : Nat} {t : TypeId} {n : Nat} {V : Nat → Value} (h : Blk w b t n V) : b < w.heap.size := Own.lt h
theorem Blk.cell {w : World} {b : Nat} {t : TypeId} {n : Nat} {V : Nat → Value} (h : Blk w b t n V) {i : Nat} (hi : i < n) : w.cell? ⟨b, i, none⟩ = some (V i) := by
  rw [Own.cell h i]
  simp [hi]
theorem Blk.free {w : World} {b : Nat} {t : TypeId} {n : Nat} {V : Nat → Value} (h : Blk w b t n V) (i : Nat) : w.frozen? ⟨b, i, none⟩ = false := Own.free h i
theorem Blk.ext {w : World} {b : Nat} {t : TypeId} {n : Nat} {V U : Nat → Value} (h : Blk w b t n V) (hu : ∀ i, i < n → V i = U i) : Blk w b t n U := by
  have e : (Array.ofFn (n := n) fun i => V i) = Array.ofFn (n := n) fun i => U i := by
    congr 1
    funext i
    exact hu i i.isLt
  unfold Blk at h ⊢
  rw [← e]
  exact h
theorem Blk.of {w : World} {b : Nat} {t : TypeId} {n : Nat} {V : Nat → Value} {cs : Array Value} (h : Own w b t cs) (hs : cs.size = n) (hv : ∀ i, i < n → cs[i]? = some (V i)) : Blk w b t n V := by
  have e : cs = Array.ofFn (n := n) fun i => V i := by
    apply Array.ext
    · simp [hs]
    · intro i h1 h2
      have := hv i (by omega)
      rw [Array.getElem?_eq_getElem h1] at this
      injection this with this
      rw [this]
      simp
  unfold Blk
  rw [← e]
  exact h
theorem Blk.put {w : World} {b : Nat} {t : TypeId} {n : Nat} {V : Nat → Value} (h : Blk w b t n V) (i : Nat) (u : Value) : Blk (w.setCell ⟨b, i, none⟩ u) b t n (fun j => if j = i then u else V j) := by
  refine Blk.of (Own.put h i u) (by simp) fun j hj => ?_
  rw [Array.getElem?_setIfInBounds]
  by_cases hij : i = j
  · subst hij
    simp [hj]
  · rw [if_neg hij]
    simp [hj, show ¬ j = i from fun e => hij e.symm]
theorem Blk.drewN {w : World} {b : Nat} {t : TypeId} {n : Nat} {V : Nat → Value} (h : Blk w b t n V) (m : Nat) : Blk (w.drewN m) b t n V := h
theorem Blk.alloc {w : World} {b : Nat} {t : TypeId} {n : Nat} {V : Nat → Value} (h : Blk w b t n V) (o : Obj) : Blk (w.alloc o) b t n V := Own.alloc h o
theorem Just.blk {b b' : Nat} {w w' : World} {t : TypeId} {n : Nat} {V : Nat → Value} (j : Just b w w') (h : Blk w b' t n V) (hne : b' ≠ b) : Blk w' b' t n V := j.own h hne
theorem below_blk {B b : Nat} {w w' : World} {t : TypeId} {n : Nat} {V : Nat → Value} (h : Below B w w') (k : Blk w b t n V) (hb : b < B) : Blk w' b t n V := below_own h k hb
/-- A block of n cells that are all the same. -/
theorem Blk.same {w : World} {b : Nat} {t : TypeId} {n : Nat} {v : Value} {cs : Array Value} (h : Own w b t cs) (hc : cs = (List.replicate n v).toArray) : Blk w b t n (fun _ => v) := by
  subst hc
  exact Blk.of h (by simp) (fun i hi => by simp [hi])
end Go.Proofs.Ytiflmdekcjbmbaa.Lb
namespace Go.Proofs.Ytiflmdekcjbmbaa.Lb
set_option linter.unusedVariables false
set_option linter.unusedSimpArgs false
open Go.RowKit

theorem shl_min (B s d : Nat) : s * 2 ^ min d B % 2 ^ B = s <<< d % 2 ^ B := by
  rw [Nat.shiftLeft_eq]
  by_cases h : d ≤ B
  · rw [Nat.min_eq_left h]
  · rw [Nat.min_eq_right (by omega), Nat.mul_mod_left, show d = (d - B) + B from by omega, Nat.pow_add, ← Nat.mul_assoc, Nat.mul_mod_left]
theorem shr_min (B s d : Nat) (h : s < 2 ^ B) : s / 2 ^ min d B = s >>> d := by
  rw [Nat.shiftRight_eq_div_pow]
  by_cases hd : d ≤ B
  · rw [Nat.min_eq_left hd]
  · rw [Nat.min_eq_right (by omega), Nat.div_eq_of_lt h, Nat.div_eq_of_lt]
    exact Nat.lt_of_lt_of_le h (Nat.pow_le_pow_right (by decide) (by omega))

theorem wrap_nat (k : IntKind) (hk : k.signed = false) (x : Nat) : k.wrap (x : Int) = ((x % 2 ^ k.bits : Nat) : Int) := by
  unfold IntKind.wrap
  simp [hk]
theorem run_shl (P : Program) (k yk : IntKind) (hk : k.signed = false) (s : Nat) (d : Int) (hd : 0 ≤ d) (w : World) :
    Sem.run P (Op.shift .shl k (s : Int) yk d) w = .ok (.int k ((s <<< d.toNat % 2 ^ k.bits : Nat) : Int)) w := by
  have e : ¬ d < 0 := by omega
  have e1 : (s : Int) * 2 ^ min d.toNat k.bits = ((s * 2 ^ min d.toNat k.bits : Nat) : Int) := by simp
  unfold Op.shift
  rw [if_neg e]
  simp only [e1, wrap_nat k hk, shl_min]
  rfl
theorem run_shr (P : Program) (k yk : IntKind) (s : Nat) (hs : s < 2 ^ k.bits) (d : Int) (hd : 0 ≤ d) (w : World) :
    Sem.run P (Op.shift .shr k (s : Int) yk d) w = .ok (.int k ((s >>> d.toNat : Nat) : Int)) w := by
  have e : ¬ d < 0 := by omega
  have e1 : (s : Int).fdiv (2 ^ min d.toNat k.bits) = ((s >>> d.toNat : Nat) : Int) := by
    rw [← shr_min k.bits s d.toNat hs, Int.fdiv_eq_ediv_of_nonneg _ (Int.le_of_lt (Int.pow_pos (by decide)))]
    simp
  unfold Op.shift
  rw [if_neg e]
  simp only [e1]
  rfl
theorem and_one (s : Nat) : s &&& 1 = s % 2 := by
  exact Nat.and_one_is_mod s
/-- Is bit d of s set? -/
theorem shr_and_one (s d : Nat) : (s >>> d) &&& 1 = if s.testBit d then 1 else 0 := by
  rw [Nat.and_one_is_mod, Nat.testBit_eq_decide_div_mod_eq, Nat.shiftRight_eq_div_pow]
  have h2 : s / 2 ^ d % 2 = 0 ∨ s / 2 ^ d % 2 = 1 := by omega
  rcases h2 with h2 | h2 <;> simp [h2]
end Go.Proofs.Ytiflmdekcjbmbaa.Lb
namespace Go.Proofs.Ytiflmdekcjbmbaa.Lb
set_option linter.unusedVariables false
set_option linter.unusedSimpArgs false
open Go.RowKit

theorem info8 : (Try.prog.info? 5).map (fun i => (i.zero, i.size, i.bytes)) = some (some (.int .u8 0), 1, 1) := by kernel_rfl

/-- The slice v owns its row: n cells V 0, V 1, .., in a block of its own from base on. -/
def Mine (w : World) (base : Nat) (e : TypeId) (v : Value) (n : Nat) (V : Nat → Value) : Prop := w.ownsRow base e 1 v n ((List.range n).map V)

theorem Mine.ext {w : World} {base : Nat} {e : TypeId} {v : Value} {n : Nat} {V U : Nat → Value} (h : Mine w base e v n V) (hv : ∀ i, i < n → V i = U i) : Mine w base e v n U := by
  have : (List.range n).map V = (List.range n).map U := List.map_congr_left fun i hi => hv i (List.mem_range.1 hi)
  unfold Mine at h ⊢
  rw [← this]
  exact h
theorem Mine.nil (w : World) (base : Nat) (e : TypeId) (V : Nat → Value) : Mine w base e (.slice none 0 0) 0 V := ⟨rfl, .inl ⟨rfl, rfl⟩⟩
/-- An empty literal, 'make(.., 0, n)': a block of the call's own. -/
theorem Mine.made {w : World} {base b : Nat} {e : TypeId} {cs : Array Value} {n : Nat} {V : Nat → Value} (h : Own w b e cs) (hb : base ≤ b) (hm : cs.size ≤ maxLen) (hn : n ≤ cs.size) (hv : ∀ i, i < n → cs[i]? = some (V i)) :
    Mine w base e (.slice (some ⟨b, 0, none⟩) n cs.size) n V := by
  refine ⟨by simp, .inr ⟨b, cs.size, cs, rfl, hb, h, hn, hm, by simp, ?_⟩⟩
  apply List.ext_getElem?
  intro i
  rw [Nat.mul_one, List.getElem?_take]
  by_cases hi : i < n
  · rw [if_pos hi, Array.getElem?_toList, hv i hi]
    simp [hi]
  · rw [if_neg hi]
    simp [hi]
theorem made_list (z : Value) : ∀ n, (madeCells #[z] n).toList = (List.range n).map (fun _ => z) := by
  intro n
  rw [toList_madeCells_one]
  apply List.ext_getElem?
  intro i
  by_cases h : i < n
  · rw [List.getElem?_replicate, if_pos h]; simp [h]
  · rw [List.getElem?_replicate, if_neg h]; simp [h]
/-- 'make(.., n)' with a variable n: n zeros. -/
theorem Mine.full {w : World} {base : Nat} {e : TypeId} {v z : Value} {n : Nat} (h : w.ownsRow base e 1 v n (madeCells #[z] n).toList) : Mine w base e v n (fun _ => z) := by
  rw [made_list] at h
  exact h
/-- What is owned, as a block. -/
theorem Mine.block {w : World} {base : Nat} {e : TypeId} {v : Value} {n : Nat} {V : Nat → Value} (h : Mine w base e v n V) (hn : 0 < n) :
    ∃ b cs, v = .slice (some ⟨b, 0, none⟩) n cs.size ∧ base ≤ b ∧ Own w b e cs ∧ n ≤ cs.size ∧ cs.size ≤ maxLen ∧ ∀ i, i < n → cs[i]? = some (V i) := by
  obtain ⟨_, h2⟩ := h
  rcases h2 with ⟨_, h0⟩ | ⟨g, cap, cur, hv, hg, hh, hc, hm, hs, ht⟩
  · omega
  · rw [Nat.mul_one] at hs
    subst hs
    refine ⟨g, cur, hv, hg, hh, hc, hm, fun i hi => ?_⟩
    have e1 := congrArg (fun l : List Value => l[i]?) ht
    simp only [Nat.mul_one, List.getElem?_take, if_pos hi, Array.getElem?_toList] at e1
    rw [e1]
    simp [hi]
/-- What is owned, as a row. -/
theorem Mine.row {w : World} {base : Nat} {e : TypeId} {v : Value} {n : Nat} {V : Nat → Value} (h : Mine w base e v n V) : ∃ a c, v = .slice a n c ∧ n ≤ c ∧ c ≤ maxLen ∧ Row w a n V := by
  obtain ⟨_, h2⟩ := id h
  rcases h2 with ⟨hv, h0⟩ | ⟨g, cap, cur, hv, hg, hh, hc, hm, hs, ht⟩
  · subst h0
    exact ⟨none, 0, hv, by omega, by omega, Row.nil _ _ _⟩
  · refine ⟨_, _, hv, hc, hm, fun hn => ?_⟩
    obtain ⟨b, cs, hv', _, ho, _, _, hcs⟩ := Mine.block h hn
    rw [hv'] at hv
    injection hv with h1 _ _
    injection h1 with h1
    injection h1 with h1
    subst h1
    exact ⟨_, _, rfl, ho.lt, fun i hi => by rw [Nat.zero_add, ho.cell, hcs i hi]⟩
theorem Mine.rowAt {w : World} {base : Nat} {e : TypeId} {a : Option Addr} {n c : Nat} {V : Nat → Value} (h : Mine w base e (.slice a n c) n V) : Row w a n V := by
  obtain ⟨a', c', h1, _, _, h2⟩ := h.row
  injection h1 with h1 _ _
  rw [h1]
  exact h2
theorem Mine.at_ {w : World} {base b : Nat} {e : TypeId} {n c : Nat} {V : Nat → Value} (h : Mine w base e (.slice (some ⟨b, 0, none⟩) n c) n V) {j : Nat} (hj : j < n) :
    base ≤ b ∧ b < w.heap.size ∧ w.cell? ⟨b, j, none⟩ = some (V j) ∧ w.frozen? ⟨b, j, none⟩ = false := by
  obtain ⟨b', cs, hv, hb, ho, hn, hm, hcs⟩ := h.block (by omega)
  injection hv with h1 _ _
  injection h1 with h1
  injection h1 with h1
  subst h1
  exact ⟨hb, ho.lt, by rw [ho.cell, hcs j hj], ho.free j⟩
theorem Mine.store {w : World} {base b : Nat} {e : TypeId} {n c : Nat} {V : Nat → Value} (h : Mine w base e (.slice (some ⟨b, 0, none⟩) n c) n V) {j : Nat} (hj : j < n) (u : Value) :
    Mine (w.setCell ⟨b, j, none⟩ u) base e (.slice (some ⟨b, 0, none⟩) n c) n (fun i => if i = j then u else V i) := by
  obtain ⟨b', cs, hv, hb, ho, hn, hm, hcs⟩ := h.block (by omega)
  injection hv with h1 _ h3
  injection h1 with h1
  injection h1 with h1
  subst h1
  subst h3
  have hsz : (cs.setIfInBounds j u).size = cs.size := by simp
  have := Mine.made (base := base) (n := n) (V := fun i => if i = j then u else V i) (ho.put j u) hb (by rw [hsz]; exact hm) (by rw [hsz]; exact hn) (fun i hi => by
    rw [Array.getElem?_setIfInBounds]
    by_cases hij : j = i
    · subst hij
      rw [if_pos rfl, if_pos (by omega), if_pos rfl]
    · rw [if_neg hij, hcs i hi, if_neg (fun h => hij h.symm)])
  rw [hsz] at this
  exact this
theorem Mine.other {w : World} {base : Nat} {e : TypeId} {v : Value} {n : Nat} {V : Nat → Value} (h : Mine w base e v n V) {p : Addr} (hp : v.ownBlock ≠ some p.block) (u : Value) : Mine (w.setCell p u) base e v n V :=
  ownsRow_setCell_other h hp u
theorem Mine.kept {w w' : World} {base : Nat} {e : TypeId} {v : Value} {n : Nat} {V : Nat → Value} (h : Mine w base e v n V) (hk : ∀ b, base ≤ b → w'.heap[b]? = w.heap[b]? ∨ v.ownBlock ≠ some b) : Mine w' base e v n V := by
  obtain ⟨h1, h2⟩ := h
  refine ⟨h1, ?_⟩
  rcases h2 with h2 | ⟨g, cap, cur, hv, hg, hh, r⟩
  · exact .inl h2
  · refine .inr ⟨g, cap, cur, hv, hg, ?_, r⟩
    rcases hk g hg with e1 | e1
    · rw [e1]; exact hh
    · subst hv
      exact absurd rfl e1
theorem Mine.drewN {w : World} {base : Nat} {e : TypeId} {v : Value} {n : Nat} {V : Nat → Value} (h : Mine w base e v n V) (m : Nat) : Mine (w.drewN m) base e v n V := h
theorem Mine.alloc {w : World} {base : Nat} {e : TypeId} {v : Value} {n : Nat} {V : Nat → Value} (h : Mine w base e v n V) (o : Obj) : Mine (w.alloc o) base e v n V := World.ownsRow.alloc h o
theorem Mine.lt {w : World} {base : Nat} {e : TypeId} {v : Value} {n : Nat} {V : Nat → Value} (h : Mine w base e v n V) : ∀ k, v.ownBlock = some k → base ≤ k ∧ k < w.heap.size := World.ownsRow.lt h

theorem grown_own {w w' : World} {row : Option Nat} {b : Nat} {t : TypeId} {cs : Array Value} (hg : w.grownBy w' row) (h : Own w b t cs) (hr : row ≠ some b) : Own w' b t cs := (hg.block b h.lt (fun e => hr e.symm)).trans h
theorem Mine.just {w w' : World} {base g : Nat} {e : TypeId} {v : Value} {n : Nat} {V : Nat → Value} (h : Mine w base e v n V) (j : Just g w w') (hg : g < base) : Mine w' base e v n V :=
  h.kept (fun b hb => by
    by_cases hl : b < w.heap.size
    · exact .inl (j.block b hl (by omega))
    · exact .inr (fun e => by have := (h.lt b e).2; omega))
theorem map_append (n m : Nat) (V U : Nat → Value) : (List.range n).map V ++ (List.range m).map U = (List.range (n + m)).map (fun i => if i < n then V i else U (i - n)) := by
  apply List.ext_getElem?
  intro i
  rw [List.getElem?_append]
  simp only [List.length_map, List.length_range, List.getElem?_map]
  by_cases h : i < n
  · simp [h, show i < n + m by omega]
  · by_cases h2 : i < n + m
    · simp [h, h2, show i - n < m by omega]
    · simp [h, h2, show ¬ i - n < m by omega]

/-- append of nothing. -/
theorem run_app_none {P : Program} {w : World} {base : Nat} {t ty e : TypeId} {i : TypeInfo} (ht : P.underlying t = some (.slice e)) (hi : P.info? e = some i) {v : Value} {n : Nat} {V : Nat → Value} (hown : Mine w base e v n V) (c : Nat) :
    (Builtin.append_ #[t, t] ty #[v, .slice none 0 c]).run P w = .ok v w := by
  obtain ⟨_, h2⟩ := hown
  rcases h2 with ⟨rfl, rfl⟩ | ⟨g, cap, cur, rfl, _, _, hnc, _⟩
  · simp [Builtin.append_, run_underlying ht, sizeOf, typeInfo, hi, Builtin.lenOf, Builtin.firstCells]
  · simp [Builtin.append_, run_underlying ht, sizeOf, typeInfo, hi, Builtin.lenOf, Builtin.firstCells, hnc, storeCells]

/-- append: what is owned, with a row of whatever place behind it. -/
theorem wp_app {P : Program} {w : World} {ops : Array Oper} {rest : List Oper} {o : Oper} {a : Act} {Q : Exit → Act → World → Prop} (hgd : o.guard = none) (s x : Operand) (t : TypeId)
    (ho : o.op = .call { callee := .builtin .append, args := #[s, x], argTypes := #[t, t] })
    (base : Nat) (e : TypeId) (i : TypeInfo) (z : Value) (bytes : Nat) (ht : P.underlying t = some (.slice e)) (hi : P.info? e = some i) (hz : i.zero = some z)
    (hsize : i.size = 1) (hby : i.bytes = bytes) (hzs : z.cells.size = 1)
    (v : Value) (n : Nat) (V : Nat → Value) (hs : a.eval s = v) (hown : Mine w base e v n V)
    (A : Option Addr) (m c : Nat) (U : Nat → Value) (hx : a.eval x = .slice A m c) (hr : Row w A m U) (h1 : ∀ i, i < m → (U i).oneCell' = true)
    (h63 : n + m ≤ maxLen) (hbytes : (n + m) * bytes ≤ 140737488355328) (hbase : base ≤ w.heap.size)
    (h : ∀ v' w', Mine w' base e v' (n + m) (fun i => if i < n then V i else U (i - n)) → w.grownBy w' v.ownBlock → wpList P ops Q rest (a.put o.dst v') w') : wpList P ops Q (o :: rest) a w := by
  have h1' : ∀ u ∈ (List.range m).map U, u.oneCell' = true := by
    intro u hu
    obtain ⟨i, hi, rfl⟩ := List.mem_map.1 hu
    exact h1 i (List.mem_range.1 hi)
  rcases A with _ | ad
  · have hm0 : m = 0 := by
      rcases Nat.eq_zero_or_pos m with h0 | h0
      · exact h0
      · obtain ⟨b, off, h2, _⟩ := hr h0
        cases h2
    subst hm0
    refine wpList_plain hgd fun K hK => ?_
    have hrun := run_app_none (P := P) (w := w) (ty := o.type) ht hi hown c
    have hK' := hK _ _ (h v w (hown.ext fun i hi => by rw [if_pos (by omega)]) ⟨rfl, rfl, rfl, Nat.le_refl _, fun _ _ _ => rfl⟩)
    unfold Oper.wp
    simp only [execOp, ho, resolve, invoke, builtin, Sem.run_bind, Sem.run_pure, Result.andThen_ok, List.map_toArray, List.map_cons, List.map_nil, hs, hx, hrun]
    exact hK'
  · refine wpList_append_own w hgd s x t ho base e i z 1 bytes ht hi hz hsize hby hzs (by omega) v n _ hs hown ad m c ((List.range m).map U) hx (by simp) ?_ h1' h63 hbytes hbase ?_
    · intro j u hu
      have hj : j < m := by
        have := (List.getElem?_eq_some_iff.1 hu).1
        simpa using this
      obtain ⟨b, off, h2, _, h3⟩ := hr (by omega)
      injection h2 with h2
      subst h2
      have hu' : u = U j := by simpa [hj] using hu.symm
      subst hu'
      have e1 := h3 j hj
      unfold Addr.add
      split
      · rename_i hj0
        subst hj0
        exact e1
      · exact e1
    · intro v' w' g1 g2 _
      refine h v' w' ?_ g2
      unfold Mine
      rw [← map_append]
      exact g1

/-- append: as wp_app, and where the new row lies: in the old one's block, or in one that is new. -/
theorem wp_app_at {P : Program} {w : World} {ops : Array Oper} {rest : List Oper} {o : Oper} {a : Act} {Q : Exit → Act → World → Prop} (hgd : o.guard = none) (s x : Operand) (t : TypeId)
    (ho : o.op = .call { callee := .builtin .append, args := #[s, x], argTypes := #[t, t] })
    (base : Nat) (e : TypeId) (i : TypeInfo) (z : Value) (bytes : Nat) (ht : P.underlying t = some (.slice e)) (hi : P.info? e = some i) (hz : i.zero = some z)
    (hsize : i.size = 1) (hby : i.bytes = bytes) (hzs : z.cells.size = 1)
    (v : Value) (n : Nat) (V : Nat → Value) (hs : a.eval s = v) (hown : Mine w base e v n V)
    (A : Option Addr) (m c : Nat) (U : Nat → Value) (hx : a.eval x = .slice A m c) (hr : Row w A m U) (h1 : ∀ i, i < m → (U i).oneCell' = true)
    (h63 : n + m ≤ maxLen) (hbytes : (n + m) * bytes ≤ 140737488355328) (hbase : base ≤ w.heap.size)
    (h : ∀ v' w', Mine w' base e v' (n + m) (fun i => if i < n then V i else U (i - n)) → w.grownBy w' v.ownBlock → (v'.ownBlock = v.ownBlock ∨ v'.ownBlock = some w.heap.size) → wpList P ops Q rest (a.put o.dst v') w') : wpList P ops Q (o :: rest) a w := by
  have h1' : ∀ u ∈ (List.range m).map U, u.oneCell' = true := by
    intro u hu
    obtain ⟨i, hi, rfl⟩ := List.mem_map.1 hu
    exact h1 i (List.mem_range.1 hi)
  rcases A with _ | ad
  · have hm0 : m = 0 := by
      rcases Nat.eq_zero_or_pos m with h0 | h0
      · exact h0
      · obtain ⟨b, off, h2, _⟩ := hr h0
        cases h2
    subst hm0
    refine wpList_plain hgd fun K hK => ?_
    have hrun := run_app_none (P := P) (w := w) (ty := o.type) ht hi hown c
    have hK' := hK _ _ (h v w (hown.ext fun i hi => by rw [if_pos (by omega)]) ⟨rfl, rfl, rfl, Nat.le_refl _, fun _ _ _ => rfl⟩ (.inl rfl))
    unfold Oper.wp
    simp only [execOp, ho, resolve, invoke, builtin, Sem.run_bind, Sem.run_pure, Result.andThen_ok, List.map_toArray, List.map_cons, List.map_nil, hs, hx, hrun]
    exact hK'
  · refine wpList_append_own_at w hgd s x t ho base e i z 1 bytes ht hi hz hsize hby hzs (by omega) v n _ hs hown ad m c ((List.range m).map U) hx (by simp) ?_ h1' h63 hbytes hbase ?_
    · intro j u hu
      have hj : j < m := by
        have := (List.getElem?_eq_some_iff.1 hu).1
        simpa using this
      obtain ⟨b, off, h2, _, h3⟩ := hr (by omega)
      injection h2 with h2
      subst h2
      have hu' : u = U j := by simpa [hj] using hu.symm
      subst hu'
      have e1 := h3 j hj
      unfold Addr.add
      split
      · rename_i hj0
        subst hj0
        exact e1
      · exact e1
    · intro v' w' g1 g2 _ g4
      refine h v' w' ?_ g2 g4
      unfold Mine
      rw [← map_append]
      exact g1

/-- string(b): the bytes of a row. -/
def str (Z : Nat → Int) (n : Nat) : ByteArray := strOfNums ((List.range n).map Z)
theorem conv_string {P : Program} {w : World} {src dst e : TypeId} (hs : P.underlying src = some (.slice e)) (he : P.underlying e = some (.int .u8)) (hd : P.underlying dst = some .string)
    {A : Option Addr} {n c : Nat} {Z : Nat → Int} (h : Row w A n (fun i => .int .u8 (Z i))) : (convert src dst (.slice A n c)).run P w = .ok (.string (str Z n)) w := by
  rcases Nat.eq_zero_or_pos n with h0 | h0
  · subst h0
    rcases A with _ | ad
    · exact run_convert_bytes_nil w src e hs he 0 c dst hd
    · rw [run_convert_bytes_string w src dst e _ 0 c hs he hd, run_bytesToString w ad 0 c [] (by simp [loadCells, loadCellsFrom])]
      rfl
  · obtain ⟨b, off, rfl, _, h3⟩ := h h0
    exact run_convert_bytes_arg w src e hs he b off n c ((List.range n).map Z) (by simp) (fun i hi => by rw [h3 i hi]; simp [hi]) dst hd
theorem str_inj {Z Y : Nat → Int} {n m : Nat} (hz : ∀ i, 0 ≤ Z i ∧ Z i < 256) (hy : ∀ i, 0 ≤ Y i ∧ Y i < 256) (h : str Z n = str Y m) : n = m ∧ ∀ i, i < n → Z i = Y i := by
  have h1 := congrArg (fun s : ByteArray => s.data.toList) h
  simp only [str, strOfNums_data, List.map_map] at h1
  have hn : n = m := by
    have := congrArg List.length h1
    simpa using this
  subst hn
  refine ⟨rfl, fun i hi => ?_⟩
  have h2 := congrArg (fun l : List UInt8 => l[i]?) h1
  simp [hi] at h2
  have h3 := congrArg UInt8.toNat h2
  simp [UInt8.toNat_ofNat'] at h3
  have := hz i; have := hy i
  omega
theorem str_list_inj {Z Y : Nat → Int} {n m : Nat} (hz : ∀ i, 0 ≤ Z i ∧ Z i < 256) (hy : ∀ i, 0 ≤ Y i ∧ Y i < 256) (h : (str Z n).toList = (str Y m).toList) : n = m ∧ ∀ i, i < n → Z i = Y i :=
  str_inj hz hy (by
    rw [ByteArray.toList_eq, ByteArray.toList_eq] at h
    have : (str Z n).data = (str Y m).data := Array.toList_inj.1 h
    cases h1 : str Z n; cases h2 : str Y m
    rw [h1, h2] at this
    simp_all)
theorem str_congr {Z Y : Nat → Int} {n : Nat} (h : ∀ i, i < n → Z i = Y i) : str Z n = str Y n := by
  unfold str
  rw [List.map_congr_left fun i hi => h i (List.mem_range.1 hi)]
end Go.Proofs.Ytiflmdekcjbmbaa.Lb
namespace Go.Proofs.Ytiflmdekcjbmbaa.Lb
set_option linter.unusedVariables false
set_option linter.unusedSimpArgs false
open Go.RowKit

/-- The slice v owns its row: n elements of s cells each, V 0, V 1, .., in a block of its own from base on. -/
def MineK (w : World) (base : Nat) (e : TypeId) (s : Nat) (v : Value) (n : Nat) (V : Nat → Value) : Prop := w.ownsRow base e s v n ((List.range (n * s)).map V)

theorem MineK.ext {w : World} {base s : Nat} {e : TypeId} {v : Value} {n : Nat} {V U : Nat → Value} (h : MineK w base e s v n V) (hv : ∀ i, i < n * s → V i = U i) : MineK w base e s v n U := by
  have : (List.range (n * s)).map V = (List.range (n * s)).map U := List.map_congr_left fun i hi => hv i (List.mem_range.1 hi)
  unfold MineK at h ⊢
  rw [← this]
  exact h
theorem MineK.nil (w : World) (base : Nat) (e : TypeId) (s : Nat) (V : Nat → Value) : MineK w base e s (.slice none 0 0) 0 V := ⟨by simp, .inl ⟨rfl, rfl⟩⟩
theorem MineK.made {w : World} {base b s c : Nat} {e : TypeId} {cs : Array Value} {n : Nat} {V : Nat → Value} (h : Own w b e cs) (hb : base ≤ b) (hc : cs.size = c * s) (hm : c ≤ maxLen) (hn : n ≤ c) (hv : ∀ i, i < n * s → cs[i]? = some (V i)) :
    MineK w base e s (.slice (some ⟨b, 0, none⟩) n c) n V := by
  have hle : n * s ≤ cs.size := by rw [hc]; exact Nat.mul_le_mul_right s hn
  refine ⟨by simp, .inr ⟨b, c, cs, rfl, hb, h, hn, hm, hc, ?_⟩⟩
  apply List.ext_getElem?
  intro i
  rw [List.getElem?_take]
  by_cases hi : i < n * s
  · rw [if_pos hi, Array.getElem?_toList, hv i hi]
    simp [hi]
  · rw [if_neg hi]
    simp [hi]
theorem MineK.block {w : World} {base s : Nat} {e : TypeId} {v : Value} {n : Nat} {V : Nat → Value} (h : MineK w base e s v n V) (hn : 0 < n) :
    ∃ b c cs, v = .slice (some ⟨b, 0, none⟩) n c ∧ base ≤ b ∧ Own w b e cs ∧ n ≤ c ∧ c ≤ maxLen ∧ cs.size = c * s ∧ ∀ i, i < n * s → cs[i]? = some (V i) := by
  obtain ⟨_, h2⟩ := h
  rcases h2 with ⟨_, h0⟩ | ⟨g, cap, cur, hv, hg, hh, hc, hm, hs, ht⟩
  · omega
  · refine ⟨g, cap, cur, hv, hg, hh, hc, hm, hs, fun i hi => ?_⟩
    have e1 := congrArg (fun l : List Value => l[i]?) ht
    simp only [List.getElem?_take, if_pos hi, Array.getElem?_toList] at e1
    rw [e1]
    simp [hi]
theorem MineK.row {w : World} {base s : Nat} {e : TypeId} {v : Value} {n : Nat} {V : Nat → Value} (h : MineK w base e s v n V) : ∃ a c, v = .slice a n c ∧ n ≤ c ∧ c ≤ maxLen ∧ Row w a (n * s) V := by
  obtain ⟨_, h2⟩ := id h
  rcases h2 with ⟨hv, h0⟩ | ⟨g, cap, cur, hv, hg, hh, hc, hm, hs, ht⟩
  · subst h0
    exact ⟨none, 0, hv, by omega, by omega, by rw [Nat.zero_mul]; exact Row.nil _ _ _⟩
  · refine ⟨_, _, hv, hc, hm, fun hn => ?_⟩
    obtain ⟨b, c, cs, hv', _, ho, _, _, _, hcs⟩ := MineK.block h (Nat.pos_of_mul_pos_right hn)
    rw [hv'] at hv
    injection hv with h1 _ _
    injection h1 with h1
    injection h1 with h1
    subst h1
    exact ⟨_, _, rfl, ho.lt, fun i hi => by rw [Nat.zero_add, ho.cell, hcs i hi]⟩
theorem MineK.rowAt {w : World} {base s : Nat} {e : TypeId} {a : Option Addr} {n c : Nat} {V : Nat → Value} (h : MineK w base e s (.slice a n c) n V) : Row w a (n * s) V := by
  obtain ⟨a', c', h1, _, _, h2⟩ := h.row
  injection h1 with h1 _ _
  rw [h1]
  exact h2
theorem MineK.kept {w w' : World} {base s : Nat} {e : TypeId} {v : Value} {n : Nat} {V : Nat → Value} (h : MineK w base e s v n V) (hk : ∀ b, base ≤ b → w'.heap[b]? = w.heap[b]? ∨ v.ownBlock ≠ some b) : MineK w' base e s v n V := by
  obtain ⟨h1, h2⟩ := h
  refine ⟨h1, ?_⟩
  rcases h2 with h2 | ⟨g, cap, cur, hv, hg, hh, r⟩
  · exact .inl h2
  · refine .inr ⟨g, cap, cur, hv, hg, ?_, r⟩
    rcases hk g hg with e1 | e1
    · rw [e1]; exact hh
    · subst hv
      exact absurd rfl e1
theorem MineK.drewN {w : World} {base s : Nat} {e : TypeId} {v : Value} {n : Nat} {V : Nat → Value} (h : MineK w base e s v n V) (m : Nat) : MineK (w.drewN m) base e s v n V := h
theorem MineK.alloc {w : World} {base s : Nat} {e : TypeId} {v : Value} {n : Nat} {V : Nat → Value} (h : MineK w base e s v n V) (o : Obj) : MineK (w.alloc o) base e s v n V := World.ownsRow.alloc h o
theorem MineK.lt {w : World} {base s : Nat} {e : TypeId} {v : Value} {n : Nat} {V : Nat → Value} (h : MineK w base e s v n V) : ∀ k, v.ownBlock = some k → base ≤ k ∧ k < w.heap.size := World.ownsRow.lt h
theorem MineK.below {w w' : World} {base s : Nat} {e : TypeId} {v : Value} {n : Nat} {V : Nat → Value} (h : MineK w base e s v n V) (hb : Below w.heap.size w w') : MineK w' base e s v n V :=
  h.kept fun b _ => by
    by_cases hl : b < w.heap.size
    · exact .inl (hb.block b hl)
    · exact .inr (fun e => by have := (h.lt b e).2; omega)
theorem mapK_append (n m s : Nat) (V U : Nat → Value) : (List.range (n * s)).map V ++ (List.range (m * s)).map U = (List.range ((n + m) * s)).map (fun i => if i < n * s then V i else U (i - n * s)) := by
  rw [map_append, Nat.add_mul]

/-- append: what is owned, with a row of whatever place behind it. -/
theorem run_appK {P : Program} {w : World} (t ty : TypeId) (base : Nat) (e : TypeId) (i : TypeInfo) (z : Value) (k bytes : Nat) (ht : P.underlying t = some (.slice e)) (hi : P.info? e = some i) (hz : i.zero = some z)
    (hsize : i.size = k) (hby : i.bytes = bytes) (hzs : z.cells.size = k) (hk : 0 < k)
    (v : Value) (n : Nat) (V : Nat → Value) (hown : MineK w base e k v n V)
    (A : Option Addr) (m c : Nat) (U : Nat → Value) (hr : Row w A (m * k) U) (h1 : ∀ i, i < m * k → (U i).oneCell' = true)
    (h63 : n + m ≤ maxLen) (hbytes : (n + m) * bytes ≤ 140737488355328) (hbase : base ≤ w.heap.size) :
    ∃ v' w', (Builtin.append_ #[t, t] ty #[v, .slice A m c]).run P w = .ok v' w' ∧ MineK w' base e k v' (n + m) (fun i => if i < n * k then V i else U (i - n * k)) ∧ w.grownBy w' v.ownBlock ∧ (v'.ownBlock = v.ownBlock ∨ v'.ownBlock = some w.heap.size) := by
  have h1' : ∀ u ∈ (List.range (m * k)).map U, u.oneCell' = true := by
    intro u hu
    obtain ⟨i, hi, rfl⟩ := List.mem_map.1 hu
    exact h1 i (List.mem_range.1 hi)
  rcases A with _ | ad
  · have hm0 : m = 0 := by
      rcases Nat.eq_zero_or_pos m with h0 | h0
      · exact h0
      · obtain ⟨b, off, h2, _⟩ := hr (Nat.mul_pos h0 hk)
        cases h2
    subst hm0
    have hrun : (Builtin.append_ #[t, t] ty #[v, .slice none 0 c]).run P w = .ok v w := by
      obtain ⟨_, h2⟩ := id hown
      rcases h2 with ⟨rfl, rfl⟩ | ⟨g, cap, cur, rfl, _, _, hnc, _⟩
      · simp [Builtin.append_, run_underlying ht, sizeOf, typeInfo, hi, Builtin.lenOf, Builtin.firstCells]
      · simp [Builtin.append_, run_underlying ht, sizeOf, typeInfo, hi, Builtin.lenOf, Builtin.firstCells, hnc, storeCells]
    exact ⟨v, w, hrun, hown.ext fun i hi => by rw [if_pos hi], ⟨rfl, rfl, rfl, Nat.le_refl _, fun _ _ _ => rfl⟩, .inl rfl⟩
  · obtain ⟨v', w', hrun, g1, g2, _, g4⟩ := run_append_own_at (P := P) w base t ty e i z k bytes ht hi hz hsize hby hzs hk v n _ hown ad m c ((List.range (m * k)).map U) (by simp) (by
      intro j u hu
      have hj : j < m * k := by
        have := (List.getElem?_eq_some_iff.1 hu).1
        simpa using this
      obtain ⟨b, off, h2, _, h3⟩ := hr (by omega)
      injection h2 with h2
      subst h2
      have hu' : u = U j := by simpa [hj] using hu.symm
      subst hu'
      have e1 := h3 j hj
      unfold Addr.add
      split
      · rename_i hj0
        subst hj0
        exact e1
      · exact e1) h1' h63 hbytes hbase
    refine ⟨v', w', hrun, ?_, g2, g4⟩
    unfold MineK
    rw [← mapK_append]
    exact g1
theorem op_appK {P : Program} {w : World} {o : Oper} {a : Act} {K : Act → World → Prop} {Q : Exit → Act → World → Prop} (s x : Operand) (t : TypeId)
    (ho : o.op = .call { callee := .builtin .append, args := #[s, x], argTypes := #[t, t] })
    (base : Nat) (e : TypeId) (i : TypeInfo) (z : Value) (k bytes : Nat) (ht : P.underlying t = some (.slice e)) (hi : P.info? e = some i) (hz : i.zero = some z)
    (hsize : i.size = k) (hby : i.bytes = bytes) (hzs : z.cells.size = k) (hk : 0 < k)
    (v : Value) (n : Nat) (V : Nat → Value) (hs : a.eval s = v) (hown : MineK w base e k v n V)
    (A : Option Addr) (m c : Nat) (U : Nat → Value) (hx : a.eval x = .slice A m c) (hr : Row w A (m * k) U) (h1 : ∀ i, i < m * k → (U i).oneCell' = true)
    (h63 : n + m ≤ maxLen) (hbytes : (n + m) * bytes ≤ 140737488355328) (hbase : base ≤ w.heap.size)
    (h : ∀ v' w', MineK w' base e k v' (n + m) (fun i => if i < n * k then V i else U (i - n * k)) → w.grownBy w' v.ownBlock → (v'.ownBlock = v.ownBlock ∨ v'.ownBlock = some w.heap.size) → K (a.put o.dst v') w') : o.wp P a w K Q := by
  obtain ⟨v', w', hr, h2, h3, h4⟩ := run_appK (P := P) (w := w) t o.type base e i z k bytes ht hi hz hsize hby hzs hk v n V hown A m c U hr h1 h63 hbytes hbase
  unfold Oper.wp execOp
  simp only [ho, resolve, invoke, builtin, Sem.run_bind, Sem.run_pure, Result.andThen_ok, List.map_toArray, List.map_cons, List.map_nil, hs, hx, hr]
  exact h v' w' h2 h3 h4
/-- In a plain region's list. -/
theorem wp_appK {P : Program} {w : World} {ops : Array Oper} {rest : List Oper} {o : Oper} {a : Act} {Q : Exit → Act → World → Prop} (hgd : o.guard = none) (s x : Operand) (t : TypeId)
    (ho : o.op = .call { callee := .builtin .append, args := #[s, x], argTypes := #[t, t] })
    (base : Nat) (e : TypeId) (i : TypeInfo) (z : Value) (k bytes : Nat) (ht : P.underlying t = some (.slice e)) (hi : P.info? e = some i) (hz : i.zero = some z)
    (hsize : i.size = k) (hby : i.bytes = bytes) (hzs : z.cells.size = k) (hk : 0 < k)
    (v : Value) (n : Nat) (V : Nat → Value) (hs : a.eval s = v) (hown : MineK w base e k v n V)
    (A : Option Addr) (m c : Nat) (U : Nat → Value) (hx : a.eval x = .slice A m c) (hr : Row w A (m * k) U) (h1 : ∀ i, i < m * k → (U i).oneCell' = true)
    (h63 : n + m ≤ maxLen) (hbytes : (n + m) * bytes ≤ 140737488355328) (hbase : base ≤ w.heap.size)
    (h : ∀ v' w', MineK w' base e k v' (n + m) (fun i => if i < n * k then V i else U (i - n * k)) → w.grownBy w' v.ownBlock → (v'.ownBlock = v.ownBlock ∨ v'.ownBlock = some w.heap.size) → wpList P ops Q rest (a.put o.dst v') w') : wpList P ops Q (o :: rest) a w :=
  wpList_plain hgd fun _ hK => op_appK s x t ho base e i z k bytes ht hi hz hsize hby hzs hk v n V hs hown A m c U hx hr h1 h63 hbytes hbase fun v' w' h2 h3 h4 => hK _ _ (h v' w' h2 h3 h4)
/-- At a step of a region that draws its order. -/
theorem step_appK {P : Program} {w : World} {ops : Array Oper} {o : Oper} {a : Act} {K : Act → World → Prop} {Q : Exit → Act → World → Prop} {E : Prop} (hgd : o.guard = none) (s x : Operand) (t : TypeId)
    (ho : o.op = .call { callee := .builtin .append, args := #[s, x], argTypes := #[t, t] })
    (base : Nat) (e : TypeId) (i : TypeInfo) (z : Value) (k bytes : Nat) (ht : P.underlying t = some (.slice e)) (hi : P.info? e = some i) (hz : i.zero = some z)
    (hsize : i.size = k) (hby : i.bytes = bytes) (hzs : z.cells.size = k) (hk : 0 < k)
    (v : Value) (n : Nat) (V : Nat → Value) (hs : a.eval s = v) (hown : MineK w base e k v n V)
    (A : Option Addr) (m c : Nat) (U : Nat → Value) (hx : a.eval x = .slice A m c) (hr : Row w A (m * k) U) (h1 : ∀ i, i < m * k → (U i).oneCell' = true)
    (h63 : n + m ≤ maxLen) (hbytes : (n + m) * bytes ≤ 140737488355328) (hbase : base ≤ w.heap.size)
    (h : ∀ v' w', MineK w' base e k v' (n + m) (fun i => if i < n * k then V i else U (i - n * k)) → w.grownBy w' v.ownBlock → (v'.ownBlock = v.ownBlock ∨ v'.ownBlock = some w.heap.size) → K (a.put o.dst v') w') :
    if Region.wanted o (yielded ops a.tmps) = true then Oper.wp P o a w K Q else E := by
  have hw : Region.wanted o (yielded ops a.tmps) = true := by simp [Region.wanted, hgd]
  rw [if_pos hw]
  exact op_appK s x t ho base e i z k bytes ht hi hz hsize hby hzs hk v n V hs hown A m c U hx hr h1 h63 hbytes hbase h
end Go.Proofs.Ytiflmdekcjbmbaa.Lb
