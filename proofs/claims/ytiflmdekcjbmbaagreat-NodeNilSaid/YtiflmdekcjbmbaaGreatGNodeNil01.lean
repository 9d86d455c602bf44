/-
  My own small words on worlds: a block of the call's own that is known whole; a step that turns one block alone; the frame of a law ('the call returns true and turns nothing that was there') reduced to its walk. Contracts of package clock (chapter 4) and of the reference's clock, over the block that the clock is. Contracts of package keep (chapter 15) and of the reference's keeper, over the block that the keeper is. A block of the call's own that is known whole by a function from places to values. Shifts by what is not known, and single bits, over natural numbers.
-/
import Derived.Test.YtiflmdekcjbmbaaGreatRows
import Derived.WalkKit
import Derived.WalkSpells
import Derived.WalkLawsBesides
import Derived.Lib.MinMax
import Derived.Deep.QuietTactic
import Derived.BigQuiet
import Derived.ProofKit
import Derived.OpenShut
import Derived.ShutString
import Derived.ChangeOld
import Derived.Deep.Slices
import Derived.Deep.Grids
import Derived.Deep.Fields
import Derived.ChangeCalls
import Derived.Deep.RegionWith
import Derived.Lib.Hide
import Derived.Laws.BitsAllLaws
import Derived.Laws.Bits64
namespace Go.Proofs.YtiflmdekcjbmbaaGreat.Lb
set_option linter.unusedVariables false
set_option linter.unusedSimpArgs false
open Go.RowKit Go.ChangeShapes Go.WideShapes Go.ChangeAt Go.Deep

/-! ### Numbers -/
theorem u64_pos (n : Int) : 0 ≤ IntKind.u64.wrap n := by
  simp only [IntKind.wrap, IntKind.signed, IntKind.bits]
  simp
  omega

theorem tdiv_low (d k : Int) (h : d < 0) (hk : 0 < k) : d.tdiv k = -((-d) / k) := by
  have e : d = -(-d) := by omega
  rw [e, Int.neg_tdiv, Int.tdiv_eq_ediv_of_nonneg (by omega)]
  simp
theorem tmod_low (d k : Int) (h : d < 0) : d.tmod k = -((-d) % k) := by
  have e : d = -(-d) := by omega
  rw [e, Int.neg_tmod, Int.tmod_eq_emod_of_nonneg (by omega)]
  simp

theorem tmod_bd (x k : Int) (hk : 0 < k) : -k < x.tmod k ∧ x.tmod k < k := by
  by_cases h : 0 ≤ x
  · rw [Int.tmod_eq_emod_of_nonneg h]
    have h1 := Int.emod_nonneg x (by omega : k ≠ 0)
    have h2 := Int.emod_lt_of_pos x hk
    omega
  · rw [tmod_low x k (by omega)]
    have h1 := Int.emod_nonneg (-x) (by omega : k ≠ 0)
    have h2 := Int.emod_lt_of_pos (-x) hk
    omega
theorem i64_bd {z : Int} (h : (Lit.int .i64 z).wf = true) : -9223372036854775808 ≤ z ∧ z ≤ 9223372036854775807 := by
  simp [Lit.wf, IntKind.min, IntKind.max, IntKind.signed, IntKind.bits] at h
  exact h

theorem u32_bd {z : Int} (h : (Lit.int .u32 z).wf = true) : 0 ≤ z ∧ z < 4294967296 := by
  simp [Lit.wf, IntKind.min, IntKind.max, IntKind.signed, IntKind.bits] at h
  omega
theorem u64_bd {z : Int} (h : (Lit.int .u64 z).wf = true) : 0 ≤ z ∧ z < 18446744073709551616 := by
  simp [Lit.wf, IntKind.min, IntKind.max, IntKind.signed, IntKind.bits] at h
  omega
theorem u8_bd {z : Int} (h : (Lit.int .u8 z).wf = true) : 0 ≤ z ∧ z < 256 := by
  simp [Lit.wf, IntKind.min, IntKind.max, IntKind.signed, IntKind.bits] at h
  omega

/-! ### Blocks -/
/-- Block b holds just these cells, of element type t, none frozen. -/
def Own (w : World) (b : Nat) (t : TypeId) (cs : Array Value) : Prop := w.heap[b]? = some (.cells cs t (0, 0))

theorem Own.lt {w : World} {b : Nat} {t : TypeId} {cs : Array Value} (h : Own w b t cs) : b < w.heap.size := by
  by_cases hb : b < w.heap.size
  · exact hb
  · have : w.heap[b]? = none := Array.getElem?_eq_none (by omega)
    unfold Own at h
    rw [this] at h
    cases h
theorem Own.cell {w : World} {b : Nat} {t : TypeId} {cs : Array Value} (h : Own w b t cs) (i : Nat) : w.cell? ⟨b, i, none⟩ = cs[i]? := by
  unfold Own at h
  simp [World.cell?, h]
theorem Own.free {w : World} {b : Nat} {t : TypeId} {cs : Array Value} (h : Own w b t cs) (i : Nat) : w.frozen? ⟨b, i, none⟩ = false := by
  unfold Own at h
  simp [World.frozen?, h]
theorem Own.new (w : World) (t : TypeId) (cs : Array Value) : Own (w.alloc (.cells cs t)) w.heap.size t cs := heap_alloc_new w _
theorem Own.drewN {w : World} {b : Nat} {t : TypeId} {cs : Array Value} (h : Own w b t cs) (n : Nat) : Own (w.drewN n) b t cs := h
theorem Own.alloc {w : World} {b : Nat} {t : TypeId} {cs : Array Value} (h : Own w b t cs) (o : Obj) : Own (w.alloc o) b t cs := (Below.heap_alloc w o b h.lt).trans h
theorem Own.put {w : World} {b : Nat} {t : TypeId} {cs : Array Value} (h : Own w b t cs) (i : Nat) (u : Value) : Own (w.setCell ⟨b, i, none⟩ u) b t (cs.setIfInBounds i u) := by
  unfold Own at h ⊢
  simp [World.setCell, Array.getElem?_modify, h]
theorem Own.apart {w : World} {b : Nat} {t : TypeId} {cs : Array Value} (h : Own w b t cs) {p : Addr} (hp : b ≠ p.block) (u : Value) : Own (w.setCell p u) b t cs := (Below.heap_setCell w p u b hp).trans h

/-- From w to w' block b alone has turned, and what is new. -/
structure Just (b : Nat) (w w' : World) : Prop where
  os : w'.os = w.os
  tape : w'.tape = w.tape
  output : w'.output = w.output
  size : w.heap.size ≤ w'.heap.size
  block : ∀ k, k < w.heap.size → k ≠ b → w'.heap[k]? = w.heap[k]?

theorem Just.refl (b : Nat) (w : World) : Just b w w := ⟨rfl, rfl, rfl, Nat.le_refl _, fun _ _ _ => rfl⟩
theorem Just.trans {b : Nat} {u v w : World} (h : Just b u v) (k : Just b v w) : Just b u w :=
  ⟨k.os.trans h.os, k.tape.trans h.tape, k.output.trans h.output, Nat.le_trans h.size k.size, fun i hi hb => (k.block i (Nat.lt_of_lt_of_le hi h.size) hb).trans (h.block i hi hb)⟩
theorem Just.drewN {b : Nat} {u w : World} (h : Just b u w) (n : Nat) : Just b u (w.drewN n) := ⟨h.os, h.tape, h.output, h.size, h.block⟩
theorem Just.set (b : Nat) (w : World) (i : Nat) (u : Value) : Just b w (w.setCell ⟨b, i, none⟩ u) :=
  ⟨rfl, rfl, rfl, by simp [World.setCell], fun k _ hb => Below.heap_setCell w _ u k hb⟩
theorem Just.put {b : Nat} {v w : World} (h : Just b v w) (i : Nat) (u : Value) : Just b v (w.setCell ⟨b, i, none⟩ u) := h.trans (Just.set b w i u)
theorem Just.alloc {b : Nat} {v w : World} (h : Just b v w) (o : Obj) : Just b v (w.alloc o) :=
  h.trans ⟨rfl, rfl, rfl, by simp, fun k hk _ => Below.heap_alloc w o k hk⟩
theorem Just.own {b b' : Nat} {w w' : World} {t : TypeId} {cs : Array Value} (j : Just b w w') (h : Own w b' t cs) (hne : b' ≠ b) : Own w' b' t cs := (j.block b' h.lt hne).trans h
theorem Just.below {b B : Nat} {a w w' : World} (j : Just b w w') (h : Below B a w) (hb : B ≤ b) (hB : B ≤ w.heap.size) : Below B a w' :=
  h.trans ⟨j.os, j.tape, j.output, j.size, fun k hk => j.block k (by omega) (by omega)⟩
theorem below_drewN {B : Nat} {a w : World} (h : Below B a w) (n : Nat) : Below B a (w.drewN n) := ⟨h.os, h.tape, h.output, h.size, h.block⟩
theorem below_own {B b : Nat} {w w' : World} {t : TypeId} {cs : Array Value} (h : Below B w w') (k : Own w b t cs) (hb : b < B) : Own w' b t cs := (h.block b hb).trans k
theorem below_le {w w' : World} {B : Nat} (h : Below B w w') : w.heap.size ≤ w'.heap.size := h.size

/-! ### Quiet calls: the callee draws, and that is all -/
theorem quiet_left {P : Program} {f : FuncId} {args : Array Value} {w : World} {a : Nat} {v : Value} (h : Calls P f args (w.drewN a) fun e w' => e = .returned v ∧ w.drewN a = w') :
    Calls P f args (w.drewN a) fun e w' => e = .returned v ∧ ∃ m, w' = w.drewN m :=
  h.mono fun _ _ ⟨he, hw⟩ => ⟨he, a, hw.symm⟩
theorem quiet_some {P : Program} {f : FuncId} {args : Array Value} {w : World} {a : Nat} {v : Value} (h : Calls P f args (w.drewN a) fun e w' => e = .returned v ∧ ∃ m, (w.drewN a).drewN m = w') :
    Calls P f args (w.drewN a) fun e w' => e = .returned v ∧ ∃ m, w' = w.drewN m :=
  h.mono fun _ _ ⟨he, m, hw⟩ => ⟨he, a + m, by rw [← hw, World.drewN_drewN]⟩
theorem quiet_left_add {P : Program} {f : FuncId} {args : Array Value} {w : World} {a b : Nat} {v : Value} (h : Calls P f args (w.drewN (a + b)) fun e w' => e = .returned v ∧ w.drewN (a + b) = w') :
    Calls P f args (w.drewN (a + b)) fun e w' => e = .returned v ∧ ∃ m, w' = w.drewN (a + m) :=
  h.mono fun _ _ ⟨he, hw⟩ => ⟨he, b, hw.symm⟩
theorem quiet_some_add {P : Program} {f : FuncId} {args : Array Value} {w : World} {a b : Nat} {v : Value} (h : Calls P f args (w.drewN (a + b)) fun e w' => e = .returned v ∧ ∃ m, (w.drewN (a + b)).drewN m = w') :
    Calls P f args (w.drewN (a + b)) fun e w' => e = .returned v ∧ ∃ m, w' = w.drewN (a + m) :=
  h.mono fun _ _ ⟨he, m, hw⟩ => ⟨he, b + m, by rw [← hw, World.drewN_drewN, Nat.add_assoc]⟩

/-! ### Slices that came in -/
/-- The slice at a reads as the n cells V 0, V 1, .. -/
def Row (w : World) (a : Option Addr) (n : Nat) (V : Nat → Value) : Prop :=
  0 < n → ∃ b off, a = some ⟨b, off, none⟩ ∧ b < w.heap.size ∧ ∀ i, i < n → w.cell? ⟨b, off + i, none⟩ = some (V i)
theorem Row.at_ {w : World} {a : Option Addr} {n k : Nat} {V : Nat → Value} (h : Row w a n V) (hk : k < n) :
    ∃ b off, a = some ⟨b, off, none⟩ ∧ b < w.heap.size ∧ w.cell? ⟨b, off + k, none⟩ = some (V k) := by
  obtain ⟨b, off, h1, h2, h3⟩ := h (by omega)
  exact ⟨b, off, h1, h2, h3 k hk⟩
theorem Row.below {w w' : World} {a : Option Addr} {n : Nat} {V : Nat → Value} (h : Row w a n V) (hb : Below w.heap.size w w') : Row w' a n V := by
  intro hn
  obtain ⟨b, off, h1, h2, h3⟩ := h hn
  exact ⟨b, off, h1, Nat.lt_of_lt_of_le h2 hb.size, fun i hi => (hb.cell (p := ⟨b, off + i, none⟩) h2).trans (h3 i hi)⟩
theorem Row.cut {w : World} {a : Option Addr} {n m : Nat} {V : Nat → Value} (h : Row w a n V) (hm : m ≤ n) : Row w a m V := by
  intro hn
  obtain ⟨b, off, h1, h2, h3⟩ := h (by omega)
  exact ⟨b, off, h1, h2, fun i hi => h3 i (by omega)⟩
theorem Row.nil (w : World) (a : Option Addr) (V : Nat → Value) : Row w a 0 V := fun h => absurd h (by omega)
theorem Row.at_old {w w' : World} {a : Option Addr} {n k : Nat} {V : Nat → Value} (h : Row w a n V) (hb : Below w.heap.size w w') (hk : k < n) :
    ∃ b off, a = some ⟨b, off, none⟩ ∧ b < w.heap.size ∧ w'.cell? ⟨b, off + k, none⟩ = some (V k) := by
  obtain ⟨b, off, h1, h2, h3⟩ := h.at_ hk
  exact ⟨b, off, h1, h2, (hb.cell (p := ⟨b, off + k, none⟩) h2).trans h3⟩

/-- Struct k of a row of structs of m cells, in a later world. -/
theorem Row.at_struct {w w' : World} {a : Option Addr} {n m k : Nat} {V : Nat → Value} (h : Row w a (n * m) V) (hb : Below w.heap.size w w') (hk : k < n) (hm : 0 < m) :
    ∃ b off, a = some ⟨b, off, none⟩ ∧ b < w.heap.size ∧ ∀ j, j < m → w'.cell? ⟨b, off + k * m + j, none⟩ = some (V (k * m + j)) := by
  have hl : ∀ j, j < m → k * m + j < n * m := fun j hj => by
    have : (k + 1) * m ≤ n * m := Nat.mul_le_mul_right m hk
    rw [Nat.add_mul] at this
    omega
  obtain ⟨b, off, h1, h2, h3⟩ := h (by have := hl 0 hm; omega)
  exact ⟨b, off, h1, h2, fun j hj => (hb.cell (p := ⟨b, off + k * m + j, none⟩) h2).trans (by rw [Nat.add_assoc]; exact h3 _ (hl j hj))⟩
theorem row_new (w : World) (cs : Array Value) (e : TypeId) (fz : Nat × Nat) {n : Nat} {V : Nat → Value} (h : ∀ i, i < n → cs[i]? = some (V i)) : Row (w.alloc (.cells cs e fz)) (some ⟨w.heap.size, 0, none⟩) n V := by
  intro hn
  refine ⟨_, _, rfl, by simp, fun i hi => ?_⟩
  have e1 : (w.alloc (.cells cs e fz)).heap[w.heap.size]? = some (.cells cs e fz) := heap_alloc_new w _
  rw [Nat.zero_add, cell_of_row _ _ _ _ _ _ e1, h i hi]
theorem Row.own {w : World} {b : Nat} {t : TypeId} {cs : Array Value} {n : Nat} {V : Nat → Value} (h : Own w b t cs) (hv : ∀ i, i < n → cs[i]? = some (V i)) : Row w (some ⟨b, 0, none⟩) n V := by
  intro hn
  exact ⟨_, _, rfl, h.lt, fun i hi => by rw [Nat.zero_add, h.cell, hv i hi]⟩
theorem Row.drewN {w : World} {a : Option Addr} {n : Nat} {V : Nat → Value} (h : Row w a n V) (m : Nat) : Row (w.drewN m) a n V := h

theorem lt_of_cell {w : World} {a : Addr} {v : Value} (h : w.cell? a = some v) : a.block < w.heap.size := by
  by_cases hb : a.block < w.heap.size
  · exact hb
  · have : w.heap[a.block]? = none := Array.getElem?_eq_none (by omega)
    unfold World.cell? at h
    rw [this] at h
    cases h

section
variable {H : Type} {enc : TypeId × Value → H} {P : Program} {w : World} {base : Nat}
theorem open_row {t e : TypeId} {v : Value} {d : DataW H} {p : List MemPlace} (ht : P.underlying t = some (.slice e)) (hc : P.cellsOf e = 1) (hv : Value.okWide P w .any base t v)
    (h : DataW.Trod enc P w 0 (fun _ => true) true t v d p) :
    ∃ a n c V, v = .slice a n c ∧ n ≤ c ∧ c ≤ maxLen ∧ Row w a n V ∧ ∀ i, i < n → ∃ f y, DataW.trod enc P w 0 (fun _ => true) true f e [V i] = some y := by
  obtain ⟨a0, len, cap, rfl⟩ := okWide_slice ht hv
  obtain ⟨fuel, hf⟩ := h
  rcases open_slice1 ht hc hf with ⟨hcs, _⟩ | ⟨x, l, c, m, n, V, D, Pl, hcs, _, hl, hm, hmm, _, hx⟩
  · simp [Value.cells] at hcs
    obtain ⟨rfl, rfl, rfl⟩ := hcs
    exact ⟨none, 0, 0, fun _ => undef, rfl, Nat.le_refl _, Nat.zero_le _, Row.nil _ _ _, fun i hi => absurd hi (by omega)⟩
  · simp [Value.cells] at hcs
    obtain ⟨rfl, rfl, rfl⟩ := hcs
    simp only [if_true] at hmm
    subst hmm
    obtain ⟨b, off, spot⟩ := x
    refine ⟨_, _, _, V, rfl, hl, hm, fun hn => ?_, fun i hi => ⟨_, _, (hx i (by omega)).2⟩⟩
    have h0 := (hx 0 (by omega)).1
    have hspot : spot = none := by simpa [Addr.add] using World.cell?_spot h0
    subst hspot
    refine ⟨b, off, rfl, ?_, fun i hi => ?_⟩
    · simpa [Addr.add] using lt_of_cell h0
    · have := (hx i (by omega)).1
      unfold Addr.add at this
      split at this
      · rename_i hi0
        subst hi0
        exact this
      · exact this

theorem choose_fn {α : Type} {q : Nat → α → Prop} {n : Nat} (d : α) (h : ∀ i, i < n → ∃ x, q i x) : ∃ f : Nat → α, ∀ i, i < n → q i (f i) := by
  refine ⟨fun i => if hi : i < n then Classical.choose (h i hi) else d, fun i hi => ?_⟩
  simp only [dif_pos hi]
  exact Classical.choose_spec (h i hi)

/-- A slice of structs, each field of one cell: the cells, field by field. -/
theorem open_row_struct {t e : TypeId} {fs : Array Field} {v : Value} {d : DataW H} {p : List MemPlace} (ht : P.underlying t = some (.slice e)) (he : P.underlying e = some (.struct fs)) (hone : oneCellFields P fs = true)
    (hC : P.cellsOf e = fs.size) (hpos : 0 < fs.size) (hv : Value.okWide P w .any base t v) (h : DataW.Trod enc P w 0 (fun _ => true) true t v d p) :
    ∃ a n c V, v = .slice a n c ∧ n ≤ c ∧ c ≤ maxLen ∧ Row w a (n * fs.size) V ∧ ∀ i, i < n → ∀ (j : Nat) (g : Field), fs[j]? = some g → ∃ f y, DataW.trod enc P w 0 (fun _ => true) true f g.type [V (i * fs.size + j)] = some y := by
  obtain ⟨a0, len, cap, rfl⟩ := okWide_slice ht hv
  obtain ⟨fuel, hf⟩ := h
  rcases open_slice ht hf with ⟨hcs, _⟩ | ⟨x, l, c, m, n, D, Pl, hcs, _, hl, hm, hmm, _, hx⟩
  · simp [Value.cells] at hcs
    obtain ⟨rfl, rfl, rfl⟩ := hcs
    exact ⟨none, 0, 0, fun _ => undef, rfl, Nat.le_refl _, Nat.zero_le _, by rw [Nat.zero_mul]; exact Row.nil _ _ _, fun i hi => absurd hi (by omega)⟩
  · simp [Value.cells] at hcs
    obtain ⟨rfl, rfl, rfl⟩ := hcs
    simp only [if_true] at hmm
    subst hmm
    obtain ⟨b, off, spot⟩ := x
    obtain ⟨C, hCs⟩ := choose_fn (q := fun i cs' => w.cells? 0 ((⟨b, off, spot⟩ : Addr).add (i * P.cellsOf e)) (P.cellsOf e) = some cs' ∧ DataW.trod enc P w 0 (fun _ => true) true n e cs' = some (D i, Pl i)) ([] : List Value) (n := len)
      (fun i hi => hx i (by omega))
    rw [hC] at hCs
    have hcell : ∀ i, i < len → ∀ j, j < fs.size → w.cell? (((⟨b, off, spot⟩ : Addr).add (i * fs.size)).add j) = (C i)[j]? := fun i hi => (World.cells?_some (hCs i hi).1).2.2
    have hlen : ∀ i, i < len → (C i).length = fs.size := fun i hi => (World.cells?_some (hCs i hi).1).2.1
    refine ⟨_, _, _, fun q => ((C (q / fs.size))[q % fs.size]?).getD undef, rfl, hl, hm, fun hn => ?_, fun i hi j g hj => ?_⟩
    · have hl0 : 0 < len := Nat.pos_of_mul_pos_right hn
      have h0 := hcell 0 hl0 0 hpos
      rw [List.getElem?_eq_getElem (by rw [hlen 0 hl0]; exact hpos)] at h0
      have hspot : spot = none := by simpa [Addr.add] using World.cell?_spot h0
      subst hspot
      refine ⟨b, off, rfl, by simpa [Addr.add] using lt_of_cell h0, fun q hq => ?_⟩
      have hi : q / fs.size < len := Nat.div_lt_of_lt_mul (by rw [Nat.mul_comm]; exact hq)
      have hj : q % fs.size < fs.size := Nat.mod_lt _ hpos
      have h1 := hcell _ hi _ hj
      have he : (((⟨b, off, none⟩ : Addr).add (q / fs.size * fs.size)).add (q % fs.size)) = ⟨b, off + q, none⟩ := by
        have hq' : q / fs.size * fs.size + q % fs.size = q := Nat.div_add_mod' q fs.size
        unfold Addr.add
        split <;> split <;> simp <;> omega
      rw [he] at h1
      have hjc : q % fs.size < (C (q / fs.size)).length := by rw [hlen _ hi]; exact hj
      rw [h1]
      simp only [List.getElem?_eq_getElem hjc, Option.getD_some]
    · obtain ⟨ys, n', _, _, hcl, hyl, hg⟩ := DataW.trod_struct he (hCs i hi).2
      obtain ⟨ho, hk⟩ := hone_of hone j g hj
      have hjl : j < fs.size := (Array.getElem?_eq_some_iff.1 hj).1
      have h1 := hg j g hj
      rw [ho, hk] at h1
      have hcj : j < (C i).length := by rw [hlen i hi]; exact hjl
      have e1 : ((C i).drop j).take 1 = [(C i)[j]] := by
        rw [List.drop_eq_getElem_cons hcj]
        rfl
      have e2 : (i * fs.size + j) / fs.size = i := by rw [Nat.add_comm, Nat.add_mul_div_right _ _ hpos, Nat.div_eq_of_lt hjl, Nat.zero_add]
      have e3 : (i * fs.size + j) % fs.size = j := by rw [Nat.add_comm, Nat.add_mul_mod_self_right, Nat.mod_eq_of_lt hjl]
      rw [e1, List.getElem?_eq_getElem (by omega)] at h1
      exact ⟨n', _, by simp only [e2, e3, List.getElem?_eq_getElem hcj, Option.getD_some]; exact h1⟩

/-- A field of integers of a row of structs; a field of bools. -/
theorem field_int {n m j : Nat} {t : TypeId} {k : IntKind} {V : Nat → Value} (ht : P.underlying t = some (.int k)) (hf : ∀ i, i < n → ∃ f y, DataW.trod enc P w 0 (fun _ => true) true f t [V (i * m + j)] = some y) :
    ∃ X : Nat → Int, ∀ i, i < n → V (i * m + j) = .int k (X i) ∧ (Lit.int k (X i)).wf = true :=
  choose_fn (q := fun i z => V (i * m + j) = .int k z ∧ (Lit.int k z).wf = true) (0 : Int) (fun i hi => by
    obtain ⟨f, y, hy⟩ := hf i hi
    obtain ⟨z, hz, _, hw⟩ := DataW.trod_int ht hy
    exact ⟨z, by simpa using hz, hw⟩)
theorem field_bool {n m j : Nat} {t : TypeId} {V : Nat → Value} (ht : P.underlying t = some .bool) (hf : ∀ i, i < n → ∃ f y, DataW.trod enc P w 0 (fun _ => true) true f t [V (i * m + j)] = some y) :
    ∃ X : Nat → Bool, ∀ i, i < n → V (i * m + j) = .bool (X i) :=
  choose_fn (q := fun i z => V (i * m + j) = .bool z) false (fun i hi => by
    obtain ⟨f, y, hy⟩ := hf i hi
    obtain ⟨z, hz, _⟩ := DataW.trod_bool ht hy
    exact ⟨z, by simpa using hz⟩)
theorem open_row_bool {t e : TypeId} {v : Value} {d : DataW H} {p : List MemPlace} (ht : P.underlying t = some (.slice e)) (he : P.underlying e = some .bool) (hc : P.cellsOf e = 1) (hv : Value.okWide P w .any base t v)
    (h : DataW.Trod enc P w 0 (fun _ => true) true t v d p) : ∃ a n c, ∃ B : Nat → Bool, v = .slice a n c ∧ n ≤ c ∧ c ≤ maxLen ∧ Row w a n (fun i => .bool (B i)) := by
  obtain ⟨a, n, c, V, rfl, h1, h2, h3, h4⟩ := open_row ht hc hv h
  obtain ⟨B, hB⟩ := choose_fn (q := fun i b => V i = .bool b) false (fun i hi => by
    obtain ⟨f, y, hy⟩ := h4 i hi
    obtain ⟨b, hb, _⟩ := DataW.trod_bool he hy
    exact ⟨b, by simpa using hb⟩)
  refine ⟨a, n, c, B, rfl, h1, h2, fun hn => ?_⟩
  obtain ⟨b, off, e1, e2, e3⟩ := h3 hn
  exact ⟨b, off, e1, e2, fun i hi => by rw [e3 i hi, hB i hi]⟩

theorem open_row_int {t e : TypeId} {k : IntKind} {v : Value} {d : DataW H} {p : List MemPlace} (ht : P.underlying t = some (.slice e)) (he : P.underlying e = some (.int k)) (hc : P.cellsOf e = 1) (hv : Value.okWide P w .any base t v)
    (h : DataW.Trod enc P w 0 (fun _ => true) true t v d p) : ∃ a n c, ∃ Z : Nat → Int, v = .slice a n c ∧ n ≤ c ∧ c ≤ maxLen ∧ Row w a n (fun i => .int k (Z i)) ∧ ∀ i, (Lit.int k (Z i)).wf = true := by
  obtain ⟨a, n, c, V, rfl, h1, h2, h3, h4⟩ := open_row ht hc hv h
  obtain ⟨Z, hZ⟩ := choose_fn (q := fun i z => V i = .int k z ∧ (Lit.int k z).wf = true) (0 : Int) (fun i hi => by
    obtain ⟨f, y, hy⟩ := h4 i hi
    obtain ⟨z, hz, _, hw⟩ := DataW.trod_int he hy
    exact ⟨z, by simpa using hz, hw⟩)
  refine ⟨a, n, c, fun i => if i < n then Z i else 0, rfl, h1, h2, fun hn => ?_, fun i => ?_⟩
  · obtain ⟨b, off, e1, e2, e3⟩ := h3 hn
    exact ⟨b, off, e1, e2, fun i hi => by simp only [e3 i hi, (hZ i hi).1, if_pos hi]⟩
  · by_cases hi : i < n
    · simp only [if_pos hi]; exact (hZ i hi).2
    · simp only [if_neg hi]; cases k <;> decide
end

/-! ### The frame of a law -/
section
variable {H : Type} {enc : TypeId × Value → H} {P : Program}
theorem trodAll_below (hl : laidOutB P = true) {W W' : World} (hb : Below W.heap.size W W') :
    ∀ {ts : List TypeId} {vs : List Value} {ds : List (DataW H)} {ps : List MemPlace}, (∀ t ∈ ts, P.readableRec t = true ∧ t < P.types.size) →
      DataW.TrodAll enc P W 0 (fun _ => true) true ts vs ds ps → (∀ x ∈ ps, x.block < W.heap.size) → DataW.TrodAll enc P W' 0 (fun b => decide (b < W.heap.size)) true ts vs ds ps
  | [], _, _, _, _, h, _ => by obtain ⟨rfl, rfl, rfl⟩ := trodAll_nil h; exact trodAll_mk0
  | t :: ts, vs, ds, ps, hts, h, hp => by
    obtain ⟨v, vs', d, ds', p, q, rfl, rfl, rfl, h0, h1⟩ := trodAll_cons h
    have ht := hts t (by simp)
    exact trodAll_cons_mk (Below.trod hl ht.1 ht.2 h0 hb (fun x hx => hp x (by simp [hx]))) (trodAll_below hl hb (fun u hu => hts u (by simp [hu])) h1 (fun x hx => hp x (by simp [hx])))

/-- What a law's walk owes: for whatever arguments that can be read the call returns true and turns nothing that was there. -/
def Walk (H : Type) (enc : TypeId × Value → H) (P : Program) (F : FuncId) (f : Func) : Prop :=
  ∀ (W : World) (base : Nat) (args : Array Value) (ds : List (DataW H)) (p : List MemPlace),
    (∀ (j : Nat) t v, f.params[j]? = some t → args[j]? = some v → Value.okWide P W .any base t v) →
    DataW.TrodAll enc P W 0 (fun _ => true) true f.params.toList args.toList ds p →
    Calls P F args W fun e w' => e = .returned (.bool true) ∧ Below W.heap.size W w'

theorem step_of_walk {F : FuncId} {f : Func} {s : ChangeSpec} {tb : TypeId} (hl : laidOutB P = true) (hts : ∀ t ∈ f.params.toList, P.readableRec t = true ∧ t < P.types.size)
    (hres : f.resultTypes = #[tb]) (htb : P.underlying tb = some .bool) (hv : s.vars = [])
    (hs : ∀ ds : List (DataW H), ds.length = f.params.size → s.fn H ds = { results := [.lit (.bool true)], args := ds })
    (walk : Walk H enc P F f) :
    ∀ (W : World) (base : Nat) (args : Array Value) (ds gs : List (DataW H)) (before : List MemPlace),
      (∀ (j : Nat) t v, f.params[j]? = some t → args[j]? = some v → Value.okWide P W .any base t v) →
      DataW.Whole enc P f.params.toList s.vars false W args.toList ds gs before → 
      Calls P F args W fun e W' => ∃ v, e = .returned v ∧ s.post enc P f false true false false W args v W' := by
  intro W base args ds gs before hval hW
  have hW' := hW
  obtain ⟨p, q, hA, hV, rfl, hfz, hnd⟩ := hW
  rw [hv] at hV
  obtain ⟨rfl, rfl⟩ := trodVars_none hV
  have hlt : ∀ x ∈ p, x.block < W.heap.size := fun x hx => hW'.lt x (by simp [hx])
  have hlen : ds.length = f.params.size := by
    have := (trodAll_length hA).2
    simpa using this
  refine (walk W base args ds p hval hA).mono fun e W' ⟨he, bel⟩ => ?_
  subst he
  have hfn : s.fn H (ds ++ []) = { results := [.lit (.bool true)], args := ds } := by rw [List.append_nil]; exact hs ds hlen
  refine ⟨_, rfl, ds, [], p ++ [], [], p, [], hW', ?_, ?_, ?_, bel.frame _, fun h => by cases h⟩
  · rw [hfn, hres]
    exact trodAll_mk1 (shut_bool htb _)
  · rw [hfn]
    exact trodAll_below hl bel hts hA hlt
  · rw [hv, hfn]
    rfl
end
end Go.Proofs.YtiflmdekcjbmbaaGreat.Lb
set_option maxRecDepth 100000
namespace Go.Proofs.YtiflmdekcjbmbaaGreat.Ck
set_option linter.unusedVariables false
set_option linter.unusedSimpArgs false
open Go.RowKit Lb

/-- Block b is a clock: put to p, d millionths drifted since, s slots gone by. -/
def Clk (w : World) (b : Nat) (p d s : Int) : Prop := Own w b 172 #[.int .i64 p, .int .i64 d, .int .i64 s]
def Ref (w : World) (b : Nat) (p d s : Int) : Prop := Own w b 97 #[.int .i64 p, .int .i64 d, .int .i64 s]
def lim (n m : Int) : Int := min (max n (-m)) m
theorem lim_low (n m : Int) (h : 0 ≤ m) : -m ≤ lim n m := by unfold lim; omega
theorem lim_high (n m : Int) : lim n m ≤ m := by unfold lim; omega
/-- How far off. -/
def off (p d : Int) : Int := p + d / 1000000

theorem new_any (w : World) :
    Calls Tryz.prog 118 #[] w fun r w' => r = .returned (.pointer (some ⟨w.heap.size, 0, none⟩)) ∧ Clk w' w.heap.size 0 0 0 ∧ Below w.heap.size w w' ∧ w.heap.size < w'.heap.size := by
  go_enter Tryz.func118, Tryz.ntmps118
  go_wp2
  go_ret
  exact ⟨rfl, Own.new _ _ _, (Below.refl _ _).alloc (Nat.le_refl _) _, by simp⟩

theorem cut_int (n m : Int) (w : World) (h0 : 0 ≤ m) (h1 : m ≤ 1000000000000) :
    Calls Tryz.prog 125 #[.int .i64 n, .int .i64 m] w fun r w' => r = .returned (.int .i64 (lim n m)) ∧ w = w' := by
  go_enter Tryz.func125, Tryz.ntmps125
  go_wp2
  go_ret
  exact ⟨rfl, rfl⟩

theorem cut_long (n m : Int) (w : World) (h0 : 0 ≤ m) (h1 : m ≤ 1000000000000) :
    Calls Tryz.prog 173 #[.int .i64 n, .int .i64 m] w fun r w' => r = .returned (.int .i64 (lim n m)) ∧ w = w' := by
  go_enter Tryz.func173, Tryz.ntmps173
  go_wp2
  go_ret
  exact ⟨rfl, rfl⟩

theorem slot_any (b : Nat) (p d s n : Int) (w : World) (h : Clk w b p d s) (hs0 : 0 ≤ s) (hs1 : s < 1099511627776) (hd0 : -2000000000000000000 ≤ d) (hd1 : d ≤ 2000000000000000000) :
    Calls Tryz.prog 58 #[.pointer (some ⟨b, 0, none⟩), .int .i64 n] w fun r w' => r = .returned (.tuple #[]) ∧ Clk w' b p (d + lim n 100 * 10000) (s + 1) ∧ Just b w w' := by
  have c1 : w.cell? ⟨b, 1, none⟩ = some (.int .i64 d) := h.cell 1
  have c2 : w.cell? ⟨b, 2, none⟩ = some (.int .i64 s) := h.cell 2
  have f1 : w.frozen? ⟨b, 1, none⟩ = false := h.free 1
  have f2 : w.frozen? ⟨b, 2, none⟩ = false := h.free 2
  have hne : (s == 1099511627776) = false := by simp; omega
  have l0 := lim_low n 100 (by omega)
  have l1 := lim_high n 100
  go_enter Tryz.func58, Tryz.ntmps58
  go_wp2_with (go_at_call 125; refine (cut_int _ _ _ (by omega) (by omega)).mono ?_; rintro r w' ⟨rfl, rfl⟩)
  have e1 : IntKind.i64.wrap (lim n 100 * 10000) = lim n 100 * 10000 := IntWalk.i64_in _ (by omega)
  have e2 : IntKind.i64.wrap (d + lim n 100 * 10000) = d + lim n 100 * 10000 := IntWalk.i64_in _ (by omega)
  go_region_with (go_at_call 125; refine (cut_int _ _ _ (by omega) (by omega)).mono ?_; rintro r w' ⟨rfl, rfl⟩)
  all_goals
    go_end0
    exact ⟨rfl, Own.put (Own.put h 2 _) 1 _, ((Just.set b w 2 _).put 1 _).drewN 1⟩

theorem slot_full (b : Nat) (p d n : Int) (w : World) (h : Clk w b p d 1099511627776) :
    Calls Tryz.prog 58 #[.pointer (some ⟨b, 0, none⟩), .int .i64 n] w fun r w' => r = .returned (.tuple #[]) ∧ ∃ m, w.drewN m = w' := by
  have c2 : w.cell? ⟨b, 2, none⟩ = some (.int .i64 1099511627776) := h.cell 2
  go_enter Tryz.func58, Tryz.ntmps58
  go_wp2_with fail
  refine bodyPost_ret (results_none rfl _ _ _) rfl ?_
  exact ⟨rfl, 0, rfl⟩

theorem slot_nil (n : Int) (w : World) :
    Calls Tryz.prog 58 #[.pointer none, .int .i64 n] w fun r w' => r = .returned (.tuple #[]) ∧ w = w' := by
  go_enter Tryz.func58, Tryz.ntmps58
  go_wp2_with fail
  refine bodyPost_ret (results_none rfl _ _ _) rfl ?_
  exact ⟨rfl, rfl⟩

theorem put_any (b : Nat) (p d s n : Int) (w : World) (h : Clk w b p d s) :
    Calls Tryz.prog 107 #[.pointer (some ⟨b, 0, none⟩), .int .i64 n] w fun r w' => r = .returned (.tuple #[]) ∧ Clk w' b (lim n 1000000000000) 0 s ∧ Just b w w' := by
  have c0 : w.cell? ⟨b, 0, none⟩ = some (.int .i64 p) := h.cell 0
  have c1 : w.cell? ⟨b, 1, none⟩ = some (.int .i64 d) := h.cell 1
  have f0 : w.frozen? ⟨b, 0, none⟩ = false := h.free 0
  have f1 : w.frozen? ⟨b, 1, none⟩ = false := h.free 1
  go_enter Tryz.func107, Tryz.ntmps107
  go_wp2_with (go_at_call 173; refine (cut_long _ _ _ (by omega) (by omega)).mono ?_; rintro r w' ⟨rfl, rfl⟩)
  go_end0
  exact ⟨rfl, Own.put (Own.put h 0 _) 1 _, (Just.set b w 0 _).put 1 _⟩

theorem put_nil (n : Int) (w : World) :
    Calls Tryz.prog 107 #[.pointer none, .int .i64 n] w fun r w' => r = .returned (.tuple #[]) ∧ w = w' := by
  go_enter Tryz.func107, Tryz.ntmps107
  go_wp2_with fail
  go_end0
  exact ⟨rfl, rfl⟩

theorem move_any (b : Nat) (p d s n : Int) (w : World) (h : Clk w b p d s) (hp0 : -2000000000000 ≤ p) (hp1 : p ≤ 2000000000000) :
    Calls Tryz.prog 143 #[.pointer (some ⟨b, 0, none⟩), .int .i64 n] w fun r w' => r = .returned (.tuple #[]) ∧ Clk w' b (lim (p + lim n 1000000) 1000000000000) d s ∧ Just b w w' := by
  have c0 : w.cell? ⟨b, 0, none⟩ = some (.int .i64 p) := h.cell 0
  have f0 : w.frozen? ⟨b, 0, none⟩ = false := h.free 0
  have l0 := lim_low n 1000000 (by omega)
  have l1 := lim_high n 1000000
  go_enter Tryz.func143, Tryz.ntmps143
  go_wp2_with fail
  have e1 : IntKind.i64.wrap (p + lim n 1000000) = p + lim n 1000000 := IntWalk.i64_in _ (by omega)
  go_region_with (first
    | (go_at_call 125; refine (cut_int _ _ _ (by omega) (by omega)).mono ?_; rintro r w' ⟨rfl, rfl⟩)
    | (go_at_call 173; refine (cut_long _ _ _ (by omega) (by omega)).mono ?_; rintro r w' ⟨rfl, rfl⟩))
  all_goals
    go_end0
    exact ⟨rfl, Own.put h 0 _, (Just.set b w 0 _).drewN 1⟩

theorem move_nil (n : Int) (w : World) :
    Calls Tryz.prog 143 #[.pointer none, .int .i64 n] w fun r w' => r = .returned (.tuple #[]) ∧ w = w' := by
  go_enter Tryz.func143, Tryz.ntmps143
  go_wp2_with fail
  go_end0
  exact ⟨rfl, rfl⟩

theorem off_any (b : Nat) (p d s : Int) (w : World) (h : Clk w b p d s) (hp0 : -2000000000000 ≤ p) (hp1 : p ≤ 2000000000000) (hd0 : -4000000000000000000 ≤ d) (hd1 : d ≤ 4000000000000000000) :
    Calls Tryz.prog 106 #[.pointer (some ⟨b, 0, none⟩)] w fun r w' => r = .returned (.int .i64 (off p d)) ∧ ∃ m, w.drewN m = w' := by
  have c0 : w.cell? ⟨b, 0, none⟩ = some (.int .i64 p) := h.cell 0
  have c1 : w.cell? ⟨b, 1, none⟩ = some (.int .i64 d) := h.cell 1
  by_cases hd : 0 ≤ d
  · go_enter Tryz.func106, Tryz.ntmps106
    go_wp2_with fail
    go_ret
    exact ⟨rfl, 0, rfl⟩
  · have t1 := tdiv_low d 1000000 (by omega) (by omega)
    have t2 := tmod_low d 1000000 (by omega)
    by_cases hm : d.tmod 1000000 < 0
    · have b1 : -4000000000000 ≤ d.tdiv 1000000 := by omega
      have b2 : d.tdiv 1000000 ≤ 0 := by omega
      have hoff : off p d = p + (d.tdiv 1000000 - 1) := by unfold off; omega
      have H := Lib.hid hoff
      clear t1 t2 hoff
      go_enter Tryz.func106, Tryz.ntmps106
      go_wp2_with fail
      go_ret
      exact ⟨by rw [H.out]; first | rfl | (congr 2; omega), 0, rfl⟩
    · have b1 : -4000000000000 ≤ d.tdiv 1000000 := by omega
      have b2 : d.tdiv 1000000 ≤ 0 := by omega
      have hoff : off p d = p + d.tdiv 1000000 := by unfold off; omega
      have H := Lib.hid hoff
      clear t1 t2 hoff
      go_enter Tryz.func106, Tryz.ntmps106
      go_wp2_with fail
      go_ret
      exact ⟨by rw [H.out]; first | rfl | (congr 2; omega), 0, rfl⟩

theorem off_nil (w : World) :
    Calls Tryz.prog 106 #[.pointer none] w fun r w' => r = .returned (.int .i64 0) ∧ w = w' := by
  go_enter Tryz.func106, Tryz.ntmps106
  go_wp2_with fail
  go_ret
  exact ⟨rfl, rfl⟩

theorem slots_any (b : Nat) (p d s : Int) (w : World) (h : Clk w b p d s) :
    Calls Tryz.prog 62 #[.pointer (some ⟨b, 0, none⟩)] w fun r w' => r = .returned (.int .i64 s) ∧ w = w' := by
  have c2 : w.cell? ⟨b, 2, none⟩ = some (.int .i64 s) := h.cell 2
  go_enter Tryz.func62, Tryz.ntmps62
  go_wp2_with fail
  go_ret
  exact ⟨rfl, rfl⟩

theorem slots_nil (w : World) :
    Calls Tryz.prog 62 #[.pointer none] w fun r w' => r = .returned (.int .i64 0) ∧ w = w' := by
  go_enter Tryz.func62, Tryz.ntmps62
  go_wp2_with fail
  go_ret
  exact ⟨rfl, rfl⟩
end Go.Proofs.YtiflmdekcjbmbaaGreat.Ck
namespace Go.Proofs.YtiflmdekcjbmbaaGreat.Kp
set_option linter.unusedVariables false
set_option linter.unusedSimpArgs false
open Go.RowKit Lb

/-- Block b is a keeper: every e slots, s slots since the last sign. -/
def Kee (w : World) (b : Nat) (e s : Int) : Prop := Own w b 213 #[.int .i64 e, .int .i64 s]
def Ref (w : World) (b : Nat) (e s : Int) : Prop := Own w b 143 #[.int .i64 e, .int .i64 s]

theorem new_any (e : Int) (w : World) :
    Calls Tryz.prog 145 #[.int .i64 e] w fun r w' => r = .returned (.pointer (some ⟨w.heap.size, 0, none⟩)) ∧ Kee w' w.heap.size (min (max e 1) 10000) 0 ∧ Below w.heap.size w w' ∧ w.heap.size < w'.heap.size := by
  go_enter Tryz.func145, Tryz.ntmps145
  go_wp2
  go_ret
  exact ⟨rfl, Own.new _ _ _, (Below.refl _ _).alloc (Nat.le_refl _) _, by simp⟩

theorem rnew_any (e : Int) (w : World) :
    Calls Tryz.prog 83 #[.int .i64 e] w fun r w' => r = .returned (.pointer (some ⟨w.heap.size, 0, none⟩)) ∧ Ref w' w.heap.size (min (max e 1) 10000) 0 ∧ Below w.heap.size w w' ∧ w.heap.size < w'.heap.size := by
  go_enter Tryz.func83, Tryz.ntmps83
  go_wp2
  go_ret
  have h : max 1 (min e 10000) = min (max e 1) 10000 := by omega
  exact ⟨rfl, by rw [← h]; exact Own.new _ _ _, (Below.refl _ _).alloc (Nat.le_refl _) _, by simp⟩

theorem slot_any (b : Nat) (e s : Int) (w : World) (h : Kee w b e s) (hs0 : 0 ≤ s) (hs1 : s ≤ 1000000) :
    Calls Tryz.prog 97 #[.pointer (some ⟨b, 0, none⟩)] w fun r w' => r = .returned (.tuple #[]) ∧ Kee w' b e (min (s + 1) 1000000) ∧ Just b w w' := by
  have h1 : w.cell? ⟨b, 1, none⟩ = some (.int .i64 s) := h.cell 1
  have hf : w.frozen? ⟨b, 1, none⟩ = false := h.free 1
  go_enter Tryz.func97, Tryz.ntmps97
  go_wp2
  go_end0
  exact ⟨rfl, h.put 1 _, Just.set _ _ _ _⟩

theorem min_succ (s : Int) (h : s < 1000000) : min (s + 1) 1000000 = s + 1 := by omega
theorem slot_up (b : Nat) (e s : Int) (w : World) (h : Kee w b e s) (hs0 : 0 ≤ s) (hs1 : s < 1000000) :
    Calls Tryz.prog 97 #[.pointer (some ⟨b, 0, none⟩)] w fun r w' => r = .returned (.tuple #[]) ∧ Kee w' b e (s + 1) ∧ Just b w w' :=
  (slot_any b e s w h hs0 (Int.le_of_lt hs1)).mono fun _ _ ⟨h1, h2, h3⟩ => ⟨h1, by rw [min_succ s hs1] at h2; exact h2, h3⟩

theorem slot_nil (w : World) :
    Calls Tryz.prog 97 #[.pointer none] w fun r w' => r = .returned (.tuple #[]) ∧ w = w' := by
  go_enter Tryz.func97, Tryz.ntmps97
  go_wp2
  go_end0
  exact ⟨rfl, rfl⟩

theorem rslot_any (b : Nat) (e s : Int) (w : World) (h : Ref w b e s) (hs0 : 0 ≤ s) (hs1 : s ≤ 1000000) :
    Calls Tryz.prog 100 #[.pointer (some ⟨b, 0, none⟩)] w fun r w' => r = .returned (.tuple #[]) ∧ Ref w' b e (min (s + 1) 1000000) ∧ Just b w w' := by
  have h1 : w.cell? ⟨b, 1, none⟩ = some (.int .i64 s) := h.cell 1
  have hf : w.frozen? ⟨b, 1, none⟩ = false := h.free 1
  go_enter Tryz.func100, Tryz.ntmps100
  go_wp2
  go_end0
  exact ⟨rfl, h.put 1 _, Just.set _ _ _ _⟩

theorem rdue_any (b : Nat) (e s : Int) (w : World) (h : Ref w b e s) :
    Calls Tryz.prog 140 #[.pointer (some ⟨b, 0, none⟩)] w fun r w' => r = .returned (.bool (decide (e ≤ s))) ∧ ∃ n, w.drewN n = w' := by
  have h0 : w.cell? ⟨b, 0, none⟩ = some (.int .i64 e) := h.cell 0
  have h1 : w.cell? ⟨b, 1, none⟩ = some (.int .i64 s) := h.cell 1
  go_enter Tryz.func140, Tryz.ntmps140
  go_wp2
  go_quiet (fail)
  go_wp2
  go_ret
  exact ⟨rfl, _, rfl⟩

theorem heard_any (b : Nat) (e s : Int) (w : World) (h : Kee w b e s) :
    Calls Tryz.prog 146 #[.pointer (some ⟨b, 0, none⟩)] w fun r w' => r = .returned (.tuple #[]) ∧ Kee w' b e 0 ∧ Just b w w' := by
  have h1 : w.cell? ⟨b, 1, none⟩ = some (.int .i64 s) := h.cell 1
  have hf : w.frozen? ⟨b, 1, none⟩ = false := h.free 1
  go_enter Tryz.func146, Tryz.ntmps146
  go_wp2
  go_end0
  exact ⟨rfl, h.put 1 _, Just.set _ _ _ _⟩

theorem heard_nil (w : World) :
    Calls Tryz.prog 146 #[.pointer none] w fun r w' => r = .returned (.tuple #[]) ∧ w = w' := by
  go_enter Tryz.func146, Tryz.ntmps146
  go_wp2
  go_end0
  exact ⟨rfl, rfl⟩

theorem due_any (b : Nat) (e s : Int) (w : World) (h : Kee w b e s) :
    Calls Tryz.prog 131 #[.pointer (some ⟨b, 0, none⟩)] w fun r w' => r = .returned (.bool (decide (e ≤ s))) ∧ ∃ n, w.drewN n = w' := by
  have h0 : w.cell? ⟨b, 0, none⟩ = some (.int .i64 e) := h.cell 0
  have h1 : w.cell? ⟨b, 1, none⟩ = some (.int .i64 s) := h.cell 1
  go_enter Tryz.func131, Tryz.ntmps131
  go_wp2
  go_quiet (fail)
  go_wp2
  go_ret
  exact ⟨rfl, _, rfl⟩

theorem due_nil (w : World) :
    Calls Tryz.prog 131 #[.pointer none] w fun r w' => r = .returned (.bool false) ∧ ∃ n, w.drewN n = w' := by
  go_enter Tryz.func131, Tryz.ntmps131
  go_wp2
  go_quiet (fail)
  go_wp2
  go_ret
  exact ⟨rfl, _, rfl⟩



end Go.Proofs.YtiflmdekcjbmbaaGreat.Kp
namespace Go.Proofs.YtiflmdekcjbmbaaGreat.Lb
set_option linter.unusedVariables false
set_option linter.unusedSimpArgs false
open Go.RowKit

/-- Block b holds just the n cells V 0, V 1, .., of element type t, none frozen. -/
def Blk (w : World) (b : Nat) (t : TypeId) (n : Nat) (V : Nat → Value) : Prop := Own w b t (Array.ofFn (n := n) fun i => V i)

theorem Blk.lt {w : World} {b : Nat} {t : TypeId} {n : Nat} {V : Nat → Value} (h : Blk w b t n V) : b < w.heap.size := Own.lt h
theorem Blk.cell {w : World} {b : Nat} {t : TypeId} {n : Nat} {V : Nat → Value} (h : Blk w b t n V) {i : Nat} (hi : i < n) : w.cell? ⟨b, i, none⟩ = some (V i) := by
  rw [Own.cell h i]
  simp [hi]
theorem Blk.free {w : World} {b : Nat} {t : TypeId} {n : Nat} {V : Nat → Value} (h : Blk w b t n V) (i : Nat) : w.frozen? ⟨b, i, none⟩ = false := Own.free h i
theorem Blk.ext {w : World} {b : Nat} {t : TypeId} {n : Nat} {V U : Nat → Value} (h : Blk w b t n V) (hu : ∀ i, i < n → V i = U i) : Blk w b t n U := by
  have e : (Array.ofFn (n := n) fun i => V i) = Array.ofFn (n := n) fun i => U i := by
    congr 1
    funext i
    exact hu i i.isLt
  unfold Blk at h ⊢
  rw [← e]
  exact h
theorem Blk.of {w : World} {b : Nat} {t : TypeId} {n : Nat} {V : Nat → Value} {cs : Array Value} (h : Own w b t cs) (hs : cs.size = n) (hv : ∀ i, i < n → cs[i]? = some (V i)) : Blk w b t n V := by
  have e : cs = Array.ofFn (n := n) fun i => V i := by
    apply Array.ext
    · simp [hs]
    · intro i h1 h2
      have := hv i (by omega)
      rw [Array.getElem?_eq_getElem h1] at this
      injection this with this
      rw [this]
      simp
  unfold Blk
  rw [← e]
  exact h
theorem Blk.put {w : World} {b : Nat} {t : TypeId} {n : Nat} {V : Nat → Value} (h : Blk w b t n V) (i : Nat) (u : Value) : Blk (w.setCell ⟨b, i, none⟩ u) b t n (fun j => if j = i then u else V j) := by
  refine Blk.of (Own.put h i u) (by simp) fun j hj => ?_
  rw [Array.getElem?_setIfInBounds]
  by_cases hij : i = j
  · subst hij
    simp [hj]
  · rw [if_neg hij]
    simp [hj, show ¬ j = i from fun e => hij e.symm]
theorem Blk.drewN {w : World} {b : Nat} {t : TypeId} {n : Nat} {V : Nat → Value} (h : Blk w b t n V) (m : Nat) : Blk (w.drewN m) b t n V := h
theorem Blk.alloc {w : World} {b : Nat} {t : TypeId} {n : Nat} {V : Nat → Value} (h : Blk w b t n V) (o : Obj) : Blk (w.alloc o) b t n V := Own.alloc h o
theorem Just.blk {b b' : Nat} {w w' : World} {t : TypeId} {n : Nat} {V : Nat → Value} (j : Just b w w') (h : Blk w b' t n V) (hne : b' ≠ b) : Blk w' b' t n V := j.own h hne
theorem below_blk {B b : Nat} {w w' : World} {t : TypeId} {n : Nat} {V : Nat → Value} (h : Below B w w') (k : Blk w b t n V) (hb : b < B) : Blk w' b t n V := below_own h k hb
/-- A block of n cells that are all the same. -/
theorem Blk.same {w : World} {b : Nat} {t : TypeId} {n : Nat} {v : Value} {cs : Array Value} (h : Own w b t cs) (hc : cs = (List.replicate n v).toArray) : Blk w b t n (fun _ => v) := by
  subst hc
  exact Blk.of h (by simp) (fun i hi => by simp [hi])
end Go.Proofs.YtiflmdekcjbmbaaGreat.Lb
namespace Go.Proofs.YtiflmdekcjbmbaaGreat.Lb
set_option linter.unusedVariables false
set_option linter.unusedSimpArgs false
open Go.RowKit

theorem shl_min (B s d : Nat) : s * 2 ^ min d B % 2 ^ B = s <<< d % 2 ^ B := by
  rw [Nat.shiftLeft_eq]
  by_cases h : d ≤ B
  · rw [Nat.min_eq_left h]
  · rw [Nat.min_eq_right (by omega), Nat.mul_mod_left, show d = (d - B) + B from by omega, Nat.pow_add, ← Nat.mul_assoc, Nat.mul_mod_left]
theorem shr_min (B s d : Nat) (h : s < 2 ^ B) : s / 2 ^ min d B = s >>> d := by
  rw [Nat.shiftRight_eq_div_pow]
  by_cases hd : d ≤ B
  · rw [Nat.min_eq_left hd]
  · rw [Nat.min_eq_right (by omega), Nat.div_eq_of_lt h, Nat.div_eq_of_lt]
    exact Nat.lt_of_lt_of_le h (Nat.pow_le_pow_right (by decide) (by omega))

theorem wrap_nat (k : IntKind) (hk : k.signed = false) (x : Nat) : k.wrap (x : Int) = ((x % 2 ^ k.bits : Nat) : Int) := by
  unfold IntKind.wrap
  simp [hk]
theorem run_shl (P : Program) (k yk : IntKind) (hk : k.signed = false) (s : Nat) (d : Int) (hd : 0 ≤ d) (w : World) :
    Sem.run P (Op.shift .shl k (s : Int) yk d) w = .ok (.int k ((s <<< d.toNat % 2 ^ k.bits : Nat) : Int)) w := by
  have e : ¬ d < 0 := by omega
  have e1 : (s : Int) * 2 ^ min d.toNat k.bits = ((s * 2 ^ min d.toNat k.bits : Nat) : Int) := by simp
  unfold Op.shift
  rw [if_neg e]
  simp only [e1, wrap_nat k hk, shl_min]
  rfl
theorem run_shr (P : Program) (k yk : IntKind) (s : Nat) (hs : s < 2 ^ k.bits) (d : Int) (hd : 0 ≤ d) (w : World) :
    Sem.run P (Op.shift .shr k (s : Int) yk d) w = .ok (.int k ((s >>> d.toNat : Nat) : Int)) w := by
  have e : ¬ d < 0 := by omega
  have e1 : (s : Int).fdiv (2 ^ min d.toNat k.bits) = ((s >>> d.toNat : Nat) : Int) := by
    rw [← shr_min k.bits s d.toNat hs, Int.fdiv_eq_ediv_of_nonneg _ (Int.le_of_lt (Int.pow_pos (by decide)))]
    simp
  unfold Op.shift
  rw [if_neg e]
  simp only [e1]
  rfl
theorem and_one (s : Nat) : s &&& 1 = s % 2 := by
  exact Nat.and_one_is_mod s
/-- Is bit d of s set? -/
theorem shr_and_one (s d : Nat) : (s >>> d) &&& 1 = if s.testBit d then 1 else 0 := by
  rw [Nat.and_one_is_mod, Nat.testBit_eq_decide_div_mod_eq, Nat.shiftRight_eq_div_pow]
  have h2 : s / 2 ^ d % 2 = 0 ∨ s / 2 ^ d % 2 = 1 := by omega
  rcases h2 with h2 | h2 <;> simp [h2]
end Go.Proofs.YtiflmdekcjbmbaaGreat.Lb
