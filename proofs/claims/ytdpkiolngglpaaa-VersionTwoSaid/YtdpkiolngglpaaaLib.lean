/-
  My own small words on worlds: a block of the call's own that is known whole; a step that turns one block alone; the frame of a law ('the call returns true and turns nothing that was there') reduced to its walk.
-/
import Derived.Test.YtdpkiolngglpaaaRows
import Derived.WalkKit
import Derived.WalkSpells
import Derived.WalkLawsBesides
import Derived.Lib.MinMax
import Derived.Deep.QuietTactic
import Derived.BigQuiet
import Derived.ProofKit
import Derived.OpenShut
import Derived.ShutString
import Derived.ChangeOld
import Derived.Deep.Slices
import Derived.Deep.Grids
import Derived.Deep.Fields
import Derived.ChangeCalls
namespace Go.Proofs.Ytdpkiolngglpaaa.Lb
set_option linter.unusedVariables false
set_option linter.unusedSimpArgs false
open Go.RowKit Go.ChangeShapes Go.WideShapes Go.ChangeAt Go.Deep

/-! ### Numbers -/
theorem u64_pos (n : Int) : 0 ≤ IntKind.u64.wrap n := by
  simp only [IntKind.wrap, IntKind.signed, IntKind.bits]
  simp
  omega

theorem tdiv_low (d k : Int) (h : d < 0) (hk : 0 < k) : d.tdiv k = -((-d) / k) := by
  have e : d = -(-d) := by omega
  rw [e, Int.neg_tdiv, Int.tdiv_eq_ediv_of_nonneg (by omega)]
  simp
theorem tmod_low (d k : Int) (h : d < 0) : d.tmod k = -((-d) % k) := by
  have e : d = -(-d) := by omega
  rw [e, Int.neg_tmod, Int.tmod_eq_emod_of_nonneg (by omega)]
  simp

theorem tmod_bd (x k : Int) (hk : 0 < k) : -k < x.tmod k ∧ x.tmod k < k := by
  by_cases h : 0 ≤ x
  · rw [Int.tmod_eq_emod_of_nonneg h]
    have h1 := Int.emod_nonneg x (by omega : k ≠ 0)
    have h2 := Int.emod_lt_of_pos x hk
    omega
  · rw [tmod_low x k (by omega)]
    have h1 := Int.emod_nonneg (-x) (by omega : k ≠ 0)
    have h2 := Int.emod_lt_of_pos (-x) hk
    omega
theorem i64_bd {z : Int} (h : (Lit.int .i64 z).wf = true) : -9223372036854775808 ≤ z ∧ z ≤ 9223372036854775807 := by
  simp [Lit.wf, IntKind.min, IntKind.max, IntKind.signed, IntKind.bits] at h
  exact h

theorem u32_bd {z : Int} (h : (Lit.int .u32 z).wf = true) : 0 ≤ z ∧ z < 4294967296 := by
  simp [Lit.wf, IntKind.min, IntKind.max, IntKind.signed, IntKind.bits] at h
  omega
theorem u64_bd {z : Int} (h : (Lit.int .u64 z).wf = true) : 0 ≤ z ∧ z < 18446744073709551616 := by
  simp [Lit.wf, IntKind.min, IntKind.max, IntKind.signed, IntKind.bits] at h
  omega
theorem u8_bd {z : Int} (h : (Lit.int .u8 z).wf = true) : 0 ≤ z ∧ z < 256 := by
  simp [Lit.wf, IntKind.min, IntKind.max, IntKind.signed, IntKind.bits] at h
  omega

/-! ### Blocks -/
/-- Block b holds just these cells, of element type t, none frozen. -/
def Own (w : World) (b : Nat) (t : TypeId) (cs : Array Value) : Prop := w.heap[b]? = some (.cells cs t (0, 0))

theorem Own.lt {w : World} {b : Nat} {t : TypeId} {cs : Array Value} (h : Own w b t cs) : b < w.heap.size := by
  by_cases hb : b < w.heap.size
  · exact hb
  · have : w.heap[b]? = none := Array.getElem?_eq_none (by omega)
    unfold Own at h
    rw [this] at h
    cases h
theorem Own.cell {w : World} {b : Nat} {t : TypeId} {cs : Array Value} (h : Own w b t cs) (i : Nat) : w.cell? ⟨b, i, none⟩ = cs[i]? := by
  unfold Own at h
  simp [World.cell?, h]
theorem Own.free {w : World} {b : Nat} {t : TypeId} {cs : Array Value} (h : Own w b t cs) (i : Nat) : w.frozen? ⟨b, i, none⟩ = false := by
  unfold Own at h
  simp [World.frozen?, h]
theorem Own.new (w : World) (t : TypeId) (cs : Array Value) : Own (w.alloc (.cells cs t)) w.heap.size t cs := heap_alloc_new w _
theorem Own.drewN {w : World} {b : Nat} {t : TypeId} {cs : Array Value} (h : Own w b t cs) (n : Nat) : Own (w.drewN n) b t cs := h
theorem Own.alloc {w : World} {b : Nat} {t : TypeId} {cs : Array Value} (h : Own w b t cs) (o : Obj) : Own (w.alloc o) b t cs := (Below.heap_alloc w o b h.lt).trans h
theorem Own.put {w : World} {b : Nat} {t : TypeId} {cs : Array Value} (h : Own w b t cs) (i : Nat) (u : Value) : Own (w.setCell ⟨b, i, none⟩ u) b t (cs.setIfInBounds i u) := by
  unfold Own at h ⊢
  simp [World.setCell, Array.getElem?_modify, h]
theorem Own.apart {w : World} {b : Nat} {t : TypeId} {cs : Array Value} (h : Own w b t cs) {p : Addr} (hp : b ≠ p.block) (u : Value) : Own (w.setCell p u) b t cs := (Below.heap_setCell w p u b hp).trans h

/-- From w to w' block b alone has turned, and what is new. -/
structure Just (b : Nat) (w w' : World) : Prop where
  os : w'.os = w.os
  tape : w'.tape = w.tape
  output : w'.output = w.output
  size : w.heap.size ≤ w'.heap.size
  block : ∀ k, k < w.heap.size → k ≠ b → w'.heap[k]? = w.heap[k]?

theorem Just.refl (b : Nat) (w : World) : Just b w w := ⟨rfl, rfl, rfl, Nat.le_refl _, fun _ _ _ => rfl⟩
theorem Just.trans {b : Nat} {u v w : World} (h : Just b u v) (k : Just b v w) : Just b u w :=
  ⟨k.os.trans h.os, k.tape.trans h.tape, k.output.trans h.output, Nat.le_trans h.size k.size, fun i hi hb => (k.block i (Nat.lt_of_lt_of_le hi h.size) hb).trans (h.block i hi hb)⟩
theorem Just.drewN {b : Nat} {u w : World} (h : Just b u w) (n : Nat) : Just b u (w.drewN n) := ⟨h.os, h.tape, h.output, h.size, h.block⟩
theorem Just.set (b : Nat) (w : World) (i : Nat) (u : Value) : Just b w (w.setCell ⟨b, i, none⟩ u) :=
  ⟨rfl, rfl, rfl, by simp [World.setCell], fun k _ hb => Below.heap_setCell w _ u k hb⟩
theorem Just.put {b : Nat} {v w : World} (h : Just b v w) (i : Nat) (u : Value) : Just b v (w.setCell ⟨b, i, none⟩ u) := h.trans (Just.set b w i u)
theorem Just.alloc {b : Nat} {v w : World} (h : Just b v w) (o : Obj) : Just b v (w.alloc o) :=
  h.trans ⟨rfl, rfl, rfl, by simp, fun k hk _ => Below.heap_alloc w o k hk⟩
theorem Just.own {b b' : Nat} {w w' : World} {t : TypeId} {cs : Array Value} (j : Just b w w') (h : Own w b' t cs) (hne : b' ≠ b) : Own w' b' t cs := (j.block b' h.lt hne).trans h
theorem Just.below {b B : Nat} {a w w' : World} (j : Just b w w') (h : Below B a w) (hb : B ≤ b) (hB : B ≤ w.heap.size) : Below B a w' :=
  h.trans ⟨j.os, j.tape, j.output, j.size, fun k hk => j.block k (by omega) (by omega)⟩
theorem below_drewN {B : Nat} {a w : World} (h : Below B a w) (n : Nat) : Below B a (w.drewN n) := ⟨h.os, h.tape, h.output, h.size, h.block⟩
theorem below_own {B b : Nat} {w w' : World} {t : TypeId} {cs : Array Value} (h : Below B w w') (k : Own w b t cs) (hb : b < B) : Own w' b t cs := (h.block b hb).trans k
theorem below_le {w w' : World} {B : Nat} (h : Below B w w') : w.heap.size ≤ w'.heap.size := h.size

/-! ### Quiet calls: the callee draws, and that is all -/
theorem quiet_left {P : Program} {f : FuncId} {args : Array Value} {w : World} {a : Nat} {v : Value} (h : Calls P f args (w.drewN a) fun e w' => e = .returned v ∧ w.drewN a = w') :
    Calls P f args (w.drewN a) fun e w' => e = .returned v ∧ ∃ m, w' = w.drewN m :=
  h.mono fun _ _ ⟨he, hw⟩ => ⟨he, a, hw.symm⟩
theorem quiet_some {P : Program} {f : FuncId} {args : Array Value} {w : World} {a : Nat} {v : Value} (h : Calls P f args (w.drewN a) fun e w' => e = .returned v ∧ ∃ m, (w.drewN a).drewN m = w') :
    Calls P f args (w.drewN a) fun e w' => e = .returned v ∧ ∃ m, w' = w.drewN m :=
  h.mono fun _ _ ⟨he, m, hw⟩ => ⟨he, a + m, by rw [← hw, World.drewN_drewN]⟩
theorem quiet_left_add {P : Program} {f : FuncId} {args : Array Value} {w : World} {a b : Nat} {v : Value} (h : Calls P f args (w.drewN (a + b)) fun e w' => e = .returned v ∧ w.drewN (a + b) = w') :
    Calls P f args (w.drewN (a + b)) fun e w' => e = .returned v ∧ ∃ m, w' = w.drewN (a + m) :=
  h.mono fun _ _ ⟨he, hw⟩ => ⟨he, b, hw.symm⟩
theorem quiet_some_add {P : Program} {f : FuncId} {args : Array Value} {w : World} {a b : Nat} {v : Value} (h : Calls P f args (w.drewN (a + b)) fun e w' => e = .returned v ∧ ∃ m, (w.drewN (a + b)).drewN m = w') :
    Calls P f args (w.drewN (a + b)) fun e w' => e = .returned v ∧ ∃ m, w' = w.drewN (a + m) :=
  h.mono fun _ _ ⟨he, m, hw⟩ => ⟨he, b + m, by rw [← hw, World.drewN_drewN, Nat.add_assoc]⟩

/-! ### Slices that came in -/
/-- The slice at a reads as the n cells V 0, V 1, .. -/
def Row (w : World) (a : Option Addr) (n : Nat) (V : Nat → Value) : Prop :=
  0 < n → ∃ b off, a = some ⟨b, off, none⟩ ∧ b < w.heap.size ∧ ∀ i, i < n → w.cell? ⟨b, off + i, none⟩ = some (V i)
theorem Row.at_ {w : World} {a : Option Addr} {n k : Nat} {V : Nat → Value} (h : Row w a n V) (hk : k < n) :
    ∃ b off, a = some ⟨b, off, none⟩ ∧ b < w.heap.size ∧ w.cell? ⟨b, off + k, none⟩ = some (V k) := by
  obtain ⟨b, off, h1, h2, h3⟩ := h (by omega)
  exact ⟨b, off, h1, h2, h3 k hk⟩
theorem Row.below {w w' : World} {a : Option Addr} {n : Nat} {V : Nat → Value} (h : Row w a n V) (hb : Below w.heap.size w w') : Row w' a n V := by
  intro hn
  obtain ⟨b, off, h1, h2, h3⟩ := h hn
  exact ⟨b, off, h1, Nat.lt_of_lt_of_le h2 hb.size, fun i hi => (hb.cell (p := ⟨b, off + i, none⟩) h2).trans (h3 i hi)⟩
theorem Row.cut {w : World} {a : Option Addr} {n m : Nat} {V : Nat → Value} (h : Row w a n V) (hm : m ≤ n) : Row w a m V := by
  intro hn
  obtain ⟨b, off, h1, h2, h3⟩ := h (by omega)
  exact ⟨b, off, h1, h2, fun i hi => h3 i (by omega)⟩
theorem Row.nil (w : World) (a : Option Addr) (V : Nat → Value) : Row w a 0 V := fun h => absurd h (by omega)
theorem Row.at_old {w w' : World} {a : Option Addr} {n k : Nat} {V : Nat → Value} (h : Row w a n V) (hb : Below w.heap.size w w') (hk : k < n) :
    ∃ b off, a = some ⟨b, off, none⟩ ∧ b < w.heap.size ∧ w'.cell? ⟨b, off + k, none⟩ = some (V k) := by
  obtain ⟨b, off, h1, h2, h3⟩ := h.at_ hk
  exact ⟨b, off, h1, h2, (hb.cell (p := ⟨b, off + k, none⟩) h2).trans h3⟩

/-- Struct k of a row of structs of m cells, in a later world. -/
theorem Row.at_struct {w w' : World} {a : Option Addr} {n m k : Nat} {V : Nat → Value} (h : Row w a (n * m) V) (hb : Below w.heap.size w w') (hk : k < n) (hm : 0 < m) :
    ∃ b off, a = some ⟨b, off, none⟩ ∧ b < w.heap.size ∧ ∀ j, j < m → w'.cell? ⟨b, off + k * m + j, none⟩ = some (V (k * m + j)) := by
  have hl : ∀ j, j < m → k * m + j < n * m := fun j hj => by
    have : (k + 1) * m ≤ n * m := Nat.mul_le_mul_right m hk
    rw [Nat.add_mul] at this
    omega
  obtain ⟨b, off, h1, h2, h3⟩ := h (by have := hl 0 hm; omega)
  exact ⟨b, off, h1, h2, fun j hj => (hb.cell (p := ⟨b, off + k * m + j, none⟩) h2).trans (by rw [Nat.add_assoc]; exact h3 _ (hl j hj))⟩
theorem row_new (w : World) (cs : Array Value) (e : TypeId) (fz : Nat × Nat) {n : Nat} {V : Nat → Value} (h : ∀ i, i < n → cs[i]? = some (V i)) : Row (w.alloc (.cells cs e fz)) (some ⟨w.heap.size, 0, none⟩) n V := by
  intro hn
  refine ⟨_, _, rfl, by simp, fun i hi => ?_⟩
  have e1 : (w.alloc (.cells cs e fz)).heap[w.heap.size]? = some (.cells cs e fz) := heap_alloc_new w _
  rw [Nat.zero_add, cell_of_row _ _ _ _ _ _ e1, h i hi]
theorem Row.own {w : World} {b : Nat} {t : TypeId} {cs : Array Value} {n : Nat} {V : Nat → Value} (h : Own w b t cs) (hv : ∀ i, i < n → cs[i]? = some (V i)) : Row w (some ⟨b, 0, none⟩) n V := by
  intro hn
  exact ⟨_, _, rfl, h.lt, fun i hi => by rw [Nat.zero_add, h.cell, hv i hi]⟩
theorem Row.drewN {w : World} {a : Option Addr} {n : Nat} {V : Nat → Value} (h : Row w a n V) (m : Nat) : Row (w.drewN m) a n V := h

theorem lt_of_cell {w : World} {a : Addr} {v : Value} (h : w.cell? a = some v) : a.block < w.heap.size := by
  by_cases hb : a.block < w.heap.size
  · exact hb
  · have : w.heap[a.block]? = none := Array.getElem?_eq_none (by omega)
    unfold World.cell? at h
    rw [this] at h
    cases h

section
variable {H : Type} {enc : TypeId × Value → H} {P : Program} {w : World} {base : Nat}
theorem open_row {t e : TypeId} {v : Value} {d : DataW H} {p : List MemPlace} (ht : P.underlying t = some (.slice e)) (hc : P.cellsOf e = 1) (hv : Value.okWide P w .any base t v)
    (h : DataW.Trod enc P w 0 (fun _ => true) true t v d p) :
    ∃ a n c V, v = .slice a n c ∧ n ≤ c ∧ c ≤ maxLen ∧ Row w a n V ∧ ∀ i, i < n → ∃ f y, DataW.trod enc P w 0 (fun _ => true) true f e [V i] = some y := by
  obtain ⟨a0, len, cap, rfl⟩ := okWide_slice ht hv
  obtain ⟨fuel, hf⟩ := h
  rcases open_slice1 ht hc hf with ⟨hcs, _⟩ | ⟨x, l, c, m, n, V, D, Pl, hcs, _, hl, hm, hmm, _, hx⟩
  · simp [Value.cells] at hcs
    obtain ⟨rfl, rfl, rfl⟩ := hcs
    exact ⟨none, 0, 0, fun _ => undef, rfl, Nat.le_refl _, Nat.zero_le _, Row.nil _ _ _, fun i hi => absurd hi (by omega)⟩
  · simp [Value.cells] at hcs
    obtain ⟨rfl, rfl, rfl⟩ := hcs
    simp only [if_true] at hmm
    subst hmm
    obtain ⟨b, off, spot⟩ := x
    refine ⟨_, _, _, V, rfl, hl, hm, fun hn => ?_, fun i hi => ⟨_, _, (hx i (by omega)).2⟩⟩
    have h0 := (hx 0 (by omega)).1
    have hspot : spot = none := by simpa [Addr.add] using World.cell?_spot h0
    subst hspot
    refine ⟨b, off, rfl, ?_, fun i hi => ?_⟩
    · simpa [Addr.add] using lt_of_cell h0
    · have := (hx i (by omega)).1
      unfold Addr.add at this
      split at this
      · rename_i hi0
        subst hi0
        exact this
      · exact this

theorem choose_fn {α : Type} {q : Nat → α → Prop} {n : Nat} (d : α) (h : ∀ i, i < n → ∃ x, q i x) : ∃ f : Nat → α, ∀ i, i < n → q i (f i) := by
  refine ⟨fun i => if hi : i < n then Classical.choose (h i hi) else d, fun i hi => ?_⟩
  simp only [dif_pos hi]
  exact Classical.choose_spec (h i hi)

/-- A slice of structs, each field of one cell: the cells, field by field. -/
theorem open_row_struct {t e : TypeId} {fs : Array Field} {v : Value} {d : DataW H} {p : List MemPlace} (ht : P.underlying t = some (.slice e)) (he : P.underlying e = some (.struct fs)) (hone : oneCellFields P fs = true)
    (hC : P.cellsOf e = fs.size) (hpos : 0 < fs.size) (hv : Value.okWide P w .any base t v) (h : DataW.Trod enc P w 0 (fun _ => true) true t v d p) :
    ∃ a n c V, v = .slice a n c ∧ n ≤ c ∧ c ≤ maxLen ∧ Row w a (n * fs.size) V ∧ ∀ i, i < n → ∀ (j : Nat) (g : Field), fs[j]? = some g → ∃ f y, DataW.trod enc P w 0 (fun _ => true) true f g.type [V (i * fs.size + j)] = some y := by
  obtain ⟨a0, len, cap, rfl⟩ := okWide_slice ht hv
  obtain ⟨fuel, hf⟩ := h
  rcases open_slice ht hf with ⟨hcs, _⟩ | ⟨x, l, c, m, n, D, Pl, hcs, _, hl, hm, hmm, _, hx⟩
  · simp [Value.cells] at hcs
    obtain ⟨rfl, rfl, rfl⟩ := hcs
    exact ⟨none, 0, 0, fun _ => undef, rfl, Nat.le_refl _, Nat.zero_le _, by rw [Nat.zero_mul]; exact Row.nil _ _ _, fun i hi => absurd hi (by omega)⟩
  · simp [Value.cells] at hcs
    obtain ⟨rfl, rfl, rfl⟩ := hcs
    simp only [if_true] at hmm
    subst hmm
    obtain ⟨b, off, spot⟩ := x
    obtain ⟨C, hCs⟩ := choose_fn (q := fun i cs' => w.cells? 0 ((⟨b, off, spot⟩ : Addr).add (i * P.cellsOf e)) (P.cellsOf e) = some cs' ∧ DataW.trod enc P w 0 (fun _ => true) true n e cs' = some (D i, Pl i)) ([] : List Value) (n := len)
      (fun i hi => hx i (by omega))
    rw [hC] at hCs
    have hcell : ∀ i, i < len → ∀ j, j < fs.size → w.cell? (((⟨b, off, spot⟩ : Addr).add (i * fs.size)).add j) = (C i)[j]? := fun i hi => (World.cells?_some (hCs i hi).1).2.2
    have hlen : ∀ i, i < len → (C i).length = fs.size := fun i hi => (World.cells?_some (hCs i hi).1).2.1
    refine ⟨_, _, _, fun q => ((C (q / fs.size))[q % fs.size]?).getD undef, rfl, hl, hm, fun hn => ?_, fun i hi j g hj => ?_⟩
    · have hl0 : 0 < len := Nat.pos_of_mul_pos_right hn
      have h0 := hcell 0 hl0 0 hpos
      rw [List.getElem?_eq_getElem (by rw [hlen 0 hl0]; exact hpos)] at h0
      have hspot : spot = none := by simpa [Addr.add] using World.cell?_spot h0
      subst hspot
      refine ⟨b, off, rfl, by simpa [Addr.add] using lt_of_cell h0, fun q hq => ?_⟩
      have hi : q / fs.size < len := Nat.div_lt_of_lt_mul (by rw [Nat.mul_comm]; exact hq)
      have hj : q % fs.size < fs.size := Nat.mod_lt _ hpos
      have h1 := hcell _ hi _ hj
      have he : (((⟨b, off, none⟩ : Addr).add (q / fs.size * fs.size)).add (q % fs.size)) = ⟨b, off + q, none⟩ := by
        have hq' : q / fs.size * fs.size + q % fs.size = q := Nat.div_add_mod' q fs.size
        unfold Addr.add
        split <;> split <;> simp <;> omega
      rw [he] at h1
      have hjc : q % fs.size < (C (q / fs.size)).length := by rw [hlen _ hi]; exact hj
      rw [h1]
      simp only [List.getElem?_eq_getElem hjc, Option.getD_some]
    · obtain ⟨ys, n', _, _, hcl, hyl, hg⟩ := DataW.trod_struct he (hCs i hi).2
      obtain ⟨ho, hk⟩ := hone_of hone j g hj
      have hjl : j < fs.size := (Array.getElem?_eq_some_iff.1 hj).1
      have h1 := hg j g hj
      rw [ho, hk] at h1
      have hcj : j < (C i).length := by rw [hlen i hi]; exact hjl
      have e1 : ((C i).drop j).take 1 = [(C i)[j]] := by
        rw [List.drop_eq_getElem_cons hcj]
        rfl
      have e2 : (i * fs.size + j) / fs.size = i := by rw [Nat.add_comm, Nat.add_mul_div_right _ _ hpos, Nat.div_eq_of_lt hjl, Nat.zero_add]
      have e3 : (i * fs.size + j) % fs.size = j := by rw [Nat.add_comm, Nat.add_mul_mod_self_right, Nat.mod_eq_of_lt hjl]
      rw [e1, List.getElem?_eq_getElem (by omega)] at h1
      exact ⟨n', _, by simp only [e2, e3, List.getElem?_eq_getElem hcj, Option.getD_some]; exact h1⟩

/-- A field of integers of a row of structs; a field of bools. -/
theorem field_int {n m j : Nat} {t : TypeId} {k : IntKind} {V : Nat → Value} (ht : P.underlying t = some (.int k)) (hf : ∀ i, i < n → ∃ f y, DataW.trod enc P w 0 (fun _ => true) true f t [V (i * m + j)] = some y) :
    ∃ X : Nat → Int, ∀ i, i < n → V (i * m + j) = .int k (X i) ∧ (Lit.int k (X i)).wf = true :=
  choose_fn (q := fun i z => V (i * m + j) = .int k z ∧ (Lit.int k z).wf = true) (0 : Int) (fun i hi => by
    obtain ⟨f, y, hy⟩ := hf i hi
    obtain ⟨z, hz, _, hw⟩ := DataW.trod_int ht hy
    exact ⟨z, by simpa using hz, hw⟩)
theorem field_bool {n m j : Nat} {t : TypeId} {V : Nat → Value} (ht : P.underlying t = some .bool) (hf : ∀ i, i < n → ∃ f y, DataW.trod enc P w 0 (fun _ => true) true f t [V (i * m + j)] = some y) :
    ∃ X : Nat → Bool, ∀ i, i < n → V (i * m + j) = .bool (X i) :=
  choose_fn (q := fun i z => V (i * m + j) = .bool z) false (fun i hi => by
    obtain ⟨f, y, hy⟩ := hf i hi
    obtain ⟨z, hz, _⟩ := DataW.trod_bool ht hy
    exact ⟨z, by simpa using hz⟩)
theorem open_row_bool {t e : TypeId} {v : Value} {d : DataW H} {p : List MemPlace} (ht : P.underlying t = some (.slice e)) (he : P.underlying e = some .bool) (hc : P.cellsOf e = 1) (hv : Value.okWide P w .any base t v)
    (h : DataW.Trod enc P w 0 (fun _ => true) true t v d p) : ∃ a n c, ∃ B : Nat → Bool, v = .slice a n c ∧ n ≤ c ∧ c ≤ maxLen ∧ Row w a n (fun i => .bool (B i)) := by
  obtain ⟨a, n, c, V, rfl, h1, h2, h3, h4⟩ := open_row ht hc hv h
  obtain ⟨B, hB⟩ := choose_fn (q := fun i b => V i = .bool b) false (fun i hi => by
    obtain ⟨f, y, hy⟩ := h4 i hi
    obtain ⟨b, hb, _⟩ := DataW.trod_bool he hy
    exact ⟨b, by simpa using hb⟩)
  refine ⟨a, n, c, B, rfl, h1, h2, fun hn => ?_⟩
  obtain ⟨b, off, e1, e2, e3⟩ := h3 hn
  exact ⟨b, off, e1, e2, fun i hi => by rw [e3 i hi, hB i hi]⟩

theorem open_row_int {t e : TypeId} {k : IntKind} {v : Value} {d : DataW H} {p : List MemPlace} (ht : P.underlying t = some (.slice e)) (he : P.underlying e = some (.int k)) (hc : P.cellsOf e = 1) (hv : Value.okWide P w .any base t v)
    (h : DataW.Trod enc P w 0 (fun _ => true) true t v d p) : ∃ a n c, ∃ Z : Nat → Int, v = .slice a n c ∧ n ≤ c ∧ c ≤ maxLen ∧ Row w a n (fun i => .int k (Z i)) ∧ ∀ i, (Lit.int k (Z i)).wf = true := by
  obtain ⟨a, n, c, V, rfl, h1, h2, h3, h4⟩ := open_row ht hc hv h
  obtain ⟨Z, hZ⟩ := choose_fn (q := fun i z => V i = .int k z ∧ (Lit.int k z).wf = true) (0 : Int) (fun i hi => by
    obtain ⟨f, y, hy⟩ := h4 i hi
    obtain ⟨z, hz, _, hw⟩ := DataW.trod_int he hy
    exact ⟨z, by simpa using hz, hw⟩)
  refine ⟨a, n, c, fun i => if i < n then Z i else 0, rfl, h1, h2, fun hn => ?_, fun i => ?_⟩
  · obtain ⟨b, off, e1, e2, e3⟩ := h3 hn
    exact ⟨b, off, e1, e2, fun i hi => by simp only [e3 i hi, (hZ i hi).1, if_pos hi]⟩
  · by_cases hi : i < n
    · simp only [if_pos hi]; exact (hZ i hi).2
    · simp only [if_neg hi]; cases k <;> decide
end

/-! ### The frame of a law -/
section
variable {H : Type} {enc : TypeId × Value → H} {P : Program}
theorem trodAll_below (hl : laidOutB P = true) {W W' : World} (hb : Below W.heap.size W W') :
    ∀ {ts : List TypeId} {vs : List Value} {ds : List (DataW H)} {ps : List MemPlace}, (∀ t ∈ ts, P.readableRec t = true ∧ t < P.types.size) →
      DataW.TrodAll enc P W 0 (fun _ => true) true ts vs ds ps → (∀ x ∈ ps, x.block < W.heap.size) → DataW.TrodAll enc P W' 0 (fun b => decide (b < W.heap.size)) true ts vs ds ps
  | [], _, _, _, _, h, _ => by obtain ⟨rfl, rfl, rfl⟩ := trodAll_nil h; exact trodAll_mk0
  | t :: ts, vs, ds, ps, hts, h, hp => by
    obtain ⟨v, vs', d, ds', p, q, rfl, rfl, rfl, h0, h1⟩ := trodAll_cons h
    have ht := hts t (by simp)
    exact trodAll_cons_mk (Below.trod hl ht.1 ht.2 h0 hb (fun x hx => hp x (by simp [hx]))) (trodAll_below hl hb (fun u hu => hts u (by simp [hu])) h1 (fun x hx => hp x (by simp [hx])))

/-- What a law's walk owes: for whatever arguments that can be read the call returns true and turns nothing that was there. -/
def Walk (H : Type) (enc : TypeId × Value → H) (P : Program) (F : FuncId) (f : Func) : Prop :=
  ∀ (W : World) (base : Nat) (args : Array Value) (ds : List (DataW H)) (p : List MemPlace),
    (∀ (j : Nat) t v, f.params[j]? = some t → args[j]? = some v → Value.okWide P W .any base t v) →
    DataW.TrodAll enc P W 0 (fun _ => true) true f.params.toList args.toList ds p →
    Calls P F args W fun e w' => e = .returned (.bool true) ∧ Below W.heap.size W w'

theorem step_of_walk {F : FuncId} {f : Func} {s : ChangeSpec} {tb : TypeId} (hl : laidOutB P = true) (hts : ∀ t ∈ f.params.toList, P.readableRec t = true ∧ t < P.types.size)
    (hres : f.resultTypes = #[tb]) (htb : P.underlying tb = some .bool) (hv : s.vars = [])
    (hs : ∀ ds : List (DataW H), ds.length = f.params.size → s.fn H ds = { results := [.lit (.bool true)], args := ds })
    (walk : Walk H enc P F f) :
    ∀ (W : World) (base : Nat) (args : Array Value) (ds gs : List (DataW H)) (before : List MemPlace),
      (∀ (j : Nat) t v, f.params[j]? = some t → args[j]? = some v → Value.okWide P W .any base t v) →
      DataW.Whole enc P f.params.toList s.vars false W args.toList ds gs before → 
      Calls P F args W fun e W' => ∃ v, e = .returned v ∧ s.post enc P f false true false false W args v W' := by
  intro W base args ds gs before hval hW
  have hW' := hW
  obtain ⟨p, q, hA, hV, rfl, hfz, hnd⟩ := hW
  rw [hv] at hV
  obtain ⟨rfl, rfl⟩ := trodVars_none hV
  have hlt : ∀ x ∈ p, x.block < W.heap.size := fun x hx => hW'.lt x (by simp [hx])
  have hlen : ds.length = f.params.size := by
    have := (trodAll_length hA).2
    simpa using this
  refine (walk W base args ds p hval hA).mono fun e W' ⟨he, bel⟩ => ?_
  subst he
  have hfn : s.fn H (ds ++ []) = { results := [.lit (.bool true)], args := ds } := by rw [List.append_nil]; exact hs ds hlen
  refine ⟨_, rfl, ds, [], p ++ [], [], p, [], hW', ?_, ?_, ?_, bel.frame _, fun h => by cases h⟩
  · rw [hfn, hres]
    exact trodAll_mk1 (shut_bool htb _)
  · rw [hfn]
    exact trodAll_below hl bel hts hA hlt
  · rw [hv, hfn]
    rfl
end
end Go.Proofs.Ytdpkiolngglpaaa.Lb
