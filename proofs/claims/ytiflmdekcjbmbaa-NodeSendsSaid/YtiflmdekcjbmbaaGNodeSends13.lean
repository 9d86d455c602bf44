/-
  Package ie (chapter 6): an element decoded. Package ie (chapter 6): elements that come in; bytes as a text; which are light; an element that every program must know. Package ie (chapter 6): Decode: the elements that bytes are. Package ie (chapter 6): what is encoded is decoded as it was; what is decoded is encoded as these; plain. The reference: two rows of elements: alike or not. The reference's reader: bytes taken apart.
-/
import Derived.Test.YtiflmdekcjbmbaaGNodeSends12
import Derived.Deep.Strs
import Derived.Lib.SmallJoins
import Derived.Test.YtiflmdekcjbmbaaGNodeSends01
set_option maxRecDepth 100000
namespace Go.Proofs.Ytiflmdekcjbmbaa.Ie
set_option linter.unusedVariables false
set_option linter.unusedSimpArgs false
open Go.RowKit Lb Go.Shelf Bf

theorem Row.just {w w' : World} {a : Option Addr} {g n : Nat} {V : Nat → Value} (h : Row w a n V) (j : Just g w w') (hne : ∀ p, a = some p → p.block ≠ g) : Row w' a n V := by
  intro hn
  obtain ⟨b, off, rfl, h1, h2⟩ := h hn
  refine ⟨b, off, rfl, Nat.lt_of_lt_of_le h1 j.size, fun i hi => ?_⟩
  exact (World.cell?_of_block (a := ⟨b, off + i, none⟩) (j.block b h1 (hne _ rfl))).trans (h2 i hi)
theorem Just.more {b g : Nat} {w w1 w2 : World} (h : Just b w w1) (j : Just g w1 w2) (hg : w.heap.size ≤ g) : Just b w w2 :=
  ⟨j.os.trans h.os, j.tape.trans h.tape, j.output.trans h.output, Nat.le_trans h.size j.size, fun k hk hb => (j.block k (Nat.lt_of_lt_of_le hk h.size) (by omega)).trans (h.block k hk hb)⟩
theorem El.At.just {w w' : World} {e : El} {a : Option Addr} {c g : Nat} (h : e.At w a c) (j : Just g w w') (hne : ∀ p, a = some p → p.block ≠ g) : e.At w' a c := ⟨h.lc, h.cm, Row.just h.row j hne, h.nil⟩
theorem plain_of (k : Int) (xs : List Int) (a : Option Addr) (c : Nat) (w : World) (hk : 1 ≤ k ∧ k ≤ 4) (h : (elOf k xs).At w a c) :
    Calls Try.prog 77 #[fromV (elOf k xs) a c] w fun r w' => ∃ a' c', r = .returned (.agg ((elOf k xs).vals a' c')) ∧ (elOf k xs).At w' a' c' ∧ (∀ p, a' = some p → a = some p) ∧ Below w.heap.size w w' := by
  rcases (show k = 1 ∨ k = 2 ∨ k = 3 ∨ k = 4 by omega) with rfl | rfl | rfl | rfl
  · refine (plain1 _ _ w).mono ?_
    rintro r w' ⟨rfl, b1⟩
    exact ⟨none, 0, rfl, El.At.none _ _ _ _ _, fun p e => (by cases e), b1⟩
  · refine (plain2 _ w).mono ?_
    rintro r w' ⟨rfl, b1⟩
    exact ⟨none, 0, rfl, El.At.none _ _ _ _ _, fun p e => (by cases e), b1⟩
  · refine (plain3 a xs.length c w).mono ?_
    rintro r w' ⟨rfl, b1⟩
    exact ⟨a, c, rfl, h.below b1, fun p e => e, b1⟩
  · refine (plain4 a xs.length c w).mono ?_
    rintro r w' ⟨rfl, b1⟩
    exact ⟨a, c, rfl, h.below b1, fun p e => e, b1⟩
end Go.Proofs.Ytiflmdekcjbmbaa.Ie
set_option maxRecDepth 100000
namespace Go.Proofs.Ytiflmdekcjbmbaa.Ie
set_option linter.unusedVariables false
set_option linter.unusedSimpArgs false
open Go.RowKit Go.ChangeShapes Go.WideShapes Go.ChangeAt Go.Deep Lb Bf

section
variable {H : Type} {enc : TypeId × Value → H} {w : World} {base : Nat}
theorem list_of (n : Nat) (Z : Nat → Int) : ∃ l : List Int, l.length = n ∧ ∀ i, i < n → l.getD i 0 = Z i :=
  ⟨(List.range n).map Z, by simp, fun i hi => by simp [List.getD, hi]⟩
theorem row_z {w : World} {a : Option Addr} {n : Nat} {Z : Nat → Int} {l : List Int} (h : Row w a n (fun i => .int .i64 (Z i))) (hl : l.length = n) (hz : ∀ i, i < n → l.getD i 0 = Z i) : Row w a l.length (zval l) := by
  intro h0
  rw [hl] at h0 ⊢
  obtain ⟨b, off, h1, h2, h3⟩ := h h0
  exact ⟨b, off, h1, h2, fun i hi => by rw [h3 i hi]; unfold zval; rw [hz i hi]⟩
theorem row_b {w : World} {a : Option Addr} {n : Nat} {Z : Nat → Int} {l : List Int} (h : Row w a n (fun i => .int .u8 (Z i))) (hl : l.length = n) (hz : ∀ i, i < n → l.getD i 0 = Z i) : Row w a l.length (bval l) := by
  intro h0
  rw [hl] at h0 ⊢
  obtain ⟨b, off, h1, h2, h3⟩ := h h0
  exact ⟨b, off, h1, h2, fun i hi => by rw [h3 i hi]; unfold bval; rw [hz i hi]⟩
theorem row_none {w : World} {a : Option Addr} {n : Nat} {V : Nat → Value} (h : Row w a n V) : a = none → n = 0 := fun e => by
  by_cases h0 : n = 0
  · exact h0
  · obtain ⟨_, _, h1, _⟩ := h (by omega)
    rw [e] at h1
    cases h1
theorem open_ints {v : Value} {d : DataW H} {p : List MemPlace} (hv : Value.okWide Try.prog w .any base 26 v)
    (h : DataW.Trod enc Try.prog w 0 (fun _ => true) true 26 v d p) :
    ∃ a, ∃ l : List Int, ∃ c, v = .slice a l.length c ∧ l.length ≤ c ∧ c ≤ maxLen ∧ Row w a l.length (zval l) ∧ (a = none → l.length = 0) := by
  obtain ⟨a, n, c, Z, rfl, h1, h2, h3, _⟩ := open_row_int Try.underlying26 Try.underlying3 (by kernel_rfl) hv h
  obtain ⟨l, hl, hz⟩ := list_of n Z
  have hr := row_z h3 hl hz
  exact ⟨a, l, c, by rw [hl], by rw [hl]; exact h1, h2, hr, row_none hr⟩
def okD (l : List Int) : Prop := ∀ x, x ∈ l → 0 ≤ x ∧ x < 256
theorem open_bytes {v : Value} {d : DataW H} {p : List MemPlace} (hv : Value.okWide Try.prog w .any base 33 v)
    (h : DataW.Trod enc Try.prog w 0 (fun _ => true) true 33 v d p) :
    ∃ a, ∃ l : List Int, ∃ c, v = .slice a l.length c ∧ l.length ≤ c ∧ c ≤ maxLen ∧ Row w a l.length (bval l) ∧ (a = none → l.length = 0) ∧ okD l := by
  obtain ⟨a, n, c, Z, rfl, h1, h2, h3, h4⟩ := open_row_int Try.underlying33 Try.underlying5 (by kernel_rfl) hv h
  obtain ⟨l, hl, hz⟩ := list_of n Z
  have hr := row_b h3 hl hz
  refine ⟨a, l, c, by rw [hl], by rw [hl]; exact h1, h2, hr, row_none hr, fun x hx => ?_⟩
  obtain ⟨i, hi, e⟩ := List.getElem_of_mem hx
  have := u8_bd (h4 i)
  have e2 := hz i (by omega)
  rw [List.getD_eq_getElem?_getD, List.getElem?_eq_getElem hi] at e2
  simp only [Option.getD_some] at e2
  rw [← e, e2]
  exact this
theorem open_cell {P : Program} {t e : TypeId} {k : IntKind} {v : Value} {fuel : Nat} {y : DataW H × List MemPlace} (ht : P.underlying t = some (.slice e)) (he : P.underlying e = some (.int k)) (hc : P.cellsOf e = 1) (hf : DataW.trod enc P w 0 (fun _ => true) true fuel t [v] = some y) :
    ∃ a n c, ∃ Z : Nat → Int, v = .slice a n c ∧ n ≤ c ∧ c ≤ maxLen ∧ Row w a n (fun i => .int k (Z i)) ∧ ∀ i, (Lit.int k (Z i)).wf = true := by
  obtain ⟨dd, pp⟩ := y
  have key : ∃ a n c V, v = .slice a n c ∧ n ≤ c ∧ c ≤ maxLen ∧ Row w a n V ∧ ∀ i, i < n → ∃ f y, DataW.trod enc P w 0 (fun _ => true) true f e [V i] = some y := by
    rcases open_slice1 ht hc hf with ⟨hcs, _⟩ | ⟨x, l, c, m, n, V, D, Pl, hcs, _, hl, hm, hmm, _, hx⟩
    · simp at hcs
      subst hcs
      exact ⟨none, 0, 0, fun _ => undef, rfl, Nat.le_refl _, Nat.zero_le _, Row.nil _ _ _, fun i hi => absurd hi (by omega)⟩
    · simp at hcs
      subst hcs
      simp only [if_true] at hmm
      subst hmm
      obtain ⟨b, off, spot⟩ := x
      refine ⟨_, _, _, V, rfl, hl, hm, fun hn => ?_, fun i hi => ⟨_, _, (hx i (by omega)).2⟩⟩
      have h0 := (hx 0 (by omega)).1
      have hspot : spot = none := by simpa [Addr.add] using World.cell?_spot h0
      subst hspot
      refine ⟨b, off, rfl, ?_, fun i hi => ?_⟩
      · simpa [Addr.add] using lt_of_cell h0
      · have := (hx i (by omega)).1
        unfold Addr.add at this
        split at this
        · rename_i hi0
          subst hi0
          exact this
        · exact this
  obtain ⟨a, n, c, V, rfl, h1, h2, h3, h4⟩ := key
  obtain ⟨Z, hZ⟩ := choose_fn (q := fun i z => V i = .int k z ∧ (Lit.int k z).wf = true) (0 : Int) (fun i hi => by
    obtain ⟨f, y, hy⟩ := h4 i hi
    obtain ⟨z, hz, _, hw⟩ := DataW.trod_int he hy
    exact ⟨z, by simpa using hz, hw⟩)
  refine ⟨a, n, c, fun i => if i < n then Z i else 0, rfl, h1, h2, fun hn => ?_, fun i => ?_⟩
  · obtain ⟨b, off, e1, e2, e3⟩ := h3 hn
    exact ⟨b, off, e1, e2, fun i hi => by simp only [e3 i hi, (hZ i hi).1, if_pos hi]⟩
  · by_cases hi : i < n
    · simp only [if_pos hi]; exact (hZ i hi).2
    · simp only [if_neg hi]; cases k <;> decide
theorem open_ie {v : Value} {d : DataW H} {pl : List MemPlace} (hv : Value.okWide Try.prog w .any base 49 v)
    (h : DataW.Trod enc Try.prog w 0 (fun _ => true) true 49 v d pl) :
    ∃ p : El, ∃ a c, v = .agg (p.vals a c) ∧ p.At w a c := by
  have hC : Try.prog.cellsOf 49 = 5 := by kernel_rfl
  have hI : Try.prog.cellsOf 3 = 1 := by kernel_rfl
  have hJ : Try.prog.cellsOf 2 = 1 := by kernel_rfl
  have hS : Try.prog.cellsOf 26 = 1 := by kernel_rfl
  obtain ⟨cs, rfl, hsz⟩ := okWide_struct Try.underlying49 hv
  rw [hC] at hsz
  obtain ⟨l⟩ := cs
  match l, hsz with
  | [x0, x1, x2, x3, x4], _ =>
  obtain ⟨fuel, hf⟩ := h
  obtain ⟨xs, k, _, _, _, hlen, hfs⟩ := DataW.trod_struct Try.underlying49 hf
  match xs, hlen with
  | [y0, y1, y2, y3, y4], _ =>
  obtain ⟨z0, e0, _, _⟩ := DataW.trod_int Try.underlying3 (hfs 0 _ rfl)
  obtain ⟨z1, e1, _, _⟩ := DataW.trod_int Try.underlying2 (hfs 1 _ rfl)
  obtain ⟨z2, e2, _, _⟩ := DataW.trod_int Try.underlying3 (hfs 2 _ rfl)
  obtain ⟨z3, e3, _, _⟩ := DataW.trod_int Try.underlying3 (hfs 3 _ rfl)
  have e4 := hfs 4 _ rfl
  simp [Value.cells, hI, hJ, hS] at e0 e1 e2 e3 e4
  subst e0 e1 e2 e3
  obtain ⟨a, n, c, Z, rfl, g1, g2, g3, g4⟩ := open_cell Try.underlying26 Try.underlying3 (by kernel_rfl) e4
  obtain ⟨l4, hl4, hz4⟩ := list_of n Z
  have r4 := row_z g3 hl4 hz4
  refine ⟨⟨z0, z1, z2, z3, l4⟩, a, c, ?_, ⟨by rw [hl4]; exact g1, g2, r4, row_none r4⟩⟩
  subst hl4
  rfl
theorem open_els {v : Value} {d : DataW H} {pl : List MemPlace} (hv : Value.okWide Try.prog w .any base 32 v)
    (h : DataW.Trod enc Try.prog w 0 (fun _ => true) true 32 v d pl) :
    ∃ L a c, v = .slice a L.length c ∧ Els w L a c ∧ (a = none → L.length = 0) := by
  obtain ⟨a, n, c, V, rfl, h1, h2, h3, h4⟩ := open_row_struct Try.underlying32 Try.underlying49 (by kernel_rfl) (by kernel_rfl) (by decide) hv h
  have hn5 : n * (5 : Nat) = n * 5 := rfl
  have key : ∃ f : Nat → EP, ∀ i, i < n → V (i * 5) = .int .i64 (f i).e.k ∧ V (i * 5 + 1) = .int .i64 (f i).e.asn ∧ V (i * 5 + 2) = .int .i64 (f i).e.rank ∧ V (i * 5 + 3) = .int .i64 (f i).e.ticks ∧
      V (i * 5 + 4) = .slice (f i).a (f i).e.list.length (f i).c ∧ (f i).e.At w (f i).a (f i).c := by
    refine choose_fn (q := fun i (x : EP) => V (i * 5) = .int .i64 x.e.k ∧ V (i * 5 + 1) = .int .i64 x.e.asn ∧ V (i * 5 + 2) = .int .i64 x.e.rank ∧ V (i * 5 + 3) = .int .i64 x.e.ticks ∧
      V (i * 5 + 4) = .slice x.a x.e.list.length x.c ∧ x.e.At w x.a x.c) ep0 (fun i hi => ?_)
    obtain ⟨f0, y0, k0⟩ := h4 i hi 0 _ rfl
    obtain ⟨f1, y1, k1⟩ := h4 i hi 1 _ rfl
    obtain ⟨f2, y2, k2⟩ := h4 i hi 2 _ rfl
    obtain ⟨f3, y3, k3⟩ := h4 i hi 3 _ rfl
    obtain ⟨f4, y4, k4⟩ := h4 i hi 4 _ rfl
    obtain ⟨z0, e0, _, _⟩ := DataW.trod_int Try.underlying3 k0
    obtain ⟨z1, e1, _, _⟩ := DataW.trod_int Try.underlying2 k1
    obtain ⟨z2, e2, _, _⟩ := DataW.trod_int Try.underlying3 k2
    obtain ⟨z3, e3, _, _⟩ := DataW.trod_int Try.underlying3 k3
    obtain ⟨b, m, e, Z, e4, g1, g2, g3, g4⟩ := open_cell Try.underlying26 Try.underlying3 (by kernel_rfl) k4
    obtain ⟨l4, hl4, hz4⟩ := list_of m Z
    have r4 := row_z g3 hl4 hz4
    refine ⟨⟨⟨z0, z1, z2, z3, l4⟩, b, e⟩, by simpa using e0, by simpa using e1, by simpa using e2, by simpa using e3, ?_, ⟨by rw [hl4]; exact g1, g2, r4, row_none r4⟩⟩
    simp only [hl4]
    exact e4
  obtain ⟨f, hf⟩ := key
  have hlen : ((List.range n).map f).length = n := by simp
  have hget : ∀ i, i < n → ((List.range n).map f).getD i ep0 = f i := fun i hi => by simp [List.getD, hi]
  have hrow : Row w a (n * 5) (ev ((List.range n).map f)) := by
    intro h0
    obtain ⟨b, off, e1, e2, e3⟩ := h3 h0
    refine ⟨b, off, e1, e2, fun q hq => ?_⟩
    have hq' : q < n * 5 := hq
    rw [e3 q hq]
    have hi : q / 5 < n := by omega
    obtain ⟨g0, g1, g2, g3, g4, _⟩ := hf (q / 5) hi
    have hg := hget (q / 5) hi
    have hm : q % 5 = 0 ∨ q % 5 = 1 ∨ q % 5 = 2 ∨ q % 5 = 3 ∨ q % 5 = 4 := by omega
    rcases hm with hm | hm | hm | hm | hm
    · rw [show q = q / 5 * 5 by omega, ev0, hg, g0]
    · rw [show q = q / 5 * 5 + 1 by omega, ev1, hg, g1]
    · rw [show q = q / 5 * 5 + 2 by omega, ev2, hg, g2]
    · rw [show q = q / 5 * 5 + 3 by omega, ev3, hg, g3]
    · rw [show q = q / 5 * 5 + 4 by omega, ev4, hg, g4]
  refine ⟨(List.range n).map f, a, c, by rw [hlen], ⟨by rw [hlen]; exact h1, h2, by rw [hlen]; exact hrow, fun k hk => ?_⟩, fun e => ?_⟩
  · rw [hlen] at hk
    rw [hget k hk]
    exact (hf k hk).2.2.2.2.2
  · rw [hlen]
    have := row_none hrow e
    omega
end
def bstr (l : List Int) : ByteArray := str (fun i => l.getD i 0) l.length
theorem conv_b {w : World} {a : Option Addr} {l : List Int} (c : Nat) (h : Row w a l.length (bval l)) : (convert 33 9 (.slice a l.length c)).run Try.prog w = .ok (.string (bstr l)) w :=
  conv_string Try.underlying33 Try.underlying5 Try.underlying9 h
theorem okD_at {l : List Int} (h : okD l) (i : Nat) : 0 ≤ l.getD i 0 ∧ l.getD i 0 < 256 := by
  by_cases hi : i < l.length
  · rw [List.getD_eq_getElem?_getD, List.getElem?_eq_getElem hi]
    exact h _ (List.getElem_mem hi)
  · rw [List.getD_eq_getElem?_getD, List.getElem?_eq_none (by omega)]
    exact ⟨by decide, by decide⟩
theorem bstr_inj {l m : List Int} (hl : okD l) (hm : okD m) (h : (bstr l).toList = (bstr m).toList) : l = m := by
  obtain ⟨h1, h2⟩ := str_list_inj (fun i => okD_at hl i) (fun i => okD_at hm i) h
  exact list_eq h1 (fun j hj => h2 j hj)
theorem bstr_beq {l m : List Int} (hl : okD l) (hm : okD m) : ((bstr l).toList == (bstr m).toList) = decide (l = m) := by
  by_cases h : l = m
  · rw [decide_eq_true h, h]
    exact beq_self_eq_true _
  · rw [decide_eq_false h]
    exact beq_eq_false_iff_ne.2 fun e => h (bstr_inj hl hm e)
def lightB (L : List EP) : Bool := decide (L.length ≤ 20 ∧ ∀ k, k < L.length → (L.getD k ep0).e.list.length ≤ 100)
end Go.Proofs.Ytiflmdekcjbmbaa.Ie
set_option maxRecDepth 100000
namespace Go.Proofs.Ytiflmdekcjbmbaa.Ie
set_option linter.unusedVariables false
set_option linter.unusedSimpArgs false
open Go.RowKit Lb Go.Shelf Bf

theorem infoE : (Try.prog.info? 49).map (fun i => (i.zero, i.size, i.bytes)) = some (some (.agg #[.int .i64 0, .int .i64 0, .int .i64 0, .int .i64 0, .slice none 0 0]), 5, 56) := by kernel_rfl
theorem ev_one (L : List EP) (q : Nat) : (ev L q).oneCell' = true := by
  have hm : q % 5 = 0 ∨ q % 5 = 1 ∨ q % 5 = 2 ∨ q % 5 = 3 ∨ q % 5 = 4 := by omega
  rcases hm with hm | hm | hm | hm | hm
  · rw [show q = q / 5 * 5 by omega, ev0]; rfl
  · rw [show q = q / 5 * 5 + 1 by omega, ev1]; rfl
  · rw [show q = q / 5 * 5 + 2 by omega, ev2]; rfl
  · rw [show q = q / 5 * 5 + 3 by omega, ev3]; rfl
  · rw [show q = q / 5 * 5 + 4 by omega, ev4]; rfl
theorem ev_app (L M : List EP) (q : Nat) : (if q < L.length * 5 then ev L q else ev M (q - L.length * 5)) = ev (L ++ M) q := by
  unfold ev
  by_cases h : q < L.length * 5
  · rw [if_pos h]
    have : q / 5 < L.length := by omega
    rw [List.getD_eq_getElem?_getD, List.getD_eq_getElem?_getD, List.getElem?_append_left this]
  · rw [if_neg h]
    have h1 : (q - L.length * 5) / 5 = q / 5 - L.length := by omega
    have h2 : (q - L.length * 5) % 5 = q % 5 := by omega
    rw [h1, h2, List.getD_eq_getElem?_getD, List.getD_eq_getElem?_getD, List.getElem?_append_right (by omega)]
theorem els_app (L M : List EP) : els (L ++ M) = els L ++ els M := by simp [els]
theorem Row.same {w w' : World} {a : Option Addr} {n : Nat} {V : Nat → Value} (h : Row w a n V) (hk : ∀ p, a = some p → 0 < n → w'.heap[p.block]? = w.heap[p.block]?) : Row w' a n V := by
  intro hn
  obtain ⟨b, off, rfl, h1, h2⟩ := h hn
  have e := hk _ rfl hn
  refine ⟨b, off, rfl, ?_, fun i hi => (World.cell?_of_block (a := ⟨b, off + i, none⟩) e).trans (h2 i hi)⟩
  by_cases hb : b < w'.heap.size
  · exact hb
  · exfalso
    have e1 : w'.heap[b]? = none := Array.getElem?_eq_none (by omega)
    have e2 : w.heap[b]? = some w.heap[b] := Array.getElem?_eq_getElem h1
    have e : w'.heap[b]? = w.heap[b]? := e
    rw [e1, e2] at e
    cases e
theorem El.At.same {w w' : World} {e : El} {a : Option Addr} {c : Nat} (h : e.At w a c) (hk : ∀ p, a = some p → 0 < e.list.length → w'.heap[p.block]? = w.heap[p.block]?) : e.At w' a c := ⟨h.lc, h.cm, Row.same h.row hk, h.nil⟩
theorem El.At.lt {w : World} {e : El} {a : Option Addr} {c : Nat} (h : e.At w a c) : ∀ p, a = some p → 0 < e.list.length → p.block < w.heap.size := fun p e1 hl => by
  obtain ⟨b, off, h1, h2, _⟩ := h.row hl
  rw [e1] at h1
  injection h1 with h1
  rw [h1]
  exact h2
theorem dec1_sub {L : List Int} {e : El} {R : List Int} (h : dec1 L = .ok (e, R)) : ∀ x, x ∈ R → x ∈ L := by
  unfold dec1 at h
  match L, h with
  | [], h => cases h
  | k :: L1, h =>
    simp only at h
    split at h
    · cases h
    · match L1, h with
      | [], h => cases h
      | s :: L2, h =>
        simp only at h
        split at h
        · cases h
        · split at h
          · cases h
          · injection h with h
            injection h with h1 h2
            subst h2
            intro x hx
            have := List.mem_of_mem_drop hx
            simp [this]
theorem dec1_err {L : List Int} {x : Int} (h : dec1 L = .error x) : x = 2 ∨ x = 3 := by
  unfold dec1 at h
  match L, h with
  | [], h => injection h with h; exact .inl h.symm
  | k :: L1, h =>
    simp only at h
    split at h
    · injection h with h; exact .inr h.symm
    · match L1, h with
      | [], h => injection h with h; exact .inl h.symm
      | s :: L2, h =>
        simp only at h
        split at h
        · injection h with h; exact .inr h.symm
        · split at h
          · injection h with h; exact .inl h.symm
          · cases h
theorem decI_err {n : Nat} {L1 : List Int} {e : Int} (h4 : n ≤ 4) (h : decN n L1 = .error e) : decI ((n : Int) :: L1) = .error e := by
  unfold decI
  simp only
  rw [if_neg (by omega), Int.toNat_natCast, h]
theorem decI_ok {n : Nat} {L1 : List Int} {l : List El} (h4 : n ≤ 4) (h : decN n L1 = .ok (l, [])) : decI ((n : Int) :: L1) = .ok l := by
  unfold decI
  simp only
  rw [if_neg (by omega), Int.toNat_natCast, h]
  simp
theorem decI_more {n : Nat} {L1 R : List Int} {l : List El} (h4 : n ≤ 4) (h : decN n L1 = .ok (l, R)) (hR : R ≠ []) : decI ((n : Int) :: L1) = .error 3 := by
  unfold decI
  simp only
  rw [if_neg (by omega), Int.toNat_natCast, h]
  simp [hR]
def DecPost (L : List Int) (w : World) (r : Ending) (w' : World) : Prop :=
  match decI L with
  | .ok l => ∃ (LL : List EP) (a : Option Addr) (c : Nat), els LL = l ∧ r = .returned (.tuple #[.slice a LL.length c, .int .i64 0]) ∧ Els w' LL a c ∧ (∀ q, a = some q → w.heap.size ≤ q.block) ∧ (∀ k, k < LL.length → ∀ q, (LL.getD k ep0).a = some q → 0 < (LL.getD k ep0).e.list.length → w.heap.size ≤ q.block) ∧ Below w.heap.size w w'
  | .error x => r = .returned (.tuple #[.slice none 0 0, .int .i64 x]) ∧ Below w.heap.size w w'
end Go.Proofs.Ytiflmdekcjbmbaa.Ie
set_option maxRecDepth 100000
namespace Go.Proofs.Ytiflmdekcjbmbaa.Ie
set_option linter.unusedVariables false
set_option linter.unusedSimpArgs false
open Go.RowKit Lb Bf

theorem okD_take' {l : List Int} {n : Nat} (h : okD' l) : okD' (l.take n) := fun x hx => h x (List.mem_of_mem_take hx)
theorem okD_drop' {l : List Int} {n : Nat} (h : okD' l) : okD' (l.drop n) := fun x hx => h x (List.mem_of_mem_drop hx)
/-- Bytes out of the number that bytes are. -/
theorem bytes_numB : ∀ (k : Nat) (l : List Int), l.length = k → okD' l → bytesK (numB l).toNat k = l := by
  intro k
  induction k with
  | zero => intro l hl _; rw [List.length_eq_zero_iff.1 hl]; rfl
  | succ k ih =>
    intro l hl hd
    rcases List.eq_nil_or_concat l with rfl | ⟨m, c, rfl⟩
    · simp at hl
    · rw [List.concat_eq_append] at *
      have hml : m.length = k := by simp at hl; omega
      have hdm : okD' m := fun x hx => hd x (List.mem_append_left _ hx)
      have h1 := numB_bd k m hml hdm
      have h2 := hd c (List.mem_append_right _ (by simp))
      rw [numB_snoc, bytesK_snoc, show (numB m * 256 + c).toNat / 256 = (numB m).toNat by omega, ih m hml hdm, show (numB m * 256 + c).toNat % 256 = c.toNat by omega]
      congr 1
      rw [Int.toNat_of_nonneg h2.1]
theorem octsB_of {l : List Int} (h : okD' l) : octsB l = true := by
  unfold octsB
  rw [decide_eq_true_eq]
  intro j hj
  rw [List.getD_eq_getElem?_getD, List.getElem?_eq_getElem hj]
  have := h _ (List.getElem_mem hj)
  simp only [Option.getD_some]
  omega
theorem i16_u64 {x : Int} (h : 0 ≤ x ∧ x < 65536) : bytesK (u64 (IntKind.i16.wrap x)) 2 = bytesK x.toNat 2 := by
  have e : u64 (IntKind.i16.wrap x) % 65536 = x.toNat := by
    unfold u64
    simp only [IntKind.wrap, IntKind.signed, IntKind.bits]
    simp
    omega
  generalize u64 (IntKind.i16.wrap x) = y at e
  rw [bytesK_snoc, bytesK_snoc, bytesK_snoc, bytesK_snoc]
  rw [show y / 256 % 256 = x.toNat / 256 % 256 by omega, show y % 256 = x.toNat % 256 by omega]
  rfl
theorem six_cut {l : List Int} (h : l.length = 6) : l = l.take 5 ++ [l.getD 5 0] := by
  have h1 : l.take 6 = l := List.take_of_length_le (by omega)
  have := tk_snoc (l := l) (k := 5) (by omega)
  rw [← this, h1]
theorem dec1_back {L : List Int} {x : El} {R : List Int} (hd : okD' L) (h : dec1 L = .ok (x, R)) : mayE x = true ∧ L = encOne x ++ R := by
  unfold dec1 at h
  match L, h with
  | [], h => cases h
  | k :: L1, h =>
    simp only at h
    split at h
    · cases h
    · rename_i hk
      match L1, h with
      | [], h => cases h
      | s :: L2, h =>
        simp only at h
        split at h
        · cases h
        · rename_i hs
          split at h
          · cases h
          · rename_i hl
            injection h with h
            injection h with h1 h2
            subst h1 h2
            have hs' : sizeB k s = true := by simpa using hs
            have hs0 := hd s (by simp)
            have hd2 : okD' (L2.take s.toNat) := fun x hx => hd x (by have := List.mem_of_mem_take hx; simp [this])
            have hlen : (L2.take s.toNat).length = s.toNat := by rw [List.length_take]; omega
            have happ : k :: s :: L2 = [k] ++ [s] ++ L2.take s.toNat ++ L2.drop s.toNat := by simp
            rw [happ]
            generalize L2.take s.toNat = X at *
            generalize L2.drop s.toNat = Q at *
            clear happ
            unfold sizeB at hs'
            by_cases k1 : k = 1
            · subst k1
              simp at hs'
              subst hs'
              have h6 : X.length = 6 := hlen
              have hb := numB_bd 5 (X.take 5) (by rw [List.length_take]; omega) (okD_take' hd2)
              have e5 : (256 : Int) ^ 5 = 1099511627776 := by decide
              rw [e5] at hb
              have h5 : 0 ≤ X.getD 5 0 ∧ X.getD 5 0 < 256 := by
                rw [List.getD_eq_getElem?_getD, List.getElem?_eq_getElem (by omega)]
                exact hd2 _ (List.getElem_mem _)
              have hbb := bytes_numB 5 (X.take 5) (by rw [List.length_take]; omega) (okD_take' hd2)
              have hE : elOf 1 X = ⟨1, numB (X.take 5), X.getD 5 0, 0, []⟩ := by unfold elOf; rw [if_pos rfl]
              have h6c := six_cut h6
              rw [hE]
              generalize X.getD 5 0 = z at *
              refine ⟨?_, ?_⟩
              · rw [may1]
                simp [asnB]
                omega
              · congr 1
                unfold encOne
                simp only [if_pos]
                rw [hbb, List.append_assoc ([1] ++ [6]) (X.take 5) [z], ← h6c]
            · by_cases k2 : k = 2
              · subst k2
                simp at hs'
                subst hs'
                have h2 : X.length = 2 := hlen
                have hb := numB_bd 2 X h2 hd2
                have e5 : (256 : Int) ^ 2 = 65536 := by decide
                rw [e5] at hb
                have hbb := bytes_numB 2 X h2 hd2
                have hE : elOf 2 X = ⟨2, 0, 0, IntKind.i16.wrap (numB X), []⟩ := by unfold elOf; rw [if_neg (by decide), if_pos rfl]
                rw [hE]
                have hw : -32768 ≤ IntKind.i16.wrap (numB X) ∧ IntKind.i16.wrap (numB X) ≤ 32767 := by
                  simp only [IntKind.wrap, IntKind.signed, IntKind.bits]
                  simp
                  omega
                refine ⟨?_, ?_⟩
                · rw [may2]
                  simp
                  omega
                · congr 1
                  rw [show encOne ⟨2, 0, 0, IntKind.i16.wrap (numB X), []⟩ = [2] ++ [2] ++ bytesK (u64 (IntKind.i16.wrap (numB X))) 2 from by unfold encOne; rw [if_neg (by simp), if_pos rfl], i16_u64 hb, hbb]
              · have hs'' : s ≤ 16 := by simpa [k1, k2] using hs'
                have hk34 : k = 3 ∨ k = 4 := by omega
                refine ⟨?_, ?_⟩
                · unfold elOf
                  rw [if_neg k1, if_neg k2, may3 _ _ _ _ _ hk34, octsB_of hd2]
                  simp
                  omega
                · congr 1
                  unfold elOf encOne
                  rw [if_neg k1, if_neg k2]
                  simp only
                  rw [if_neg k1, if_neg k2]
                  congr 2
                  rw [hlen]
                  congr 1
                  omega
theorem decN_back : ∀ (n : Nat) (L : List Int) (l : List El) (R : List Int), okD' L → decN n L = .ok (l, R) → l.length = n ∧ (∀ x, x ∈ l → mayE x = true) ∧ L = encL l ++ R := by
  intro n
  induction n with
  | zero =>
    intro L l R hd h
    simp only [decN] at h
    injection h with h
    injection h with h1 h2
    subst h1 h2
    exact ⟨rfl, (fun x hx => by cases hx), rfl⟩
  | succ n ih =>
    intro L l R hd h
    rw [decN] at h
    cases h1 : dec1 L with
    | error e => rw [h1] at h; cases h
    | ok p =>
      obtain ⟨x, Q⟩ := p
      rw [h1] at h
      simp only at h
      cases h2 : decN n Q with
      | error e => rw [h2] at h; cases h
      | ok p =>
        obtain ⟨m, S⟩ := p
        rw [h2] at h
        simp only at h
        injection h with h
        injection h with h3 h4
        subst h3 h4
        obtain ⟨hm, he⟩ := dec1_back hd h1
        have hdQ : okD' Q := fun y hy => hd y (dec1_sub h1 y hy)
        obtain ⟨g1, g2, g3⟩ := ih Q m S hdQ h2
        refine ⟨by simp [g1], fun y hy => ?_, ?_⟩
        · rcases List.mem_cons.1 hy with h | h
          · rw [h]; exact hm
          · exact g2 y h
        · rw [he, g3, encL, List.append_assoc]
theorem decI_back {L : List Int} {l : List El} (hd : okD' L) (h : decI L = .ok l) : mayL l = true ∧ encI l = L := by
  unfold decI at h
  match L, h with
  | [], h => cases h
  | n :: L1, h =>
    simp only at h
    split at h
    · cases h
    · rename_i hn
      have hn0 := hd n (by simp)
      cases h1 : decN n.toNat L1 with
      | error e => rw [h1] at h; cases h
      | ok p =>
        obtain ⟨m, R⟩ := p
        rw [h1] at h
        simp only at h
        split at h
        · rename_i hR
          injection h with h
          subst h hR
          obtain ⟨g1, g2, g3⟩ := decN_back n.toNat L1 m [] (fun y hy => hd y (by simp [hy])) h1
          refine ⟨?_, ?_⟩
          · unfold mayL
            rw [Bool.and_eq_true, decide_eq_true_eq, List.all_eq_true]
            exact ⟨by omega, g2⟩
          · unfold encI
            rw [g3, g1, List.append_nil, Int.toNat_of_nonneg hn0.1]
            rfl
        · cases h
theorem dec1_enc {x : El} (hm : mayE x = true) (R : List Int) : dec1 (encOne x ++ R) = .ok (x, R) := by
  obtain ⟨k, a, r, t, l⟩ := x
  rcases mayE_kind hm with h1 | h1 | h1 | h1
  · have h1 : k = 1 := h1
    subst h1
    rw [may1] at hm
    simp only [Bool.and_eq_true, decide_eq_true_eq, asnB, beq_iff_eq] at hm
    obtain ⟨ha, hr0, hr1, ht, hl⟩ := hm
    have hl := List.length_eq_zero_iff.1 hl
    subst ht hl
    unfold encOne
    simp only [if_pos]
    have e6 : (bytesK a.toNat 5 ++ [r]).length = 6 := by simp [bytesK_len]
    have e5 : (bytesK a.toNat 5).length = 5 := bytesK_len _ _
    have hsh : [1] ++ [6] ++ bytesK a.toNat 5 ++ [r] ++ R = 1 :: 6 :: ((bytesK a.toNat 5 ++ [r]) ++ R) := by simp
    rw [hsh]
    unfold dec1
    simp only
    rw [if_neg (by decide), if_neg (by decide), if_neg (by rw [List.length_append, e6]; show ¬ _ < 6; omega)]
    rw [show (6 : Int).toNat = 6 from rfl, ← e6, List.take_left, List.drop_left]
    congr 2
    unfold elOf
    rw [if_pos rfl]
    have t5 : (bytesK a.toNat 5 ++ [r]).take 5 = bytesK a.toNat 5 := List.take_left' e5
    have g5 : (bytesK a.toNat 5 ++ [r]).getD 5 0 = r := by
      rw [List.getD_eq_getElem?_getD, List.getElem?_append_right (by omega), e5]
      rfl
    rw [t5, g5, numB_bytes 5 a.toNat (by show a.toNat < 1099511627776; omega), Int.toNat_of_nonneg ha.1]
  · have h1 : k = 2 := h1
    subst h1
    rw [may2] at hm
    simp only [Bool.and_eq_true, decide_eq_true_eq, beq_iff_eq] at hm
    obtain ⟨ht0, ht1, ha, hr, hl⟩ := hm
    have hl := List.length_eq_zero_iff.1 hl
    subst ha hr hl
    unfold encOne
    rw [if_neg (by simp), if_pos rfl]
    have e2 : (bytesK (u64 t) 2).length = 2 := bytesK_len _ _
    have hsh : [2] ++ [2] ++ bytesK (u64 t) 2 ++ R = 2 :: 2 :: (bytesK (u64 t) 2 ++ R) := by simp
    simp only at hsh ⊢
    rw [hsh]
    unfold dec1
    simp only
    rw [if_neg (by decide), if_neg (by decide), if_neg (by rw [List.length_append, e2]; show ¬ _ < 2; omega)]
    rw [show (2 : Int).toNat = 2 from rfl]
    have tk : (bytesK (u64 t) 2 ++ R).take 2 = bytesK (u64 t) 2 := List.take_left' e2
    have dr : (bytesK (u64 t) 2 ++ R).drop 2 = R := List.drop_left' e2
    rw [tk, dr]
    congr 2
    unfold elOf
    rw [if_neg (by decide), if_pos rfl]
    have hmod : bytesK (u64 t) 2 = bytesK (u64 t % 65536) 2 := by
      rw [bytesK_snoc, bytesK_snoc, bytesK_snoc, bytesK_snoc]
      rw [show u64 t % 65536 / 256 % 256 = u64 t / 256 % 256 by omega, show u64 t % 65536 % 256 = u64 t % 256 by omega]
      rfl
    rw [hmod, numB_bytes 2 _ (by show _ < 65536; omega)]
    congr 1
    unfold u64
    simp only [IntKind.wrap, IntKind.signed, IntKind.bits]
    simp
    omega
  all_goals
    have h1 : k = _ := h1
    subst h1
    rw [may3 _ _ _ _ _ (by omega)] at hm
    simp only [Bool.and_eq_true, decide_eq_true_eq, beq_iff_eq] at hm
    obtain ⟨ho, h16, ha, hr, ht⟩ := hm
    subst ha hr ht
    unfold encOne
    rw [if_neg (by simp), if_neg (by simp)]
    simp only
    have hsh : ∀ q : Int, [q] ++ [(l.length : Int)] ++ l ++ R = q :: (l.length : Int) :: (l ++ R) := fun q => by simp
    rw [hsh]
    unfold dec1
    simp only
    rw [if_neg (by decide), if_neg (by unfold sizeB; simp; omega), if_neg (by rw [List.length_append]; simp)]
    rw [Int.toNat_natCast, List.take_left, List.drop_left]
    congr 2
theorem decN_enc : ∀ (l : List El) (R : List Int), (∀ x, x ∈ l → mayE x = true) → decN l.length (encL l ++ R) = .ok (l, R) := by
  intro l
  induction l with
  | nil => intro R _; rfl
  | cons x l ih =>
    intro R h
    rw [List.length_cons, decN, encL, List.append_assoc, dec1_enc (h x (by simp))]
    simp only
    rw [ih R (fun y hy => h y (by simp [hy]))]
theorem decI_enc {l : List El} (h : mayL l = true) : decI (encI l) = .ok l := by
  unfold mayL at h
  rw [Bool.and_eq_true, decide_eq_true_eq, List.all_eq_true] at h
  have h1 := decN_enc l [] h.2
  rw [List.append_nil] at h1
  exact decI_ok h.1 h1
end Go.Proofs.Ytiflmdekcjbmbaa.Ie
set_option maxRecDepth 100000
namespace Go.Proofs.Ytiflmdekcjbmbaa.Ie
set_option linter.unusedVariables false
set_option linter.unusedSimpArgs false
open Go.RowKit Lb Go.Shelf

instance : DecidableEq El := fun a b => if h : sameE a b = true then isTrue (sameE_eq h) else isFalse (fun e => h (by rw [e]; exact sameE_self b))
theorem els_ext {L M : List EP} (h : L.length = M.length) (hk : ∀ j, j < L.length → (L.getD j ep0).e = (M.getD j ep0).e) : els L = els M := by
  apply List.ext_getElem (by rw [els_len, els_len, h])
  intro i h1 h2
  rw [els_len] at h1 h2
  rw [els_at h1 rfl, els_at h2 rfl]
  exact hk i h1
theorem els_get {L M : List EP} (h : els L = els M) {j : Nat} (hj : j < L.length) (hm : j < M.length) : (L.getD j ep0).e = (M.getD j ep0).e := by
  rw [← els_at hj rfl, ← els_at hm rfl]
  simp only [h]
end Go.Proofs.Ytiflmdekcjbmbaa.Ie
set_option maxRecDepth 100000
namespace Go.Proofs.Ytiflmdekcjbmbaa.Ie
set_option linter.unusedVariables false
set_option linter.unusedSimpArgs false
open Go.RowKit Lb Go.Shelf Bf

/-- A reader: what is left, the error that was met. -/
def Rq (w : World) (lo b : Nat) (l : List Int) (err : Int) : Prop :=
  ∃ a c, Own w b 81 #[.slice a l.length c, .int .i64 err] ∧ l.length ≤ c ∧ c ≤ maxLen ∧ Row w a l.length (bval l) ∧ ∀ p, a = some p → lo ≤ p.block ∧ p.block < b
theorem Rq.kept {w w' : World} {lo b H : Nat} {l : List Int} {err : Int} (h : Rq w lo b l err) (k : Below H w w') (hb : b < H) : Rq w' lo b l err := by
  obtain ⟨a, c, h1, h2, h3, h4, h5⟩ := h
  exact ⟨a, c, below_own k h1 hb, h2, h3, Row.same h4 (fun p e _ => k.block _ (Nat.lt_trans (h5 p e).2 hb)), h5⟩
theorem Rq.just {w w' : World} {lo b g : Nat} {l : List Int} {err : Int} (h : Rq w lo b l err) (j : Just g w w') (hg : g < lo) (hb : g ≠ b) : Rq w' lo b l err := by
  obtain ⟨a, c, h1, h2, h3, h4, h5⟩ := h
  exact ⟨a, c, j.own h1 (fun e => hb e.symm), h2, h3, Row.same h4 (fun p e _ => j.block _ (Nat.lt_trans (h5 p e).2 h1.lt) (by have := (h5 p e).1; omega)), h5⟩
theorem Rq.lt {w : World} {lo b : Nat} {l : List Int} {err : Int} (h : Rq w lo b l err) : b < w.heap.size := by
  obtain ⟨a, c, h1, _⟩ := h
  exact h1.lt
def badQ (l : List Int) (err : Int) (n : Nat) : Prop := err ≠ 0 ∨ l.length < n
theorem rq_put {w : World} {lo b len n c : Nat} {l : List Int} {a' : Option Addr} {v : Value} (h1 : Lb.Own w b 81 #[v, .int .i64 0]) (hl : l.length = len) (hc : len - n ≤ c) (hm : c ≤ maxLen) (hr : Row w a' (len - n) (bval (l.drop n))) (hp : ∀ p, a' = some p → lo ≤ p.block ∧ p.block < b) : Rq (w.setCell ⟨b, 0, none⟩ (.slice a' (len - n) c)) lo b (l.drop n) 0 := by
  have e : (l.drop n).length = len - n := by rw [List.length_drop, hl]
  refine ⟨a', c, ?_, by rw [e]; exact hc, hm, ?_, hp⟩
  · rw [e]; exact h1.put 0 _
  · rw [e]
    exact Row.same hr (fun p e _ => (Just.set b w 0 _).block p.block (Nat.lt_trans (hp p e).2 h1.lt) (Nat.ne_of_lt (hp p e).2))
theorem row_add {w : World} {p : Addr} {len n : Nat} {l : List Int} (h : Row w (some p) len (bval l)) (hn : n ≤ len) : Row w (some (p.add n)) (len - n) (bval (l.drop n)) := by
  intro h0
  obtain ⟨b, off, e, h1, h2⟩ := h (by omega)
  injection e with e
  subst e
  refine ⟨b, off + n, by rw [Addr.add_lit], h1, fun i hi => ?_⟩
  rw [Nat.add_assoc, h2 (n + i) (by omega)]
  unfold bval
  rw [lft_get]
theorem raw_bad (lo b : Nat) (l : List Int) (err : Int) (n : Nat) (w : World) (h : Rq w lo b l err) (hb : badQ l err n) (hn : n ≤ 100000) :
    Calls Try.prog 29 #[.pointer (some ⟨b, 0, none⟩), .int .i64 (n : Int)] w fun r w' => r = .returned (.slice none 0 0) ∧ Rq w' lo b [] 2 ∧ Just b w w' := by
  obtain ⟨a, c, h1, h2, h3, h4, h5⟩ := h
  unfold maxLen at h3
  obtain ⟨len, hlen⟩ : ∃ len, l.length = len := ⟨_, rfl⟩
  unfold badQ at hb
  rw [hlen] at hb h1 h2
  have c0 : w.cell? ⟨b, 0, none⟩ = some (.slice a len c) := h1.cell 0
  have c1 : w.cell? ⟨b, 1, none⟩ = some (.int .i64 err) := h1.cell 1
  have f0 := h1.free 0
  have f1 := h1.free 1
  have hq : Rq ((w.setCell ⟨b, 1, none⟩ (.int .i64 2)).setCell ⟨b, 0, none⟩ (.slice none 0 0)) lo b [] 2 := ⟨none, 0, (h1.put 1 _).put 0 _, Nat.le_refl _, Nat.zero_le _, Row.nil _ _ _, fun p e => by cases e⟩
  have hj : Just b w ((w.setCell ⟨b, 1, none⟩ (.int .i64 2)).setCell ⟨b, 0, none⟩ (.slice none 0 0)) := (Just.set b w 1 _).put 0 _
  have g0 : max (0 : Int) (n : Int) = (n : Int) := by omega
  clear hlen
  by_cases he : err = 0
  · have hl : len < n := by omega
    have g1 : (err != 0) = false := by simpa using he
    have g2 : decide (len < n) = true := by simpa using hl
    have g3 : decide ((len : Int) < (n : Int)) = true := by simp; omega
    clear hb he hl
    go_enter Try.func29, Try.ntmps29
    go_wp2_with fail
    go_ret
    exact ⟨rfl, hq, hj⟩
  · have g1 : (err != 0) = true := by simpa using he
    clear hb he
    go_enter Try.func29, Try.ntmps29
    go_wp2_with fail
    go_ret
    exact ⟨rfl, hq, hj⟩
set_option maxHeartbeats 1000000 in
theorem raw_ok (lo b : Nat) (l : List Int) (n : Nat) (w : World) (h : Rq w lo b l 0) (hl : n ≤ l.length) (hn : n ≤ 100000) :
    Calls Try.prog 29 #[.pointer (some ⟨b, 0, none⟩), .int .i64 (n : Int)] w fun r w' => ∃ v, r = .returned v ∧ Mine w' w.heap.size 5 v n (bval (l.take n)) ∧ Rq w' lo b (l.drop n) 0 ∧ Just b w w' := by
  obtain ⟨a, c, h1, h2, h3, h4, h5⟩ := h
  unfold maxLen at h3
  obtain ⟨len, hlen⟩ : ∃ len, l.length = len := ⟨_, rfl⟩
  have HLEN := Lib.hid hlen
  rw [hlen] at h1 h2 hl h4
  have c0 : w.cell? ⟨b, 0, none⟩ = some (.slice a len c) := h1.cell 0
  have c1 : w.cell? ⟨b, 1, none⟩ = some (.int .i64 0) := h1.cell 1
  have f0 := h1.free 0
  have g0 : max (0 : Int) (n : Int) = (n : Int) := by omega
  have g2 : decide (len < n) = false := by simpa using hl
  have g3 : decide ((len : Int) < (n : Int)) = false := by simp; omega
  obtain ⟨i0, hi0, hz0, hz1, hz2⟩ := info_parts info8
  have HNM : Hid (0 + n ≤ maxLen) := Lib.hid (by unfold maxLen; omega)
  have HR : Hid (Row w a n (bval l)) := Lib.hid (h4.cut hl)
  have HB : Hid (b < w.heap.size) := Lib.hid h1.lt
  clear hlen
  go_enter Try.func29, Try.ntmps29
  go_wp2_with (at_builtin; go_must (refine wp_app rfl (.const (.slice none 0 0)) (.tmp 33) _ rfl w.heap.size 5 i0 _ 1 Try.underlying33 hi0 hz0 hz1 hz2 rfl (.slice none 0 0) 0 (bval []) rfl (Mine.nil _ _ _ _) _ n _ (bval l) rfl HR.out (fun _ _ => rfl) HNM.out ?c2 (Nat.le_refl _) ?_))
  case c2 => omega
  intro v5 w5 m5 g5
  have b5 := (Below.refl w.heap.size w).grown g5 (Nat.le_refl _) (fun q e => by cases e)
  have o5 := below_own b5 h1 h1.lt
  have k0 : w5.cell? ⟨b, 0, none⟩ = some (.slice a len c) := o5.cell 0
  have p0 := o5.free 0
  have M5 : Hid (Mine w5 w.heap.size 5 v5 n (bval (l.take n))) := Lib.hid (by
    exact m5.ext (U := bval (l.take n)) (fun i hi => by
      show bval l i = _
      unfold bval
      rw [tk_get hi]))
  clear m5 g5 HNM HR c0 c1 f0 h1
  have hr5 := h4.below b5
  have HJ : Hid (∀ u, Just b w (w5.setCell ⟨b, 0, none⟩ u)) := Lib.hid (fun u => (show Just b w w5 from ⟨b5.os, b5.tape, b5.output, b5.size, fun k hk _ => b5.block k hk⟩).put 0 u)
  cases a with
  | none =>
    have h0 := row_none h4 rfl
    have HQ : Hid (Rq (w5.setCell ⟨b, 0, none⟩ (.slice none (len - n) (c - n))) lo b (l.drop n) 0) := Lib.hid (rq_put o5 HLEN.out (by omega) (by unfold maxLen; omega) (by rw [show len - n = 0 by omega]; exact Row.nil _ _ _) (fun p e => by cases e))
    clear h0 hr5 h4
    go_wp2_with fail
    go_ret
    exact ⟨v5, rfl, M5.out.just (Just.set b w5 0 _) (HB.out), HQ.out, HJ.out _⟩
  | some p =>
    have hp : lo ≤ p.block ∧ p.block < b := h5 p rfl
    by_cases hc : n = c
    · subst hc
      have HQ : Hid (Rq (w5.setCell ⟨b, 0, none⟩ (.slice (some p) 0 0)) lo b (l.drop n) 0) := Lib.hid (by
        have := rq_put (n := n) (c := 0) (a' := some p) o5 HLEN.out (by omega) (Nat.zero_le _) (by rw [show len - n = 0 by omega]; exact Row.nil _ _ _) (fun q e => by injection e with e; rw [← e]; exact hp)
        rwa [show len - n = 0 by omega] at this)
      clear hr5 h4
      obtain ⟨pb, po, ps⟩ := p
      go_wp2_with fail
      go_ret
      exact ⟨v5, rfl, M5.out.just (Just.set b w5 0 _) (HB.out), HQ.out, HJ.out _⟩
    · have HQ : Hid (Rq (w5.setCell ⟨b, 0, none⟩ (.slice (some (p.add n)) (len - n) (c - n))) lo b (l.drop n) 0) := Lib.hid (rq_put o5 HLEN.out (by omega) (by unfold maxLen; omega) (row_add hr5 hl) (fun q e => by injection e with e; rw [← e]; unfold Addr.add; split <;> exact hp))
      clear hr5 h4
      obtain ⟨pb, po, ps⟩ := p
      go_wp2_with fail
      go_ret
      exact ⟨v5, rfl, M5.out.just (Just.set b w5 0 _) (HB.out), HQ.out, HJ.out _⟩
theorem num_bad (lo b : Nat) (l : List Int) (err : Int) (n : Nat) (w : World) (h : Rq w lo b l err) (hb : badQ l err n) (hn : n ≤ 100000) :
    Calls Try.prog 53 #[.pointer (some ⟨b, 0, none⟩), .int .i64 (n : Int)] w fun r w' => r = .returned (.int .u64 0) ∧ Rq w' lo b [] 2 ∧ Just b w w' := by
  go_enter Try.func53, Try.ntmps53
  go_wp2_with fail
  refine (raw_bad lo b l err n w h hb hn).mono ?_
  rintro r w2 ⟨rfl, h2, j2⟩
  go_wp2_with fail
  go_loopw [5, 12] (fun x i wr => x = .int .u64 0 ∧ i = .int .i64 0 ∧ w2 = wr) (fun _ _ _ => 0)
  case atStart => exact ⟨rfl, rfl, rfl⟩
  case round =>
    obtain ⟨rfl, rfl, rfl⟩ := hrel
    go_wp2_with fail
    go_ret
    exact ⟨rfl, h2, j2⟩
theorem numB_step {l : List Int} {k : Nat} {X c : Nat} (hX : numB (l.take k) = (X : Int)) (hk : k < l.length) (hc : l.getD k 0 = (c : Int)) : numB (l.take (k + 1)) = ((X * 256 + c : Nat) : Int) := by
  rw [tk_snoc hk, numB_snoc, hX, hc]
  push_cast
  rfl
theorem or_low (X c : Nat) (hc : c < 256) : X * 256 ||| c = X * 256 + c := by
  have := Nat.two_pow_add_eq_or_of_lt (i := 8) (b := c) hc X
  rw [Nat.mul_comm X 256]
  exact this.symm
set_option maxHeartbeats 1000000 in
theorem num_ok (lo b : Nat) (l : List Int) (n : Nat) (w : World) (h : Rq w lo b l 0) (hd : okD' l) (hl : n ≤ l.length) (hn : n ≤ 8) :
    Calls Try.prog 53 #[.pointer (some ⟨b, 0, none⟩), .int .i64 (n : Int)] w fun r w' => r = .returned (.int .u64 (numB (l.take n))) ∧ Rq w' lo b (l.drop n) 0 ∧ Just b w w' := by
  have HD := Lib.hid hd
  have HL := Lib.hid hl
  go_enter Try.func53, Try.ntmps53
  go_wp2_with fail
  refine (raw_ok lo b l n w h hl (by omega)).mono ?_
  rintro r w2 ⟨v, rfl, hV, h2, j2⟩
  obtain ⟨a, c, rfl, l1, l2, hR⟩ := hV.row
  unfold maxLen at l2
  clear hd hl hV h
  go_wp2_with fail
  go_loopw [5, 12] (fun x i wr => ∃ (k X : Nat), x = .int .u64 (X : Int) ∧ i = .int .i64 k ∧ k ≤ n ∧ Hid (numB (l.take k) = (X : Int)) ∧ X < 256 ^ k ∧ w2 = wr) (fun _ i _ => n - (intOf i).toNat)
  case atStart => exact ⟨0, 0, rfl, rfl, by omega, Lib.hid rfl, by decide, rfl⟩
  case round =>
    obtain ⟨k, X, rfl, rfl, hk, HX, hXb, rfl⟩ := hrel
    by_cases hlt : k < n
    · obtain ⟨p, o, rfl, _, x1⟩ := hR.at_ hlt
      unfold bval at x1
      rw [tk_get hlt] at x1
      have hcb : 0 ≤ l.getD k 0 ∧ l.getD k 0 < 256 := by
        have := HL.out
        rw [List.getD_eq_getElem?_getD, List.getElem?_eq_getElem (by omega)]
        exact HD.out _ (List.getElem_mem _)
      obtain ⟨c0, hc0⟩ : ∃ c0 : Nat, l.getD k 0 = (c0 : Int) := ⟨(l.getD k 0).toNat, by omega⟩
      rw [hc0] at x1 hcb
      have hX8 : X < 72057594037927936 := Nat.lt_of_lt_of_le hXb (show 256 ^ k ≤ 256 ^ 7 from Nat.pow_le_pow_right (by decide) (by omega))
      have HS := Lib.hid (numB_step HX.out (by have := HL.out; omega) hc0)
      have hb1 : X * 256 + c0 < 256 ^ (k + 1) := by
        rw [Nat.pow_succ]
        omega
      have HB := Lib.hid hb1
      have e9 : bits .or .u64 ((X : Int) * 256) (c0 : Int) = ((X * 256 + c0 : Nat) : Int) := by
        have := u64_or_nat (X * 256) c0 (by omega) (by omega)
        rw [or_low X c0 (by omega)] at this
        rw [← this]
        push_cast
        rfl
      clear hc0 hb1 hXb
      go_wp2_with fail
      exact ⟨⟨k + 1, X * 256 + c0, by simp, by simp, by omega, HS, HB.out, by first | trivial | rfl⟩, by simp [intOf]; omega⟩
    · obtain rfl : n = k := by omega
      go_wp2_with fail
      go_ret
      exact ⟨by rw [HX.out]; rfl, h2, j2⟩
theorem ru8_bad (lo b : Nat) (l : List Int) (err : Int) (w : World) (h : Rq w lo b l err) (hb : badQ l err 1) :
    Calls Try.prog 28 #[.pointer (some ⟨b, 0, none⟩)] w fun r w' => r = .returned (.int .i64 0) ∧ Rq w' lo b [] 2 ∧ Just b w w' := by
  go_enter Try.func28, Try.ntmps28
  go_wp2_with fail
  refine (num_bad lo b l err 1 w h hb (by omega)).mono ?_
  rintro r w2 ⟨rfl, h2, j2⟩
  go_wp2_with fail
  go_ret
  exact ⟨rfl, h2, j2⟩
theorem ru8_ok (lo b : Nat) (x : Int) (l : List Int) (w : World) (h : Rq w lo b (x :: l) 0) (hd : okD' (x :: l)) :
    Calls Try.prog 28 #[.pointer (some ⟨b, 0, none⟩)] w fun r w' => r = .returned (.int .i64 x) ∧ Rq w' lo b l 0 ∧ Just b w w' := by
  have hx := hd x (by simp)
  have hn := num_ok lo b (x :: l) 1 w h hd (by simp) (by omega)
  have e : numB ((x :: l).take 1) = x := by simp [numB]
  rw [e] at hn
  have HN := Lib.hid hn
  clear hn e
  go_enter Try.func28, Try.ntmps28
  go_wp2_with fail
  refine HN.out.mono ?_
  rintro r w2 ⟨rfl, h2, j2⟩
  go_wp2_with fail
  go_ret
  exact ⟨rfl, h2, j2⟩
theorem rend_any (lo b : Nat) (l : List Int) (err : Int) (w : World) (h : Rq w lo b l err) :
    Calls Try.prog 30 #[.pointer (some ⟨b, 0, none⟩)] w fun r w' => r = .returned (.int .i64 (endE l err)) ∧ w = w' := by
  obtain ⟨a, c, h1, h2, h3, h4, h5⟩ := h
  unfold maxLen at h3
  obtain ⟨len, hlen⟩ : ∃ len, l.length = len := ⟨_, rfl⟩
  rw [hlen] at h1 h2
  have c0 : w.cell? ⟨b, 0, none⟩ = some (.slice a len c) := h1.cell 0
  have c1 : w.cell? ⟨b, 1, none⟩ = some (.int .i64 err) := h1.cell 1
  by_cases he : err = 0
  · subst he
    by_cases hl : len = 0
    · have HE : Hid (endE l 0 = 0) := Lib.hid (by unfold endE; rw [if_pos rfl, if_pos (List.length_eq_zero_iff.1 (by omega))])
      subst hl
      clear hlen
      go_enter Try.func30, Try.ntmps30
      go_wp2_with fail
      go_ret
      exact ⟨by rw [HE.out]; rfl, rfl⟩
    · have HE : Hid (endE l 0 = 3) := Lib.hid (by unfold endE; rw [if_pos rfl, if_neg (fun e => hl (by rw [← hlen, e]; rfl))])
      have g1 : decide (0 < len) = true := by simp; omega
      have g2 : decide ((0 : Int) < (len : Int)) = true := by simp; omega
      clear hlen hl
      go_enter Try.func30, Try.ntmps30
      go_wp2_with fail
      go_ret
      exact ⟨by rw [HE.out]; rfl, rfl⟩
  · have HE : Hid (endE l err = err) := Lib.hid (by unfold endE; rw [if_neg he])
    have g1 : (err == 0) = false := by simpa using he
    clear hlen he
    go_enter Try.func30, Try.ntmps30
    go_wp2_with fail
    go_ret
    exact ⟨by rw [HE.out]; rfl, rfl⟩
end Go.Proofs.Ytiflmdekcjbmbaa.Ie
