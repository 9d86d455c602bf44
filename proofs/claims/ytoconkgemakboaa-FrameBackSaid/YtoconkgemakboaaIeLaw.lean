/-
  Package ie (chapter 6): elements that come in; bytes as a text; which are light; an element that every program must know.
-/
import Derived.Test.YtoconkgemakboaaIeEnc
import Derived.Deep.Strs
import Derived.Lib.SmallJoins
set_option maxRecDepth 100000
namespace Go.Proofs.Ytoconkgemakboaa.Ie
set_option linter.unusedVariables false
open Go.RowKit Go.ChangeShapes Go.WideShapes Go.ChangeAt Go.Deep Lb Bf

section
variable {H : Type} {enc : TypeId × Value → H} {w : World} {base : Nat}
theorem list_of (n : Nat) (Z : Nat → Int) : ∃ l : List Int, l.length = n ∧ ∀ i, i < n → l.getD i 0 = Z i :=
  ⟨(List.range n).map Z, by simp, fun i hi => by simp [List.getD, hi]⟩
theorem row_z {w : World} {a : Option Addr} {n : Nat} {Z : Nat → Int} {l : List Int} (h : Row w a n (fun i => .int .i64 (Z i))) (hl : l.length = n) (hz : ∀ i, i < n → l.getD i 0 = Z i) : Row w a l.length (zval l) := by
  intro h0
  rw [hl] at h0 ⊢
  obtain ⟨b, off, h1, h2, h3⟩ := h h0
  exact ⟨b, off, h1, h2, fun i hi => by rw [h3 i hi]; unfold zval; rw [hz i hi]⟩
theorem row_b {w : World} {a : Option Addr} {n : Nat} {Z : Nat → Int} {l : List Int} (h : Row w a n (fun i => .int .u8 (Z i))) (hl : l.length = n) (hz : ∀ i, i < n → l.getD i 0 = Z i) : Row w a l.length (bval l) := by
  intro h0
  rw [hl] at h0 ⊢
  obtain ⟨b, off, h1, h2, h3⟩ := h h0
  exact ⟨b, off, h1, h2, fun i hi => by rw [h3 i hi]; unfold bval; rw [hz i hi]⟩
theorem row_none {w : World} {a : Option Addr} {n : Nat} {V : Nat → Value} (h : Row w a n V) : a = none → n = 0 := fun e => by
  by_cases h0 : n = 0
  · exact h0
  · obtain ⟨_, _, h1, _⟩ := h (by omega)
    rw [e] at h1
    cases h1
theorem open_ints {v : Value} {d : DataW H} {p : List MemPlace} (hv : Value.okWide Try.prog w .any base 32 v)
    (h : DataW.Trod enc Try.prog w 0 (fun _ => true) true 32 v d p) :
    ∃ a, ∃ l : List Int, ∃ c, v = .slice a l.length c ∧ l.length ≤ c ∧ c ≤ maxLen ∧ Row w a l.length (zval l) ∧ (a = none → l.length = 0) := by
  obtain ⟨a, n, c, Z, rfl, h1, h2, h3, _⟩ := open_row_int Try.underlying32 Try.underlying3 (by kernel_rfl) hv h
  obtain ⟨l, hl, hz⟩ := list_of n Z
  have hr := row_z h3 hl hz
  exact ⟨a, l, c, by rw [hl], by rw [hl]; exact h1, h2, hr, row_none hr⟩
def okD (l : List Int) : Prop := ∀ x, x ∈ l → 0 ≤ x ∧ x < 256
theorem open_bytes {v : Value} {d : DataW H} {p : List MemPlace} (hv : Value.okWide Try.prog w .any base 23 v)
    (h : DataW.Trod enc Try.prog w 0 (fun _ => true) true 23 v d p) :
    ∃ a, ∃ l : List Int, ∃ c, v = .slice a l.length c ∧ l.length ≤ c ∧ c ≤ maxLen ∧ Row w a l.length (bval l) ∧ (a = none → l.length = 0) ∧ okD l := by
  obtain ⟨a, n, c, Z, rfl, h1, h2, h3, h4⟩ := open_row_int Try.underlying23 Try.underlying5 (by kernel_rfl) hv h
  obtain ⟨l, hl, hz⟩ := list_of n Z
  have hr := row_b h3 hl hz
  refine ⟨a, l, c, by rw [hl], by rw [hl]; exact h1, h2, hr, row_none hr, fun x hx => ?_⟩
  obtain ⟨i, hi, e⟩ := List.getElem_of_mem hx
  have := u8_bd (h4 i)
  have e2 := hz i (by omega)
  rw [List.getD_eq_getElem?_getD, List.getElem?_eq_getElem hi] at e2
  simp only [Option.getD_some] at e2
  rw [← e, e2]
  exact this
theorem open_cell {P : Program} {t e : TypeId} {k : IntKind} {v : Value} {fuel : Nat} {y : DataW H × List MemPlace} (ht : P.underlying t = some (.slice e)) (he : P.underlying e = some (.int k)) (hc : P.cellsOf e = 1) (hf : DataW.trod enc P w 0 (fun _ => true) true fuel t [v] = some y) :
    ∃ a n c, ∃ Z : Nat → Int, v = .slice a n c ∧ n ≤ c ∧ c ≤ maxLen ∧ Row w a n (fun i => .int k (Z i)) ∧ ∀ i, (Lit.int k (Z i)).wf = true := by
  obtain ⟨dd, pp⟩ := y
  have key : ∃ a n c V, v = .slice a n c ∧ n ≤ c ∧ c ≤ maxLen ∧ Row w a n V ∧ ∀ i, i < n → ∃ f y, DataW.trod enc P w 0 (fun _ => true) true f e [V i] = some y := by
    rcases open_slice1 ht hc hf with ⟨hcs, _⟩ | ⟨x, l, c, m, n, V, D, Pl, hcs, _, hl, hm, hmm, _, hx⟩
    · simp at hcs
      subst hcs
      exact ⟨none, 0, 0, fun _ => undef, rfl, Nat.le_refl _, Nat.zero_le _, Row.nil _ _ _, fun i hi => absurd hi (by omega)⟩
    · simp at hcs
      subst hcs
      simp only [if_true] at hmm
      subst hmm
      obtain ⟨b, off, spot⟩ := x
      refine ⟨_, _, _, V, rfl, hl, hm, fun hn => ?_, fun i hi => ⟨_, _, (hx i (by omega)).2⟩⟩
      have h0 := (hx 0 (by omega)).1
      have hspot : spot = none := by simpa [Addr.add] using World.cell?_spot h0
      subst hspot
      refine ⟨b, off, rfl, ?_, fun i hi => ?_⟩
      · simpa [Addr.add] using lt_of_cell h0
      · have := (hx i (by omega)).1
        unfold Addr.add at this
        split at this
        · rename_i hi0
          subst hi0
          exact this
        · exact this
  obtain ⟨a, n, c, V, rfl, h1, h2, h3, h4⟩ := key
  obtain ⟨Z, hZ⟩ := choose_fn (q := fun i z => V i = .int k z ∧ (Lit.int k z).wf = true) (0 : Int) (fun i hi => by
    obtain ⟨f, y, hy⟩ := h4 i hi
    obtain ⟨z, hz, _, hw⟩ := DataW.trod_int he hy
    exact ⟨z, by simpa using hz, hw⟩)
  refine ⟨a, n, c, fun i => if i < n then Z i else 0, rfl, h1, h2, fun hn => ?_, fun i => ?_⟩
  · obtain ⟨b, off, e1, e2, e3⟩ := h3 hn
    exact ⟨b, off, e1, e2, fun i hi => by simp only [e3 i hi, (hZ i hi).1, if_pos hi]⟩
  · by_cases hi : i < n
    · simp only [if_pos hi]; exact (hZ i hi).2
    · simp only [if_neg hi]; cases k <;> decide
theorem open_ie {v : Value} {d : DataW H} {pl : List MemPlace} (hv : Value.okWide Try.prog w .any base 52 v)
    (h : DataW.Trod enc Try.prog w 0 (fun _ => true) true 52 v d pl) :
    ∃ p : El, ∃ a c, v = .agg (p.vals a c) ∧ p.At w a c := by
  have hC : Try.prog.cellsOf 52 = 5 := by kernel_rfl
  have hI : Try.prog.cellsOf 3 = 1 := by kernel_rfl
  have hJ : Try.prog.cellsOf 2 = 1 := by kernel_rfl
  have hS : Try.prog.cellsOf 32 = 1 := by kernel_rfl
  obtain ⟨cs, rfl, hsz⟩ := okWide_struct Try.underlying52 hv
  rw [hC] at hsz
  obtain ⟨l⟩ := cs
  match l, hsz with
  | [x0, x1, x2, x3, x4], _ =>
  obtain ⟨fuel, hf⟩ := h
  obtain ⟨xs, k, _, _, _, hlen, hfs⟩ := DataW.trod_struct Try.underlying52 hf
  match xs, hlen with
  | [y0, y1, y2, y3, y4], _ =>
  obtain ⟨z0, e0, _, _⟩ := DataW.trod_int Try.underlying3 (hfs 0 _ rfl)
  obtain ⟨z1, e1, _, _⟩ := DataW.trod_int Try.underlying2 (hfs 1 _ rfl)
  obtain ⟨z2, e2, _, _⟩ := DataW.trod_int Try.underlying3 (hfs 2 _ rfl)
  obtain ⟨z3, e3, _, _⟩ := DataW.trod_int Try.underlying3 (hfs 3 _ rfl)
  have e4 := hfs 4 _ rfl
  simp [Value.cells, hI, hJ, hS] at e0 e1 e2 e3 e4
  subst e0 e1 e2 e3
  obtain ⟨a, n, c, Z, rfl, g1, g2, g3, g4⟩ := open_cell Try.underlying32 Try.underlying3 (by kernel_rfl) e4
  obtain ⟨l4, hl4, hz4⟩ := list_of n Z
  have r4 := row_z g3 hl4 hz4
  refine ⟨⟨z0, z1, z2, z3, l4⟩, a, c, ?_, ⟨by rw [hl4]; exact g1, g2, r4, row_none r4⟩⟩
  subst hl4
  rfl
theorem open_els {v : Value} {d : DataW H} {pl : List MemPlace} (hv : Value.okWide Try.prog w .any base 22 v)
    (h : DataW.Trod enc Try.prog w 0 (fun _ => true) true 22 v d pl) :
    ∃ L a c, v = .slice a L.length c ∧ Els w L a c ∧ (a = none → L.length = 0) := by
  obtain ⟨a, n, c, V, rfl, h1, h2, h3, h4⟩ := open_row_struct Try.underlying22 Try.underlying52 (by kernel_rfl) (by kernel_rfl) (by decide) hv h
  have hn5 : n * (5 : Nat) = n * 5 := rfl
  have key : ∃ f : Nat → EP, ∀ i, i < n → V (i * 5) = .int .i64 (f i).e.k ∧ V (i * 5 + 1) = .int .i64 (f i).e.asn ∧ V (i * 5 + 2) = .int .i64 (f i).e.rank ∧ V (i * 5 + 3) = .int .i64 (f i).e.ticks ∧
      V (i * 5 + 4) = .slice (f i).a (f i).e.list.length (f i).c ∧ (f i).e.At w (f i).a (f i).c := by
    refine choose_fn (q := fun i (x : EP) => V (i * 5) = .int .i64 x.e.k ∧ V (i * 5 + 1) = .int .i64 x.e.asn ∧ V (i * 5 + 2) = .int .i64 x.e.rank ∧ V (i * 5 + 3) = .int .i64 x.e.ticks ∧
      V (i * 5 + 4) = .slice x.a x.e.list.length x.c ∧ x.e.At w x.a x.c) ep0 (fun i hi => ?_)
    obtain ⟨f0, y0, k0⟩ := h4 i hi 0 _ rfl
    obtain ⟨f1, y1, k1⟩ := h4 i hi 1 _ rfl
    obtain ⟨f2, y2, k2⟩ := h4 i hi 2 _ rfl
    obtain ⟨f3, y3, k3⟩ := h4 i hi 3 _ rfl
    obtain ⟨f4, y4, k4⟩ := h4 i hi 4 _ rfl
    obtain ⟨z0, e0, _, _⟩ := DataW.trod_int Try.underlying3 k0
    obtain ⟨z1, e1, _, _⟩ := DataW.trod_int Try.underlying2 k1
    obtain ⟨z2, e2, _, _⟩ := DataW.trod_int Try.underlying3 k2
    obtain ⟨z3, e3, _, _⟩ := DataW.trod_int Try.underlying3 k3
    obtain ⟨b, m, e, Z, e4, g1, g2, g3, g4⟩ := open_cell Try.underlying32 Try.underlying3 (by kernel_rfl) k4
    obtain ⟨l4, hl4, hz4⟩ := list_of m Z
    have r4 := row_z g3 hl4 hz4
    refine ⟨⟨⟨z0, z1, z2, z3, l4⟩, b, e⟩, by simpa using e0, by simpa using e1, by simpa using e2, by simpa using e3, ?_, ⟨by rw [hl4]; exact g1, g2, r4, row_none r4⟩⟩
    simp only [hl4]
    exact e4
  obtain ⟨f, hf⟩ := key
  have hlen : ((List.range n).map f).length = n := by simp
  have hget : ∀ i, i < n → ((List.range n).map f).getD i ep0 = f i := fun i hi => by simp [List.getD, hi]
  have hrow : Row w a (n * 5) (ev ((List.range n).map f)) := by
    intro h0
    obtain ⟨b, off, e1, e2, e3⟩ := h3 h0
    refine ⟨b, off, e1, e2, fun q hq => ?_⟩
    have hq' : q < n * 5 := hq
    rw [e3 q hq]
    have hi : q / 5 < n := by omega
    obtain ⟨g0, g1, g2, g3, g4, _⟩ := hf (q / 5) hi
    have hg := hget (q / 5) hi
    have hm : q % 5 = 0 ∨ q % 5 = 1 ∨ q % 5 = 2 ∨ q % 5 = 3 ∨ q % 5 = 4 := by omega
    rcases hm with hm | hm | hm | hm | hm
    · rw [show q = q / 5 * 5 by omega, ev0, hg, g0]
    · rw [show q = q / 5 * 5 + 1 by omega, ev1, hg, g1]
    · rw [show q = q / 5 * 5 + 2 by omega, ev2, hg, g2]
    · rw [show q = q / 5 * 5 + 3 by omega, ev3, hg, g3]
    · rw [show q = q / 5 * 5 + 4 by omega, ev4, hg, g4]
  refine ⟨(List.range n).map f, a, c, by rw [hlen], ⟨by rw [hlen]; exact h1, h2, by rw [hlen]; exact hrow, fun k hk => ?_⟩, fun e => ?_⟩
  · rw [hlen] at hk
    rw [hget k hk]
    exact (hf k hk).2.2.2.2.2
  · rw [hlen]
    have := row_none hrow e
    omega
end
def bstr (l : List Int) : ByteArray := str (fun i => l.getD i 0) l.length
theorem conv_b {w : World} {a : Option Addr} {l : List Int} (c : Nat) (h : Row w a l.length (bval l)) : (convert 23 9 (.slice a l.length c)).run Try.prog w = .ok (.string (bstr l)) w :=
  conv_string Try.underlying23 Try.underlying5 Try.underlying9 h
theorem okD_at {l : List Int} (h : okD l) (i : Nat) : 0 ≤ l.getD i 0 ∧ l.getD i 0 < 256 := by
  by_cases hi : i < l.length
  · rw [List.getD_eq_getElem?_getD, List.getElem?_eq_getElem hi]
    exact h _ (List.getElem_mem hi)
  · rw [List.getD_eq_getElem?_getD, List.getElem?_eq_none (by omega)]
    exact ⟨by decide, by decide⟩
theorem bstr_inj {l m : List Int} (hl : okD l) (hm : okD m) (h : (bstr l).toList = (bstr m).toList) : l = m := by
  obtain ⟨h1, h2⟩ := str_list_inj (fun i => okD_at hl i) (fun i => okD_at hm i) h
  exact list_eq h1 (fun j hj => h2 j hj)
theorem bstr_beq {l m : List Int} (hl : okD l) (hm : okD m) : ((bstr l).toList == (bstr m).toList) = decide (l = m) := by
  by_cases h : l = m
  · rw [decide_eq_true h, h]
    exact beq_self_eq_true _
  · rw [decide_eq_false h]
    exact beq_eq_false_iff_ne.2 fun e => h (bstr_inj hl hm e)
def lightB (L : List EP) : Bool := decide (L.length ≤ 20 ∧ ∀ k, k < L.length → (L.getD k ep0).e.list.length ≤ 100)
set_option maxHeartbeats 1000000 in
theorem light_any (L : List EP) (a : Option Addr) (c : Nat) (w : World) (h : Els w L a c) :
    Calls Try.prog 21 #[.slice a L.length c] w fun r w' => ∃ x : Nat, r = .returned (.int .i64 (x : Int)) ∧ (x = 0 ↔ lightB L = true) ∧ Below w.heap.size w w' := by
  have hlc := h.lc
  have hcm := h.cm
  unfold maxLen at hcm
  have hrow := h.row
  clear h
  obtain ⟨n, hn⟩ : ∃ n, L.length = n := ⟨_, rfl⟩
  have HN := Lib.hid hn
  rw [hn] at hlc hrow ⊢
  clear hn
  go_enter Try.func21, Try.ntmps21
  go_wp2_with fail
  go_loopw [7] (fun i wr => ∃ (k : Nat), i = .int .i64 k ∧ k ≤ n ∧ k ≤ 20 ∧ Hid (∀ j, j < k → (L.getD j ep0).e.list.length ≤ 100) ∧ Below w.heap.size w wr) (fun i _ => n - (intOf i).toNat)
  case atStart => exact ⟨0, rfl, by omega, by omega, Lib.hid (fun j hj => by omega), Below.refl _ _⟩
  case round =>
    obtain ⟨k, rfl, hk, h20, HE, b2⟩ := hrel
    by_cases hlt : k < n
    · obtain ⟨x, hx⟩ : ∃ x, L.getD k ep0 = x := ⟨_, rfl⟩
      obtain ⟨pb, po, rfl, hpb, x0, x1, x2, x3, x4⟩ := erow hrow b2 hlt hx
      have HX := Lib.hid hx
      clear hx
      obtain ⟨⟨ek, easn, erank, et, el⟩, ea, ec⟩ := x
      simp only at x0 x1 x2 x3 x4
      obtain ⟨m, hm⟩ : ∃ m, el.length = m := ⟨_, rfl⟩
      rw [hm] at x4
      have HM := Lib.hid hm
      clear hm
      have b3 := b2.alloc b2.size (.cells #[.int .i64 ek, .int .i64 easn, .int .i64 erank, .int .i64 et, .slice ea m ec] 52)
      by_cases k20 : k < 20
      · have g0 : decide ((20 : Int) ≤ (k : Int)) = false := by simp; omega
        have g0' : decide (20 ≤ k) = false := by simp; omega
        by_cases hm1 : m ≤ 100
        · have g1 : decide ((100 : Int) < (m : Int)) = false := by simp; omega
          have g1' : decide (100 < m) = false := by simp; omega
          go_wp2_with fail
          exact ⟨⟨k + 1, by simp, by omega, by omega, Lib.hid (fun j hj => by
            by_cases e : j = k
            · subst e; rw [HX.out]; show el.length ≤ 100; rw [HM.out]; exact hm1
            · exact HE.out j (by omega)), b3⟩, by simp [intOf]; omega⟩
        · have g1 : decide ((100 : Int) < (m : Int)) = true := by simp; omega
          have g1' : decide (100 < m) = true := by simp; omega
          have HD : Hid (¬ lightB L = true) := Lib.hid (fun e => by
            unfold lightB at e
            rw [decide_eq_true_eq] at e
            have := e.2 k (by rw [HN.out]; exact hlt)
            rw [HX.out] at this
            have : el.length ≤ 100 := this
            rw [HM.out] at this
            omega)
          clear hm1
          go_wp2_with fail
          go_ret
          exact ⟨k + 1, rfl, ⟨fun e => by omega, fun e => absurd e HD.out⟩, b3⟩
      · have g0 : decide ((20 : Int) ≤ (k : Int)) = true := by simp; omega
        have g0' : decide (20 ≤ k) = true := by simp; omega
        have HD : Hid (¬ lightB L = true) := Lib.hid (fun e => by
          unfold lightB at e
          rw [decide_eq_true_eq, HN.out] at e
          omega)
        go_wp2_with fail
        go_ret
        exact ⟨k + 1, rfl, ⟨fun e => by omega, fun e => absurd e HD.out⟩, b3⟩
    · obtain rfl : n = k := by omega
      have HD : Hid (lightB L = true) := Lib.hid (by
        unfold lightB
        rw [decide_eq_true_eq, HN.out]
        exact ⟨h20, HE.out⟩)
      go_wp2_with fail
      go_ret
      exact ⟨0, rfl, ⟨fun _ => HD.out, fun _ => rfl⟩, b2⟩
end Go.Proofs.Ytoconkgemakboaa.Ie
