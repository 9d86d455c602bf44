/-
  Package frame (chapter 7): frames that come in; which are light; a frame that every program must know.
-/
import Derived.Test.YtoconkgemakboaaFrDec
import Derived.Test.YtoconkgemakboaaRowRow
set_option maxRecDepth 100000
namespace Go.Proofs.Ytoconkgemakboaa.Fm
set_option linter.unusedVariables false
open Go.RowKit Go.ChangeShapes Go.WideShapes Go.ChangeAt Go.Deep Lb Bf Ie

section
variable {H : Type} {enc : TypeId × Value → H} {w : World} {base : Nat}
theorem open_cell_els {v : Value} {y : DataW H × List MemPlace} {fuel : Nat} (hf : DataW.trod enc Try.prog w 0 (fun _ => true) true fuel 22 [v] = some y) :
    ∃ L a c, v = .slice a L.length c ∧ Els w L a c := by
  obtain ⟨a, n, c, V, rfl, h1, h2, h3, h4⟩ := open_cell_struct Try.underlying22 Try.underlying52 (by kernel_rfl) (by kernel_rfl) (by decide) hf
  have hn5 : n * (5 : Nat) = n * 5 := rfl
  have key : ∃ f : Nat → EP, ∀ i, i < n → V (i * 5) = .int .i64 (f i).e.k ∧ V (i * 5 + 1) = .int .i64 (f i).e.asn ∧ V (i * 5 + 2) = .int .i64 (f i).e.rank ∧ V (i * 5 + 3) = .int .i64 (f i).e.ticks ∧
      V (i * 5 + 4) = .slice (f i).a (f i).e.list.length (f i).c ∧ (f i).e.At w (f i).a (f i).c := by
    refine choose_fn (q := fun i (x : EP) => V (i * 5) = .int .i64 x.e.k ∧ V (i * 5 + 1) = .int .i64 x.e.asn ∧ V (i * 5 + 2) = .int .i64 x.e.rank ∧ V (i * 5 + 3) = .int .i64 x.e.ticks ∧
      V (i * 5 + 4) = .slice x.a x.e.list.length x.c ∧ x.e.At w x.a x.c) ep0 (fun i hi => ?_)
    obtain ⟨f0, y0, k0⟩ := h4 i hi 0 _ rfl
    obtain ⟨f1, y1, k1⟩ := h4 i hi 1 _ rfl
    obtain ⟨f2, y2, k2⟩ := h4 i hi 2 _ rfl
    obtain ⟨f3, y3, k3⟩ := h4 i hi 3 _ rfl
    obtain ⟨f4, y4, k4⟩ := h4 i hi 4 _ rfl
    obtain ⟨z0, e0, _, _⟩ := DataW.trod_int Try.underlying3 k0
    obtain ⟨z1, e1, _, _⟩ := DataW.trod_int Try.underlying2 k1
    obtain ⟨z2, e2, _, _⟩ := DataW.trod_int Try.underlying3 k2
    obtain ⟨z3, e3, _, _⟩ := DataW.trod_int Try.underlying3 k3
    obtain ⟨b, m, e, Z, e4, g1, g2, g3, g4⟩ := open_cell Try.underlying32 Try.underlying3 (by kernel_rfl) k4
    obtain ⟨l4, hl4, hz4⟩ := list_of m Z
    have r4 := row_z g3 hl4 hz4
    refine ⟨⟨⟨z0, z1, z2, z3, l4⟩, b, e⟩, by simpa using e0, by simpa using e1, by simpa using e2, by simpa using e3, ?_, ⟨by rw [hl4]; exact g1, g2, r4, row_none r4⟩⟩
    simp only [hl4]
    exact e4
  obtain ⟨f, hfk⟩ := key
  have hlen : ((List.range n).map f).length = n := by simp
  have hget : ∀ i, i < n → ((List.range n).map f).getD i ep0 = f i := fun i hi => by simp [List.getD, hi]
  have hrow : Row w a (n * 5) (ev ((List.range n).map f)) := by
    intro h0
    obtain ⟨b, off, e1, e2, e3⟩ := h3 h0
    refine ⟨b, off, e1, e2, fun q hq => ?_⟩
    have hq' : q < n * 5 := hq
    rw [e3 q hq]
    have hi : q / 5 < n := by omega
    obtain ⟨g0, g1, g2, g3, g4, _⟩ := hfk (q / 5) hi
    have hg := hget (q / 5) hi
    have hm : q % 5 = 0 ∨ q % 5 = 1 ∨ q % 5 = 2 ∨ q % 5 = 3 ∨ q % 5 = 4 := by omega
    rcases hm with hm | hm | hm | hm | hm
    · rw [show q = q / 5 * 5 by omega, ev0, hg, g0]
    · rw [show q = q / 5 * 5 + 1 by omega, ev1, hg, g1]
    · rw [show q = q / 5 * 5 + 2 by omega, ev2, hg, g2]
    · rw [show q = q / 5 * 5 + 3 by omega, ev3, hg, g3]
    · rw [show q = q / 5 * 5 + 4 by omega, ev4, hg, g4]
  refine ⟨(List.range n).map f, a, c, by rw [hlen], ⟨by rw [hlen]; exact h1, h2, by rw [hlen]; exact hrow, fun k hk => ?_⟩⟩
  rw [hlen] at hk
  rw [hget k hk]
  exact (hfk k hk).2.2.2.2.2
theorem open_frame {v : Value} {d : DataW H} {pl : List MemPlace} (hv : Value.okWide Try.prog w .any base 25 v)
    (h : DataW.Trod enc Try.prog w 0 (fun _ => true) true 25 v d pl) : ∃ p : Fp, v = .agg p.vals ∧ p.At w := by
  have hC : Try.prog.cellsOf 25 = 6 := by kernel_rfl
  have hI : Try.prog.cellsOf 3 = 1 := by kernel_rfl
  have hS : Try.prog.cellsOf 22 = 1 := by kernel_rfl
  have hB : Try.prog.cellsOf 23 = 1 := by kernel_rfl
  obtain ⟨cs, rfl, hsz⟩ := okWide_struct Try.underlying25 hv
  rw [hC] at hsz
  obtain ⟨l⟩ := cs
  match l, hsz with
  | [x0, x1, x2, x3, x4, x5], _ =>
  obtain ⟨fuel, hf⟩ := h
  obtain ⟨xs, k, _, _, _, hlen, hfs⟩ := DataW.trod_struct Try.underlying25 hf
  match xs, hlen with
  | [y0, y1, y2, y3, y4, y5], _ =>
  obtain ⟨z0, e0, _, w0⟩ := DataW.trod_int Try.underlying3 (hfs 0 _ rfl)
  obtain ⟨z1, e1, _, w1⟩ := DataW.trod_int Try.underlying3 (hfs 1 _ rfl)
  obtain ⟨z2, e2, _, w2⟩ := DataW.trod_int Try.underlying3 (hfs 2 _ rfl)
  obtain ⟨z3, e3, _, w3⟩ := DataW.trod_int Try.underlying3 (hfs 3 _ rfl)
  have e4 := hfs 4 _ rfl
  have e5 := hfs 5 _ rfl
  simp [Value.cells, hI, hS, hB] at e0 e1 e2 e3 e4 e5
  subst e0 e1 e2 e3
  obtain ⟨L, a, c, rfl, hels⟩ := open_cell_els e4
  obtain ⟨b, m, e, Y, rfl, k1, k2, k3, k4⟩ := open_cell Try.underlying23 Try.underlying5 (by kernel_rfl) e5
  obtain ⟨l5, hl5, hz5⟩ := list_of m Y
  have r5 := row_b k3 hl5 hz5
  refine ⟨⟨z0, z1, z2, z3, L, a, c, l5, b, e⟩, ?_, ⟨hels, by rw [hl5]; exact k1, k2, r5, fun x hx => ?_⟩⟩
  · subst hl5
    rfl
  · have hx : x ∈ l5 := hx
    obtain ⟨i, hi, rfl⟩ := List.getElem_of_mem hx
    have h1 := u8_bd (k4 i)
    have h2 := hz5 i (by omega)
    rw [List.getD_eq_getElem?_getD, List.getElem?_eq_getElem hi] at h2
    simp only [Option.getD_some] at h2
    rw [h2]
    exact h1
end
def lightF (p : Fp) : Bool := lightB p.L && decide (p.data.length ≤ 200)
theorem lightF_out {p : Fp} (h : lightF p = true) : (∀ k, k < p.L.length → (p.L.getD k ep0).e.list.length ≤ 1000000) ∧ p.L.length ≤ 20 ∧ p.data.length ≤ 200 := by
  unfold lightF lightB at h
  rw [Bool.and_eq_true, decide_eq_true_eq, decide_eq_true_eq] at h
  exact ⟨fun k hk => by have := h.1.2 k hk; omega, h.1.1, h.2⟩
theorem lightF_any (p : Fp) (w : World) (h : p.At w) :
    Calls Try.prog 9 #[.agg p.vals] w fun r w' => r = .returned (.bool (lightF p)) ∧ Below w.heap.size w w' := by
  have o1 := Own.new w 25 p.vals
  have b0 := (Below.refl w.heap.size w).alloc (Nat.le_refl _) (.cells p.vals 25)
  have h1 := h.below b0
  have hL := light_any p.L p.a p.c _ h1.els
  have HL := Lib.hid hL
  have hlF : lightF p = (lightB p.L && decide (p.data.length ≤ 200)) := rfl
  have HLF := Lib.hid hlF
  clear hL hlF
  obtain ⟨pk, ps, pd, pq, pL, pa, pc, pdata, pb, pe⟩ := p
  unfold Fp.vals at *
  simp only at *
  obtain ⟨nd, hnd⟩ : ∃ n, pdata.length = n := ⟨_, rfl⟩
  rw [hnd] at o1 b0 HL HLF ⊢
  obtain ⟨nl, hnl⟩ : ∃ n, pL.length = n := ⟨_, rfl⟩
  rw [hnl] at o1 b0 HL ⊢
  clear hnd hnl h h1
  go_enter Try.func9, Try.ntmps9
  go_upto_region 1 with (fail)
  generalize w.alloc (.cells #[.int .i64 pk, .int .i64 ps, .int .i64 pd, .int .i64 pq, .slice pa nl pc, .slice pb nd pe] 25) = w1 at *
  have x4 : w1.cell? ⟨w.heap.size, 4, none⟩ = some (.slice pa nl pc) := o1.cell 4
  go_wp2_with fail
  refine HL.out.mono ?_
  rintro r w2 ⟨x, rfl, hx, b2⟩
  have o2 := below_own b2 o1 o1.lt
  have b3 := b0.trans (b2.mono b0.size)
  have y5 : w2.cell? ⟨w.heap.size, 5, none⟩ = some (.slice pb nd pe) := o2.cell 5
  have HX := Lib.hid hx
  clear hx x4 b2 b0 o1
  by_cases hx0 : x = 0
  · have hlb : lightB pL = true := HX.out.1 hx0
    have HLB := Lib.hid hlb
    subst hx0
    clear hlb
    have g2 : decide ((nd : Int) ≤ 200) = decide (nd ≤ 200) := by rw [Bool.eq_iff_iff]; simp; omega
    go_wp2_with fail
    go_ret
    exact ⟨by rw [HLF.out, HLB.out]; rfl, b3⟩
  · have hlb : lightB pL = false := by
      cases h : lightB pL
      · rfl
      · exact absurd (HX.out.2 h) hx0
    have HLB := Lib.hid hlb
    have g1 : ((x : Int) == 0) = false := by simp; omega
    have g1' : (x == 0) = false := by simp; omega
    clear hlb hx0
    go_wp2_with fail
    go_ret
    exact ⟨by rw [HLF.out, HLB.out]; rfl, b3⟩
def awf : Fp := ⟨4, 1, 2, 3, [], none, 0, [], none, 0⟩
theorem awf_at (w : World) : awf.At w := ⟨⟨Nat.le_refl _, Nat.zero_le _, Row.nil _ _ _, fun k hk => by cases hk⟩, Nat.le_refl _, Nat.zero_le _, Row.nil _ _ _, okD_nil⟩
theorem awf_may : mayF awf.fr = true := by decide
theorem awf_enc : encF awf.fr = [197, 4, 1, 2, 3, 1, 0, 0, 182, 59] := by decide +kernel
theorem awf_dec : decF [197, 4, 1, 2, 3, 1, 0, 0, 182, 59] = .ok awf.fr := by rw [← awf_enc]; exact decF_enc awf_may okD_nil
set_option maxHeartbeats 1000000 in
theorem awakeF_any (w : World) : Calls Try.prog 10 #[] w fun r w' => r = .returned (.bool true) ∧ Below w.heap.size w w' := by
  have hE : ∀ W, Calls Try.prog 11 #[.agg #[.int .i64 4, .int .i64 1, .int .i64 2, .int .i64 3, .slice none 0 0, .slice none 0 0]] W fun r w' => ∃ v, r = .returned (.tuple #[v, .int .i64 0]) ∧ Mine w' W.heap.size 5 v 10 (bval [197, 4, 1, 2, 3, 1, 0, 0, 182, 59]) ∧ Below W.heap.size W w' := fun W => by
    refine (encF_any awf W (awf_at W) (fun k hk => by cases hk)).mono ?_
    intro r w' h
    unfold EncFPost at h
    rw [if_pos awf_may, awf_enc] at h
    exact h
  have HE := Lib.hid hE
  clear hE
  go_enter Try.func10, Try.ntmps10
  go_wp2_with fail
  refine (HE.out _).mono ?_
  rintro r w2 ⟨v, rfl, hM, b2⟩
  obtain ⟨a, c, rfl, l1, l2, hR⟩ := hM.row
  have hD := decF_any a c [197, 4, 1, 2, 3, 1, 0, 0, 182, 59] w2 l1 l2 (by decide) hR (fun x hx => by simp at hx; omega)
  have HD := Lib.hid hD
  have HR := Lib.hid hR
  unfold maxLen at l2
  clear hD hR hM HE
  go_wp2_with fail
  refine HD.out.mono ?_
  intro r w3 h
  unfold DecFPost at h
  rw [awf_dec] at h
  simp only at h
  obtain ⟨p, hp, rfl, hat, b3⟩ := h
  have h2 : p.d = 2 := congrArg Fr.d hp
  have h3 : p.q = 3 := congrArg Fr.q hp
  obtain ⟨pk, ps, pd, pq, pL, pa, pc, pdata, pb, pe⟩ := p
  simp only at h2 h3
  subst h2 h3
  have hR3 := HR.out.below b3
  unfold Fp.vals
  simp only
  have o4 := Own.new w3 25 #[.int .i64 pk, .int .i64 ps, .int .i64 2, .int .i64 3, .slice pa pL.length pc, .slice pb pdata.length pe]
  have bA := (Below.refl w3.heap.size w3).alloc (Nat.le_refl _) (.cells #[.int .i64 pk, .int .i64 ps, .int .i64 2, .int .i64 3, .slice pa pL.length pc, .slice pb pdata.length pe] 25)
  have hR4 := hR3.below bA
  have b4 := (b2.trans (b3.mono b2.size)).trans (bA.mono (Nat.le_trans b2.size b3.size))
  obtain ⟨g, o, rfl, _, hrow⟩ := hR4 (by decide)
  have c0 := hrow 0 (by decide)
  rw [Nat.add_zero] at c0
  clear hrow hR3 hR4 HD HR hat hp bA b2 b3
  go_upto_region 3 with (fail)
  generalize w3.alloc (.cells #[.int .i64 pk, .int .i64 ps, .int .i64 2, .int .i64 3, .slice pa pL.length pc, .slice pb pdata.length pe] 25) = w4 at *
  obtain ⟨g3, hg3⟩ : ∃ g, w3.heap.size = g := ⟨_, rfl⟩
  rw [hg3] at o4 ⊢
  have x2 : w4.cell? ⟨g3, 2, none⟩ = some (.int .i64 2) := o4.cell 2
  have x3 : w4.cell? ⟨g3, 3, none⟩ = some (.int .i64 3) := o4.cell 3
  clear hg3 o4
  replace c0 : w4.cell? ⟨g, o, none⟩ = some (.int .u8 197) := c0
  have e0 : ((10 : Int) == 10) = true := rfl
  go_wp2_with fail
  go_ret
  exact ⟨rfl, b4⟩
end Go.Proofs.Ytoconkgemakboaa.Fm
