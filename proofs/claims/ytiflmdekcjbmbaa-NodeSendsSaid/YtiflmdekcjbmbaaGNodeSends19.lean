/-
  A node (chapter 24): node 0 that knows no way sends nothing; what node 0 does in a slot that is not its own. The calls of chapter 24's laws: opened; few of them. A node (chapter 24): the one that every program must know.
-/
import Derived.Test.YtiflmdekcjbmbaaGNodeSends16
import Derived.Test.YtiflmdekcjbmbaaGNodeSends15
import Derived.Test.YtiflmdekcjbmbaaGNodeSends07
import Derived.Test.YtiflmdekcjbmbaaGNodeSends13
import Derived.Test.YtiflmdekcjbmbaaGNodeSends04
import Derived.Test.YtiflmdekcjbmbaaGNodeSends18
set_option maxRecDepth 100000
namespace Go.Proofs.Ytiflmdekcjbmbaa.Nd
set_option linter.unusedVariables false
set_option linter.unusedSimpArgs false
open Go.RowKit Lb Ie Fm

def SendNo (w : World) (r : Ending) (w' : World) : Prop := (∃ e, r = .returned (.tuple #[.int .i64 0, .int .i64 e])) ∧ Below w.heap.size w w'
set_option maxHeartbeats 4000000 in
theorem send0_any {w : World} {b : Nat} {s : Ns} {h : Hm} (n : Nd w b s h) (f : Fit s) (h0 : s.id = 0) (hp : ∀ k, k < 16 → s.paths k = []) (asn tt : Int) (a : Option Addr) (ln c : Nat) (hln : ln ≤ 9223372036854775807) :
    Calls Try.prog 8 #[.pointer (some ⟨b, 0, none⟩), .int .i64 asn, .int .i64 tt, .slice a ln c] w (SendNo w) := by
  have hn := f.c.nodes
  have PL := lives_any n
  have PA := isASN_any asn w
  have PK := knows_any n tt (by omega)
  have PI := isIn_any (ln : Int) 1 24 w
  have c0 : w.cell? ⟨b, 0, none⟩ = some (.int .i64 0) := by rw [n.c_id, h0]
  have c40 : w.cell? ⟨b, 40, none⟩ = some (.pointer (some ⟨h.sb, 0, none⟩)) := by rw [n.c_sb, (f.root h0).1]; rfl
  have c39 : w.cell? ⟨b, 39, none⟩ = some (.bool true) := by rw [n.c_inT, (f.root h0).1]
  have PF : Calls Try.prog 20 #[.pointer (some ⟨h.sb, 0, none⟩)] w fun r w' => r = .returned (.tuple #[.int .i64 0, .bool false]) ∧ w = w' := by
    have := Pa.fst_any 0 h.sb s.id s.rk s.set h.sv w (n.set (f.root h0).1)
    rw [(f.root h0).2.1] at this
    exact this
  obtain ⟨qa, hqa⟩ : ∃ q, asnB asn = q := ⟨_, rfl⟩
  obtain ⟨qk, hqk⟩ : ∃ q, inB tt 0 (s.c.nodes - 1) = q := ⟨_, rfl⟩
  obtain ⟨qi, hqi⟩ : ∃ q, inB (ln : Int) 1 24 = q := ⟨_, rfl⟩
  rw [hqa] at PA
  rw [hqk] at PK
  rw [hqi] at PI
  have HK : Hid (qk = true → 0 ≤ tt ∧ tt < 16) := Lib.hid (fun e => by
    rw [e] at hqk
    unfold inB at hqk
    rw [decide_eq_true_eq] at hqk
    omega)
  have HN := Lib.hid n
  have HP := Lib.hid hp
  clear hqa hqk hqi n hp f h0 hn
  have NO : ∀ e w', Below w.heap.size w w' → SendNo w (.returned (.tuple #[.int .i64 0, .int .i64 e])) w' := fun e w' j => ⟨⟨e, rfl⟩, j⟩
  have b00 := Below.refl w.heap.size w
  go_enter Try.func8, Try.ntmps8
  go_wp2_with fail
  refine PL.mono ?_
  rintro r w' ⟨rfl, rfl⟩
  go_wp2_with fail
  refine PA.mono ?_
  rintro r w' ⟨rfl, rfl⟩
  cases qa
  · go_wp2_with fail
    go_ret2
    exact NO _ _ b00
  go_wp2_with fail
  refine PK.mono ?_
  rintro r w' ⟨rfl, rfl⟩
  cases qk
  · go_wp2_with fail
    go_ret2
    exact NO _ _ b00
  obtain ⟨t1, t2⟩ := HK.out rfl
  obtain ⟨tn, rfl⟩ := Int.eq_ofNat_of_zero_le t1
  by_cases ht : (tn : Int) = 0
  · have g0 : ((tn : Int) == 0) = true := by simpa using ht
    clear ht
    go_wp2_with fail
    go_ret2
    exact NO _ _ b00
  have g0 : ((tn : Int) == 0) = false := by simpa using ht
  go_wp2_with fail
  refine PI.mono ?_
  rintro r w' ⟨rfl, rfl⟩
  cases qi
  · go_wp2_with fail
    go_ret2
    exact NO _ _ b00
  go_wp2_with fail
  refine PF.mono ?_
  rintro r w' ⟨rfl, rfl⟩
  have b1 := b00.alloc (Nat.le_refl _) (.cells #[.int .i64 0] 3)
  have n1 := HN.out.below b1
  clear PL PA PK PI PF g0
  go_upto_region 7 with (fail)
  generalize w.alloc (.cells #[.int .i64 0] 3) = w1 at *
  have htn : tn < 16 := by omega
  have d0 : w1.cell? ⟨b, 0, none⟩ = some (.int .i64 0) := (b1.cell (p := ⟨b, 0, none⟩) HN.out.own.lt).trans c0
  obtain ⟨pa, pc, hpv, _⟩ := (n1.path tn htn).row
  have hp0 := HP.out tn htn
  rw [hp0] at hpv
  have d1 : w1.cell? ⟨b, 23 + tn, none⟩ = some (.slice pa 0 pc) := by rw [n1.c_path htn, hpv]; rfl
  clear c0 c39 c40
  go_wp2_with fail
  go_ret2
  exact NO _ _ b1
/-- A slot of another one. -/
theorem plan0_off {w : World} {b : Nat} {s : Ns} {h : Hm} (n : Nd w b s h) (f : Fit s) (h0 : s.id = 0) (asn : Int) (ha : 0 ≤ asn ∧ asn < 1099511627776) (hm : asn % s.c.nodes ≠ 0) :
    Calls Try.prog 9 #[.pointer (some ⟨b, 0, none⟩), .int .i64 asn] w fun r w' => r = .returned (.tuple #[.int .i64 (chanN s asn), .slice none 0 0]) ∧ Below w.heap.size w w' := by
  have PA := isASN_any asn
  rw [show asnB asn = true from decide_eq_true ha] at PA
  have HN := Lib.hid n
  have HF := Lib.hid f
  have c1 := n.c_nodes
  have c3 := n.c_hops
  have c39 : w.cell? ⟨b, 39, none⟩ = some (.bool true) := by rw [n.c_inT, (f.root h0).1]
  have c0 : w.cell? ⟨b, 0, none⟩ = some (.int .i64 0) := by rw [n.c_id, h0]
  obtain ⟨nd, hnd⟩ : ∃ q, s.c.nodes = q := ⟨_, rfl⟩
  have hn16 := f.c.nodes
  rw [hnd] at c1 hm hn16
  obtain ⟨rm, hrm⟩ : ∃ q, asn.tmod nd = q := ⟨_, rfl⟩
  have g1 : (rm != 0) = true := by
    rw [← hrm, Int.tmod_eq_emod_of_nonneg ha.1]
    simpa using hm
  have hrm2 := Int.emod_nonneg asn (b := nd) (by omega)
  have hrm3 := Int.emod_lt_of_pos asn (b := nd) (by omega)
  have e1 : asn.tmod nd = rm := hrm
  rw [Int.tmod_eq_emod_of_nonneg ha.1] at hrm
  rw [hrm] at hrm2 hrm3
  have e2 : wrap64 rm = rm := IntWalk.wrap64_in _ (by omega)
  have e3 : IntKind.i64.wrap rm = rm := IntWalk.i64_in _ (by omega)
  have H0 := Lib.hid h0
  clear n f h0 hm ha hnd hrm hrm2 hrm3
  go_enter Try.func9, Try.ntmps9
  go_wp2_with fail
  refine (lives_any HN.out).mono ?_
  rintro r w' ⟨rfl, rfl⟩
  go_wp2_with fail
  refine (PA _).mono ?_
  rintro r w' ⟨rfl, rfl⟩
  clear PA
  go_upto_region 3 with (fail)
  go_quiet (fail)
  have b1 := below_drewN (Below.refl w.heap.size w) nq
  have c39' : (w.drewN nq).cell? ⟨b, 39, none⟩ = some (.bool true) := c39
  have PC := channel_hop (HN.out.below b1) HF.out asn
  generalize w.drewN nq = w1 at *
  clear c0 c1 c3 c39
  obtain ⟨hl, hhl⟩ : ∃ q, s.c.hops.length = q := ⟨_, rfl⟩
  rw [hhl] at PC ⊢
  clear hhl
  go_wp2_with fail
  refine PC.mono ?_
  rintro r w2 ⟨rfl, b2⟩
  have bb2 := b1.trans (b2.mono b1.size)
  have c0 : w2.cell? ⟨b, 0, none⟩ = some (.int .i64 0) := by rw [(HN.out.below bb2).c_id, H0.out]
  clear PC c39' b1 b2
  clear w1
  obtain ⟨ch, hch⟩ : ∃ q, chanN s asn = q := ⟨_, rfl⟩
  have HCH := Lib.hid hch
  rw [hch]
  clear hch
  go_upto_region 8 with (fail)
  go_quiet (fail)
  have bb3 := below_drewN bb2 nq
  generalize w2.drewN nq = w3 at *
  go_wp2_with fail
  go_ret2
  rw [HCH.out]
  exact ⟨rfl, bb3⟩
end Go.Proofs.Ytiflmdekcjbmbaa.Nd
set_option maxRecDepth 100000
namespace Go.Proofs.Ytiflmdekcjbmbaa.Nd
set_option linter.unusedVariables false
set_option linter.unusedSimpArgs false
open Go.RowKit Go.ChangeShapes Go.WideShapes Go.ChangeAt Go.Deep Lb Ie Fm

/-- A call, with where its rows lie. -/
structure Ca where
  d : Int
  n : Int
  m : Int
  asn : Int
  f : Fp
  p : Rt.Pk
  qa : Option Addr
  qc : Nat
  qb : Option Addr
  qe : Nat
  ba : Option Addr
  bc : Nat
  B : List Int
def Ca.vals (x : Ca) : List Value := [.int .i64 x.d, .int .i64 x.n, .int .i64 x.m, .int .i64 x.asn] ++ x.f.vals.toList ++ (x.p.vals x.qa x.qc x.qb x.qe).toList ++ [.slice x.ba x.B.length x.bc]
structure Ca.At (w : World) (x : Ca) : Prop where
  f : x.f.At w
  p : x.p.At w x.qa x.qc x.qb x.qe
  b1 : x.B.length ≤ x.bc
  b2 : x.bc ≤ maxLen
  row : Row w x.ba x.B.length (bval x.B)
  ok : okD' x.B
theorem Ca.At.below {w w' : World} {x : Ca} (h : x.At w) (j : Below w.heap.size w w') : x.At w' := ⟨h.f.below j, h.p.below j, h.b1, h.b2, h.row.below j, h.ok⟩
structure Cas (w : World) (a : Option Addr) (n : Nat) (Q : Nat → Ca) : Prop where
  row : Row w a (n * 17) (fun q => ((Q (q / 17)).vals[q % 17]?).getD undef)
  at_ : ∀ i, i < n → (Q i).At w
theorem Cas.below {w w' : World} {a : Option Addr} {n : Nat} {Q : Nat → Ca} (h : Cas w a n Q) (j : Below w.heap.size w w') : Cas w' a n Q := ⟨h.row.below j, fun i hi => (h.at_ i hi).below j⟩
section
variable {H : Type} {enc : TypeId × Value → H} {w : World} {base : Nat}
theorem open_frame6 {x0 x1 x2 x3 x4 x5 : Value} {y : DataW H × List MemPlace} {fuel : Nat} (hf : DataW.trod enc Try.prog w 0 (fun _ => true) true fuel 35 [x0, x1, x2, x3, x4, x5] = some y) : ∃ p : Fp, [x0, x1, x2, x3, x4, x5] = p.vals.toList ∧ p.At w := by
  have hI : Try.prog.cellsOf 3 = 1 := by kernel_rfl
  have hS : Try.prog.cellsOf 32 = 1 := by kernel_rfl
  have hB : Try.prog.cellsOf 33 = 1 := by kernel_rfl
  obtain ⟨xs, k, _, _, _, hlen, hfs⟩ := DataW.trod_struct Try.underlying35 hf
  match xs, hlen with
  | [y0, y1, y2, y3, y4, y5], _ =>
  obtain ⟨z0, e0, _, w0⟩ := DataW.trod_int Try.underlying3 (hfs 0 _ rfl)
  obtain ⟨z1, e1, _, w1⟩ := DataW.trod_int Try.underlying3 (hfs 1 _ rfl)
  obtain ⟨z2, e2, _, w2⟩ := DataW.trod_int Try.underlying3 (hfs 2 _ rfl)
  obtain ⟨z3, e3, _, w3⟩ := DataW.trod_int Try.underlying3 (hfs 3 _ rfl)
  have e4 := hfs 4 _ rfl
  have e5 := hfs 5 _ rfl
  simp [hI, hS, hB] at e0 e1 e2 e3 e4 e5
  subst e0 e1 e2 e3
  obtain ⟨L, a, c, rfl, hels⟩ := open_cell_els e4
  obtain ⟨b, m, e, Y, rfl, k1, k2, k3, k4⟩ := Ie.open_cell Try.underlying33 Try.underlying5 (by kernel_rfl) e5
  obtain ⟨l5, hl5, hz5⟩ := Ie.list_of m Y
  have r5 := Ie.row_b k3 hl5 hz5
  refine ⟨⟨z0, z1, z2, z3, L, a, c, l5, b, e⟩, ?_, ⟨hels, by rw [hl5]; exact k1, k2, r5, fun x hx => ?_⟩⟩
  · subst hl5
    rfl
  · have hx : x ∈ l5 := hx
    obtain ⟨i, hi, rfl⟩ := List.getElem_of_mem hx
    have h1 := u8_bd (k4 i)
    have h2 := hz5 i (by omega)
    rw [List.getD_eq_getElem?_getD, List.getElem?_eq_getElem hi] at h2
    simp only [Option.getD_some] at h2
    rw [h2]
    exact h1
theorem open_packet6 {x0 x1 x2 x3 x4 x5 : Value} {y : DataW H × List MemPlace} {fuel : Nat} (hf : DataW.trod enc Try.prog w 0 (fun _ => true) true fuel 37 [x0, x1, x2, x3, x4, x5] = some y) : ∃ p : Rt.Pk, ∃ a c b e, [x0, x1, x2, x3, x4, x5] = (p.vals a c b e).toList ∧ p.At w a c b e := by
  have hI : Try.prog.cellsOf 3 = 1 := by kernel_rfl
  have hS : Try.prog.cellsOf 26 = 1 := by kernel_rfl
  have hB : Try.prog.cellsOf 33 = 1 := by kernel_rfl
  obtain ⟨xs, k, _, _, _, hlen, hfs⟩ := DataW.trod_struct Try.underlying37 hf
  match xs, hlen with
  | [y0, y1, y2, y3, y4, y5], _ =>
  obtain ⟨z0, e0, _, w0⟩ := DataW.trod_int Try.underlying3 (hfs 0 _ rfl)
  obtain ⟨z1, e1, _, w1⟩ := DataW.trod_int Try.underlying3 (hfs 1 _ rfl)
  obtain ⟨z2, e2, _, w2⟩ := DataW.trod_int Try.underlying3 (hfs 2 _ rfl)
  obtain ⟨z3, e3, _, w3⟩ := DataW.trod_int Try.underlying3 (hfs 3 _ rfl)
  have e4 := hfs 4 _ rfl
  have e5 := hfs 5 _ rfl
  simp [hI, hS, hB] at e0 e1 e2 e3 e4 e5
  subst e0 e1 e2 e3
  obtain ⟨a, n, c, Z, rfl, g1, g2, g3, g4⟩ := Rt.open_cell Try.underlying26 Try.underlying3 (by kernel_rfl) e4
  obtain ⟨b, m, e, Y, rfl, k1, k2, k3, k4⟩ := Rt.open_cell Try.underlying33 Try.underlying5 (by kernel_rfl) e5
  obtain ⟨l4, hl4, hz4⟩ := Rt.list_of n Z
  obtain ⟨l5, hl5, hz5⟩ := Rt.list_of m Y
  have r4 := Rt.row_z g3 hl4 hz4
  have r5 := Rt.row_b k3 hl5 hz5
  refine ⟨⟨z0, z1, z2, z3, l4, l5⟩, a, c, b, e, ?_, ⟨by rw [hl4]; exact g1, g2, r4, Rt.row_none r4, by rw [hl5]; exact k1, k2, r5, Rt.row_none r5⟩⟩
  subst hl4 hl5
  rfl
theorem open_ca {x0 x1 x2 x3 x4 x5 x6 x7 x8 x9 x10 x11 x12 x13 x14 x15 x16 : Value} {y : DataW H × List MemPlace} {fuel : Nat} (hf : DataW.trod enc Try.prog w 0 (fun _ => true) true fuel 39 [x0, x1, x2, x3, x4, x5, x6, x7, x8, x9, x10, x11, x12, x13, x14, x15, x16] = some y) :
    ∃ c : Ca, [x0, x1, x2, x3, x4, x5, x6, x7, x8, x9, x10, x11, x12, x13, x14, x15, x16] = c.vals ∧ c.At w := by
  have hI : Try.prog.cellsOf 3 = 1 := by kernel_rfl
  have hJ : Try.prog.cellsOf 2 = 1 := by kernel_rfl
  have hF : Try.prog.cellsOf 35 = 6 := by kernel_rfl
  have hP : Try.prog.cellsOf 37 = 6 := by kernel_rfl
  have hB : Try.prog.cellsOf 33 = 1 := by kernel_rfl
  obtain ⟨xs, k, _, _, _, hlen, hfs⟩ := DataW.trod_struct Try.underlying39 hf
  match xs, hlen with
  | [y0, y1, y2, y3, y4, y5, y6], _ =>
  obtain ⟨z0, e0, _, w0⟩ := DataW.trod_int Try.underlying3 (hfs 0 _ rfl)
  obtain ⟨z1, e1, _, w1⟩ := DataW.trod_int Try.underlying3 (hfs 1 _ rfl)
  obtain ⟨z2, e2, _, w2⟩ := DataW.trod_int Try.underlying3 (hfs 2 _ rfl)
  obtain ⟨z3, e3, _, w3⟩ := DataW.trod_int Try.underlying2 (hfs 3 _ rfl)
  have e4 := hfs 4 _ rfl
  have e5 := hfs 5 _ rfl
  have e6 := hfs 6 _ rfl
  simp [hI, hJ, hF, hP, hB] at e0 e1 e2 e3 e4 e5 e6
  subst e0 e1 e2 e3
  obtain ⟨f, h4, hat⟩ := open_frame6 e4
  obtain ⟨p, a, c, b, e, h5, hpt⟩ := open_packet6 e5
  obtain ⟨ba, m, bc, Y, rfl, k1, k2, k3, k4⟩ := Ie.open_cell Try.underlying33 Try.underlying5 (by kernel_rfl) e6
  obtain ⟨l6, hl6, hz6⟩ := Ie.list_of m Y
  have r6 := Ie.row_b k3 hl6 hz6
  refine ⟨⟨z0, z1, z2, z3, f, p, a, c, b, e, ba, bc, l6⟩, ?_, ⟨hat, hpt, by rw [hl6]; exact k1, k2, r6, fun x hx => ?_⟩⟩
  · unfold Ca.vals
    dsimp only
    rw [← h4, ← h5, hl6]
    rfl
  · have hx : x ∈ l6 := hx
    obtain ⟨i, hi, rfl⟩ := List.getElem_of_mem hx
    have h1 := u8_bd (k4 i)
    have h2 := hz6 i (by omega)
    rw [List.getD_eq_getElem?_getD, List.getElem?_eq_getElem hi] at h2
    simp only [Option.getD_some] at h2
    rw [h2]
    exact h1
theorem open_cas {v : Value} {d : DataW H} {p : List MemPlace} (hv : Value.okWide Try.prog w .any base 22 v)
    (h : DataW.Trod enc Try.prog w 0 (fun _ => true) true 22 v d p) : ∃ a n c Q, v = .slice a n c ∧ n ≤ c ∧ c ≤ maxLen ∧ Cas w a n Q := by
  obtain ⟨a, n, c, V, rfl, hn, hm, hV, hf⟩ := open_row_deep Try.underlying22 (k := 17) (by kernel_rfl) (by decide) hv h
  obtain ⟨Q, hQ⟩ := choose_fn (n := n) (q := fun i (x : Ca) => ((List.range 17).map fun j => V (i * 17 + j)) = x.vals ∧ x.At w) (⟨0, 0, 0, 0, zF, ⟨0, 0, 0, 0, [], []⟩, none, 0, none, 0, none, 0, []⟩ : Ca) (fun i hi => by
    obtain ⟨f, y, hy⟩ := hf i hi
    exact open_ca hy)
  refine ⟨a, n, c, Q, rfl, hn, hm, fun h0 => ?_, fun i hi => (hQ i hi).2⟩
  obtain ⟨b, off, e1, e2, e3⟩ := hV h0
  refine ⟨b, off, e1, e2, fun q hq => ?_⟩
  rw [e3 q hq]
  have hi : q / 17 < n := Nat.div_lt_of_lt_mul (by rw [Nat.mul_comm]; exact hq)
  have hj : q % 17 < 17 := Nat.mod_lt _ (by decide)
  show some (V q) = some (((Q (q / 17)).vals[q % 17]?).getD undef)
  rw [← (hQ _ hi).1, List.getElem?_map, List.getElem?_range hj]
  simp only [Option.map_some, Option.getD_some]
  rw [Nat.div_add_mod']
end
/-- The cells of a call. -/
theorem Cas.cells {w w' : World} {a : Option Addr} {n k : Nat} {Q : Nat → Ca} (h : Cas w a n Q) (b1 : Below w.heap.size w w') (hk : k < n) :
    ∃ b off, a = some ⟨b, off, none⟩ ∧ b < w.heap.size ∧ ∀ j, j < 17 → w'.cell? ⟨b, off + k * 17 + j, none⟩ = some (((Q k).vals[j]?).getD undef) := by
  obtain ⟨b, off, h1, h2, h3⟩ := h.row.at_struct b1 hk (by decide)
  refine ⟨b, off, h1, h2, fun j hj => ?_⟩
  rw [h3 j hj]
  have e1 : (k * 17 + j) / 17 = k := by omega
  have e2 : (k * 17 + j) % 17 = j := by omega
  simp only [e1, e2]
set_option maxHeartbeats 4000000 in
theorem few24_any (a : Option Addr) (n c : Nat) (Q : Nat → Ca) (w : World) (hn : n ≤ c) (hc : c ≤ maxLen) (hQ : Cas w a n Q) :
    Calls Try.prog 4 #[.slice a n c] w fun r w' => ∃ q : Bool, r = .returned (.bool q) ∧ (q = true → n ≤ 120) ∧ Below w.heap.size w w' := by
  unfold maxLen at hc
  have hcap : (n : Int) ≤ 9223372036854775807 := by omega
  have b0 := Below.refl w.heap.size w
  have HQ := Lib.hid hQ
  clear hQ
  go_enter Try.func4, Try.ntmps4
  go_wp2_with fail
  go_loopw [10, 3] (fun i s wr => ∃ (k : Nat) (z : Int), i = .int .i64 k ∧ s = .int .i64 z ∧ k ≤ n ∧ k ≤ 120 ∧ Below w.heap.size w wr) (fun i _ _ => n - (intOf i).toNat)
  case atStart => exact ⟨0, 0, rfl, rfl, by omega, by omega, b0⟩
  case round =>
    clear b0
    obtain ⟨k, z, rfl, rfl, hk, hk1, b1⟩ := hrel
    by_cases hlt : k < n
    · obtain ⟨bo, off, rfl, hbo, hcs⟩ := HQ.out.cells b1 hlt
      have HAT := Lib.hid ((HQ.out.at_ k hlt).below b1)
      obtain ⟨⟨cd, cn, cm, ca, ⟨pk, ps, pd, pq, pL, pa, pc, pdata, pb, pe⟩, ⟨qf, qt, qn, ql, qp, qd⟩, qa, qc, qb, qe, ba_, bc, B⟩, hq⟩ : ∃ q, Q k = q := ⟨_, rfl⟩
      rw [hq] at hcs HAT
      obtain ⟨ll, hll⟩ : ∃ q, pL.length = q := ⟨_, rfl⟩
      obtain ⟨dl, hdl⟩ : ∃ q, pdata.length = q := ⟨_, rfl⟩
      obtain ⟨pl, hpl⟩ : ∃ q, qp.length = q := ⟨_, rfl⟩
      obtain ⟨ql2, hql⟩ : ∃ q, qd.length = q := ⟨_, rfl⟩
      obtain ⟨bl, hbl⟩ : ∃ q, B.length = q := ⟨_, rfl⟩
      have hb63 : (bl : Int) ≤ 9223372036854775807 ∧ (dl : Int) ≤ 9223372036854775807 ∧ (ql2 : Int) ≤ 9223372036854775807 ∧ (pl : Int) ≤ 9223372036854775807 ∧ (ll : Int) ≤ 9223372036854775807 := by
        have h1 := HAT.out.b1
        have h2 := HAT.out.b2
        have h3 := HAT.out.f.dc
        have h4 := HAT.out.f.dm
        have h5 := HAT.out.f.els.lc
        have h6 := HAT.out.f.els.cm
        obtain ⟨h7, h8, _, _, h9, h10, _, _⟩ := HAT.out.p
        dsimp only at h1 h2 h3 h4 h5 h6 h7 h8 h9 h10
        unfold maxLen at h2 h4 h6 h8 h10
        omega
      obtain ⟨m1, m2, m3, m4, m5⟩ := hb63
      have HLE : Hid (Els wr pL pa pc) := Lib.hid HAT.out.f.els
      have e : (⟨cd, cn, cm, ca, ⟨pk, ps, pd, pq, pL, pa, pc, pdata, pb, pe⟩, ⟨qf, qt, qn, ql, qp, qd⟩, qa, qc, qb, qe, ba_, bc, B⟩ : Ca).vals = [.int .i64 cd, .int .i64 cn, .int .i64 cm, .int .i64 ca, .int .i64 pk, .int .i64 ps, .int .i64 pd, .int .i64 pq, .slice pa ll pc, .slice pb dl pe, .int .i64 qf, .int .i64 qt, .int .i64 qn, .int .i64 ql, .slice qa pl qc, .slice qb ql2 qe, .slice ba_ bl bc] := by
        subst hll hdl hpl hql hbl
        rfl
      rw [e] at hcs
      have d0 := hcs 0 (by decide)
      have d1 := hcs 1 (by decide)
      have d2 := hcs 2 (by decide)
      have d3 := hcs 3 (by decide)
      have d4 := hcs 4 (by decide)
      have d5 := hcs 5 (by decide)
      have d6 := hcs 6 (by decide)
      have d7 := hcs 7 (by decide)
      have d8 := hcs 8 (by decide)
      have d9 := hcs 9 (by decide)
      have d10 := hcs 10 (by decide)
      have d11 := hcs 11 (by decide)
      have d12 := hcs 12 (by decide)
      have d13 := hcs 13 (by decide)
      have d14 := hcs 14 (by decide)
      have d15 := hcs 15 (by decide)
      have d16 := hcs 16 (by decide)
      simp only [List.getElem?_cons_zero, List.getElem?_cons_succ, Option.getD_some] at d0 d1 d2 d3 d4 d5 d6 d7 d8 d9 d10 d11 d12 d13 d14 d15 d16
      rw [Nat.add_zero] at d0
      have HLL := Lib.hid hll
      clear hcs e hq hdl hpl hql hbl HAT hll
      have ba := b1.alloc b1.size (.cells #[.int .i64 cd, .int .i64 cn, .int .i64 cm, .int .i64 ca, .int .i64 pk, .int .i64 ps, .int .i64 pd, .int .i64 pq, .slice pa ll pc, .slice pb dl pe, .int .i64 qf, .int .i64 qt, .int .i64 qn, .int .i64 ql, .slice qa pl qc, .slice qb ql2 qe, .slice ba_ bl bc] 39)
      have ox := Own.new wr 39 #[.int .i64 cd, .int .i64 cn, .int .i64 cm, .int .i64 ca, .int .i64 pk, .int .i64 ps, .int .i64 pd, .int .i64 pq, .slice pa ll pc, .slice pb dl pe, .int .i64 qf, .int .i64 qt, .int .i64 qn, .int .i64 ql, .slice qa pl qc, .slice qb ql2 qe, .slice ba_ bl bc]
      have be := (Below.refl wr.heap.size wr).alloc (Nat.le_refl _) (.cells #[.int .i64 cd, .int .i64 cn, .int .i64 cm, .int .i64 ca, .int .i64 pk, .int .i64 ps, .int .i64 pd, .int .i64 pq, .slice pa ll pc, .slice pb dl pe, .int .i64 qf, .int .i64 qt, .int .i64 qn, .int .i64 ql, .slice qa pl qc, .slice qb ql2 qe, .slice ba_ bl bc] 39)
      have HLE2 : Hid (Els (wr.alloc (.cells #[.int .i64 cd, .int .i64 cn, .int .i64 cm, .int .i64 ca, .int .i64 pk, .int .i64 ps, .int .i64 pd, .int .i64 pq, .slice pa ll pc, .slice pb dl pe, .int .i64 qf, .int .i64 qt, .int .i64 qn, .int .i64 ql, .slice qa pl qc, .slice qb ql2 qe, .slice ba_ bl bc] 39)) pL pa pc) := Lib.hid (HLE.out.below be)
      go_upto_region 5 with (fail)
      obtain ⟨xb, hxb⟩ : ∃ q, wr.heap.size = q := ⟨_, rfl⟩
      rw [hxb] at ox ⊢
      clear hxb be HLE
      generalize wr.alloc (.cells #[.int .i64 cd, .int .i64 cn, .int .i64 cm, .int .i64 ca, .int .i64 pk, .int .i64 ps, .int .i64 pd, .int .i64 pq, .slice pa ll pc, .slice pb dl pe, .int .i64 qf, .int .i64 qt, .int .i64 qn, .int .i64 ql, .slice qa pl qc, .slice qb ql2 qe, .slice ba_ bl bc] 39) = wx at *
      have c8 : wx.cell? ⟨xb, 8, none⟩ = some (.slice pa ll pc) := ox.cell 8
      have c9 : wx.cell? ⟨xb, 9, none⟩ = some (.slice pb dl pe) := ox.cell 9
      have c14 : wx.cell? ⟨xb, 14, none⟩ = some (.slice qa pl qc) := ox.cell 14
      have c15 : wx.cell? ⟨xb, 15, none⟩ = some (.slice qb ql2 qe) := ox.cell 15
      have c16 : wx.cell? ⟨xb, 16, none⟩ = some (.slice ba_ bl bc) := ox.cell 16
      clear d0 d1 d2 d3 d4 d5 d6 d7 d8 d9 d10 d11 d12 d13 d14 d15 d16 b1 ox
      clear wr
      go_wp2_with fail
      clear c8 c9 c14 c15 c16
      generalize IntKind.i64.wrap _ = zz
      go_loopw [39, 3] (fun i s wz => ∃ (j : Nat) (z : Int), i = .int .i64 j ∧ s = .int .i64 z ∧ j ≤ ll ∧ Below w.heap.size w wz ∧ Hid (Els wz pL pa pc)) (fun i _ _ => ll - (intOf i).toNat)
      case atStart => exact ⟨0, _, rfl, rfl, by omega, ba, HLE2⟩
      case round =>
        clear ba HLE2
        obtain ⟨j, z2, rfl, rfl, hj, b2, HE⟩ := hrel
        by_cases hjq : j < ll
        · obtain ⟨x, hx⟩ : ∃ x, pL.getD j ep0 = x := ⟨_, rfl⟩
          have hat := HE.out.els j (by rw [HLL.out]; exact hjq)
          have hrow := HE.out.row
          rw [HLL.out] at hrow
          obtain ⟨eb, eo, rfl, heb, x0, x1, x2, x3, x4⟩ := erow hrow (Below.refl _ _) hjq hx
          rw [hx] at hat
          obtain ⟨⟨ek, easn, erank, et, el⟩, ea, ec⟩ := x
          have h1 := hat.lc
          have h2 := hat.cm
          simp only at x0 x1 x2 x3 x4 h1 h2
          obtain ⟨en, hen⟩ : ∃ q, el.length = q := ⟨_, rfl⟩
          rw [hen] at x4 h1
          unfold maxLen at h2
          have hen63 : (en : Int) ≤ 9223372036854775807 := by omega
          clear hen hx hat hrow
          have b3 := b2.alloc b2.size (.cells #[.int .i64 ek, .int .i64 easn, .int .i64 erank, .int .i64 et, .slice ea en ec] 49)
          have oy := Own.new wr 49 #[.int .i64 ek, .int .i64 easn, .int .i64 erank, .int .i64 et, .slice ea en ec]
          have be := (Below.refl wr.heap.size wr).alloc (Nat.le_refl _) (.cells #[.int .i64 ek, .int .i64 easn, .int .i64 erank, .int .i64 et, .slice ea en ec] 49)
          have HE2 : Hid (Els (wr.alloc (.cells #[.int .i64 ek, .int .i64 easn, .int .i64 erank, .int .i64 et, .slice ea en ec] 49)) pL (some ⟨eb, eo, none⟩) pc) := Lib.hid (HE.out.below be)
          have c5 : (wr.alloc (.cells #[.int .i64 ek, .int .i64 easn, .int .i64 erank, .int .i64 et, .slice ea en ec] 49)).cell? ⟨wr.heap.size, 4, none⟩ = some (.slice ea en ec) := oy.cell 4
          go_upto_region 9 with (fail)
          generalize wr.alloc (.cells #[.int .i64 ek, .int .i64 easn, .int .i64 erank, .int .i64 et, .slice ea en ec] 49) = wy at *
          clear x0 x1 x2 x3 x4 b2 oy be
          go_wp2_with fail
          exact ⟨⟨j + 1, _, by simp, rfl, by omega, b3, HE2⟩, by simp [intOf]; omega⟩
        · have hjn : j = ll := by omega
          have g4 : decide ((j : Int) < (ll : Int)) = false := by simp; omega
          clear hjq
          by_cases hg : 120 ≤ k
          · have g1 : decide ((120 : Int) ≤ (k : Int)) = true := by simp; omega
            have g2 : decide (120 ≤ k) = true := by simp; omega
            go_wp2_with fail
            go_ret
            exact ⟨false, rfl, (fun h => by cases h), b2⟩
          · have g1 : decide ((120 : Int) ≤ (k : Int)) = false := by simp; omega
            have g2 : decide (120 ≤ k) = false := by simp; omega
            by_cases hg3 : 6000 < z2
            · have g3 : decide ((6000 : Int) < z2) = true := by simpa using hg3
              go_wp2_with fail
              go_ret
              exact ⟨false, rfl, (fun h => by cases h), b2⟩
            · have g3 : decide ((6000 : Int) < z2) = false := by simpa using hg3
              go_wp2_with fail
              exact ⟨⟨k + 1, z2, by simp, rfl, by omega, by omega, b2⟩, by simp [intOf]; omega⟩
    · have hkn : k = n := by omega
      subst hkn
      have g4 : decide ((k : Int) < (k : Int)) = false := by simp
      go_wp2_with fail
      go_ret
      exact ⟨true, rfl, fun _ => hk1, b1⟩
end Go.Proofs.Ytiflmdekcjbmbaa.Nd
set_option maxRecDepth 100000
namespace Go.Proofs.Ytiflmdekcjbmbaa.Nd
set_option linter.unusedVariables false
set_option linter.unusedSimpArgs false
open Go.RowKit Lb Ie Fm

/-- A mesh that may be, as its parts. -/
theorem okc_may {x : Cx} (h : mayQ x = true) : Okc x.cfg := by
  unfold mayQ at h
  simp only [Bool.and_eq_true] at h
  obtain ⟨h1, _, h3, h4, h5, h6, h7, h8, h9⟩ := h
  unfold inB at h1 h4 h5 h6 h7 h8 h9
  rw [decide_eq_true_eq] at h1 h4 h5 h6 h7 h8 h9
  exact ⟨h1, h3, h4, h5, h6, h7, h8, h9⟩
theorem fit_fresh {x : Cx} {id : Int} (h : newB x id = true) : Fit (fresh0 x.cfg id (id == 0)) := by
  unfold newB at h
  rw [Bool.and_eq_true] at h
  obtain ⟨h1, h2⟩ := h
  have hc := okc_may h1
  unfold inB at h2
  rw [decide_eq_true_eq] at h2
  have hg : Dp.AllG (fun _ => 0) (fun _ => 0) := fun _ => Dp.good_zero 0
  exact ⟨hc, ⟨h2.1, by show id < x.nodes; omega⟩, by simp [fresh0], by simp [fresh0], by simp [fresh0], by simp [fresh0], by have := hc.queue; show (0 : Int) ≤ x.cfg.queue; omega, by simp [fresh0], by simp [fresh0], hg, hg, hg, by simp [fresh0], by simp [fresh0], by simp [fresh0], by simp [fresh0], fun e => ⟨by show (id == 0) = true; rw [show id = 0 from e]; rfl, rfl, rfl⟩, by simp [fresh0]⟩
theorem len_next {s : Ns} {asn : Int} (f : Fit s) (ha : 0 ≤ asn ∧ asn < 1099511627776) : (encF (nextF0 s asn)).length ≤ 100000 := by
  obtain ⟨m1, m2, m3, m4, m5, m6⟩ := mayF_out (may_next f ha)
  have h5 := (encI_ok m4).2
  have h7 := encF_len (nextF0 s asn)
  omega
theorem chan24 {x : Cx} (hh : x.hops = [11, 15, 20]) : chanN (fresh0 x.cfg 0 (0 == 0)) 0 = 11 := by
  have e : (fresh0 x.cfg 0 (0 == 0)).c.hops = [11, 15, 20] := hh
  unfold chanN
  rw [e]
  decide
/-- What it sends in slot 0. -/
def LL24 (x : Cx) : List Int := encF (nextF0 (fresh0 x.cfg 0 (0 == 0)) 0)
theorem plan24 {x : Cx} {w : World} {b : Nat} {h : Hm} (hn : newB x 0 = true) (hh : x.hops = [11, 15, 20]) (n : Nd w b (fresh0 x.cfg 0 (0 == 0)) h) :
    Calls Try.prog 9 #[.pointer (some ⟨b, 0, none⟩), .int .i64 0] w fun r w' => ∃ a c, r = .returned (.tuple #[.int .i64 11, .slice a (LL24 x).length c]) ∧ (LL24 x).length ≤ c ∧ c ≤ maxLen ∧ Row w' a (LL24 x).length (bval (LL24 x)) ∧ (∃ s, s.inT = true ∧ Nd w' b s h) ∧ Mv (h.ex b) (h.ex b) w w' := by
  have := plan0_any n (fit_fresh hn) rfl rfl 0 (by decide) (by simp)
  rw [chan24 hh] at this
  exact this.mono (fun r w' ⟨a, c, h1, h2, h3, h4, h5, h6⟩ => ⟨a, c, h1, h2, h3, h4, ⟨_, rfl, h5⟩, h6⟩)
theorem dec24 {x : Cx} (hn : newB x 0 = true) : okD' (LL24 x) ∧ (LL24 x).length ≤ 100000 ∧ decF (LL24 x) = .ok (nextF0 (fresh0 x.cfg 0 (0 == 0)) 0) :=
  ⟨encF_ok (may_next (fit_fresh hn) (by decide)) okD_nil, len_next (fit_fresh hn) (by decide), decF_enc (may_next (fit_fresh hn) (by decide)) okD_nil⟩
theorem Mv.down {E E' : Nat → Prop} {w w' : World} {base : Nat} (m : Mv E E' w w') (h : ∀ q, E q → base ≤ q) (hb : base ≤ w.heap.size) : Below base w w' :=
  ⟨m.os, m.tape, m.output, m.size, fun q hq => m.keep q (by omega) (fun e => by have := h q e; omega)⟩
set_option maxHeartbeats 1000000 in
theorem awake24_any (w : World) : Calls Try.prog 5 #[] w fun r w' => r = .returned (.bool true) ∧ Below w.heap.size w w' := by
  go_enter Try.func5, Try.ntmps5
  go_wp2_with fail
  refine (config_any 3 1 5 5 5 5 1 w).mono ?_
  rintro r w1 ⟨x, rfl, hx, hm, hh, b1⟩
  have hnew : newB x 0 = true := by
    unfold newB inB
    rw [hm]
    have := (mayQ_parts hm).1
    simp
    omega
  have PN := newn_any x 0 w1 hx
  have HM := Lib.hid (And.intro hnew hh)
  obtain ⟨C, hC⟩ : ∃ C : Array Value, #[.int .i64 x.nodes, .slice x.na x.nn x.nc, .slice x.ha x.hops.length x.hc, .int .i64 x.guard, .int .i64 x.err, .int .i64 x.keep, .int .i64 x.loss, .int .i64 x.queue, .int .i64 x.life] = C := ⟨_, rfl⟩
  rw [hC] at PN ⊢
  clear hC hm hh hx hnew
  go_wp2_with fail
  refine PN.mono ?_
  rintro r w2 hN
  unfold NewPost at hN
  rw [if_pos HM.out.1] at hN
  obtain ⟨b, h, rfl, n2, hex, b2⟩ := hN
  have bb2 := b1.trans (b2.mono b1.size)
  have HP := Lib.hid (plan24 HM.out.1 HM.out.2 n2)
  clear PN
  have PP := HP.out
  clear HP
  clear n2
  go_wp2_with fail
  refine PP.mono ?_
  rintro r w3 ⟨a, c, rfl, v1, v2, v3, ⟨s, hT, n3⟩, m3⟩
  have bb3 : Below w.heap.size w w3 := bb2.trans (m3.down (fun q e => Nat.le_trans b1.size (hex q e)) bb2.size)
  obtain ⟨d1, d2, d3⟩ := dec24 HM.out.1
  have PD := rdecF_any a c (LL24 x) w3 v1 v2 d2 v3 d1
  have HN := Lib.hid n3
  have HT := Lib.hid hT
  have HD := Lib.hid d3
  obtain ⟨LL, hLL⟩ : ∃ q, LL24 x = q := ⟨_, rfl⟩
  rw [hLL] at PD HD ⊢
  obtain ⟨nl, hnl⟩ : ∃ q, LL.length = q := ⟨_, rfl⟩
  rw [hnl] at PD ⊢
  clear hLL hnl m3 v1 v2 v3 hT n3 d1 d2 d3 b1 b2 bb2 hex PP
  clear w2 w1
  go_wp2_with fail
  refine PD.mono ?_
  rintro r w4 hR
  unfold DecFPost at hR
  rw [HD.out] at hR
  obtain ⟨p, hf, rfl, hat, b4⟩ := hR
  have e0 : p.k = 3 := congrArg Fr.k hf
  have e1 : p.L.length = 2 := by
    have := congrArg List.length (congrArg Fr.ies hf)
    rwa [show p.fr.ies = els p.L from rfl, els_len] at this
  obtain ⟨pk, ps, pd, pq, pL, pa, pc, pdata, pb, pe⟩ := p
  dsimp only at e0 e1
  subst e0
  obtain ⟨nn, hnn⟩ : ∃ q, pdata.length = q := ⟨_, rfl⟩
  simp only [Fp.vals, e1, hnn]
  have bb4 := bb3.trans (b4.mono bb3.size)
  have n4 := HN.out.below b4
  clear hf e1 hnn PD HD b4 bb3 HN hat
  clear w3
  have o5 := Own.new w4 35 #[.int .i64 3, .int .i64 ps, .int .i64 pd, .int .i64 pq, .slice pa 2 pc, .slice pb nn pe]
  have b5 := (Below.refl w4.heap.size w4).alloc (Nat.le_refl _) (.cells #[.int .i64 3, .int .i64 ps, .int .i64 pd, .int .i64 pq, .slice pa 2 pc, .slice pb nn pe] 35)
  have bb5 := bb4.trans (b5.mono bb4.size)
  have PS := synced_any (n4.below b5)
  rw [HT.out] at PS
  clear n4 b5 bb4
  go_upto_region 4 with (fail)
  obtain ⟨tb, htb⟩ : ∃ q, w4.heap.size = q := ⟨_, rfl⟩
  rw [htb] at o5 ⊢
  generalize w4.alloc (.cells #[.int .i64 3, .int .i64 ps, .int .i64 pd, .int .i64 pq, .slice pa 2 pc, .slice pb nn pe] 35) = w5 at *
  have c0 : w5.cell? ⟨tb, 0, none⟩ = some (.int .i64 3) := o5.cell 0
  have c4 : w5.cell? ⟨tb, 4, none⟩ = some (.slice pa 2 pc) := o5.cell 4
  clear htb o5
  clear w4
  go_wp2_with fail
  refine PS.mono ?_
  rintro r w6 ⟨rfl, rfl⟩
  clear PS
  go_wp2_with fail
  go_ret
  exact ⟨rfl, bb5⟩
end Go.Proofs.Ytiflmdekcjbmbaa.Nd
