/-
  Package ie (chapter 6): rows of elements; Encode: their bytes.
-/
import Derived.Test.YtoconkgemakboaaIePut
set_option maxRecDepth 100000
namespace Go.Proofs.Ytoconkgemakboaa.Ie
set_option linter.unusedVariables false
open Go.RowKit Lb Go.Shelf Bf

/-- An element with where its list lies. -/
structure EP where
  e : El
  a : Option Addr
  c : Nat
def EP.vals (x : EP) : Array Value := x.e.vals x.a x.c
def ep0 : EP := ⟨⟨0, 0, 0, 0, []⟩, none, 0⟩
def ev (L : List EP) (q : Nat) : Value := ((L.getD (q / 5) ep0).vals[q % 5]?).getD undef
theorem ev0 (L : List EP) (k : Nat) : ev L (k * 5) = .int .i64 (L.getD k ep0).e.k := by
  unfold ev; rw [show k * 5 / 5 = k by omega, show k * 5 % 5 = 0 by omega]; rfl
theorem ev1 (L : List EP) (k : Nat) : ev L (k * 5 + 1) = .int .i64 (L.getD k ep0).e.asn := by
  unfold ev; rw [show (k * 5 + 1) / 5 = k by omega, show (k * 5 + 1) % 5 = 1 by omega]; rfl
theorem ev2 (L : List EP) (k : Nat) : ev L (k * 5 + 2) = .int .i64 (L.getD k ep0).e.rank := by
  unfold ev; rw [show (k * 5 + 2) / 5 = k by omega, show (k * 5 + 2) % 5 = 2 by omega]; rfl
theorem ev3 (L : List EP) (k : Nat) : ev L (k * 5 + 3) = .int .i64 (L.getD k ep0).e.ticks := by
  unfold ev; rw [show (k * 5 + 3) / 5 = k by omega, show (k * 5 + 3) % 5 = 3 by omega]; rfl
theorem ev4 (L : List EP) (k : Nat) : ev L (k * 5 + 4) = .slice (L.getD k ep0).a (L.getD k ep0).e.list.length (L.getD k ep0).c := by
  unfold ev; rw [show (k * 5 + 4) / 5 = k by omega, show (k * 5 + 4) % 5 = 4 by omega]; rfl
/-- A row of elements, as it lies. -/
structure Els (w : World) (L : List EP) (a : Option Addr) (c : Nat) : Prop where
  lc : L.length ≤ c
  cm : c ≤ maxLen
  row : Row w a (L.length * 5) (ev L)
  els : ∀ k, k < L.length → (L.getD k ep0).e.At w (L.getD k ep0).a (L.getD k ep0).c
theorem Els.below {w w' : World} {L : List EP} {a : Option Addr} {c : Nat} (h : Els w L a c) (b : Below w.heap.size w w') : Els w' L a c :=
  ⟨h.lc, h.cm, h.row.below b, fun k hk => (h.els k hk).below b⟩
theorem erow {w w' : World} {L : List EP} {a : Option Addr} {n k : Nat} (h : Row w a (n * 5) (ev L)) (hb : Below w.heap.size w w') (hk : k < n) {x : EP} (hx : L.getD k ep0 = x) :
    ∃ b off, a = some ⟨b, off, none⟩ ∧ b < w.heap.size ∧ w'.cell? ⟨b, off + k * 5, none⟩ = some (.int .i64 x.e.k) ∧ w'.cell? ⟨b, off + k * 5 + 1, none⟩ = some (.int .i64 x.e.asn) ∧
      w'.cell? ⟨b, off + k * 5 + 2, none⟩ = some (.int .i64 x.e.rank) ∧ w'.cell? ⟨b, off + k * 5 + 3, none⟩ = some (.int .i64 x.e.ticks) ∧ w'.cell? ⟨b, off + k * 5 + 4, none⟩ = some (.slice x.a x.e.list.length x.c) := by
  subst hx
  obtain ⟨b, off, h1, h2, h3⟩ := h.at_struct hb hk (by decide)
  exact ⟨b, off, h1, h2, (h3 0 (by decide)).trans (congrArg some (ev0 L k)), (h3 1 (by decide)).trans (congrArg some (ev1 L k)), (h3 2 (by decide)).trans (congrArg some (ev2 L k)), (h3 3 (by decide)).trans (congrArg some (ev3 L k)), (h3 4 (by decide)).trans (congrArg some (ev4 L k))⟩
def bval (zs : List Int) (j : Nat) : Value := .int .u8 (zs.getD j 0)
def els (L : List EP) : List El := L.map (·.e)
theorem els_len (L : List EP) : (els L).length = L.length := by simp [els]
theorem els_at {L : List EP} {k : Nat} (hk : k < L.length) {x : EP} (hx : L.getD k ep0 = x) : (els L)[k]'(by rw [els_len]; exact hk) = x.e := by
  subst hx
  simp [els, List.getD_eq_getElem?_getD, List.getElem?_eq_getElem hk]
theorem mayL_no {l : List El} {k : Nat} (hk : k < l.length) (h : mayE l[k] = false) : mayL l = false := by
  unfold mayL
  rw [Bool.and_eq_false_iff]
  right
  rw [List.all_eq_false]
  exact ⟨l[k], List.getElem_mem hk, by rw [h]; simp⟩
theorem mayL_yes {l : List El} (h4 : l.length ≤ 4) (h : ∀ k, (hk : k < l.length) → mayE l[k] = true) : mayL l = true := by
  unfold mayL
  rw [decide_eq_true h4, Bool.true_and, List.all_eq_true]
  intro x hx
  obtain ⟨k, hk, rfl⟩ := List.getElem_of_mem hx
  exact h k hk
theorem encL_take_len {l : List El} (h : ∀ k, (hk : k < l.length) → mayE l[k] = true) : ∀ n, n ≤ l.length → (encL (l.take n)).length ≤ 18 * n := by
  intro n
  induction n with
  | zero => intro _; simp [encL]
  | succ n ih =>
    intro hn
    rw [encL_take (by omega), List.length_append]
    have := encOne_len (h n (by omega))
    have := ih (by omega)
    omega
def EncPost (l : List El) (w : World) (r : Ending) (w' : World) : Prop :=
  if mayL l = true then ∃ a c, r = .returned (.tuple #[.slice a (encI l).length c, .int .i64 0]) ∧ (encI l).length ≤ c ∧ c ≤ maxLen ∧ Row w' a (encI l).length (bval (encI l)) ∧ Below w.heap.size w w'
  else r = .returned (.tuple #[.slice none 0 0, .int .i64 1]) ∧ Below w.heap.size w w'
set_option maxHeartbeats 4000000 in
theorem encode_any (L : List EP) (a : Option Addr) (c : Nat) (w : World) (h : Els w L a c) :
    Calls Try.prog 22 #[.slice a L.length c] w (EncPost (els L) w) := by
  have hlc := h.lc
  have hcm := h.cm
  unfold maxLen at hcm
  have hrow := h.row
  have hels := Lib.hid h.els
  clear h
  obtain ⟨n, hn⟩ : ∃ n, L.length = n := ⟨_, rfl⟩
  have HN := Lib.hid hn
  rw [hn] at hlc hrow ⊢
  clear hn
  by_cases h4 : n ≤ 4
  · have g1 : decide ((4 : Int) < (n : Int)) = false := by simp; omega
    have g2 : decide (4 < n) = false := by simp; omega
    have u0 : IntKind.u64.wrap (n : Int) = (n : Int) := u64_id (by omega)
    have ho := Own.new w 44 #[.slice none 0 0, .int .i64 0]
    have b1 := (Below.refl w.heap.size w).alloc (Nat.le_refl _) (.cells #[.slice none 0 0, .int .i64 0] 44)
    have hW : Wb (w.alloc (.cells #[.slice none 0 0, .int .i64 0] 44)) w.heap.size w.heap.size [] (.slice none 0 0) :=
      ⟨fun _ => 0, fun _ => false, ⟨⟨ho, Mine.nil _ _ _ _, ⟨fun k hk => by simp at hk, fun k hk => by simp at hk⟩, Nat.le_refl _⟩, by simp, by simp⟩, fun k hk => by simp at hk⟩
    clear ho
    go_enter Try.func22, Try.ntmps22
    go_upto_region 4 with (fail)
    generalize w.alloc (.cells #[.slice none 0 0, .int .i64 0] 44) = w1 at *
    obtain ⟨g, hg⟩ : ∃ g, w.heap.size = g := ⟨_, rfl⟩
    have HG := Lib.hid hg
    rw [hg] at hW ⊢
    go_wp2_with fail
    refine (put1_any g g [] (.slice none 0 0) (n : Int) w1 hW (by omega) (by simp)).mono ?_
    rintro r x1 ⟨rfl, v1, hW1, bb, lo⟩
    rw [hg] at b1
    have b2 := b1.trans bb
    clear hW b1 bb lo u0 hg
    go_wp2_with fail
    go_loopw [18] (fun i wr => ∃ (k : Nat) (v : Value), i = .int .i64 k ∧ k ≤ n ∧ Wb wr g g ([(n : Int)] ++ encL ((els L).take k)) v ∧ Hid (∀ j, j < k → mayE (L.getD j ep0).e = true) ∧ Below g w wr) (fun i _ => n - (intOf i).toNat)
    case atStart => exact ⟨0, v1, rfl, by omega, hW1, Lib.hid (fun j hj => by omega), b2⟩
    case round =>
      clear hW1 b2
      obtain ⟨k, v, rfl, hk, hW, HE, b2⟩ := hrel
      have hbw : Below w.heap.size w wr := by rw [HG.out]; exact b2
      by_cases hlt : k < n
      · obtain ⟨x, hx⟩ : ∃ x, L.getD k ep0 = x := ⟨_, rfl⟩
        obtain ⟨pb, po, rfl, hpb, x0, x1, x2, x3, x4⟩ := erow hrow hbw hlt hx
        have hat := hels.out k (by rw [HN.out]; exact hlt)
        rw [hx] at hat
        have hl1 := els_at (k := k) (by rw [HN.out]; exact hlt) hx
        have HX := Lib.hid hx
        have hlen : ([(n : Int)] ++ encL ((els L).take k)).length ≤ 900 := by
          have : ∀ j, (hj : j < (els L).length) → j < k → mayE (els L)[j] = true := fun j hj hjk => by
            have e1 := els_at (L := L) (k := j) (by rw [els_len] at hj; exact hj) rfl
            rw [e1]
            exact HE.out j hjk
          have e2 : (encL ((els L).take k)).length ≤ 18 * k := by
            have h9 := encL_take_len (l := (els L).take k) (fun j hj => by
              rw [List.getElem_take]
              rw [List.length_take] at hj
              exact this j (by omega) (by omega)) k (by rw [List.length_take, els_len, HN.out]; omega)
            rwa [List.take_take, Nat.min_self] at h9
          simp only [List.length_append, List.length_cons, List.length_nil]
          omega
        have HL := Lib.hid hlen
        have HL1 := Lib.hid hl1
        clear hlen hl1 hx
        obtain ⟨⟨ek, easn, erank, et, el⟩, ea, ec⟩ := x
        simp only at x0 x1 x2 x3 x4 hat
        have hf := from_any ⟨ek, easn, erank, et, el⟩ ea ec (wr.alloc (.cells #[.int .i64 ek, .int .i64 easn, .int .i64 erank, .int .i64 et, .slice ea el.length ec] 52)) ((hat.below hbw).below ((Below.refl _ _).alloc (Nat.le_refl _) _))
        have o3 := Own.new wr 52 #[.int .i64 ek, .int .i64 easn, .int .i64 erank, .int .i64 et, .slice ea el.length ec]
        have hs3 : wr.heap.size < (wr.alloc (.cells #[.int .i64 ek, .int .i64 easn, .int .i64 erank, .int .i64 et, .slice ea el.length ec] 52)).heap.size := by simp
        have hgw : g ≤ wr.heap.size := by have := Wb.far hW; omega
        have b3 := b2.alloc hgw (.cells #[.int .i64 ek, .int .i64 easn, .int .i64 erank, .int .i64 et, .slice ea el.length ec] 52)
        have hW3 := hW.below ((Below.refl wr.heap.size wr).alloc (Nat.le_refl _) (.cells #[.int .i64 ek, .int .i64 easn, .int .i64 erank, .int .i64 et, .slice ea el.length ec] 52))
        obtain ⟨q, hq⟩ : ∃ q, mayE ⟨ek, easn, erank, et, el⟩ = q := ⟨_, rfl⟩
        rw [hq] at hf
        obtain ⟨u, hu⟩ : ∃ u, fromV ⟨ek, easn, erank, et, el⟩ ea ec = u := ⟨_, rfl⟩
        rw [hu] at hf
        unfold El.vals at hf
        simp only at hf
        have HF := Lib.hid hf
        have HU := Lib.hid hu
        clear hf hu hW b2 hbw
        go_upto_region 8 with (fail)
        generalize wr.alloc (.cells #[.int .i64 ek, .int .i64 easn, .int .i64 erank, .int .i64 et, .slice ea el.length ec] 52) = w3 at *
        generalize wr.heap.size = gg at *
        have c0 : w3.cell? ⟨gg, 0, none⟩ = some (.int .i64 ek) := o3.cell 0
        have c1 : w3.cell? ⟨gg, 1, none⟩ = some (.int .i64 easn) := o3.cell 1
        have c2 : w3.cell? ⟨gg, 2, none⟩ = some (.int .i64 erank) := o3.cell 2
        have c3 : w3.cell? ⟨gg, 3, none⟩ = some (.int .i64 et) := o3.cell 3
        have c4 : w3.cell? ⟨gg, 4, none⟩ = some (.slice ea el.length ec) := o3.cell 4
        cases q
        · have HD : Hid (mayL (els L) = false) := Lib.hid (mayL_no (k := k) (by rw [els_len, HN.out]; exact hlt) (by rw [HL1.out]; exact hq))
          clear hq
          go_wp2_with (refine HF.out.mono ?_; rintro r w' ⟨rfl, bf⟩)
          go_ret2
          unfold EncPost
          rw [HD.out]
          refine ⟨rfl, ?_⟩
          rw [HG.out]
          exact b3.trans (bf.mono (by omega))
        · have HQ := Lib.hid hq
          clear hq
          go_wp2_with fail
          refine HF.out.mono ?_
          rintro r w4 ⟨rfl, bf⟩
          have o4 := below_own bf o3 hs3
          have b4 := b3.trans (bf.mono (by omega))
          have hW4 := hW3.below bf
          clear c0 c1 c2 c3 c4 x0 x1 x2 x3 x4 hW3 b3 bf o3 hs3
          have c0 : w4.cell? ⟨gg, 0, none⟩ = some (.int .i64 ek) := o4.cell 0
          go_wp2_with fail
          rw [← HU.out]
          refine (iput_any ⟨ek, easn, erank, et, el⟩ g g _ v ea ec w4 hW4 HL.out HQ.out (fun w' hb => hat.row.below (by rw [HG.out]; exact b4.trans hb))).mono ?_
          rintro r w5 ⟨rfl, v5, hW5, b5⟩
          have b6 := b4.trans b5
          clear c0 b5 b4 hW4 o4
          go_wp2_with fail
          refine ⟨⟨k + 1, v5, by simp, by omega, ?_, Lib.hid (fun j hj => ?_), b6⟩, by simp [intOf]; omega⟩
          · rw [encL_take (by rw [els_len, HN.out]; exact hlt), HL1.out, ← List.append_assoc]
            exact hW5
          · by_cases e : j = k
            · subst e; rw [HX.out]; exact HQ.out
            · exact HE.out j (by omega)
      · obtain rfl : n = k := by omega
        have hall : ∀ j, (hj : j < (els L).length) → mayE (els L)[j] = true := fun j hj => by
          have e1 := els_at (L := L) (k := j) (by rw [els_len] at hj; exact hj) rfl
          rw [e1]
          exact HE.out j (by rw [els_len, HN.out] at hj; exact hj)
        have HD : Hid (mayL (els L) = true) := Lib.hid (mayL_yes (by rw [els_len, HN.out]; exact h4) hall)
        have e1 : (els L).take n = els L := List.take_of_length_le (by rw [els_len, HN.out]; exact Nat.le_refl _)
        have hll := encL_take_len hall n (by rw [els_len, HN.out]; exact Nat.le_refl _)
        rw [e1] at hW hll
        have hI : [(n : Int)] ++ encL (els L) = encI (els L) := by unfold encI; rw [els_len, HN.out]
        rw [hI] at hW
        have hIl : (encI (els L)).length ≤ 73 := by rw [← hI]; simp only [List.length_append, List.length_cons, List.length_nil]; omega
        have HIL := Lib.hid hIl
        obtain ⟨Z, B, hw1, hw2⟩ := hW
        have hZ := Lib.hid hw2
        clear hw2 hIl hI hll e1 hall
        go_wp2_with fail
        refine (bytes_any g g _ _ Z B v wr hw1 (by have := HIL.out; omega)).mono ?_
        rintro r w8 ⟨a8, c8, rfl, hc8, hd8, hR8, b8⟩
        go_wp2_with fail
        go_ret2
        unfold EncPost
        rw [HD.out, if_pos rfl]
        have hgw : w.heap.size ≤ wr.heap.size := by rw [HG.out]; have := hw1.own.lt; omega
        exact ⟨a8, c8, rfl, hc8, hd8, row_ext hR8 (fun i hi => by unfold bval; rw [← hZ.out i hi]), hbw.trans (b8.mono hgw)⟩
  · have g1 : decide ((4 : Int) < (n : Int)) = true := by simp; omega
    have g2 : decide (4 < n) = true := by simp; omega
    have HD : Hid (mayL (els L) = false) := Lib.hid (by
      unfold mayL
      rw [els_len, HN.out, decide_eq_false h4]
      rfl)
    clear h4
    go_enter Try.func22, Try.ntmps22
    go_wp2_with fail
    go_ret2
    unfold EncPost
    rw [HD.out]
    exact ⟨rfl, Below.refl _ _⟩
end Go.Proofs.Ytoconkgemakboaa.Ie
