/-
  Package frame (chapter 7): Encode: a frame's bytes. A node (chapter 24): the frame that node 0 sends when nothing waits.
-/
import Derived.Test.YtiflmdekcjbmbaaGreatGNodeNil28
import Derived.Test.YtiflmdekcjbmbaaGreatGNodeNil18
import Derived.Test.YtiflmdekcjbmbaaGreatGNodeNil16
import Derived.Laws.Append
set_option maxRecDepth 100000
namespace Go.Proofs.YtiflmdekcjbmbaaGreat.Fm
set_option linter.unusedVariables false
set_option linter.unusedSimpArgs false
open Go.RowKit Lb Bf Ie

theorem idx6 (x0 x1 x2 x3 x4 x5 : Int) (k : Nat) (h : k < 6) (w : World) : (Instr.index 181 (.agg #[.int .i64 x0, .int .i64 x1, .int .i64 x2, .int .i64 x3, .int .i64 x4, .int .i64 x5]) (.int .i64 (k : Int))).run Tryz.prog w = .ok (.int .i64 ([x0, x1, x2, x3, x4, x5].getD k 0)) w := by
  rcases (show k = 0 ∨ k = 1 ∨ k = 2 ∨ k = 3 ∨ k = 4 ∨ k = 5 by omega) with rfl | rfl | rfl | rfl | rfl | rfl
  · clear h; kernel_rfl
  · clear h; kernel_rfl
  · clear h; kernel_rfl
  · clear h; kernel_rfl
  · clear h; kernel_rfl
  · clear h; kernel_rfl
def EncFPost (f : Fr) (w : World) (r : Ending) (w' : World) : Prop :=
  if mayF f = true then ∃ v, r = .returned (.tuple #[v, .int .i64 0]) ∧ Mine w' w.heap.size 5 v (encF f).length (bval (encF f)) ∧ Below w.heap.size w w'
  else r = .returned (.tuple #[.slice none 0 0, .int .i64 1]) ∧ Below w.heap.size w w'
theorem mine_app {w : World} {base : Nat} {v : Value} {l : List Int} {n : Nat} (hn : l.length = n) (h : Mine w base 5 v (n + 2) (fun i => .int .u8 (Cr.app (fn l) n i))) : Mine w base 5 v (appL l).length (bval (appL l)) := by
  subst hn
  rw [appL_len]
  refine h.ext fun i hi => ?_
  unfold bval
  rw [← appL_fn l i hi]
  rfl
set_option maxHeartbeats 4000000 in
theorem encF_any (p : Fp) (w : World) (h : p.At w) (hm : ∀ k, k < p.L.length → (p.L.getD k ep0).e.list.length ≤ 1000000) :
    Calls Tryz.prog 65 #[.agg p.vals] w (EncFPost p.fr w) := by
  have o1 := Own.new w 37 p.vals
  have b0 := (Below.refl w.heap.size w).alloc (Nat.le_refl _) (.cells p.vals 37)
  have h1 := h.below b0
  have hM := mayF_any p _ h1 hm
  have HDO := Lib.hid h.ok
  clear h hm
  obtain ⟨pk, ps, pd, pq, pL, pa, pc, pdata, pb, pe⟩ := p
  have HF : Hid ((⟨pk, ps, pd, pq, pL, pa, pc, pdata, pb, pe⟩ : Fp).fr = ⟨pk, ps, pd, pq, els pL, pdata⟩) := Lib.hid rfl
  rw [HF.out] at hM ⊢
  unfold Fp.vals at *
  simp only at *
  obtain ⟨nd, hnd⟩ : ∃ n, pdata.length = n := ⟨_, rfl⟩
  have HND := Lib.hid hnd
  rw [hnd] at o1 b0 h1 hM ⊢
  obtain ⟨nl, hnl⟩ : ∃ n, pL.length = n := ⟨_, rfl⟩
  have HNL := Lib.hid hnl
  rw [hnl] at o1 b0 h1 hM ⊢
  have hsz : w.heap.size < (w.alloc (.cells #[.int .i64 pk, .int .i64 ps, .int .i64 pd, .int .i64 pq, .slice pa nl pc, .slice pb nd pe] 37)).heap.size := by simp
  go_enter Tryz.func65, Tryz.ntmps65
  go_upto_region 1 with (fail)
  generalize w.alloc (.cells #[.int .i64 pk, .int .i64 ps, .int .i64 pd, .int .i64 pq, .slice pa nl pc, .slice pb nd pe] 37) = w1 at *
  have x0 : w1.cell? ⟨w.heap.size, 0, none⟩ = some (.int .i64 pk) := o1.cell 0
  have x1 : w1.cell? ⟨w.heap.size, 1, none⟩ = some (.int .i64 ps) := o1.cell 1
  have x2 : w1.cell? ⟨w.heap.size, 2, none⟩ = some (.int .i64 pd) := o1.cell 2
  have x3 : w1.cell? ⟨w.heap.size, 3, none⟩ = some (.int .i64 pq) := o1.cell 3
  have x4 : w1.cell? ⟨w.heap.size, 4, none⟩ = some (.slice pa nl pc) := o1.cell 4
  have x5 : w1.cell? ⟨w.heap.size, 5, none⟩ = some (.slice pb nd pe) := o1.cell 5
  have HM := Lib.hid hM
  clear hnd hnl hM
  cases hmay : mayF ⟨pk, ps, pd, pq, els pL, pdata⟩
  · rw [hmay] at HM
    have HMAY := Lib.hid hmay
    clear hmay
    go_wp2_with fail
    refine HM.out.mono ?_
    rintro r w2 ⟨rfl, b2⟩
    go_wp2_with fail
    go_ret2
    unfold EncFPost
    rw [HMAY.out]
    exact ⟨rfl, b0.trans (b2.mono b0.size)⟩
  rw [hmay] at HM
  have HMAY := Lib.hid hmay
  obtain ⟨m1, m2, m3, m4, m5, m6⟩ := mayF_out hmay
  simp only at m1 m2 m3 m4 m5 m6
  rw [HND.out] at m3
  clear hmay
  go_wp2_with fail
  refine HM.out.mono ?_
  rintro r w2 ⟨rfl, b2⟩
  have o2 := below_own b2 o1 o1.lt
  have h2 := h1.below b2
  have b3 := b0.trans (b2.mono b0.size)
  clear x0 x1 x2 x3 x4 x5 o1 h1 b0 HM
  have x4 : w2.cell? ⟨w.heap.size, 4, none⟩ = some (.slice pa nl pc) := o2.cell 4
  have hE := encode_any pL pa pc w2 h2.els
  rw [HNL.out] at hE
  have HE := Lib.hid hE
  clear hE
  go_wp2_with fail
  refine HE.out.mono ?_
  intro r w3 hp
  unfold EncPost at hp
  rw [if_pos m4] at hp
  obtain ⟨a3, c3, rfl, l3, lm3, R3, b4⟩ := hp
  have o3 := below_own b4 o2 o2.lt
  have h3 := h2.below b4
  have b5 := b3.trans (b4.mono b3.size)
  obtain ⟨hX1, hX2⟩ := encI_ok m4
  obtain ⟨X, hX⟩ : ∃ X, encI (els pL) = X := ⟨_, rfl⟩
  rw [hX] at R3 l3 hX1 hX2 ⊢
  have HX := Lib.hid hX
  obtain ⟨nx, hnx⟩ : ∃ n, X.length = n := ⟨_, rfl⟩
  rw [hnx] at R3 l3 hX2 ⊢
  have HNX := Lib.hid hnx
  have HXO := Lib.hid hX1
  have ho := Own.new w3 180 #[.slice none 0 0, .int .i64 0]
  have bW := (Below.refl w3.heap.size w3).alloc (Nat.le_refl _) (.cells #[.slice none 0 0, .int .i64 0] 180)
  have hW : Wb (w3.alloc (.cells #[.slice none 0 0, .int .i64 0] 180)) w3.heap.size w3.heap.size [] (.slice none 0 0) :=
    ⟨fun _ => 0, fun _ => false, ⟨⟨ho, Mine.nil _ _ _ _, ⟨fun k hk => by simp at hk, fun k hk => by simp at hk⟩, Nat.le_refl _⟩, by simp, by simp⟩, fun k hk => by simp at hk⟩
  have hs3 : w.heap.size < w3.heap.size := o3.lt
  have hsW : w3.heap.size < (w3.alloc (.cells #[.slice none 0 0, .int .i64 0] 180)).heap.size := by simp
  have hR5 : Row w3 pb nd (bval pdata) := by have := h3.row; simp only at this; rwa [HND.out] at this
  clear hX hX1 hnx ho o2 h2 b3 b4 x4
  go_upto_region 7 with (fail)
  generalize w3.alloc (.cells #[.slice none 0 0, .int .i64 0] 180) = w4 at *
  obtain ⟨g, hg⟩ : ∃ g, w3.heap.size = g := ⟨_, rfl⟩
  have HG := Lib.hid hg
  rw [hg] at hW bW hs3 hsW ⊢
  clear hg
  have HOWN : Hid (∀ W, Below g w4 W → Lb.Own W w.heap.size 37 #[.int .i64 pk, .int .i64 ps, .int .i64 pd, .int .i64 pq, .slice pa nl pc, .slice pb nd pe] ∧ Row W a3 nx (bval X) ∧ Row W pb nd (bval pdata)) := Lib.hid (fun W hb => by
    have hb2 : Below w3.heap.size w3 W := by rw [HG.out]; exact bW.trans hb
    exact ⟨below_own hb2 o3 (by rw [HG.out]; exact hs3), R3.below hb2, hR5.below hb2⟩)
  have o4 := (HOWN.out w4 (Below.refl _ _)).1
  have x0 : w4.cell? ⟨w.heap.size, 0, none⟩ = some (.int .i64 pk) := o4.cell 0
  have x1 : w4.cell? ⟨w.heap.size, 1, none⟩ = some (.int .i64 ps) := o4.cell 1
  have x2 : w4.cell? ⟨w.heap.size, 2, none⟩ = some (.int .i64 pd) := o4.cell 2
  have x3 : w4.cell? ⟨w.heap.size, 3, none⟩ = some (.int .i64 pq) := o4.cell 3
  have hI := fun k hk (w : World) => idx6 197 pk ps pd pq (nx : Int) k hk w
  have HI := Lib.hid hI
  clear hI R3 hR5 o3 o4
  go_wp2_with fail
  go_loopw [32] (fun i wr => ∃ (k : Nat) (v : Value), i = .int .i64 k ∧ k ≤ 6 ∧ Wb wr g g ([197, pk, ps, pd, pq, (nx : Int)].take k) v ∧ Below g w4 wr) (fun i _ => 6 - (intOf i).toNat)
  case atStart => exact ⟨0, _, rfl, by omega, hW, Below.refl _ _⟩
  case round =>
    clear hW
    obtain ⟨k, v, rfl, hk, hW, bb⟩ := hrel
    by_cases hlt : k < 6
    · have hi := HI.out k hlt
      have hxb : 0 ≤ [197, pk, ps, pd, pq, (nx : Int)].getD k 0 ∧ [197, pk, ps, pd, pq, (nx : Int)].getD k 0 < 256 := by
        match k, hlt with
        | 0, _ => simp
        | 1, _ => simp; omega
        | 2, _ => simp; omega
        | 3, _ => simp; omega
        | 4, _ => simp; omega
        | 5, _ => simp; omega
      have hsn := tk_snoc (l := [197, pk, ps, pd, pq, (nx : Int)]) (k := k) (by simpa using hlt)
      have hll : ([197, pk, ps, pd, pq, (nx : Int)].take k).length ≤ 6 := by rw [List.length_take]; simp; omega
      obtain ⟨x, hx⟩ : ∃ x, [197, pk, ps, pd, pq, (nx : Int)].getD k 0 = x := ⟨_, rfl⟩
      rw [hx] at hi hxb hsn
      have HSN := Lib.hid hsn
      have HLL := Lib.hid hll
      have u1 : IntKind.u64.wrap x = x := u64_id (by omega)
      clear hx hsn hll
      go_wp2_with fail
      refine (put1_any g g _ v x wr hW hxb (by have := HLL.out; omega)).mono ?_
      rintro r x1 ⟨rfl, v1, hW1, b1, lo⟩
      rw [← HSN.out] at hW1
      have b2 := bb.trans b1
      clear hi u1 lo b1 hW bb
      go_wp2_with fail
      exact ⟨⟨k + 1, v1, by simp, by omega, hW1, b2⟩, by simp [intOf]; omega⟩
    · obtain rfl : k = 6 := by omega
      have htk : [197, pk, ps, pd, pq, (nx : Int)].take 6 = [197, pk, ps, pd, pq, (nx : Int)] := rfl
      rw [htk] at hW
      have q1 := (HOWN.out wr bb).2.1
      clear htk HI x0 x1 x2 x3
      have hQ1 : Row wr a3 X.length (fun i => .int .u8 (X.getD i 0)) := by rw [HNX.out]; exact q1
      have hT1 := textb_any g g [197, pk, ps, pd, pq, (nx : Int)] X v a3 c3 wr hW (by simp) (by rw [HNX.out]; omega) hQ1 HXO.out
      rw [HNX.out] at hT1
      have HT1 := Lib.hid hT1
      clear hT1 hQ1 q1 hW
      go_wp2_with fail
      refine HT1.out.mono ?_
      rintro r w5 ⟨rfl, v5, hW5, b5', lo5⟩
      have bb5 := bb.trans b5'
      have o5 := (HOWN.out w5 bb5).1
      have y5 : w5.cell? ⟨w.heap.size, 5, none⟩ = some (.slice pb nd pe) := o5.cell 5
      have u1 : IntKind.u64.wrap (nd : Int) = (nd : Int) := u64_id (by omega)
      have hl6 : ([197, pk, ps, pd, pq, (nx : Int)] ++ X).length = 6 + nx := by rw [List.length_append, HNX.out]; simp
      have HL6 := Lib.hid hl6
      clear HT1 bb b5' lo5 hl6
      go_wp2_with fail
      refine (put1_any g g _ v5 (nd : Int) w5 hW5 (by omega) (by rw [HL6.out]; omega)).mono ?_
      rintro r w6 ⟨rfl, v6, hW6, b6', lo6⟩
      have bb6 := bb5.trans b6'
      have o6 := (HOWN.out w6 bb6).1
      have y5 : w6.cell? ⟨w.heap.size, 5, none⟩ = some (.slice pb nd pe) := o6.cell 5
      have q2 := (HOWN.out w6 bb6).2.2
      have hQ2 : Row w6 pb pdata.length (fun i => .int .u8 (pdata.getD i 0)) := by rw [HND.out]; exact q2
      have hl7 : ([197, pk, ps, pd, pq, (nx : Int)] ++ X ++ [(nd : Int)]).length = 7 + nx := by rw [List.length_append, HL6.out]; simp; omega
      have hT2 := textb_any g g _ pdata v6 pb pe w6 hW6 (by rw [hl7]; omega) (by rw [HND.out]; omega) hQ2 HDO.out
      rw [HND.out] at hT2
      have HT2 := Lib.hid hT2
      clear hT2 hQ2 q2 hW6 bb5 b6' lo6 u1 hl7 hW5 o5 o6
      go_wp2_with fail
      refine HT2.out.mono ?_
      rintro r w7 ⟨rfl, v7, hW7, b7', lo7⟩
      have bb7 := bb6.trans b7'
      have hR : [197, pk, ps, pd, pq, (nx : Int)] ++ X ++ [(nd : Int)] ++ pdata = encR ⟨pk, ps, pd, pq, els pL, pdata⟩ := by
        unfold encR
        rw [HX.out, HNX.out, HND.out]
      have hRl := encR_len ⟨pk, ps, pd, pq, els pL, pdata⟩
      rw [HX.out, HNX.out] at hRl
      simp only at hRl
      rw [HND.out] at hRl
      have hRo := encR_ok HMAY.out HDO.out
      rw [hR] at hW7
      obtain ⟨R, hRR⟩ : ∃ R, encR ⟨pk, ps, pd, pq, els pL, pdata⟩ = R := ⟨_, rfl⟩
      rw [hRR] at hW7 hRl hRo
      have HRR := Lib.hid hRR
      obtain ⟨Z, B, hw1, hw2⟩ := hW7
      have hB := Bf.bytes_any g g _ _ Z B v7 w7 hw1 (by omega)
      have HZ := Lib.hid hw2
      have HRO := Lib.hid hRo
      obtain ⟨nr, hnr⟩ : ∃ n, R.length = n := ⟨_, rfl⟩
      rw [hnr] at hB hRl
      have HNR := Lib.hid hnr
      have HB := Lib.hid hB
      have hRle : nr ≤ 144 + nd := by omega
      have hgw : g ≤ w7.heap.size := by have := hw1.own.lt; omega
      clear hRl hB HT2 bb6 b7' lo7 hR hRR hw1 hw2 hRo hnr y5
      go_wp2_with fail
      refine HB.out.mono ?_
      rintro r w8 ⟨a8, c8, rfl, hc8, hd8, hR8, b8'⟩
      have bb8 := bb7.trans (b8'.mono hgw)
      have hR9 : Row w8 a8 nr (fun i => .int .u8 (fn R i)) := row_ext hR8 (fun i hi => by rw [HZ.out i (by rw [HNR.out]; exact hi)]; rfl)
      have hAp := Cr.append_any a8 nr c8 (fn R) w8 (by omega) hR9 (fn_byte HRO.out)
      have HAP := Lib.hid hAp
      have hgw8 : g ≤ w8.heap.size := Nat.le_trans hgw b8'.size
      clear hAp hR8 hR9 b8' HB bb7
      go_wp2_with fail
      with_reducible refine HAP.out.mono ?_
      rintro r w9 ⟨v9, rfl, hM9, b9'⟩
      have bb9 := bb8.trans (b9'.mono hgw8)
      have h9 := mine_app HNR.out hM9
      rw [← HRR.out] at h9
      have hbw : Below w.heap.size w w9 := b5.trans ((bW.trans bb9).mono (by omega))
      have hlow : w.heap.size ≤ w8.heap.size := by omega
      have H9 := Lib.hid (Ie.Mine.low h9 hlow)
      clear h9 hM9 b9' bb8
      go_wp2_with fail
      go_ret2
      unfold EncFPost
      rw [HMAY.out, if_pos rfl]
      exact ⟨v9, rfl, H9.out, hbw⟩
end Go.Proofs.YtiflmdekcjbmbaaGreat.Fm
set_option maxRecDepth 100000
namespace Go.Proofs.YtiflmdekcjbmbaaGreat.Nd
set_option linter.unusedVariables false
set_option linter.unusedSimpArgs false
open Go.RowKit Lb Ie Fm

theorem infoIE : (Tryz.prog.info? 59).map (fun i => (i.zero, i.size, i.bytes)) = some (some (.agg #[.int .i64 0, .int .i64 0, .int .i64 0, .int .i64 0, .slice none 0 0]), 5, 56) := by kernel_rfl
/-- A full row of one element grows: it lies anew. -/
theorem app_full (ty : TypeId) (w : World) (g g2 : Nat) (A B : Array Value) (hA : Own w g 59 A) (hB : Own w g2 59 B) (sA : A.size = 5) (sB : B.size = 5) :
    ∃ c w', (Builtin.append_ #[34, 34] ty #[.slice (some ⟨g, 0, none⟩) 1 1, .slice (some ⟨g2, 0, none⟩) 1 1]).run Tryz.prog w = .ok (.slice (some ⟨w.heap.size, 0, none⟩) 2 c) w' ∧ 2 ≤ c ∧ c ≤ maxLen ∧ (∀ k, k < 10 → w'.cell? ⟨w.heap.size, k, none⟩ = (A ++ B)[k]?) ∧ w.heap.size < w'.heap.size ∧ Below w.heap.size w w' := by
  obtain ⟨i0, hi0, hz0, hz1, hz2⟩ := info_parts infoIE
  have h1 : ∀ (q : Nat) (X : Array Value), Own w q 59 X → ∀ j v, X.toList[j]? = some v → w.cell? ((⟨q, 0, none⟩ : Addr).add j) = some v := by
    intro q X hX j v e
    rw [show (⟨q, 0, none⟩ : Addr).add j = ⟨q, j, none⟩ by unfold Addr.add; simp; exact fun h => h.symm, hX.cell, ← e]
    simp
  have hr := run_append_grow (P := Tryz.prog) (w := w) 34 ty 59 i0 _ Tryz.underlying34 hi0 hz0 ⟨g, 0, none⟩ 1 1 A.toList (by simp [sA, hz1]) (h1 g A hA) ⟨g2, 0, none⟩ 1 1 B.toList (by simp [sB, hz1]) (h1 g2 B hB) (by decide) (by decide) (by rw [hz2]; decide)
  refine ⟨_, _, hr, grownCap_ge _ _ _ _, grownCap_le_maxLen _ _ _ _ (by unfold maxLen; decide), ?_, by simp, ?_⟩
  · intro k hk
    have o := Own.new w.drew 59 (A.toList.toArray ++ B.toList.toArray ++ Builtin.zeroCells (Value.agg #[.int .i64 0, .int .i64 0, .int .i64 0, .int .i64 0, .slice none 0 0]).cells (grownCap w (1 + 1) 1 59 - (1 + 1)))
    have e := o.cell k
    rw [show w.drew.heap.size = w.heap.size from rfl] at e
    rw [e, Array.getElem?_append_left (by simp [sA, sB]; exact hk)]
  · exact (show Below w.heap.size w w.drew from ⟨rfl, rfl, rfl, Nat.le_refl _, fun _ _ => rfl⟩).alloc (Nat.le_refl _) _
theorem op_app {P : Program} {w : World} {o : Oper} {a : Act} {K : Act → World → Prop} {Q : Exit → Act → World → Prop} (s x : Operand) (t : TypeId)
    (ho : o.op = .call { callee := .builtin .append, args := #[s, x], argTypes := #[t, t] }) (v u v' : Value) (w1 : World) (hs : a.eval s = v) (hx : a.eval x = u) (hr : (Builtin.append_ #[t, t] o.type #[v, u]).run P w = .ok v' w1) (h : K (a.put o.dst v') w1) : o.wp P a w K Q := by
  unfold Oper.wp execOp
  simp only [ho, resolve, invoke, builtin, Sem.run_bind, Sem.run_pure, Result.andThen_ok, List.map_toArray, List.map_cons, List.map_nil, hs, hx, hr]
  exact h
section
variable {v : World}
/-- A slice of one element, in a value. -/
def iS (v : World) (B : Array Value) (f : Value → Value) (x : Value) (s : Gw v) : Prop := ∃ g, x = f (.slice (some ⟨g, 0, none⟩) 1 1) ∧ v.heap.size ≤ g ∧ Own s.toW g 59 B
def kS (v : World) (B : Array Value) (f : Value → Value) : Kd v := .grow (iS v B f) (fun _ _ _ h ⟨g, e, h1, h2⟩ => ⟨g, e, h1, below_own h.below h2 h2.lt⟩)
/-- A new cell. -/
def iA (v : World) (t : TypeId) (Z : Array Value) (x : Value) (s : Gw v) : Prop := ∃ g, x = .pointer (some ⟨g, 0, none⟩) ∧ v.heap.size ≤ g ∧ Own s.toW g t Z
def kA (v : World) (t : TypeId) (Z : Array Value) : Kd v := .grow (iA v t Z) (fun _ _ _ h ⟨g, e, h1, h2⟩ => ⟨g, e, h1, below_own h.below h2 h2.lt⟩)
/-- A value that is known. -/
def iC (v : World) (c : Value) (x : Value) (_ : Gw v) : Prop := x = c
def kC (v : World) (c : Value) : Kd v := .grow (iC v c) (fun _ _ _ _ h => h)
/-- Two elements. -/
def iP (v : World) (B : Array Value) (x : Value) (s : Gw v) : Prop := ∃ g c, x = .slice (some ⟨g, 0, none⟩) 2 c ∧ 2 ≤ c ∧ c ≤ maxLen ∧ v.heap.size ≤ g ∧ g < s.toW.heap.size ∧ ∀ k, k < 10 → s.toW.cell? ⟨g, k, none⟩ = B[k]?
def kP (v : World) (B : Array Value) : Kd v := .grow (iP v B) (fun _ _ _ h ⟨g, c, e, h1, h2, h3, h4, h5⟩ => ⟨g, c, e, h1, h2, h3, Nat.lt_of_lt_of_le h4 h.below.size, fun k hk => (h.below.cell (p := ⟨g, k, none⟩) h4).trans (h5 k hk)⟩)
end
theorem mine_at {w : World} {base n c : Nat} {e : TypeId} {a : Option Addr} {V : Nat → Value} (h : Mine w base e (.slice a n c) n V) : n ≤ c ∧ c ≤ maxLen ∧ Row w a n V ∧ (a = none → n = 0) := by
  obtain ⟨a', c', e', h1, h2, h3⟩ := h.row
  injection e' with e1 e2 e3
  subst e1 e3
  refine ⟨h1, h2, h3, fun e => ?_⟩
  rcases Nat.eq_zero_or_pos n with h0 | h0
  · exact h0
  · obtain ⟨b, off, h4, _⟩ := h3 h0
    rw [e] at h4
    cases h4
/-- The frame of node 0, when nothing waits. -/
def nextF0 (s : Ns) (asn : Int) : Fr := ⟨3, 0, 64, s.seq, [⟨1, asn, rankN s, 0, []⟩, ⟨3, 0, 0, 0, s.c.hops⟩], []⟩
set_option maxHeartbeats 4000000 in
theorem next0_any {w : World} {b : Nat} {s : Ns} {h : Hm} (n : Nd w b s h) (f : Fit s) (h0 : s.id = 0) (hq : s.q = []) (asn : Int) :
    Calls Tryz.prog 64 #[.pointer (some ⟨b, 0, none⟩), .int .i64 asn] w fun r w' => ∃ p : Fp, r = .returned (.agg p.vals) ∧ p.At w' ∧ p.fr = nextF0 s asn ∧ Below w.heap.size w w' := by
  have b0 := (Below.refl w.heap.size w).alloc (Nat.le_refl _) (.cells #[.int .i64 0, .int .i64 0, .int .i64 0, .int .i64 0, .slice none 0 0, .slice none 0 0] 37)
  have o0 := Own.new w 37 #[.int .i64 0, .int .i64 0, .int .i64 0, .int .i64 0, .slice none 0 0, .slice none 0 0]
  have n0 := n.below b0
  have HNW := Lib.hid n
  have HR := Lib.hid (f.root h0)
  have HQ := Lib.hid hq
  have HI := Lib.hid h0
  have HF := Lib.hid f
  go_enter Tryz.func64, Tryz.ntmps64
  go_upto_region 1 with (fail)
  have HB := Lib.hid b0
  obtain ⟨xb, hxb⟩ : ∃ q, w.heap.size = q := ⟨_, rfl⟩
  have HXB := Lib.hid hxb
  rw [hxb] at o0 ⊢
  clear b0 hxb n f h0 hq
  generalize w.alloc (.cells #[.int .i64 0, .int .i64 0, .int .i64 0, .int .i64 0, .slice none 0 0, .slice none 0 0] 37) = w0 at *
  have c0 : ∀ z : Gw w0, z.toW.cell? ⟨b, 0, none⟩ = some (.int .i64 0) := fun z => by rw [(n0.below z.ok).c_id, HI.out]
  obtain ⟨sq, hsq⟩ : ∃ q, s.seq = q := ⟨_, rfl⟩
  obtain ⟨rk, hrk⟩ : ∃ q, rankN s = q := ⟨_, rfl⟩
  have HSQ := Lib.hid hsq
  have HRK := Lib.hid hrk
  have c1 : ∀ z : Gw w0, z.toW.cell? ⟨b, 16, none⟩ = some (.int .i64 sq) := fun z => by rw [(n0.below z.ok).c_seq, hsq]
  have PB : Hid (∀ z : Gw w0, Calls Tryz.prog 128 #[.pointer (some ⟨b, 0, none⟩), .int .i64 asn] z.toW fun r w' => r = .returned (.agg #[.int .i64 1, .int .i64 asn, .int .i64 rk, .int .i64 0, .slice none 0 0]) ∧ Below z.toW.heap.size z.toW w') := Lib.hid (fun z => by
    have := beat_any (n0.below z.ok) asn
    rw [hrk] at this
    exact this)
  clear hsq hrk
  have HN := Lib.hid n0
  clear n0
  apply wp_tail_start
  case hl => repeat (first | exact Snoc.one _ | apply Snoc.cons)
  refine wp_region_tail w0 (Below.refl _ _) [.is (.pointer (some ⟨b, 0, none⟩)), .is (.pointer (some ⟨b, 0, none⟩)), .is (.pointer (some ⟨b, 0, none⟩)), .is (.int .i64 0), .is (.pointer (some ⟨b, 0, none⟩)), .is (.pointer (some ⟨b, 0, none⟩)), .is (.pointer (some ⟨b, 16, none⟩)), .is (.int .i64 sq), .is (.pointer (some ⟨b, 0, none⟩)), .is (.int .i64 asn), kC w0 (.agg #[.int .i64 1, .int .i64 asn, .int .i64 rk, .int .i64 0, .slice none 0 0]), kS w0 #[.int .i64 1, .int .i64 asn, .int .i64 rk, .int .i64 0, .slice none 0 0] id, kS w0 #[.int .i64 1, .int .i64 asn, .int .i64 rk, .int .i64 0, .slice none 0 0] (fun y => .agg #[.int .i64 3, .int .i64 0, .int .i64 64, .int .i64 sq, y, .slice none 0 0]), kA w0 37 #[.int .i64 0, .int .i64 0, .int .i64 0, .int .i64 0, .slice none 0 0, .slice none 0 0]] [] (by kernel_rfl) (by kernel_rfl) (by kernel_rfl) rfl (by kernel_rfl) ?_
  iterate 10
    refine kd_is (by rfl) (fun z hz K Q hK => ?_) ?_
    · go_big_op
      exact hK _ _ rfl rfl
    simp only [Act.put, List.setIfInBounds_toArray, List.set_cons_zero, List.set_cons_succ]
  refine kd_grow (by rfl) (fun z hz K Q hK => ?_) (fun x10 => ?_)
  · go_big_op
    refine (PB.out z).mono ?_
    rintro r w' ⟨rfl, b7⟩
    exact hK _ _ ⟨_, z.to w' b7, rfl, rfl, z.to_still w' b7, rfl⟩
  simp only [Act.put, List.setIfInBounds_toArray, List.set_cons_zero, List.set_cons_succ]
  refine kd_grow (by rfl) (fun z hz K Q hK => ?_) (fun x11 => ?_)
  · obtain rfl : x10 = .agg #[.int .i64 1, .int .i64 asn, .int .i64 rk, .int .i64 0, .slice none 0 0] := fact_at hz 10 (iC w0 (.agg #[.int .i64 1, .int .i64 asn, .int .i64 rk, .int .i64 0, .slice none 0 0])) x10 (by kernel_rfl) (by kernel_rfl) (by kernel_rfl)
    have bz := (Below.refl z.toW.heap.size z.toW).alloc (Nat.le_refl _) (.cells #[.int .i64 1, .int .i64 asn, .int .i64 rk, .int .i64 0, .slice none 0 0] 59)
    have oz := Own.new z.toW 59 #[.int .i64 1, .int .i64 asn, .int .i64 rk, .int .i64 0, .slice none 0 0]
    go_big_op
    exact hK _ _ ⟨_, z.to _ bz, rfl, rfl, z.to_still _ bz, _, rfl, z.ok.size, oz⟩
  simp only [Act.put, List.setIfInBounds_toArray, List.set_cons_zero, List.set_cons_succ]
  refine kd_grow (by rfl) (fun z hz K Q hK => ?_) (fun x12 => ?_)
  · obtain ⟨g, rfl, g1, g2⟩ := fact_at hz 11 (iS w0 #[.int .i64 1, .int .i64 asn, .int .i64 rk, .int .i64 0, .slice none 0 0] id) x11 (by kernel_rfl) (by kernel_rfl) (by kernel_rfl)
    go_big_op
    exact hK _ _ ⟨_, z, rfl, rfl, Gw.still.refl z, _, rfl, g1, g2⟩
  simp only [Act.put, List.setIfInBounds_toArray, List.set_cons_zero, List.set_cons_succ]
  refine kd_grow (by rfl) (fun z hz K Q hK => ?_) (fun x13 => ?_)
  · have bz := (Below.refl z.toW.heap.size z.toW).alloc (Nat.le_refl _) (.cells #[.int .i64 0, .int .i64 0, .int .i64 0, .int .i64 0, .slice none 0 0, .slice none 0 0] 37)
    have oz := Own.new z.toW 37 #[.int .i64 0, .int .i64 0, .int .i64 0, .int .i64 0, .slice none 0 0, .slice none 0 0]
    go_big_op
    exact hK _ _ ⟨_, z.to _ bz, rfl, rfl, z.to_still _ bz, _, rfl, z.ok.size, oz⟩
  simp only [Act.put, List.setIfInBounds_toArray, List.set_cons_zero, List.set_cons_succ]
  refine kd_nil (fun z hz => ?_)
  obtain ⟨g, rfl, g1, g2⟩ : iS w0 #[.int .i64 1, .int .i64 asn, .int .i64 rk, .int .i64 0, .slice none 0 0] (fun y => .agg #[.int .i64 3, .int .i64 0, .int .i64 64, .int .i64 sq, y, .slice none 0 0]) x12 z := hz 12 (.of (iS w0 #[.int .i64 1, .int .i64 asn, .int .i64 rk, .int .i64 0, .slice none 0 0] (fun y => .agg #[.int .i64 3, .int .i64 0, .int .i64 64, .int .i64 sq, y, .slice none 0 0]))) x12 (by kernel_rfl) (fun _ _ => rfl)
  obtain ⟨fb, rfl, k1, k2⟩ : iA w0 37 #[.int .i64 0, .int .i64 0, .int .i64 0, .int .i64 0, .slice none 0 0, .slice none 0 0] x13 z := hz 13 (.of (iA w0 37 #[.int .i64 0, .int .i64 0, .int .i64 0, .int .i64 0, .slice none 0 0, .slice none 0 0])) x13 (by kernel_rfl) (fun _ _ => rfl)
  rw [if_pos (by rfl)]
  have hth : z.toW.there fb 0 6 := fun j hj => ⟨by
    rw [Nat.zero_add, k2.cell, Array.getElem?_eq_getElem (by simpa using hj)]
    rfl, k2.free _⟩
  have jN := just_cells fb [.int .i64 3, .int .i64 0, .int .i64 64, .int .i64 sq, .slice (some ⟨g, 0, none⟩) 1 1, .slice none 0 0] 0 z.toW
  have oC : Own (z.toW.setCells fb 0 [.int .i64 3, .int .i64 0, .int .i64 64, .int .i64 sq, .slice (some ⟨g, 0, none⟩) 1 1, .slice none 0 0]) fb 37 #[.int .i64 3, .int .i64 0, .int .i64 64, .int .i64 sq, .slice (some ⟨g, 0, none⟩) 1 1, .slice none 0 0] := (((((k2.put 0 _).put 1 _).put 2 _).put 3 _).put 4 _).put 5 _
  have hgf : g ≠ fb := fun e => by
    subst e
    have := own_tid g2 k2
    revert this
    decide
  have oG := jN.own g2 hgf
  have bel2 := jN.below z.ok k1 z.ok.size
  have hgl := g1
  have hxl := o0.lt
  have oR := jN.own (below_own z.ok o0 o0.lt) (show xb ≠ fb by omega)
  refine wp_store_mid 37 (.tmp 5) (.tmp 23) rfl fb 0 #[.int .i64 3, .int .i64 0, .int .i64 64, .int .i64 sq, .slice (some ⟨g, 0, none⟩) 1 1, .slice none 0 0] rfl rfl hth (by kernel_rfl) (by simp [Value.oneCell']) ?_
  rw [List.toList_toArray]
  clear hth jN g2 k2 hz PB c0 c1
  generalize z.toW.setCells fb 0 [.int .i64 3, .int .i64 0, .int .i64 64, .int .i64 sq, .slice (some ⟨g, 0, none⟩) 1 1, .slice none 0 0] = w2 at *
  have n2 := HN.out.below bel2
  have c40 : w2.cell? ⟨b, 40, none⟩ = some (.pointer (some ⟨h.sb, 0, none⟩)) := by rw [n2.c_sb, HR.out.1]; rfl
  have c11 := n2.c_qb
  have c0 : w2.cell? ⟨b, 0, none⟩ = some (.int .i64 0) := by rw [n2.c_id, HI.out]
  have PF : Calls Tryz.prog 92 #[.pointer (some ⟨h.sb, 0, none⟩)] w2 fun r w' => r = .returned (.tuple #[.int .i64 0, .bool false]) ∧ w2 = w' := by
    have := Pa.fst_any 0 h.sb s.id s.rk s.set h.sv w2 (n2.set HR.out.1)
    rw [HR.out.2.1] at this
    exact this
  have PA : Calls Tryz.prog 129 #[.pointer (some ⟨h.qb, 0, none⟩), .int .i64 0] w2 fun r w' => r = .returned (.tuple #[.slice none 0 0, .bool false]) ∧ w2 = w' := by
    obtain ⟨l, hl, hk⟩ := n2.que
    rw [HQ.out] at hk
    obtain rfl := List.map_eq_nil_iff.1 hk
    exact Qu.at_no 0 h.qb s.c.queue s.lost [] h.qv 0 w2 hl (by simp)
  have HN2 := Lib.hid n2
  clear n2
  go_wp2_with fail
  refine PF.mono ?_
  rintro r w' ⟨rfl, rfl⟩
  go_wp2_with fail
  refine PA.mono ?_
  rintro r w' ⟨rfl, rfl⟩
  clear PF PA c40 c11
  go_upto_region 14 with (fail)
  clear c0
  obtain ⟨ha, hha⟩ : ∃ q, h.ha = q := ⟨_, rfl⟩
  obtain ⟨hc, hhc⟩ : ∃ q, h.hc = q := ⟨_, rfl⟩
  obtain ⟨hl, hhl⟩ : ∃ q, s.c.hops.length = q := ⟨_, rfl⟩
  have d3 : ∀ z : Gw w2, z.toW.cell? ⟨b, 3, none⟩ = some (.slice ha hl hc) := fun z => by rw [(HN2.out.below z.ok).c_hops, hha, hhc, hhl]
  have d4 : ∀ z : Gw w2, z.toW.cell? ⟨fb, 4, none⟩ = some (.slice (some ⟨g, 0, none⟩) 1 1) := fun z => (below_own z.ok oC oC.lt).cell 4
  have f4 : ∀ z : Gw w2, z.toW.frozen? ⟨fb, 4, none⟩ = false := fun z => (below_own z.ok oC oC.lt).free 4
  have OG : Hid (∀ z : Gw w2, Own z.toW g 59 #[.int .i64 1, .int .i64 asn, .int .i64 rk, .int .i64 0, .slice none 0 0]) := Lib.hid (fun z => below_own z.ok oG oG.lt)
  have HH := Lib.hid (And.intro hha (And.intro hhc hhl))
  clear hha hhc hhl
  apply wp_tail_start
  case hl => repeat (first | exact Snoc.one _ | apply Snoc.cons)
  refine wp_region_tail w2 (Below.refl _ _) [.is (.pointer (some ⟨fb, 4, none⟩)), .is (.slice (some ⟨g, 0, none⟩) 1 1), .is (.pointer (some ⟨b, 0, none⟩)), .is (.pointer (some ⟨b, 0, none⟩)), .is (.pointer (some ⟨b, 1, none⟩)), .is (.pointer (some ⟨b, 3, none⟩)), .is (.slice ha hl hc), .is (.agg #[.int .i64 3, .int .i64 0, .int .i64 0, .int .i64 0, .slice ha hl hc]), kS w2 #[.int .i64 3, .int .i64 0, .int .i64 0, .int .i64 0, .slice ha hl hc] id, kP w2 #[.int .i64 1, .int .i64 asn, .int .i64 rk, .int .i64 0, .slice none 0 0, .int .i64 3, .int .i64 0, .int .i64 0, .int .i64 0, .slice ha hl hc], .is (.pointer (some ⟨fb, 4, none⟩))] [] (by kernel_rfl) (by kernel_rfl) (by kernel_rfl) rfl (by kernel_rfl) ?_
  iterate 8
    refine kd_is (by rfl) (fun z hz K Q hK => ?_) ?_
    · go_big_op
      exact hK _ _ rfl rfl
    simp only [Act.put, List.setIfInBounds_toArray, List.set_cons_zero, List.set_cons_succ]
  refine kd_grow (by rfl) (fun z hz K Q hK => ?_) (fun x8 => ?_)
  · have bz := (Below.refl z.toW.heap.size z.toW).alloc (Nat.le_refl _) (.cells #[.int .i64 3, .int .i64 0, .int .i64 0, .int .i64 0, .slice ha hl hc] 59)
    have oz := Own.new z.toW 59 #[.int .i64 3, .int .i64 0, .int .i64 0, .int .i64 0, .slice ha hl hc]
    go_big_op
    exact hK _ _ ⟨_, z.to _ bz, rfl, rfl, z.to_still _ bz, _, rfl, z.ok.size, oz⟩
  simp only [Act.put, List.setIfInBounds_toArray, List.set_cons_zero, List.set_cons_succ]
  refine kd_grow (by rfl) (fun z hz K Q hK => ?_) (fun x9 => ?_)
  · obtain ⟨g3, rfl, e1, e2⟩ := fact_at hz 8 (iS w2 #[.int .i64 3, .int .i64 0, .int .i64 0, .int .i64 0, .slice ha hl hc] id) x8 (by kernel_rfl) (by kernel_rfl) (by kernel_rfl)
    obtain ⟨cc, w', hr, q1, q2, q3, q4, q5⟩ := app_full 34 z.toW g g3 #[.int .i64 1, .int .i64 asn, .int .i64 rk, .int .i64 0, .slice none 0 0] #[.int .i64 3, .int .i64 0, .int .i64 0, .int .i64 0, .slice ha hl hc] (OG.out z) e2 rfl rfl
    have e12 : ((#[.int .i64 1, .int .i64 asn, .int .i64 rk, .int .i64 0, .slice none 0 0] : Array Value) ++ (#[.int .i64 3, .int .i64 0, .int .i64 0, .int .i64 0, .slice ha hl hc] : Array Value)) = #[.int .i64 1, .int .i64 asn, .int .i64 rk, .int .i64 0, .slice none 0 0, .int .i64 3, .int .i64 0, .int .i64 0, .int .i64 0, .slice ha hl hc] := by simp
    rw [e12] at q3
    refine op_app (.tmp 82) (.tmp 89) 34 rfl _ _ _ w' rfl rfl hr ?_
    exact hK _ _ ⟨_, z.to w' q5, rfl, rfl, z.to_still w' q5, _, _, rfl, q1, q2, z.ok.size, q4, q3⟩
  simp only [Act.put, List.setIfInBounds_toArray, List.set_cons_zero, List.set_cons_succ]
  iterate 1
    refine kd_is (by rfl) (fun z hz K Q hK => ?_) ?_
    · go_big_op
      exact hK _ _ rfl rfl
    simp only [Act.put, List.setIfInBounds_toArray, List.set_cons_zero, List.set_cons_succ]
  refine kd_nil (fun z hz => ?_)
  obtain ⟨gg, cc, rfl, q1, q2, q3, q4, q5⟩ : iP w2 #[.int .i64 1, .int .i64 asn, .int .i64 rk, .int .i64 0, .slice none 0 0, .int .i64 3, .int .i64 0, .int .i64 0, .int .i64 0, .slice ha hl hc] x9 z := hz 9 (.of (iP w2 #[.int .i64 1, .int .i64 asn, .int .i64 rk, .int .i64 0, .slice none 0 0, .int .i64 3, .int .i64 0, .int .i64 0, .int .i64 0, .slice ha hl hc])) x9 (by kernel_rfl) (fun _ _ => rfl)
  rw [if_pos (by rfl)]
  have hcl := oC.lt
  have oC3 := below_own z.ok oC hcl
  have oR3 := below_own z.ok oR oR.lt
  have d5 : z.toW.cell? ⟨fb, 4, none⟩ = some (.slice (some ⟨g, 0, none⟩) 1 1) := oC3.cell 4
  have f5 : z.toW.frozen? ⟨fb, 4, none⟩ = false := oC3.free 4
  have oC4 : Own (z.toW.setCell ⟨fb, 4, none⟩ (.slice (some ⟨gg, 0, none⟩) 2 cc)) fb 37 #[.int .i64 3, .int .i64 0, .int .i64 64, .int .i64 sq, .slice (some ⟨gg, 0, none⟩) 2 cc, .slice none 0 0] := oC3.put 4 _
  have j4 := Just.set fb z.toW 4 (.slice (some ⟨gg, 0, none⟩) 2 cc)
  have hgx := oR.lt
  have oR4 := j4.own oR3 (show xb ≠ fb by omega)
  have b24 : Below w0.heap.size w0 (z.toW.setCell ⟨fb, 4, none⟩ (.slice (some ⟨gg, 0, none⟩) 2 cc)) := j4.below (bel2.trans (z.ok.mono bel2.size)) k1 (bel2.trans (z.ok.mono bel2.size)).size
  have hgg : ∀ k, k < 10 → (z.toW.setCell ⟨fb, 4, none⟩ (.slice (some ⟨gg, 0, none⟩) 2 cc)).cell? ⟨gg, k, none⟩ = (#[.int .i64 1, .int .i64 asn, .int .i64 rk, .int .i64 0, .slice none 0 0, .int .i64 3, .int .i64 0, .int .i64 0, .int .i64 0, .slice ha hl hc] : Array Value)[k]? := fun k hk => by
    rw [← q5 k hk]
    have e := j4.block gg q4 (show gg ≠ fb by omega)
    simp only [World.cell?, e]
  have hgl2 : gg < (z.toW.setCell ⟨fb, 4, none⟩ (.slice (some ⟨gg, 0, none⟩) 2 cc)).heap.size := Nat.lt_of_lt_of_le q4 j4.size
  clear hz OG d3 d4 f4 q4 q5
  go_big_op
  clear d5 f5
  generalize z.toW.setCell ⟨fb, 4, none⟩ (.slice (some ⟨gg, 0, none⟩) 2 cc) = w4 at *
  go_upto_region 15 with (fail)
  refine wp_row_out rfl rfl rfl rfl rfl oC4 Tryz.underlying37 rfl (by kernel_rfl) rfl rfl oR4 (by kernel_rfl) rfl (by simp [Value.oneCell']) ?_
  have jR := Just.setRow xb w4 #[.int .i64 3, .int .i64 0, .int .i64 64, .int .i64 sq, .slice (some ⟨gg, 0, none⟩) 2 cc, .slice none 0 0]
  go_wp2_with fail
  refine bodyPost_ret (results_cell_row rfl _ _ xb 37 _ (0, 0) _ rfl (oR4.setRow _) Tryz.underlying37 rfl (by kernel_rfl)) rfl ?_
  have bel4 : Below xb w (w4.setRow xb #[.int .i64 3, .int .i64 0, .int .i64 64, .int .i64 sq, .slice (some ⟨gg, 0, none⟩) 2 cc, .slice none 0 0]) := jR.below (by rw [← HXB.out]; exact HB.out.trans (b24.mono HB.out.size)) (Nat.le_refl _) (by have := HB.out.size; have := b24.size; have := HXB.out; omega)
  have j5 : ∀ k, k < 10 → (w4.setRow xb #[.int .i64 3, .int .i64 0, .int .i64 64, .int .i64 sq, .slice (some ⟨gg, 0, none⟩) 2 cc, .slice none 0 0]).cell? ⟨gg, k, none⟩ = (#[.int .i64 1, .int .i64 asn, .int .i64 rk, .int .i64 0, .slice none 0 0, .int .i64 3, .int .i64 0, .int .i64 0, .int .i64 0, .slice ha hl hc] : Array Value)[k]? := fun k hk => by
    rw [← hgg k hk]
    have e := jR.block gg hgl2 (show gg ≠ xb by omega)
    simp only [World.cell?, e]
  obtain ⟨k1, k2, k3⟩ := HH.out
  subst k1 k2
  refine ⟨⟨3, 0, 64, sq, [⟨⟨1, asn, rk, 0, []⟩, none, 0⟩, ⟨⟨3, 0, 0, 0, s.c.hops⟩, h.ha, h.hc⟩], some ⟨gg, 0, none⟩, cc, [], none, 0⟩, rfl, ⟨⟨q1, q2, fun _ => ⟨gg, 0, rfl, Nat.lt_of_lt_of_le hgl2 jR.size, fun i hi => ?_⟩, fun k hk => ?_⟩, Nat.le_refl _, by unfold maxLen; dsimp only; omega, Row.nil _ _ _, fun j hj => by cases hj⟩, ?_, ?_⟩
  · rw [Nat.zero_add, j5 i hi]
    rcases (show i = 0 ∨ i = 1 ∨ i = 2 ∨ i = 3 ∨ i = 4 ∨ i = 5 ∨ i = 6 ∨ i = 7 ∨ i = 8 ∨ i = 9 by have : i < 10 := hi; omega) with rfl | rfl | rfl | rfl | rfl | rfl | rfl | rfl | rfl | rfl
    all_goals first | rfl | (rw [← k3]; rfl)
  · rcases (show k = 0 ∨ k = 1 by have : k < 2 := hk; omega) with rfl | rfl
    · exact ⟨Nat.le_refl _, Nat.zero_le _, Row.nil _ _ _, fun _ => rfl⟩
    · have mm : Mine (w4.setRow xb #[.int .i64 3, .int .i64 0, .int .i64 64, .int .i64 sq, .slice (some ⟨gg, 0, none⟩) 2 cc, .slice none 0 0]) 0 3 (.slice h.ha s.c.hops.length h.hc) s.c.hops.length (zv s.c.hops) := (HNW.out.below (by rw [HXB.out]; exact bel4)).hops
      obtain ⟨e1, e2, e3, e4⟩ := mine_at mm
      exact ⟨e1, e2, e3, e4⟩
  · unfold nextF0
    rw [HSQ.out, HRK.out]
    rfl
  · rw [HXB.out]
    exact bel4
end Go.Proofs.YtiflmdekcjbmbaaGreat.Nd
