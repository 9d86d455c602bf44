/-
  The reference of packets (chapter 19): EncodePacket.
-/
import Derived.Test.YtcpmnfoenpdaeaaRtRMay
import Derived.Test.YtcpmnfoenpdaeaaRtEnc
import Derived.Test.YtcpmnfoenpdaeaaBytesRef
import Derived.Test.YtcpmnfoenpdaeaaTyGrow
set_option maxRecDepth 100000
namespace Go.Proofs.Ytcpmnfoenpdaeaa.Rt
set_option linter.unusedVariables false
open Go.RowKit Lb Go.Shelf Bf

theorem info8' : (Try.prog.info? 5).map (fun i => (i.zero, i.size, i.bytes)) = some (some (.int .u8 0), 1, 1) := by kernel_rfl
/-- The slice at a reads as these bytes. -/
structure Bs (w : World) (a : Option Addr) (c : Nat) (l : List Int) : Prop where
  le : l.length ≤ c
  cap : c ≤ maxLen
  row : Row w a l.length (bval l)
theorem Bs.below {w w' : World} {a : Option Addr} {c : Nat} {l : List Int} (h : Bs w a c l) (j : Below w.heap.size w w') : Bs w' a c l := ⟨h.le, h.cap, h.row.below j⟩
theorem b6_octet (x : Int) (h : 0 ≤ x) (i : Nat) (hi : i < 6) : octet x 6 i = (bytesK x.toNat 6).getD i 0 := by
  rw [bytesK_at _ _ _ hi]
  unfold octet
  obtain ⟨n, rfl⟩ : ∃ n : Nat, x = (n : Int) := ⟨x.toNat, by omega⟩
  rw [Int.toNat_natCast, Nat.shiftRight_eq_div_pow]
  push_cast
  rfl
theorem rb6_any (x : Int) (w : World) (h : 0 ≤ x) : Calls Try.prog 32 #[.int .u64 x, .int .i64 6] w fun r w' => ∃ a c, r = .returned (.slice a 6 c) ∧ 6 ≤ c ∧ c ≤ maxLen ∧ Row w' a 6 (bval (bytesK x.toNat 6)) ∧ Below w.heap.size w w' := by
  refine (bytes_any x 6 w h (by decide)).mono ?_
  rintro r w' ⟨v, rfl, hm, b⟩
  obtain ⟨a, c, rfl, h1, h2, h3⟩ := hm.row
  exact ⟨a, c, rfl, h1, h2, fun h0 => by
    obtain ⟨b1, o1, e1, e2, e3⟩ := h3 h0
    exact ⟨b1, o1, e1, e2, fun i hi => by rw [e3 i hi]; unfold bval; rw [← b6_octet x h i hi]⟩, b⟩
def joinL (Ls : Nat → List Int) : Nat → List Int
  | 0 => []
  | k + 1 => joinL Ls k ++ Ls k
theorem joinL_len {Ls : Nat → List Int} {m : Nat} (h : ∀ j, (Ls j).length ≤ m) : ∀ k, (joinL Ls k).length ≤ k * m
  | 0 => by simp [joinL]
  | k + 1 => by
    have := h k
    rw [joinL, List.length_append, Nat.succ_mul]
    exact Nat.add_le_add (joinL_len h k) this
set_option maxHeartbeats 1000000 in
theorem rjoin_mine (A : Option Addr) (k cc : Nat) (av : Nat → Option Addr) (cs : Nat → Nat) (Ls : Nat → List Int) (w : World) (hk : k ≤ 8) (hl : ∀ j, (Ls j).length ≤ 1000) (hR : Row w A k (fun j => .slice (av j) (Ls j).length (cs j))) (hB : ∀ j, j < k → Bs w (av j) (cs j) (Ls j)) :
    Calls Try.prog 31 #[.slice A k cc] w fun r w' => ∃ v, r = .returned v ∧ Mine w' w.heap.size 5 v (joinL Ls k).length (bval (joinL Ls k)) ∧ Below w.heap.size w w' := by
  obtain ⟨i0, hi0, hz0, hz1, hz2⟩ := info_parts info8'
  have hk63 : (k : Int) ≤ 9223372036854775807 := by omega
  have HJ := Lib.hid (joinL_len hl)
  go_enter Try.func31, Try.ntmps31
  go_wp2_with fail
  go_loopw [3, 8] (fun u i wr => ∃ (j : Nat) (v : Value), u = v ∧ j ≤ k ∧ i = .int .i64 (j : Int) ∧ Mine wr w.heap.size 5 v (joinL Ls j).length (bval (joinL Ls j)) ∧ Below w.heap.size w wr) (fun _ i _ => k - (intOf i).toNat)
  case atStart => exact ⟨0, _, rfl, Nat.zero_le _, by simp, Mine.nil _ _ _ _, Below.refl _ _⟩
  case round =>
    obtain ⟨j, v, rfl, hj, rfl, hv, bb⟩ := hrel
    by_cases hlt : j < k
    · have hs := bb.size
      have hn1 := hl j
      have hm : (joinL Ls j).length + (Ls j).length ≤ maxLen := by
        have t1 := HJ.out j
        have t2 : j * 1000 ≤ 8 * 1000 := Nat.mul_le_mul_right _ (by omega)
        unfold maxLen
        omega
      have hmj8 : (joinL Ls j).length ≤ 8000 := by
        have t1 := HJ.out j
        have t2 : j * 1000 ≤ 8 * 1000 := Nat.mul_le_mul_right _ (by omega)
        omega
      have Hm := Lib.hid hm
      have hrow := ((hB j hlt).below bb).row
      have hca := (hB j hlt).cap
      have hle := (hB j hlt).le
      unfold maxLen at hca
      obtain ⟨rb, ro, rfl, hrb, hrc⟩ := (hR.below bb) (by omega)
      have c0 : wr.cell? ⟨rb, ro + j, none⟩ = some (.slice (av j) (Ls j).length (cs j)) := hrc j hlt
      obtain ⟨nj, hnj⟩ : ∃ n, (Ls j).length = n := ⟨_, rfl⟩
      obtain ⟨mj, hmj⟩ : ∃ n, (joinL Ls j).length = n := ⟨_, rfl⟩
      have HNJ := Lib.hid hnj
      have HMJ := Lib.hid hmj
      rw [hnj] at c0 hrow hle hn1 Hm
      rw [hmj] at hv Hm hmj8
      have hn63 : (nj : Int) ≤ 9223372036854775807 := by omega
      have hc63 : (cs j : Int) ≤ 9223372036854775807 := by omega
      clear hm hrc hR hB hl hnj hmj
      go_wp2_with (at_builtin; go_must (refine wp_app_at rfl (.tmp 12) (.tmp 13) _ rfl w.heap.size 5 i0 _ 1 Try.underlying23 hi0 hz0 hz1 hz2 rfl _ mj (bval (joinL Ls j)) rfl hv _ nj _ (bval (Ls j)) rfl hrow (fun _ _ => rfl) Hm.out ?c2 hs ?_))
      case c2 => omega
      intro v' w2 hv2 hg _
      have b2 : Below w.heap.size w w2 := bb.grown hg hs (fun q hq => (hv.lt q hq).1)
      have hv3 : Mine w2 w.heap.size 5 v' (joinL Ls (j + 1)).length (bval (joinL Ls (j + 1))) := by
        rw [joinL, List.length_append, HNJ.out, HMJ.out]
        refine hv2.ext (fun q hq => ?_)
        unfold bval
        by_cases h : q < mj
        · rw [if_pos h, List.getD_eq_getElem?_getD, List.getD_eq_getElem?_getD, List.getElem?_append_left (by rw [HMJ.out]; exact h)]
        · rw [if_neg h, List.getD_eq_getElem?_getD, List.getD_eq_getElem?_getD, List.getElem?_append_right (by rw [HMJ.out]; omega), HMJ.out]
      clear hv hv2 hg c0 hrow
      go_wp2_with fail
      exact ⟨⟨j + 1, _, rfl, by omega, by simp, hv3, b2⟩, by simp [intOf]; omega⟩
    · obtain rfl : j = k := by omega
      have HV := Lib.hid hv
      obtain ⟨a, c, rfl, h1, h2, h3⟩ := hv.row
      obtain ⟨mj, hmj⟩ : ∃ n, (joinL Ls j).length = n := ⟨_, rfl⟩
      have HMJ := Lib.hid hmj
      rw [hmj] at h1 h3 ⊢
      unfold maxLen at h2
      have hn63 : (mj : Int) ≤ 9223372036854775807 := by omega
      have hc63 : (c : Int) ≤ 9223372036854775807 := by omega
      clear hl hmj hR hB hv
      go_wp2_with fail
      go_ret
      exact ⟨.slice a mj c, rfl, by have := HV.out; rw [HMJ.out] at this ⊢; exact this, bb⟩
def triP (v : World) (x1 x2 x3 : List Int) (y : Value) (s : Gw v) : Prop := ∃ A a1 a2 a3 c1 c2 c3, y = .slice (some A) 3 3 ∧ Row s.toW (some A) 3 (fun j => .slice (if j = 0 then a1 else if j = 1 then a2 else a3) ((fun j => if j = 0 then x1 else if j = 1 then x2 else x3) j).length (if j = 0 then c1 else if j = 1 then c2 else c3)) ∧ Bs s.toW a1 c1 x1 ∧ Bs s.toW a2 c2 x2 ∧ Bs s.toW a3 c3 x3
theorem triP_still (v : World) (x1 x2 x3 : List Int) (y : Value) (s s' : Gw v) (h : s.still s') (hx : triP v x1 x2 x3 y s) : triP v x1 x2 x3 y s' := by
  obtain ⟨A, a1, a2, a3, c1, c2, c3, rfl, h1, h2, h3, h4⟩ := hx
  exact ⟨A, a1, a2, a3, c1, c2, c3, rfl, h1.below h.below, h2.below h.below, h3.below h.below, h4.below h.below⟩
def triK (v : World) (x1 x2 x3 : List Int) : Kd v := .grow (triP v x1 x2 x3) (triP_still v x1 x2 x3)
/-- A row of one's own, where nothing grows. -/
def mineP (v : World) (n : Nat) (V : Nat → Value) (x : Value) (s : Gw v) : Prop := Mine s.toW v.heap.size 5 x n V
theorem mineP_still (v : World) (n : Nat) (V : Nat → Value) (x : Value) (s s' : Gw v) (h : s.still s') (hx : mineP v n V x s) : mineP v n V x s' :=
  hx.kept (fun b _ => by
    rcases Nat.lt_or_ge b s.toW.heap.size with hb | hb
    · exact .inl (h.below.block b hb)
    · exact .inr (fun e => by have := (hx.lt b e).2; omega))
def mineK (v : World) (n : Nat) (V : Nat → Value) : Kd v := .grow (mineP v n V) (mineP_still v n V)
theorem getD_append_right {l m : List Int} {i : Nat} (h : l.length ≤ i) : (l ++ m).getD i 0 = m.getD (i - l.length) 0 := by
  rw [getD_app, if_neg (by omega)]
theorem getD_append_left {l m : List Int} {i : Nat} (h : i < l.length) : (l ++ m).getD i 0 = l.getD i 0 := by
  rw [getD_app, if_pos h]
theorem tri_head (p : Pk) : joinL (fun j => if j = 0 then [p.f, p.t] else if j = 1 then bytesK p.n.toNat 6 else [p.life, (p.path.length : Int)]) 3 = encH p := by
  unfold joinL joinL joinL joinL encH
  simp
theorem tri_enc (p : Pk) : joinL (fun j => if j = 0 then encH p ++ p.path else if j = 1 then [(p.data.length : Int)] else p.data) 3 = encB p := by
  unfold joinL joinL joinL joinL encB
  simp
def encO (p : Pk) : List Int := if mayK p = true then encB p else []
def encC (p : Pk) : Int := if mayK p = true then 0 else 1
set_option maxHeartbeats 4000000 in
theorem renc_any (p : Pk) (a : Option Addr) (c : Nat) (b : Option Addr) (d : Nat) (w : World) (h : p.At w a c b d) (hB : ∀ x, x ∈ p.data → 0 ≤ x ∧ x < 256) :
    Calls Try.prog 12 #[.agg (p.vals a c b d)] w fun r w' => ∃ a c, r = .returned (.tuple #[.slice a (encO p).length c, .int .i64 (encC p)]) ∧ Bs w' a c (encO p) ∧ Below w.heap.size w w' := by
  have q1 := Own.new w 25 (p.vals a c b d)
  have b0 := (Below.refl w.heap.size w).alloc (Nat.le_refl _) (.cells (p.vals a c b d) 25)
  have hA := h.below b0
  have PM := rmay_any p a c b d _ hA
  have HTH := Lib.hid (tri_head p)
  have HTE := Lib.hid (tri_enc p)
  have HAL := Lib.hid (fun q => @mayK_all p q)
  have HAA := Lib.hid hA
  obtain ⟨pc, pm, _, _, dc, dm, _, _⟩ := hA
  have HO : Hid (∀ m, mayK p = m → encO p = (if m = true then encB p else []) ∧ encC p = if m = true then 0 else 1) := Lib.hid (fun m e => by unfold encO encC; rw [e]; exact ⟨rfl, rfl⟩)
  have HBY := Lib.hid hB
  obtain ⟨np, hnp⟩ : ∃ n, p.path.length = n := ⟨_, rfl⟩
  obtain ⟨nd, hnd⟩ : ∃ n, p.data.length = n := ⟨_, rfl⟩
  have HNP := Lib.hid hnp
  have HND := Lib.hid hnd
  have HA0 := Lib.hid h
  obtain ⟨pf, pt, pn, pl, pp, pd⟩ := p
  dsimp only at hnp hnd
  unfold Pk.vals at *
  dsimp only at *
  rw [hnp, hnd] at q1 b0 PM
  rw [hnp] at pc
  rw [hnd] at dc
  unfold maxLen at pm dm
  have e1 : (np : Int) ≤ 9223372036854775807 := by omega
  have e2 : (nd : Int) ≤ 9223372036854775807 := by omega
  have e3 : (c : Int) ≤ 9223372036854775807 := by omega
  have e4 : (d : Int) ≤ 9223372036854775807 := by omega
  rw [hnp, hnd]
  rw [hnp, hnd] at HAA
  clear hnp hnd hB h
  go_enter Try.func12, Try.ntmps12
  go_upto_region 1 with (fail)
  obtain ⟨h, hh⟩ : ∃ h, w.heap.size = h := ⟨_, rfl⟩
  have HH := Lib.hid hh
  rw [hh] at q1 b0 ⊢
  generalize w.alloc (.cells #[.int .i64 pf, .int .i64 pt, .int .i64 pn, .int .i64 pl, .slice a np c, .slice b nd d] 25) = w1 at *
  clear hh
  have c0 := q1.cell 0
  have c1 := q1.cell 1
  have c2 := q1.cell 2
  have c3 := q1.cell 3
  have c4 := q1.cell 4
  have c5 := q1.cell 5
  cases hm : mayK ⟨pf, pt, pn, pl, pp, pd⟩ with
  | false =>
    rw [hm] at PM
    have HOO := Lib.hid (HO.out _ hm)
    clear hm
    go_wp2_with fail
    refine PM.mono ?_
    rintro r w2 ⟨rfl, b2⟩
    have B2 := Lib.hid (b0.trans (b2.mono (by have := q1.lt; omega)))
    clear b2 c0 c1 c2 c3 c4 c5
    go_wp2_with fail
    go_ret2
    exact ⟨none, 0, by rw [HOO.out.1, HOO.out.2]; rfl, by rw [HOO.out.1]; exact ⟨Nat.le_refl _, by decide, Row.nil _ _ _⟩, by rw [HH.out]; exact B2.out⟩
  | true =>
    rw [hm] at PM
    have HOO : Hid (encO ⟨pf, pt, pn, pl, pp, pd⟩ = encB ⟨pf, pt, pn, pl, pp, pd⟩ ∧ encC ⟨pf, pt, pn, pl, pp, pd⟩ = 0) := Lib.hid (by have := HO.out _ hm; simpa using this)
    obtain ⟨⟨f0, f1⟩, ⟨t0, t1⟩, _, ⟨n0, n1⟩, ⟨l0, l1⟩, hok, hd1, hd2⟩ := HAL.out hm
    have hp16 := (okP_out hok).1
    try dsimp only at f0 f1 t0 t1 n0 n1 l0 l1 hok hd1 hd2 hp16
    have HND2 := HND.out
    have HNP2 := HNP.out
    try dsimp only at HND2 HNP2
    rw [HND2] at hd1 hd2
    rw [HNP2] at hp16
    have HOK := Lib.hid hok
    clear hm HAL hok HND2 HNP2
    go_wp2_with fail
    refine PM.mono ?_
    rintro r w2 ⟨rfl, b2⟩
    have hs1 : h ≤ w1.heap.size := by have := q1.lt; omega
    have B2 := Lib.hid (b0.trans (b2.mono hs1))
    have A2 := Lib.hid (HAA.out.below b2)
    have q2 := below_own b2 q1 q1.lt
    have hs2 := Nat.le_trans hs1 b2.size
    clear b2 c0 c1 c2 c3 c4 c5 q1 b0 PM HAA hs1
    have d0 : ∀ z : Gw w2, z.toW.cell? ⟨h, 0, none⟩ = some (.int .i64 pf) := fun z => (z.ok.cell q2.lt).trans (q2.cell 0)
    have d1 : ∀ z : Gw w2, z.toW.cell? ⟨h, 1, none⟩ = some (.int .i64 pt) := fun z => (z.ok.cell q2.lt).trans (q2.cell 1)
    have d2 : ∀ z : Gw w2, z.toW.cell? ⟨h, 2, none⟩ = some (.int .i64 pn) := fun z => (z.ok.cell q2.lt).trans (q2.cell 2)
    have d3 : ∀ z : Gw w2, z.toW.cell? ⟨h, 3, none⟩ = some (.int .i64 pl) := fun z => (z.ok.cell q2.lt).trans (q2.cell 3)
    have d4 : ∀ z : Gw w2, z.toW.cell? ⟨h, 4, none⟩ = some (.slice a np c) := fun z => (z.ok.cell q2.lt).trans (q2.cell 4)
    have u1 : IntKind.u8.wrap pf = pf := by rw [IntKind.wrap_u8]; omega
    have u2 : IntKind.u8.wrap pt = pt := by rw [IntKind.wrap_u8]; omega
    have u3 : IntKind.u64.wrap pn = pn := by rw [IntKind.wrap_u64]; omega
    have u4 : IntKind.u8.wrap pl = pl := by rw [IntKind.wrap_u8]; omega
    have u5 : IntKind.u8.wrap (np : Int) = (np : Int) := by rw [IntKind.wrap_u8]; omega
    have HQ2 := Lib.hid q2
    clear q2
    go_wp2_with fail
    refine wp_region_grow w2 (Below.refl _ _) [.is (.pointer (some ⟨h, 0, none⟩)), .is (.int .i64 pf), .is (.int .u8 pf), .is (.pointer (some ⟨h, 1, none⟩)), .is (.int .i64 pt), .is (.int .u8 pt), .rows w2 2 (bval [pf, pt]), .is (.pointer (some ⟨h, 2, none⟩)), .is (.int .i64 pn), .is (.int .u64 pn), .rows w2 6 (bval (bytesK pn.toNat 6)), .is (.pointer (some ⟨h, 3, none⟩)), .is (.int .i64 pl), .is (.int .u8 pl), .is (.pointer (some ⟨h, 4, none⟩)), .is (.slice a np c), .is (.int .i64 (np : Int)), .is (.int .u8 (np : Int)), .rows w2 2 (bval [pl, (np : Int)]), triK w2 [pf, pt] (bytesK pn.toNat 6) [pl, (np : Int)], mineK w2 10 (bval (encH ⟨pf, pt, pn, pl, pp, pd⟩)), mineK w2 10 (bval (encH ⟨pf, pt, pn, pl, pp, pd⟩))] [] (by kernel_rfl) (by kernel_rfl) rfl (by kernel_rfl) ?_
    iterate 6
      refine kd_is (by rfl) (fun z hz K Q hK => ?_) ?_
      · go_big_op
        exact hK _ _ rfl rfl
      simp only [Act.put, List.setIfInBounds_toArray, List.set_cons_zero, List.set_cons_succ]
    refine kd_grow (by rfl) (fun z hz K Q hK => ?_) (fun x6 => ?_)
    · go_big_op
      exact hK _ _ ⟨_, z.to _ ((Below.refl _ _).alloc (Nat.le_refl _) (.cells #[.int .u8 pf, .int .u8 pt] 5)), rfl, rfl, z.to_still _ _, some ⟨z.toW.heap.size, 0, none⟩, 2, rfl, Nat.le_refl _, by decide, row_new _ _ _ _ (fun i hi => by rcases (show i = 0 ∨ i = 1 by omega) with rfl | rfl <;> rfl)⟩
    simp only [Act.put, List.setIfInBounds_toArray, List.set_cons_zero, List.set_cons_succ]
    iterate 3
      refine kd_is (by rfl) (fun z hz K Q hK => ?_) ?_
      · go_big_op
        exact hK _ _ rfl rfl
      simp only [Act.put, List.setIfInBounds_toArray, List.set_cons_zero, List.set_cons_succ]
    refine kd_grow (by rfl) (fun z hz K Q hK => ?_) (fun x10 => ?_)
    · go_big_op
      refine (rb6_any pn z.toW n0).mono ?_
      rintro e w3 ⟨a, c, rfl, k1, k2, k3, bb⟩
      exact hK _ _ ⟨_, z.to w3 bb, rfl, rfl, z.to_still w3 bb, a, c, rfl, k1, k2, k3⟩
    simp only [Act.put, List.setIfInBounds_toArray, List.set_cons_zero, List.set_cons_succ]
    iterate 7
      refine kd_is (by rfl) (fun z hz K Q hK => ?_) ?_
      · go_big_op
        exact hK _ _ rfl rfl
      simp only [Act.put, List.setIfInBounds_toArray, List.set_cons_zero, List.set_cons_succ]
    refine kd_grow (by rfl) (fun z hz K Q hK => ?_) (fun x18 => ?_)
    · go_big_op
      exact hK _ _ ⟨_, z.to _ ((Below.refl _ _).alloc (Nat.le_refl _) (.cells #[.int .u8 pl, .int .u8 (np : Int)] 5)), rfl, rfl, z.to_still _ _, some ⟨z.toW.heap.size, 0, none⟩, 2, rfl, Nat.le_refl _, by decide, row_new _ _ _ _ (fun i hi => by rcases (show i = 0 ∨ i = 1 by omega) with rfl | rfl <;> rfl)⟩
    simp only [Act.put, List.setIfInBounds_toArray, List.set_cons_zero, List.set_cons_succ]
    refine kd_grow (by rfl) (fun z hz K Q hK => ?_) (fun x19 => ?_)
    · obtain ⟨a1, c1, rfl, g1, g2, g3⟩ := fact_at hz 6 (rowS w2 2 (bval [pf, pt])) x6 (by kernel_rfl) (by kernel_rfl) (by kernel_rfl)
      obtain ⟨a2, c2, rfl, h1, h2, h3⟩ := fact_at hz 10 (rowS w2 6 (bval (bytesK pn.toNat 6))) x10 (by kernel_rfl) (by kernel_rfl) (by kernel_rfl)
      obtain ⟨a3, c3, rfl, i1, i2, i3⟩ := fact_at hz 18 (rowS w2 2 (bval [pl, (np : Int)])) x18 (by kernel_rfl) (by kernel_rfl) (by kernel_rfl)
      go_big_op
      have ba := (Below.refl z.toW.heap.size z.toW).alloc (Nat.le_refl _) (.cells #[.slice a1 2 c1, .slice a2 6 c2, .slice a3 2 c3] 23)
      refine hK _ _ ⟨_, z.to _ ba, rfl, rfl, z.to_still _ _, ⟨z.toW.heap.size, 0, none⟩, a1, a2, a3, c1, c2, c3, rfl, row_new _ _ _ _ (fun i hi => ?_), Bs.below ⟨g1, g2, g3⟩ ba, Bs.below ⟨by rw [bytesK_len]; exact h1, h2, by rw [bytesK_len]; exact h3⟩ ba, Bs.below ⟨i1, i2, i3⟩ ba⟩
      rcases (show i = 0 ∨ i = 1 ∨ i = 2 by omega) with rfl | rfl | rfl
      · simp
      · simp [bytesK_len]
      · simp
    simp only [Act.put, List.setIfInBounds_toArray, List.set_cons_zero, List.set_cons_succ]
    refine kd_grow (by rfl) (fun z hz K Q hK => ?_) (fun x20 => ?_)
    · obtain ⟨A, a1, a2, a3, c1, c2, c3, rfl, g1, g2, g3, g4⟩ := fact_at hz 19 (triP w2 [pf, pt] (bytesK pn.toNat 6) [pl, (np : Int)]) x19 (by kernel_rfl) (by kernel_rfl) (by kernel_rfl)
      have PJ := rjoin_mine (some A) 3 3 _ _ _ z.toW (by decide) (fun j => by
        split
        · show 2 ≤ 1000
          decide
        · split
          · rw [bytesK_len]; decide
          · show 2 ≤ 1000
            decide) g1 (fun j hj => by
        rcases (show j = 0 ∨ j = 1 ∨ j = 2 by omega) with rfl | rfl | rfl
        · exact g2
        · exact g3
        · exact g4)
      have hth := HTH.out
      try dsimp only at hth
      have HNP3 := HNP.out
      try dsimp only at HNP3
      rw [HNP3] at hth
      rw [hth] at PJ
      go_big_op
      refine PJ.mono ?_
      rintro e w3 ⟨v, rfl, hV, bb⟩
      exact hK _ _ ⟨_, z.to w3 bb, rfl, rfl, z.to_still w3 bb, mine_low (by rw [encH_len] at hV; exact hV) z.ok.size⟩
    simp only [Act.put, List.setIfInBounds_toArray, List.set_cons_zero, List.set_cons_succ]
    refine kd_grow (by rfl) (fun z hz K Q hK => ?_) (fun x21 => ?_)
    · have hy := fact_at hz 20 (mineP w2 10 (bval (encH ⟨pf, pt, pn, pl, pp, pd⟩))) x20 (by kernel_rfl) (by kernel_rfl) (by kernel_rfl)
      go_big_op
      exact hK _ _ ⟨_, z, rfl, rfl, .refl z, hy⟩
    simp only [Act.put, List.setIfInBounds_toArray, List.set_cons_zero, List.set_cons_succ]
    refine kd_nil (fun z hz => ?_)
    have hV := (show mineP w2 10 (bval (encH ⟨pf, pt, pn, pl, pp, pd⟩)) x21 z from hz 21 (.of (mineP w2 10 (bval (encH ⟨pf, pt, pn, pl, pp, pd⟩)))) x21 (by kernel_rfl) (fun i hi => by simp [gKill]))
    have q3 := below_own z.ok HQ2.out HQ2.out.lt
    have B3 := B2.out.trans (z.ok.mono hs2)
    have hs3 : h + 1 ≤ z.toW.heap.size := q3.lt
    have hV := mine_low (B0 := h + 1) hV HQ2.out.lt
    generalize z.toW = w3 at *
    clear hz d0 d1 d2 d3 d4 u1 u2 u3 u4 u5 HQ2 B2 A2 hs2 HTH
    obtain ⟨i0, hi0, hz0, hz1, hz2⟩ := info_parts info8'
    obtain ⟨EH, hEH⟩ : ∃ q, encH ⟨pf, pt, pn, pl, pp, pd⟩ = q := ⟨_, rfl⟩
    have HEL : Hid (EH.length = 10) := Lib.hid (by rw [← hEH]; exact encH_len _)
    rw [hEH] at hV HTE
    have HA1 : Hid (Pk.At w ⟨pf, pt, pn, pl, pp, pd⟩ a c b d) := HA0
    clear hEH HA0
    have d4 := q3.cell 4
    go_wp2_with fail
    go_loopw [4, 34] (fun u i wr => ∃ (k : Nat) (v : Value), u = v ∧ i = .int .i64 (k : Int) ∧ k ≤ np ∧ Mine wr (h + 1) 5 v (10 + k) (bval (EH ++ pp.take k)) ∧ Below h w wr ∧ Lb.Own wr h 25 #[.int .i64 pf, .int .i64 pt, .int .i64 pn, .int .i64 pl, .slice a np c, .slice b nd d] ∧ h + 1 ≤ wr.heap.size) (fun _ i _ => np - (intOf i).toNat)
    case atStart => exact ⟨0, _, rfl, rfl, Nat.zero_le _, by simpa using hV, B3, q3, hs3⟩
    case round =>
      clear hV B3 q3 hs3 d4
      obtain ⟨k, v, rfl, rfl, hk, hv, bb, qr, hs⟩ := hrel
      by_cases hlt : k < np
      · have hNPo := HNP.out
        try dsimp only at hNPo
        obtain ⟨rb, ro, e6, _, hrc⟩ := (HA1.out.prow.below (by rw [HH.out]; exact bb)) (by show 0 < pp.length; omega)
        subst e6
        have d0 : wr.cell? ⟨rb, ro + k, none⟩ = some (.int .i64 (pp.getD k 0)) := hrc k (by show k < pp.length; omega)
        have hnx := (okP_out HOK.out).2 k (by omega)
        have hnx := ndB_yes hnx.1
        have HTK : Hid (pp.take (k + 1) = pp.take k ++ [pp.getD k 0]) := Lib.hid (tk_snoc (by omega))
        obtain ⟨x, hx⟩ : ∃ x, pp.getD k 0 = x := ⟨_, rfl⟩
        rw [hx] at d0 hnx HTK
        have hv2 := hv.alloc (.cells #[.int .u8 x] 5)
        have hr2 : Hid (Row (wr.alloc (.cells #[.int .u8 x] 5)) (some ⟨wr.heap.size, 0, none⟩) 1 (bval [x])) := Lib.hid (row_new _ _ _ _ (fun i hi => by obtain rfl : i = 0 := (by omega); rfl))
        have HB2 := Lib.hid (bb.alloc (by omega) (.cells #[.int .u8 x] 5))
        have q2 := qr.alloc (.cells #[.int .u8 x] 5)
        have hs2 : Hid (h + 1 ≤ (wr.alloc (.cells #[.int .u8 x] 5)).heap.size) := Lib.hid (by simp; omega)
        have hsum : Hid (10 + k + 1 ≤ maxLen) := Lib.hid (by unfold maxLen; omega)
        have hLK : Hid ((EH ++ pp.take k).length = 10 + k) := Lib.hid (by rw [List.length_append, HEL.out, List.length_take]; omega)
        clear hrc hx hNPo hv
        go_wp2_with (at_builtin; go_must (refine wp_app rfl (.tmp 38) (.tmp 41) _ rfl (h + 1) 5 i0 _ 1 Try.underlying23 hi0 hz0 hz1 hz2 rfl _ (10 + k) (bval (EH ++ pp.take k)) rfl hv2 _ 1 _ (bval [x]) rfl hr2.out (fun _ _ => rfl) hsum.out ?c5 hs2.out ?_))
        case c5 => omega
        intro v' w4 hv3 hg
        have b3 := HB2.out.grown hg (Nat.le_trans (Nat.le_succ _) hs2.out) (fun q hq => Nat.le_trans (Nat.le_succ _) (hv2.lt q hq).1)
        have q3 : Lb.Own w4 h 25 #[.int .i64 pf, .int .i64 pt, .int .i64 pn, .int .i64 pl, .slice (some ⟨rb, ro, none⟩) np c, .slice b nd d] := (hg.block h q2.lt (fun e => by have := (hv2.lt h e.symm).1; omega)).trans q2
        have hs3 : h + 1 ≤ w4.heap.size := Nat.le_trans hs2.out hg.size
        have hv4 : Mine w4 (h + 1) 5 v' (10 + (k + 1)) (bval (EH ++ pp.take (k + 1))) := by
          rw [show 10 + (k + 1) = 10 + k + 1 by omega]
          refine hv3.ext (fun q hq => ?_)
          unfold bval
          rw [HTK.out, ← List.append_assoc]
          by_cases h : q < 10 + k
          · rw [if_pos h, getD_append_left (l := EH ++ pp.take k) (by rw [hLK.out]; exact h)]
          · rw [if_neg h, getD_append_right (l := EH ++ pp.take k) (by rw [hLK.out]; omega), hLK.out]
        clear hv2 hv3 hg HB2 hs2 hr2 d0 hsum q2 qr hnx
        go_wp2_with fail
        exact ⟨⟨k + 1, _, rfl, by simp, by omega, hv4, b3, q3, hs3⟩, by simp [intOf]; omega⟩
      · obtain rfl : k = np := by omega
        have hNPo := HNP.out
        have hNDo := HND.out
        try dsimp only at hNPo hNDo
        rw [List.take_of_length_le (by omega)] at hv
        obtain ⟨va, vc, rfl, l1, l2, l3⟩ := hv.row
        have d5 := qr.cell 5
        have d5b := (qr.alloc (.cells #[.int .u8 (nd : Int)] 5)).cell 5
        have u5 : IntKind.u8.wrap (nd : Int) = (nd : Int) := by rw [IntKind.wrap_u8]; omega
        have ba := (Below.refl wr.heap.size wr).alloc (Nat.le_refl _) (.cells #[.int .u8 (nd : Int)] 5)
        have bc := ba.alloc (by simp) (.cells #[.slice va (10 + k) vc, .slice (some ⟨wr.heap.size, 0, none⟩) 1 1, .slice b nd d] 23)
        have hrow1 : Row (wr.alloc (.cells #[.int .u8 (nd : Int)] 5)) (some ⟨wr.heap.size, 0, none⟩) 1 (bval [(nd : Int)]) := row_new _ _ _ _ (fun i hi => by obtain rfl : i = 0 := (by omega); rfl)
        have hrow1 := hrow1.below ((Below.refl _ _).alloc (Nat.le_refl _) (.cells #[.slice va (10 + k) vc, .slice (some ⟨wr.heap.size, 0, none⟩) 1 1, .slice b nd d] 23))
        have hdat := (HA1.out.drow.below (by rw [HH.out]; exact bb)).below bc
        have hl3 := l3.below bc
        have hsz : (wr.alloc (.cells #[.int .u8 (nd : Int)] 5)).heap.size = wr.heap.size + 1 := by simp
        have hrow3 : Row ((wr.alloc (.cells #[.int .u8 (nd : Int)] 5)).alloc (.cells #[.slice va (10 + k) vc, .slice (some ⟨wr.heap.size, 0, none⟩) 1 1, .slice b nd d] 23)) (some ⟨wr.heap.size + 1, 0, none⟩) 3 (fun j => .slice (if j = 0 then va else if j = 1 then some ⟨wr.heap.size, 0, none⟩ else b) ((fun j => if j = 0 then EH ++ pp else if j = 1 then [(nd : Int)] else pd) j).length (if j = 0 then vc else if j = 1 then 1 else d)) := by
          have hEPl : (EH ++ pp).length = 10 + k := by rw [List.length_append, HEL.out]; omega
          have := row_new (n := 3) (V := fun j => .slice (if j = 0 then va else if j = 1 then some ⟨wr.heap.size, 0, none⟩ else b) ((fun j => if j = 0 then EH ++ pp else if j = 1 then [(nd : Int)] else pd) j).length (if j = 0 then vc else if j = 1 then 1 else d)) (wr.alloc (.cells #[.int .u8 (nd : Int)] 5)) #[.slice va (10 + k) vc, .slice (some ⟨wr.heap.size, 0, none⟩) 1 1, .slice b nd d] 23 (0, 0) (fun i hi => by
            rcases (show i = 0 ∨ i = 1 ∨ i = 2 by omega) with rfl | rfl | rfl
            · simp [HEL.out]; omega
            · simp
            · simp [hNDo])
          rw [hsz] at this
          exact this
        have hEPl : (EH ++ pp).length = 10 + k := by rw [List.length_append, HEL.out]; omega
        have hle1 : pd.length ≤ d := by omega
        have PJ := rjoin_mine (some ⟨wr.heap.size + 1, 0, none⟩) 3 3 _ _ _ _ (by decide) (fun j => by
          split
          · rw [hEPl]; omega
          · split
            · show 1 ≤ 1000
              decide
            · show pd.length ≤ 1000
              omega) hrow3 (fun j hj => by
          rcases (show j = 0 ∨ j = 1 ∨ j = 2 by omega) with rfl | rfl | rfl
          · exact ⟨by show (EH ++ pp).length ≤ vc; rw [hEPl]; exact l1, l2, by show Row _ va (EH ++ pp).length (bval (EH ++ pp)); rw [hEPl]; exact hl3⟩
          · exact ⟨Nat.le_refl _, by show 1 ≤ maxLen; decide, hrow1⟩
          · exact ⟨hle1, by show d ≤ maxLen; unfold maxLen; omega, hdat⟩)
        have hte := HTE.out
        try dsimp only at hte
        rw [hNDo] at hte
        rw [hte] at PJ
        have PJH := Lib.hid PJ
        have HBB := Lib.hid (bb.trans (bc.mono (by omega)))
        have hs5 : h ≤ ((wr.alloc (.cells #[.int .u8 (nd : Int)] 5)).alloc (.cells #[.slice va (10 + k) vc, .slice (some ⟨wr.heap.size, 0, none⟩) 1 1, .slice b nd d] 23)).heap.size := by simp; omega
        have HS5 := Lib.hid hs5
        unfold maxLen at l2
        have hv63 : (vc : Int) ≤ 9223372036854775807 := by omega
        clear PJ hte hrow3 hrow1 hdat hl3 l3 bc ba hv hsz hEPl hNPo hNDo hs5 bb
        go_wp2_with fail
        refine PJH.out.mono ?_
        rintro r w5 ⟨v, rfl, hV, b5⟩
        have HB5 := Lib.hid (HBB.out.trans (b5.mono HS5.out))
        obtain ⟨ga, gc, rfl, g1, g2, g3⟩ := hV.row
        have HG := Lib.hid (show Bs w5 ga gc (encB ⟨pf, pt, pn, pl, pp, pd⟩) from ⟨g1, g2, g3⟩)
        obtain ⟨ne, hne⟩ : ∃ n, (encB ⟨pf, pt, pn, pl, pp, pd⟩).length = n := ⟨_, rfl⟩
        have HNE := Lib.hid hne
        rw [hne]
        clear hV b5 g1 g2 g3 hne d5 d5b qr
        go_wp2_with fail
        go_ret2
        exact ⟨ga, gc, by rw [HOO.out.1, HOO.out.2, HNE.out]; rfl, by rw [HOO.out.1]; exact HG.out, by rw [HH.out]; exact HB5.out⟩
end Go.Proofs.Ytcpmnfoenpdaeaa.Rt
