/-
  Law IeDecodes: any bytes, near elements or far from them, are decoded as they ought to be; the call returns true. No condition.
-/
import Derived.Test.YtlmbkgcclanpmaaIeLaw
import Derived.Test.YtlmbkgcclanpmaaIeRDec
import Derived.Test.YtlmbkgcclanpmaaIeSames
set_option maxRecDepth 100000
namespace Go.Proofs.Ytlmbkgcclanpmaa.IeDecodes
set_option linter.unusedVariables false
open Go.RowKit Go.ChangeShapes Go.WideShapes Go.ChangeAt Go.Deep Lb Bf Ie
set_option linter.unusedVariables false
theorem own : ownKnob Try.prog.godebug = none := by kernel_rfl
theorem laidOut : laidOutB Try.prog = true := by kernel_rfl
theorem ext_next {v w' : World} (x : Ext v) (h : Below x.toW.heap.size x.toW w') : ∃ y : Ext v, w' = y.toW := ⟨⟨w', x.ok.trans (h.mono x.ok.size)⟩, rfl⟩
theorem xor_byte {z x : Int} (z0 : 0 ≤ z) (z1 : z < 256) (x0 : 0 ≤ x) (x1 : x < 256) : 0 ≤ bits .xor .u8 z x ∧ bits .xor .u8 z x < 256 := by
  have hlt : z.toNat ^^^ x.toNat < 2 ^ 8 := Nat.xor_lt_two_pow (by omega) (by omega)
  rw [u8_xor _ _ z0 z1 x0 x1]
  exact ⟨by omega, by omega⟩
theorem bytesK_ok (N k : Nat) : okD' (bytesK N k) := fun x hx => by
  unfold bytesK at hx
  rw [List.mem_map] at hx
  obtain ⟨t, _, rfl⟩ := hx
  omega
theorem okD_app {l m : List Int} (h : okD' l) (k : okD' m) : okD' (l ++ m) := fun x hx => (List.mem_append.1 hx).elim (h x) (k x)
theorem okD_one {x : Int} (h : 0 ≤ x ∧ x < 256) : okD' [x] := fun y hy => by rw [List.mem_singleton.1 hy]; exact h
theorem okD_octs {l : List Int} (h : octsB l = true) : okD' l := fun x hx => by
  unfold octsB at h
  rw [decide_eq_true_eq] at h
  obtain ⟨i, hi, rfl⟩ := List.getElem_of_mem hx
  have := h i hi
  rw [List.getD_eq_getElem?_getD, List.getElem?_eq_getElem hi] at this
  simp only [Option.getD_some] at this
  omega
theorem encOne_ok {e : El} (h : mayE e = true) : okD' (encOne e) := by
  obtain ⟨k, a, r, t, l⟩ := e
  rcases mayE_kind h with h1 | h1 | h1 | h1
  · have h1 : k = 1 := h1
    subst h1
    rw [may1] at h
    simp only [Bool.and_eq_true, decide_eq_true_eq] at h
    unfold encOne
    simp only [if_pos]
    exact okD_app (okD_app (okD_app (okD_one (by omega)) (okD_one (by omega))) (bytesK_ok _ _)) (okD_one (by omega))
  · have h1 : k = 2 := h1
    subst h1
    unfold encOne
    rw [if_neg (by simp), if_pos rfl]
    exact okD_app (okD_app (okD_one (by omega)) (okD_one (by omega))) (bytesK_ok _ _)
  all_goals
    have h1 : k = _ := h1
    subst h1
    rw [may3 _ _ _ _ _ (by omega)] at h
    simp only [Bool.and_eq_true, decide_eq_true_eq] at h
    unfold encOne
    rw [if_neg (by simp), if_neg (by simp)]
    exact okD_app (okD_app (okD_one (by simp)) (okD_one (by simp; omega))) (okD_octs h.1)
theorem encL_ok : ∀ l : List El, (∀ e, e ∈ l → mayE e = true) → okD' (encL l)
  | [], _ => fun x hx => by cases hx
  | e :: l, h => okD_app (encOne_ok (h e (by simp))) (encL_ok l fun x hx => h x (by simp [hx]))
theorem encI_ok {l : List El} (h : mayL l = true) : okD' (encI l) ∧ (encI l).length ≤ 73 := by
  unfold mayL at h
  rw [Bool.and_eq_true, decide_eq_true_eq, List.all_eq_true] at h
  refine ⟨okD_app (okD_one (by omega)) (encL_ok l h.2), ?_⟩
  have := encL_take_len (l := l) (fun k hk => h.2 _ (List.getElem_mem hk)) l.length (Nat.le_refl _)
  rw [List.take_length] at this
  unfold encI
  simp
  omega
theorem renc_out {l : List El} {w w' : World} {r : Ending} (h : REncPost l w r w') : ∃ v X e, r = .returned (.tuple #[v, .int .i64 e]) ∧ Mine w' w.heap.size 5 v X.length (bval X) ∧ Below w.heap.size w w' ∧ okD' X ∧ X.length ≤ 73 := by
  unfold REncPost at h
  by_cases hm : mayL l = true
  · rw [if_pos hm] at h
    obtain ⟨v, h1, h2, h3⟩ := h
    exact ⟨v, encI l, 0, h1, h2, h3, encI_ok hm⟩
  · rw [if_neg hm] at h
    exact ⟨_, [], 1, h.1, Mine.nil _ _ _ _, h.2, (fun x hx => by cases hx), by simp⟩
theorem Mine.shrink {w : World} {base n m c : Nat} {e : TypeId} {a : Option Addr} {V : Nat → Value} (h : Mine w base e (.slice a n c) n V) (hn : 0 < n) (hm : m ≤ n) : Mine w base e (.slice a m c) m V := by
  obtain ⟨b', cs, hv, hb, ho, hn, hmx, hcs⟩ := h.block hn
  injection hv with h1 _ h3
  subst h1 h3
  exact Mine.made ho hb hmx (by omega) (fun i hi => hcs i (by omega))
def outL (Z : List Int) : List El := match decI Z with | .ok l => l | .error _ => []
def outE (Z : List Int) : Int := match decI Z with | .ok _ => 0 | .error x => x
theorem dec_out {Z : List Int} {w w' : World} {r : Ending} (h : DecPost Z w r w') : ∃ (LL : List EP) (a : Option Addr) (c : Nat), r = .returned (.tuple #[.slice a LL.length c, .int .i64 (outE Z)]) ∧ els LL = outL Z ∧ Els w' LL a c ∧ Below w.heap.size w w' := by
  unfold DecPost at h
  unfold outL outE
  cases hd : decI Z with
  | ok l =>
    rw [hd] at h
    obtain ⟨LL, a, c, h1, h2, h3, _, _, h4⟩ := h
    exact ⟨LL, a, c, h2, h1, h3, h4⟩
  | error x =>
    rw [hd] at h
    exact ⟨[], none, 0, h.1, rfl, ⟨Nat.le_refl _, Nat.zero_le _, Row.nil _ _ _, fun k hk => by cases hk⟩, h.2⟩
theorem bval_app' (l m : List Int) (n : Nat) (hl : l.length = n) (q : Nat) : (if q < n then bval l q else bval m (q - n)) = bval (l ++ m) q := by
  subst hl
  exact bval_app l m q
set_option maxHeartbeats 2000000 in
theorem body (L : List EP) (a : Option Addr) (c : Nat) (P : List Int) (a1 : Option Addr) (c1 : Nat) (x cut : Int) (M : List Int) (a3 : Option Addr) (c3 : Nat) (w : World) (h : Els w L a c)
    (hP : Row w a1 P.length (zval P)) (hPc : P.length ≤ c1) (hPm : c1 ≤ maxLen) (hM : Row w a3 M.length (bval M)) (hMc : M.length ≤ c3) (hMm : c3 ≤ maxLen) (hMb : okD' M) (hx : 0 ≤ x ∧ x < 256) :
    Calls Try.prog 4 #[.slice a L.length c, .slice a1 P.length c1, .int .u8 x, .int .i64 cut, .slice a3 M.length c3] w fun r w' => r = .returned (.bool true) ∧ Below w.heap.size w w' := by
  have hL := light_any L a c w h
  have hHels := Lib.hid h
  unfold maxLen at hPm hMm
  obtain ⟨n, hn⟩ : ∃ n, L.length = n := ⟨_, rfl⟩
  have HN := Lib.hid hn
  rw [hn] at hL ⊢
  obtain ⟨np, hnp⟩ : ∃ n, P.length = n := ⟨_, rfl⟩
  have HNP := Lib.hid hnp
  rw [hnp] at hP hPc ⊢
  obtain ⟨nm, hnm⟩ : ∃ n, M.length = n := ⟨_, rfl⟩
  have HNM := Lib.hid hnm
  rw [hnm] at hM hMc ⊢
  have HMB := Lib.hid hMb
  clear hn h hnp hnm hMb
  obtain ⟨i0, hi0, hz0, hz1, hz2⟩ := info_parts info8
  go_enter Try.func4, Try.ntmps4
  go_wp2_with fail
  refine hL.mono ?_
  rintro r w1 ⟨y, rfl, hy, b1⟩
  have HY := Lib.hid hy
  clear hy hL
  by_cases hx0 : 0 < y
  · have g1 : decide ((0 : Int) < (y : Int)) = true := by simp; omega
    have g1' : decide (0 < y) = true := by simp; omega
    go_wp2_with fail
    refine (awake_any _).mono ?_
    rintro r w9 ⟨rfl, b9⟩
    go_wp2_with fail
    go_ret
    exact ⟨rfl, b1.trans (b9.mono b1.size)⟩
  have g1 : decide ((0 : Int) < (y : Int)) = false := by simp; omega
  have g1' : decide (0 < y) = false := by simp; omega
  by_cases hm2 : 200 < nm
  · have g2 : decide ((200 : Int) < (nm : Int)) = true := by simp; omega
    have g2' : decide (200 < nm) = true := by simp; omega
    go_wp2_with fail
    refine (awake_any _).mono ?_
    rintro r w9 ⟨rfl, b9⟩
    go_wp2_with fail
    go_ret
    exact ⟨rfl, b1.trans (b9.mono b1.size)⟩
  have g2 : decide ((200 : Int) < (nm : Int)) = false := by simp; omega
  have g2' : decide (200 < nm) = false := by simp; omega
  have hE := rencode_own L a c w1 (hHels.out.below b1)
  rw [HN.out] at hE
  have HE := Lib.hid hE
  have hP1 := hP.below b1
  have hM1 := hM.below b1
  clear hE hHels HY hx0 hP hM
  go_wp2_with fail
  refine HE.out.mono ?_
  intro r w2 hp
  obtain ⟨v, X, er, rfl, hV, b2, hXb, hX73⟩ := renc_out hp
  clear hp HE
  have hP2 := hP1.below b2
  have hM2 := hM1.below b2
  have b12 := b1.trans (b2.mono b1.size)
  have hww := b1.size
  obtain ⟨B, hB⟩ : ∃ B, w1.heap.size = B := ⟨_, rfl⟩
  rw [hB] at hV b2 hww
  have hPold := fun p (e : a1 = some p) (h0 : 0 < np) => (show p.block < B by
    obtain ⟨q, o, e2, h2, _⟩ := hP1 h0
    rw [e] at e2
    injection e2 with e2
    rw [e2, ← hB]
    exact h2)
  have hMold := fun p (e : a3 = some p) (h0 : 0 < nm) => (show p.block < B by
    obtain ⟨q, o, e2, h2, _⟩ := hM1 h0
    rw [e] at e2
    injection e2 with e2
    rw [e2, ← hB]
    exact h2)
  have HPO := Lib.hid hPold
  have HMO := Lib.hid hMold
  obtain ⟨nx, hnx⟩ : ∃ n, X.length = n := ⟨_, rfl⟩
  have HNX := Lib.hid hnx
  have HXB := Lib.hid hXb
  rw [hnx] at hV hX73
  have hBs : B ≤ w2.heap.size := by rw [← hB]; exact b2.size
  obtain ⟨av, cv, rfl, l1, l2, RV⟩ := hV.row
  unfold maxLen at l2
  clear hnx hXb hB hPold hMold hP1 hM1 b2 RV
  go_upto_if 37 with (fail)
  go_cut [11] from 38 to 69 (fun v wx => ∃ (Y : List Int), Mine wx B 5 v Y.length (bval Y) ∧ Hid (okD' Y) ∧ Y.length ≤ 73 ∧ Below B w2 wx)
  case first =>
    by_cases hn0 : nx = 0
    · subst hn0
      go_wp2_with fail
      go_meet
      exact ⟨X, by rw [HNX.out]; exact hV, HXB, by rw [HNX.out]; omega, Below.refl _ _⟩
    · have t0 : decide ((0 : Int) < (nx : Int)) = true := by simp; omega
      have t1 : decide (0 < nx) = true := by simp; omega
      obtain ⟨g, cs, hv, hg, _⟩ := hV.block (by omega)
      have hv1 : av = some ⟨g, 0, none⟩ := by injection hv
      clear hv
      subst hv1
      go_wp2_with fail
      go_loopw [40] (fun i wr => ∃ (k : Nat) (Y : List Int), i = .int .i64 k ∧ k ≤ np ∧ Y.length = nx ∧ Mine wr B 5 (.slice (some ⟨g, 0, none⟩) nx cv) nx (bval Y) ∧ Hid (okD' Y) ∧ Below B w2 wr) (fun i _ => np - (intOf i).toNat)
      case atStart => exact ⟨0, X, rfl, by omega, HNX.out, hV, HXB, Below.refl _ _⟩
      case round =>
        clear hV
        obtain ⟨k, Y, rfl, hk, hYl, hV, HYB, bb⟩ := hrel
        have HYL := Lib.hid hYl
        clear hYl
        by_cases hlt : k < np
        · have hPr : Row wr a1 np (zval P) := Row.same hP2 (fun p e h0 => bb.block _ (HPO.out p e h0))
          obtain ⟨pb, po, rfl, _, x1⟩ := hPr.at_ hlt
          unfold zval at x1
          obtain ⟨p, hp⟩ : ∃ p, P.getD k 0 = p := ⟨_, rfl⟩
          rw [hp] at x1
          clear hp hPr
          by_cases h3 : k < 3
          · have s1 : decide (k < 3) = true := by simpa using h3
            have s2 : decide ((k : Int) < 3) = true := by simp; omega
            have hu : 0 ≤ IntKind.u64.wrap p := u64_pos p
            obtain ⟨q, hq⟩ : ∃ q, IntKind.u64.wrap p = q := ⟨_, rfl⟩
            rw [hq] at hu
            have hn64 : IntKind.u64.wrap (nx : Int) = (nx : Int) := u64_id (by omega)
            obtain ⟨d, hd⟩ : ∃ d : Nat, q % (nx : Int) = (d : Int) := ⟨(q % (nx : Int)).toNat, by have := Int.emod_nonneg q (show (nx : Int) ≠ 0 by omega); omega⟩
            have hdl : d < nx := by have := Int.emod_lt_of_pos q (show (0 : Int) < nx by omega); omega
            have hdt : q.tmod (nx : Int) = (d : Int) := by rw [Int.tmod_eq_emod_of_nonneg hu, hd]
            obtain ⟨_, _, hc, hf⟩ := hV.at_ hdl
            unfold bval at hc
            have hzb : 0 ≤ Y.getD d 0 ∧ Y.getD d 0 < 256 := by
              have := HYL.out
              rw [List.getD_eq_getElem?_getD, List.getElem?_eq_getElem (by omega)]
              exact HYB.out _ (List.getElem_mem _)
            obtain ⟨z, hz⟩ : ∃ z, Y.getD d 0 = z := ⟨_, rfl⟩
            rw [hz] at hc hzb
            have hub := xor_byte hzb.1 hzb.2 hx.1 hx.2
            obtain ⟨u, hu2⟩ : ∃ u, bits .xor .u8 z x = u := ⟨_, rfl⟩
            rw [hu2] at hub
            have hV2 : Mine (wr.setCell ⟨g, d, none⟩ (.int .u8 u)) B 5 (.slice (some ⟨g, 0, none⟩) nx cv) nx (bval (Y.set d u)) := (hV.store hdl (.int .u8 u)).ext (fun i hi => by
              unfold bval
              have := HYL.out
              rw [List.getD_eq_getElem?_getD, List.getD_eq_getElem?_getD, List.getElem?_set]
              by_cases e : i = d
              · subst e
                rw [if_pos rfl, if_pos rfl, if_pos (by omega)]
                rfl
              · rw [if_neg e, if_neg (fun h => e h.symm)])
            have hYB2 : Hid (okD' (Y.set d u)) := Lib.hid (fun y hy => by
              rcases List.mem_or_eq_of_mem_set hy with h | h
              · exact HYB.out y h
              · rw [h]; exact hub)
            have hYL2 : Hid ((Y.set d u).length = nx) := Lib.hid (by rw [List.length_set]; exact HYL.out)
            have b3 := bb.setCell (p := ⟨g, d, none⟩) hg (.int .u8 u)
            clear hz hV bb hzb
            go_wp2_with fail
            exact ⟨⟨k + 1, Y.set d u, by simp, by omega, hYL2.out, hV2, hYB2, b3⟩, by simp [intOf]; omega⟩
          · have s1 : decide (k < 3) = false := by simpa using h3
            have s2 : decide ((k : Int) < 3) = false := by simp; omega
            clear h3
            go_wp2_with fail
            exact ⟨⟨k + 1, Y, by simp, by omega, HYL.out, hV, HYB, bb⟩, by simp [intOf]; omega⟩
        · obtain rfl : np = k := by omega
          have hu : 0 ≤ IntKind.u64.wrap cut := u64_pos cut
          obtain ⟨q, hq⟩ : ∃ q, IntKind.u64.wrap cut = q := ⟨_, rfl⟩
          rw [hq] at hu
          have hn64 : IntKind.u64.wrap (nx : Int) = (nx : Int) := u64_id (by omega)
          obtain ⟨d, hd⟩ : ∃ d : Nat, q % (nx : Int) = (d : Int) := ⟨(q % (nx : Int)).toNat, by have := Int.emod_nonneg q (show (nx : Int) ≠ 0 by omega); omega⟩
          have hdl : d < nx := by have := Int.emod_lt_of_pos q (show (0 : Int) < nx by omega); omega
          have hdt : q.tmod (nx : Int) = (d : Int) := by rw [Int.tmod_eq_emod_of_nonneg hu, hd]
          obtain ⟨m, hm⟩ : ∃ m : Nat, nx - d = m := ⟨_, rfl⟩
          have hmi : (nx : Int) - (d : Int) = (m : Int) := by omega
          have hmc : m ≤ cv := by omega
          have hmn : m ≤ nx := by omega
          clear hm
          go_wp2_with fail
          go_meet
          have hYl := HYL.out
          have htl : (Y.take m).length = m := by rw [List.length_take]; omega
          refine ⟨Y.take m, ?_, Lib.hid (okD_take HYB.out), by omega, bb⟩
          rw [htl]
          exact (Mine.shrink hV (by omega) hmn).ext (fun i hi => by
            unfold bval
            rw [tk_get hi])
  case rest =>
    obtain ⟨Y, hV, HYB, hY73, bb⟩ := hcut
    have hM3 : Row wc a3 nm (bval M) := Row.same hM2 (fun p e h0 => bb.block _ (HMO.out p e h0))
    have HM3 := Lib.hid hM3
    obtain ⟨ny, hny⟩ : ∃ n, Y.length = n := ⟨_, rfl⟩
    have HNY := Lib.hid hny
    rw [hny] at hV hY73
    have HNN : Hid (ny + nm ≤ maxLen) := Lib.hid (by unfold maxLen; omega)
    have hBc : B ≤ wc.heap.size := Nat.le_trans hBs bb.size
    have b3 := b12.trans (bb.mono hww)
    clear hM3 hny hM2 hP2
    go_wp2_with (at_builtin; go_must (refine wp_app rfl (.tmp 70) (.tmp 71) _ rfl B 5 i0 _ 1 Try.underlying30 hi0 hz0 hz1 hz2 rfl u11 ny (bval Y) rfl hV _ nm _ (bval M) rfl HM3.out (fun _ _ => rfl) HNN.out ?c2 hBc ?_))
    case c2 => omega
    intro v9 w9 m9 g9
    have b9 := b3.grown g9 (by omega) (fun q e => by have := (hV.lt q e).1; omega)
    have hm9 : Mine w9 B 5 v9 (ny + nm) (bval (Y ++ M)) := m9.ext (fun i _ => bval_app' Y M ny HNY.out i)
    have hZl : (Y ++ M).length = ny + nm := by rw [List.length_append, HNY.out, HNM.out]
    have hZb : okD' (Y ++ M) := okD_app HYB.out HMB.out
    obtain ⟨a9, c9, rfl, l9, lm9, R9⟩ := hm9.row
    have hlo := fun p (e : a9 = some p) => (hm9.lt p.block (by rw [e]; rfl)).2
    obtain ⟨Z, hZ⟩ : ∃ Z, Y ++ M = Z := ⟨_, rfl⟩
    rw [hZ] at hZl hZb R9
    rw [← hZl] at R9 l9 ⊢
    have HLO := Lib.hid hlo
    have HZB := Lib.hid hZb
    have HR9 := Lib.hid R9
    have hZ3 : Z.length ≤ 100000 := by omega
    have HL9 := Lib.hid l9
    have HLM9 := Lib.hid lm9
    have HZ3 := Lib.hid hZ3
    have hd1 := decode_any a9 c9 Z w9 hZ3 R9 hZb
    obtain ⟨nz, hnz⟩ : ∃ n, Z.length = n := ⟨_, rfl⟩
    rw [hnz] at hd1 ⊢
    have HNZ := Lib.hid hnz
    have HD1 := Lib.hid hd1
    clear hd1 hnz hZ3 l9 lm9 R9 hZb hlo hm9 m9 g9 hV b3 bb hZ hZl HM3 HNN
    go_wp2_with fail
    refine HD1.out.mono ?_
    intro r w10 hp
    obtain ⟨L1, q1, e1, rfl, hl1, hE1, bd1⟩ := dec_out hp
    clear hp HD1
    have b10 := b9.trans (bd1.mono b9.size)
    have hd2 := rdecode_any a9 c9 Z w10 HL9.out HLM9.out (HR9.out.below bd1) HZB.out (fun p e => Nat.lt_of_lt_of_le (HLO.out p e) bd1.size)
    rw [HNZ.out] at hd2
    have HD2 := Lib.hid hd2
    have HEL1 := Lib.hid hl1
    obtain ⟨E, hE⟩ : ∃ E, outE Z = E := ⟨_, rfl⟩
    have HEE := Lib.hid hE
    rw [hE]
    obtain ⟨n1, hn1⟩ : ∃ n, L1.length = n := ⟨_, rfl⟩
    have HN1 := Lib.hid hn1
    rw [hn1]
    clear hd2 hl1 hE hn1 b9
    go_wp2_with fail
    refine HD2.out.mono ?_
    intro r w11 hp
    obtain ⟨L2, q2, e2, rfl, hl2, hE2, bd2⟩ := dec_out hp
    clear hp HD2
    have b11 := b10.trans (bd2.mono b10.size)
    rw [HEE.out]
    have hs := rsames_any L1 L2 q1 e1 q2 e2 w11 (hE1.below bd2) hE2
    rw [hl2, HEL1.out, decide_eq_true rfl, HN1.out] at hs
    have HS := Lib.hid hs
    obtain ⟨n2, hn2⟩ : ∃ n, L2.length = n := ⟨_, rfl⟩
    rw [hn2] at HS ⊢
    have hee : (E == E) = true := beq_self_eq_true _
    clear hs hl2 hn2 hE1 hE2 bd1 bd2 b10
    go_wp2_with fail
    refine HS.out.mono ?_
    rintro r w12 ⟨rfl, b12'⟩
    have b13 := b11.trans (b12'.mono b11.size)
    go_wp2_with fail
    refine (awake_any _).mono ?_
    rintro r w14 ⟨rfl, b14⟩
    go_wp2_with fail
    go_ret
    exact ⟨rfl, b13.trans (b14.mono b13.size)⟩

theorem walk (H : Type) (enc : TypeId × Value → H) : Walk H enc Try.prog 4 Try.f4 := by
  intro W base args ds p hval hA
  rw [Try.params4] at hA hval
  obtain ⟨v0, vs, d0, ds', p0, q0, e0, rfl, rfl, h0, hA⟩ := trodAll_cons hA
  obtain ⟨v1, vs1, d1, ds1, p1, q1, rfl, rfl, rfl, h1, hA⟩ := trodAll_cons hA
  obtain ⟨v2, vs2, d2, ds2, p2, q2, rfl, rfl, rfl, h2, hA⟩ := trodAll_cons hA
  obtain ⟨v3, vs3, d3, ds3, p3, q3, rfl, rfl, rfl, h3, hA⟩ := trodAll_cons hA
  obtain ⟨v4, vs4, d4, ds4, p4, q4, rfl, rfl, rfl, h4, hA⟩ := trodAll_cons hA
  obtain ⟨rfl, rfl, rfl⟩ := trodAll_nil hA
  obtain ⟨l⟩ := args
  dsimp only at e0
  subst e0
  obtain ⟨L, a, c, rfl, hel, _⟩ := open_els (hval 0 _ v0 rfl rfl) h0
  obtain ⟨a1, P, c1, rfl, hc1, hm1, hR1, _⟩ := open_ints (hval 1 _ v1 rfl rfl) h1
  obtain ⟨x, rfl, rfl, rfl, wx⟩ := open_int Try.underlying5 (hval 2 _ v2 rfl rfl) h2
  obtain ⟨cut, rfl, rfl, rfl, _⟩ := open_int Try.underlying3 (hval 3 _ v3 rfl rfl) h3
  obtain ⟨a3, M, c3, rfl, hc3, hm3, hR3, _, hok⟩ := open_bytes (hval 4 _ v4 rfl rfl) h4
  exact body L a c P a1 c1 x cut M a3 c3 W hel hR1 hc1 hm1 hR3 hc3 hm3 hok (u8_bd wx)

set_option maxRecDepth 100000 in
theorem lifted (os : Os) (started : os.Started) (H : Type) (enc : TypeId × Value → H) :
    ReturnsInHanded {} Try.checked os 4 .any (Rows.ieDecodesSpec.pre6 enc Try.prog Try.f4 Rows.ieDecodesRow.domain false) (Rows.ieDecodesSpec.post enc Try.prog Try.f4 false true false false) :=
  returnsInHanded_of_change (C := Try.checked) own started (by kernel_rfl) Try.func4
    (ChangeSpec.witness6 (enc := enc) (C := Try.checked) false ⟨#[], #[(.slice none 0 0), (.slice none 0 0), (.int .u8 0), (.int .i64 0), (.slice none 0 0)], []⟩ 8 (by kernel_rfl) (by kernel_rfl) (by kernel_rfl) (by kernel_rfl))
    fun W base args ds gs before hval hW _ _ => step_of_walk laidOut (by rw [Try.params4]; exact of_decide_eq_true (by kernel_rfl)) (by kernel_rfl) Try.underlying4 rfl
      (fun ds h => by
        rw [Try.params4] at h
        match ds, h with
        | [_, _, _, _, _], _ => rfl) (walk H enc) W base args ds gs before hval hW

theorem holds : Rows.IeDecodesSaid :=
  OpenClaim.holds_of_wide 4 Try.f4 rfl rfl rfl rfl rfl rfl rfl ⟨rfl, rfl, rfl, rfl, rfl⟩ rfl rfl rfl rfl rfl (by kernel_rfl) Try.func4 (by kernel_rfl)
    (of_decide_eq_true (by kernel_rfl)) (by unfold Func.isWrapper; first | (rw [if_pos (by decide +kernel)]; kernel_rfl) | (rw [if_neg (by decide +kernel)]; exact ⟨rfl, rfl⟩))
    (fun os started H enc _ => lifted os started H enc)
#print axioms holds
end Go.Proofs.Ytlmbkgcclanpmaa.IeDecodes
