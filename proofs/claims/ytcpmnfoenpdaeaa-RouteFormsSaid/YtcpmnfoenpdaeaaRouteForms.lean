/-
  Law RouteForms: any packets, any node, any path, any bytes: the answers are the reference's; the call returns true. No condition.
-/
import Derived.Test.YtcpmnfoenpdaeaaRtRDecM
import Derived.Test.YtcpmnfoenpdaeaaRtRDown
import Derived.Test.YtcpmnfoenpdaeaaRtRBack
import Derived.Test.YtcpmnfoenpdaeaaRtRSame
import Derived.Test.YtcpmnfoenpdaeaaRtAwake
import Derived.Test.YtcpmnfoenpdaeaaRtDecF
set_option maxRecDepth 100000
namespace Go.Proofs.Ytcpmnfoenpdaeaa.RouteForms
set_option linter.unusedVariables false
open Go.RowKit Go.ChangeShapes Go.WideShapes Go.ChangeAt Go.Deep Lb Go.Shelf Bf Rt
theorem own : ownKnob Try.prog.godebug = none := by kernel_rfl
theorem laidOut : laidOutB Try.prog = true := by kernel_rfl
theorem okD_nil : okD [] := fun x h => absurd h (by simp)
theorem up_data {p : Pk} {me : Int} (h : okD p.data) : okD (upR p me).1.data := by
  unfold upR
  split
  · exact okD_nil
  · split
    · exact okD_nil
    · split
      · exact h
      · split
        · exact okD_nil
        · exact h
theorem down_data {p : Pk} {me : Int} (h : okD p.data) : okD (downR p me).1.data := by
  unfold downR
  split
  · exact okD_nil
  · split
    · exact okD_nil
    · split
      · exact okD_nil
      · exact h
theorem dec_data {L : List Int} (h : okD L) : okD (decK L).data := by
  unfold decK
  split
  · exact fun x hx => h x (List.mem_of_mem_drop (List.mem_of_mem_take hx))
  · exact okD_nil
theorem enc_ok {p : Pk} (h : okD p.data) : okD (encO p) := by
  unfold encO
  split
  · rename_i hm
    exact encB_bytes hm h
  · exact okD_nil
theorem enc_len {p : Pk} : (encO p).length ≤ 1000 := by
  unfold encO
  split
  · rename_i hm
    have h1 := mayK_life hm
    rw [encB_len]
    omega
  · exact Nat.zero_le _
theorem enc_bs (p : Pk) (a : Option Addr) (c : Nat) (b : Option Addr) (d : Nat) (w : World) (h : p.At w a c b d) (hB : okD p.data) :
    Calls Try.prog 11 #[.agg (p.vals a c b d)] w fun r w' => ∃ a c, r = .returned (.tuple #[.slice a (encO p).length c, .int .i64 (encC p)]) ∧ Bs w' a c (encO p) ∧ Below w.heap.size w w' := by
  refine (encode_any p a c b d w h hB).mono ?_
  intro r w' hp
  unfold EncPost at hp
  by_cases hm : mayK p = true
  · rw [if_pos hm] at hp
    obtain ⟨a, c, rfl, h1, h2, h3, h4⟩ := hp
    have e1 : encO p = encB p := if_pos hm
    have e2 : encC p = 0 := if_pos hm
    exact ⟨a, c, by rw [e1, e2], by rw [e1]; exact ⟨h1, h2, h3⟩, h4⟩
  · rw [if_neg hm] at hp
    have e1 : encO p = [] := if_neg hm
    have e2 : encC p = 1 := if_neg hm
    exact ⟨none, 0, by rw [e1, e2]; exact hp.1, by rw [e1]; exact ⟨Nat.le_refl _, by decide, Row.nil _ _ _⟩, hp.2⟩
theorem dec_at (a : Option Addr) (c : Nat) (L : List Int) (w : World) (hl : L.length ≤ 1000) (hR : Bs w a c L) (hB : okD L) (ha : a = none → L.length = 0) :
    Calls Try.prog 24 #[.slice a L.length c] w (Rq.RDecPost L w) := by
  refine (dec_full a c L w (by omega) hR.row hB ha).mono ?_
  rintro r w' ⟨P, a, c, b, d, e, rfl, h1, h2, h3, h4⟩
  have hk : decK L = P := by
    unfold decK
    rcases h4 with ⟨h5, h6⟩ | ⟨h5, h6⟩
    · rw [h3, if_pos h5, h6]
    · rw [h3, if_neg h5, h6]
  exact ⟨a, c, b, d, by rw [hk, h3], by rw [hk]; exact h1.at_, h2⟩
theorem okD_set {l : List Int} (h : okD l) (i : Nat) {v : Int} (hv : 0 ≤ v ∧ v < 256) : okD (l.set i v) := fun x hx => by
  rcases List.mem_or_eq_of_mem_set hx with h1 | h1
  · exact h x h1
  · rw [h1]; exact hv
theorem getD_setL {l : List Int} {i j : Nat} {v : Int} : (l.set i v).getD j 0 = if i = j ∧ j < l.length then v else l.getD j 0 := by
  rw [List.getD_eq_getElem?_getD, List.getElem?_set]
  by_cases h : i = j
  · by_cases h2 : i < l.length
    · rw [if_pos h, if_pos (by omega), if_pos ⟨h, by omega⟩]
      rfl
    · rw [if_pos h, if_neg (by omega), if_neg (by omega), List.getD_eq_getElem?_getD, List.getElem?_eq_none (by omega)]
  · rw [if_neg h, if_neg (fun q => h q.1), List.getD_eq_getElem?_getD]
theorem info8b : (Try.prog.info? 5).map (fun i => (i.zero, i.size, i.bytes)) = some (some (.int .u8 0), 1, 1) := by kernel_rfl
theorem xor_in {z x : Int} (hz : 0 ≤ z ∧ z < 256) (hx : 0 ≤ x ∧ x < 256) : 0 ≤ bits .xor .u8 z x ∧ bits .xor .u8 z x < 256 := by
  have hlt : z.toNat ^^^ x.toNat < 2 ^ 8 := Nat.xor_lt_two_pow (by omega) (by omega)
  rw [u8_xor _ _ hz.1 hz.2 hx.1 hx.2]
  exact ⟨by omega, by omega⟩
set_option maxHeartbeats 16000000 in
theorem body (p q : Pk) (a : Option Addr) (c : Nat) (b : Option Addr) (d : Nat) (qa : Option Addr) (qc : Nat) (qb : Option Addr) (qd : Nat) (me : Int) (pa : Option Addr) (pth : List Int) (pc : Nat) (A : Option Addr) (m C : Nat) (Z : Nat → Int) (x cut : Int) (aR : Option Addr) (lR : List Int) (cR : Nat) (w : World)
    (hP : p.At w a c b d) (hpd : okD p.data) (hQ : q.At w qa qc qb qd) (hqd : okD q.data) (hpl : pth.length ≤ pc) (hpm : pc ≤ maxLen) (hpr : Row w pa pth.length (zval pth)) (hpn : pa = none → pth.length = 0) (hm : m ≤ C) (hC : C ≤ maxLen) (hZ : Row w A m (fun i => .int .i64 (Z i))) (hx : 0 ≤ x ∧ x < 256) (hR : Bs w aR cR lR) (hRB : okD lR) (hRn : aR = none → lR.length = 0) :
    Calls Try.prog 3 #[.agg (p.vals a c b d), .agg (q.vals qa qc qb qd), .int .i64 me, .slice pa pth.length pc, .slice A m C, .int .u8 x, .int .i64 cut, .slice aR lR.length cR] w fun r w' => r = .returned (.bool true) ∧ Below w.heap.size w w' := by
  have O8_0 := (Own.new w 25 (p.vals a c b d)).alloc (.cells (q.vals qa qc qb qd) 25)
  have O9_0 := Own.new (w.alloc (.cells (p.vals a c b d) 25)) 25 (q.vals qa qc qb qd)
  have B_0 := ((Below.refl w.heap.size w).alloc (Nat.le_refl _) (.cells (p.vals a c b d) 25)).alloc (by simp) (.cells (q.vals qa qc qb qd) 25)
  have hsz : (w.alloc (.cells (p.vals a c b d) 25)).heap.size = w.heap.size + 1 := by simp
  rw [hsz] at O9_0
  have P_0 := hP.below B_0
  have Q_0 := hQ.below B_0
  have Z_0 := hZ.below B_0
  have R_0 := hR.below B_0
  have Y_0 := hpr.below B_0
  have hrc := hR.cap
  have hrl := hR.le
  have hPpc := hP.pc
  have hPpm := hP.pm
  have hPdc := hP.dc
  have hPdm := hP.dm
  have hQpc := hQ.pc
  have hQpm := hQ.pm
  have hQdc := hQ.dc
  have hQdm := hQ.dm
  have PLP := Lib.hid (fun W => light_any p a c b d W)
  have PLQ := Lib.hid (fun W => light_any q qa qc qb qd W)
  obtain ⟨nR, hnR⟩ : ∃ n, lR.length = n := ⟨_, rfl⟩
  obtain ⟨ny, hny⟩ : ∃ n, pth.length = n := ⟨_, rfl⟩
  have HNR := Lib.hid hnR
  have HNY := Lib.hid hny
  obtain ⟨h, hh⟩ : ∃ h, w.heap.size = h := ⟨_, rfl⟩
  have HH := Lib.hid hh
  rw [hh] at O8_0 O9_0 B_0
  unfold maxLen at hpm hC hrc hPpm hPdm hQpm hQdm
  rw [hnR] at hrl
  rw [hny] at hpl
  obtain ⟨lp, hlp⟩ : ∃ x, lightB p = x := ⟨_, rfl⟩
  obtain ⟨lq, hlq⟩ : ∃ x, lightB q = x := ⟨_, rfl⟩
  rw [hlp] at PLP
  rw [hlq] at PLQ
  have HLP := Lib.hid hlp
  have HLQ := Lib.hid hlq
  have HPD := Lib.hid hpd
  have HQD := Lib.hid hqd
  have HRB := Lib.hid hRB
  have HRN := Lib.hid hRn
  have HPN := Lib.hid hpn
  have HZ00 := Lib.hid hZ
  have HR00 := Lib.hid hR
  obtain ⟨np, hnp⟩ : ∃ n, p.path.length = n := ⟨_, rfl⟩
  obtain ⟨nd, hnd⟩ : ∃ n, p.data.length = n := ⟨_, rfl⟩
  obtain ⟨mp, hmp⟩ : ∃ n, q.path.length = n := ⟨_, rfl⟩
  obtain ⟨md, hmd⟩ : ∃ n, q.data.length = n := ⟨_, rfl⟩
  rw [hnp] at hPpc
  rw [hnd] at hPdc
  rw [hmp] at hQpc
  rw [hmd] at hQdc
  have HV : Hid (p.vals a c b d = #[.int .i64 p.f, .int .i64 p.t, .int .i64 p.n, .int .i64 p.life, .slice a np c, .slice b nd d]) := Lib.hid (by unfold Pk.vals; rw [hnp, hnd])
  have HW : Hid (q.vals qa qc qb qd = #[.int .i64 q.f, .int .i64 q.t, .int .i64 q.n, .int .i64 q.life, .slice qa mp qc, .slice qb md qd]) := Lib.hid (by unfold Pk.vals; rw [hmp, hmd])
  rw [HV.out] at O8_0 O9_0 B_0 PLP P_0 Q_0 Z_0 R_0 Y_0
  rw [HW.out] at O8_0 O9_0 B_0 PLQ P_0 Q_0 Z_0 R_0 Y_0
  obtain ⟨pf, pt, pn, pl, pP, pD⟩ := p
  obtain ⟨qf, qt, qn, ql, qP, qD⟩ := q
  dsimp only at O8_0 O9_0 B_0 PLP PLQ P_0 Q_0 Z_0 R_0 Y_0
  have n1 : (np : Int) ≤ 9223372036854775807 := by omega
  have n2 : (c : Int) ≤ 9223372036854775807 := by omega
  have n3 : (nd : Int) ≤ 9223372036854775807 := by omega
  have n4 : (d : Int) ≤ 9223372036854775807 := by omega
  have n5 : (mp : Int) ≤ 9223372036854775807 := by omega
  have n6 : (qc : Int) ≤ 9223372036854775807 := by omega
  have n7 : (md : Int) ≤ 9223372036854775807 := by omega
  have n8 : (qd : Int) ≤ 9223372036854775807 := by omega
  have n9 : (nR : Int) ≤ 9223372036854775807 := by omega
  have n10 : (cR : Int) ≤ 9223372036854775807 := by omega
  have n11 : (ny : Int) ≤ 9223372036854775807 := by omega
  have n12 : (pc : Int) ≤ 9223372036854775807 := by omega
  have n13 : (m : Int) ≤ 9223372036854775807 := by omega
  have n14 : (C : Int) ≤ 9223372036854775807 := by omega
  clear hnR hny hlp hlq hnp hnd hmp hmd hh hsz hP hQ hpr hZ hR hpd hqd hRB hRn hpn
  rw [HV.out, HW.out, HNY.out, HNR.out]
  try dsimp only at HV HW
  go_enter Try.func3, Try.ntmps3
  go_upto_region 1 with (fail)
  rw [HH.out]
  generalize (w.alloc (.cells #[.int .i64 pf, .int .i64 pt, .int .i64 pn, .int .i64 pl, .slice a np c, .slice b nd d] 25)).alloc (.cells #[.int .i64 qf, .int .i64 qt, .int .i64 qn, .int .i64 ql, .slice qa mp qc, .slice qb md qd] 25) = w1 at *
  have s_0 : h ≤ w1.heap.size := by have := O9_0.lt; omega
  have cO80 := O8_0.cell 0
  have cO81 := O8_0.cell 1
  have cO82 := O8_0.cell 2
  have cO83 := O8_0.cell 3
  have cO84 := O8_0.cell 4
  have cO85 := O8_0.cell 5
  have cO90 := O9_0.cell 0
  have cO91 := O9_0.cell 1
  have cO92 := O9_0.cell 2
  have cO93 := O9_0.cell 3
  have cO94 := O9_0.cell 4
  have cO95 := O9_0.cell 5
  cases lp with
  | false =>
    go_wp2_with fail
    refine (PLP.out _).mono ?_
    rintro r w2 ⟨rfl, b2⟩
    have P_1 := P_0.below b2
    have Q_1 := Q_0.below b2
    have Z_1 := Z_0.below b2
    have R_1 := R_0.below b2
    have Y_1 := Y_0.below b2
    have O8_1 := below_own b2 O8_0 O8_0.lt
    have O9_1 := below_own b2 O9_0 O9_0.lt
    have B_1 := B_0.trans (b2.mono s_0)
    have s_1 := Nat.le_trans s_0 b2.size
    clear P_0 Q_0 Z_0 R_0 Y_0 O8_0 O9_0 B_0 s_0 b2
    clear cO80 cO81 cO82 cO83 cO84 cO85
    clear cO90 cO91 cO92 cO93 cO94 cO95
    go_wp2_with fail
    refine (awake_any _).mono ?_
    rintro r w9 ⟨rfl, b9⟩
    go_wp2_with fail
    go_ret
    exact ⟨rfl, by rw [HH.out]; exact B_1.trans (b9.mono s_1)⟩
  | true =>
    go_wp2_with fail
    refine (PLP.out _).mono ?_
    rintro r w2 ⟨rfl, b2⟩
    clear cO80 cO81 cO82 cO83 cO84 cO85
    clear cO90 cO91 cO92 cO93 cO94 cO95
    have P_1 := P_0.below b2
    have Q_1 := Q_0.below b2
    have Z_1 := Z_0.below b2
    have R_1 := R_0.below b2
    have Y_1 := Y_0.below b2
    have O8_1 := below_own b2 O8_0 O8_0.lt
    have O9_1 := below_own b2 O9_0 O9_0.lt
    have B_1 := B_0.trans (b2.mono s_0)
    have s_1 := Nat.le_trans s_0 b2.size
    clear P_0 Q_0 Z_0 R_0 Y_0 O8_0 O9_0 B_0 s_0 b2
    have cO80 := O8_1.cell 0
    have cO81 := O8_1.cell 1
    have cO82 := O8_1.cell 2
    have cO83 := O8_1.cell 3
    have cO84 := O8_1.cell 4
    have cO85 := O8_1.cell 5
    have cO90 := O9_1.cell 0
    have cO91 := O9_1.cell 1
    have cO92 := O9_1.cell 2
    have cO93 := O9_1.cell 3
    have cO94 := O9_1.cell 4
    have cO95 := O9_1.cell 5
    cases lq with
    | false =>
      go_wp2_with fail
      refine (PLQ.out _).mono ?_
      rintro r w3 ⟨rfl, b3⟩
      have P_2 := P_1.below b3
      have Q_2 := Q_1.below b3
      have Z_2 := Z_1.below b3
      have R_2 := R_1.below b3
      have Y_2 := Y_1.below b3
      have O8_2 := below_own b3 O8_1 O8_1.lt
      have O9_2 := below_own b3 O9_1 O9_1.lt
      have B_2 := B_1.trans (b3.mono s_1)
      have s_2 := Nat.le_trans s_1 b3.size
      clear P_1 Q_1 Z_1 R_1 Y_1 O8_1 O9_1 B_1 s_1 b3
      clear cO80 cO81 cO82 cO83 cO84 cO85
      clear cO90 cO91 cO92 cO93 cO94 cO95
      go_wp2_with fail
      refine (awake_any _).mono ?_
      rintro r w9 ⟨rfl, b9⟩
      go_wp2_with fail
      go_ret
      exact ⟨rfl, by rw [HH.out]; exact B_2.trans (b9.mono s_2)⟩
    | true =>
      by_cases h60 : ny ≤ 60
      case neg =>
        have g1 : decide (60 < ny) = true := by simp; omega
        have g2 : decide ((60 : Int) < (ny : Int)) = true := by simp; omega
        go_wp2_with fail
        refine (PLQ.out _).mono ?_
        rintro r w3 ⟨rfl, b3⟩
        have P_2 := P_1.below b3
        have Q_2 := Q_1.below b3
        have Z_2 := Z_1.below b3
        have R_2 := R_1.below b3
        have Y_2 := Y_1.below b3
        have O8_2 := below_own b3 O8_1 O8_1.lt
        have O9_2 := below_own b3 O9_1 O9_1.lt
        have B_2 := B_1.trans (b3.mono s_1)
        have s_2 := Nat.le_trans s_1 b3.size
        clear P_1 Q_1 Z_1 R_1 Y_1 O8_1 O9_1 B_1 s_1 b3
        clear cO80 cO81 cO82 cO83 cO84 cO85
        clear cO90 cO91 cO92 cO93 cO94 cO95
        go_wp2_with fail
        refine (awake_any _).mono ?_
        rintro r w9 ⟨rfl, b9⟩
        go_wp2_with fail
        go_ret
        exact ⟨rfl, by rw [HH.out]; exact B_2.trans (b9.mono s_2)⟩
      have g1 : decide (60 < ny) = false := by simp; omega
      have g2 : decide ((60 : Int) < (ny : Int)) = false := by simp; omega
      by_cases h200 : nR ≤ 200
      case neg =>
        have g3 : decide (200 < nR) = true := by simp; omega
        have g4 : decide ((200 : Int) < (nR : Int)) = true := by simp; omega
        go_wp2_with fail
        refine (PLQ.out _).mono ?_
        rintro r w3 ⟨rfl, b3⟩
        have P_2 := P_1.below b3
        have Q_2 := Q_1.below b3
        have Z_2 := Z_1.below b3
        have R_2 := R_1.below b3
        have Y_2 := Y_1.below b3
        have O8_2 := below_own b3 O8_1 O8_1.lt
        have O9_2 := below_own b3 O9_1 O9_1.lt
        have B_2 := B_1.trans (b3.mono s_1)
        have s_2 := Nat.le_trans s_1 b3.size
        clear P_1 Q_1 Z_1 R_1 Y_1 O8_1 O9_1 B_1 s_1 b3
        clear cO80 cO81 cO82 cO83 cO84 cO85
        clear cO90 cO91 cO92 cO93 cO94 cO95
        go_wp2_with fail
        refine (awake_any _).mono ?_
        rintro r w9 ⟨rfl, b9⟩
        go_wp2_with fail
        go_ret
        exact ⟨rfl, by rw [HH.out]; exact B_2.trans (b9.mono s_2)⟩
      have g3 : decide (200 < nR) = false := by simp; omega
      have g4 : decide ((200 : Int) < (nR : Int)) = false := by simp; omega
      go_wp2_with fail
      refine (PLQ.out _).mono ?_
      rintro r w3 ⟨rfl, b3⟩
      clear g1 g2 g3 g4
      clear cO80 cO81 cO82 cO83 cO84 cO85
      clear cO90 cO91 cO92 cO93 cO94 cO95
      have P_2 := P_1.below b3
      have Q_2 := Q_1.below b3
      have Z_2 := Z_1.below b3
      have R_2 := R_1.below b3
      have Y_2 := Y_1.below b3
      have O8_2 := below_own b3 O8_1 O8_1.lt
      have O9_2 := below_own b3 O9_1 O9_1.lt
      have B_2 := B_1.trans (b3.mono s_1)
      have s_2 := Nat.le_trans s_1 b3.size
      clear P_1 Q_1 Z_1 R_1 Y_1 O8_1 O9_1 B_1 s_1 b3
      have cO80 := O8_2.cell 0
      have cO81 := O8_2.cell 1
      have cO82 := O8_2.cell 2
      have cO83 := O8_2.cell 3
      have cO84 := O8_2.cell 4
      have cO85 := O8_2.cell 5
      have PE := enc_bs _ _ _ _ _ _ P_2 HPD.out
      have PE2 := Lib.hid (fun W h => renc_any ⟨pf, pt, pn, pl, pP, pD⟩ a c b d W h HPD.out)
      obtain ⟨LE, hLE⟩ : ∃ x, encO ⟨pf, pt, pn, pl, pP, pD⟩ = x := ⟨_, rfl⟩
      obtain ⟨ce, hce⟩ : ∃ x, encC ⟨pf, pt, pn, pl, pP, pD⟩ = x := ⟨_, rfl⟩
      have HLE := Lib.hid (And.intro (show LE.length ≤ 1000 by rw [← hLE]; exact enc_len) (show okD LE by rw [← hLE]; exact enc_ok HPD.out))
      obtain ⟨ne, hne⟩ : ∃ x, LE.length = x := ⟨_, rfl⟩
      have HNE := Lib.hid hne
      rw [HV.out, hLE, hce, hne] at PE
      rw [HV.out, hLE, hce, hne] at PE2
      clear hLE hce hne
      go_wp2_with fail
      refine PE.mono ?_
      rintro r w4 ⟨ea, ec, rfl, E_3, b4⟩
      clear cO80 cO81 cO82 cO83 cO84 cO85
      clear PE
      have P_3 := P_2.below b4
      have Q_3 := Q_2.below b4
      have Z_3 := Z_2.below b4
      have R_3 := R_2.below b4
      have Y_3 := Y_2.below b4
      have O8_3 := below_own b4 O8_2 O8_2.lt
      have O9_3 := below_own b4 O9_2 O9_2.lt
      have B_3 := B_2.trans (b4.mono s_2)
      have s_3 := Nat.le_trans s_2 b4.size
      clear P_2 Q_2 Z_2 R_2 Y_2 O8_2 O9_2 B_2 s_2 b4
      have cO80 := O8_3.cell 0
      have cO81 := O8_3.cell 1
      have cO82 := O8_3.cell 2
      have cO83 := O8_3.cell 3
      have cO84 := O8_3.cell 4
      have cO85 := O8_3.cell 5
      go_wp2_with fail
      refine (PE2.out _ P_3).mono ?_
      rintro r w5 ⟨fa, fc, rfl, G_4, b5⟩
      clear PE2
      clear cO80 cO81 cO82 cO83 cO84 cO85
      have P_4 := P_3.below b5
      have Q_4 := Q_3.below b5
      have Z_4 := Z_3.below b5
      have R_4 := R_3.below b5
      have Y_4 := Y_3.below b5
      have E_4 := E_3.below b5
      have O8_4 := below_own b5 O8_3 O8_3.lt
      have O9_4 := below_own b5 O9_3 O9_3.lt
      have B_4 := B_3.trans (b5.mono s_3)
      have s_4 := Nat.le_trans s_3 b5.size
      clear P_3 Q_3 Z_3 R_3 Y_3 E_3 O8_3 O9_3 B_3 s_3 b5
      have cO80 := O8_4.cell 0
      have cO81 := O8_4.cell 1
      have cO82 := O8_4.cell 2
      have cO83 := O8_4.cell 3
      have cO84 := O8_4.cell 4
      have cO85 := O8_4.cell 5
      obtain ⟨⟨⟨u1, u2, u3, u4, uP, uD⟩, ue⟩, hu⟩ : ∃ x, upR ⟨pf, pt, pn, pl, pP, pD⟩ me = x := ⟨_, rfl⟩
      have HDu : Hid (okD uD) := Lib.hid (by have := up_data (p := ⟨pf, pt, pn, pl, pP, pD⟩) (me := me) HPD.out; rw [hu] at this; exact this)
      have HUu := Lib.hid hu
      obtain ⟨um, hum⟩ : ∃ n, uP.length = n := ⟨_, rfl⟩
      obtain ⟨uk, huk⟩ : ∃ n, uD.length = n := ⟨_, rfl⟩
      have HUu1 := Lib.hid hum
      have HUu2 := Lib.hid huk
      clear hu hum huk
      obtain ⟨⟨⟨v1, v2, v3, v4, vP, vD⟩, vy, ve⟩, hv⟩ : ∃ x, downR ⟨pf, pt, pn, pl, pP, pD⟩ me = x := ⟨_, rfl⟩
      have HDv : Hid (okD vD) := Lib.hid (by have := down_data (p := ⟨pf, pt, pn, pl, pP, pD⟩) (me := me) HPD.out; rw [hv] at this; exact this)
      have HUv := Lib.hid hv
      obtain ⟨vm, hvm⟩ : ∃ n, vP.length = n := ⟨_, rfl⟩
      obtain ⟨vk, hvk⟩ : ∃ n, vD.length = n := ⟨_, rfl⟩
      have HUv1 := Lib.hid hvm
      have HUv2 := Lib.hid hvk
      clear hv hvm hvk
      have PU := up_any ⟨pf, pt, pn, pl, pP, pD⟩ a c b d me _ P_4
      unfold UpPost at PU
      rw [HV.out, HUu.out] at PU
      unfold Pk.vals at PU
      dsimp only at PU
      rw [HUu1.out, HUu2.out] at PU
      go_wp2_with fail
      refine PU.mono ?_
      rintro r w6 ⟨Ua, Uc, Ub, Ud, rfl, X_5, b6⟩
      clear PU
      clear cO80 cO81 cO82 cO83 cO84 cO85
      have P_5 := P_4.below b6
      have Q_5 := Q_4.below b6
      have Z_5 := Z_4.below b6
      have R_5 := R_4.below b6
      have Y_5 := Y_4.below b6
      have E_5 := E_4.below b6
      have G_5 := G_4.below b6
      have O8_5 := below_own b6 O8_4 O8_4.lt
      have O9_5 := below_own b6 O9_4 O9_4.lt
      have B_5 := B_4.trans (b6.mono s_4)
      have s_5 := Nat.le_trans s_4 b6.size
      clear P_4 Q_4 Z_4 R_4 Y_4 E_4 G_4 O8_4 O9_4 B_4 s_4 b6
      have U_5 : Pk.At w6 ⟨u1, u2, u3, u4, uP, uD⟩ Ua Uc Ub Ud := X_5.at_
      clear X_5
      have OU_6 := Own.new w6 25 #[.int .i64 u1, .int .i64 u2, .int .i64 u3, .int .i64 u4, .slice Ua um Uc, .slice Ub uk Ud]
      have b7 := (Below.refl w6.heap.size w6).alloc (Nat.le_refl _) (.cells #[.int .i64 u1, .int .i64 u2, .int .i64 u3, .int .i64 u4, .slice Ua um Uc, .slice Ub uk Ud] 25)
      have P_6 := P_5.below b7
      have Q_6 := Q_5.below b7
      have Z_6 := Z_5.below b7
      have R_6 := R_5.below b7
      have Y_6 := Y_5.below b7
      have E_6 := E_5.below b7
      have G_6 := G_5.below b7
      have U_6 := U_5.below b7
      have O8_6 := below_own b7 O8_5 O8_5.lt
      have O9_6 := below_own b7 O9_5 O9_5.lt
      have B_6 := B_5.trans (b7.mono s_5)
      have s_6 := Nat.le_trans s_5 b7.size
      clear P_5 Q_5 Z_5 R_5 Y_5 E_5 G_5 U_5 O8_5 O9_5 B_5 s_5 b7
      go_upto_region 6 with (fail)
      obtain ⟨gOU, hg⟩ : ∃ g, w6.heap.size = g := ⟨_, rfl⟩
      rw [hg] at OU_6 ⊢
      generalize w6.alloc (.cells #[.int .i64 u1, .int .i64 u2, .int .i64 u3, .int .i64 u4, .slice Ua um Uc, .slice Ub uk Ud] 25) = w7 at *
      clear hg
      have cO80 := O8_6.cell 0
      have cO81 := O8_6.cell 1
      have cO82 := O8_6.cell 2
      have cO83 := O8_6.cell 3
      have cO84 := O8_6.cell 4
      have cO85 := O8_6.cell 5
      have PU := rup_any ⟨pf, pt, pn, pl, pP, pD⟩ a c b d me _ P_6
      unfold RUpPost at PU
      rw [HV.out, HUu.out] at PU
      unfold Pk.vals at PU
      dsimp only at PU
      rw [HUu1.out, HUu2.out] at PU
      go_wp2_with fail
      refine PU.mono ?_
      rintro r w6 ⟨Va, Vc, Vb, Vd, rfl, X_7, b6⟩
      clear PU
      clear cO80 cO81 cO82 cO83 cO84 cO85
      have P_7 := P_6.below b6
      have Q_7 := Q_6.below b6
      have Z_7 := Z_6.below b6
      have R_7 := R_6.below b6
      have Y_7 := Y_6.below b6
      have E_7 := E_6.below b6
      have G_7 := G_6.below b6
      have U_7 := U_6.below b6
      have O8_7 := below_own b6 O8_6 O8_6.lt
      have O9_7 := below_own b6 O9_6 O9_6.lt
      have OU_7 := below_own b6 OU_6 OU_6.lt
      have B_7 := B_6.trans (b6.mono s_6)
      have s_7 := Nat.le_trans s_6 b6.size
      clear P_6 Q_6 Z_6 R_6 Y_6 E_6 G_6 U_6 O8_6 O9_6 OU_6 B_6 s_6 b6
      have V_7 : Pk.At w6 ⟨u1, u2, u3, u4, uP, uD⟩ Va Vc Vb Vd := X_7
      clear X_7
      have OV_8 := Own.new w6 25 #[.int .i64 u1, .int .i64 u2, .int .i64 u3, .int .i64 u4, .slice Va um Vc, .slice Vb uk Vd]
      have b7 := (Below.refl w6.heap.size w6).alloc (Nat.le_refl _) (.cells #[.int .i64 u1, .int .i64 u2, .int .i64 u3, .int .i64 u4, .slice Va um Vc, .slice Vb uk Vd] 25)
      have P_8 := P_7.below b7
      have Q_8 := Q_7.below b7
      have Z_8 := Z_7.below b7
      have R_8 := R_7.below b7
      have Y_8 := Y_7.below b7
      have E_8 := E_7.below b7
      have G_8 := G_7.below b7
      have U_8 := U_7.below b7
      have V_8 := V_7.below b7
      have O8_8 := below_own b7 O8_7 O8_7.lt
      have O9_8 := below_own b7 O9_7 O9_7.lt
      have OU_8 := below_own b7 OU_7 OU_7.lt
      have B_8 := B_7.trans (b7.mono s_7)
      have s_8 := Nat.le_trans s_7 b7.size
      clear P_7 Q_7 Z_7 R_7 Y_7 E_7 G_7 U_7 V_7 O8_7 O9_7 OU_7 B_7 s_7 b7
      go_upto_region 7 with (fail)
      obtain ⟨gOV, hg⟩ : ∃ g, w6.heap.size = g := ⟨_, rfl⟩
      rw [hg] at OV_8 ⊢
      generalize w6.alloc (.cells #[.int .i64 u1, .int .i64 u2, .int .i64 u3, .int .i64 u4, .slice Va um Vc, .slice Vb uk Vd] 25) = w7 at *
      clear hg
      have cO80 := O8_8.cell 0
      have cO81 := O8_8.cell 1
      have cO82 := O8_8.cell 2
      have cO83 := O8_8.cell 3
      have cO84 := O8_8.cell 4
      have cO85 := O8_8.cell 5
      have PU := down_any ⟨pf, pt, pn, pl, pP, pD⟩ a c b d me _ P_8
      unfold DownPost at PU
      rw [HV.out, HUv.out] at PU
      unfold Pk.vals at PU
      dsimp only at PU
      rw [HUv1.out, HUv2.out] at PU
      go_wp2_with fail
      refine PU.mono ?_
      rintro r w6 ⟨Sa, Sc, Sb, Sd, rfl, X_9, b6⟩
      clear PU
      clear cO80 cO81 cO82 cO83 cO84 cO85
      have P_9 := P_8.below b6
      have Q_9 := Q_8.below b6
      have Z_9 := Z_8.below b6
      have R_9 := R_8.below b6
      have Y_9 := Y_8.below b6
      have E_9 := E_8.below b6
      have G_9 := G_8.below b6
      have U_9 := U_8.below b6
      have V_9 := V_8.below b6
      have O8_9 := below_own b6 O8_8 O8_8.lt
      have O9_9 := below_own b6 O9_8 O9_8.lt
      have OU_9 := below_own b6 OU_8 OU_8.lt
      have OV_9 := below_own b6 OV_8 OV_8.lt
      have B_9 := B_8.trans (b6.mono s_8)
      have s_9 := Nat.le_trans s_8 b6.size
      clear P_8 Q_8 Z_8 R_8 Y_8 E_8 G_8 U_8 V_8 O8_8 O9_8 OU_8 OV_8 B_8 s_8 b6
      have S_9 : Pk.At w6 ⟨v1, v2, v3, v4, vP, vD⟩ Sa Sc Sb Sd := X_9.at_
      clear X_9
      have OX_10 := Own.new w6 25 #[.int .i64 v1, .int .i64 v2, .int .i64 v3, .int .i64 v4, .slice Sa vm Sc, .slice Sb vk Sd]
      have b7 := (Below.refl w6.heap.size w6).alloc (Nat.le_refl _) (.cells #[.int .i64 v1, .int .i64 v2, .int .i64 v3, .int .i64 v4, .slice Sa vm Sc, .slice Sb vk Sd] 25)
      have P_10 := P_9.below b7
      have Q_10 := Q_9.below b7
      have Z_10 := Z_9.below b7
      have R_10 := R_9.below b7
      have Y_10 := Y_9.below b7
      have E_10 := E_9.below b7
      have G_10 := G_9.below b7
      have U_10 := U_9.below b7
      have V_10 := V_9.below b7
      have S_10 := S_9.below b7
      have O8_10 := below_own b7 O8_9 O8_9.lt
      have O9_10 := below_own b7 O9_9 O9_9.lt
      have OU_10 := below_own b7 OU_9 OU_9.lt
      have OV_10 := below_own b7 OV_9 OV_9.lt
      have B_10 := B_9.trans (b7.mono s_9)
      have s_10 := Nat.le_trans s_9 b7.size
      clear P_9 Q_9 Z_9 R_9 Y_9 E_9 G_9 U_9 V_9 S_9 O8_9 O9_9 OU_9 OV_9 B_9 s_9 b7
      go_upto_region 8 with (fail)
      obtain ⟨gOX, hg⟩ : ∃ g, w6.heap.size = g := ⟨_, rfl⟩
      rw [hg] at OX_10 ⊢
      generalize w6.alloc (.cells #[.int .i64 v1, .int .i64 v2, .int .i64 v3, .int .i64 v4, .slice Sa vm Sc, .slice Sb vk Sd] 25) = w7 at *
      clear hg
      have cO80 := O8_10.cell 0
      have cO81 := O8_10.cell 1
      have cO82 := O8_10.cell 2
      have cO83 := O8_10.cell 3
      have cO84 := O8_10.cell 4
      have cO85 := O8_10.cell 5
      have PU := rdown_any ⟨pf, pt, pn, pl, pP, pD⟩ a c b d me _ P_10
      unfold RDownPost at PU
      rw [HV.out, HUv.out] at PU
      unfold Pk.vals at PU
      dsimp only at PU
      rw [HUv1.out, HUv2.out] at PU
      go_wp2_with fail
      refine PU.mono ?_
      rintro r w6 ⟨Ta, Tc, Tb, Td, rfl, X_11, b6⟩
      clear PU
      clear cO80 cO81 cO82 cO83 cO84 cO85
      have P_11 := P_10.below b6
      have Q_11 := Q_10.below b6
      have Z_11 := Z_10.below b6
      have R_11 := R_10.below b6
      have Y_11 := Y_10.below b6
      have E_11 := E_10.below b6
      have G_11 := G_10.below b6
      have U_11 := U_10.below b6
      have V_11 := V_10.below b6
      have S_11 := S_10.below b6
      have O8_11 := below_own b6 O8_10 O8_10.lt
      have O9_11 := below_own b6 O9_10 O9_10.lt
      have OU_11 := below_own b6 OU_10 OU_10.lt
      have OV_11 := below_own b6 OV_10 OV_10.lt
      have OX_11 := below_own b6 OX_10 OX_10.lt
      have B_11 := B_10.trans (b6.mono s_10)
      have s_11 := Nat.le_trans s_10 b6.size
      clear P_10 Q_10 Z_10 R_10 Y_10 E_10 G_10 U_10 V_10 S_10 O8_10 O9_10 OU_10 OV_10 OX_10 B_10 s_10 b6
      have T_11 : Pk.At w6 ⟨v1, v2, v3, v4, vP, vD⟩ Ta Tc Tb Td := X_11
      clear X_11
      have OY_12 := Own.new w6 25 #[.int .i64 v1, .int .i64 v2, .int .i64 v3, .int .i64 v4, .slice Ta vm Tc, .slice Tb vk Td]
      have b7 := (Below.refl w6.heap.size w6).alloc (Nat.le_refl _) (.cells #[.int .i64 v1, .int .i64 v2, .int .i64 v3, .int .i64 v4, .slice Ta vm Tc, .slice Tb vk Td] 25)
      have P_12 := P_11.below b7
      have Q_12 := Q_11.below b7
      have Z_12 := Z_11.below b7
      have R_12 := R_11.below b7
      have Y_12 := Y_11.below b7
      have E_12 := E_11.below b7
      have G_12 := G_11.below b7
      have U_12 := U_11.below b7
      have V_12 := V_11.below b7
      have S_12 := S_11.below b7
      have T_12 := T_11.below b7
      have O8_12 := below_own b7 O8_11 O8_11.lt
      have O9_12 := below_own b7 O9_11 O9_11.lt
      have OU_12 := below_own b7 OU_11 OU_11.lt
      have OV_12 := below_own b7 OV_11 OV_11.lt
      have OX_12 := below_own b7 OX_11 OX_11.lt
      have B_12 := B_11.trans (b7.mono s_11)
      have s_12 := Nat.le_trans s_11 b7.size
      clear P_11 Q_11 Z_11 R_11 Y_11 E_11 G_11 U_11 V_11 S_11 T_11 O8_11 O9_11 OU_11 OV_11 OX_11 B_11 s_11 b7
      go_upto_region 9 with (fail)
      obtain ⟨gOY, hg⟩ : ∃ g, w6.heap.size = g := ⟨_, rfl⟩
      rw [hg] at OY_12 ⊢
      generalize w6.alloc (.cells #[.int .i64 v1, .int .i64 v2, .int .i64 v3, .int .i64 v4, .slice Ta vm Tc, .slice Tb vk Td] 25) = w7 at *
      clear hg
      obtain ⟨mk, hmk⟩ : ∃ x, mayK ⟨pf, pt, pn, pl, pP, pD⟩ = x := ⟨_, rfl⟩
      obtain ⟨sb, hsb⟩ : ∃ x, sameB ⟨pf, pt, pn, pl, pP, pD⟩ ⟨qf, qt, qn, ql, qP, qD⟩ = x := ⟨_, rfl⟩
      obtain ⟨BL, hBL⟩ : ∃ x, backL pth = x := ⟨_, rfl⟩
      obtain ⟨nb, hnb⟩ : ∃ x, BL.length = x := ⟨_, rfl⟩
      have HNB := Lib.hid hnb
      have HBL := Lib.hid hBL
      have M1 : Hid (∀ z : Gw w7, Calls Try.prog 17 #[.agg #[.int .i64 pf, .int .i64 pt, .int .i64 pn, .int .i64 pl, .slice a np c, .slice b nd d]] z.toW fun r w' => r = .returned (.bool mk) ∧ Below z.toW.heap.size z.toW w') := Lib.hid (fun z => by
        have := may_any _ _ _ _ _ _ (P_12.below z.ok)
        rw [HV.out, hmk] at this
        exact this)
      have M2 : Hid (∀ z : Gw w7, Calls Try.prog 18 #[.agg #[.int .i64 pf, .int .i64 pt, .int .i64 pn, .int .i64 pl, .slice a np c, .slice b nd d]] z.toW fun r w' => r = .returned (.bool mk) ∧ Below z.toW.heap.size z.toW w') := Lib.hid (fun z => by
        have := rmay_any _ _ _ _ _ _ (P_12.below z.ok)
        rw [HV.out, hmk] at this
        exact this)
      have M3 : Hid (∀ z : Gw w7, Calls Try.prog 19 #[.agg #[.int .i64 pf, .int .i64 pt, .int .i64 pn, .int .i64 pl, .slice a np c, .slice b nd d], .agg #[.int .i64 qf, .int .i64 qt, .int .i64 qn, .int .i64 ql, .slice qa mp qc, .slice qb md qd]] z.toW fun r w' => r = .returned (.bool sb) ∧ Below z.toW.heap.size z.toW w') := Lib.hid (fun z => by
        have := same_pk _ _ _ _ _ _ _ _ _ _ _ (P_12.below z.ok) (Q_12.below z.ok) HPD.out HQD.out
        rw [HV.out, HW.out, hsb] at this
        exact this)
      have M4 : Hid (∀ z : Gw w7, Calls Try.prog 20 #[.agg #[.int .i64 pf, .int .i64 pt, .int .i64 pn, .int .i64 pl, .slice a np c, .slice b nd d], .agg #[.int .i64 qf, .int .i64 qt, .int .i64 qn, .int .i64 ql, .slice qa mp qc, .slice qb md qd]] z.toW fun r w' => r = .returned (.bool sb) ∧ Below z.toW.heap.size z.toW w') := Lib.hid (fun z => by
        have := rsame_pk _ _ _ _ _ _ _ _ _ _ _ (P_12.below z.ok) (Q_12.below z.ok) HPD.out HQD.out
        rw [HV.out, HW.out, hsb] at this
        exact this)
      have M5 : Hid (∀ z : Gw w7, Calls Try.prog 20 #[.agg #[.int .i64 u1, .int .i64 u2, .int .i64 u3, .int .i64 u4, .slice Ua um Uc, .slice Ub uk Ud], .agg #[.int .i64 u1, .int .i64 u2, .int .i64 u3, .int .i64 u4, .slice Va um Vc, .slice Vb uk Vd]] z.toW fun r w' => r = .returned (.bool true) ∧ Below z.toW.heap.size z.toW w') := Lib.hid (fun z => by
        have := rsame_pk _ _ _ _ _ _ _ _ _ _ _ (U_12.below z.ok) (V_12.below z.ok) HDu.out HDu.out
        rw [sameB_self] at this
        unfold Pk.vals at this
        dsimp only at this
        rw [HUu1.out, HUu2.out] at this
        exact this)
      have M6 : Hid (∀ z : Gw w7, Calls Try.prog 20 #[.agg #[.int .i64 v1, .int .i64 v2, .int .i64 v3, .int .i64 v4, .slice Sa vm Sc, .slice Sb vk Sd], .agg #[.int .i64 v1, .int .i64 v2, .int .i64 v3, .int .i64 v4, .slice Ta vm Tc, .slice Tb vk Td]] z.toW fun r w' => r = .returned (.bool true) ∧ Below z.toW.heap.size z.toW w') := Lib.hid (fun z => by
        have := rsame_pk _ _ _ _ _ _ _ _ _ _ _ (S_12.below z.ok) (T_12.below z.ok) HDv.out HDv.out
        rw [sameB_self] at this
        unfold Pk.vals at this
        dsimp only at this
        rw [HUv1.out, HUv2.out] at this
        exact this)
      have M7 : Hid (∀ z : Gw w7, Calls Try.prog 22 #[.slice pa ny pc] z.toW fun r w' => ∃ a c, r = .returned (.slice a nb c) ∧ nb ≤ c ∧ c ≤ maxLen ∧ Row w' a nb (zval BL) ∧ Below z.toW.heap.size z.toW w') := Lib.hid (fun z => by
        have := back_any pa pc pth z.toW (by rw [HNY.out]; exact hpl) (by unfold maxLen; exact hpm) (Y_12.below z.ok) HPN.out
        rw [HNY.out, hBL, hnb] at this
        refine this.mono ?_
        rintro r w' ⟨v, rfl, hv, bb⟩
        obtain ⟨a, c, rfl, h1, h2, h3⟩ := hv.row
        exact ⟨a, c, rfl, h1, h2, h3, bb⟩)
      have M8 : Hid (∀ z : Gw w7, Calls Try.prog 23 #[.slice pa ny pc] z.toW fun r w' => ∃ a c, r = .returned (.slice a nb c) ∧ nb ≤ c ∧ c ≤ maxLen ∧ Row w' a nb (zval BL) ∧ Below z.toW.heap.size z.toW w') := Lib.hid (fun z => by
        have := rback_any pa pc pth z.toW (by rw [HNY.out]; exact hpl) (by unfold maxLen; exact hpm) (Y_12.below z.ok)
        rw [HNY.out, hBL, hnb] at this
        refine this.mono ?_
        rintro r w' ⟨v, rfl, hv, bb⟩
        obtain ⟨a, c, rfl, h1, h2, h3⟩ := hv.row
        exact ⟨a, c, rfl, h1, h2, h3, bb⟩)
      have M9 : Hid (∀ (z : Gw w7) (a b : Option Addr) (c d : Nat), nb ≤ c → nb ≤ d → c ≤ maxLen → d ≤ maxLen → Row z.toW a nb (zval BL) → Row z.toW b nb (zval BL) → Calls Try.prog 21 #[.slice a nb c, .slice b nb d] z.toW fun r w' => r = .returned (.bool true) ∧ Below z.toW.heap.size z.toW w') := Lib.hid (fun z a b c d h1 h2 h3 h4 h5 h6 => by
        have := same_any a b c d BL BL z.toW (by rw [hnb]; exact h1) (by rw [hnb]; exact h2) h3 h4 (by rw [hnb]; exact h5) (by rw [hnb]; exact h6)
        rw [hnb, decide_eq_true (rfl : BL = BL)] at this
        refine this.mono ?_
        rintro r w' ⟨rfl, q, rfl⟩
        exact ⟨rfl, below_drewN (Below.refl _ _) q⟩)
      have V1 : ∀ z : Gw w7, (convert 23 9 (.slice ea ne ec)).run Try.prog z.toW = .ok (.string (bstr LE)) z.toW := fun z => by
        have := conv_b ec (E_12.below z.ok).row
        rw [HNE.out] at this
        exact this
      have V2 : ∀ z : Gw w7, (convert 23 9 (.slice fa ne fc)).run Try.prog z.toW = .ok (.string (bstr LE)) z.toW := fun z => by
        have := conv_b fc (G_12.below z.ok).row
        rw [HNE.out] at this
        exact this
      generalize bstr LE = S1 at V1 V2
      clear hmk hsb hBL hnb
      have dO80 : ∀ z : Gw w7, z.toW.cell? ⟨h, 0, none⟩ = some (.int .i64 pf) := fun z => (z.ok.cell O8_12.lt).trans (O8_12.cell 0)
      have dO81 : ∀ z : Gw w7, z.toW.cell? ⟨h, 1, none⟩ = some (.int .i64 pt) := fun z => (z.ok.cell O8_12.lt).trans (O8_12.cell 1)
      have dO82 : ∀ z : Gw w7, z.toW.cell? ⟨h, 2, none⟩ = some (.int .i64 pn) := fun z => (z.ok.cell O8_12.lt).trans (O8_12.cell 2)
      have dO83 : ∀ z : Gw w7, z.toW.cell? ⟨h, 3, none⟩ = some (.int .i64 pl) := fun z => (z.ok.cell O8_12.lt).trans (O8_12.cell 3)
      have dO84 : ∀ z : Gw w7, z.toW.cell? ⟨h, 4, none⟩ = some (.slice a np c) := fun z => (z.ok.cell O8_12.lt).trans (O8_12.cell 4)
      have dO85 : ∀ z : Gw w7, z.toW.cell? ⟨h, 5, none⟩ = some (.slice b nd d) := fun z => (z.ok.cell O8_12.lt).trans (O8_12.cell 5)
      have dO90 : ∀ z : Gw w7, z.toW.cell? ⟨h + 1, 0, none⟩ = some (.int .i64 qf) := fun z => (z.ok.cell O9_12.lt).trans (O9_12.cell 0)
      have dO91 : ∀ z : Gw w7, z.toW.cell? ⟨h + 1, 1, none⟩ = some (.int .i64 qt) := fun z => (z.ok.cell O9_12.lt).trans (O9_12.cell 1)
      have dO92 : ∀ z : Gw w7, z.toW.cell? ⟨h + 1, 2, none⟩ = some (.int .i64 qn) := fun z => (z.ok.cell O9_12.lt).trans (O9_12.cell 2)
      have dO93 : ∀ z : Gw w7, z.toW.cell? ⟨h + 1, 3, none⟩ = some (.int .i64 ql) := fun z => (z.ok.cell O9_12.lt).trans (O9_12.cell 3)
      have dO94 : ∀ z : Gw w7, z.toW.cell? ⟨h + 1, 4, none⟩ = some (.slice qa mp qc) := fun z => (z.ok.cell O9_12.lt).trans (O9_12.cell 4)
      have dO95 : ∀ z : Gw w7, z.toW.cell? ⟨h + 1, 5, none⟩ = some (.slice qb md qd) := fun z => (z.ok.cell O9_12.lt).trans (O9_12.cell 5)
      have dOU0 : ∀ z : Gw w7, z.toW.cell? ⟨gOU, 0, none⟩ = some (.int .i64 u1) := fun z => (z.ok.cell OU_12.lt).trans (OU_12.cell 0)
      have dOU1 : ∀ z : Gw w7, z.toW.cell? ⟨gOU, 1, none⟩ = some (.int .i64 u2) := fun z => (z.ok.cell OU_12.lt).trans (OU_12.cell 1)
      have dOU2 : ∀ z : Gw w7, z.toW.cell? ⟨gOU, 2, none⟩ = some (.int .i64 u3) := fun z => (z.ok.cell OU_12.lt).trans (OU_12.cell 2)
      have dOU3 : ∀ z : Gw w7, z.toW.cell? ⟨gOU, 3, none⟩ = some (.int .i64 u4) := fun z => (z.ok.cell OU_12.lt).trans (OU_12.cell 3)
      have dOU4 : ∀ z : Gw w7, z.toW.cell? ⟨gOU, 4, none⟩ = some (.slice Ua um Uc) := fun z => (z.ok.cell OU_12.lt).trans (OU_12.cell 4)
      have dOU5 : ∀ z : Gw w7, z.toW.cell? ⟨gOU, 5, none⟩ = some (.slice Ub uk Ud) := fun z => (z.ok.cell OU_12.lt).trans (OU_12.cell 5)
      have dOV0 : ∀ z : Gw w7, z.toW.cell? ⟨gOV, 0, none⟩ = some (.int .i64 u1) := fun z => (z.ok.cell OV_12.lt).trans (OV_12.cell 0)
      have dOV1 : ∀ z : Gw w7, z.toW.cell? ⟨gOV, 1, none⟩ = some (.int .i64 u2) := fun z => (z.ok.cell OV_12.lt).trans (OV_12.cell 1)
      have dOV2 : ∀ z : Gw w7, z.toW.cell? ⟨gOV, 2, none⟩ = some (.int .i64 u3) := fun z => (z.ok.cell OV_12.lt).trans (OV_12.cell 2)
      have dOV3 : ∀ z : Gw w7, z.toW.cell? ⟨gOV, 3, none⟩ = some (.int .i64 u4) := fun z => (z.ok.cell OV_12.lt).trans (OV_12.cell 3)
      have dOV4 : ∀ z : Gw w7, z.toW.cell? ⟨gOV, 4, none⟩ = some (.slice Va um Vc) := fun z => (z.ok.cell OV_12.lt).trans (OV_12.cell 4)
      have dOV5 : ∀ z : Gw w7, z.toW.cell? ⟨gOV, 5, none⟩ = some (.slice Vb uk Vd) := fun z => (z.ok.cell OV_12.lt).trans (OV_12.cell 5)
      have dOX0 : ∀ z : Gw w7, z.toW.cell? ⟨gOX, 0, none⟩ = some (.int .i64 v1) := fun z => (z.ok.cell OX_12.lt).trans (OX_12.cell 0)
      have dOX1 : ∀ z : Gw w7, z.toW.cell? ⟨gOX, 1, none⟩ = some (.int .i64 v2) := fun z => (z.ok.cell OX_12.lt).trans (OX_12.cell 1)
      have dOX2 : ∀ z : Gw w7, z.toW.cell? ⟨gOX, 2, none⟩ = some (.int .i64 v3) := fun z => (z.ok.cell OX_12.lt).trans (OX_12.cell 2)
      have dOX3 : ∀ z : Gw w7, z.toW.cell? ⟨gOX, 3, none⟩ = some (.int .i64 v4) := fun z => (z.ok.cell OX_12.lt).trans (OX_12.cell 3)
      have dOX4 : ∀ z : Gw w7, z.toW.cell? ⟨gOX, 4, none⟩ = some (.slice Sa vm Sc) := fun z => (z.ok.cell OX_12.lt).trans (OX_12.cell 4)
      have dOX5 : ∀ z : Gw w7, z.toW.cell? ⟨gOX, 5, none⟩ = some (.slice Sb vk Sd) := fun z => (z.ok.cell OX_12.lt).trans (OX_12.cell 5)
      have dOY0 : ∀ z : Gw w7, z.toW.cell? ⟨gOY, 0, none⟩ = some (.int .i64 v1) := fun z => (z.ok.cell OY_12.lt).trans (OY_12.cell 0)
      have dOY1 : ∀ z : Gw w7, z.toW.cell? ⟨gOY, 1, none⟩ = some (.int .i64 v2) := fun z => (z.ok.cell OY_12.lt).trans (OY_12.cell 1)
      have dOY2 : ∀ z : Gw w7, z.toW.cell? ⟨gOY, 2, none⟩ = some (.int .i64 v3) := fun z => (z.ok.cell OY_12.lt).trans (OY_12.cell 2)
      have dOY3 : ∀ z : Gw w7, z.toW.cell? ⟨gOY, 3, none⟩ = some (.int .i64 v4) := fun z => (z.ok.cell OY_12.lt).trans (OY_12.cell 3)
      have dOY4 : ∀ z : Gw w7, z.toW.cell? ⟨gOY, 4, none⟩ = some (.slice Ta vm Tc) := fun z => (z.ok.cell OY_12.lt).trans (OY_12.cell 4)
      have dOY5 : ∀ z : Gw w7, z.toW.cell? ⟨gOY, 5, none⟩ = some (.slice Tb vk Td) := fun z => (z.ok.cell OY_12.lt).trans (OY_12.cell 5)
      go_upto_region 9 with (fail)
      refine wp_region_grow w7 (Below.refl _ _) [.is (.agg #[.int .i64 pf, .int .i64 pt, .int .i64 pn, .int .i64 pl, .slice a np c, .slice b nd d]), .is (.bool mk), .is (.agg #[.int .i64 pf, .int .i64 pt, .int .i64 pn, .int .i64 pl, .slice a np c, .slice b nd d]), .is (.bool mk), .is (.bool false), .is (.bool false), .is (.agg #[.int .i64 pf, .int .i64 pt, .int .i64 pn, .int .i64 pl, .slice a np c, .slice b nd d]), .is (.agg #[.int .i64 qf, .int .i64 qt, .int .i64 qn, .int .i64 ql, .slice qa mp qc, .slice qb md qd]), .is (.bool sb), .is (.agg #[.int .i64 pf, .int .i64 pt, .int .i64 pn, .int .i64 pl, .slice a np c, .slice b nd d]), .is (.agg #[.int .i64 qf, .int .i64 qt, .int .i64 qn, .int .i64 ql, .slice qa mp qc, .slice qb md qd]), .is (.bool sb), .is (.bool false), .is (.bool false), .is (.bool false), .is (.slice ea ne ec), .is (.string S1), .is (.slice fa ne fc), .is (.string S1), .is (.bool false), .is (.bool false), .is (.bool false), .is (.int .i64 ce), .is (.int .i64 ce), .is (.bool false), .is (.bool false), .is (.bool false), .is (.agg #[.int .i64 u1, .int .i64 u2, .int .i64 u3, .int .i64 u4, .slice Ua um Uc, .slice Ub uk Ud]), .is (.agg #[.int .i64 u1, .int .i64 u2, .int .i64 u3, .int .i64 u4, .slice Va um Vc, .slice Vb uk Vd]), .is (.bool true), .is (.bool false), .is (.bool false), .is (.bool false), .is (.int .i64 ue), .is (.int .i64 ue), .is (.bool false), .is (.bool false), .is (.bool false), .is (.agg #[.int .i64 v1, .int .i64 v2, .int .i64 v3, .int .i64 v4, .slice Sa vm Sc, .slice Sb vk Sd]), .is (.agg #[.int .i64 v1, .int .i64 v2, .int .i64 v3, .int .i64 v4, .slice Ta vm Tc, .slice Tb vk Td]), .is (.bool true), .is (.bool false), .is (.bool false), .is (.bool false), .is (.int .i64 vy), .is (.int .i64 vy), .is (.bool false), .is (.bool false), .is (.bool false), .is (.int .i64 ve), .is (.int .i64 ve), .is (.bool false), .is (.bool false), .is (.bool false), .is (.slice pa ny pc), .rows w7 nb (zval BL), .is (.slice pa ny pc), .rows w7 nb (zval BL), .is (.bool true), .is (.bool false), .is (.bool false)] [] (by kernel_rfl) (by kernel_rfl) rfl (by kernel_rfl) ?_
      iterate 1
        refine kd_is (by rfl) (fun z hz K Q hK => ?_) ?_
        · go_big_op
          exact hK _ _ rfl rfl
        simp only [Act.put, List.setIfInBounds_toArray, List.set_cons_zero, List.set_cons_succ]
      refine kd_isc (by rfl) (fun z hz K Q hK => ?_) ?_
      · go_big_op
        refine (M1.out z).mono ?_
        rintro e w8 ⟨rfl, bb⟩
        exact hK _ _ rfl bb
      simp only [Act.put, List.setIfInBounds_toArray, List.set_cons_zero, List.set_cons_succ]
      iterate 1
        refine kd_is (by rfl) (fun z hz K Q hK => ?_) ?_
        · go_big_op
          exact hK _ _ rfl rfl
        simp only [Act.put, List.setIfInBounds_toArray, List.set_cons_zero, List.set_cons_succ]
      refine kd_isc (by rfl) (fun z hz K Q hK => ?_) ?_
      · go_big_op
        refine (M2.out z).mono ?_
        rintro e w8 ⟨rfl, bb⟩
        exact hK _ _ rfl bb
      simp only [Act.put, List.setIfInBounds_toArray, List.set_cons_zero, List.set_cons_succ]
      iterate 4
        refine kd_is (by rfl) (fun z hz K Q hK => ?_) ?_
        · go_big_op
          exact hK _ _ rfl rfl
        simp only [Act.put, List.setIfInBounds_toArray, List.set_cons_zero, List.set_cons_succ]
      refine kd_isc (by rfl) (fun z hz K Q hK => ?_) ?_
      · go_big_op
        refine (M3.out z).mono ?_
        rintro e w8 ⟨rfl, bb⟩
        exact hK _ _ rfl bb
      simp only [Act.put, List.setIfInBounds_toArray, List.set_cons_zero, List.set_cons_succ]
      iterate 2
        refine kd_is (by rfl) (fun z hz K Q hK => ?_) ?_
        · go_big_op
          exact hK _ _ rfl rfl
        simp only [Act.put, List.setIfInBounds_toArray, List.set_cons_zero, List.set_cons_succ]
      refine kd_isc (by rfl) (fun z hz K Q hK => ?_) ?_
      · go_big_op
        refine (M4.out z).mono ?_
        rintro e w8 ⟨rfl, bb⟩
        exact hK _ _ rfl bb
      simp only [Act.put, List.setIfInBounds_toArray, List.set_cons_zero, List.set_cons_succ]
      iterate 17
        refine kd_is (by rfl) (fun z hz K Q hK => ?_) ?_
        · go_big_op
          exact hK _ _ rfl rfl
        simp only [Act.put, List.setIfInBounds_toArray, List.set_cons_zero, List.set_cons_succ]
      refine kd_isc (by rfl) (fun z hz K Q hK => ?_) ?_
      · go_big_op
        refine (M5.out z).mono ?_
        rintro e w8 ⟨rfl, bb⟩
        exact hK _ _ rfl bb
      simp only [Act.put, List.setIfInBounds_toArray, List.set_cons_zero, List.set_cons_succ]
      iterate 10
        refine kd_is (by rfl) (fun z hz K Q hK => ?_) ?_
        · go_big_op
          exact hK _ _ rfl rfl
        simp only [Act.put, List.setIfInBounds_toArray, List.set_cons_zero, List.set_cons_succ]
      refine kd_isc (by rfl) (fun z hz K Q hK => ?_) ?_
      · go_big_op
        refine (M6.out z).mono ?_
        rintro e w8 ⟨rfl, bb⟩
        exact hK _ _ rfl bb
      simp only [Act.put, List.setIfInBounds_toArray, List.set_cons_zero, List.set_cons_succ]
      iterate 14
        refine kd_is (by rfl) (fun z hz K Q hK => ?_) ?_
        · go_big_op
          exact hK _ _ rfl rfl
        simp only [Act.put, List.setIfInBounds_toArray, List.set_cons_zero, List.set_cons_succ]
      refine kd_grow (by rfl) (fun z hz K Q hK => ?_) (fun x55 => ?_)
      · go_big_op
        refine (M7.out z).mono ?_
        rintro e w8 ⟨a1, c1, rfl, h1, h2, h3, bb⟩
        exact hK _ _ ⟨_, z.to w8 bb, rfl, rfl, z.to_still w8 bb, a1, c1, rfl, h1, h2, h3⟩
      simp only [Act.put, List.setIfInBounds_toArray, List.set_cons_zero, List.set_cons_succ]
      iterate 1
        refine kd_is (by rfl) (fun z hz K Q hK => ?_) ?_
        · go_big_op
          exact hK _ _ rfl rfl
        simp only [Act.put, List.setIfInBounds_toArray, List.set_cons_zero, List.set_cons_succ]
      refine kd_grow (by rfl) (fun z hz K Q hK => ?_) (fun x57 => ?_)
      · go_big_op
        refine (M8.out z).mono ?_
        rintro e w8 ⟨a1, c1, rfl, h1, h2, h3, bb⟩
        exact hK _ _ ⟨_, z.to w8 bb, rfl, rfl, z.to_still w8 bb, a1, c1, rfl, h1, h2, h3⟩
      simp only [Act.put, List.setIfInBounds_toArray, List.set_cons_zero, List.set_cons_succ]
      refine kd_isc (by rfl) (fun z hz K Q hK => ?_) ?_
      · obtain ⟨a1, c1, rfl, f1, f2, f3⟩ := fact_at hz 55 (rowS w7 nb (zval BL)) x55 (by kernel_rfl) (by kernel_rfl) (by kernel_rfl)
        obtain ⟨a2, c2, rfl, g1, g2, g3⟩ := fact_at hz 57 (rowS w7 nb (zval BL)) x57 (by kernel_rfl) (by kernel_rfl) (by kernel_rfl)
        go_big_op
        refine (M9.out z a1 a2 c1 c2 f1 g1 f2 g2 f3 g3).mono ?_
        rintro e w8 ⟨rfl, bb⟩
        exact hK _ _ rfl bb
      simp only [Act.put, List.setIfInBounds_toArray, List.set_cons_zero, List.set_cons_succ]
      iterate 2
        refine kd_is (by rfl) (fun z hz K Q hK => ?_) ?_
        · go_big_op
          exact hK _ _ rfl rfl
        simp only [Act.put, List.setIfInBounds_toArray, List.set_cons_zero, List.set_cons_succ]
      refine kd_nil (fun z hz => ?_)
      clear hz M1 M2 M3 M4 M5 M6 M7 M8 M9 V1 V2
      clear dO80 dO81 dO82 dO83 dO84 dO85
      clear dO90 dO91 dO92 dO93 dO94 dO95
      clear dOU0 dOU1 dOU2 dOU3 dOU4 dOU5
      clear dOV0 dOV1 dOV2 dOV3 dOV4 dOV5
      clear dOX0 dOX1 dOX2 dOX3 dOX4 dOX5
      clear dOY0 dOY1 dOY2 dOY3 dOY4 dOY5
      clear P_12 Q_12 Y_12 E_12 U_12 V_12 S_12 T_12 O8_12 O9_12 OU_12 OV_12 OX_12 OY_12
      have b8 := z.ok
      have Z_13 := Z_12.below b8
      have R_13 := R_12.below b8
      have G_13 := G_12.below b8
      have B_13 := B_12.trans (b8.mono s_12)
      have s_13 := Nat.le_trans s_12 b8.size
      clear Z_12 R_12 G_12 B_12 s_12 b8
      generalize z.toW = w8 at *
      obtain ⟨i0, hi0, hz0, hz1, hz2⟩ := info_parts info8b
      have bq := (Below.refl w8.heap.size w8).alloc (Nat.le_refl _) (.cells #[] 5)
      have m1 : Mine (w8.alloc (.cells #[] 5)) h 5 (.slice (some ⟨w8.heap.size, 0, none⟩) 0 0) 0 (bval []) := Mine.made (Own.new w8 5 #[]) s_13 (by decide) (Nat.le_refl _) (fun i hi => absurd hi (by omega))
      have gr : Row w8 fa ne (bval LE) := by have := G_13.row; rw [HNE.out] at this; exact this
      have hfc := G_13.cap
      unfold maxLen at hfc
      have r1 := Lib.hid (gr.below bq)
      have hne1 : ne ≤ 1000 := by have := HLE.out.1; rw [HNE.out] at this; exact this
      have n15 : (ne : Int) ≤ 9223372036854775807 := by omega
      have n16 : (fc : Int) ≤ 9223372036854775807 := by omega
      have hnm : Hid (0 + ne ≤ maxLen) := Lib.hid (by unfold maxLen; omega)
      have G2 := Lib.hid (Z_13.below bq)
      have R2 := Lib.hid (R_13.below bq)
      have B2 := B_13.trans (bq.mono s_13)
      have s2 : h ≤ (w8.alloc (.cells #[] 5)).heap.size := Nat.le_trans s_13 bq.size
      clear G_13 gr bq Z_13 R_13 B_13 s_13
      go_wp2_with (at_builtin; go_must (refine wp_app rfl (.tmp 157) (.tmp 158) _ rfl h 5 i0 _ 1 Try.underlying23 hi0 hz0 hz1 hz2 rfl _ 0 (bval []) rfl m1 _ ne _ (bval LE) rfl r1.out (fun _ _ => rfl) hnm.out ?c2 s2 ?_))
      case c2 => omega
      intro v9 w9 m9 g9
      have m10 : Mine w9 h 5 v9 ne (bval LE) := by
        have m9 : Mine w9 h 5 v9 (0 + ne) (fun i => if i < 0 then bval [] i else bval LE (i - 0)) := by first | exact m9 | simpa using m9
        rw [Nat.zero_add] at m9
        exact m9.ext (fun i hi => by rw [if_neg (by omega)]; rfl)
      have B3 : Below h w w9 := B2.grown g9 s2 (fun q hq => (m1.lt q hq).1)
      have s3 : h ≤ w9.heap.size := Nat.le_trans s2 g9.size
      have HZ0 : Hid (Row w A m (fun i => .int .i64 (Z i))) := HZ00
      have HR0 : Hid (Bs w aR cR lR) := HR00
      clear m1 m9 g9 G2 R2 B2 s2 r1 hnm
      by_cases h0 : ne = 0
      · subst h0
        obtain ⟨va, vc, rfl, _, hvm, hvr⟩ := m10.row
        have MY : Bs w9 va vc [] := ⟨Nat.zero_le _, hvm, Row.nil _ _ _⟩
        have HLY : Hid (([] : List Int).length = 0) := Lib.hid rfl
        have HOY : Hid (okD [] ∧ ([] : List Int).length ≤ 1000) := Lib.hid ⟨okD_nil, by decide⟩
        unfold maxLen at hvm
        have n17 : (vc : Int) ≤ 9223372036854775807 := by omega
        clear m10 hvr
        go_wp2_with fail
        go_loopw [199] (fun i wr => ∃ k : Nat, i = .int .i64 (k : Int) ∧ k ≤ 2 ∧ Bs wr va vc [] ∧ Below h w wr ∧ h ≤ wr.heap.size) (fun i _ => 2 - (intOf i).toNat)
        case atStart => exact ⟨0, rfl, by decide, MY, B3, s3⟩
        case round =>
          clear MY B3 s3
          obtain ⟨k, rfl, hk2, MY, B3, s3⟩ := hrel
          by_cases hlt : k < 2
          · have MR : Bs wr aR cR lR := HR0.out.below (by rw [HH.out]; exact B3)
            have hix : ∃ (B : Option Addr) (cc : Nat) (l : List Int) (nl : Nat), (∀ W, (Instr.index 39 (.agg #[.slice va 0 vc, .slice aR nR cR]) (.int .i64 (k : Int))).run Try.prog W = .ok (.slice B nl cc) W) ∧ Hid (l.length = nl) ∧ Bs wr B cc l ∧ Hid (okD l ∧ l.length ≤ 1000) := by
              match k, hlt with
              | 0, _ => exact ⟨va, vc, [], 0, fun _ => by kernel_rfl, HLY, MY, HOY⟩
              | 1, _ => exact ⟨aR, cR, lR, nR, fun _ => by kernel_rfl, HNR, MR, Lib.hid ⟨HRB.out, by rw [HNR.out]; omega⟩⟩
            obtain ⟨DB, dcc, dl, nl, hix, HNL, YL, HL⟩ := hix
            have YN := Lib.hid (fun e : DB = none => row_none YL.row e)
            have PD := dec_at DB dcc dl wr HL.out.2 YL HL.out.1 YN.out
            have PD2 := Lib.hid (fun W hY => Rq.rdec_any DB dcc dl W hY HL.out.1)
            unfold Rq.RDecPost at PD PD2
            have HKD := Lib.hid (dec_data HL.out.1)
            obtain ⟨⟨k1, k2, k3, k4, kP, kD⟩, hK⟩ : ∃ q, decK dl = q := ⟨_, rfl⟩
            obtain ⟨ke, hke⟩ : ∃ q, decE dl = q := ⟨_, rfl⟩
            obtain ⟨km, hkm⟩ : ∃ q, kP.length = q := ⟨_, rfl⟩
            obtain ⟨kk, hkk⟩ : ∃ q, kD.length = q := ⟨_, rfl⟩
            rw [hK, hke, HNL.out] at PD PD2
            rw [hK] at HKD
            unfold Pk.vals at PD PD2
            dsimp only at PD PD2 HKD
            rw [hkm, hkk] at PD PD2
            have HKM := Lib.hid hkm
            have HKK := Lib.hid hkk
            clear hK hke hkm hkk MR
            go_wp2_with fail
            refine PD.mono ?_
            rintro r z1 ⟨xa, xc, xb, xd, rfl, X1, b1⟩
            have B4 := B3.trans (b1.mono s3)
            have s4 := Nat.le_trans s3 b1.size
            have MY1 := MY.below b1
            have YL1 := YL.below b1
            have ox := Own.new z1 25 #[.int .i64 k1, .int .i64 k2, .int .i64 k3, .int .i64 k4, .slice xa km xc, .slice xb kk xd]
            have b2 := (Below.refl z1.heap.size z1).alloc (Nat.le_refl _) (.cells #[.int .i64 k1, .int .i64 k2, .int .i64 k3, .int .i64 k4, .slice xa km xc, .slice xb kk xd] 25)
            have B5 := B4.trans (b2.mono s4)
            have s5 := Nat.le_trans s4 b2.size
            have MY2 := MY1.below b2
            have YL2 := YL1.below b2
            have X2 := X1.below b2
            clear PD B3 s3 MY YL b1 B4 s4 MY1 YL1 X1 b2
            go_upto_region 25 with (fail)
            obtain ⟨gx, hgx⟩ : ∃ g, z1.heap.size = g := ⟨_, rfl⟩
            rw [hgx] at ox ⊢
            generalize z1.alloc (.cells #[.int .i64 k1, .int .i64 k2, .int .i64 k3, .int .i64 k4, .slice xa km xc, .slice xb kk xd] 25) = z2 at *
            clear hgx hix
            go_wp2_with fail
            refine (PD2.out z2 YL2).mono ?_
            rintro r z3 ⟨ua, uc, ub, ud, rfl, X3, b3⟩
            have B6 := B5.trans (b3.mono s5)
            have s6 := Nat.le_trans s5 b3.size
            have MY3 := MY2.below b3
            have X4 := X2.below b3
            have ox3 := below_own b3 ox ox.lt
            have oy := Own.new z3 25 #[.int .i64 k1, .int .i64 k2, .int .i64 k3, .int .i64 k4, .slice ua km uc, .slice ub kk ud]
            have b4 := (Below.refl z3.heap.size z3).alloc (Nat.le_refl _) (.cells #[.int .i64 k1, .int .i64 k2, .int .i64 k3, .int .i64 k4, .slice ua km uc, .slice ub kk ud] 25)
            have B7 := B6.trans (b4.mono s6)
            have s7 := Nat.le_trans s6 b4.size
            have MY4 := MY3.below b4
            have X5 := X4.below b4
            have X6 := X3.below b4
            have ox4 := below_own b4 ox3 ox3.lt
            clear PD2 B5 s5 YL2 MY2 b3 B6 s6 MY3 X4 X3 b4 ox ox3 X2
            go_upto_region 26 with (fail)
            obtain ⟨gy, hgy⟩ : ∃ g, z3.heap.size = g := ⟨_, rfl⟩
            rw [hgy] at oy ⊢
            generalize z3.alloc (.cells #[.int .i64 k1, .int .i64 k2, .int .i64 k3, .int .i64 k4, .slice ua km uc, .slice ub kk ud] 25) = z4 at *
            clear hgy
            have PS := rsame_pk _ _ _ _ _ _ _ _ _ _ _ X5 X6 HKD.out HKD.out
            rw [sameB_self] at PS
            unfold Pk.vals at PS
            dsimp only at PS
            rw [HKM.out, HKK.out] at PS
            have PSH := Lib.hid PS
            have c0 := ox4.cell 0
            have c1 := ox4.cell 1
            have c2 := ox4.cell 2
            have c3 := ox4.cell 3
            have c4 := ox4.cell 4
            have c5 := ox4.cell 5
            have d0 := oy.cell 0
            have d1 := oy.cell 1
            have d2 := oy.cell 2
            have d3 := oy.cell 3
            have d4 := oy.cell 4
            have d5 := oy.cell 5
            clear PS X5 X6 ox4 oy
            go_wp2_with fail
            refine PSH.out.mono ?_
            rintro r z5 ⟨rfl, b5⟩
            have B8 := B7.trans (b5.mono s7)
            have s8 := Nat.le_trans s7 b5.size
            have MY5 := MY4.below b5
            clear PSH c0 c1 c2 c3 c4 c5 d0 d1 d2 d3 d4 d5 B7 s7 MY4 b5
            go_wp2_with fail
            exact ⟨⟨k + 1, by simp, by omega, MY5, B8, s8⟩, by simp [intOf]; omega⟩
          · obtain rfl : k = 2 := by omega
            clear MY
            go_wp2_with fail
            refine (awake_any _).mono ?_
            rintro r z9 ⟨rfl, b9⟩
            go_wp2_with fail
            go_ret
            exact ⟨rfl, by rw [HH.out]; exact B3.trans (b9.mono s3)⟩
      · obtain ⟨gq, cs, rfl, hgb, og, hnc, hcm, _⟩ := m10.block (by omega)
        have hp : 0 < ne := by omega
        have hp' : (0 : Int) < (ne : Int) := by omega
        have e0 : decide (0 < ne) = true := by simp; omega
        have e1 : decide ((0 : Int) < (ne : Int)) = true := by simp; omega
        obtain ⟨cp, hcp⟩ : ∃ cp, cs.size = cp := ⟨_, rfl⟩
        rw [hcp] at m10 hnc hcm ⊢
        unfold maxLen at hcm
        have hcp63 : (cp : Int) ≤ 9223372036854775807 := by omega
        have HOL : Hid (okD LE) := Lib.hid HLE.out.2
        clear og hcp h0
        go_wp2_with fail
        go_loopw [166] (fun i wr => ∃ (k : Nat) (l' : List Int), i = .int .i64 (k : Int) ∧ k ≤ m ∧ Hid (l'.length = ne) ∧ Hid (okD l') ∧ Mine wr h 5 (.slice (some ⟨gq, 0, none⟩) ne cp) ne (bval l') ∧ Below h w wr ∧ h ≤ wr.heap.size) (fun i _ => m - (intOf i).toNat)
        case atStart => exact ⟨0, LE, rfl, Nat.zero_le _, HNE, HOL, m10, B3, s3⟩
        case round =>
          clear m10 B3 s3
          obtain ⟨k, l', rfl, hk, HL', HB', m3, b2, hs2⟩ := hrel
          by_cases hlt : k < m
          · obtain ⟨rb, ro, rfl, _, hrc⟩ := (HZ0.out.below (by rw [HH.out]; exact b2)) (by omega)
            have d0 : wr.cell? ⟨rb, ro + k, none⟩ = some (.int .i64 (Z k)) := hrc k hlt
            have hq0 := u64_pos (Z k)
            clear hrc
            by_cases h3 : k < 3
            · have e3 : decide (k < 3) = true := by simp; omega
              have e3' : decide ((k : Int) < 3) = true := by simp; omega
              obtain ⟨qq, hq⟩ : ∃ q, IntKind.u64.wrap (Z k) = q := ⟨_, rfl⟩
              rw [hq] at hq0
              obtain ⟨j, hj⟩ : ∃ j : Nat, qq % (ne : Int) = (j : Int) := ⟨(qq % (ne : Int)).toNat, by have := Int.emod_nonneg qq (by omega : (ne : Int) ≠ 0); omega⟩
              have hjn : j < ne := by have := Int.emod_lt_of_pos qq hp'; omega
              obtain ⟨_, _, c00, f0⟩ := m3.at_ hjn
              have hz := okD_at HB'.out j
              have c0 : wr.cell? ⟨gq, j, none⟩ = some (.int .u8 (l'.getD j 0)) := c00
              clear c00
              have hx1 := xor_in hz hx
              obtain ⟨zz, hz'⟩ : ∃ z, l'.getD j 0 = z := ⟨_, rfl⟩
              rw [hz'] at c0 hx1
              obtain ⟨y, hy⟩ : ∃ y, bits .xor .u8 zz x = y := ⟨_, rfl⟩
              rw [hy] at hx1
              have HY := Lib.hid hx1
              have m4 := Lib.hid (m3.store hjn (.int .u8 y))
              have j4 := Just.set gq wr j (.int .u8 y)
              have b4 := Lib.hid (j4.below b2 hgb hs2)
              have s4 := Nat.le_trans hs2 j4.size
              clear m3 hz hz' hx1 j4 b2 hs2
              go_wp2_with fail
              refine ⟨⟨k + 1, l'.set j y, by simp, by omega, Lib.hid (by rw [List.length_set]; exact HL'.out), Lib.hid (okD_set HB'.out j HY.out), m4.out.ext (fun i hi => ?_), b4.out, s4⟩, by simp [intOf]; omega⟩
              unfold bval
              rw [getD_setL]
              by_cases e : i = j
              · rw [if_pos e, if_pos ⟨e.symm, by rw [HL'.out]; omega⟩]
              · rw [if_neg e, if_neg (fun q => e q.1.symm)]
            · have e3 : decide (k < 3) = false := by simp; omega
              have e3' : decide ((k : Int) < 3) = false := by simp; omega
              go_wp2_with fail
              exact ⟨⟨k + 1, l', by simp, by omega, HL', HB', m3, b2, hs2⟩, by simp [intOf]; omega⟩
          · obtain rfl : k = m := by omega
            obtain ⟨qq, hq⟩ : ∃ q, IntKind.u64.wrap cut = q := ⟨_, rfl⟩
            have hq0 := u64_pos cut
            rw [hq] at hq0
            obtain ⟨j, hj⟩ : ∃ j : Nat, qq % (ne : Int) = (j : Int) := ⟨(qq % (ne : Int)).toNat, by have := Int.emod_nonneg qq (by omega : (ne : Int) ≠ 0); omega⟩
            have hjn : j < ne := by have := Int.emod_lt_of_pos qq hp'; omega
            obtain ⟨yn, hyn⟩ : ∃ y, ne - j = y := ⟨_, rfl⟩
            have hyn63 : (yn : Int) ≤ 9223372036854775807 := by omega
            have hlen := HL'.out
            have hmin : (l'.take yn).length = yn := by rw [List.length_take]; omega
            have hBs := m3.rowAt
            have MY : Bs wr (some ⟨gq, 0, none⟩) cp (l'.take yn) := ⟨by rw [hmin]; omega, by unfold maxLen; omega, by
              rw [hmin]
              refine fun h0 => ?_
              obtain ⟨b1, o1, e1, e2, e3⟩ := hBs hp
              exact ⟨b1, o1, e1, e2, fun i hi => by rw [e3 i (by omega)]; unfold bval; rw [List.getD_eq_getElem?_getD, List.getD_eq_getElem?_getD, List.getElem?_take, if_pos hi]⟩⟩
            have HLY : Hid ((l'.take yn).length = yn) := Lib.hid hmin
            have HOY : Hid (okD (l'.take yn) ∧ (l'.take yn).length ≤ 1000) := Lib.hid ⟨fun x hx => HB'.out x (List.mem_of_mem_take hx), by rw [hmin]; omega⟩
            obtain ⟨LY, hLY⟩ : ∃ l, l'.take yn = l := ⟨_, rfl⟩
            rw [hLY] at MY HLY HOY
            have B3 := b2
            have s3 := hs2
            clear hLY hlen hmin hBs m3 b2 hs2
            go_wp2_with fail
            clear hyn hq hj
            go_loopw [199] (fun i wr => ∃ k : Nat, i = .int .i64 (k : Int) ∧ k ≤ 2 ∧ Bs wr (some ⟨gq, 0, none⟩) cp LY ∧ Below h w wr ∧ h ≤ wr.heap.size) (fun i _ => 2 - (intOf i).toNat)
            case atStart => exact ⟨0, rfl, by decide, MY, B3, s3⟩
            case round =>
              clear MY B3 s3
              obtain ⟨k, rfl, hk2, MY, B3, s3⟩ := hrel
              by_cases hlt : k < 2
              · have MR : Bs wr aR cR lR := HR0.out.below (by rw [HH.out]; exact B3)
                have hix : ∃ (B : Option Addr) (cc : Nat) (l : List Int) (nl : Nat), (∀ W, (Instr.index 39 (.agg #[.slice (some ⟨gq, 0, none⟩) yn cp, .slice aR nR cR]) (.int .i64 (k : Int))).run Try.prog W = .ok (.slice B nl cc) W) ∧ Hid (l.length = nl) ∧ Bs wr B cc l ∧ Hid (okD l ∧ l.length ≤ 1000) := by
                  match k, hlt with
                  | 0, _ => exact ⟨(some ⟨gq, 0, none⟩), cp, LY, yn, fun _ => by kernel_rfl, HLY, MY, HOY⟩
                  | 1, _ => exact ⟨aR, cR, lR, nR, fun _ => by kernel_rfl, HNR, MR, Lib.hid ⟨HRB.out, by rw [HNR.out]; omega⟩⟩
                obtain ⟨DB, dcc, dl, nl, hix, HNL, YL, HL⟩ := hix
                have YN := Lib.hid (fun e : DB = none => row_none YL.row e)
                have PD := dec_at DB dcc dl wr HL.out.2 YL HL.out.1 YN.out
                have PD2 := Lib.hid (fun W hY => Rq.rdec_any DB dcc dl W hY HL.out.1)
                unfold Rq.RDecPost at PD PD2
                have HKD := Lib.hid (dec_data HL.out.1)
                obtain ⟨⟨k1, k2, k3, k4, kP, kD⟩, hK⟩ : ∃ q, decK dl = q := ⟨_, rfl⟩
                obtain ⟨ke, hke⟩ : ∃ q, decE dl = q := ⟨_, rfl⟩
                obtain ⟨km, hkm⟩ : ∃ q, kP.length = q := ⟨_, rfl⟩
                obtain ⟨kk, hkk⟩ : ∃ q, kD.length = q := ⟨_, rfl⟩
                rw [hK, hke, HNL.out] at PD PD2
                rw [hK] at HKD
                unfold Pk.vals at PD PD2
                dsimp only at PD PD2 HKD
                rw [hkm, hkk] at PD PD2
                have HKM := Lib.hid hkm
                have HKK := Lib.hid hkk
                clear hK hke hkm hkk MR
                go_wp2_with fail
                refine PD.mono ?_
                rintro r z1 ⟨xa, xc, xb, xd, rfl, X1, b1⟩
                have B4 := B3.trans (b1.mono s3)
                have s4 := Nat.le_trans s3 b1.size
                have MY1 := MY.below b1
                have YL1 := YL.below b1
                have ox := Own.new z1 25 #[.int .i64 k1, .int .i64 k2, .int .i64 k3, .int .i64 k4, .slice xa km xc, .slice xb kk xd]
                have b2 := (Below.refl z1.heap.size z1).alloc (Nat.le_refl _) (.cells #[.int .i64 k1, .int .i64 k2, .int .i64 k3, .int .i64 k4, .slice xa km xc, .slice xb kk xd] 25)
                have B5 := B4.trans (b2.mono s4)
                have s5 := Nat.le_trans s4 b2.size
                have MY2 := MY1.below b2
                have YL2 := YL1.below b2
                have X2 := X1.below b2
                clear PD B3 s3 MY YL b1 B4 s4 MY1 YL1 X1 b2
                go_upto_region 25 with (fail)
                obtain ⟨gx, hgx⟩ : ∃ g, z1.heap.size = g := ⟨_, rfl⟩
                rw [hgx] at ox ⊢
                generalize z1.alloc (.cells #[.int .i64 k1, .int .i64 k2, .int .i64 k3, .int .i64 k4, .slice xa km xc, .slice xb kk xd] 25) = z2 at *
                clear hgx hix
                go_wp2_with fail
                refine (PD2.out z2 YL2).mono ?_
                rintro r z3 ⟨ua, uc, ub, ud, rfl, X3, b3⟩
                have B6 := B5.trans (b3.mono s5)
                have s6 := Nat.le_trans s5 b3.size
                have MY3 := MY2.below b3
                have X4 := X2.below b3
                have ox3 := below_own b3 ox ox.lt
                have oy := Own.new z3 25 #[.int .i64 k1, .int .i64 k2, .int .i64 k3, .int .i64 k4, .slice ua km uc, .slice ub kk ud]
                have b4 := (Below.refl z3.heap.size z3).alloc (Nat.le_refl _) (.cells #[.int .i64 k1, .int .i64 k2, .int .i64 k3, .int .i64 k4, .slice ua km uc, .slice ub kk ud] 25)
                have B7 := B6.trans (b4.mono s6)
                have s7 := Nat.le_trans s6 b4.size
                have MY4 := MY3.below b4
                have X5 := X4.below b4
                have X6 := X3.below b4
                have ox4 := below_own b4 ox3 ox3.lt
                clear PD2 B5 s5 YL2 MY2 b3 B6 s6 MY3 X4 X3 b4 ox ox3 X2
                go_upto_region 26 with (fail)
                obtain ⟨gy, hgy⟩ : ∃ g, z3.heap.size = g := ⟨_, rfl⟩
                rw [hgy] at oy ⊢
                generalize z3.alloc (.cells #[.int .i64 k1, .int .i64 k2, .int .i64 k3, .int .i64 k4, .slice ua km uc, .slice ub kk ud] 25) = z4 at *
                clear hgy
                have PS := rsame_pk _ _ _ _ _ _ _ _ _ _ _ X5 X6 HKD.out HKD.out
                rw [sameB_self] at PS
                unfold Pk.vals at PS
                dsimp only at PS
                rw [HKM.out, HKK.out] at PS
                have PSH := Lib.hid PS
                have c0 := ox4.cell 0
                have c1 := ox4.cell 1
                have c2 := ox4.cell 2
                have c3 := ox4.cell 3
                have c4 := ox4.cell 4
                have c5 := ox4.cell 5
                have d0 := oy.cell 0
                have d1 := oy.cell 1
                have d2 := oy.cell 2
                have d3 := oy.cell 3
                have d4 := oy.cell 4
                have d5 := oy.cell 5
                clear PS X5 X6 ox4 oy
                go_wp2_with fail
                refine PSH.out.mono ?_
                rintro r z5 ⟨rfl, b5⟩
                have B8 := B7.trans (b5.mono s7)
                have s8 := Nat.le_trans s7 b5.size
                have MY5 := MY4.below b5
                clear PSH c0 c1 c2 c3 c4 c5 d0 d1 d2 d3 d4 d5 B7 s7 MY4 b5
                go_wp2_with fail
                exact ⟨⟨k + 1, by simp, by omega, MY5, B8, s8⟩, by simp [intOf]; omega⟩
              · obtain rfl : k = 2 := by omega
                clear MY
                go_wp2_with fail
                refine (awake_any _).mono ?_
                rintro r z9 ⟨rfl, b9⟩
                go_wp2_with fail
                go_ret
                exact ⟨rfl, by rw [HH.out]; exact B3.trans (b9.mono s3)⟩

theorem walk (H : Type) (enc : TypeId × Value → H) : Walk H enc Try.prog 3 Try.f3 := by
  intro W base args ds p hval hA
  rw [Try.params3] at hA hval
  obtain ⟨v0, vs, d0, ds', p0, q0, e0, rfl, rfl, h0, hA⟩ := trodAll_cons hA
  obtain ⟨v1, vs1, d1, ds1, p1, q1, rfl, rfl, rfl, h1, hA⟩ := trodAll_cons hA
  obtain ⟨v2, vs2, d2, ds2, p2, q2, rfl, rfl, rfl, h2, hA⟩ := trodAll_cons hA
  obtain ⟨v3, vs3, d3, ds3, p3, q3, rfl, rfl, rfl, h3, hA⟩ := trodAll_cons hA
  obtain ⟨v4, vs4, d4, ds4, p4, q4, rfl, rfl, rfl, h4, hA⟩ := trodAll_cons hA
  obtain ⟨v5, vs5, d5, ds5, p5, q5, rfl, rfl, rfl, h5, hA⟩ := trodAll_cons hA
  obtain ⟨v6, vs6, d6, ds6, p6, q6, rfl, rfl, rfl, h6, hA⟩ := trodAll_cons hA
  obtain ⟨v7, vs7, d7, ds7, p7, q7, rfl, rfl, rfl, h7, hA⟩ := trodAll_cons hA
  obtain ⟨rfl, rfl, rfl⟩ := trodAll_nil hA
  obtain ⟨l⟩ := args
  dsimp only at e0
  subst e0
  obtain ⟨pk, a, c, b, d, rfl, hat, hwf⟩ := open_packet (hval 0 _ v0 rfl rfl) h0
  obtain ⟨qk, qa, qc, qb, qd, rfl, kat, kwf⟩ := open_packet (hval 1 _ v1 rfl rfl) h1
  obtain ⟨me, rfl, rfl, rfl, _⟩ := open_int Try.underlying3 (hval 2 _ v2 rfl rfl) h2
  obtain ⟨pa, pth, pc, rfl, y1, y2, y3, y4⟩ := open_ints (hval 3 _ v3 rfl rfl) h3
  obtain ⟨A, m, C, Z, rfl, hm, hC, hZ, _⟩ := open_row_int Try.underlying22 Try.underlying3 (by kernel_rfl) (hval 4 _ v4 rfl rfl) h4
  obtain ⟨x, rfl, rfl, rfl, w5⟩ := open_int Try.underlying5 (hval 5 _ v5 rfl rfl) h5
  obtain ⟨cut, rfl, rfl, rfl, _⟩ := open_int Try.underlying3 (hval 6 _ v6 rfl rfl) h6
  obtain ⟨aR, lR, cR, rfl, k1, k2, k3, k4, k5⟩ := open_bytes (hval 7 _ v7 rfl rfl) h7
  exact body pk qk a c b d qa qc qb qd me pa pth pc A m C Z x cut aR lR cR W hat hwf.data kat kwf.data y1 y2 y3 y4 hm hC hZ (Lb.u8_bd w5) ⟨k1, k2, k3⟩ k5 k4

set_option maxRecDepth 100000 in
theorem lifted (os : Os) (started : os.Started) (H : Type) (enc : TypeId × Value → H) :
    ReturnsInHanded {} Try.checked os 3 .any (Rows.routeFormsSpec.pre6 enc Try.prog Try.f3 Rows.routeFormsRow.domain false) (Rows.routeFormsSpec.post enc Try.prog Try.f3 false true false false) :=
  returnsInHanded_of_change (C := Try.checked) own started (by kernel_rfl) Try.func3
    (ChangeSpec.witness6 (enc := enc) (C := Try.checked) false ⟨#[], #[.agg #[.int .i64 0, .int .i64 0, .int .i64 0, .int .i64 0, .slice none 0 0, .slice none 0 0], (.agg #[.int .i64 0, .int .i64 0, .int .i64 0, .int .i64 0, .slice none 0 0, .slice none 0 0]), (.int .i64 0), (.slice none 0 0), (.slice none 0 0), (.int .u8 0), (.int .i64 0), (.slice none 0 0)], []⟩ 8 (by kernel_rfl) (by kernel_rfl) (by kernel_rfl) (by kernel_rfl))
    fun W base args ds gs before hval hW _ _ => step_of_walk laidOut (by rw [Try.params3]; exact of_decide_eq_true (by kernel_rfl)) (by kernel_rfl) Try.underlying4 rfl
      (fun ds h => by
        rw [Try.params3] at h
        match ds, h with
        | [_, _, _, _, _, _, _, _], _ => rfl) (walk H enc) W base args ds gs before hval hW

theorem holds : Rows.RouteFormsSaid :=
  OpenClaim.holds_of_wide 3 Try.f3 rfl rfl rfl rfl rfl rfl rfl ⟨rfl, rfl, rfl, rfl, rfl⟩ rfl rfl rfl rfl rfl (by kernel_rfl) Try.func3 (by kernel_rfl)
    (of_decide_eq_true (by kernel_rfl)) (by unfold Func.isWrapper; first | (rw [if_pos (by decide +kernel)]; kernel_rfl) | (rw [if_neg (by decide +kernel)]; exact ⟨rfl, rfl⟩))
    (fun os started H enc _ => lifted os started H enc)
#print axioms holds
end Go.Proofs.Ytcpmnfoenpdaeaa.RouteForms
