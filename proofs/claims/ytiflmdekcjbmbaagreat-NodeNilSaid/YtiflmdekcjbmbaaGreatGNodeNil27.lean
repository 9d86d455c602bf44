/-
  A node (chapter 24): the one that every program must know.
-/
import Derived.Test.YtiflmdekcjbmbaaGreatGNodeNil24
import Derived.Test.YtiflmdekcjbmbaaGreatGNodeNil26
set_option maxRecDepth 100000
namespace Go.Proofs.YtiflmdekcjbmbaaGreat.Nd
set_option linter.unusedVariables false
set_option linter.unusedSimpArgs false
open Go.RowKit Lb Ie Fm

/-- A mesh that may be, as its parts. -/
theorem okc_may {x : Cx} (h : mayQ x = true) : Okc x.cfg := by
  unfold mayQ at h
  simp only [Bool.and_eq_true] at h
  obtain ⟨h1, _, h3, h4, h5, h6, h7, h8, h9⟩ := h
  unfold inB at h1 h4 h5 h6 h7 h8 h9
  rw [decide_eq_true_eq] at h1 h4 h5 h6 h7 h8 h9
  exact ⟨h1, h3, h4, h5, h6, h7, h8, h9⟩
theorem fit_fresh {x : Cx} {id : Int} (h : newB x id = true) : Fit (fresh0 x.cfg id (id == 0)) := by
  unfold newB at h
  rw [Bool.and_eq_true] at h
  obtain ⟨h1, h2⟩ := h
  have hc := okc_may h1
  unfold inB at h2
  rw [decide_eq_true_eq] at h2
  have hg : Dp.AllG (fun _ => 0) (fun _ => 0) := fun _ => Dp.good_zero 0
  exact ⟨hc, ⟨h2.1, by show id < x.nodes; omega⟩, by simp [fresh0], by simp [fresh0], by simp [fresh0], by simp [fresh0], by have := hc.queue; show (0 : Int) ≤ x.cfg.queue; omega, by simp [fresh0], by simp [fresh0], hg, hg, hg, by simp [fresh0], by simp [fresh0], by simp [fresh0], by simp [fresh0], fun e => ⟨by show (id == 0) = true; rw [show id = 0 from e]; rfl, rfl, rfl⟩, by simp [fresh0]⟩
theorem len_next {s : Ns} {asn : Int} (f : Fit s) (ha : 0 ≤ asn ∧ asn < 1099511627776) : (encF (nextF0 s asn)).length ≤ 100000 := by
  obtain ⟨m1, m2, m3, m4, m5, m6⟩ := mayF_out (may_next f ha)
  have h5 := (encI_ok m4).2
  have h7 := encF_len (nextF0 s asn)
  omega
theorem chan24 {x : Cx} (hh : x.hops = [11, 15, 20]) : chanN (fresh0 x.cfg 0 (0 == 0)) 0 = 11 := by
  have e : (fresh0 x.cfg 0 (0 == 0)).c.hops = [11, 15, 20] := hh
  unfold chanN
  rw [e]
  decide
/-- What it sends in slot 0. -/
def LL24 (x : Cx) : List Int := encF (nextF0 (fresh0 x.cfg 0 (0 == 0)) 0)
theorem plan24 {x : Cx} {w : World} {b : Nat} {h : Hm} (hn : newB x 0 = true) (hh : x.hops = [11, 15, 20]) (n : Nd w b (fresh0 x.cfg 0 (0 == 0)) h) :
    Calls Tryz.prog 19 #[.pointer (some ⟨b, 0, none⟩), .int .i64 0] w fun r w' => ∃ a c, r = .returned (.tuple #[.int .i64 11, .slice a (LL24 x).length c]) ∧ (LL24 x).length ≤ c ∧ c ≤ maxLen ∧ Row w' a (LL24 x).length (bval (LL24 x)) ∧ (∃ s, s.inT = true ∧ Nd w' b s h) ∧ Mv (h.ex b) (h.ex b) w w' := by
  have := plan0_any n (fit_fresh hn) rfl rfl 0 (by decide) (by simp)
  rw [chan24 hh] at this
  exact this.mono (fun r w' ⟨a, c, h1, h2, h3, h4, h5, h6⟩ => ⟨a, c, h1, h2, h3, h4, ⟨_, rfl, h5⟩, h6⟩)
theorem dec24 {x : Cx} (hn : newB x 0 = true) : okD' (LL24 x) ∧ (LL24 x).length ≤ 100000 ∧ decF (LL24 x) = .ok (nextF0 (fresh0 x.cfg 0 (0 == 0)) 0) :=
  ⟨encF_ok (may_next (fit_fresh hn) (by decide)) okD_nil, len_next (fit_fresh hn) (by decide), decF_enc (may_next (fit_fresh hn) (by decide)) okD_nil⟩
theorem Mv.down {E E' : Nat → Prop} {w w' : World} {base : Nat} (m : Mv E E' w w') (h : ∀ q, E q → base ≤ q) (hb : base ≤ w.heap.size) : Below base w w' :=
  ⟨m.os, m.tape, m.output, m.size, fun q hq => m.keep q (by omega) (fun e => by have := h q e; omega)⟩
set_option maxHeartbeats 1000000 in
theorem awake24_any (w : World) : Calls Tryz.prog 11 #[] w fun r w' => r = .returned (.bool true) ∧ Below w.heap.size w w' := by
  go_enter Tryz.func11, Tryz.ntmps11
  go_wp2_with fail
  refine (config_any 3 1 5 5 5 5 1 w).mono ?_
  rintro r w1 ⟨x, rfl, hx, hm, hh, b1⟩
  have hnew : newB x 0 = true := by
    unfold newB inB
    rw [hm]
    have := (mayQ_parts hm).1
    simp
    omega
  have PN := newn_any x 0 w1 hx
  have HM := Lib.hid (And.intro hnew hh)
  obtain ⟨C, hC⟩ : ∃ C : Array Value, #[.int .i64 x.nodes, .slice x.na x.nn x.nc, .slice x.ha x.hops.length x.hc, .int .i64 x.guard, .int .i64 x.err, .int .i64 x.keep, .int .i64 x.loss, .int .i64 x.queue, .int .i64 x.life] = C := ⟨_, rfl⟩
  rw [hC] at PN ⊢
  clear hC hm hh hx hnew
  go_wp2_with fail
  refine PN.mono ?_
  rintro r w2 hN
  unfold NewPost at hN
  rw [if_pos HM.out.1] at hN
  obtain ⟨b, h, rfl, n2, hex, b2⟩ := hN
  have bb2 := b1.trans (b2.mono b1.size)
  have HP := Lib.hid (plan24 HM.out.1 HM.out.2 n2)
  clear PN
  have PP := HP.out
  clear HP
  clear n2
  go_wp2_with fail
  refine PP.mono ?_
  rintro r w3 ⟨a, c, rfl, v1, v2, v3, ⟨s, hT, n3⟩, m3⟩
  have bb3 : Below w.heap.size w w3 := bb2.trans (m3.down (fun q e => Nat.le_trans b1.size (hex q e)) bb2.size)
  obtain ⟨d1, d2, d3⟩ := dec24 HM.out.1
  have PD := rdecF_any a c (LL24 x) w3 v1 v2 d2 v3 d1
  have HN := Lib.hid n3
  have HT := Lib.hid hT
  have HD := Lib.hid d3
  obtain ⟨LL, hLL⟩ : ∃ q, LL24 x = q := ⟨_, rfl⟩
  rw [hLL] at PD HD ⊢
  obtain ⟨nl, hnl⟩ : ∃ q, LL.length = q := ⟨_, rfl⟩
  rw [hnl] at PD ⊢
  clear hLL hnl m3 v1 v2 v3 hT n3 d1 d2 d3 b1 b2 bb2 hex PP
  clear w2 w1
  go_wp2_with fail
  refine PD.mono ?_
  rintro r w4 hR
  unfold DecFPost at hR
  rw [HD.out] at hR
  obtain ⟨p, hf, rfl, hat, b4⟩ := hR
  have e0 : p.k = 3 := congrArg Fr.k hf
  have e1 : p.L.length = 2 := by
    have := congrArg List.length (congrArg Fr.ies hf)
    rwa [show p.fr.ies = els p.L from rfl, els_len] at this
  obtain ⟨pk, ps, pd, pq, pL, pa, pc, pdata, pb, pe⟩ := p
  dsimp only at e0 e1
  subst e0
  obtain ⟨nn, hnn⟩ : ∃ q, pdata.length = q := ⟨_, rfl⟩
  simp only [Fp.vals, e1, hnn]
  have bb4 := bb3.trans (b4.mono bb3.size)
  have n4 := HN.out.below b4
  clear hf e1 hnn PD HD b4 bb3 HN hat
  clear w3
  have o5 := Own.new w4 37 #[.int .i64 3, .int .i64 ps, .int .i64 pd, .int .i64 pq, .slice pa 2 pc, .slice pb nn pe]
  have b5 := (Below.refl w4.heap.size w4).alloc (Nat.le_refl _) (.cells #[.int .i64 3, .int .i64 ps, .int .i64 pd, .int .i64 pq, .slice pa 2 pc, .slice pb nn pe] 37)
  have bb5 := bb4.trans (b5.mono bb4.size)
  have PS := synced_any (n4.below b5)
  rw [HT.out] at PS
  clear n4 b5 bb4
  go_upto_region 4 with (fail)
  obtain ⟨tb, htb⟩ : ∃ q, w4.heap.size = q := ⟨_, rfl⟩
  rw [htb] at o5 ⊢
  generalize w4.alloc (.cells #[.int .i64 3, .int .i64 ps, .int .i64 pd, .int .i64 pq, .slice pa 2 pc, .slice pb nn pe] 37) = w5 at *
  have c0 : w5.cell? ⟨tb, 0, none⟩ = some (.int .i64 3) := o5.cell 0
  have c4 : w5.cell? ⟨tb, 4, none⟩ = some (.slice pa 2 pc) := o5.cell 4
  clear htb o5
  clear w4
  go_wp2_with fail
  refine PS.mono ?_
  rintro r w6 ⟨rfl, rfl⟩
  clear PS
  go_wp2_with fail
  go_ret
  exact ⟨rfl, bb5⟩
end Go.Proofs.YtiflmdekcjbmbaaGreat.Nd
