/-
  Law RouteBack: what is encoded is decoded as it was; what is decoded, of whatever bytes, is encoded as these; the way back's way back is the way; the call returns true. No condition.
-/
import Derived.Test.YtcpmnfoenpdaeaaRtBackM
import Derived.Test.YtcpmnfoenpdaeaaRtRSame
import Derived.Test.YtcpmnfoenpdaeaaRtAwake
import Derived.Test.YtcpmnfoenpdaeaaExt
set_option maxRecDepth 100000
namespace Go.Proofs.Ytcpmnfoenpdaeaa.RouteBack
set_option linter.unusedVariables false
open Go.RowKit Go.ChangeShapes Go.WideShapes Go.ChangeAt Go.Deep Lb Rt
set_option linter.unusedVariables false
theorem own : ownKnob Try.prog.godebug = none := by kernel_rfl
theorem laidOut : laidOutB Try.prog = true := by kernel_rfl
def encE (p : Pk) : List Int := if mayK p = true then encB p else []
def errE (p : Pk) : Int := if mayK p = true then 0 else 1
theorem enc_both (p : Pk) (a : Option Addr) (c : Nat) (b : Option Addr) (d : Nat) (w : World) (h : p.At w a c b d) (hp : okD p.data) :
    Calls Try.prog 11 #[.agg (p.vals a c b d)] w fun r w' => ∃ ea ec, r = .returned (.tuple #[.slice ea (encE p).length ec, .int .i64 (errE p)]) ∧ Row w' ea (encE p).length (bval (encE p)) ∧ okD (encE p) ∧ (encE p).length ≤ 1000 ∧ Below w.heap.size w w' := by
  refine (encode_any p a c b d w h hp).mono ?_
  rintro r w' he
  unfold EncPost at he
  unfold encE errE
  cases hm : mayK p
  · rw [hm, if_neg (by decide)] at he
    obtain ⟨rfl, b3⟩ := he
    exact ⟨none, 0, rfl, Row.nil _ _ _, fun x hx => (by cases hx), Nat.zero_le _, b3⟩
  · rw [hm, if_pos rfl] at he
    obtain ⟨ea, ec, rfl, _, _, hr, b3⟩ := he
    have h16 := (okP_out (mayK_all hm).2.2.2.2.2.1).1
    have hl := encB_len p
    have hk := mayK_all hm
    exact ⟨ea, ec, rfl, hr, encB_bytes hm hp, (by rw [if_pos rfl]; omega), b3⟩
set_option maxHeartbeats 4000000 in
theorem body (p : Pk) (L : List Int) (a : Option Addr) (c : Nat) (b : Option Addr) (d : Nat) (ra : Option Addr) (rc : Nat) (w : World) (h : p.At w a c b d) (hp : okD p.data) (hrc : L.length ≤ rc) (hrm : rc ≤ maxLen) (hR : Row w ra L.length (bval L)) (hra : ra = none → L.length = 0) (hB : okD L) :
    Calls Try.prog 4 #[.agg (p.vals a c b d), .slice ra L.length rc] w fun r w' => r = .returned (.bool true) ∧ Below w.heap.size w w' := by
  have o1 : Lb.Own (w.alloc (.cells (p.vals a c b d) 25)) w.heap.size 25 (p.vals a c b d) := Own.new w _ _
  have b0 := (Below.refl w.heap.size w).alloc (Nat.le_refl _) (.cells (p.vals a c b d) 25)
  obtain ⟨n, hn⟩ : ∃ n, L.length = n := ⟨_, rfl⟩
  have HN := Lib.hid hn
  have hcv : ∀ W, Below w.heap.size w W → (convert 23 9 (.slice ra n rc)).run Try.prog W = .ok (.string (bstr L)) W := fun W hW => by
    have := conv_b (l := L) rc (hR.below hW)
    rw [hn] at this
    exact this
  have hdec : n ≤ 200 → ∀ W, Below w.heap.size w W → Calls Try.prog 24 #[.slice ra n rc] W (DecPost L W) := fun h200 W hW => by
    have := dec_any ra rc L W (by omega) (hR.below hW) hB hra
    rw [hn] at this
    exact this
  have HCV := Lib.hid hcv
  have HDEC := Lib.hid hdec
  rw [hn]
  clear hn hcv hdec hR
  go_enter Try.func4, Try.ntmps4
  go_upto_region 1 with (fail)
  generalize w.alloc (.cells (p.vals a c b d) 25) = w1 at *
  have hs1 : w.heap.size < w1.heap.size := o1.lt
  have x0 : w1.cell? ⟨w.heap.size, 0, none⟩ = some (.int .i64 p.f) := o1.cell 0
  have x1 : w1.cell? ⟨w.heap.size, 1, none⟩ = some (.int .i64 p.t) := o1.cell 1
  have x2 : w1.cell? ⟨w.heap.size, 2, none⟩ = some (.int .i64 p.n) := o1.cell 2
  have x3 : w1.cell? ⟨w.heap.size, 3, none⟩ = some (.int .i64 p.life) := o1.cell 3
  have x4 : w1.cell? ⟨w.heap.size, 4, none⟩ = some (.slice a p.path.length c) := o1.cell 4
  have x5 : w1.cell? ⟨w.heap.size, 5, none⟩ = some (.slice b p.data.length d) := o1.cell 5
  go_wp2_with fail
  refine (light_any p a c b d w1).mono ?_
  rintro r w2 ⟨rfl, b2'⟩
  have o1 := below_own b2' o1 hs1
  have b0 := b0.trans (b2'.mono (by omega))
  have hs1 : w.heap.size < w2.heap.size := o1.lt
  clear x0 x1 x2 x3 x4 x5 b2'
  cases hlg : lightB p
  · go_wp2_with fail
    refine (awake_any _).mono ?_
    rintro r w9 ⟨rfl, b9⟩
    go_wp2_with fail
    go_ret
    exact ⟨rfl, b0.trans (b9.mono (by omega))⟩
  have HLG := Lib.hid hlg
  clear hlg
  by_cases h200 : 200 < n
  · have g1 : decide (200 < n) = true := by simpa using h200
    have g2 : decide ((200 : Int) < (n : Int)) = true := by simp; omega
    go_wp2_with fail
    refine (awake_any _).mono ?_
    rintro r w9 ⟨rfl, b9⟩
    go_wp2_with fail
    go_ret
    exact ⟨rfl, b0.trans (b9.mono (by omega))⟩
  have g1 : decide (200 < n) = false := by simpa using h200
  have g2 : decide ((200 : Int) < (n : Int)) = false := by simp; omega
  have HDEC2 := Lib.hid (HDEC.out (by omega))
  have x0 : w2.cell? ⟨w.heap.size, 0, none⟩ = some (.int .i64 p.f) := o1.cell 0
  have x1 : w2.cell? ⟨w.heap.size, 1, none⟩ = some (.int .i64 p.t) := o1.cell 1
  have x2 : w2.cell? ⟨w.heap.size, 2, none⟩ = some (.int .i64 p.n) := o1.cell 2
  have x3 : w2.cell? ⟨w.heap.size, 3, none⟩ = some (.int .i64 p.life) := o1.cell 3
  have x4 : w2.cell? ⟨w.heap.size, 4, none⟩ = some (.slice a p.path.length c) := o1.cell 4
  have x5 : w2.cell? ⟨w.heap.size, 5, none⟩ = some (.slice b p.data.length d) := o1.cell 5
  clear h200 HDEC
  go_wp2_with fail
  refine (enc_both p a c b d w2 (h.below b0) hp).mono ?_
  rintro r w3 ⟨ea, ec, rfl, hrow, hok, hlen, b3⟩
  clear x0 x1 x2 x3 x4 x5 g1 g2
  have o1 := below_own b3 o1 hs1
  have b0 := b0.trans (b3.mono (by omega))
  have hs1 : w.heap.size < w3.heap.size := o1.lt
  have hd1 := dec_any ea ec (encE p) w3 (by omega) hrow hok (row_none hrow)
  have HD1 := Lib.hid hd1
  obtain ⟨m, hm⟩ : ∃ m, (encE p).length = m := ⟨_, rfl⟩
  rw [hm] at HD1
  rw [hm]
  obtain ⟨e1, he1⟩ : ∃ e1, errE p = e1 := ⟨_, rfl⟩
  have HE1 := Lib.hid he1
  rw [he1]
  clear b3 hd1 hrow hok hlen hm he1
  go_wp2_with fail
  refine HD1.out.mono ?_
  rintro r w4 ⟨P, a2, c2, b2, d2, e2, rfl, ow, b4, hcase⟩
  have o1 := below_own b4 o1 hs1
  have b0 := b0.trans (b4.mono (by omega))
  have ow := ow.below ((Below.refl w4.heap.size w4).alloc (Nat.le_refl _) (.cells (P.vals a2 c2 b2 d2) 25))
  have o2 := Own.new w4 25 (P.vals a2 c2 b2 d2)
  have o1 := o1.alloc (.cells (P.vals a2 c2 b2 d2) 25)
  have b0 := b0.alloc b0.size (.cells (P.vals a2 c2 b2 d2) 25)
  have HC := Lib.hid hcase
  clear b4 hs1 HD1 hcase
  go_upto_region 5 with (refine wpList_alloc_store (P.vals a2 c2 b2 d2) rfl rfl rfl rfl infoP rfl rfl (by kernel_rfl) rfl (cells6 _ _ _ _ _) ?_)
  generalize w4.alloc (.cells (P.vals a2 c2 b2 d2) 25) = w5 at *
  generalize w4.heap.size = g at *
  have hk := h.below b0
  go_cut [60] from 32 to 60 (fun s wx => s = .bool false ∧ Below w5.heap.size w5 wx)
  case first =>
    cases hm : mayK p
    · have hE : e1 = 1 := by rw [← HE1.out]; unfold errE; rw [hm]; rfl
      subst hE
      have hM : ∀ x : Ext w5, Calls Try.prog 17 #[(.agg #[.int .i64 p.f, .int .i64 p.t, .int .i64 p.n, .int .i64 p.life, .slice a p.path.length c, .slice b p.data.length d])] x.toW fun r w' => r = .returned (.bool false) ∧ Below x.toW.heap.size x.toW w' := fun x => by
        have := may_any p a c b d x.toW (hk.below x.ok)
        rw [hm] at this
        exact this
      have HM := Lib.hid hM
      have x0 : ∀ x : Ext w5, x.toW.cell? ⟨w.heap.size, 0, none⟩ = some (.int .i64 p.f) := fun x => keep_cell x.ok (o1.cell 0)
      have x1 : ∀ x : Ext w5, x.toW.cell? ⟨w.heap.size, 1, none⟩ = some (.int .i64 p.t) := fun x => keep_cell x.ok (o1.cell 1)
      have x2 : ∀ x : Ext w5, x.toW.cell? ⟨w.heap.size, 2, none⟩ = some (.int .i64 p.n) := fun x => keep_cell x.ok (o1.cell 2)
      have x3 : ∀ x : Ext w5, x.toW.cell? ⟨w.heap.size, 3, none⟩ = some (.int .i64 p.life) := fun x => keep_cell x.ok (o1.cell 3)
      have x4 : ∀ x : Ext w5, x.toW.cell? ⟨w.heap.size, 4, none⟩ = some (.slice a p.path.length c) := fun x => keep_cell x.ok (o1.cell 4)
      have x5 : ∀ x : Ext w5, x.toW.cell? ⟨w.heap.size, 5, none⟩ = some (.slice b p.data.length d) := fun x => keep_cell x.ok (o1.cell 5)
      clear hM hm hk o1 o2 ow b0
      refine wp_region_ext w5 (by kernel_rfl) (by kernel_rfl) (Below.refl _ _) ?_
      repeat (go_big_quiet_step (first
        | (go_at_call 17; with_reducible exact ext_below _ (u := .bool false) (HM.out _))))
      refine wpQuiet_nil ?_
      rintro w9 ⟨x9, rfl⟩
      go_wp2_with fail
      go_meet
      exact ⟨rfl, x9.ok⟩
    · have hE : e1 = 0 := by rw [← HE1.out]; unfold errE; rw [hm]; rfl
      subst hE
      have hc := HC.out
      rw [show encE p = encB p by unfold encE; rw [hm]; rfl] at hc
      obtain ⟨rfl, hP⟩ := dec_same hm hc
      rw [hP] at o2 ow
      have hpo := (mayK_all hm).2.2.2.2.2.1
      have hM : ∀ W, Below w5.heap.size w5 W → Calls Try.prog 17 #[(.agg #[.int .i64 p.f, .int .i64 p.t, .int .i64 p.n, .int .i64 p.life, .slice a p.path.length c, .slice b p.data.length d])] W fun r w' => r = .returned (.bool true) ∧ Below W.heap.size W w' := fun W hW => by
        have := may_any p a c b d W (hk.below hW)
        rw [hm] at this
        exact this
      have hS : ∀ W, Below w5.heap.size w5 W → Calls Try.prog 20 #[(.agg #[.int .i64 p.f, .int .i64 p.t, .int .i64 p.n, .int .i64 p.life, .slice a p.path.length c, .slice b p.data.length d]), (.agg #[.int .i64 p.f, .int .i64 p.t, .int .i64 p.n, .int .i64 p.life, .slice a2 p.path.length c2, .slice b2 p.data.length d2])] W fun r w' => r = .returned (.bool true) ∧ Below W.heap.size W w' := fun W hW => by
        have := rsame_pk p p a c b d a2 c2 b2 d2 W (hk.below hW) (ow.below hW).at_ hp hp
        rw [sameB_self] at this
        exact this
      have hK1 : ∀ W, Below w5.heap.size w5 W → Calls Try.prog 22 #[.slice a p.path.length c] W fun r w' => ∃ v, r = .returned v ∧ Mine w' W.heap.size 3 v p.path.length (zval p.path.reverse) ∧ Below W.heap.size W w' := fun W hW => by
        have := back_any a c p.path W hk.pc hk.pm (hk.prow.below hW) hk.pnil
        rw [back_one hpo, List.length_reverse] at this
        exact this
      have hK2 : ∀ (a8 : Option Addr) (c8 : Nat) (W : World), p.path.length ≤ c8 → c8 ≤ maxLen → Row W a8 p.path.length (zval p.path.reverse) → Calls Try.prog 22 #[.slice a8 p.path.length c8] W fun r w' => ∃ v, r = .returned v ∧ Mine w' W.heap.size 3 v p.path.length (zval p.path) ∧ Below W.heap.size W w' := fun a8 c8 W h1 h2 h3 => by
        have hl : p.path.reverse.length = p.path.length := List.length_reverse
        have := back_any a8 c8 p.path.reverse W (by rw [hl]; exact h1) h2 (by rw [hl]; exact h3) (by rw [hl]; exact row_none h3)
        rw [back_two hpo, hl] at this
        exact this
      have hK3 : ∀ (a9 : Option Addr) (c9 : Nat) (W : World), p.path.length ≤ c9 → c9 ≤ maxLen → Row W a9 p.path.length (zval p.path) → Below w5.heap.size w5 W → Calls Try.prog 21 #[.slice a9 p.path.length c9, .slice a p.path.length c] W fun r w' => r = .returned (.bool true) ∧ Below W.heap.size W w' := fun a9 c9 W h1 h2 h3 h4 => by
        refine (same_any a9 a c9 c p.path p.path W h1 hk.pc h2 hk.pm h3 (hk.prow.below h4)).mono ?_
        rintro r w' ⟨rfl, z, rfl⟩
        exact ⟨by rw [decide_eq_true rfl], below_drewN (Below.refl _ _) z⟩
      have HM := Lib.hid hM
      have HS := Lib.hid hS
      have HK1 := Lib.hid hK1
      have HK2 := Lib.hid hK2
      have HK3 := Lib.hid hK3
      have h5d := bel_dr w5
      have KS : Hid (∀ W, Below w5.heap.size w5 W → (fun w' : World => w'.cell? ⟨w.heap.size, 0, none⟩ = some (.int .i64 p.f) ∧ w'.cell? ⟨w.heap.size, 1, none⟩ = some (.int .i64 p.t) ∧ w'.cell? ⟨w.heap.size, 2, none⟩ = some (.int .i64 p.n) ∧ w'.cell? ⟨w.heap.size, 3, none⟩ = some (.int .i64 p.life) ∧ w'.cell? ⟨w.heap.size, 4, none⟩ = some (.slice a p.path.length c) ∧ w'.cell? ⟨w.heap.size, 5, none⟩ = some (.slice b p.data.length d) ∧ w'.cell? ⟨g, 0, none⟩ = some (.int .i64 p.f) ∧ w'.cell? ⟨g, 1, none⟩ = some (.int .i64 p.t) ∧ w'.cell? ⟨g, 2, none⟩ = some (.int .i64 p.n) ∧ w'.cell? ⟨g, 3, none⟩ = some (.int .i64 p.life) ∧ w'.cell? ⟨g, 4, none⟩ = some (.slice a2 p.path.length c2) ∧ w'.cell? ⟨g, 5, none⟩ = some (.slice b2 p.data.length d2)) W) := Lib.hid (fun W hW => twelve (below_own hW o1 o1.lt) (below_own hW o2 o2.lt))
      have s0 : (fun w' : World => w'.cell? ⟨w.heap.size, 0, none⟩ = some (.int .i64 p.f) ∧ w'.cell? ⟨w.heap.size, 1, none⟩ = some (.int .i64 p.t) ∧ w'.cell? ⟨w.heap.size, 2, none⟩ = some (.int .i64 p.n) ∧ w'.cell? ⟨w.heap.size, 3, none⟩ = some (.int .i64 p.life) ∧ w'.cell? ⟨w.heap.size, 4, none⟩ = some (.slice a p.path.length c) ∧ w'.cell? ⟨w.heap.size, 5, none⟩ = some (.slice b p.data.length d) ∧ w'.cell? ⟨g, 0, none⟩ = some (.int .i64 p.f) ∧ w'.cell? ⟨g, 1, none⟩ = some (.int .i64 p.t) ∧ w'.cell? ⟨g, 2, none⟩ = some (.int .i64 p.n) ∧ w'.cell? ⟨g, 3, none⟩ = some (.int .i64 p.life) ∧ w'.cell? ⟨g, 4, none⟩ = some (.slice a2 p.path.length c2) ∧ w'.cell? ⟨g, 5, none⟩ = some (.slice b2 p.data.length d2)) w5.drew := KS.out _ h5d
      clear hM hS hK1 hK2 hK3 hm hc hP hpo hk o1 o2 ow b0
      go_region_held3 (fun w' : World => w'.cell? ⟨w.heap.size, 0, none⟩ = some (.int .i64 p.f) ∧ w'.cell? ⟨w.heap.size, 1, none⟩ = some (.int .i64 p.t) ∧ w'.cell? ⟨w.heap.size, 2, none⟩ = some (.int .i64 p.n) ∧ w'.cell? ⟨w.heap.size, 3, none⟩ = some (.int .i64 p.life) ∧ w'.cell? ⟨w.heap.size, 4, none⟩ = some (.slice a p.path.length c) ∧ w'.cell? ⟨w.heap.size, 5, none⟩ = some (.slice b p.data.length d) ∧ w'.cell? ⟨g, 0, none⟩ = some (.int .i64 p.f) ∧ w'.cell? ⟨g, 1, none⟩ = some (.int .i64 p.t) ∧ w'.cell? ⟨g, 2, none⟩ = some (.int .i64 p.n) ∧ w'.cell? ⟨g, 3, none⟩ = some (.int .i64 p.life) ∧ w'.cell? ⟨g, 4, none⟩ = some (.slice a2 p.path.length c2) ∧ w'.cell? ⟨g, 5, none⟩ = some (.slice b2 p.data.length d2)) (with_reducible first | exact s0 | exact s6 | exact s7 | exact s8 | exact s9 | exact s10) (first
        | (go_at_call 17; with_reducible refine (HM.out _ h5d).mono ?_; rintro r6 w6 ⟨rfl, j6⟩; have h6 : Below w5.heap.size w5 w6 := bel_two h5d j6; have s6 : (fun w' : World => w'.cell? ⟨w.heap.size, 0, none⟩ = some (.int .i64 p.f) ∧ w'.cell? ⟨w.heap.size, 1, none⟩ = some (.int .i64 p.t) ∧ w'.cell? ⟨w.heap.size, 2, none⟩ = some (.int .i64 p.n) ∧ w'.cell? ⟨w.heap.size, 3, none⟩ = some (.int .i64 p.life) ∧ w'.cell? ⟨w.heap.size, 4, none⟩ = some (.slice a p.path.length c) ∧ w'.cell? ⟨w.heap.size, 5, none⟩ = some (.slice b p.data.length d) ∧ w'.cell? ⟨g, 0, none⟩ = some (.int .i64 p.f) ∧ w'.cell? ⟨g, 1, none⟩ = some (.int .i64 p.t) ∧ w'.cell? ⟨g, 2, none⟩ = some (.int .i64 p.n) ∧ w'.cell? ⟨g, 3, none⟩ = some (.int .i64 p.life) ∧ w'.cell? ⟨g, 4, none⟩ = some (.slice a2 p.path.length c2) ∧ w'.cell? ⟨g, 5, none⟩ = some (.slice b2 p.data.length d2)) w6 := KS.out _ h6)
        | (go_at_call 20; with_reducible refine (HS.out _ h6).mono ?_; rintro r7 w7 ⟨rfl, j7⟩; have h7 : Below w5.heap.size w5 w7 := bel_two h6 j7; have s7 : (fun w' : World => w'.cell? ⟨w.heap.size, 0, none⟩ = some (.int .i64 p.f) ∧ w'.cell? ⟨w.heap.size, 1, none⟩ = some (.int .i64 p.t) ∧ w'.cell? ⟨w.heap.size, 2, none⟩ = some (.int .i64 p.n) ∧ w'.cell? ⟨w.heap.size, 3, none⟩ = some (.int .i64 p.life) ∧ w'.cell? ⟨w.heap.size, 4, none⟩ = some (.slice a p.path.length c) ∧ w'.cell? ⟨w.heap.size, 5, none⟩ = some (.slice b p.data.length d) ∧ w'.cell? ⟨g, 0, none⟩ = some (.int .i64 p.f) ∧ w'.cell? ⟨g, 1, none⟩ = some (.int .i64 p.t) ∧ w'.cell? ⟨g, 2, none⟩ = some (.int .i64 p.n) ∧ w'.cell? ⟨g, 3, none⟩ = some (.int .i64 p.life) ∧ w'.cell? ⟨g, 4, none⟩ = some (.slice a2 p.path.length c2) ∧ w'.cell? ⟨g, 5, none⟩ = some (.slice b2 p.data.length d2)) w7 := KS.out _ h7)
        | (go_at_call 22; with_reducible refine (HK1.out _ h7).mono ?_; rintro r8 w8 ⟨v8, rfl, m8, j8⟩; obtain ⟨a8, c8, rfl, hc8, hd8, hR8⟩ := m8.row; have h8 : Below w5.heap.size w5 w8 := bel_two h7 j8; have s8 : (fun w' : World => w'.cell? ⟨w.heap.size, 0, none⟩ = some (.int .i64 p.f) ∧ w'.cell? ⟨w.heap.size, 1, none⟩ = some (.int .i64 p.t) ∧ w'.cell? ⟨w.heap.size, 2, none⟩ = some (.int .i64 p.n) ∧ w'.cell? ⟨w.heap.size, 3, none⟩ = some (.int .i64 p.life) ∧ w'.cell? ⟨w.heap.size, 4, none⟩ = some (.slice a p.path.length c) ∧ w'.cell? ⟨w.heap.size, 5, none⟩ = some (.slice b p.data.length d) ∧ w'.cell? ⟨g, 0, none⟩ = some (.int .i64 p.f) ∧ w'.cell? ⟨g, 1, none⟩ = some (.int .i64 p.t) ∧ w'.cell? ⟨g, 2, none⟩ = some (.int .i64 p.n) ∧ w'.cell? ⟨g, 3, none⟩ = some (.int .i64 p.life) ∧ w'.cell? ⟨g, 4, none⟩ = some (.slice a2 p.path.length c2) ∧ w'.cell? ⟨g, 5, none⟩ = some (.slice b2 p.data.length d2)) w8 := KS.out _ h8)
        | (go_at_call 22; with_reducible refine (HK2.out a8 c8 _ hc8 hd8 hR8).mono ?_; rintro r9 w9 ⟨v9, rfl, m9, j9⟩; obtain ⟨a9, c9, rfl, hc9, hd9, hR9⟩ := m9.row; have h9 : Below w5.heap.size w5 w9 := bel_two h8 j9; have s9 : (fun w' : World => w'.cell? ⟨w.heap.size, 0, none⟩ = some (.int .i64 p.f) ∧ w'.cell? ⟨w.heap.size, 1, none⟩ = some (.int .i64 p.t) ∧ w'.cell? ⟨w.heap.size, 2, none⟩ = some (.int .i64 p.n) ∧ w'.cell? ⟨w.heap.size, 3, none⟩ = some (.int .i64 p.life) ∧ w'.cell? ⟨w.heap.size, 4, none⟩ = some (.slice a p.path.length c) ∧ w'.cell? ⟨w.heap.size, 5, none⟩ = some (.slice b p.data.length d) ∧ w'.cell? ⟨g, 0, none⟩ = some (.int .i64 p.f) ∧ w'.cell? ⟨g, 1, none⟩ = some (.int .i64 p.t) ∧ w'.cell? ⟨g, 2, none⟩ = some (.int .i64 p.n) ∧ w'.cell? ⟨g, 3, none⟩ = some (.int .i64 p.life) ∧ w'.cell? ⟨g, 4, none⟩ = some (.slice a2 p.path.length c2) ∧ w'.cell? ⟨g, 5, none⟩ = some (.slice b2 p.data.length d2)) w9 := KS.out _ h9)
        | (go_at_call 21; with_reducible refine (HK3.out a9 c9 _ hc9 hd9 hR9 h9).mono ?_; rintro r10 w10 ⟨rfl, j10⟩; have h10 : Below w5.heap.size w5 w10 := bel_two h9 j10; have s10 : (fun w' : World => w'.cell? ⟨w.heap.size, 0, none⟩ = some (.int .i64 p.f) ∧ w'.cell? ⟨w.heap.size, 1, none⟩ = some (.int .i64 p.t) ∧ w'.cell? ⟨w.heap.size, 2, none⟩ = some (.int .i64 p.n) ∧ w'.cell? ⟨w.heap.size, 3, none⟩ = some (.int .i64 p.life) ∧ w'.cell? ⟨w.heap.size, 4, none⟩ = some (.slice a p.path.length c) ∧ w'.cell? ⟨w.heap.size, 5, none⟩ = some (.slice b p.data.length d) ∧ w'.cell? ⟨g, 0, none⟩ = some (.int .i64 p.f) ∧ w'.cell? ⟨g, 1, none⟩ = some (.int .i64 p.t) ∧ w'.cell? ⟨g, 2, none⟩ = some (.int .i64 p.n) ∧ w'.cell? ⟨g, 3, none⟩ = some (.int .i64 p.life) ∧ w'.cell? ⟨g, 4, none⟩ = some (.slice a2 p.path.length c2) ∧ w'.cell? ⟨g, 5, none⟩ = some (.slice b2 p.data.length d2)) w10 := KS.out _ h10)
        | fail)
      all_goals
        go_wp2_with fail
        go_meet
        exact ⟨rfl, h10⟩
  case rest =>
    obtain ⟨rfl, bc⟩ := hcut
    have b0 := b0.trans (bc.mono b0.size)
    clear bc o1 o2 hk ow HC HE1
    go_wp2_with fail
    refine (HDEC2.out _ b0).mono ?_
    rintro r w7 ⟨M, a3, c3, b3, d3, e3, rfl, om, b7, hc⟩
    have b0 := b0.trans (b7.mono b0.size)
    have om := om.below ((Below.refl w7.heap.size w7).alloc (Nat.le_refl _) (.cells (M.vals a3 c3 b3 d3) 25))
    have o3 := Own.new w7 25 (M.vals a3 c3 b3 d3)
    have b0 := b0.alloc b0.size (.cells (M.vals a3 c3 b3 d3) 25)
    clear b7 HDEC2
    go_upto_region 8 with (refine wpList_alloc_store (M.vals a3 c3 b3 d3) rfl rfl rfl rfl infoP rfl rfl (by kernel_rfl) rfl (cells6 _ _ _ _ _) ?_)
    generalize w7.alloc (.cells (M.vals a3 c3 b3 d3) 25) = w8 at *
    generalize w7.heap.size = k at *
    rcases hc with ⟨rfl, hmm, hee⟩ | ⟨hne, rfl, _⟩
    · have hbd : okD M.data := fun x hx => by
        have h1 := dec_enc hmm hee
        have h2 := h1.2.2.2.2.2.2.2.1
        refine hB x ?_
        rw [← h2] at hx
        exact List.mem_of_mem_drop (List.mem_of_mem_take hx)
      have hen : ∀ W, Below w8.heap.size w8 W → Calls Try.prog 11 #[.agg (M.vals a3 c3 b3 d3)] W fun r w' => ∃ ea ec, r = .returned (.tuple #[.slice ea n ec, .int .i64 0]) ∧ Row w' ea n (bval L) ∧ Below W.heap.size W w' := fun W hW => by
        refine (encode_any M a3 c3 b3 d3 W (om.below hW).at_ hbd).mono ?_
        rintro r w' he
        unfold EncPost at he
        rw [hmm, if_pos rfl, hee, HN.out] at he
        obtain ⟨ea, ec, rfl, _, _, hr, bb⟩ := he
        exact ⟨ea, ec, rfl, hr, bb⟩
      have hmy : ∀ W, Below w8.heap.size w8 W → Calls Try.prog 17 #[.agg #[.int .i64 M.f, .int .i64 M.t, .int .i64 M.n, .int .i64 M.life, .slice a3 M.path.length c3, .slice b3 M.data.length d3]] W fun r w' => r = .returned (.bool true) ∧ Below W.heap.size W w' := fun W hW => by
        have := may_any M a3 c3 b3 d3 W (om.below hW).at_
        rw [hmm] at this
        exact this
      have HEN := Lib.hid hen
      have HMY := Lib.hid hmy
      have x0 : w8.cell? ⟨k, 0, none⟩ = some (.int .i64 M.f) := o3.cell 0
      have x1 : w8.cell? ⟨k, 1, none⟩ = some (.int .i64 M.t) := o3.cell 1
      have x2 : w8.cell? ⟨k, 2, none⟩ = some (.int .i64 M.n) := o3.cell 2
      have x3 : w8.cell? ⟨k, 3, none⟩ = some (.int .i64 M.life) := o3.cell 3
      have x4 : w8.cell? ⟨k, 4, none⟩ = some (.slice a3 M.path.length c3) := o3.cell 4
      have x5 : w8.cell? ⟨k, 5, none⟩ = some (.slice b3 M.data.length d3) := o3.cell 5
      clear hen hmy hmm hee om hbd
      go_wp2_with fail
      refine (HEN.out _ (Below.refl _ _)).mono ?_
      rintro r w9 ⟨ea3, ec3, rfl, hrow3, b9⟩
      have b0 := b0.trans (b9.mono b0.size)
      have o3 := below_own b9 o3 o3.lt
      clear x0 x1 x2 x3 x4 x5 HEN
      have v1 : (convert 23 9 (.slice ea3 n ec3)).run Try.prog w9 = .ok (.string (bstr L)) w9 := by
        have := conv_b (l := L) ec3 (by rw [HN.out]; exact hrow3)
        rw [HN.out] at this
        exact this
      have v2 : (convert 23 9 (.slice ra n rc)).run Try.prog w9 = .ok (.string (bstr L)) w9 := HCV.out _ b0
      have hM9 := Lib.hid (HMY.out _ b9)
      have hbe : ((bstr L).toList == (bstr L).toList) = true := beq_self_eq_true _
      have x0 : w9.cell? ⟨k, 0, none⟩ = some (.int .i64 M.f) := o3.cell 0
      have x1 : w9.cell? ⟨k, 1, none⟩ = some (.int .i64 M.t) := o3.cell 1
      have x2 : w9.cell? ⟨k, 2, none⟩ = some (.int .i64 M.n) := o3.cell 2
      have x3 : w9.cell? ⟨k, 3, none⟩ = some (.int .i64 M.life) := o3.cell 3
      have x4 : w9.cell? ⟨k, 4, none⟩ = some (.slice a3 M.path.length c3) := o3.cell 4
      have x5 : w9.cell? ⟨k, 5, none⟩ = some (.slice b3 M.data.length d3) := o3.cell 5
      generalize bstr L = S at *
      clear o3 hrow3 b9
      go_wp2_with fail
      refine hM9.out.mono ?_
      rintro r w10 ⟨rfl, b10⟩
      have b0 := b0.trans (b10.mono b0.size)
      go_wp2_with fail
      refine (awake_any _).mono ?_
      rintro r w11 ⟨rfl, b11⟩
      go_wp2_with fail
      go_ret
      exact ⟨rfl, b0.trans (b11.mono b0.size)⟩
    · have z5 : w8.cell? ⟨k, 5, none⟩ = some (.slice b3 0 d3) := o3.cell 5
      have g1 : (e3 != 0) = true := by simpa using hne
      clear o3 om hne
      go_wp2_with fail
      refine (awake_any _).mono ?_
      rintro r w9 ⟨rfl, b9⟩
      go_wp2_with fail
      go_ret
      exact ⟨rfl, b0.trans (b9.mono b0.size)⟩

theorem walk (H : Type) (enc : TypeId × Value → H) : Walk H enc Try.prog 4 Try.f4 := by
  intro W base args ds p hval hA
  rw [Try.params4] at hA hval
  obtain ⟨v0, v1, d0, d1, p0, p1, rfl, rfl, rfl, h0, h1⟩ := trodAll_two hA
  obtain ⟨p, a, c, b, d, rfl, hat, hwf⟩ := open_packet (hval 0 _ v0 rfl rfl) h0
  obtain ⟨ra, L, rc, rfl, k1, k2, k3, k4, k5⟩ := open_bytes (hval 1 _ v1 rfl rfl) h1
  exact body p L a c b d ra rc W hat hwf.data k1 k2 k3 k4 k5

set_option maxRecDepth 100000 in
theorem lifted (os : Os) (started : os.Started) (H : Type) (enc : TypeId × Value → H) :
    ReturnsInHanded {} Try.checked os 4 .any (Rows.routeBackSpec.pre6 enc Try.prog Try.f4 Rows.routeBackRow.domain false) (Rows.routeBackSpec.post enc Try.prog Try.f4 false true false false) :=
  returnsInHanded_of_change (C := Try.checked) own started (by kernel_rfl) Try.func4
    (ChangeSpec.witness6 (enc := enc) (C := Try.checked) false ⟨#[], #[.agg #[.int .i64 0, .int .i64 0, .int .i64 0, .int .i64 0, .slice none 0 0, .slice none 0 0], .slice none 0 0], []⟩ 8 (by kernel_rfl) (by kernel_rfl) (by kernel_rfl) (by kernel_rfl))
    fun W base args ds gs before hval hW _ _ => step_of_walk laidOut (by rw [Try.params4]; exact of_decide_eq_true (by kernel_rfl)) (by kernel_rfl) Try.underlying4 rfl
      (fun ds h => by
        rw [Try.params4] at h
        match ds, h with
        | [_, _], _ => rfl) (walk H enc) W base args ds gs before hval hW

theorem holds : Rows.RouteBackSaid :=
  OpenClaim.holds_of_wide 4 Try.f4 rfl rfl rfl rfl rfl rfl rfl ⟨rfl, rfl, rfl, rfl, rfl⟩ rfl rfl rfl rfl rfl (by kernel_rfl) Try.func4 (by kernel_rfl)
    (of_decide_eq_true (by kernel_rfl)) (by unfold Func.isWrapper; first | (rw [if_pos (by decide +kernel)]; kernel_rfl) | (rw [if_neg (by decide +kernel)]; exact ⟨rfl, rfl⟩))
    (fun os started H enc _ => lifted os started H enc)
#print axioms holds
end Go.Proofs.Ytcpmnfoenpdaeaa.RouteBack
