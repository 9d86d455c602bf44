/-
  Law NodeWaits: a node follows nobody till it has listened Loss + 1 slots; then the first beacon brings it in time, and puts its clock right by what was measured; the call returns true. No condition.
-/
import Derived.Test.YtiflmdekcjbmbaaGreatGNodeWaits32
import Derived.Deep.CutBlock
set_option maxRecDepth 100000
namespace Go.Proofs.YtiflmdekcjbmbaaGreat.NodeWaits
set_option linter.unusedVariables false
set_option linter.unusedSimpArgs false
open Go.RowKit Go.ChangeShapes Go.WideShapes Go.ChangeAt Lb Nd Ie Fm
theorem own : ownKnob Tryz.prog.godebug = none := by kernel_rfl
theorem laidOut : laidOutB Tryz.prog = true := by kernel_rfl
theorem um37 : umN 3 7 = 3 := by
  unfold umN
  rw [IntKind.wrap_u64]
  have e : ((3 : Int) % 18446744073709551616).tmod 7 = 3 := by decide
  rw [e]
  exact IntWalk.wrap64_in _ (by omega)
set_option maxHeartbeats 8000000 in
theorem body (x0 x1 x2 x3 : Int) (w : World) : Calls Tryz.prog 6 #[.int .i64 x0, .int .i64 x1, .int .i64 x2, .int .i64 x3] w fun r w' => r = .returned (.bool true) ∧ Below w.heap.size w w' := by
  obtain ⟨kr, hkr, hkr2⟩ := um_ex x1 254 (by decide) (by decide)
  obtain ⟨mm, hmm⟩ : ∃ q, x2.tmod 1000 = q := ⟨_, rfl⟩
  have hmb : -1000 < mm ∧ mm < 1000 := by
    rw [← hmm]
    exact ⟨by have := Int.lt_tmod_of_pos x2 (b := 1000) (by decide); omega, Int.tmod_lt_of_pos x2 (by decide)⟩
  have em1 : wrap64 mm = mm := IntWalk.wrap64_in _ (by omega)
  have em2 : IntKind.i64.wrap mm = mm := IntWalk.i64_in _ (by omega)
  go_enter Tryz.func6, Tryz.ntmps6
  go_wp2_with fail
  refine (config_more 3 2 5 x0 5 5 1 w).mono ?_
  rintro r w1 ⟨x, rfl, hx, hm, hh, b1, hc⟩
  have hnew : newB x 2 = true := by
    unfold newB inB
    rw [hm, hc.nodes, um37]
    decide
  have hok := okc_may hm
  have hl := hok.loss
  have b2 := (Below.refl w1.heap.size w1).alloc (Nat.le_refl _) (.cells #[.int .i64 x.nodes, .slice x.na x.nn x.nc, .slice x.ha x.hops.length x.hc, .int .i64 x.guard, .int .i64 x.err, .int .i64 x.keep, .int .i64 x.loss, .int .i64 x.queue, .int .i64 x.life] 25)
  have o2 := Own.new w1 25 #[.int .i64 x.nodes, .slice x.na x.nn x.nc, .slice x.ha x.hops.length x.hc, .int .i64 x.guard, .int .i64 x.err, .int .i64 x.keep, .int .i64 x.loss, .int .i64 x.queue, .int .i64 x.life]
  have hx2 := hx.below b2
  have bb2 := b1.trans (b2.mono b1.size)
  have HNEW := Lib.hid hnew
  have HX : Hid (x.nodes = 5) := Lib.hid (by rw [hc.nodes, um37]; decide)
  clear hx b2 hc hh hnew hok
  go_upto_region 2 with (fail)
  obtain ⟨xb, hxb⟩ : ∃ q, w1.heap.size = q := ⟨_, rfl⟩
  rw [hxb] at o2 ⊢
  have hxw : w.heap.size ≤ xb := by rw [← hxb]; exact b1.size
  clear hxb b1
  generalize w1.alloc (.cells #[.int .i64 x.nodes, .slice x.na x.nn x.nc, .slice x.ha x.hops.length x.hc, .int .i64 x.guard, .int .i64 x.err, .int .i64 x.keep, .int .i64 x.loss, .int .i64 x.queue, .int .i64 x.life] 25) = w2 at *
  clear w1
  go_upto_region 3 with (fail)
  rw [hkr]
  clear hkr hmm em1
  have PN := newn_any x 2 w2 hx2
  go_wp2_with (refine wpList_load_row rfl _ _ rfl xb rfl 25 #[.int .i64 x.nodes, .slice x.na x.nn x.nc, .slice x.ha x.hops.length x.hc, .int .i64 x.guard, .int .i64 x.err, .int .i64 x.keep, .int .i64 x.loss, .int .i64 x.queue, .int .i64 x.life] (0, 0) _ o2 Tryz.underlying25 rfl (by kernel_rfl) ?_)
  refine PN.mono ?_
  intro r w3 hN
  unfold NewPost at hN
  rw [if_pos HNEW.out] at hN
  obtain ⟨b, h, rfl, n3, hex, b3⟩ := hN
  have n3 : Nd w3 b (waitN x.cfg (0 : Nat) 0) h := n3
  have o3 := below_own b3 o2 o2.lt
  have hw2 : w.heap.size ≤ w2.heap.size := bb2.size
  obtain ⟨cf, hcf⟩ : ∃ q, x.cfg = q := ⟨_, rfl⟩
  have HFIT : Hid (∀ i d : Int, 0 ≤ i ∧ i ≤ 1099511627776 → -(i * 1000000) ≤ d ∧ d ≤ i * 1000000 → Fit (waitN cf i d)) := Lib.hid (fun i d h1 h2 => by rw [← hcf]; exact wait_fit HNEW.out h1 h2)
  have HC5 : Hid (cf.nodes = 5) := Lib.hid (by rw [← hcf]; exact HX.out)
  have hxl : x.loss = cf.loss := by rw [← hcf]; rfl
  obtain ⟨ln, hln⟩ := Int.eq_ofNat_of_zero_le (show 0 ≤ x.loss by have : 1 ≤ x.loss := hl.1; omega)
  have HLN : Hid (cf.loss = (ln : Int)) := Lib.hid (by rw [← hxl, hln])
  have hlb : 1 ≤ ln ∧ ln ≤ 10000 := by
    have h1 : 1 ≤ x.loss := hl.1
    have h2 : x.loss ≤ 10000 := hl.2
    omega
  have c6 : w3.cell? ⟨xb, 6, none⟩ = some (.int .i64 (ln : Int)) := by rw [← hln]; exact o3.cell 6
  have e6 : IntKind.i64.wrap ((ln : Int) + 1) = (ln : Int) + 1 := IntWalk.i64_in _ (by omega)
  have HO : Hid (∀ wz, Below w2.heap.size w2 wz → wz.cell? ⟨xb, 6, none⟩ = some (.int .i64 (ln : Int))) := Lib.hid (fun wz bz => by rw [← hln]; exact (below_own bz o2 o2.lt).cell 6)
  have HEX := Lib.hid hex
  have HB2 := Lib.hid (And.intro bb2 hw2)
  rw [hcf] at n3
  have hk254 : (kr : Int) < 254 := hkr2
  clear PN hx2 hl hm hcf hxl hln bb2 hex o2 o3 HX HNEW
  go_wp2_with fail
  clear c6
  go_loopw [34] (fun i wr => ∃ (k : Nat) (d : Int), i = .int .i64 k ∧ k ≤ ln + 1 ∧ Hid (-((k : Int) * 1000000) ≤ d ∧ d ≤ (k : Int) * 1000000) ∧ Hid (Nd wr b (waitN cf k d) h) ∧ Below w2.heap.size w2 wr) (fun i _ => ln + 1 - (intOf i).toNat)
  case atStart => exact ⟨0, 0, rfl, by omega, Lib.hid (by omega), Lib.hid n3, b3⟩
  case round =>
    clear n3 b3
    obtain ⟨k, d, rfl, hk, HD, HN, b4⟩ := hrel
    have HR := Lib.hid (show (0 : Int) ≤ (kr : Int) ∧ (kr : Int) ≤ 255 by omega)
    by_cases hlt : k < ln + 1
    · have hltI : (k : Int) < (ln : Int) + 1 := by omega
      have HBD2 : Hid (-(((k + 1 : Nat) : Int) * 1000000) ≤ d + Ck.lim x3 100 * 10000 ∧ d + Ck.lim x3 100 * 10000 ≤ ((k + 1 : Nat) : Int) * 1000000) := Lib.hid (by
        have := wait_bd (i := (k : Int)) (ppm := x3) HD.out
        omega)
      go_upto_block 1 with (fail)
      refine slot_goes k ln kr b mm x3 d cf h w2 wr _ _ _ _ _ _ _ _ _ _ _ _ _ _ _ _ _ _ _ _ _ _ _ _ _ _ _ _ _ _ _ _ _ _ _ _ _ _ _ _ _ _ _ _ _ _ _ _ _ _ _ _ _ _ _ _ _ _ _ _ _ _ _ _ _ _ _ _ _ _ _ _ _ _ _ _ _ _ _ _ _ _ _ _ _ _ _ _ _ _ _ _ _ _ _ _ _ _ _ _ _ _ _ _ _ _ _ _ _ _ _ _ _ _ _ _ _ _ _ _ _ _ _ _ _ _ _ _ _ _ _ _ _ _ _ _ _ _ _ _ _ _ _ _ _ _ _ _ _ _ _ _ HFIT HC5 HLN HEX hlb hk254 HR hlt HD HN b4 (fun _ _ _ _ _ _ _ _ _ _ _ _ _ _ _ _ _ _ _ _ _ _ _ _ _ _ _ _ _ _ _ _ _ _ _ _ _ wz hz => ?_)
      have HN7 := Lib.hid hz.1
      have b7 := hz.2
      clear hz b4 HN
      go_wp2_with fail
      exact ⟨⟨k + 1, _, by simp, by omega, HBD2, HN7, b7⟩, by simp [intOf]; omega⟩
    obtain rfl : k = ln + 1 := by omega
    clear hlt hk
    have c6 := HO.out wr b4
    obtain ⟨ov, hov⟩ : ∃ q, Ck.off 0 d = q := ⟨_, rfl⟩
    have HOV := Lib.hid hov
    have PO : Hid (∀ m, Calls Tryz.prog 38 #[.pointer (some ⟨b, 0, none⟩)] (wr.drewN m) fun r w' => r = .returned (.int .i64 ov) ∧ ∃ m', (wr.drewN m).drewN m' = w') := Lib.hid (fun m => by
      have := off_any (HN.out.below (below_drewN (Below.refl _ _) m)) (by show -2000000000000 ≤ (0 : Int) ∧ (0 : Int) ≤ _; omega) (by show _ ≤ d ∧ d ≤ _; have := HD.out; omega)
      rw [show offN (waitN cf ((ln + 1 : Nat) : Int) d) = Ck.off 0 d from rfl, hov] at this
      exact this)
    have HOB : Hid (-1000000000000 ≤ ov ∧ ov ≤ 1000000000000) := Lib.hid (by have := HD.out; rw [← hov]; unfold Ck.off; omega)
    have e9 : IntKind.i64.wrap (ov + mm) = ov + mm := IntWalk.i64_in _ (by have := HOB.out; omega)
    have e10 : IntKind.i64.wrap ((kr : Int) + 1) = (kr : Int) + 1 := IntWalk.i64_in _ (by omega)
    clear hov
    go_upto_region 17 with (fail)
    go_quiet (first | (go_at_call 38; exact quiet_some (PO.out _)))
    have n5 := HN.out.below (below_drewN (Below.refl wr.heap.size wr) nq)
    have b5 := below_drewN b4 nq
    generalize wr.drewN nq = w5 at *
    clear c6 PO HN b4 HOB
    have PB := beacon_any 1 kr (ln : Int) w5 (by omega) HR.out (by omega)
    have hbr := bea_read (HFIT.out ((ln + 1 : Nat) : Int) d (by omega) HD.out) (src := 1) (rank := kr) (asn := (ln : Int)) (by rw [show (waitN cf ((ln + 1 : Nat) : Int) d).c.nodes = cf.nodes from rfl, HC5.out]; omega) (show (1 : Int) ≠ 2 by decide) HR.out (by omega)
    have hbl := bea_len (src := 1) (rank := kr) (asn := (ln : Int)) (by omega) HR.out (by omega)
    have hbo := encF_ok (bea_may (src := 1) (rank := kr) (asn := (ln : Int)) (by omega) HR.out (by omega)) okD_nil
    obtain ⟨L, hL⟩ : ∃ q, encF (beaF 1 kr (ln : Int)) = q := ⟨_, rfl⟩
    rw [hL] at PB hbr hbl hbo
    have HBR := Lib.hid hbr
    have HBL := Lib.hid (And.intro hbl hbo)
    obtain ⟨nl, hnl⟩ : ∃ q, L.length = q := ⟨_, rfl⟩
    rw [hnl] at PB
    have HNL := Lib.hid hnl
    have HN5 := Lib.hid n5
    clear hL hnl hbr hbl hbo n5
    go_wp2_with fail
    refine PB.mono ?_
    rintro r w6 ⟨a6, c6, rfl, k1, k2, k3, b6⟩
    have n6 := HN5.out.below b6
    have PH := hear_first1 n6 (HFIT.out ((ln + 1 : Nat) : Int) d (by omega) HD.out) 1 kr (ln : Int) a6 c6 L mm (by rw [HNL.out]; exact k1) k2 HBL.out.1 (by rw [HNL.out]; exact k3) HBL.out.2 HBR.out (by rw [HLN.out]; omega) hk254
    rw [HNL.out] at PH
    have b56 := b5.trans (b6.mono b5.size)
    clear PB k1 k2 k3 b6 n6 b5
    go_wp2_with fail
    refine PH.mono ?_
    rintro r w9 ⟨a9, c9, h', rfl, hev, n9, m9⟩
    clear PH
    have b9 := b56.trans (m9.down (fun q e => HEX.out q e) b56.size)
    have hp : limP 0 (limM mm) = mm := by
      unfold limP limM Ck.lim
      omega
    obtain ⟨sB, hsB⟩ : ∃ q, begunN (waitN cf ((ln + 1 : Nat) : Int) d) 1 kr (ln : Int) (limM mm) = q := ⟨_, rfl⟩
    have f1 : sB.inT = true := by rw [← hsB]; rfl
    have f2 : rankN sB = (kr : Int) + 1 := by rw [← hsB]; rfl
    have f3 : offN sB = ov + mm := by
      rw [← hsB, ← HOV.out]
      show Ck.off (limP 0 (limM mm)) d = Ck.off 0 d + mm
      rw [hp]
      unfold Ck.off
      omega
    have f4 : parN sB = [⟨1, kr, ln⟩] := by rw [← hsB]; rfl
    have f5 : sB.p = mm ∧ sB.d = d := by rw [← hsB]; exact ⟨hp, rfl⟩
    have hrow := hev.row
    obtain ⟨g, go, rfl, hgl, hcs⟩ := hrow (show 0 < 40 by decide)
    rw [hsB] at n9
    have x0 : w9.cell? ⟨g, go, none⟩ = some (.int .i64 1) := hcs 0 (show 0 < 40 by decide)
    have x1 : w9.cell? ⟨g, go + 10, none⟩ = some (.int .i64 7) := hcs 10 (show 10 < 40 by decide)
    have x2' : w9.cell? ⟨g, go + 20, none⟩ = some (.int .i64 2) := hcs 20 (show 20 < 40 by decide)
    have x3' : w9.cell? ⟨g, go + 30, none⟩ = some (.int .i64 6) := hcs 30 (show 30 < 40 by decide)
    have x4 : w9.cell? ⟨g, go + 30 + 2, none⟩ = some (.int .i64 1) := hcs 32 (show 32 < 40 by decide)
    have PY := synced_any n9
    have PK := rank_any n9
    have PF := off_any n9 (by rw [f5.1]; omega) (by rw [f5.2]; have := HD.out; omega)
    have PP := fun m => parents_any (n9.below (below_drewN (Below.refl _ _) m))
    rw [f1] at PY
    rw [f2] at PK
    rw [f3] at PF
    rw [f4] at PP
    clear hcs hev n9 m9 hp hsB f1 f2 f3 f4 f5 hrow hgl HN5 HBR HBL HNL b56
    go_upto_region 19 with (fail)
    refine ret_any kr b g go c9 mm ov ln w9 _ _ _ _ _ _ _ _ _ _ _ _ _ _ _ _ _ _ _ _ _ _ _ _ _ _ _ _ _ _ _ _ _ _ _ _ _ _ _ _ _ _ _ _ _ _ _ _ _ _ _ _ _ _ _ _ _ _ _ _ _ _ _ _ _ _ _ _ _ _ _ _ _ _ _ _ _ _ _ _ _ _ _ _ _ _ _ _ _ _ _ _ _ _ _ _ _ _ _ _ _ _ _ _ _ _ _ _ _ _ _ _ _ _ _ _ _ _ _ _ _ _ _ _ _ _ _ _ _ _ _ _ _ _ _ _ _ _ _ _ _ _ _ _ _ _ _ _ _ _ _ e9 e10 x0 x1 x2' x3' x4 PY PK PF PP (fun _ _ _ _ _ _ _ _ _ _ _ _ _ _ _ _ _ _ _ _ _ _ _ _ _ _ _ _ _ _ _ _ _ _ _ _ _ _ _ _ _ _ _ _ _ _ _ _ _ _ _ _ _ _ _ _ _ _ _ _ _ _ _ _ _ _ _ _ _ _ _ wz bz => ?_)
    have bb14 := b9.trans (bz.mono b9.size)
    clear PY PK PF PP x0 x1 x2' x3' x4 b9
    go_wp2_with fail
    go_ret
    exact ⟨rfl, HB2.out.1.trans (bb14.mono HB2.out.2)⟩
theorem walk (H : Type) (enc : TypeId × Value → H) : Walk H enc Tryz.prog 6 Tryz.f6 := by
  intro W base args ds p hval hA
  rw [Tryz.params6] at hA hval
  obtain ⟨v0, v1, v2, v3, d0, d1, d2, d3, p0, p1, p2, p3, rfl, rfl, rfl, h0, h1, h2, h3⟩ := trodAll_four hA
  obtain ⟨z0, rfl, rfl, rfl, w0⟩ := open_int Tryz.underlying3 (hval 0 _ v0 rfl rfl) h0
  obtain ⟨z1, rfl, rfl, rfl, w1⟩ := open_int Tryz.underlying3 (hval 1 _ v1 rfl rfl) h1
  obtain ⟨z2, rfl, rfl, rfl, w2⟩ := open_int Tryz.underlying3 (hval 2 _ v2 rfl rfl) h2
  obtain ⟨z3, rfl, rfl, rfl, w3⟩ := open_int Tryz.underlying3 (hval 3 _ v3 rfl rfl) h3
  exact body z0 z1 z2 z3 W

set_option maxRecDepth 100000 in
theorem lifted (os : Os) (started : os.Started) (H : Type) (enc : TypeId × Value → H) :
    ReturnsInHanded {} Tryz.checked os 6 .any (Rows.nodeWaitsSpec.pre6 enc Tryz.prog Tryz.f6 Rows.nodeWaitsRow.domain false) (Rows.nodeWaitsSpec.post enc Tryz.prog Tryz.f6 false true false false) :=
  returnsInHanded_of_change (C := Tryz.checked) own started (by kernel_rfl) Tryz.func6
    (ChangeSpec.witness6 (enc := enc) (C := Tryz.checked) false ⟨#[], #[.int .i64 0, .int .i64 0, .int .i64 0, .int .i64 0], []⟩ 8 (by kernel_rfl) (by kernel_rfl) (by kernel_rfl) (by kernel_rfl))
    fun W base args ds gs before hval hW _ _ => step_of_walk laidOut (by rw [Tryz.params6]; exact of_decide_eq_true (by kernel_rfl)) (by kernel_rfl) Tryz.underlying4 rfl
      (fun ds h => by
        rw [Tryz.params6] at h
        match ds, h with
        | [_, _, _, _], _ => rfl) (walk H enc) W base args ds gs before hval hW

theorem holds : Rows.NodeWaitsSaid :=
  OpenClaim.holds_of_wide 6 Tryz.f6 rfl rfl rfl rfl rfl rfl rfl ⟨rfl, rfl, rfl, rfl, rfl⟩ rfl rfl rfl rfl rfl (by kernel_rfl) Tryz.func6 (by kernel_rfl)
    (of_decide_eq_true (by kernel_rfl)) (by unfold Func.isWrapper; first | (rw [if_pos (by decide +kernel)]; kernel_rfl) | (rw [if_neg (by decide +kernel)]; exact ⟨rfl, rfl⟩))
    (fun os started H enc _ => lifted os started H enc)
#print axioms holds
end Go.Proofs.YtiflmdekcjbmbaaGreat.NodeWaits
