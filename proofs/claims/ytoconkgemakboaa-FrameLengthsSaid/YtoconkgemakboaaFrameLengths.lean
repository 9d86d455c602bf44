/-
  Law FrameLengths: how many bytes a frame has; the call returns true. No condition.
-/
import Derived.Test.YtoconkgemakboaaFrLaw
set_option maxRecDepth 100000
namespace Go.Proofs.Ytoconkgemakboaa.FrameLengths
set_option linter.unusedVariables false
open Go.RowKit Go.ChangeShapes Go.WideShapes Go.ChangeAt Go.Deep Lb Bf Ie Fm
set_option linter.unusedVariables false
theorem own : ownKnob Try.prog.godebug = none := by kernel_rfl
theorem laidOut : laidOutB Try.prog = true := by kernel_rfl
/-- The next world is one of them, too. -/
theorem ext_next {v w' : World} (x : Ext v) (h : Below x.toW.heap.size x.toW w') : ∃ y : Ext v, w' = y.toW := ⟨⟨w', x.ok.trans (h.mono x.ok.size)⟩, rfl⟩
theorem ext_own {v : World} {b : Nat} {t : TypeId} {cs : Array Value} (x : Ext v) (h : Lb.Own v b t cs) : Lb.Own x.toW b t cs := below_own x.ok h h.lt
theorem encF_head (f : Fr) : ∃ R, encF f = 197 :: f.k :: f.s :: f.d :: f.q :: R := by
  unfold encF appL encR
  exact ⟨_, by simp; rfl⟩
theorem head_cells {v : World} {g o n : Nat} {a b c d : Int} {R L : List Int} (hL : L = 197 :: a :: b :: c :: d :: R) (h : Row v (some ⟨g, o, none⟩) n (bval L)) (hn : 5 ≤ n) (w : World) (hb : Below v.heap.size v w) :
    w.cell? ⟨g, o + 1, none⟩ = some (.int .u8 a) ∧ w.cell? ⟨g, o + 2, none⟩ = some (.int .u8 b) ∧ w.cell? ⟨g, o + 3, none⟩ = some (.int .u8 c) ∧ w.cell? ⟨g, o + 4, none⟩ = some (.int .u8 d) := by
  obtain ⟨b0, o0, e, _, hr⟩ := (h.below hb) (by omega)
  injection e with e
  injection e with e1 e2 _
  subst e1 e2 hL
  exact ⟨hr 1 (by omega), hr 2 (by omega), hr 3 (by omega), hr 4 (by omega)⟩
set_option maxHeartbeats 1000000 in
theorem body (p : Fp) (w : World) (h : p.At w) :
    Calls Try.prog 6 #[.agg p.vals] w fun r w' => r = .returned (.bool true) ∧ Below w.heap.size w w' := by
  have o1 := Own.new w 25 p.vals
  have b0 := (Below.refl w.heap.size w).alloc (Nat.le_refl _) (.cells p.vals 25)
  have h1 := h.below b0
  have hL := lightF_any p _ h1
  have hlo := @lightF_out p
  have HLO := Lib.hid hlo
  obtain ⟨lt, hlt⟩ : ∃ b, lightF p = b := ⟨_, rfl⟩
  have HLT := Lib.hid hlt
  rw [hlt] at hL
  clear h hlo hlt
  obtain ⟨pk, ps, pd, pq, pL, pa, pc, pdata, pb, pe⟩ := p
  have HF : Hid ((⟨pk, ps, pd, pq, pL, pa, pc, pdata, pb, pe⟩ : Fp).fr = ⟨pk, ps, pd, pq, els pL, pdata⟩) := Lib.hid rfl
  have HA := Lib.hid h1
  have HE := Lib.hid (fun W hW hm => encF_any ⟨pk, ps, pd, pq, pL, pa, pc, pdata, pb, pe⟩ W hW hm)
  unfold Fp.vals at *
  simp only at *
  obtain ⟨nd, hnd⟩ : ∃ n, pdata.length = n := ⟨_, rfl⟩
  have HND := Lib.hid hnd
  rw [hnd] at o1 b0 hL h1 HE HA ⊢
  obtain ⟨nl, hnl⟩ : ∃ n, pL.length = n := ⟨_, rfl⟩
  have HNL := Lib.hid hnl
  rw [hnl] at o1 b0 hL h1 HE HA ⊢
  have HL := Lib.hid hL
  clear hnd hnl hL h1
  go_enter Try.func6, Try.ntmps6
  go_upto_region 1 with (fail)
  generalize w.alloc (.cells #[.int .i64 pk, .int .i64 ps, .int .i64 pd, .int .i64 pq, .slice pa nl pc, .slice pb nd pe] 25) = w1 at *
  obtain ⟨g, hg⟩ : ∃ g, w.heap.size = g := ⟨_, rfl⟩
  have hgs := b0.size
  rw [hg] at o1 b0 hgs ⊢
  have HG := Lib.hid hg
  clear hg
  have x0 : ∀ x : Ext w1, x.toW.cell? ⟨g, 0, none⟩ = some (.int .i64 pk) := fun x => (ext_own x o1).cell 0
  have x1 : ∀ x : Ext w1, x.toW.cell? ⟨g, 1, none⟩ = some (.int .i64 ps) := fun x => (ext_own x o1).cell 1
  have x2 : ∀ x : Ext w1, x.toW.cell? ⟨g, 2, none⟩ = some (.int .i64 pd) := fun x => (ext_own x o1).cell 2
  have x3 : ∀ x : Ext w1, x.toW.cell? ⟨g, 3, none⟩ = some (.int .i64 pq) := fun x => (ext_own x o1).cell 3
  have x4 : ∀ x : Ext w1, x.toW.cell? ⟨g, 4, none⟩ = some (.slice pa nl pc) := fun x => (ext_own x o1).cell 4
  have x5 : ∀ x : Ext w1, x.toW.cell? ⟨g, 5, none⟩ = some (.slice pb nd pe) := fun x => (ext_own x o1).cell 5
  obtain ⟨z0, hz0⟩ : ∃ x : Ext w1, x.toW = w1 := ⟨⟨w1, Below.refl _ _⟩, rfl⟩
  rw [← hz0] at HL ⊢
  clear hz0
  go_wp2_with fail
  refine HL.out.mono ?_
  rintro r w2 ⟨rfl, bb⟩
  obtain ⟨z1, rfl⟩ := ext_next z0 bb
  clear HL bb
  cases lt
  · go_wp2_with fail
    refine (awakeF_any _).mono ?_
    rintro r w9 ⟨rfl, bb⟩
    obtain ⟨z9, rfl⟩ := ext_next z1 bb
    clear bb
    go_wp2_with fail
    go_ret
    exact ⟨rfl, by rw [HG.out]; exact b0.trans (z9.ok.mono hgs)⟩
  obtain ⟨hl1, hl2, hl3⟩ := HLO.out HLT.out
  rw [HND.out] at hl3
  rw [HNL.out] at hl1
  have hE := HE.out z1.toW (HA.out.below z1.ok) hl1
  have HE2 := Lib.hid hE
  clear HE hE hl1
  go_wp2_with fail
  refine HE2.out.mono ?_
  intro r w2 hp
  unfold EncFPost at hp
  rw [HF.out] at hp
  clear HE2
  cases hmay : mayF ⟨pk, ps, pd, pq, els pL, pdata⟩
  · rw [hmay] at hp
    obtain ⟨rfl, bb⟩ := hp
    obtain ⟨z2, rfl⟩ := ext_next z1 bb
    clear bb hmay
    go_wp2_with fail
    refine (awakeF_any _).mono ?_
    rintro r w9 ⟨rfl, bb⟩
    obtain ⟨z9, rfl⟩ := ext_next z2 bb
    clear bb
    go_wp2_with fail
    go_ret
    exact ⟨rfl, by rw [HG.out]; exact b0.trans (z9.ok.mono hgs)⟩
  rw [hmay, if_pos rfl] at hp
  obtain ⟨v, rfl, hM, bb⟩ := hp
  obtain ⟨z2, rfl⟩ := ext_next z1 bb
  obtain ⟨m1, m2, m3, m4, m5, m6⟩ := mayF_out hmay
  simp only at m1 m2 m3 m4 m5 m6
  rw [HND.out] at m3
  have hlen := encF_len ⟨pk, ps, pd, pq, els pL, pdata⟩
  simp only at hlen
  rw [HND.out] at hlen
  obtain ⟨R, hR⟩ := encF_head ⟨pk, ps, pd, pq, els pL, pdata⟩
  simp only at hR
  obtain ⟨hX1, hX2⟩ := encI_ok m4
  obtain ⟨X, hX⟩ : ∃ X, encI (els pL) = X := ⟨_, rfl⟩
  rw [hX] at hlen hX2
  have HX := Lib.hid hX
  obtain ⟨nx, hnx⟩ : ∃ n, X.length = n := ⟨_, rfl⟩
  rw [hnx] at hlen hX2
  have HNX := Lib.hid hnx
  obtain ⟨Y, hY⟩ : ∃ Y, encF ⟨pk, ps, pd, pq, els pL, pdata⟩ = Y := ⟨_, rfl⟩
  rw [hY] at hlen hR hM
  obtain ⟨a, c, rfl, l1, l2, hRow⟩ := hM.row
  obtain ⟨gb, ob, rfl, _, _⟩ := hRow (by omega)
  obtain ⟨n, hn⟩ : ∃ n, Y.length = n := ⟨_, rfl⟩
  rw [hn] at hlen l1 hRow ⊢
  have hHC := fun x => head_cells hR hRow (by omega) x
  have HHC := Lib.hid hHC
  have hls : 9 ≤ n ∧ n ≤ 300 := by omega
  have HLEN := Lib.hid hlen
  clear hX hnx hY hR hM hn hHC hRow hlen bb hX1 hmay
  have hR := rencode_any pL pa pc z2.toW ((HA.out.below z2.ok).els)
  rw [HNL.out] at hR
  have HRE := Lib.hid hR
  clear hR
  go_wp2_with fail
  refine HRE.out.mono ?_
  intro r w3 hp
  unfold EncPost at hp
  rw [if_pos m4, HX.out, HNX.out] at hp
  obtain ⟨a3, c3, rfl, l3, l4, _, bb⟩ := hp
  have bq := b0.trans ((z2.ok.trans (bb.mono z2.ok.size)).mono hgs)
  have hgs3 : g ≤ w3.heap.size := Nat.le_trans hgs (Nat.le_trans z2.ok.size bb.size)
  have y0 : ∀ x : Ext w3, x.toW.cell? ⟨gb, ob + 1, none⟩ = some (.int .u8 pk) := fun x => (HHC.out x.toW (bb.trans (x.ok.mono bb.size))).1
  have y1 : ∀ x : Ext w3, x.toW.cell? ⟨gb, ob + 2, none⟩ = some (.int .u8 ps) := fun x => (HHC.out x.toW (bb.trans (x.ok.mono bb.size))).2.1
  have y2 : ∀ x : Ext w3, x.toW.cell? ⟨gb, ob + 3, none⟩ = some (.int .u8 pd) := fun x => (HHC.out x.toW (bb.trans (x.ok.mono bb.size))).2.2.1
  have y3 : ∀ x : Ext w3, x.toW.cell? ⟨gb, ob + 4, none⟩ = some (.int .u8 pq) := fun x => (HHC.out x.toW (bb.trans (x.ok.mono bb.size))).2.2.2
  have o3 := ext_own z2 o1
  have o4 := below_own bb o3 o3.lt
  clear x0 x1 x2 x3 x4 x5
  have x0 : ∀ x : Ext w3, x.toW.cell? ⟨g, 0, none⟩ = some (.int .i64 pk) := fun x => (ext_own x o4).cell 0
  have x1 : ∀ x : Ext w3, x.toW.cell? ⟨g, 1, none⟩ = some (.int .i64 ps) := fun x => (ext_own x o4).cell 1
  have x2 : ∀ x : Ext w3, x.toW.cell? ⟨g, 2, none⟩ = some (.int .i64 pd) := fun x => (ext_own x o4).cell 2
  have x3 : ∀ x : Ext w3, x.toW.cell? ⟨g, 3, none⟩ = some (.int .i64 pq) := fun x => (ext_own x o4).cell 3
  have x5 : ∀ x : Ext w3, x.toW.cell? ⟨g, 5, none⟩ = some (.slice pb nd pe) := fun x => (ext_own x o4).cell 5
  have S3 : Hid (∀ x : Ext w3, Calls Try.prog 10 #[] x.toW fun r w' => r = .returned (.bool true) ∧ Below x.toW.heap.size x.toW w') := Lib.hid (fun x => awakeF_any x.toW)
  have u0 : IntKind.i64.wrap pk = pk := IntWalk.i64_in _ (by omega)
  have u1 : IntKind.i64.wrap ps = ps := IntWalk.i64_in _ (by omega)
  have u2 : IntKind.i64.wrap pd = pd := IntWalk.i64_in _ (by omega)
  have u3 : IntKind.i64.wrap pq = pq := IntWalk.i64_in _ (by omega)
  have u4 : IntKind.i64.wrap (9 + (nx : Int)) = 9 + (nx : Int) := IntWalk.i64_in _ (by omega)
  have u5 : IntKind.i64.wrap (9 + (nx : Int) + (nd : Int)) = 9 + (nx : Int) + (nd : Int) := IntWalk.i64_in _ (by omega)
  have u6 : ((n : Int) == 9 + (nx : Int) + (nd : Int)) = true := by have := HLEN.out; simp; omega
  obtain ⟨hn9, _⟩ := hls
  clear o1 o3 o4 bb HRE HHC HLEN l1 l2 l3 l4 m1 m2 m3 m4 m5 m6 hX2 hl2 hl3 HA
  go_upto_region 7 with (fail)
  refine wp_region_ext w3 (by kernel_rfl) (by kernel_rfl) (Below.refl _ _) ?_
  repeat (go_big_quiet_step (first
    | (go_at_call 10; with_reducible exact ext_below _ (u := .bool true) (S3.out _))))
  refine wpQuiet_nil ?_
  rintro w9 ⟨z9, rfl⟩
  clear x0 x1 x2 x3 x5 y0 y1 y2 y3 S3
  go_wp2_with fail
  go_ret
  exact ⟨rfl, by rw [HG.out]; exact bq.trans (z9.ok.mono hgs3)⟩

theorem walk (H : Type) (enc : TypeId × Value → H) : Walk H enc Try.prog 6 Try.f6 := by
  intro W base args ds p hval hA
  rw [Try.params6] at hA hval
  obtain ⟨v0, d0, rfl, rfl, h0⟩ := trodAll_one hA
  obtain ⟨p, rfl, hp⟩ := open_frame (hval 0 _ v0 rfl rfl) h0
  exact body p W hp

set_option maxRecDepth 100000 in
theorem lifted (os : Os) (started : os.Started) (H : Type) (enc : TypeId × Value → H) :
    ReturnsInHanded {} Try.checked os 6 .any (Rows.frameLengthsSpec.pre6 enc Try.prog Try.f6 Rows.frameLengthsRow.domain false) (Rows.frameLengthsSpec.post enc Try.prog Try.f6 false true false false) :=
  returnsInHanded_of_change (C := Try.checked) own started (by kernel_rfl) Try.func6
    (ChangeSpec.witness6 (enc := enc) (C := Try.checked) false ⟨#[], #[.agg #[.int .i64 0, .int .i64 0, .int .i64 0, .int .i64 0, .slice none 0 0, .slice none 0 0]], []⟩ 8 (by kernel_rfl) (by kernel_rfl) (by kernel_rfl) (by kernel_rfl))
    fun W base args ds gs before hval hW _ _ => step_of_walk laidOut (by rw [Try.params6]; exact of_decide_eq_true (by kernel_rfl)) (by kernel_rfl) Try.underlying4 rfl
      (fun ds h => by
        rw [Try.params6] at h
        match ds, h with
        | [_], _ => rfl) (walk H enc) W base args ds gs before hval hW

theorem holds : Rows.FrameLengthsSaid :=
  OpenClaim.holds_of_wide 6 Try.f6 rfl rfl rfl rfl rfl rfl rfl ⟨rfl, rfl, rfl, rfl, rfl⟩ rfl rfl rfl rfl rfl (by kernel_rfl) Try.func6 (by kernel_rfl)
    (of_decide_eq_true (by kernel_rfl)) (by unfold Func.isWrapper; first | (rw [if_pos (by decide +kernel)]; kernel_rfl) | (rw [if_neg (by decide +kernel)]; exact ⟨rfl, rfl⟩))
    (fun os started H enc _ => lifted os started H enc)
#print axioms holds
end Go.Proofs.Ytoconkgemakboaa.FrameLengths
