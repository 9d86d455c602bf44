/-
  Law DupPlays: any calls: each answer, the last ones, are the reference's; the call returns true. No condition.
-/
import Derived.Test.YtbogpnfjlmhhhaaDupBoth
import Derived.Deep.RegionHeld3
set_option maxRecDepth 100000
namespace Go.Proofs.Ytbogpnfjlmhhhaa.DupPlays
set_option linter.unusedVariables false
open Go.RowKit Go.ChangeShapes Go.WideShapes Go.ChangeAt Go.Deep Lb Dp
set_option linter.unusedVariables false
theorem own : ownKnob Try.prog.godebug = none := by kernel_rfl
theorem laidOut : laidOutB Try.prog = true := by kernel_rfl

set_option maxHeartbeats 4000000 in
theorem body (a : Option Addr) (n c : Nat) (V : Nat → Value) (X0 : Nat → Bool) (X1 X2 : Nat → Int) (y : Int) (w : World) (hn : n ≤ c) (hc : c ≤ maxLen) (hV : Row w a (n * 3) V)
    (hC : ∀ i, i < n → V (i * 3) = .bool (X0 i) ∧ V (i * 3 + 1) = .int .i64 (X1 i) ∧ V (i * 3 + 2) = .int .i64 (X2 i) ∧ X2 i < 9223372036854775808) :
    Calls Try.prog 3 #[.slice a n c, .int .i64 y] w fun r w' => r = .returned (.bool true) ∧ Below w.heap.size w w' := by
  have hcap : (n : Int) ≤ 9223372036854775807 := by unfold maxLen at hc; omega
  have HC := Lib.hid hC
  clear hC
  go_enter Try.func3, Try.ntmps3
  go_wp2_with fail
  refine (new_any _).mono ?_
  rintro r w1 ⟨rfl, h1, b1, s1⟩
  go_wp2_with fail
  have oB := Own.new w1 31 #[Value.int .i64 0, Value.map none, Value.int .i64 0, Value.map none, Value.int .i64 0, Value.map none, Value.int .i64 0, Value.map none, Value.int .i64 0, Value.map none, Value.int .i64 0, Value.map none, Value.int .i64 0, Value.map none, Value.int .i64 0, Value.map none, Value.int .i64 0, Value.map none, Value.int .i64 0, Value.map none, Value.int .i64 0, Value.map none, Value.int .i64 0, Value.map none, Value.int .i64 0, Value.map none, Value.int .i64 0, Value.map none, Value.int .i64 0, Value.map none, Value.int .i64 0, Value.map none]
  have r2 := rf_zero (w1.alloc (.cells #[Value.int .i64 0, Value.map none, Value.int .i64 0, Value.map none, Value.int .i64 0, Value.map none, Value.int .i64 0, Value.map none, Value.int .i64 0, Value.map none, Value.int .i64 0, Value.map none, Value.int .i64 0, Value.map none, Value.int .i64 0, Value.map none, Value.int .i64 0, Value.map none, Value.int .i64 0, Value.map none, Value.int .i64 0, Value.map none, Value.int .i64 0, Value.map none, Value.int .i64 0, Value.map none, Value.int .i64 0, Value.map none, Value.int .i64 0, Value.map none, Value.int .i64 0, Value.map none] 31)) w1.heap.size (w1.heap.size + 1) _ oB (by rfl) (Nat.lt_succ_self _) (by simp)
  have h2 : Win (w1.alloc (.cells #[Value.int .i64 0, Value.map none, Value.int .i64 0, Value.map none, Value.int .i64 0, Value.map none, Value.int .i64 0, Value.map none, Value.int .i64 0, Value.map none, Value.int .i64 0, Value.map none, Value.int .i64 0, Value.map none, Value.int .i64 0, Value.map none, Value.int .i64 0, Value.map none, Value.int .i64 0, Value.map none, Value.int .i64 0, Value.map none, Value.int .i64 0, Value.map none, Value.int .i64 0, Value.map none, Value.int .i64 0, Value.map none, Value.int .i64 0, Value.map none, Value.int .i64 0, Value.map none] 31)) w.heap.size (fun _ => 0) (fun _ => 0) := Blk.alloc h1 _
  have b2 := b1.alloc (Nat.le_of_lt s1) (.cells #[Value.int .i64 0, Value.map none, Value.int .i64 0, Value.map none, Value.int .i64 0, Value.map none, Value.int .i64 0, Value.map none, Value.int .i64 0, Value.map none, Value.int .i64 0, Value.map none, Value.int .i64 0, Value.map none, Value.int .i64 0, Value.map none, Value.int .i64 0, Value.map none, Value.int .i64 0, Value.map none, Value.int .i64 0, Value.map none, Value.int .i64 0, Value.map none, Value.int .i64 0, Value.map none, Value.int .i64 0, Value.map none, Value.int .i64 0, Value.map none, Value.int .i64 0, Value.map none] 31)
  have hg : Hid (AllG (fun _ => 0) (fun _ => 0)) := Lib.hid (fun _ => good_zero 0)
  generalize hg1 : w1.heap.size = g at *
  generalize w1.alloc (.cells #[Value.int .i64 0, Value.map none, Value.int .i64 0, Value.map none, Value.int .i64 0, Value.map none, Value.int .i64 0, Value.map none, Value.int .i64 0, Value.map none, Value.int .i64 0, Value.map none, Value.int .i64 0, Value.map none, Value.int .i64 0, Value.map none, Value.int .i64 0, Value.map none, Value.int .i64 0, Value.map none, Value.int .i64 0, Value.map none, Value.int .i64 0, Value.map none, Value.int .i64 0, Value.map none, Value.int .i64 0, Value.map none, Value.int .i64 0, Value.map none, Value.int .i64 0, Value.map none] 31) = w2 at *
  have sg : w.heap.size < g := s1
  clear h1 b1 s1 oB
  go_loopw [24] (fun i wr => ∃ (k : Nat) (L : Nat → Int) (S : Nat → Nat) (M : Nat → Option Nat) (D : Nat → Dt), i = .int .i64 k ∧ k ≤ n ∧ k ≤ 300 ∧ Win wr w.heap.size L S ∧ Rf wr (g + 1) g L S k M D ∧ Hid (AllG L S) ∧ Below w.heap.size w wr) (fun i _ => n - (intOf i).toNat)
  case atStart => exact ⟨0, _, _, _, _, rfl, by omega, by omega, h2, r2, hg, b2⟩
  case round =>
    clear h2 r2 hg b2
    obtain ⟨k, L, S, M, D, rfl, hk, hk3, h1, r1, hg, bb⟩ := hrel
    by_cases hlt : k < n ∧ k < 300
    · obtain ⟨hlt, h300⟩ := hlt
      have e300 : decide ((300 : Int) ≤ (k : Int)) = false := by simp; omega
      obtain ⟨bo, off, rfl, hbo, hcs⟩ := hV.at_struct bb hlt (by decide)
      obtain ⟨e0, e1, e2, e3⟩ := HC.out k hlt
      have c0 := (hcs 0 (by decide)).trans (congrArg some e0)
      have c1 := (hcs 1 (by decide)).trans (congrArg some e1)
      have c2 := (hcs 2 (by decide)).trans (congrArg some e2)
      rw [Nat.add_zero] at c0
      clear hcs e0 e1 e2
      generalize X0 k = f at *
      generalize X1 k = x at *
      generalize X2 k = m at *
      have hx1 : Win (wr.alloc (.cells #[.bool f, .int .i64 x, .int .i64 m] 33)) w.heap.size L S := Blk.alloc h1 _
      have hx2 : Rf (wr.alloc (.cells #[.bool f, .int .i64 x, .int .i64 m] 33)) (g + 1) g L S k M D := r1.below ((Below.refl _ _).alloc (Nat.le_refl _) _)
      have bx := bb.alloc bb.size (.cells #[.bool f, .int .i64 x, .int .i64 m] 33)
      have ox := Own.new wr 33 #[.bool f, .int .i64 x, .int .i64 m]
      have z3 : g + 1 ≤ wr.heap.size := r1.top
      cases f
      · have hg2 := Lib.hid (allG_step (x := x) hg.out e3)
        obtain ⟨er, her⟩ : ∃ er, ansN L S x m = er := ⟨_, rfl⟩
        have HE := Lib.hid her
        obtain ⟨la, hla⟩ : ∃ la, lastA (stepL L S x m) (stepS L S x m) x = la := ⟨_, rfl⟩
        obtain ⟨lb, hlb⟩ : ∃ lb, lastB (stepS L S x m) x = lb := ⟨_, rfl⟩
        have HLA := Lib.hid hla
        have HLB := Lib.hid hlb
        clear her hla hlb
        go_wp2_with fail
        generalize hrr : wr.heap.size = r at *
        generalize wr.alloc (.cells #[.bool false, .int .i64 x, .int .i64 m] 33) = wx at *
        clear hrr c0 c1 c2 bb h1 r1
        have hG : Win wx.drew w.heap.size L S := hx1
        have hR : Rf wx.drew (g + 1) g L S k M D := hx2.drewN 1
        have oX : Own wx.drew r 33 #[.bool false, .int .i64 x, .int .i64 m] := ox
        have bX : Below w.heap.size w wx.drew := below_drewN bx 1
        have x1 : wx.cell? ⟨r, 1, none⟩ = some (.int .i64 x) := ox.cell 1
        have x2 : wx.cell? ⟨r, 2, none⟩ = some (.int .i64 m) := ox.cell 2
        clear ox hx1 hx2
        have xx : wx.drew.cell? ⟨r, 1, none⟩ = some (.int .i64 x) ∧ wx.drew.cell? ⟨r, 2, none⟩ = some (.int .i64 m) := ⟨x1, x2⟩
        go_region_held3 (fun w' => w'.cell? ⟨r, 1, none⟩ = some (.int .i64 x) ∧ w'.cell? ⟨r, 2, none⟩ = some (.int .i64 m)) (first | exact xx | exact yy | exact zz) (first
          | (go_at_call 11; refine (wnew_any w.heap.size L S x m _ ?_ e3 hg.out).mono ?_; (first | exact hG | exact hG2); rintro q w5 ⟨rfl, hG3, jG⟩; rw [HE.out]; (first | (have hR2 := hR.just jG (by omega) (by omega); have bX2 := jG.below bX (Nat.le_refl _) bX.size; have oX2 := jG.own oX (by omega); have yy : w5.cell? ⟨r, 1, none⟩ = some (.int .i64 x) ∧ w5.cell? ⟨r, 2, none⟩ = some (.int .i64 m) := ⟨oX2.cell 1, oX2.cell 2⟩) | (have hR4 := hR3.just jG (by omega) (by omega); have bX4 := jG.below bX2 (Nat.le_refl _) bX2.size; have oX4 := jG.own oX2 (by omega); have zz : w5.cell? ⟨r, 1, none⟩ = some (.int .i64 x) ∧ w5.cell? ⟨r, 2, none⟩ = some (.int .i64 m) := ⟨oX4.cell 1, oX4.cell 2⟩)))
          | (go_at_call 12; refine (rnew_any (g + 1) g k L S M D x m _ ?_ e3 hg.out (by omega)).mono ?_; (first | exact hR | exact hR2); rintro q w5 ⟨rfl, ⟨M', D', hR3⟩, jR⟩; rw [HE.out]; (first | (have hG2 := jR.own hR hG (by omega); have bX2 := jR.below hR bX (by omega); have oX2 := jR.own hR oX (by omega); have yy : w5.cell? ⟨r, 1, none⟩ = some (.int .i64 x) ∧ w5.cell? ⟨r, 2, none⟩ = some (.int .i64 m) := ⟨oX2.cell 1, oX2.cell 2⟩) | (have hG4 := jR.own hR2 hG3 (by omega); have bX4 := jR.below hR2 bX2 (by omega); have oX4 := jR.own hR2 oX2 (by omega); have zz : w5.cell? ⟨r, 1, none⟩ = some (.int .i64 x) ∧ w5.cell? ⟨r, 2, none⟩ = some (.int .i64 m) := ⟨oX4.cell 1, oX4.cell 2⟩))))
        all_goals
          have y1 : ∀ wz : World, Own wz r 33 #[.bool false, .int .i64 x, .int .i64 m] → wz.cell? ⟨r, 1, none⟩ = some (.int .i64 x) := fun _ h => h.cell 1
          have y2 := y1 _ oX4
          clear xx yy zz x1 x2 y1
          first
          | (
            go_wp2_with fail
            refine (wlast_any w.heap.size _ _ x _ hG4).mono ?_
            rintro r w' ⟨rfl, rfl⟩
            rw [HLA.out, HLB.out]
            go_wp2_with fail
            refine (rlast_any (g + 1) g _ _ _ _ _ x _ hR3).mono ?_
            rintro r w' ⟨rfl, rfl⟩
            rw [HLA.out, HLB.out]
            go_wp2_with fail
            exact ⟨⟨k + 1, _, _, _, _, by simp [intOf], by omega, by omega, hG4, hR3, hg2, bX4⟩, by simp [intOf]; omega⟩
            )
          | (
            go_wp2_with fail
            refine (wlast_any w.heap.size _ _ x _ hG3).mono ?_
            rintro r w' ⟨rfl, rfl⟩
            rw [HLA.out, HLB.out]
            go_wp2_with fail
            refine (rlast_any (g + 1) g _ _ _ _ _ x _ hR4).mono ?_
            rintro r w' ⟨rfl, rfl⟩
            rw [HLA.out, HLB.out]
            go_wp2_with fail
            exact ⟨⟨k + 1, _, _, _, _, by simp [intOf], by omega, by omega, hG3, hR4, hg2, bX4⟩, by simp [intOf]; omega⟩
            )
      · have hg2 := Lib.hid (allG_forg hg.out x)
        obtain ⟨la, hla⟩ : ∃ la, lastA (forgL L x) (forgS S x) x = la := ⟨_, rfl⟩
        obtain ⟨lb, hlb⟩ : ∃ lb, lastB (forgS S x) x = lb := ⟨_, rfl⟩
        have HLA := Lib.hid hla
        have HLB := Lib.hid hlb
        clear hla hlb
        go_wp2_with fail
        generalize hrr : wr.heap.size = r at *
        generalize wr.alloc (.cells #[.bool true, .int .i64 x, .int .i64 m] 33) = wx at *
        clear hrr c0 c1 c2 bb h1 r1
        refine (wforg_any w.heap.size _ _ x _ hx1).mono ?_
        rintro q w4 ⟨rfl, hG3, jG⟩
        have hR2 := hx2.just jG (by omega) (by omega)
        have oX2 := jG.own ox (by omega)
        have bX2 := jG.below bx (Nat.le_refl _) bx.size
        have x1 : w4.cell? ⟨r, 1, none⟩ = some (.int .i64 x) := oX2.cell 1
        go_wp2_with fail
        refine (rforg_any (g + 1) g k _ _ _ _ x _ hR2).mono ?_
        rintro q w5 ⟨rfl, ⟨M', D', hR3⟩, jR⟩
        have hR3 := hR3.mono (Nat.le_succ k)
        have hG4 := jR.own hR2 hG3 (by omega)
        have bX4 := jR.below hR2 bX2 (by omega)
        have oX4 := jR.own hR2 oX2 (by omega)
        have y2 : w5.cell? ⟨r, 1, none⟩ = some (.int .i64 x) := oX4.cell 1
        clear x1
        go_wp2_with fail
        refine (wlast_any w.heap.size _ _ x _ hG4).mono ?_
        rintro r w' ⟨rfl, rfl⟩
        rw [HLA.out, HLB.out]
        go_wp2_with fail
        refine (rlast_any (g + 1) g _ _ _ _ _ x _ hR3).mono ?_
        rintro r w' ⟨rfl, rfl⟩
        rw [HLA.out, HLB.out]
        go_wp2_with fail
        exact ⟨⟨k + 1, _, _, _, _, by simp [intOf], by omega, by omega, hG4, hR3, hg2, bX4⟩, by simp [intOf]; omega⟩
    · have hx : (k < n ∧ decide ((300 : Int) ≤ (k : Int)) = true) ∨ ¬ k < n := by
        by_cases h1 : k < n
        · exact .inl ⟨h1, by simp; omega⟩
        · exact .inr h1
      clear hlt
      obtain ⟨la, hla⟩ : ∃ la, lastA L S y = la := ⟨_, rfl⟩
      obtain ⟨lb, hlb⟩ : ∃ lb, lastB S y = lb := ⟨_, rfl⟩
      have HLA := Lib.hid hla
      have HLB := Lib.hid hlb
      clear hla hlb
      rcases hx with ⟨hlt, e300⟩ | hlt
      · obtain ⟨bo, off, rfl, hbo, hcs⟩ := hV.at_struct bb hlt (by decide)
        obtain ⟨e0, e1, e2, e3⟩ := HC.out k hlt
        have c0 := (hcs 0 (by decide)).trans (congrArg some e0)
        have c1 := (hcs 1 (by decide)).trans (congrArg some e1)
        have c2 := (hcs 2 (by decide)).trans (congrArg some e2)
        rw [Nat.add_zero] at c0
        clear hcs e0 e1 e2
        generalize X0 k = f at *
        generalize X1 k = x at *
        generalize X2 k = m at *
        have hx1 : Win (wr.alloc (.cells #[.bool f, .int .i64 x, .int .i64 m] 33)) w.heap.size L S := Blk.alloc h1 _
        have hx2 : Rf (wr.alloc (.cells #[.bool f, .int .i64 x, .int .i64 m] 33)) (g + 1) g L S k M D := r1.below ((Below.refl _ _).alloc (Nat.le_refl _) _)
        have bx := bb.alloc bb.size (.cells #[.bool f, .int .i64 x, .int .i64 m] 33)
        go_wp2_with fail
        generalize wr.alloc (.cells #[.bool f, .int .i64 x, .int .i64 m] 33) = wx at *
        clear h1 r1 bb
        refine (wlast_any w.heap.size _ _ y _ hx1).mono ?_
        rintro r w' ⟨rfl, rfl⟩
        rw [HLA.out, HLB.out]
        go_wp2_with fail
        refine (rlast_any (g + 1) g _ _ _ _ _ y _ hx2).mono ?_
        rintro r w' ⟨rfl, rfl⟩
        rw [HLA.out, HLB.out]
        go_wp2_with fail
        refine (awake_any _).mono ?_
        rintro r w9 ⟨rfl, b9⟩
        have bb := bx.trans (b9.mono bx.size)
        go_wp2_with fail
        go_ret
        exact ⟨rfl, bb⟩
      · go_wp2_with fail
        refine (wlast_any w.heap.size _ _ y _ h1).mono ?_
        rintro r w' ⟨rfl, rfl⟩
        rw [HLA.out, HLB.out]
        go_wp2_with fail
        refine (rlast_any (g + 1) g _ _ _ _ _ y _ r1).mono ?_
        rintro r w' ⟨rfl, rfl⟩
        rw [HLA.out, HLB.out]
        go_wp2_with fail
        refine (awake_any _).mono ?_
        rintro r w9 ⟨rfl, b9⟩
        have bb := bb.trans (b9.mono bb.size)
        go_wp2_with fail
        go_ret
        exact ⟨rfl, bb⟩

theorem walk (H : Type) (enc : TypeId × Value → H) : Walk H enc Try.prog 3 Try.f3 := by
  intro W base args ds p hval hA
  rw [Try.params3] at hA hval
  obtain ⟨v0, v1, d0, d1, p0, p1, rfl, rfl, rfl, h0, h1⟩ := trodAll_two hA
  obtain ⟨a, n, c, V, rfl, hn, hm, hV, hf⟩ := open_row_struct Try.underlying22 Try.underlying33 (by kernel_rfl) (by kernel_rfl) (by decide) (hval 0 _ v0 rfl rfl) h0
  obtain ⟨X0, e0⟩ := field_bool (n := n) (m := 3) (j := 0) Try.underlying4 (fun i hi => hf i hi 0 _ rfl)
  obtain ⟨X1, e1⟩ := field_int (n := n) (m := 3) (j := 1) Try.underlying3 (fun i hi => hf i hi 1 _ rfl)
  obtain ⟨X2, e2⟩ := field_int (n := n) (m := 3) (j := 2) Try.underlying3 (fun i hi => hf i hi 2 _ rfl)
  obtain ⟨y, rfl, rfl, rfl, _⟩ := open_int Try.underlying3 (hval 1 _ v1 rfl rfl) h1
  exact body a n c V X0 X1 X2 y W hn hm hV (fun i hi => ⟨e0 i hi, (e1 i hi).1, (e2 i hi).1, by have := i64_bd (e2 i hi).2; omega⟩)

set_option maxRecDepth 100000 in
theorem lifted (os : Os) (started : os.Started) (H : Type) (enc : TypeId × Value → H) :
    ReturnsInHanded {} Try.checked os 3 .any (Rows.dupPlaysSpec.pre6 enc Try.prog Try.f3 Rows.dupPlaysRow.domain false) (Rows.dupPlaysSpec.post enc Try.prog Try.f3 false true false false) :=
  returnsInHanded_of_change (C := Try.checked) own started (by kernel_rfl) Try.func3
    (ChangeSpec.witness6 (enc := enc) (C := Try.checked) false ⟨#[], #[.slice none 0 0, .int .i64 0], []⟩ 8 (by kernel_rfl) (by kernel_rfl) (by kernel_rfl) (by kernel_rfl))
    fun W base args ds gs before hval hW _ _ => step_of_walk laidOut (by rw [Try.params3]; exact of_decide_eq_true (by kernel_rfl)) (by kernel_rfl) Try.underlying4 rfl
      (fun ds h => by
        rw [Try.params3] at h
        match ds, h with
        | [_, _], _ => rfl) (walk H enc) W base args ds gs before hval hW

theorem holds : Rows.DupPlaysSaid :=
  OpenClaim.holds_of_wide 3 Try.f3 rfl rfl rfl rfl rfl rfl rfl ⟨rfl, rfl, rfl, rfl, rfl⟩ rfl rfl rfl rfl rfl (by kernel_rfl) Try.func3 (by kernel_rfl)
    (of_decide_eq_true (by kernel_rfl)) (by unfold Func.isWrapper; first | (rw [if_pos (by decide +kernel)]; kernel_rfl) | (rw [if_neg (by decide +kernel)]; exact ⟨rfl, rfl⟩))
    (fun os started H enc _ => lifted os started H enc)
#print axioms holds
end Go.Proofs.Ytbogpnfjlmhhhaa.DupPlays
