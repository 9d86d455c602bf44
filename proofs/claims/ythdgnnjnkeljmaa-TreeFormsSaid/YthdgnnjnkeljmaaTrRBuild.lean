/-
  The reference's tree (chapter 21): Build, ranks by rounds.
-/
import Derived.Test.YthdgnnjnkeljmaaTrRPar
set_option maxRecDepth 100000
namespace Go.Proofs.Ythdgnnjnkeljmaa.Tr
set_option linter.unusedVariables false
open Go.RowKit Lb Tp

def rtz : Array Value := (List.replicate 16 (Value.int .i64 0) ++ List.replicate 16 (Value.slice none 0 0)).toArray
theorem rtz_built : Try.prog.built 63 [] = some rtz := by kernel_rfl
theorem rtz_tree (w : World) : RTb (w.alloc (.cells rtz 63)) w.heap.size (fun x => if x < 0 then none else some 0) (fun _ => .slice none 0 0) := Blk.of (Own.new w 63 rtz) (by decide) (fun i hi => by
  unfold rtz rtv rI
  rw [List.getElem?_toArray, List.getElem?_append, List.length_replicate]
  by_cases h : i < 16
  · rw [if_pos h, if_pos h, List.getElem?_replicate, if_pos h]
    rfl
  · rw [if_neg h, if_neg h, List.getElem?_replicate, if_pos (by omega)])
def oI (s : Option Nat) : Int := match s with
  | some r => (r : Int)
  | none => -1
theorem RTb.put {w : World} {t b : Nat} {R : Rk} {P : Nat → Value} (h : RTb w t R P) (hb : b < 16) (s : Option Nat) : RTb (w.setCell ⟨t, b, none⟩ (.int .i64 (oI s))) t (fun j => if j = b then s else R j) P := by
  unfold RTb at h ⊢
  refine (Blk.put h b (.int .i64 (oI s))).ext (fun i hi => ?_)
  unfold rtv rI
  dsimp only
  by_cases h1 : i = b
  · subst h1
    rw [if_pos rfl, if_pos hb, if_pos rfl]
    rfl
  · rw [if_neg h1]
    by_cases h2 : i < 16
    · rw [if_pos h2, if_pos h2, if_neg h1]
    · rw [if_neg h2, if_neg h2]
theorem RTb.putP {w : World} {t b : Nat} {R : Rk} {P : Nat → Value} (h : RTb w t R P) (hb : b < 16) (v : Value) : RTb (w.setCell ⟨t, 16 + b, none⟩ v) t R (fun j => if j = b then v else P j) := by
  unfold RTb at h ⊢
  refine (Blk.put h (16 + b) v).ext (fun i hi => ?_)
  unfold rtv
  dsimp only
  by_cases h1 : i = 16 + b
  · subst h1
    rw [if_pos rfl, if_neg (by omega), if_pos (by omega)]
  · rw [if_neg h1]
    by_cases h2 : i < 16
    · rw [if_pos h2, if_pos h2]
    · rw [if_neg h2, if_neg h2, if_neg (by omega)]
theorem RTb.ext {w : World} {t : Nat} {R S : Rk} {P : Nat → Value} (h : RTb w t R P) (e : ∀ x, x < 16 → R x = S x) : RTb w t S P := by
  unfold RTb at h ⊢
  refine Blk.ext h (fun i hi => ?_)
  unfold rtv rI
  by_cases h2 : i < 16
  · rw [if_pos h2, if_pos h2, e i h2]
  · rw [if_neg h2, if_neg h2]
set_option maxHeartbeats 8000000 in
theorem rbuild_any (g N : Nat) (Q : Nat → Nat → Int) (least : Int) (w : World) (hF : Fine N Q) (hg : Gr w g 66 N Q) :
    Calls Try.prog 10 #[.pointer (some ⟨g, 0, none⟩), .int .i64 least] w fun r w' => ∃ t R, r = .returned (.pointer (some ⟨t, 0, none⟩)) ∧ w.heap.size ≤ t ∧ RTre w' t R (parT N Q least R) ∧ Fin_ N Q least R ∧ (∀ x s, R x = some s → s ≤ 15) ∧ RowKit.Below w.heap.size w w' := by
  have hN1 := hF.1
  have hN := hF.2.1
  have hfin := rall_fin (Q := Q) (least := least) hN1 hN
  have HFIN := Lib.hid hfin
  have HF := Lib.hid hF
  have HTZ := Lib.hid rtz_built
  have hT0 := rtz_tree w
  have b0 := (Below.refl w.heap.size w).alloc (Nat.le_refl _) (.cells rtz 63)
  obtain ⟨t, ht⟩ : ∃ q, w.heap.size = q := ⟨_, rfl⟩
  have hgt : g < t := ht ▸ hg.lt
  have HG := Lib.hid hg
  rw [ht] at hT0 b0
  have HW := Lib.hid ht
  clear hg hF hfin
  go_enter Try.func10, Try.ntmps10
  go_upto_region 2 with (refine wpList_built rtz rfl rfl HTZ.out ?_)
  clear ht HTZ
  generalize w.alloc (.cells rtz 63) = w0 at *
  go_wp2_with fail
  go_loopw [14] (fun i wr => ∃ k : Nat, i = .int .i64 k ∧ k ≤ 16 ∧ RTb wr t (fun x => if x < k then none else some 0) (fun _ => .slice none 0 0) ∧ RowKit.Below t w wr) (fun i _ => 16 - (intOf i).toNat)
  case atStart => exact ⟨0, rfl, by omega, hT0, b0⟩
  case round =>
    clear hT0 b0
    clear w0
    obtain ⟨k, rfl, hk, hT, bb⟩ := hrel
    by_cases hlt : k < 16
    · have g1 : (k : Int) < 16 := by omega
      have c1 := hT.rank hlt
      have f1 : wr.frozen? ⟨t, k, none⟩ = false := Blk.free hT k
      have hT2 : RTb (wr.setCell ⟨t, k, none⟩ (.int .i64 (-1))) t (fun x => if x < k + 1 then none else some 0) (fun _ => .slice none 0 0) := (hT.put hlt none).ext (fun x _ => by
        by_cases h1 : x = k
        · subst h1
          rw [if_pos rfl, if_pos (by omega)]
        · rw [if_neg h1]
          by_cases h2 : x < k
          · rw [if_pos h2, if_pos (by omega)]
          · rw [if_neg h2, if_neg (by omega)])
      have b2 := (Just.set t wr k (.int .i64 (-1))).below bb (Nat.le_refl t) (Nat.le_of_lt hT.lt)
      clear hT bb
      go_wp2_with fail
      exact ⟨⟨k + 1, by simp [intOf], by omega, hT2, b2⟩, by simp [intOf]; omega⟩
    · have hk16 : k = 16 := by omega
      have HK := Lib.hid hk16
      have g1 : decide ((k : Int) < 16) = false := by simp; omega
      clear hk hlt hk16
      -- <A
      have c1 := hT.rank (x := 0) (by decide)
      have f1 : wr.frozen? ⟨t, 0, none⟩ = false := Blk.free hT 0
      have hT2 : RTb (wr.setCell ⟨t, 0, none⟩ (.int .i64 0)) t (rallK N Q least 0) (fun _ => .slice none 0 0) := (hT.put (by decide : 0 < 16) (some 0)).ext (fun x hx => by
        show _ = R0 x
        unfold R0
        by_cases h1 : x = 0
        · rw [if_pos h1, if_pos h1]
        · rw [if_neg h1, if_neg h1, if_pos (by rw [HK.out]; exact hx)])
      have b2 := (Just.set t wr 0 (.int .i64 0)).below bb (Nat.le_refl t) (Nat.le_of_lt hT.lt)
      have n1 := Gr.n (Q := Q) (N := N) (t := 66) (below_blk b2 HG.out hgt)
      clear hT bb
      go_upto_region 8 with (fail)
      generalize wr.setCell ⟨t, 0, none⟩ (.int .i64 0) = w1 at *
      clear c1 f1
      clear wr
      go_wp2_with fail
      clear n1
      go_loopw [31] (fun i wr => ∃ r : Nat, i = .int .i64 r ∧ r ≤ N ∧ RTb wr t (rallK N Q least r) (fun _ => .slice none 0 0) ∧ RowKit.Below t w wr) (fun i _ => N - (intOf i).toNat)
      case atStart => exact ⟨0, rfl, by omega, hT2, b2⟩
      case round =>
        clear hT2 b2
        clear w1
        obtain ⟨r, rfl, hr, hT, bb⟩ := hrel
        by_cases hrN : r < N
        · have g1 : (r : Int) < (N : Int) := by omega
          have n1 := Gr.n (Q := Q) (N := N) (t := 66) (below_blk bb HG.out hgt)
          go_wp2_with fail
          clear n1
          have hT0 : RTb wr t (rndK N Q least r (rallK N Q least r) 0) (fun _ => .slice none 0 0) := hT
          go_loopw [38] (fun i wr => ∃ k : Nat, i = .int .i64 k ∧ k ≤ N ∧ RTb wr t (rndK N Q least r (rallK N Q least r) k) (fun _ => .slice none 0 0) ∧ RowKit.Below t w wr) (fun i _ => N - (intOf i).toNat)
          case atStart => exact ⟨0, rfl, by omega, hT0, bb⟩
          case round =>
            clear hT0 hT bb
            obtain ⟨k, rfl, hk, hT, bb⟩ := hrel
            by_cases hkN : k < N
            · -- <B
              have g2 : (k : Int) < (N : Int) := by omega
              have hk16 : k < 16 := by omega
              have g3 : (k : Int) < 16 := by omega
              have c1 := hT.rank hk16
              have hnx := rndK_next (N := N) (Q := Q) (least := least) r (rallK N Q least r) k
              obtain ⟨Rr, hRr⟩ : ∃ q, rndK N Q least r (rallK N Q least r) k = q := ⟨_, rfl⟩
              rw [hRr] at hT hnx c1
              have HNX := Lib.hid hnx
              clear hnx hRr
              by_cases hRk : Rr k = some r
              · have hx : rI Rr k = (r : Int) := by unfold rI; rw [hRk]
                rw [hx] at c1
                have HV : Hid (rndK N Q least r (rallK N Q least r) (k + 1) = (visits r (Rr, []) (near N Q k least)).1) := Lib.hid (by rw [HNX.out]; unfold rin; rw [if_pos hRk])
                have hgr := (below_blk bb HG.out hgt : Gr _ g 66 N Q)
                clear hRk hx
                go_wp2_with fail
                refine (rnear g 66 N Q k least _ hgr hN).mono ?_
                rintro e w5 ⟨vn, rfl, hvn, b5⟩
                obtain ⟨A, cN, rfl, hl⟩ := Rl.of hvn
                have hT3 : RTb w5 t _ _ := hT.below b5 hT.lt
                have bb3 := bb.trans (b5.mono (Nat.le_of_lt hT.lt))
                have hl3 : Rl w5 (t + 1) A cN (near N Q k least) := hl.mono hT.lt
                have hcN := hl.cap
                have hlN := hl.le
                have HNL := Lib.hid (fun j (hj : j < (near N Q k least).length) => near_lt hj)
                have hT0 : RTb w5 t (visits r (Rr, []) ((near N Q k least).take 0)).1 (fun _ => .slice none 0 0) := hT3
                obtain ⟨L, hL⟩ : ∃ L, (near N Q k least).length = L := ⟨_, rfl⟩
                have HL := Lib.hid hL
                rw [hL] at hlN ⊢
                unfold maxLen at hcN
                have hL63 : (L : Int) ≤ 9223372036854775807 := by omega
                clear hvn hl hL hT hgr bb b5 c1 hT3
                clear wr
                go_wp2_with fail
                go_loopw [54] (fun i wr => ∃ j : Nat, i = .int .i64 j ∧ j ≤ L ∧ RTb wr t (visits r (Rr, []) ((near N Q k least).take j)).1 (fun _ => .slice none 0 0) ∧ Rl wr (t + 1) A cN (near N Q k least) ∧ RowKit.Below t w wr) (fun i _ => L - (intOf i).toNat)
                case atStart => exact ⟨0, rfl, by omega, hT0, hl3, bb3⟩
                case round =>
                  clear hT0 hl3 bb3
                  clear w5
                  obtain ⟨j, rfl, hj, hT, hl, bb⟩ := hrel
                  by_cases hjL : j < L
                  · -- <C
                    have hj2 : j < (near N Q k least).length := by rw [HL.out]; exact hjL
                    obtain ⟨bo, off, hAe, hbo, d0⟩ := row_ln hl.row (Below.refl _ _) hj2
                    have hbN := HNL.out j hj2
                    have htk : (near N Q k least).take (j + 1) = (near N Q k least).take j ++ [(near N Q k least).getD j 0] := by
                      rw [List.take_add_one, List.getD_eq_getElem?_getD, List.getElem?_eq_getElem hj2]
                      rfl
                    have hvs := visits_snoc r (Rr, []) ((near N Q k least).take j) ((near N Q k least).getD j 0)
                    rw [← htk] at hvs
                    obtain ⟨b, hb⟩ : ∃ b, (near N Q k least).getD j 0 = b := ⟨_, rfl⟩
                    rw [hb] at d0 hbN hvs
                    obtain ⟨s, hs⟩ : ∃ s, visits r (Rr, []) ((near N Q k least).take j) = s := ⟨_, rfl⟩
                    rw [hs] at hT hvs
                    obtain ⟨R1, f1⟩ := s
                    dsimp only at hT
                    have HVS := Lib.hid hvs
                    have hb16 : b < 16 := by omega
                    have g4 : (b : Int) < 16 := by omega
                    have c1 := hT.rank hb16
                    have e1 : IntKind.i64.wrap ((r : Int) + 1) = (r : Int) + 1 := IntWalk.i64_in _ (by omega)
                    have HL2 := Lib.hid hl
                    subst hAe
                    clear htk hvs hb hs hj2 hl
                    cases hRb : R1 b with
                    | some q =>
                      have hx : rI R1 b = (q : Int) := by unfold rI; rw [hRb]
                      rw [hx] at c1
                      have hv2 : Hid ((visits r (Rr, []) ((near N Q k least).take (j + 1))).1 = R1) := Lib.hid (by rw [HVS.out, visit_some hRb])
                      clear hRb hx
                      go_wp2_with fail
                      exact ⟨⟨j + 1, by simp [intOf], by omega, by rw [hv2.out]; exact hT, HL2.out, bb⟩, by simp [intOf]; omega⟩
                    | none =>
                      have hx : rI R1 b = -1 := by unfold rI; rw [hRb]
                      rw [hx] at c1
                      have hv2 : Hid ((visits r (Rr, []) ((near N Q k least).take (j + 1))).1 = fun x => if x = b then some (r + 1) else R1 x) := Lib.hid (by rw [HVS.out, visit_none hRb])
                      have f3 : wr.frozen? ⟨t, b, none⟩ = false := Blk.free hT _
                      have hT6 : RTb (wr.setCell ⟨t, b, none⟩ (.int .i64 ((r : Int) + 1))) t _ _ := hT.put hb16 (some (r + 1))
                      have j6 := Just.set t wr b (.int .i64 ((r : Int) + 1))
                      have b6 := j6.below bb (Nat.le_refl t) (Nat.le_of_lt hT.lt)
                      have hl6 := HL2.out.just j6 (by omega)
                      clear hRb hx hT bb HL2 j6
                      go_wp2_with fail
                      exact ⟨⟨j + 1, by simp [intOf], by omega, by rw [hv2.out]; exact hT6, hl6, b6⟩, by simp [intOf]; omega⟩
                    -- C>
                  · obtain rfl : j = L := by omega
                    have g5 : decide ((j : Int) < (j : Int)) = false := by simp
                    have htk : (near N Q k least).take j = near N Q k least := by rw [← HL.out, List.take_length]
                    rw [htk, ← HV.out] at hT
                    clear htk
                    go_wp2_with fail
                    exact ⟨⟨k + 1, by simp [intOf], by omega, hT, bb⟩, by simp [intOf]; omega⟩
              · have HV : Hid (rndK N Q least r (rallK N Q least r) (k + 1) = Rr) := Lib.hid (by rw [HNX.out]; unfold rin; rw [if_neg hRk])
                obtain ⟨x, hx⟩ : ∃ x, rI Rr k = x := ⟨_, rfl⟩
                rw [hx] at c1
                have g4 : (x != (r : Int)) = true := by
                  unfold rI at hx
                  cases hR : Rr k with
                  | none => rw [hR] at hx; dsimp only at hx; simp; omega
                  | some s =>
                    rw [hR] at hx hRk
                    dsimp only at hx
                    have : s ≠ r := fun e => hRk (by rw [e])
                    simp
                    omega
                clear hRk hx
                go_wp2_with fail
                exact ⟨⟨k + 1, by simp [intOf], by omega, by rw [HV.out]; exact hT, bb⟩, by simp [intOf]; omega⟩
              -- B>
            · obtain rfl : k = N := by omega
              have g5 : decide ((k : Int) < (k : Int)) = false := by simp
              rw [← rallK_next] at hT
              go_wp2_with fail
              exact ⟨⟨r + 1, by simp [intOf], by omega, hT, bb⟩, by simp [intOf]; omega⟩
        · obtain rfl : r = N := by omega
          -- <D
          have g5 : decide ((r : Int) < (r : Int)) = false := by simp
          have n1 := Gr.n (Q := Q) (N := r) (t := 66) (below_blk bb HG.out hgt)
          obtain ⟨R, hR⟩ : ∃ R, rallK r Q least r = R := ⟨_, rfl⟩
          rw [hR] at HFIN hT
          have hTz : RTb wr t R (fun x => .slice none (parK r Q least R 0 x).length 0) := hT
          have hRz : Hid (∀ x, x < 16 → Rl wr (t + 1) none 0 (parK r Q least R 0 x)) := Lib.hid (fun x _ => Rl.nil wr (t + 1))
          clear hR hT
          go_wp2_with fail
          clear n1 g5
          go_loopw [79] (fun i wr => ∃ (k : Nat) (A : Nat → Option Addr) (K : Nat → Nat), i = .int .i64 k ∧ k ≤ r ∧ RTb wr t R (fun x => .slice (A x) (parK r Q least R k x).length (K x)) ∧ Hid (∀ x, x < 16 → Rl wr (t + 1) (A x) (K x) (parK r Q least R k x)) ∧ RowKit.Below t w wr) (fun i _ => r - (intOf i).toNat)
          case atStart => exact ⟨0, fun _ => none, fun _ => 0, rfl, by omega, hTz, hRz, bb⟩
          case round =>
            clear hTz hRz bb
            obtain ⟨k, A, K, rfl, hk, hT, HR, bb⟩ := hrel
            by_cases hlt : k < r
            · have g1 : (k : Int) < (r : Int) := by omega
              have hk16 : k < 16 := by omega
              have g3 : (k : Int) < 16 := by omega
              have c1 := hT.rank hk16
              by_cases hp : ∃ s, R k = some (s + 1)
              · obtain ⟨s, hRk⟩ := hp
                have hx : rI R k = (s : Int) + 1 := by unfold rI; rw [hRk]; rfl
                obtain ⟨x, hx2, hx3⟩ : ∃ x : Int, (s : Int) + 1 = x ∧ 0 < x := ⟨_, rfl, by omega⟩
                rw [hx, hx2] at c1
                have hgr : Gr wr.drew g 66 r Q := Blk.drewN (below_blk bb HG.out hgt) 1
                have hTd : RTb wr.drew t R (fun x => .slice (A x) (parK r Q least R k x).length (K x)) := Blk.drewN hT 1
                have PC := rpars_any g t r Q R _ k s least wr.drew HF.out hk16 hRk (fun b hb => by
                  obtain ⟨u, hu, _⟩ := HFIN.out.1.near k _ hRk b hb
                  exact ⟨u, hu⟩) HFIN.out.2 hTd hgr
                have hpe : par r Q least R k = parT r Q least R k := by unfold parT; rw [hRk]; rfl
                rw [hpe] at PC
                have c0 := c1
                have hlw := hTd.lt
                have bd : RowKit.Below t w wr.drew := below_drewN bb 1
                obtain ⟨pl, hpl⟩ : ∃ pl, parT r Q least R k = pl := ⟨_, rfl⟩
                rw [hpl] at PC
                have HP : Hid (∀ x, parK r Q least R (k + 1) x = if x = k then pl else parK r Q least R k x) := Lib.hid (fun x => by rw [parK_next, hpl])
                have s0 : (fun w' : World => w'.cell? ⟨t, k, none⟩ = some (.int .i64 x)) wr.drew := c0
                have HTd := Lib.hid hTd
                have HPC := Lib.hid PC
                have HX : Hid (rI R k = x) := Lib.hid (hx.trans hx2)
                clear hRk hpe hpl hgr PC hT hTd c0 hx hx2
                go_upto_region 27 with (fail)
                clear c1
                go_region_held3 (fun w' : World => w'.cell? ⟨t, k, none⟩ = some (.int .i64 x)) (with_reducible first | exact s0 | exact s1 | exact s2) ((go_at_call 35; refine HPC.out.mono ?_; rintro q5 w5 ⟨A5, c5, rfl, hr5, b5⟩; have hT5 : RTb w5 t R _ := below_blk b5 HTd.out hlw; have s1 : (fun w' : World => w'.cell? ⟨t, k, none⟩ = some (.int .i64 x)) w5 := keep_cell b5 s0; have c5' := hT5.par hk16; have f5 := Blk.free hT5 (16 + k); have s2 : (fun w' : World => w'.cell? ⟨t, k, none⟩ = some (.int .i64 x)) (w5.setCell ⟨t, 16 + k, none⟩ (.slice A5 pl.length c5)) := by (have hq := (hT5.putP hk16 (.slice A5 pl.length c5)).rank hk16; rw [HX.out] at hq; exact hq)))
                all_goals
                  have b6 := bd.trans (b5.mono (Nat.le_of_lt hlw))
                  have hT6 := hT5.putP hk16 (.slice A5 pl.length c5)
                  have j6 := Just.set t w5 (16 + k) (.slice A5 pl.length c5)
                  have b7 := j6.below b6 (Nat.le_refl t) (Nat.le_of_lt hT5.lt)
                  have hT7 : RTb (w5.setCell ⟨t, 16 + k, none⟩ (.slice A5 pl.length c5)) t R (fun x => .slice (if x = k then A5 else A x) (parK r Q least R (k + 1) x).length (if x = k then c5 else K x)) := by
                    refine Blk.ext hT6 (fun i hi => ?_)
                    unfold rtv
                    by_cases h1 : i < 16
                    · rw [if_pos h1, if_pos h1]
                    · rw [if_neg h1, if_neg h1]
                      dsimp only
                      rw [HP.out]
                      by_cases h3 : i - 16 = k
                      · simp only [if_pos h3]
                      · simp only [if_neg h3]
                  have HR7 : Hid (∀ x, x < 16 → Rl (w5.setCell ⟨t, 16 + k, none⟩ (.slice A5 pl.length c5)) (t + 1) (if x = k then A5 else A x) (if x = k then c5 else K x) (parK r Q least R (k + 1) x)) := Lib.hid (fun x hx => by
                    rw [HP.out]
                    by_cases h3 : x = k
                    · simp only [if_pos h3]
                      exact (hr5.mono hlw).just j6 (by omega)
                    · simp only [if_neg h3]
                      have hold : Rl wr.drew (t + 1) (A x) (K x) (parK r Q least R k x) := by
                        have := HR.out x hx
                        exact ⟨this.le, this.cap, this.row, this.lo⟩
                      exact (hold.below b5).just j6 (by omega))
                  clear hT5 hT6 j6 hr5 b5 s1 s2 c5' f5 b6
                  go_wp2_with fail
                  exact ⟨⟨k + 1, _, _, by simp [intOf], by omega, hT7, HR7, b7⟩, by simp [intOf]; omega⟩
              · -- <F
                have hpe : parT r Q least R k = [] := by
                  cases hq : parT r Q least R k with
                  | nil => rfl
                  | cons p l =>
                    obtain ⟨s, h1, _⟩ := mem_parT HFIN.out.1 (n := k) (x := p) (by rw [hq]; simp)
                    exact absurd ⟨s, h1⟩ hp
                obtain ⟨x, hx⟩ : ∃ x, rI R k = x := ⟨_, rfl⟩
                rw [hx] at c1
                have g4 : x ≤ 0 := by
                  unfold rI at hx
                  cases hR : R k with
                  | none => rw [hR] at hx; dsimp only at hx; omega
                  | some s =>
                    cases s with
                    | zero => rw [hR] at hx; dsimp only at hx; omega
                    | succ s => exact absurd ⟨s, hR⟩ hp
                have HP : Hid (∀ x, parK r Q least R (k + 1) x = parK r Q least R k x) := Lib.hid (fun x => by
                  rw [parK_next]
                  by_cases h : x = k
                  · subst h
                    rw [if_pos rfl, hpe]
                    unfold parK
                    rw [if_neg (by omega)]
                  · rw [if_neg h])
                have hT2 : RTb wr t R (fun x => .slice (A x) (parK r Q least R (k + 1) x).length (K x)) := by
                  simp only [HP.out]
                  exact hT
                have HR2 : Hid (∀ x, x < 16 → Rl wr (t + 1) (A x) (K x) (parK r Q least R (k + 1) x)) := Lib.hid (fun x hx => by rw [HP.out]; exact HR.out x hx)
                clear hp hx hT hpe
                go_wp2_with fail
                exact ⟨⟨k + 1, A, K, by simp [intOf], by omega, hT2, HR2, bb⟩, by simp [intOf]; omega⟩
                -- F>
            · obtain rfl : k = r := by omega
              have g5 : decide ((k : Int) < (k : Int)) = false := by simp
              have hpk : ∀ x, parK k Q least R k x = parT k Q least R x := fun x => by
                unfold parK
                by_cases h : x < k
                · rw [if_pos h]
                · rw [if_neg h]
                  unfold parT
                  cases hx : R x with
                  | none => rfl
                  | some s => have := HFIN.out.1.inN x s hx; omega
              have hT7 : RTb wr t R (fun x => .slice (A x) (parT k Q least R x).length (K x)) := by
                have := hT
                simp only [hpk] at this
                exact this
              have HP := Lib.hid hpk
              clear hpk hT
              go_wp2_with fail
              go_ret
              refine ⟨t, R, rfl, by rw [HW.out]; exact Nat.le_refl _, ⟨A, K, hT7, fun x hx => by rw [← HP.out]; exact HR.out x hx⟩, HFIN.out.1, HFIN.out.2, by rw [HW.out]; exact bb⟩
          -- D>
      -- A>
end Go.Proofs.Ythdgnnjnkeljmaa.Tr
