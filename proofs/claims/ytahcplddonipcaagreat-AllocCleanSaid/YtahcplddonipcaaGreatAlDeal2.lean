/-
  Package alloc (chapter 22): Deal, the walk.
-/
import Derived.Test.YtahcplddonipcaaGreatAlDeal
import Derived.Deep.CutBlock
set_option maxRecDepth 100000
namespace Go.Proofs.YtahcplddonipcaaGreat.Al
set_option linter.unusedVariables false
set_option linter.unusedSimpArgs false
open Go.RowKit Lb Cl Ce Mi Tp Tr

theorem deal_nil (f len chans : Int) (w : World) : Calls Tryz.prog 7 #[.pointer none, .int .i64 f, .int .i64 len, .int .i64 chans] w fun r w' => r = .returned (.tuple #[.map none, .slice none 0 0]) ∧ w = w' := by
  go_enter Tryz.func7, Tryz.ntmps7
  go_wp2_with fail
  refine bodyPost_ret (results_tmp2 rfl _ _ _) rfl ?_
  exact ⟨rfl, rfl⟩
/-- What Deal tells. -/
def DealPost (f : Int) (len chans : Nat) (par : Nat → Nat) (ord : List Nat) (w : World) (r : Ending) (w' : World) : Prop := ∃ bm vs A c, r = .returned (.tuple #[.map (some bm), .slice A (dealF f len chans par ord).2.length c]) ∧
  Fm w' bm vs (fun k => srtA ((dealF f len chans par ord).1 k)) ∧ (dealF f len chans par ord).2.length ≤ c ∧ c ≤ maxLen ∧ Row w' A (dealF f len chans par ord).2.length (zval (srtZ (outZ (dealF f len chans par ord).2))) ∧ Below w.heap.size w w'
set_option maxHeartbeats 8000000 in
theorem deal_any (t : Nat) (R : Rk) (P : Nat → List Nat) (f : Int) (len chans : Nat) (w : World) (h : Tre w t R P) (hF : Firsts R P) (h0 : R 0 = some 0) (hs : ∀ x s, R x = some s → s ≤ 15) (hP : ∀ n, (P n).length ≤ 1000) (hO : (ordT R).length ≤ 16) (hf : 0 ≤ f ∧ f < 4) (hlen : 1 ≤ len ∧ len ≤ 200) (hch : 1 ≤ chans ∧ chans ≤ 16) :
    Calls Tryz.prog 7 #[.pointer (some ⟨t, 0, none⟩), .int .i64 f, .int .i64 (len : Nat), .int .i64 (chans : Nat)] w (DealPost f len chans (fun n => (P n).headD 0) (ordT R) w) := by
  obtain ⟨i0, hi0, hz0, hz1, hz2⟩ := info_parts infoT
  have g1 : decide (f < 0) = false := by simp; omega
  have g2 : decide ((4 : Int) ≤ f) = false := by simp; omega
  have g3 : decide ((len : Int) < 1) = false := by simp; omega
  have g4 : decide ((200 : Int) < (len : Int)) = false := by simp; omega
  have g5 : decide ((chans : Int) < 1) = false := by simp; omega
  have g6 : decide ((16 : Int) < (chans : Int)) = false := by simp; omega
  have g3' : decide (len < 1) = false := by simp; omega
  have g4' : decide (200 < len) = false := by simp; omega
  have g5' : decide (chans < 1) = false := by simp; omega
  have g6' : decide (16 < chans) = false := by simp; omega
  obtain ⟨bm, hbm⟩ : ∃ q, w.heap.size = q := ⟨_, rfl⟩
  have HBM := Lib.hid hbm
  have hmk : (Instr.makeMap 28 none).run Tryz.prog w = .ok (.map (some bm)) (w.alloc (.map #[] 0)) := by rw [← hbm]; rfl
  have b1 := (Below.refl w.heap.size w).alloc (Nat.le_refl _) (.map #[] 0)
  have hsz : (w.alloc (.map #[] 0)).heap.size = bm + 1 := by rw [← hbm]; simp
  have b2 := b1.alloc (by rw [hsz, hbm]; omega) (.cells #[.int .i64 f, .int .i64 (len : Nat), .int .i64 (chans : Nat), .map (some bm)] 64)
  have o2 := Own.new (w.alloc (.map #[] 0)) 64 #[.int .i64 f, .int .i64 (len : Nat), .int .i64 (chans : Nat), .map (some bm)]
  rw [hsz] at o2
  have m2 : Ms ((w.alloc (.map #[] 0)).alloc (.cells #[.int .i64 f, .int .i64 (len : Nat), .int .i64 (chans : Nat), .map (some bm)] 64)) bm (fun _ => false) (fun _ => .slice none 0 0) := by
    have := Ms.made w (fun _ => .slice none 0 0)
    rw [hbm] at this
    exact this.below ((Below.refl _ _).alloc (Nat.le_refl _) _)
  have H := Lib.hid h
  have HF := Lib.hid hF
  have H0 := Lib.hid h0
  have HS := Lib.hid hs
  have HP := Lib.hid hP
  clear h hF h0 hs hP
  go_enter Tryz.func7, Tryz.ntmps7
  go_upto_region 4 with (fail)
  try rw [hsz]
  generalize (w.alloc (.map #[] 0)).alloc (.cells #[.int .i64 f, .int .i64 (len : Nat), .int .i64 (chans : Nat), .map (some bm)] 64) = w2 at *
  clear g1 g2 g3 g4 g5 g6 g3' g4' g5' g6' hmk b1 hsz
  go_wp2_with fail
  refine (order_any t R P w2 (H.out.below b2) H0.out HS.out).mono ?_
  rintro r w3 ⟨A, c, rfl, ho, b3⟩
  have b23 : Below w.heap.size w w3 := b2.trans (b3.mono b2.size)
  have T3 := H.out.below b23
  have m3 := m2.below b3
  have o3 := below_own b3 o2 o2.lt
  have hmb : ∃ es c, w3.heap[bm]? = some (.map es c) := by
    obtain ⟨es, c, q, _⟩ := m3
    exact ⟨es, c, q⟩
  have HT3 : Hid (∀ wz, Jl w3.heap.size bm w3 wz → Tre wz t R P) := Lib.hid (fun wz j => tre_jb T3 hmb j)
  have HO3 : Hid (∀ wz, Jl w3.heap.size bm w3 wz → Row wz A (ordT R).length (ln (ordT R))) := Lib.hid (fun wz j => row_jb ho.row (row_size ho.row) hmb j)
  obtain ⟨lo, hlo⟩ : ∃ q, w3.heap.size = q := ⟨_, rfl⟩
  have hbl : bm < lo := by rw [← hlo]; exact m3.lt
  have D3 : Dr w3 lo (bm + 1) bm f len chans (fun _ => .slice none 0 0) (fun _ => []) := ⟨o3, ⟨by
      have e : (fun k : Nat => decide ((fun _ => ([] : List C)) k ≠ [])) = fun _ => false := by funext k; simp
      rw [e]; exact m3, ⟨fun k _ => MineK.nil _ _ _ _ _, fun j k _ _ _ q e => by cases e⟩, fun _ _ => rfl⟩, fun _ => Nat.zero_le _, by rw [hlo]; exact Nat.le_refl _⟩
  rw [hlo] at HT3 HO3
  have hW : w.heap.size ≤ lo := by rw [← hlo]; exact b23.size
  have hle := ho.le
  have hcap := ho.cap
  obtain ⟨M, hM⟩ : ∃ q, (ordT R).length = q := ⟨_, rfl⟩
  have HM := Lib.hid hM
  rw [hM] at hle hO HO3 ⊢
  unfold maxLen at hcap
  have hM63 : (M : Int) ≤ 9223372036854775807 := by omega
  obtain ⟨T, hT⟩ : ∃ T : Nat → Hs × List Nat, T = fun k => dealF f len chans (fun n => (P n).headD 0) ((ordT R).take k) := ⟨_, rfl⟩
  have HTA := Lib.hid hT
  have HT0 : Hid (T 0 = (fun _ => [], [])) := Lib.hid (by rw [hT]; rfl)
  have HTS : Hid (∀ k, k < M → T (k + 1) = stepF f len chans (fun n => (P n).headD 0) (T k) ((ordT R).getD k 0)) := Lib.hid (fun k hk => by
    rw [hT]
    exact deal_take f len chans _ _ (by rw [HM.out]; exact hk))
  have HTL : Hid (∀ k, (T k).2.length ≤ k) := Lib.hid (fun k => by rw [hT]; exact deal_out f len chans _ _ k)
  have HTM : Hid (T M = dealF f len chans (fun n => (P n).headD 0) (ordT R)) := Lib.hid (by
    rw [hT]
    show dealF f len chans _ ((ordT R).take M) = _
    rw [List.take_of_length_le (by rw [HM.out]; exact Nat.le_refl _)])
  have D3' : ∃ vs, Dr w3 lo (bm + 1) bm f len chans vs (T 0).1 := by rw [HT0.out]; exact ⟨_, D3⟩
  have hB3 := b23
  clear hT D3 m3 o3 m2 o2 b2 b3 b23 T3 ho hM hmb
  go_wp2_with fail
  go_loopw [11, 50] (fun u i wr => ∃ k : Nat, i = .int .i64 k ∧ k ≤ M ∧ (∃ vs, Dr wr lo (bm + 1) bm f len chans vs (T k).1) ∧ Mine wr lo 3 u (T k).2.length (zval (outZ (T k).2)) ∧ Jl lo bm w3 wr) (fun _ i _ => M - (intOf i).toNat)
  case atStart => exact ⟨0, rfl, Nat.zero_le _, D3', by rw [HT0.out]; exact Mine.nil _ _ _ _, Jl.refl _ _ _⟩
  case round =>
    clear D3'
    obtain ⟨k, rfl, hk, ⟨vs, D⟩, mu, jj⟩ := hrel
    by_cases hlt : k < M
    · have hlt2 : k < (ordT R).length := by rw [HM.out]; exact hlt
      have hrow := HO3.out wr jj
      obtain ⟨bo, off, rfl, _, c0⟩ := hrow.at_ hlt
      unfold ln at c0
      obtain ⟨hx16, rx, hrx⟩ := ordT_at HS.out hlt2
      have hstep := HTS.out k hlt
      obtain ⟨x, hx⟩ : ∃ x, (ordT R).getD k 0 = x := ⟨_, rfl⟩
      rw [hx] at c0 hx16 hrx hstep
      have HSTEP := Lib.hid hstep
      clear hx hstep hrow hlt2
      obtain ⟨a11, c11, rfl, hc1, hc2, hr11⟩ := mu.row
      by_cases hx0 : x = 0
      · subst hx0
        have e1 : T (k + 1) = T k := by rw [HSTEP.out]; exact if_pos rfl
        rw [← e1] at D mu
        have g0 : (((0 : Nat) : Int) != 0) = false := by simp
        rw [← e1]
        clear e1
        go_wp2_with fail
        exact ⟨⟨k + 1, by simp [intOf], by omega, ⟨vs, D⟩, mu, jj⟩, by simp [intOf]; omega⟩
      · obtain ⟨s, rfl⟩ : ∃ s, rx = s + 1 := by
          rcases Nat.eq_zero_or_pos rx with e | e
          · subst e
            exact absurd (HF.out.only x hrx) hx0
          · exact ⟨rx - 1, by omega⟩
        obtain ⟨p, l, hp1, hp2, hp3⟩ := HF.out.first x s hrx
        have hxp : x ≠ p := fun e => by
          subst e
          rw [hrx] at hp2
          injection hp2 with hp2
          omega
        have g0 : ((x : Int) != 0) = true := by simp; omega
        have hPS : parsT R P (x : Int) = p :: l := (parsT_nat hx16 hrx).trans hp1
        have hpar : (fun n => (P n).headD 0) x = p := by dsimp only; rw [hp1]; rfl
        obtain ⟨mm, hmm⟩ : ∃ mm, (p :: l).length = mm := ⟨_, rfl⟩
        have hm0 : 0 < mm := by rw [← hmm]; simp
        have PP := parents_any t R P (x : Int) wr (HT3.out wr jj) HP.out
        rw [hPS] at PP
        rw [hmm] at PP
        have HLL := Lib.hid hmm
        have HPAR := Lib.hid hpar
        clear hmm hpar hPS hp1 hp2 hrx
        go_wp2_with fail
        refine PP.mono ?_
        rintro r w5 ⟨A5, c5, rfl, hl5, b5⟩
        have hrow5 := hl5.row
        have hle5 := hl5.le
        have hcap5 := hl5.cap
        unfold maxLen at hcap5
        rw [HLL.out] at hrow5 hle5
        obtain ⟨b5o, off5, rfl, _, d0⟩ := hrow5.at_ hm0
        have d0 : w5.cell? ⟨b5o, off5, none⟩ = some (.int .i64 (p : Int)) := d0
        have D5 := D.below b5
        have mu5 := mu.kept (w' := w5) (fun q _ => if hl' : q < wr.heap.size then .inl (b5.block q hl') else .inr (fun e => hl' (mu.lt q e).2))
        have j5 := jj.trans (Jl.of_below b5 D.le)
        clear PP hrow5 hl5 b5 D mu hr11
        go_wp2_with fail
        clear d0
        refine (serve_d lo (bm + 1) bm x p len chans f vs _ w5 D5 hx16 hp3 hxp hlen.2 hch.2).mono ?_
        have hmb5 : ∃ es c, w5.heap[bm]? = some (.map es c) := by
          obtain ⟨es, c, q, _⟩ := D5.dm.ms
          exact ⟨es, c, q⟩
        rintro r w6 ⟨j6, ⟨rfl, hsv, vs6, D6⟩ | ⟨G, rfl, hsv, vs6, D6⟩⟩
        · have e1 : T (k + 1) = ((T k).1, (T k).2 ++ [x]) := by rw [HSTEP.out]; exact step_none hx0 (by rw [HPAR.out]; exact hsv)
          have mu6 := mine_jb mu5 hmb5 j6
          have j56 := j5.trans (j6.low D5.le)
          have hT2 := HTL.out k
          obtain ⟨F2, hF2⟩ : ∃ q, (T k).1 = q := ⟨_, rfl⟩
          obtain ⟨L2', hL2⟩ : ∃ q, (T k).2 = q := ⟨_, rfl⟩
          rw [hF2] at e1 D6
          rw [hL2] at e1 mu6 hT2 ⊢
          have HE1 := Lib.hid e1
          have HLEN := Lib.hid (outZ_len L2')
          have HGE : Hid (∀ q', (Value.slice a11 L2'.length c11).ownBlock = some q' → lo ≤ q') := Lib.hid (fun q' e => (mu6.lt q' e).1)
          have HNM := Lib.hid (show L2'.length + 1 ≤ maxLen by unfold maxLen; omega)
          have m7 := mu6.alloc (.cells #[.int .i64 (x : Nat)] 3)
          have hr2 := row_new (n := 1) (V := zval [(x : Int)]) w6 #[.int .i64 (x : Nat)] 3 (0, 0) (fun i hi => by obtain rfl : i = 0 := (by omega); rfl)
          have D7 := D6.below ((Below.refl w6.heap.size w6).alloc (Nat.le_refl _) (.cells #[.int .i64 (x : Nat)] 3))
          have j7 := j56.trans (Jl.of_below ((Below.refl w6.heap.size w6).alloc (Nat.le_refl _) (.cells #[.int .i64 (x : Nat)] 3)) D6.le)
          clear e1 hsv mu5 mu6 D5 D6 j5 j6 j56 hmb5 hF2 hL2
          go_wp2_with (at_builtin; go_must (refine wp_app_at rfl (.tmp 66) (.tmp 68) _ rfl lo 3 i0 _ 8 Tryz.underlying29 hi0 hz0 hz1 hz2 rfl _ L2'.length _ rfl m7 _ 1 _ (zval [(x : Int)]) rfl hr2 (fun _ _ => rfl) HNM.out ?c2 ?c3 ?_))
          case c2 => omega
          case c3 => exact D7.le
          intro v8 w8 m8 g8 q8
          have D8 := dr_grown D7 m7 g8
          have j8 := j7.trans (Jl.of_grown g8 (fun q e => HGE.out q e) D7.le)
          have m9 : Mine w8 lo 3 v8 (T (k + 1)).2.length (zval (outZ (T (k + 1)).2)) := by
            rw [HE1.out, List.length_append, List.length_singleton, outZ_snoc]
            exact m8.ext (fun i hi => by
              have := zval_snoc (outZ L2') (x : Int) i (by rw [HLEN.out]; exact hi)
              rw [HLEN.out] at this
              exact this)
          clear m8 g8 q8 m7 hr2 D7 j7
          obtain ⟨a8, c8, rfl, _, _, _⟩ := m9.row
          have D9 : ∃ vs, Dr w8 lo (bm + 1) bm f len chans vs (T (k + 1)).1 := by rw [HE1.out]; exact ⟨vs6, D8⟩
          go_wp2_with fail
          exact ⟨⟨k + 1, by simp [intOf], by omega, D9, m9, j8⟩, by simp [intOf]; omega⟩
        · have e1 : T (k + 1) = (G, (T k).2) := by rw [HSTEP.out]; exact step_some hx0 (by rw [HPAR.out]; exact hsv)
          have mu6 := mine_jb mu5 hmb5 j6
          have HE1 := Lib.hid e1
          have D9 : ∃ vs, Dr w6 lo (bm + 1) bm f len chans vs (T (k + 1)).1 := by rw [e1]; exact ⟨vs6, D6⟩
          have e2 : (T k).2 = (T (k + 1)).2 := by rw [e1]
          rw [e2] at mu6 ⊢
          have j56 := j5.trans (j6.low D5.le)
          clear e1 hsv mu5 D5 D6 j5 j6 hmb5 e2
          go_wp2_with fail
          exact ⟨⟨k + 1, by simp [intOf], by omega, D9, mu6, j56⟩, by simp [intOf]; omega⟩
    · obtain rfl : k = M := by omega
      have g6 : decide ((k : Int) < (k : Int)) = false := by simp
      obtain ⟨es, clock, hmap, hes⟩ := id D.dm.ms
      have hk16 : k ≤ 16 := by first | exact hO | (rw [← HM.out]; exact hO)
      have hfew := HTL.out k
      have HNIL := Lib.hid D.dm.nil
      have HAP := Lib.hid D.dm.rows.apart
      have HFW := Lib.hid D.few
      obtain ⟨FM, hFM⟩ : ∃ q, (T k).1 = q := ⟨_, rfl⟩
      obtain ⟨LM, hLM⟩ : ∃ q, (T k).2 = q := ⟨_, rfl⟩
      have HRES : Hid (dealF f len chans (fun n => (P n).headD 0) (ordT R) = (FM, LM)) := Lib.hid (by rw [← HTM.out, ← hFM, ← hLM])
      rw [hFM] at D hes HNIL HFW
      rw [hLM] at mu hfew
      have HES := Lib.hid hes
      have bW : Below w.heap.size w wr := hB3.trans (jj.below hW (Nat.le_of_eq HBM.out))
      have hsW := bW.size
      have mz : Mine wr lo 3 u11 (outZ LM).length (zval (outZ LM)) := by rw [outZ_len]; exact mu
      have HZL := Lib.hid (show (outZ LM).length ≤ 1000 by rw [outZ_len]; omega)
      have c3 : wr.cell? ⟨bm + 1, 3, none⟩ = some (.map (some bm)) := D.own.cell 3
      have hrange := run_range_map (P := Tryz.prog) wr 28 3 34 bm es clock (by kernel_rfl) hmap
      have L0 : L2 w.heap.size lo (bm + 1) bm f len chans vs FM es clock (outZ LM) u11 (fun q => ∃ e ∈ ([] : List MapEntry), e.key = kv q) w (wr.alloc (.mapIter (some bm) clock #[] clock)) :=
        ⟨D.own.alloc _, by rw [heap_alloc_old _ _ (iter_lt hmap)]; exact hmap, fun q _ h => (by obtain ⟨e, he, _⟩ := h; cases he), fun q hq _ => (D.dm.rows.row q hq).alloc _, mz.alloc _, bW.alloc hsW _, hW⟩
      obtain ⟨r, hr⟩ : ∃ q, wr.heap.size = q := ⟨_, rfl⟩
      have hit0 : (wr.alloc (.mapIter (some bm) clock #[] clock)).heap[r]? = some (.mapIter (some bm) clock #[] clock) := by rw [← hr]; exact heap_alloc_new wr _
      have hWr : w.heap.size ≤ r := by rw [← hr]; exact hsW
      rw [hr] at hrange
      clear D mu mz hfew hFM hLM hes hmap HTS HT0 HTL HTM HTA HO3 HT3 jj hB3 bW hsW hr
      go_wp2_with fail
      generalize wr.alloc (.mapIter (some bm) clock #[] clock) = w1 at *
      clear hrange c3
      go_loopw [] (fun wz => ∃ (S : List MapEntry) (seen : Array Nat) (c0 : Nat), wz.heap[r]? = some (.mapIter (some bm) clock seen c0) ∧ clock ≤ c0 ∧ Hid ((S ++ (leftOf es seen).toList).Perm es.toList) ∧ L2 w.heap.size lo (bm + 1) bm f len chans vs FM es clock (outZ LM) u11 (fun q => ∃ e ∈ S, e.key = kv q) w wz) (fun wz => stillIn es r wz)
      case atStart => exact ⟨[], #[], clock, hit0, Nat.le_refl _, Lib.hid (by rw [left_all]; exact List.Perm.refl _), L0⟩
      case round =>
        clear L0 hit0
        obtain ⟨S, seen, c0, hit, hc0, HSL, hL⟩ := hrel
        have hst : stillIn es r wr = (leftOf es seen).size := by unfold stillIn World.iterSeen; rw [hit]
        have HST := Lib.hid hst
        have hmap := hL.map
        clear hst
        go_wp2_with (at_next; refine wpList_next_raw rfl (.tmp 73) rfl r bm clock c0 seen es clock rfl hit hmap HES.out.old hc0 ?_ ?_)
        · intro hdone
          have hl0 : (leftOf es seen).toList = [] := by
            rw [← List.length_eq_zero_iff]
            simpa using hdone
          have hS := HSL.out
          rw [hl0, List.append_nil] at hS
          have HALL : Hid (∀ q, q < 16 → FM q ≠ [] → ∃ e ∈ S, e.key = kv q) := Lib.hid (fun q hq hF => by
            obtain ⟨e, he, hk⟩ := HES.out.all q hq (by simpa using hF)
            exact ⟨e, hS.mem_iff.2 he, hk⟩)
          clear hS hl0 hdone hit hmap
          have HL := Lib.hid hL
          have hn := hL.nums
          clear hL
          go_wp2_with fail
          refine (sort_ints lo (outZ LM).length u11 (outZ LM) wr hn rfl HZL.out).mono ?_
          rintro q w8 ⟨rfl, m8, g8⟩
          have hty : ∀ q cs, Own wr q 64 cs → u11.ownBlock ≠ some q := fun q cs o e => by
            obtain ⟨_, ds, o2⟩ := owns_at hn e
            exact absurd (own_type o o2) (by decide)
          have hty2 : ∀ q cs, Own wr q 50 cs → u11.ownBlock ≠ some q := fun q cs o e => by
            obtain ⟨_, ds, o2⟩ := owns_at hn e
            exact absurd (own_type o o2) (by decide)
          have own8 := grown_own g8 HL.out.own (hty _ _ HL.out.own)
          have c3 : w8.cell? ⟨bm + 1, 3, none⟩ = some (.map (some bm)) := own8.cell 3
          obtain ⟨a8, c8, hv8, hc8, hd8, hr8⟩ := m8.row
          have HV8 := Lib.hid hv8
          clear hv8 own8
          go_wp2_with fail
          refine bodyPost_ret (results_tmp2 rfl _ _ _) rfl ?_
          have hms8 : w8.heap[bm]? = some (.map es clock) := (g8.block bm (iter_lt HL.out.map) (fun e => by
            obtain ⟨_, ds, o2⟩ := owns_at hn e.symm
            have o2' : wr.heap[bm]? = some _ := o2
            rw [HL.out.map] at o2'
            cases o2')).trans HL.out.map
          have hsrt : (fun q => decide ((srtA (FM q)) ≠ [])) = fun q => decide (FM q ≠ []) := by
            funext q
            rw [decide_eq_decide, ne_eq, ne_eq, srtA_nil]
          have hFm : Fm w8 bm vs (fun q => srtA (FM q)) := ⟨by rw [hsrt]; exact ⟨es, clock, hms8, HES.out⟩, fun q hq => by
            by_cases hF : FM q = []
            · have hn0 : srtA (FM q) = [] := srtA_nil.2 hF
              exact ⟨none, 0, by rw [HNIL.out q hF, hn0]; rfl, by rw [hn0]; exact Nat.le_refl _, Nat.zero_le _, by rw [hn0]; exact Row.nil _ _ _⟩
            · obtain ⟨g, c, h1, h2, h3, ⟨cs, h4⟩, h5⟩ := HL.out.done q hq (HALL.out q hq hF)
              exact ⟨_, c, by rw [srtA_len]; exact h1, by rw [srtA_len]; exact h2, h3, row_same h5 g8.size (g8.block g h4.lt (fun e => hty2 g cs h4 e.symm))⟩, fun q hq => HNIL.out q (srtA_nil.1 hq)⟩
          have bE : Below w.heap.size w w8 := HL.out.bel.grown g8 HL.out.bel.size (fun q e => Nat.le_trans hW (owns_at hn e).1)
          have hlz := outZ_len LM
          unfold DealPost
          rw [HRES.out]
          refine ⟨bm, vs, a8, c8, ?_, hFm, by rw [← hlz]; exact hc8, hd8, by rw [← hlz]; exact hr8, bE⟩
          rw [HV8.out, hlz]
          rfl
        · intro e he w5 hit5 j5
          have he := Array.mem_toList_iff.2 he
          obtain ⟨hme, _⟩ := mem_left he
          have hstep := left_step HES.out.nd he
          have hL5 := hL.iter hit j5 hWr
          have hen := run_entry_at (P := Tryz.prog) w5 r bm clock seen es clock e hit5 hL5.map hme HES.out.nd
          obtain ⟨k2, hk2, hSk, hkey, hval⟩ := HES.out.key e hme
          have hne : FM k2 ≠ [] := by simpa using hSk
          have hperm := (hstep.append_left S).trans HSL.out
          have hnot : ¬ ∃ e' ∈ S, e'.key = kv k2 := fun h => by
            obtain ⟨e', he', hk'⟩ := h
            have hnd := (hperm.map (·.key)).nodup_iff.2 HES.out.kd
            rw [List.map_append, List.map_cons, List.nodup_append] at hnd
            exact hnd.2.2 _ (List.mem_map.2 ⟨e', he', rfl⟩) _ (List.mem_cons_self) (hk'.trans hkey.symm)
          rw [hkey, hval] at hen ⊢
          unfold kv at hen ⊢
          have HSH := Lib.hid (left_shrinks es seen e he)
          have HKEY := Lib.hid hkey
          have HPERM := Lib.hid hperm
          have HL5 := Lib.hid hL5
          have PS := sort_mine lo (vs k2) (FM k2) w5 (hL5.todo k2 hk2 hnot) (List.length_pos_iff.2 hne) (Nat.le_trans (HFW.out k2) (by decide))
          have PS := Lib.hid PS
          clear hkey hval hme hmap hit j5 hstep hSk hperm hL5 hL
          go_wp2_with fail
          clear hen
          refine PS.out.mono ?_
          rintro q w6 ⟨rfl, g, c, hg, hlg, hcl, hcm, hrow, hown, j6⟩
          have hL6 := HL5.out.sorted hk2 hnot HAP.out hg hcl hcm hrow hown j6
          have hit6 : w6.heap[r]? = some (.mapIter (some bm) clock (seen.push e.born) clock) := by
            obtain ⟨_, cs, o⟩ := owns_at (HL5.out.todo k2 hk2 hnot) (show (vs k2).ownBlock = some g by rw [hg]; rfl)
            refine (j6.block r (iter_lt hit5) (fun e2 => ?_)).trans hit5
            have o' : w5.heap[g]? = some _ := o
            rw [← e2, hit5] at o'
            cases o'
          have hL7 : L2 w.heap.size lo (bm + 1) bm f len chans vs FM es clock (outZ LM) u11 (fun q => ∃ e' ∈ S ++ [e], e'.key = kv q) w w6 := hL6.congr (fun q => by
            constructor
            · rintro (⟨e', he', hk'⟩ | rfl)
              · exact ⟨e', by simp [he'], hk'⟩
              · exact ⟨e, by simp, HKEY.out⟩
            · rintro ⟨e', he', hk'⟩
              rcases List.mem_append.1 he' with he' | he'
              · exact .inl ⟨e', he', hk'⟩
              · rw [List.mem_singleton] at he'
                subst he'
                rw [HKEY.out] at hk'
                exact .inr (kv_inj hk').symm)
          clear hL6 PS
          go_wp2_with fail
          refine ⟨⟨S ++ [e], seen.push e.born, clock, hit6, Nat.le_refl _, Lib.hid ?_, hL7⟩, ?_⟩
          · rw [List.append_assoc]
            exact HPERM.out
          · rw [HST.out]
            unfold stillIn World.iterSeen
            rw [hit6]
            exact HSH.out
end Go.Proofs.YtahcplddonipcaaGreat.Al
