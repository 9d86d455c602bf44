/-
  A node (chapter 24): Plan of node 0 when nothing waits. A node (chapter 24): the one that every program must know. A node (chapter 24): the beacons of the laws; a node that waits.
-/
import Derived.Test.YtiflmdekcjbmbaaGreatGNodeWaits25
import Derived.Test.YtiflmdekcjbmbaaGreatGNodeWaits28
import Derived.Test.YtiflmdekcjbmbaaGreatGNodeWaits26
set_option maxRecDepth 100000
namespace Go.Proofs.YtiflmdekcjbmbaaGreat.Nd
set_option linter.unusedVariables false
set_option linter.unusedSimpArgs false
open Go.RowKit Lb Ie Fm

/-- What is heard of the frame that is sent. -/
def sentN (s : Ns) (o : Bool) (asn k d : Int) : Ns := { s with seq := (s.seq + 1) % 256, so := o, sa := asn, sk := k, sd := d, sq := s.seq }
def chanN (s : Ns) (asn : Int) : Int := Hp.chanB (fun i => s.c.hops.getD i 0) 0 s.c.hops.length asn 0
theorem fstE_isSome (asn rk : Int) (l : List El) : (fstE (⟨1, asn, rk, 0, []⟩ :: l) 1).isSome = true := by
  unfold fstE
  rw [List.find?_cons]
  rfl
theorem next_lists {s : Ns} {asn : Int} {p : Fp} (f : Fit s) (hp : p.fr = nextF0 s asn) : ∀ k, k < p.L.length → (p.L.getD k ep0).e.list.length ≤ 1000000 := by
  have h16 : s.c.hops.length ≤ 16 := by
    have := f.c.hops
    unfold Hp.mayB at this
    simp only [Bool.and_eq_true, decide_eq_true_eq] at this
    exact this.1.2
  intro k hk
  have e : els p.L = [⟨1, asn, rankN s, 0, []⟩, ⟨3, 0, 0, 0, s.c.hops⟩] := congrArg Fr.ies hp
  have h1 : (p.L.getD k ep0).e ∈ els p.L := by
    unfold els
    rw [List.getD_eq_getElem?_getD, List.getElem?_eq_getElem hk]
    exact List.mem_map_of_mem (List.getElem_mem hk)
  rw [e] at h1
  rcases List.mem_cons.1 h1 with h2 | h2
  · rw [h2]; exact Nat.zero_le _
  · rcases List.mem_cons.1 h2 with h3 | h3
    · rw [h3]; show s.c.hops.length ≤ _; omega
    · cases h3
theorem okTo_at {Z : Nat → Int} : ∀ {n : Nat}, Hp.okTo Z n = true → ∀ k, k < n → 0 ≤ Z k ∧ Z k < 32
  | 0, _, k, hk => absurd hk (Nat.not_lt_zero k)
  | n + 1, h, k, hk => by
    rw [Hp.okTo] at h
    simp only [Bool.and_eq_true, decide_eq_true_eq] at h
    by_cases e : k = n
    · subst e; exact ⟨h.2.1.1, h.2.1.2⟩
    · exact okTo_at h.1 k (by omega)
theorem may_next {s : Ns} {asn : Int} (f : Fit s) (ha : 0 ≤ asn ∧ asn < 1099511627776) : mayF (nextF0 s asn) = true := by
  have hr : 0 ≤ rankN s ∧ rankN s ≤ 255 := by
    unfold rankN
    split
    · exact f.rk
    · omega
  have hh := f.c.hops
  unfold Hp.mayB at hh
  simp only [Bool.and_eq_true, decide_eq_true_eq] at hh
  have h1 : mayE ⟨1, asn, rankN s, 0, []⟩ = true := by
    unfold mayE fitB octB
    rw [if_pos rfl, decide_eq_true ha, decide_eq_true hr]
    simp [own, sameE]
  have h2 : mayE ⟨3, 0, 0, 0, s.c.hops⟩ = true := by
    have h3 : listB s.c.hops = true := by
      unfold listB octsB
      rw [decide_eq_true hh.1.2, decide_eq_true (fun j hj => ?_)]
      · rfl
      · have := okTo_at hh.2 j hj
        omega
    unfold mayE fitB
    dsimp only
    rw [if_neg (by decide), if_neg (by decide), if_pos (.inl rfl), h3]
    simp [own, sameE]
  have hq := f.seq
  unfold mayF nextF0 mayL dstB kindB
  dsimp only
  rw [if_neg (by decide), if_pos rfl, fstE_isSome]
  simp only [List.all_cons, List.all_nil, h1, h2]
  rw [decide_eq_true hq.1, decide_eq_true (show s.seq ≤ 255 by omega)]
  rfl
theorem channel_hop {w : World} {b : Nat} {s : Ns} {h : Hm} (n : Nd w b s h) (f : Fit s) (asn : Int) :
    Calls Tryz.prog 63 #[.slice h.ha s.c.hops.length h.hc, .int .u32 0, .int .i64 asn, .int .i64 0] w fun r w' => r = .returned (.int .i64 (chanN s asn)) ∧ Below w.heap.size w w' := by
  obtain ⟨m1, m2, m3, _⟩ := mine_at n.hops
  exact Hp.channel_any h.ha s.c.hops.length h.hc (fun i => s.c.hops.getD i 0) 0 asn 0 w m1 m2 m3 (by decide)
set_option maxHeartbeats 4000000 in
theorem plan0_any {w : World} {b : Nat} {s : Ns} {h : Hm} (n : Nd w b s h) (f : Fit s) (h0 : s.id = 0) (hq : s.q = []) (asn : Int) (ha : 0 ≤ asn ∧ asn < 1099511627776) (hm : asn % s.c.nodes = 0) :
    Calls Tryz.prog 19 #[.pointer (some ⟨b, 0, none⟩), .int .i64 asn] w fun r w' => ∃ a c, r = .returned (.tuple #[.int .i64 (chanN s asn), .slice a (encF (nextF0 s asn)).length c]) ∧ (encF (nextF0 s asn)).length ≤ c ∧ c ≤ maxLen ∧ Row w' a (encF (nextF0 s asn)).length (bval (encF (nextF0 s asn))) ∧ Nd w' b (sentN s false asn 3 64) h ∧ Mv (h.ex b) (h.ex b) w w' := by
  have PA := isASN_any asn
  rw [show asnB asn = true from decide_eq_true ha] at PA
  have HN := Lib.hid n
  have HF := Lib.hid f
  have c1 := n.c_nodes
  have c3 := n.c_hops
  have c39 : w.cell? ⟨b, 39, none⟩ = some (.bool true) := by rw [n.c_inT, (f.root h0).1]
  have c0 : w.cell? ⟨b, 0, none⟩ = some (.int .i64 0) := by rw [n.c_id, h0]
  obtain ⟨nd, hnd⟩ : ∃ q, s.c.nodes = q := ⟨_, rfl⟩
  have hn16 := f.c.nodes
  rw [hnd] at c1 hm hn16
  have e1 : asn.tmod nd = 0 := by rw [Int.tmod_eq_emod_of_nonneg ha.1]; exact hm
  have H0 := Lib.hid (And.intro h0 hq)
  have HM := Lib.hid (may_next f ha)
  have hsq := f.seq
  clear n f h0 hq hm ha hnd
  go_enter Tryz.func19, Tryz.ntmps19
  go_wp2_with fail
  refine (lives_any HN.out).mono ?_
  rintro r w' ⟨rfl, rfl⟩
  go_wp2_with fail
  refine (PA _).mono ?_
  rintro r w' ⟨rfl, rfl⟩
  clear PA
  go_upto_region 3 with (fail)
  go_quiet (fail)
  have b1 := below_drewN (Below.refl w.heap.size w) nq
  have c39' : (w.drewN nq).cell? ⟨b, 39, none⟩ = some (.bool true) := c39
  have PC := channel_hop (HN.out.below b1) HF.out asn
  generalize w.drewN nq = w1 at *
  clear c0 c1 c3 c39
  obtain ⟨hl, hhl⟩ : ∃ q, s.c.hops.length = q := ⟨_, rfl⟩
  rw [hhl] at PC ⊢
  have HHL := Lib.hid hhl
  clear hhl
  go_wp2_with fail
  refine PC.mono ?_
  rintro r w2 ⟨rfl, b2⟩
  have bb2 := b1.trans (b2.mono b1.size)
  have c0 : w2.cell? ⟨b, 0, none⟩ = some (.int .i64 0) := by rw [(HN.out.below bb2).c_id, H0.out.1]
  clear PC c39' b1 b2
  clear w1
  obtain ⟨ch, hch⟩ : ∃ q, chanN s asn = q := ⟨_, rfl⟩
  have HCH := Lib.hid hch
  rw [hch]
  clear hch
  go_upto_region 8 with (fail)
  go_quiet (fail)
  have b3 := below_drewN bb2 nq
  have PX := next0_any (HN.out.below b3) HF.out H0.out.1 H0.out.2 asn
  generalize w2.drewN nq = w3 at *
  clear c0 bb2 e1
  clear w2
  go_wp2_with fail
  refine PX.mono ?_
  rintro r w4 ⟨p, rfl, hp, hf, b4⟩
  have bb4 := b3.trans (b4.mono b3.size)
  have hlist := next_lists HF.out hf
  have PE := fun w' (j : Below w4.heap.size w4 w') => encF_any p w' (hp.below j) hlist
  rw [hf] at PE
  have e0 : p.k = 3 := congrArg Fr.k hf
  have e1 : p.d = 64 := congrArg Fr.d hf
  have e2 : p.q = s.seq := congrArg Fr.q hf
  obtain ⟨pk, ps, pd, pq, pL, pa, pc, pdata, pb, pe⟩ := p
  dsimp only at e0 e1 e2
  subst e0 e1 e2
  obtain ⟨nl, hnl⟩ : ∃ q, pL.length = q := ⟨_, rfl⟩
  obtain ⟨nn, hnn⟩ : ∃ q, pdata.length = q := ⟨_, rfl⟩
  simp only [Fp.vals, hnl, hnn] at PE ⊢
  clear hp hf hlist hnl hnn PX b3 b4
  clear w3
  have o4 := Own.new w4 37 #[.int .i64 3, .int .i64 ps, .int .i64 64, .int .i64 s.seq, .slice pa nl pc, .slice pb nn pe]
  have b5 := (Below.refl w4.heap.size w4).alloc (Nat.le_refl _) (.cells #[.int .i64 3, .int .i64 ps, .int .i64 64, .int .i64 s.seq, .slice pa nl pc, .slice pb nn pe] 37)
  have PE' := PE _ b5
  have hlo := bb4.size
  have bb4s := bb4.size
  have bb5 := bb4.trans (b5.mono bb4.size)
  clear PE b5 bb4
  go_upto_region 11 with (fail)
  obtain ⟨tb, htb⟩ : ∃ q, w4.heap.size = q := ⟨_, rfl⟩
  rw [htb] at o4 hlo bb4s ⊢
  generalize w4.alloc (.cells #[.int .i64 3, .int .i64 ps, .int .i64 64, .int .i64 s.seq, .slice pa nl pc, .slice pb nn pe] 37) = w5 at *
  clear htb
  clear w4
  go_wp2_with (refine wpList_load_row rfl _ _ rfl tb rfl 37 #[.int .i64 3, .int .i64 ps, .int .i64 64, .int .i64 s.seq, .slice pa nl pc, .slice pb nn pe] (0, 0) _ o4 Tryz.underlying37 rfl (by kernel_rfl) ?_)
  refine PE'.mono ?_
  rintro r w6 hE
  unfold EncFPost at hE
  rw [if_pos HM.out] at hE
  obtain ⟨v, rfl, hv, b6⟩ := hE
  obtain ⟨va, vc, rfl, v1, v2, v3⟩ := hv.row
  have bb6 := bb5.trans (b6.mono bb5.size)
  have o6 := below_own b6 o4 o4.lt
  have n6 := HN.out.below bb6
  have hvb := hv.lt
  have d0 : w6.cell? ⟨tb, 0, none⟩ = some (.int .i64 3) := o6.cell 0
  have d2 : w6.cell? ⟨tb, 2, none⟩ = some (.int .i64 64) := o6.cell 2
  have d3 : w6.cell? ⟨tb, 3, none⟩ = some (.int .i64 s.seq) := o6.cell 3
  have c16 : w6.cell? ⟨b, 16, none⟩ = some (.int .i64 s.seq) := n6.c_seq
  have f16 : w6.frozen? ⟨b, 16, none⟩ = false := n6.own.free 16
  have w1 : wrap64 (s.seq + 1) = s.seq + 1 := IntWalk.wrap64_in _ (by omega)
  have w2 : (s.seq + 1).tmod 256 = (s.seq + 1) % 256 := Int.tmod_eq_emod_of_nonneg (by omega)
  have w3 : IntKind.i64.wrap (s.seq + 1) = s.seq + 1 := IntWalk.i64_in _ (by omega)
  have w4 : IntKind.i64.wrap ((s.seq + 1) % 256) = (s.seq + 1) % 256 := IntWalk.i64_in _ (by omega)
  have w5 : wrap64 ((s.seq + 1) % 256) = (s.seq + 1) % 256 := IntWalk.wrap64_in _ (by omega)
  have hbt : b ≠ tb := by
    have := HN.out.own.lt
    have := bb4s
    omega
  have r6 := n6.own
  have r7 := r6.put 16 (.int .i64 ((s.seq + 1) % 256))
  have j7 := Just.set b w6 16 (.int .i64 ((s.seq + 1) % 256))
  have hth : (w6.setCell ⟨b, 16, none⟩ (.int .i64 ((s.seq + 1) % 256))).there b 18 5 := fun j hj => ⟨by
    rw [r7.cell (show 18 + j < 43 by omega)]
    rfl, r7.free _⟩
  have o7 := j7.own o6 (fun e => hbt e.symm)
  have x0 : (w6.setCell ⟨b, 16, none⟩ (.int .i64 ((s.seq + 1) % 256))).cell? ⟨tb, 0, none⟩ = some (.int .i64 3) := o7.cell 0
  have x2 : (w6.setCell ⟨b, 16, none⟩ (.int .i64 ((s.seq + 1) % 256))).cell? ⟨tb, 2, none⟩ = some (.int .i64 64) := o7.cell 2
  have x3 : (w6.setCell ⟨b, 16, none⟩ (.int .i64 ((s.seq + 1) % 256))).cell? ⟨tb, 3, none⟩ = some (.int .i64 s.seq) := o7.cell 3
  have r8 := (((((r7.put 18 (.bool false)).put 19 (.int .i64 asn)).put 20 (.int .i64 3)).put 21 (.int .i64 64)).put 22 (.int .i64 s.seq))
  have j8 := j7.trans (just_cells b [.bool false, .int .i64 asn, .int .i64 3, .int .i64 64, .int .i64 s.seq] 18 (w6.setCell ⟨b, 16, none⟩ (.int .i64 ((s.seq + 1) % 256))))
  have R8 : Blk ((w6.setCell ⟨b, 16, none⟩ (.int .i64 ((s.seq + 1) % 256))).setCells b 18 [.bool false, .int .i64 asn, .int .i64 3, .int .i64 64, .int .i64 s.seq]) b 92 43 (ndV (sentN s false asn 3 64) h) := Blk.ext r8 (fun i hi => by
    unfold ndV
    by_cases h1 : i < 23
    · rw [if_pos h1, if_pos h1]
      rcases idx23 i h1 with rfl | rfl | rfl | rfl | rfl | rfl | rfl | rfl | rfl | rfl | rfl | rfl | rfl | rfl | rfl | rfl | rfl | rfl | rfl | rfl | rfl | rfl | rfl <;> rfl
    · rw [if_neg h1, if_neg h1, if_neg (by omega), if_neg (by omega), if_neg (by omega), if_neg (by omega), if_neg (by omega), if_neg (by omega)]
      by_cases h2 : i < 39
      · rw [if_pos h2, if_pos h2]
      · rw [if_neg h2, if_neg h2]
        rfl)
  have t8 := Tn.of_just j8 n6.own
  have n8 : Nd ((w6.setCell ⟨b, 16, none⟩ (.int .i64 ((s.seq + 1) % 256))).setCells b 18 [.bool false, .int .i64 asn, .int .i64 3, .int .i64 64, .int .i64 s.seq]) b (sentN s false asn 3 64) h :=
    n6.put j8 R8 ⟨rfl, rfl, rfl⟩ ⟨rfl, rfl, rfl, rfl⟩ ⟨rfl, rfl, rfl, rfl⟩ ⟨rfl, rfl, rfl⟩ ⟨rfl, rfl, rfl⟩ ⟨rfl, rfl, rfl⟩ (fun e => t8.st (n6.set e) (by decide) (by decide)) (fun e => t8.own (n6.kee e) (by decide)) (fun k hk => t8.mine (n6.path k hk) (by decide))
  have m8 : Mv (h.ex b) (h.ex b) w ((w6.setCell ⟨b, 16, none⟩ (.int .i64 ((s.seq + 1) % 256))).setCells b 18 [.bool false, .int .i64 asn, .int .i64 3, .int .i64 64, .int .i64 s.seq]) := (Mv.of_below bb6).trans (Mv.of_just j8 (.inl rfl))
  have V8 : Row ((w6.setCell ⟨b, 16, none⟩ (.int .i64 ((s.seq + 1) % 256))).setCells b 18 [.bool false, .int .i64 asn, .int .i64 3, .int .i64 64, .int .i64 s.seq]) va (encF (nextF0 s asn)).length (bval (encF (nextF0 s asn))) := (mine_at (t8.mine hv (by decide))).2.2.1
  have HK := Lib.hid (And.intro n8 (And.intro m8 V8))
  clear r6 r7 r8 j7 j8 R8 t8 n8 m8 V8 o6 o7 n6 hv v3 PE' bb5 bb6 b6
  obtain ⟨en, hen⟩ : ∃ q, encF (nextF0 s asn) = q := ⟨_, rfl⟩
  rw [hen] at HK v1 ⊢
  obtain ⟨el, hel⟩ : ∃ q, en.length = q := ⟨_, rfl⟩
  rw [hel] at HK v1 ⊢
  have HEN := Lib.hid hen
  have HEL := Lib.hid hel
  clear hen hel hvb
  go_wp2_with (refine wpList_store_mid rfl 87 _ _ rfl b 18 #[.bool false, .int .i64 asn, .int .i64 3, .int .i64 64, .int .i64 s.seq] rfl rfl hth (by kernel_rfl) (by simp [Value.oneCell']) ?_)
  go_ret2
  rw [HCH.out, HEN.out, HEL.out]
  exact ⟨va, vc, rfl, v1, v2, HK.out.2.2, HK.out.1, HK.out.2.1⟩
end Go.Proofs.YtiflmdekcjbmbaaGreat.Nd
set_option maxRecDepth 100000
namespace Go.Proofs.YtiflmdekcjbmbaaGreat.Nd
set_option linter.unusedVariables false
set_option linter.unusedSimpArgs false
open Go.RowKit Lb Ie Fm

/-- A mesh that may be, as its parts. -/
theorem okc_may {x : Cx} (h : mayQ x = true) : Okc x.cfg := by
  unfold mayQ at h
  simp only [Bool.and_eq_true] at h
  obtain ⟨h1, _, h3, h4, h5, h6, h7, h8, h9⟩ := h
  unfold inB at h1 h4 h5 h6 h7 h8 h9
  rw [decide_eq_true_eq] at h1 h4 h5 h6 h7 h8 h9
  exact ⟨h1, h3, h4, h5, h6, h7, h8, h9⟩
theorem fit_fresh {x : Cx} {id : Int} (h : newB x id = true) : Fit (fresh0 x.cfg id (id == 0)) := by
  unfold newB at h
  rw [Bool.and_eq_true] at h
  obtain ⟨h1, h2⟩ := h
  have hc := okc_may h1
  unfold inB at h2
  rw [decide_eq_true_eq] at h2
  have hg : Dp.AllG (fun _ => 0) (fun _ => 0) := fun _ => Dp.good_zero 0
  exact ⟨hc, ⟨h2.1, by show id < x.nodes; omega⟩, by simp [fresh0], by simp [fresh0], by simp [fresh0], by simp [fresh0], by have := hc.queue; show (0 : Int) ≤ x.cfg.queue; omega, by simp [fresh0], by simp [fresh0], hg, hg, hg, by simp [fresh0], by simp [fresh0], by simp [fresh0], by simp [fresh0], fun e => ⟨by show (id == 0) = true; rw [show id = 0 from e]; rfl, rfl, rfl⟩, by simp [fresh0]⟩
theorem len_next {s : Ns} {asn : Int} (f : Fit s) (ha : 0 ≤ asn ∧ asn < 1099511627776) : (encF (nextF0 s asn)).length ≤ 100000 := by
  obtain ⟨m1, m2, m3, m4, m5, m6⟩ := mayF_out (may_next f ha)
  have h5 := (encI_ok m4).2
  have h7 := encF_len (nextF0 s asn)
  omega
theorem chan24 {x : Cx} (hh : x.hops = [11, 15, 20]) : chanN (fresh0 x.cfg 0 (0 == 0)) 0 = 11 := by
  have e : (fresh0 x.cfg 0 (0 == 0)).c.hops = [11, 15, 20] := hh
  unfold chanN
  rw [e]
  decide
/-- What it sends in slot 0. -/
def LL24 (x : Cx) : List Int := encF (nextF0 (fresh0 x.cfg 0 (0 == 0)) 0)
theorem plan24 {x : Cx} {w : World} {b : Nat} {h : Hm} (hn : newB x 0 = true) (hh : x.hops = [11, 15, 20]) (n : Nd w b (fresh0 x.cfg 0 (0 == 0)) h) :
    Calls Tryz.prog 19 #[.pointer (some ⟨b, 0, none⟩), .int .i64 0] w fun r w' => ∃ a c, r = .returned (.tuple #[.int .i64 11, .slice a (LL24 x).length c]) ∧ (LL24 x).length ≤ c ∧ c ≤ maxLen ∧ Row w' a (LL24 x).length (bval (LL24 x)) ∧ (∃ s, s.inT = true ∧ Nd w' b s h) ∧ Mv (h.ex b) (h.ex b) w w' := by
  have := plan0_any n (fit_fresh hn) rfl rfl 0 (by decide) (by simp)
  rw [chan24 hh] at this
  exact this.mono (fun r w' ⟨a, c, h1, h2, h3, h4, h5, h6⟩ => ⟨a, c, h1, h2, h3, h4, ⟨_, rfl, h5⟩, h6⟩)
theorem dec24 {x : Cx} (hn : newB x 0 = true) : okD' (LL24 x) ∧ (LL24 x).length ≤ 100000 ∧ decF (LL24 x) = .ok (nextF0 (fresh0 x.cfg 0 (0 == 0)) 0) :=
  ⟨encF_ok (may_next (fit_fresh hn) (by decide)) okD_nil, len_next (fit_fresh hn) (by decide), decF_enc (may_next (fit_fresh hn) (by decide)) okD_nil⟩
theorem Mv.down {E E' : Nat → Prop} {w w' : World} {base : Nat} (m : Mv E E' w w') (h : ∀ q, E q → base ≤ q) (hb : base ≤ w.heap.size) : Below base w w' :=
  ⟨m.os, m.tape, m.output, m.size, fun q hq => m.keep q (by omega) (fun e => by have := h q e; omega)⟩
set_option maxHeartbeats 1000000 in
theorem awake24_any (w : World) : Calls Tryz.prog 11 #[] w fun r w' => r = .returned (.bool true) ∧ Below w.heap.size w w' := by
  go_enter Tryz.func11, Tryz.ntmps11
  go_wp2_with fail
  refine (config_any 3 1 5 5 5 5 1 w).mono ?_
  rintro r w1 ⟨x, rfl, hx, hm, hh, b1⟩
  have hnew : newB x 0 = true := by
    unfold newB inB
    rw [hm]
    have := (mayQ_parts hm).1
    simp
    omega
  have PN := newn_any x 0 w1 hx
  have HM := Lib.hid (And.intro hnew hh)
  obtain ⟨C, hC⟩ : ∃ C : Array Value, #[.int .i64 x.nodes, .slice x.na x.nn x.nc, .slice x.ha x.hops.length x.hc, .int .i64 x.guard, .int .i64 x.err, .int .i64 x.keep, .int .i64 x.loss, .int .i64 x.queue, .int .i64 x.life] = C := ⟨_, rfl⟩
  rw [hC] at PN ⊢
  clear hC hm hh hx hnew
  go_wp2_with fail
  refine PN.mono ?_
  rintro r w2 hN
  unfold NewPost at hN
  rw [if_pos HM.out.1] at hN
  obtain ⟨b, h, rfl, n2, hex, b2⟩ := hN
  have bb2 := b1.trans (b2.mono b1.size)
  have HP := Lib.hid (plan24 HM.out.1 HM.out.2 n2)
  clear PN
  have PP := HP.out
  clear HP
  clear n2
  go_wp2_with fail
  refine PP.mono ?_
  rintro r w3 ⟨a, c, rfl, v1, v2, v3, ⟨s, hT, n3⟩, m3⟩
  have bb3 : Below w.heap.size w w3 := bb2.trans (m3.down (fun q e => Nat.le_trans b1.size (hex q e)) bb2.size)
  obtain ⟨d1, d2, d3⟩ := dec24 HM.out.1
  have PD := rdecF_any a c (LL24 x) w3 v1 v2 d2 v3 d1
  have HN := Lib.hid n3
  have HT := Lib.hid hT
  have HD := Lib.hid d3
  obtain ⟨LL, hLL⟩ : ∃ q, LL24 x = q := ⟨_, rfl⟩
  rw [hLL] at PD HD ⊢
  obtain ⟨nl, hnl⟩ : ∃ q, LL.length = q := ⟨_, rfl⟩
  rw [hnl] at PD ⊢
  clear hLL hnl m3 v1 v2 v3 hT n3 d1 d2 d3 b1 b2 bb2 hex PP
  clear w2 w1
  go_wp2_with fail
  refine PD.mono ?_
  rintro r w4 hR
  unfold DecFPost at hR
  rw [HD.out] at hR
  obtain ⟨p, hf, rfl, hat, b4⟩ := hR
  have e0 : p.k = 3 := congrArg Fr.k hf
  have e1 : p.L.length = 2 := by
    have := congrArg List.length (congrArg Fr.ies hf)
    rwa [show p.fr.ies = els p.L from rfl, els_len] at this
  obtain ⟨pk, ps, pd, pq, pL, pa, pc, pdata, pb, pe⟩ := p
  dsimp only at e0 e1
  subst e0
  obtain ⟨nn, hnn⟩ : ∃ q, pdata.length = q := ⟨_, rfl⟩
  simp only [Fp.vals, e1, hnn]
  have bb4 := bb3.trans (b4.mono bb3.size)
  have n4 := HN.out.below b4
  clear hf e1 hnn PD HD b4 bb3 HN hat
  clear w3
  have o5 := Own.new w4 37 #[.int .i64 3, .int .i64 ps, .int .i64 pd, .int .i64 pq, .slice pa 2 pc, .slice pb nn pe]
  have b5 := (Below.refl w4.heap.size w4).alloc (Nat.le_refl _) (.cells #[.int .i64 3, .int .i64 ps, .int .i64 pd, .int .i64 pq, .slice pa 2 pc, .slice pb nn pe] 37)
  have bb5 := bb4.trans (b5.mono bb4.size)
  have PS := synced_any (n4.below b5)
  rw [HT.out] at PS
  clear n4 b5 bb4
  go_upto_region 4 with (fail)
  obtain ⟨tb, htb⟩ : ∃ q, w4.heap.size = q := ⟨_, rfl⟩
  rw [htb] at o5 ⊢
  generalize w4.alloc (.cells #[.int .i64 3, .int .i64 ps, .int .i64 pd, .int .i64 pq, .slice pa 2 pc, .slice pb nn pe] 37) = w5 at *
  have c0 : w5.cell? ⟨tb, 0, none⟩ = some (.int .i64 3) := o5.cell 0
  have c4 : w5.cell? ⟨tb, 4, none⟩ = some (.slice pa 2 pc) := o5.cell 4
  clear htb o5
  clear w4
  go_wp2_with fail
  refine PS.mono ?_
  rintro r w6 ⟨rfl, rfl⟩
  clear PS
  go_wp2_with fail
  go_ret
  exact ⟨rfl, bb5⟩
end Go.Proofs.YtiflmdekcjbmbaaGreat.Nd
set_option maxRecDepth 100000
namespace Go.Proofs.YtiflmdekcjbmbaaGreat.Nd
set_option linter.unusedVariables false
set_option linter.unusedSimpArgs false
open Go.RowKit Lb Ie Fm

def beaF (src rank asn : Int) : Fr := ⟨3, src, 64, 0, [⟨1, asn, rank, 0, []⟩], []⟩
theorem bea_may {src rank asn : Int} (h1 : 0 ≤ src ∧ src < 16) (h2 : 0 ≤ rank ∧ rank ≤ 255) (h3 : 0 ≤ asn ∧ asn < 1099511627776) : mayF (beaF src rank asn) = true := by
  have e1 : mayE ⟨1, asn, rank, 0, []⟩ = true := by
    unfold mayE fitB octB
    rw [if_pos rfl, decide_eq_true h3, decide_eq_true h2]
    simp [own, sameE]
  unfold mayF beaF mayL dstB kindB ndB
  dsimp only
  rw [if_neg (by decide), if_pos rfl, fstE_isSome]
  simp only [List.all_cons, List.all_nil, e1]
  rw [decide_eq_true h1]
  have e2 : (64 == src) = false := by simp; omega
  rw [e2]
  rfl
theorem bea_read {s : Ns} {src rank asn : Int} (f : Fit s) (h1 : 0 ≤ src ∧ src < s.c.nodes) (h0 : src ≠ s.id) (h2 : 0 ≤ rank ∧ rank ≤ 255) (h3 : 0 ≤ asn ∧ asn < 1099511627776) : readN s asn (encF (beaF src rank asn)) = some (beaF src rank asn, rank) := by
  have hn := f.c.nodes
  refine isSome_read (e := ⟨1, asn, rank, 0, []⟩) (decide_eq_true h3) (decF_enc (bea_may (by omega) h2 h3) okD_nil) ?_ rfl rfl
  unfold inB
  rw [Bool.and_eq_true, decide_eq_true_eq]
  exact ⟨⟨h1.1, by show src ≤ s.c.nodes - 1; omega⟩, by show (src != s.id) = true; simpa using h0⟩
theorem bea_len {src rank asn : Int} (h1 : 0 ≤ src ∧ src < 16) (h2 : 0 ≤ rank ∧ rank ≤ 255) (h3 : 0 ≤ asn ∧ asn < 1099511627776) : (encF (beaF src rank asn)).length ≤ 100000 := by
  obtain ⟨m1, m2, m3, m4, m5, m6⟩ := mayF_out (bea_may h1 h2 h3)
  have h5 := (encI_ok m4).2
  have h7 := encF_len (beaF src rank asn)
  omega
theorem beacon_any (src rank asn : Int) (w : World) (h1 : 0 ≤ src ∧ src < 16) (h2 : 0 ≤ rank ∧ rank ≤ 255) (h3 : 0 ≤ asn ∧ asn < 1099511627776) :
    Calls Tryz.prog 41 #[.int .i64 src, .int .i64 rank, .int .i64 asn] w fun r w' => ∃ a c, r = .returned (.slice a (encF (beaF src rank asn)).length c) ∧ (encF (beaF src rank asn)).length ≤ c ∧ c ≤ maxLen ∧ Row w' a (encF (beaF src rank asn)).length (bval (encF (beaF src rank asn))) ∧ Below w.heap.size w w' := by
  have b0 := (Below.refl w.heap.size w).alloc (Nat.le_refl _) (.cells #[.int .i64 1, .int .i64 asn, .int .i64 rank, .int .i64 0, .slice none 0 0] 59)
  have o0 := Own.new w 59 #[.int .i64 1, .int .i64 asn, .int .i64 rank, .int .i64 0, .slice none 0 0]
  have hel : Els (w.alloc (.cells #[.int .i64 1, .int .i64 asn, .int .i64 rank, .int .i64 0, .slice none 0 0] 59)) [⟨⟨1, asn, rank, 0, []⟩, none, 0⟩] (some ⟨w.heap.size, 0, none⟩) 1 := by
    refine ⟨Nat.le_refl _, by unfold maxLen; decide, fun _ => ⟨_, 0, rfl, o0.lt, fun i hi => ?_⟩, fun k hk => ?_⟩
    · rw [Nat.zero_add, o0.cell]
      have hi : i < 5 := hi
      rcases (show i = 0 ∨ i = 1 ∨ i = 2 ∨ i = 3 ∨ i = 4 by omega) with rfl | rfl | rfl | rfl | rfl <;> rfl
    · have hk : k < 1 := hk
      obtain rfl : k = 0 := by omega
      exact ⟨Nat.le_refl _, Nat.zero_le _, Row.nil _ _ _, fun _ => rfl⟩
  have hat : Fp.At (w.alloc (.cells #[.int .i64 1, .int .i64 asn, .int .i64 rank, .int .i64 0, .slice none 0 0] 59)) ⟨3, src, 64, 0, [⟨⟨1, asn, rank, 0, []⟩, none, 0⟩], some ⟨w.heap.size, 0, none⟩, 1, [], none, 0⟩ := ⟨hel, Nat.le_refl _, Nat.zero_le _, Row.nil _ _ _, okD_nil⟩
  have PE := rencF_any _ _ hat (fun k hk => by
    have hk : k < 1 := hk
    obtain rfl : k = 0 := by omega
    exact Nat.zero_le _)
  have hfr : Fp.fr ⟨3, src, 64, 0, [⟨⟨1, asn, rank, 0, []⟩, none, 0⟩], some ⟨w.heap.size, 0, none⟩, 1, [], none, 0⟩ = beaF src rank asn := rfl
  rw [hfr] at PE
  have HM := Lib.hid (bea_may h1 h2 h3)
  clear hel hat hfr h1 h2 h3 o0
  simp only [Fp.vals] at PE
  go_enter Tryz.func41, Tryz.ntmps41
  go_wp2_with fail
  refine PE.mono ?_
  intro r w2 hP
  unfold EncFPost at hP
  rw [if_pos HM.out] at hP
  obtain ⟨v, rfl, hv, b2⟩ := hP
  obtain ⟨a, c, rfl, k1, k2, k3⟩ := hv.row
  have HK := Lib.hid (And.intro k1 (And.intro k2 (And.intro k3 (b0.trans (b2.mono b0.size)))))
  clear PE hv k1 k2 k3 b0 b2
  obtain ⟨n, hn⟩ : ∃ q, (encF (beaF src rank asn)).length = q := ⟨_, rfl⟩
  have HNN := Lib.hid hn
  rw [hn] at HK ⊢
  clear hn
  go_wp2_with fail
  go_ret
  rw [HNN.out]
  exact ⟨a, c, rfl, HK.out⟩
/-- It has waited i slots. -/
def waitN (c : Cfg) (i d : Int) : Ns := { fresh0 c 2 false with d := d, s := i, lis := i }
theorem wait_fit {x : Cx} {i d : Int} (h : newB x 2 = true) (hi : 0 ≤ i ∧ i ≤ 1099511627776) (hd : -(i * 1000000) ≤ d ∧ d ≤ i * 1000000) : Fit (waitN x.cfg i d) := by
  have f := fit_fresh h
  exact ⟨f.c, f.id, hi, hd, f.p, ⟨by show 0 ≤ i; omega, by show i ≤ _; omega⟩, f.q, f.lost, f.tries, f.u, f.dn, f.g, f.seq, f.last, f.few, f.rk, (fun e => absurd (show (2 : Int) = 0 from e) (by decide)), f.ks⟩
theorem wait_slot {c : Cfg} {i d asn ppm : Int} (ha : 0 ≤ asn ∧ asn < 1099511627776) (hi : 0 ≤ i ∧ i < 1099511627776) : slotN (waitN c i d) asn ppm = waitN c (i + 1) (d + Ck.lim ppm 100 * 10000) := by
  unfold slotN
  rw [if_pos (show asnB asn = true from decide_eq_true ha)]
  have e1 : clkD d i ppm = d + Ck.lim ppm 100 * 10000 := by unfold clkD; rw [if_neg (by omega)]
  have e2 : clkS i = i + 1 := by unfold clkS; rw [if_neg (by omega)]
  show ({ waitN c i d with d := clkD d i ppm, s := clkS i, lis := i + 1 } : Ns) = _
  rw [e1, e2]
  rfl
theorem wait_bd {i d ppm : Int} (hd : -(i * 1000000) ≤ d ∧ d ≤ i * 1000000) : -((i + 1) * 1000000) ≤ d + Ck.lim ppm 100 * 10000 ∧ d + Ck.lim ppm 100 * 10000 ≤ (i + 1) * 1000000 := by
  have h1 := Ck.lim_low ppm 100 (by decide)
  have h2 := Ck.lim_high ppm 100
  omega
/-- It still waits. -/
theorem wait_no {c : Cfg} {i d src rank asn : Int} (hi : i ≤ c.loss) : beginB (waitN c i d) (beaF src rank asn) rank = false := by
  unfold beginB
  have e : decide ((waitN c i d).c.loss < (waitN c i d).lis) = false := decide_eq_false (by show ¬ c.loss < i; omega)
  rw [e, Bool.and_false, Bool.and_false]
theorem wait_yes {c : Cfg} {i d src rank asn : Int} (hi : c.loss < i) (hr : rank < 254) : beginB (waitN c i d) (beaF src rank asn) rank = true := by
  unfold beginB
  have e : decide ((waitN c i d).c.loss < (waitN c i d).lis) = true := decide_eq_true (by show c.loss < i; omega)
  rw [e, decide_eq_true hr]
  rfl
end Go.Proofs.YtiflmdekcjbmbaaGreat.Nd
