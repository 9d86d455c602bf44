/-
  A node (chapter 24): Plan of node 0 when nothing waits. Package frame (chapter 7): a reader's way through a frame's bytes, plain and by contract: texts of any length.
-/
import Derived.Test.YtiflmdekcjbmbaaGreatGNodeNil29
import Derived.Test.YtiflmdekcjbmbaaGreatGNodeNil25
set_option maxRecDepth 100000
namespace Go.Proofs.YtiflmdekcjbmbaaGreat.Nd
set_option linter.unusedVariables false
set_option linter.unusedSimpArgs false
open Go.RowKit Lb Ie Fm

/-- What is heard of the frame that is sent. -/
def sentN (s : Ns) (o : Bool) (asn k d : Int) : Ns := { s with seq := (s.seq + 1) % 256, so := o, sa := asn, sk := k, sd := d, sq := s.seq }
def chanN (s : Ns) (asn : Int) : Int := Hp.chanB (fun i => s.c.hops.getD i 0) 0 s.c.hops.length asn 0
theorem fstE_isSome (asn rk : Int) (l : List El) : (fstE (⟨1, asn, rk, 0, []⟩ :: l) 1).isSome = true := by
  unfold fstE
  rw [List.find?_cons]
  rfl
theorem next_lists {s : Ns} {asn : Int} {p : Fp} (f : Fit s) (hp : p.fr = nextF0 s asn) : ∀ k, k < p.L.length → (p.L.getD k ep0).e.list.length ≤ 1000000 := by
  have h16 : s.c.hops.length ≤ 16 := by
    have := f.c.hops
    unfold Hp.mayB at this
    simp only [Bool.and_eq_true, decide_eq_true_eq] at this
    exact this.1.2
  intro k hk
  have e : els p.L = [⟨1, asn, rankN s, 0, []⟩, ⟨3, 0, 0, 0, s.c.hops⟩] := congrArg Fr.ies hp
  have h1 : (p.L.getD k ep0).e ∈ els p.L := by
    unfold els
    rw [List.getD_eq_getElem?_getD, List.getElem?_eq_getElem hk]
    exact List.mem_map_of_mem (List.getElem_mem hk)
  rw [e] at h1
  rcases List.mem_cons.1 h1 with h2 | h2
  · rw [h2]; exact Nat.zero_le _
  · rcases List.mem_cons.1 h2 with h3 | h3
    · rw [h3]; show s.c.hops.length ≤ _; omega
    · cases h3
theorem okTo_at {Z : Nat → Int} : ∀ {n : Nat}, Hp.okTo Z n = true → ∀ k, k < n → 0 ≤ Z k ∧ Z k < 32
  | 0, _, k, hk => absurd hk (Nat.not_lt_zero k)
  | n + 1, h, k, hk => by
    rw [Hp.okTo] at h
    simp only [Bool.and_eq_true, decide_eq_true_eq] at h
    by_cases e : k = n
    · subst e; exact ⟨h.2.1.1, h.2.1.2⟩
    · exact okTo_at h.1 k (by omega)
theorem may_next {s : Ns} {asn : Int} (f : Fit s) (ha : 0 ≤ asn ∧ asn < 1099511627776) : mayF (nextF0 s asn) = true := by
  have hr : 0 ≤ rankN s ∧ rankN s ≤ 255 := by
    unfold rankN
    split
    · exact f.rk
    · omega
  have hh := f.c.hops
  unfold Hp.mayB at hh
  simp only [Bool.and_eq_true, decide_eq_true_eq] at hh
  have h1 : mayE ⟨1, asn, rankN s, 0, []⟩ = true := by
    unfold mayE fitB octB
    rw [if_pos rfl, decide_eq_true ha, decide_eq_true hr]
    simp [own, sameE]
  have h2 : mayE ⟨3, 0, 0, 0, s.c.hops⟩ = true := by
    have h3 : listB s.c.hops = true := by
      unfold listB octsB
      rw [decide_eq_true hh.1.2, decide_eq_true (fun j hj => ?_)]
      · rfl
      · have := okTo_at hh.2 j hj
        omega
    unfold mayE fitB
    dsimp only
    rw [if_neg (by decide), if_neg (by decide), if_pos (.inl rfl), h3]
    simp [own, sameE]
  have hq := f.seq
  unfold mayF nextF0 mayL dstB kindB
  dsimp only
  rw [if_neg (by decide), if_pos rfl, fstE_isSome]
  simp only [List.all_cons, List.all_nil, h1, h2]
  rw [decide_eq_true hq.1, decide_eq_true (show s.seq ≤ 255 by omega)]
  rfl
theorem channel_hop {w : World} {b : Nat} {s : Ns} {h : Hm} (n : Nd w b s h) (f : Fit s) (asn : Int) :
    Calls Tryz.prog 63 #[.slice h.ha s.c.hops.length h.hc, .int .u32 0, .int .i64 asn, .int .i64 0] w fun r w' => r = .returned (.int .i64 (chanN s asn)) ∧ Below w.heap.size w w' := by
  obtain ⟨m1, m2, m3, _⟩ := mine_at n.hops
  exact Hp.channel_any h.ha s.c.hops.length h.hc (fun i => s.c.hops.getD i 0) 0 asn 0 w m1 m2 m3 (by decide)
set_option maxHeartbeats 4000000 in
theorem plan0_any {w : World} {b : Nat} {s : Ns} {h : Hm} (n : Nd w b s h) (f : Fit s) (h0 : s.id = 0) (hq : s.q = []) (asn : Int) (ha : 0 ≤ asn ∧ asn < 1099511627776) (hm : asn % s.c.nodes = 0) :
    Calls Tryz.prog 19 #[.pointer (some ⟨b, 0, none⟩), .int .i64 asn] w fun r w' => ∃ a c, r = .returned (.tuple #[.int .i64 (chanN s asn), .slice a (encF (nextF0 s asn)).length c]) ∧ (encF (nextF0 s asn)).length ≤ c ∧ c ≤ maxLen ∧ Row w' a (encF (nextF0 s asn)).length (bval (encF (nextF0 s asn))) ∧ Nd w' b (sentN s false asn 3 64) h ∧ Mv (h.ex b) (h.ex b) w w' := by
  have PA := isASN_any asn
  rw [show asnB asn = true from decide_eq_true ha] at PA
  have HN := Lib.hid n
  have HF := Lib.hid f
  have c1 := n.c_nodes
  have c3 := n.c_hops
  have c39 : w.cell? ⟨b, 39, none⟩ = some (.bool true) := by rw [n.c_inT, (f.root h0).1]
  have c0 : w.cell? ⟨b, 0, none⟩ = some (.int .i64 0) := by rw [n.c_id, h0]
  obtain ⟨nd, hnd⟩ : ∃ q, s.c.nodes = q := ⟨_, rfl⟩
  have hn16 := f.c.nodes
  rw [hnd] at c1 hm hn16
  have e1 : asn.tmod nd = 0 := by rw [Int.tmod_eq_emod_of_nonneg ha.1]; exact hm
  have H0 := Lib.hid (And.intro h0 hq)
  have HM := Lib.hid (may_next f ha)
  have hsq := f.seq
  clear n f h0 hq hm ha hnd
  go_enter Tryz.func19, Tryz.ntmps19
  go_wp2_with fail
  refine (lives_any HN.out).mono ?_
  rintro r w' ⟨rfl, rfl⟩
  go_wp2_with fail
  refine (PA _).mono ?_
  rintro r w' ⟨rfl, rfl⟩
  clear PA
  go_upto_region 3 with (fail)
  go_quiet (fail)
  have b1 := below_drewN (Below.refl w.heap.size w) nq
  have c39' : (w.drewN nq).cell? ⟨b, 39, none⟩ = some (.bool true) := c39
  have PC := channel_hop (HN.out.below b1) HF.out asn
  generalize w.drewN nq = w1 at *
  clear c0 c1 c3 c39
  obtain ⟨hl, hhl⟩ : ∃ q, s.c.hops.length = q := ⟨_, rfl⟩
  rw [hhl] at PC ⊢
  have HHL := Lib.hid hhl
  clear hhl
  go_wp2_with fail
  refine PC.mono ?_
  rintro r w2 ⟨rfl, b2⟩
  have bb2 := b1.trans (b2.mono b1.size)
  have c0 : w2.cell? ⟨b, 0, none⟩ = some (.int .i64 0) := by rw [(HN.out.below bb2).c_id, H0.out.1]
  clear PC c39' b1 b2
  clear w1
  obtain ⟨ch, hch⟩ : ∃ q, chanN s asn = q := ⟨_, rfl⟩
  have HCH := Lib.hid hch
  rw [hch]
  clear hch
  go_upto_region 8 with (fail)
  go_quiet (fail)
  have b3 := below_drewN bb2 nq
  have PX := next0_any (HN.out.below b3) HF.out H0.out.1 H0.out.2 asn
  generalize w2.drewN nq = w3 at *
  clear c0 bb2 e1
  clear w2
  go_wp2_with fail
  refine PX.mono ?_
  rintro r w4 ⟨p, rfl, hp, hf, b4⟩
  have bb4 := b3.trans (b4.mono b3.size)
  have hlist := next_lists HF.out hf
  have PE := fun w' (j : Below w4.heap.size w4 w') => encF_any p w' (hp.below j) hlist
  rw [hf] at PE
  have e0 : p.k = 3 := congrArg Fr.k hf
  have e1 : p.d = 64 := congrArg Fr.d hf
  have e2 : p.q = s.seq := congrArg Fr.q hf
  obtain ⟨pk, ps, pd, pq, pL, pa, pc, pdata, pb, pe⟩ := p
  dsimp only at e0 e1 e2
  subst e0 e1 e2
  obtain ⟨nl, hnl⟩ : ∃ q, pL.length = q := ⟨_, rfl⟩
  obtain ⟨nn, hnn⟩ : ∃ q, pdata.length = q := ⟨_, rfl⟩
  simp only [Fp.vals, hnl, hnn] at PE ⊢
  clear hp hf hlist hnl hnn PX b3 b4
  clear w3
  have o4 := Own.new w4 37 #[.int .i64 3, .int .i64 ps, .int .i64 64, .int .i64 s.seq, .slice pa nl pc, .slice pb nn pe]
  have b5 := (Below.refl w4.heap.size w4).alloc (Nat.le_refl _) (.cells #[.int .i64 3, .int .i64 ps, .int .i64 64, .int .i64 s.seq, .slice pa nl pc, .slice pb nn pe] 37)
  have PE' := PE _ b5
  have hlo := bb4.size
  have bb4s := bb4.size
  have bb5 := bb4.trans (b5.mono bb4.size)
  clear PE b5 bb4
  go_upto_region 11 with (fail)
  obtain ⟨tb, htb⟩ : ∃ q, w4.heap.size = q := ⟨_, rfl⟩
  rw [htb] at o4 hlo bb4s ⊢
  generalize w4.alloc (.cells #[.int .i64 3, .int .i64 ps, .int .i64 64, .int .i64 s.seq, .slice pa nl pc, .slice pb nn pe] 37) = w5 at *
  clear htb
  clear w4
  go_wp2_with (refine wpList_load_row rfl _ _ rfl tb rfl 37 #[.int .i64 3, .int .i64 ps, .int .i64 64, .int .i64 s.seq, .slice pa nl pc, .slice pb nn pe] (0, 0) _ o4 Tryz.underlying37 rfl (by kernel_rfl) ?_)
  refine PE'.mono ?_
  rintro r w6 hE
  unfold EncFPost at hE
  rw [if_pos HM.out] at hE
  obtain ⟨v, rfl, hv, b6⟩ := hE
  obtain ⟨va, vc, rfl, v1, v2, v3⟩ := hv.row
  have bb6 := bb5.trans (b6.mono bb5.size)
  have o6 := below_own b6 o4 o4.lt
  have n6 := HN.out.below bb6
  have hvb := hv.lt
  have d0 : w6.cell? ⟨tb, 0, none⟩ = some (.int .i64 3) := o6.cell 0
  have d2 : w6.cell? ⟨tb, 2, none⟩ = some (.int .i64 64) := o6.cell 2
  have d3 : w6.cell? ⟨tb, 3, none⟩ = some (.int .i64 s.seq) := o6.cell 3
  have c16 : w6.cell? ⟨b, 16, none⟩ = some (.int .i64 s.seq) := n6.c_seq
  have f16 : w6.frozen? ⟨b, 16, none⟩ = false := n6.own.free 16
  have w1 : wrap64 (s.seq + 1) = s.seq + 1 := IntWalk.wrap64_in _ (by omega)
  have w2 : (s.seq + 1).tmod 256 = (s.seq + 1) % 256 := Int.tmod_eq_emod_of_nonneg (by omega)
  have w3 : IntKind.i64.wrap (s.seq + 1) = s.seq + 1 := IntWalk.i64_in _ (by omega)
  have w4 : IntKind.i64.wrap ((s.seq + 1) % 256) = (s.seq + 1) % 256 := IntWalk.i64_in _ (by omega)
  have w5 : wrap64 ((s.seq + 1) % 256) = (s.seq + 1) % 256 := IntWalk.wrap64_in _ (by omega)
  have hbt : b ≠ tb := by
    have := HN.out.own.lt
    have := bb4s
    omega
  have r6 := n6.own
  have r7 := r6.put 16 (.int .i64 ((s.seq + 1) % 256))
  have j7 := Just.set b w6 16 (.int .i64 ((s.seq + 1) % 256))
  have hth : (w6.setCell ⟨b, 16, none⟩ (.int .i64 ((s.seq + 1) % 256))).there b 18 5 := fun j hj => ⟨by
    rw [r7.cell (show 18 + j < 43 by omega)]
    rfl, r7.free _⟩
  have o7 := j7.own o6 (fun e => hbt e.symm)
  have x0 : (w6.setCell ⟨b, 16, none⟩ (.int .i64 ((s.seq + 1) % 256))).cell? ⟨tb, 0, none⟩ = some (.int .i64 3) := o7.cell 0
  have x2 : (w6.setCell ⟨b, 16, none⟩ (.int .i64 ((s.seq + 1) % 256))).cell? ⟨tb, 2, none⟩ = some (.int .i64 64) := o7.cell 2
  have x3 : (w6.setCell ⟨b, 16, none⟩ (.int .i64 ((s.seq + 1) % 256))).cell? ⟨tb, 3, none⟩ = some (.int .i64 s.seq) := o7.cell 3
  have r8 := (((((r7.put 18 (.bool false)).put 19 (.int .i64 asn)).put 20 (.int .i64 3)).put 21 (.int .i64 64)).put 22 (.int .i64 s.seq))
  have j8 := j7.trans (just_cells b [.bool false, .int .i64 asn, .int .i64 3, .int .i64 64, .int .i64 s.seq] 18 (w6.setCell ⟨b, 16, none⟩ (.int .i64 ((s.seq + 1) % 256))))
  have R8 : Blk ((w6.setCell ⟨b, 16, none⟩ (.int .i64 ((s.seq + 1) % 256))).setCells b 18 [.bool false, .int .i64 asn, .int .i64 3, .int .i64 64, .int .i64 s.seq]) b 92 43 (ndV (sentN s false asn 3 64) h) := Blk.ext r8 (fun i hi => by
    unfold ndV
    by_cases h1 : i < 23
    · rw [if_pos h1, if_pos h1]
      rcases idx23 i h1 with rfl | rfl | rfl | rfl | rfl | rfl | rfl | rfl | rfl | rfl | rfl | rfl | rfl | rfl | rfl | rfl | rfl | rfl | rfl | rfl | rfl | rfl | rfl <;> rfl
    · rw [if_neg h1, if_neg h1, if_neg (by omega), if_neg (by omega), if_neg (by omega), if_neg (by omega), if_neg (by omega), if_neg (by omega)]
      by_cases h2 : i < 39
      · rw [if_pos h2, if_pos h2]
      · rw [if_neg h2, if_neg h2]
        rfl)
  have t8 := Tn.of_just j8 n6.own
  have n8 : Nd ((w6.setCell ⟨b, 16, none⟩ (.int .i64 ((s.seq + 1) % 256))).setCells b 18 [.bool false, .int .i64 asn, .int .i64 3, .int .i64 64, .int .i64 s.seq]) b (sentN s false asn 3 64) h :=
    n6.put j8 R8 ⟨rfl, rfl, rfl⟩ ⟨rfl, rfl, rfl, rfl⟩ ⟨rfl, rfl, rfl, rfl⟩ ⟨rfl, rfl, rfl⟩ ⟨rfl, rfl, rfl⟩ ⟨rfl, rfl, rfl⟩ (fun e => t8.st (n6.set e) (by decide) (by decide)) (fun e => t8.own (n6.kee e) (by decide)) (fun k hk => t8.mine (n6.path k hk) (by decide))
  have m8 : Mv (h.ex b) (h.ex b) w ((w6.setCell ⟨b, 16, none⟩ (.int .i64 ((s.seq + 1) % 256))).setCells b 18 [.bool false, .int .i64 asn, .int .i64 3, .int .i64 64, .int .i64 s.seq]) := (Mv.of_below bb6).trans (Mv.of_just j8 (.inl rfl))
  have V8 : Row ((w6.setCell ⟨b, 16, none⟩ (.int .i64 ((s.seq + 1) % 256))).setCells b 18 [.bool false, .int .i64 asn, .int .i64 3, .int .i64 64, .int .i64 s.seq]) va (encF (nextF0 s asn)).length (bval (encF (nextF0 s asn))) := (mine_at (t8.mine hv (by decide))).2.2.1
  have HK := Lib.hid (And.intro n8 (And.intro m8 V8))
  clear r6 r7 r8 j7 j8 R8 t8 n8 m8 V8 o6 o7 n6 hv v3 PE' bb5 bb6 b6
  obtain ⟨en, hen⟩ : ∃ q, encF (nextF0 s asn) = q := ⟨_, rfl⟩
  rw [hen] at HK v1 ⊢
  obtain ⟨el, hel⟩ : ∃ q, en.length = q := ⟨_, rfl⟩
  rw [hel] at HK v1 ⊢
  have HEN := Lib.hid hen
  have HEL := Lib.hid hel
  clear hen hel hvb
  go_wp2_with (refine wpList_store_mid rfl 87 _ _ rfl b 18 #[.bool false, .int .i64 asn, .int .i64 3, .int .i64 64, .int .i64 s.seq] rfl rfl hth (by kernel_rfl) (by simp [Value.oneCell']) ?_)
  go_ret2
  rw [HCH.out, HEN.out, HEL.out]
  exact ⟨va, vc, rfl, v1, v2, HK.out.2.2, HK.out.1, HK.out.2.1⟩
end Go.Proofs.YtiflmdekcjbmbaaGreat.Nd
set_option maxRecDepth 100000
namespace Go.Proofs.YtiflmdekcjbmbaaGreat.Fm
set_option linter.unusedVariables false
set_option linter.unusedSimpArgs false
open Go.RowKit Lb Bf Ie

/-- The text that is told. -/
def txt (l : List Int) (n : Nat) : List Int := if l.length < n then [] else l.take n
theorem lft_zero (l : List Int) : lft l 0 = l := by unfold lft; rw [if_neg (by omega), List.drop_zero]
theorem er_zero (l : List Int) (e : Int) : er l 0 e = e := by unfold er; rw [if_neg (by omega)]
theorem txt_zero (l : List Int) : txt l 0 = [] := by unfold txt; rw [if_neg (by omega), List.take_zero]
theorem txt_ok {l : List Int} {n : Nat} (h : okD' l) : okD' (txt l n) := by
  unfold txt
  split
  · exact okD_nil
  · exact okD_take' h
theorem lft_ok {l : List Int} {n : Nat} (h : okD' l) : okD' (lft l n) := by
  unfold lft
  split
  · exact okD_nil
  · exact okD_drop' h
theorem lft_len (l : List Int) (n : Nat) : (lft l n).length ≤ l.length := by
  unfold lft
  split
  · simp
  · rw [List.length_drop]; omega
theorem txt_len (l : List Int) (n : Nat) : (txt l n).length ≤ l.length := by
  unfold txt
  split
  · simp
  · rw [List.length_take]; omega
theorem get0_ok {l : List Int} (h : okD' l) : 0 ≤ l.getD 0 0 ∧ l.getD 0 0 < 256 := by
  cases l with
  | nil => exact ⟨by decide, by decide⟩
  | cons x m => exact h x (by simp)
/-- What is behind the elements' length. -/
def l1 (R : List Int) (n : Nat) : List Int := lft R n
def e1 (R : List Int) (n : Nat) : Int := er R n 0
def nd (R : List Int) (n : Nat) : Nat := ((l1 R n).getD 0 0).toNat
def l2 (R : List Int) (n : Nat) : List Int := lft (l1 R n) 1
def e2 (R : List Int) (n : Nat) : Int := er (l1 R n) 1 (e1 R n)
def l3 (R : List Int) (n : Nat) : List Int := lft (l2 R n) (nd R n)
def e3 (R : List Int) (n : Nat) : Int := er (l2 R n) (nd R n) (e2 R n)
def dat (R : List Int) (n : Nat) : List Int := txt (l2 R n) (nd R n)
theorem er_two {l : List Int} {n : Nat} : er l n 2 = 2 := by unfold er fst_; split <;> simp
theorem end_two (l : List Int) : endE l 2 = 2 := rfl
theorem parse {R : List Int} {n : Nat} (hd : okD' R) : (endE (l3 R n) (e3 R n) = 0 ∧ ∃ x R8, n ≤ R.length ∧ R.drop n = x :: R8 ∧ R8.length = x.toNat ∧ txt R n = R.take n ∧ dat R n = R8) ∨
    (endE (l3 R n) (e3 R n) ≠ 0 ∧ (R.length < n ∨ R.drop n = [] ∨ ∃ x R8, R.drop n = x :: R8 ∧ R8.length ≠ x.toNat)) := by
  by_cases h1 : R.length < n
  · right
    have a1 : e1 R n = 2 := by unfold e1 er fst_; rw [if_pos h1]; rfl
    have a3 : e3 R n = 2 := by unfold e3 e2; rw [a1, er_two, er_two]
    rw [a3]
    exact ⟨by rw [end_two]; decide, .inl h1⟩
  · have hl1 : l1 R n = R.drop n := by unfold l1 lft; rw [if_neg h1]
    have a1 : e1 R n = 0 := by unfold e1 er; rw [if_neg h1]
    cases hR : R.drop n with
    | nil =>
      right
      have a2 : e2 R n = 2 := by unfold e2; rw [hl1, hR, a1]; rfl
      have a3 : e3 R n = 2 := by unfold e3; rw [a2, er_two]
      rw [a3]
      exact ⟨by rw [end_two]; decide, .inr (.inl rfl)⟩
    | cons x R8 =>
      have hx : nd R n = x.toNat := by unfold nd; rw [hl1, hR]; rfl
      have hl2 : l2 R n = R8 := by unfold l2; rw [hl1, hR]; rfl
      have a2 : e2 R n = 0 := by unfold e2; rw [hl1, hR, a1]; rfl
      by_cases h8 : R8.length < x.toNat
      · right
        have a3 : e3 R n = 2 := by unfold e3 er fst_; rw [hl2, hx, a2, if_pos h8]; rfl
        rw [a3]
        exact ⟨by rw [end_two]; decide, .inr (.inr ⟨x, R8, rfl, by omega⟩)⟩
      · have a3 : e3 R n = 0 := by unfold e3 er; rw [hl2, hx, a2, if_neg h8]
        have hl3 : l3 R n = R8.drop x.toNat := by unfold l3 lft; rw [hl2, hx, if_neg h8]
        by_cases h9 : R8.length = x.toNat
        · left
          refine ⟨?_, x, R8, by omega, rfl, h9, ?_, ?_⟩
          · rw [a3, hl3, List.drop_of_length_le (by omega)]
            rfl
          · unfold txt; rw [if_neg h1]
          · unfold dat txt; rw [hl2, hx, if_neg h8, List.take_of_length_le (by omega)]
        · right
          refine ⟨?_, .inr (.inr ⟨x, R8, rfl, h9⟩)⟩
          rw [a3, hl3]
          unfold endE
          rw [if_pos rfl, if_neg (fun h => by have := congrArg List.length h; rw [List.length_drop] at this; simp at this; omega)]
          decide
theorem decR_no {m k s d q : Int} {n : Nat} {R : List Int} (h : R.length < n ∨ R.drop n = [] ∨ ∃ x R8, R.drop n = x :: R8 ∧ R8.length ≠ x.toNat) : decR (m :: k :: s :: d :: q :: (n : Int) :: R) = .error 3 := by
  unfold decR
  simp only
  rw [Int.toNat_natCast]
  by_cases h1 : R.length < n
  · rw [if_pos h1]
  · rw [if_neg h1]
    rcases h with h | h | ⟨x, R8, h, h8⟩
    · exact absurd h h1
    · rw [h]
    · rw [h]
      simp only
      rw [if_pos h8]
theorem decR_mark {m k s d q : Int} {n : Nat} {R : List Int} (hm : m ≠ 197) : decR (m :: k :: s :: d :: q :: (n : Int) :: R) = .error 3 := by
  unfold decR
  simp only
  rw [Int.toNat_natCast]
  split
  · rfl
  · split
    · rfl
    · split
      · rfl
      · first | rfl | rw [if_pos hm]
theorem decR_e {k s d q x e : Int} {n : Nat} {R R8 : List Int} (h1 : n ≤ R.length) (h2 : R.drop n = x :: R8) (h3 : R8.length = x.toNat) (h4 : decI (R.take n) = .error e) :
    decR (197 :: k :: s :: d :: q :: (n : Int) :: R) = .error e := by
  unfold decR
  simp only
  rw [Int.toNat_natCast, if_neg (by omega), h2]
  simp only
  rw [if_neg (by omega), if_neg (by simp), h4]
theorem decR_ok {k s d q x : Int} {n : Nat} {R R8 : List Int} {l : List El} (h1 : n ≤ R.length) (h2 : R.drop n = x :: R8) (h3 : R8.length = x.toNat) (h4 : decI (R.take n) = .ok l) (hm : mayF ⟨k, s, d, q, l, R8⟩ = true) :
    decR (197 :: k :: s :: d :: q :: (n : Int) :: R) = .ok ⟨k, s, d, q, l, R8⟩ := by
  unfold decR
  simp only
  rw [Int.toNat_natCast, if_neg (by omega), h2]
  simp only
  rw [if_neg (by omega), if_neg (by simp), h4]
  simp only
  rw [if_pos hm]
theorem decR_nm {k s d q x : Int} {n : Nat} {R R8 : List Int} {l : List El} (h1 : n ≤ R.length) (h2 : R.drop n = x :: R8) (h3 : R8.length = x.toNat) (h4 : decI (R.take n) = .ok l) (hm : mayF ⟨k, s, d, q, l, R8⟩ = false) :
    decR (197 :: k :: s :: d :: q :: (n : Int) :: R) = .error 3 := by
  unfold decR
  simp only
  rw [Int.toNat_natCast, if_neg (by omega), h2]
  simp only
  rw [if_neg (by omega), if_neg (by simp), h4]
  simp only
  rw [if_neg (by rw [hm]; simp)]
theorem texth_J (base H b : Nat) (l : List Int) (err : Int) (x : Nat) (w : World) (h : Rh w base H b l err) (hx : 0 < x) :
    Calls Tryz.prog 190 #[.pointer (some ⟨b, 0, none⟩), .int .i64 (x : Nat)] w fun r w' =>
      Rh w' base H b (lft l x) (er l x err) ∧ Just b w w' ∧ ((x ≤ l.length ∧ r = .returned (.slice (some ⟨w.heap.size, 0, none⟩) x x) ∧ Blk w' w.heap.size 5 x (fun i => .int .u8 (l.getD i 0))) ∨ (l.length < x ∧ r = .returned (.slice none 0 0))) := by
  obtain ⟨hb, j, n, Z, v, h1, hv, h2, h3, h4⟩ := h
  unfold lft er
  by_cases hl : l.length < x
  · rw [if_pos hl, if_pos hl]
    refine (textShortJ base b (8 * j) n Z err (x : Int) v w h1 (by omega) (by omega) (by rw [Int.toNat_natCast]; omega) h3).mono ?_
    rintro r w' ⟨rfl, h5, b5⟩
    exact ⟨rh_nil h5 hb, b5, .inr ⟨hl, rfl⟩⟩
  · rw [if_neg hl, if_neg hl]
    refine (textJ base b j n x Z err v w h1 hx (by omega) h3).mono ?_
    rintro r w' ⟨rfl, hB, h5, b5⟩
    refine ⟨Rh.skip (k := x) hb h5 hv h2 h3 h4 (by omega), b5, .inl ⟨by omega, rfl, hB.ext (fun i hi => by rw [h4 i (by omega)])⟩⟩
theorem textf_any (base H b : Nat) (l : List Int) (err : Int) (x : Nat) (w : World) (h : Rh w base H b l err) :
    Calls Tryz.prog 190 #[.pointer (some ⟨b, 0, none⟩), .int .i64 (x : Nat)] w fun r w' =>
      ∃ a c, r = .returned (.slice a (txt l x).length c) ∧ (txt l x).length ≤ c ∧ c ≤ maxLen ∧ Row w' a (txt l x).length (bval (txt l x)) ∧ (∀ q, a = some q → w.heap.size ≤ q.block ∧ q.block < w'.heap.size) ∧ Rh w' base H b (lft l x) (er l x err) ∧ Just b w w' := by
  by_cases h0 : x = 0
  · subst h0
    rw [txt_zero, lft_zero, er_zero]
    refine (text_neg b ((0 : Nat) : Int) w (by omega)).mono ?_
    rintro r w' ⟨rfl, rfl⟩
    exact ⟨none, 0, rfl, Nat.le_refl _, Nat.zero_le _, Row.nil _ _ _, (fun q e => by cases e), h, Just.refl _ _⟩
  · have hb : l.length ≤ 100000 := by
      obtain ⟨_, j, n, Z, v, _, _, h1, h2, _⟩ := h
      omega
    refine (texth_J base H b l err x w h (by omega)).mono ?_
    rintro r w' ⟨h1, h2, ⟨h3, rfl, h4⟩ | ⟨h3, rfl⟩⟩
    · have ht : txt l x = l.take x := by unfold txt; rw [if_neg (by omega)]
      have hl : (l.take x).length = x := by rw [List.length_take]; omega
      rw [ht]
      refine ⟨some ⟨w.heap.size, 0, none⟩, x, by rw [hl], by rw [hl]; exact Nat.le_refl _, by unfold maxLen; omega, ?_, (fun q e => by injection e with e; subst e; exact ⟨Nat.le_refl _, h4.lt⟩), h1, h2⟩
      rw [hl]
      exact Row.own h4 (fun i hi => by simp [hi, bval])
    · have ht : txt l x = [] := by unfold txt; rw [if_pos h3]
      rw [ht]
      exact ⟨none, 0, rfl, Nat.le_refl _, Nat.zero_le _, Row.nil _ _ _, (fun q e => by cases e), h1, h2⟩
theorem ftake_any (base H b : Nat) (l : List Int) (err : Int) (w : World) (h : Rh w base H b l err) (hd : okD' l) :
    Calls Tryz.prog 189 #[.pointer (some ⟨b, 0, none⟩)] w fun r w' => r = .returned (.int .i64 (l.getD 0 0)) ∧ Rh w' base H b (lft l 1) (er l 1 err) ∧ Just b w w' := by
  have hx := get0_ok hd
  have ht := take8h_any base H b l err w h
  obtain ⟨x, hxx⟩ : ∃ x, l.getD 0 0 = x := ⟨_, rfl⟩
  rw [hxx] at hx ht ⊢
  have HT := Lib.hid ht
  clear hxx ht
  go_enter Tryz.func189, Tryz.ntmps189
  go_wp2_with fail
  refine HT.out.mono ?_
  rintro r w2 ⟨rfl, h2, j2⟩
  go_wp2_with fail
  go_ret
  exact ⟨rfl, h2, j2⟩
theorem ftake_cons (base H b : Nat) (x : Int) (l : List Int) (w : World) (h : Rh w base H b (x :: l) 0) (hd : okD' (x :: l)) :
    Calls Tryz.prog 189 #[.pointer (some ⟨b, 0, none⟩)] w fun r w' => r = .returned (.int .i64 x) ∧ Rh w' base H b l 0 ∧ Just b w w' := by
  refine (ftake_any base H b (x :: l) 0 w h hd).mono ?_
  rintro r w' ⟨rfl, h1, h2⟩
  unfold lft er at h1
  rw [if_neg (by simp), if_neg (by simp)] at h1
  exact ⟨rfl, h1, h2⟩
theorem take8_cons (base H b : Nat) (x : Int) (l : List Int) (w : World) (h : Rh w base H b (x :: l) 0) :
    Calls Tryz.prog 188 #[.pointer (some ⟨b, 0, none⟩), .int .i64 8] w fun r w' => r = .returned (.int .u64 x) ∧ Rh w' base H b l 0 ∧ Just b w w' := by
  refine (take8h_any base H b (x :: l) 0 w h).mono ?_
  rintro r w' ⟨rfl, h1, h2⟩
  unfold lft er at h1
  rw [if_neg (by simp), if_neg (by simp)] at h1
  exact ⟨rfl, h1, h2⟩
end Go.Proofs.YtiflmdekcjbmbaaGreat.Fm
