/-
  A node (chapter 24): it begins anew. A node (chapter 24): node 2 in time by node 1: what it is through slots, beacons, sends and new beginnings. A node (chapter 24): node 2 in time by node 1, in memory that is new since a world: the laws' calls. The calls of chapter 24's laws: opened; few of them.
-/
import Derived.Test.YtiflmdekcjbmbaaGreatGNodeWaits25
import Derived.Test.YtiflmdekcjbmbaaGreatGNodeWaits14
import Derived.Test.YtiflmdekcjbmbaaGreatGNodeNumbers02
import Derived.Test.YtiflmdekcjbmbaaGreatGNodeNumbers03
import Derived.Test.YtiflmdekcjbmbaaGreatGNodeNumbers01
import Derived.Test.YtiflmdekcjbmbaaGreatGNodeWaits20
import Derived.Test.YtiflmdekcjbmbaaGreatGNodeNumbers04
set_option maxRecDepth 100000
namespace Go.Proofs.YtiflmdekcjbmbaaGreat.Nd
set_option linter.unusedVariables false
set_option linter.unusedSimpArgs false
open Go.RowKit Lb

def bootN (s : Ns) : Ns := { fresh0 s.c s.id (s.id == 0) with p := Ck.lim (offN s) 1000000000000 }
section
variable {v : World}
def iF (v : World) (c : Cfg) (ha : Option Addr) (hc : Nat) (id : Int) (x : Value) (s : Gw v) : Prop := ∃ (A : Array Value) (ck qb ub db gb sb : Nat), x = .agg A ∧ Hid ((Array.ofFn (n := 43) fun i => ndV (fresh0 c id (id == 0)) (hm0 ha hc ck qb ub db gb sb) i) = A) ∧ Fresh v.heap.size s.toW c ha hc id ck qb ub db gb sb
def kF (v : World) (c : Cfg) (ha : Option Addr) (hc : Nat) (id : Int) : Kd v := .grow (iF v c ha hc id) (fun _ _ _ h ⟨A, ck, qb, ub, db, gb, sb, e, hA, h1⟩ => ⟨A, ck, qb, ub, db, gb, sb, e, hA, h1.below h.below⟩)
end
theorem Fresh.low {lo lo' : Nat} {w : World} {c : Cfg} {ha : Option Addr} {hc : Nat} {id : Int} {ck qb ub db gb sb : Nat} (h : Fresh lo w c ha hc id ck qb ub db gb sb) (hl : lo' ≤ lo) : Fresh lo' w c ha hc id ck qb ub db gb sb := by
  obtain ⟨l1, l2, l3, l4, l5⟩ := h.five.lo
  exact ⟨⟨h.five.clk, h.five.que, h.five.up, h.five.dn, h.five.gt, h.five.ap, ⟨by omega, by omega, by omega, by omega, by omega⟩⟩, fun e => ⟨(h.set e).1, by have := (h.set e).2; omega⟩⟩
set_option maxHeartbeats 4000000 in
theorem reboot_any {w : World} {b : Nat} {s : Ns} {h : Hm} (n : Nd w b s h) (f : Fit s) (h0 : s.id ≠ 0) :
    Calls Tryz.prog 30 #[.pointer (some ⟨b, 0, none⟩)] w fun r w' => r = .returned (.tuple #[]) ∧ ∃ h', Nd w' b (bootN s) h' ∧ Mv (h.ex b) (h'.ex b) w w' := by
  have PL := lives_any n
  have c0 := n.c_id
  have c10 := n.c_ck
  have g0 : (s.id == 0) = false := by simpa using h0
  have hz := f.z
  have hd := f.d
  have hp := f.p
  have PO := Ck.off_any h.ck s.p s.d s.s w n.clk (by omega) (by omega) (by omega) (by omega)
  have hoff : Ck.off s.p s.d = offN s := rfl
  obtain ⟨ov, hov⟩ : ∃ q, offN s = q := ⟨_, rfl⟩
  rw [hoff, hov] at PO
  have HOV := Lib.hid hov
  have HN := Lib.hid n
  have HF := Lib.hid f
  clear n f hz hd hp hoff hov
  go_enter Tryz.func30, Tryz.ntmps30
  go_wp2_with fail
  refine PL.mono ?_
  rintro r w' ⟨rfl, rfl⟩
  go_wp2_with fail
  refine PO.mono ?_
  rintro r w' ⟨rfl, mq, rfl⟩
  clear PL PO c0 c10 g0
  go_upto_region 2 with (fail)
  have b1 := below_drewN (Below.refl w.heap.size w) mq
  have n1 := HN.out.below b1
  have HG0 : Hid ((s.id == 0) = false) := Lib.hid (by simpa using h0)
  obtain ⟨c, hc0⟩ : ∃ q, s.c = q := ⟨_, rfl⟩
  obtain ⟨ha, hha⟩ : ∃ q, h.ha = q := ⟨_, rfl⟩
  obtain ⟨hc, hhc⟩ : ∃ q, h.hc = q := ⟨_, rfl⟩
  obtain ⟨id, hid⟩ : ∃ q, s.id = q := ⟨_, rfl⟩
  have HEQ := Lib.hid (And.intro hc0 (And.intro hha (And.intro hhc hid)))
  generalize w.drewN mq = w1 at *
  have e0 : ∀ z : Gw w1, z.toW.cell? ⟨b, 0, none⟩ = some (.int .i64 id) := fun z => by rw [(n1.below z.ok).c_id, hid]
  have e1 : ∀ z : Gw w1, z.toW.cell? ⟨b, 1, none⟩ = some (.int .i64 c.nodes) := fun z => by rw [(n1.below z.ok).c_nodes, hc0]
  have e2 : ∀ z : Gw w1, z.toW.cell? ⟨b, 2, none⟩ = some (.slice none 0 0) := fun z => (n1.below z.ok).own.cell (by decide)
  have e3 : ∀ z : Gw w1, z.toW.cell? ⟨b, 3, none⟩ = some (.slice ha c.hops.length hc) := fun z => by rw [(n1.below z.ok).c_hops, hc0, hha, hhc]
  have e4 : ∀ z : Gw w1, z.toW.cell? ⟨b, 4, none⟩ = some (.int .i64 c.guard) := fun z => by rw [← hc0]; exact (n1.below z.ok).own.cell (by decide)
  have e5 : ∀ z : Gw w1, z.toW.cell? ⟨b, 5, none⟩ = some (.int .i64 c.err) := fun z => by rw [← hc0]; exact (n1.below z.ok).own.cell (by decide)
  have e6 : ∀ z : Gw w1, z.toW.cell? ⟨b, 6, none⟩ = some (.int .i64 c.keep) := fun z => by rw [(n1.below z.ok).c_keep, hc0]
  have e7 : ∀ z : Gw w1, z.toW.cell? ⟨b, 7, none⟩ = some (.int .i64 c.loss) := fun z => by rw [(n1.below z.ok).c_loss, hc0]
  have e8 : ∀ z : Gw w1, z.toW.cell? ⟨b, 8, none⟩ = some (.int .i64 c.queue) := fun z => by rw [(n1.below z.ok).c_queue, hc0]
  have e9 : ∀ z : Gw w1, z.toW.cell? ⟨b, 9, none⟩ = some (.int .i64 c.life) := fun z => by rw [(n1.below z.ok).c_life, hc0]
  have PF : Hid (∀ z : Gw w1, Calls Tryz.prog 47 #[.agg #[.int .i64 c.nodes, .slice none 0 0, .slice ha c.hops.length hc, .int .i64 c.guard, .int .i64 c.err, .int .i64 c.keep, .int .i64 c.loss, .int .i64 c.queue, .int .i64 c.life], .int .i64 id] z.toW (FreshPost c ha hc id z.toW)) := Lib.hid (fun z => fresh_any c ha hc id z.toW (by rw [← hc0]; exact HF.out.c.queue))
  have HN1 := Lib.hid n1
  have HB1 := Lib.hid b1
  clear n1 b1 hc0 hha hhc hid
  apply wp_tail_start
  case hl => repeat (first | exact Snoc.one _ | apply Snoc.cons)
  refine wp_region_tail w1 (Below.refl _ _) [.is (.pointer (some ⟨b, 0, none⟩)), .is (.pointer (some ⟨b, 0, none⟩)), .is (.pointer (some ⟨b, 0, none⟩)), .is (.pointer (some ⟨b, 1, none⟩)), .is (.agg #[.int .i64 c.nodes, .slice none 0 0, .slice ha c.hops.length hc, .int .i64 c.guard, .int .i64 c.err, .int .i64 c.keep, .int .i64 c.loss, .int .i64 c.queue, .int .i64 c.life]), .is (.pointer (some ⟨b, 0, none⟩)), .is (.pointer (some ⟨b, 0, none⟩)), .is (.pointer (some ⟨b, 0, none⟩)), .is (.int .i64 id), kF w1 c ha hc id, .is (.pointer (some ⟨b, 0, none⟩))] [] (by kernel_rfl) (by kernel_rfl) (by kernel_rfl) rfl (by kernel_rfl) ?_
  iterate 9
    refine kd_is (by rfl) (fun z hz K Q hK => ?_) ?_
    · go_big_op
      exact hK _ _ rfl rfl
    simp only [Act.put, List.setIfInBounds_toArray, List.set_cons_zero, List.set_cons_succ]
  refine kd_grow (by rfl) (fun z hz K Q hK => ?_) (fun x9 => ?_)
  · go_big_op
    refine (PF.out z).mono ?_
    rintro r w' ⟨ck, qb, ub, db, gb, sb, rfl, hF, b7⟩
    exact hK _ _ ⟨_, z.to w' b7, rfl, rfl, z.to_still w' b7, _, ck, qb, ub, db, gb, sb, rfl, Lib.hid rfl, hF.low z.ok.size⟩
  simp only [Act.put, List.setIfInBounds_toArray, List.set_cons_zero, List.set_cons_succ]
  refine kd_is (by rfl) (fun z hz K Q hK => ?_) ?_
  · go_big_op
    exact hK _ _ rfl rfl
  simp only [Act.put, List.setIfInBounds_toArray, List.set_cons_zero, List.set_cons_succ]
  refine kd_nil (fun z hz => ?_)
  obtain ⟨A, ck, qb, ub, db, gb, sb, rfl, HA, hF⟩ : iF w1 c ha hc id x9 z := hz 9 (.of (iF w1 c ha hc id)) x9 (by kernel_rfl) (fun _ _ => rfl)
  clear hz PF e0 e1 e2 e3 e4 e5 e6 e7 e8 e9
  rw [if_pos (by rfl)]
  have oz := (HN1.out.below z.ok).own
  have hsz : (Tryz.prog.info? 92).map (·.size) = some A.size := by rw [← HA.out]; exact nd_size _ _
  have hol : (Array.ofFn (n := 43) fun i => ndV s h i).size = A.size := by rw [← HA.out]; simp
  have hal : A.all (·.oneCell') = true := by rw [← HA.out]; exact nd_all (fun k hk => rfl)
  refine wp_store_row 92 (.tmp 28) (.tmp 27) rfl b A rfl rfl 92 _ oz hsz hol hal ?_
  have jR := Just.setRow b z.toW A
  have o3 := Own.setRow oz A
  have HOZ := Lib.hid oz
  have bz := z.ok
  have HZ := Lib.hid (And.intro jR (And.intro o3 (And.intro hF bz)))
  clear jR o3 hF bz hsz hol hal oz
  have n3 : Nd (z.toW.setRow b A) b (fresh0 c id (id == 0)) (hm1 ha hc ck qb ub db gb sb b id) := by
    obtain ⟨jR, o3, hF, bz⟩ := HZ.out
    obtain ⟨q1, q2, q3, q4⟩ := HEQ.out
    have F3 := hF.five.just jR HOZ.out
    have t := Tn.of_just jR HOZ.out
    have hh := t.mine (HN1.out.below bz).hops (by decide)
    rw [q1, q2, q3] at hh
    have hid0 : (id == 0) = false := by rw [← q4]; exact HG0.out
    have BK : Blk (z.toW.setRow b A) b 92 43 (ndV (fresh0 c id (id == 0)) (hm0 ha hc ck qb ub db gb sb)) := by
      unfold Blk
      rw [HA.out]
      exact o3
    exact ⟨BK.ext (nd_hm1 _ _ _ _ _ _ _ _ _ _ _), hh, F3.clk, ⟨[], ⟨F3.que.own, MineK.nil _ _ _ _ _, (fun y hy => by cases hy), Nat.zero_le _⟩, rfl⟩, F3.up, F3.dn, F3.gt, F3.ap, (fun e => by
      have e : (id == 0) = true := e
      rw [hid0] at e
      cases e), (fun e => by
      rw [hasK0] at e
      cases e), fun k _ => Mine.nil _ _ _ _⟩
  have m3 : Mv (h.ex b) (Hm.ex (hm1 ha hc ck qb ub db gb sb b id) b) w (z.toW.setRow b A) := by
    obtain ⟨jR, o3, hF, bz⟩ := HZ.out
    obtain ⟨l1, l2, l3, l4, l5⟩ := hF.five.lo
    have hs1 := HB1.out.size
    have hid0 : (id == 0) = false := by rw [← HEQ.out.2.2.2]; exact HG0.out
    have M : Mv (h.ex b) (h.ex b) w (z.toW.setRow b A) := ((Mv.of_below HB1.out).trans (Mv.of_below bz)).trans (Mv.of_just jR (.inl rfl))
    refine ⟨M.os, M.tape, M.output, M.size, M.keep, fun q hq => ?_⟩
    rcases hq with e | e | e | e | e | e | e | e | e | e
    · exact .inl (.inl e)
    · exact .inr (by have e : q = ck := e; omega)
    · exact .inr (by have e : q = qb := e; omega)
    · cases e
    · exact .inr (by have e : q = ub := e; omega)
    · exact .inr (by have e : q = db := e; omega)
    · exact .inr (by have e : q = gb := e; omega)
    · have e : q = (if (id == 0) = true then sb else b) := e
      rw [hid0] at e
      exact .inl (.inl e)
    · cases e
    · exact .inl (.inl e)
  have HN3 := Lib.hid (And.intro n3 m3)
  clear n3 m3 HZ HOZ HN1 HA
  go_upto_region 3 with (fail)
  generalize z.toW.setRow b A = w3 at *
  have c10 : w3.cell? ⟨b, 10, none⟩ = some (.pointer (some ⟨ck, 0, none⟩)) := HN3.out.1.c_ck
  have PP := Ck.put_any ck 0 0 0 ov w3 HN3.out.1.clk
  go_wp2_with fail
  refine PP.mono ?_
  rintro r w4 ⟨rfl, hck, j4⟩
  have n4 := HN3.out.1.clock hck j4
  have m4 := HN3.out.2.trans (Mv.of_just j4 (.inr (.inl rfl)))
  have HN4 := Lib.hid (And.intro n4 m4)
  clear n4 m4 hck j4 PP c10
  go_wp2_with fail
  go_end0
  refine ⟨rfl, hm1 ha hc ck qb ub db gb sb b id, ?_, HN4.out.2⟩
  unfold bootN
  rw [HEQ.out.1, HEQ.out.2.2.2, HOV.out]
  exact HN4.out.1
end Go.Proofs.YtiflmdekcjbmbaaGreat.Nd
set_option maxRecDepth 100000
namespace Go.Proofs.YtiflmdekcjbmbaaGreat.Nd
set_option linter.unusedVariables false
set_option linter.unusedSimpArgs false
open Go.RowKit Lb Ie Fm

def inN (cf : Cfg) (i z l : Int) (q : List (Int × List Int)) (last : Int) : Ns := { begunN (waitN cf l 0) 1 1 z 0 with s := i, q := q, last := last }
theorem joined_in (cf : Cfg) : joinedN cf = inN cf (cf.loss + 1) cf.loss (cf.loss + 1) [] (-1) := rfl
theorem in_fit {cf : Cfg} {i z l last : Int} {q : List (Int × List Int)} (hf : Fit (waitN cf l 0)) (hi : 0 ≤ i ∧ i ≤ 1099511627776) (hq : (q.length : Int) ≤ cf.queue) (hl : -1 ≤ last ∧ last < 70368744177664) : Fit (inN cf i z l q last) :=
  ⟨hf.c, hf.id, hi, (by show -(i * 1000000) ≤ (0 : Int) ∧ (0 : Int) ≤ i * 1000000; omega), (by show -1000000000000 ≤ limP 0 0 ∧ limP 0 0 ≤ 1000000000000; decide), hf.lis, hq, hf.lost, hf.tries, hf.u, hf.dn, hf.g, hf.seq, hl, (by show 1 ≤ 3; decide), (by show (0 : Int) ≤ 2 ∧ (2 : Int) ≤ 255; decide), (fun e => absurd (show (2 : Int) = 0 from e) (by decide)), (by show (0 : Int) ≤ 0 ∧ (0 : Int) ≤ 1000000; decide)⟩
theorem in_slot {cf : Cfg} {i z l last asn : Int} {q : List (Int × List Int)} (ha : 0 ≤ asn ∧ asn < 1099511627776) (hi : 0 ≤ i ∧ i < 1099511627776) : slotN (inN cf i z l q last) asn 0 = inN cf (i + 1) z l q last := by
  unfold slotN
  rw [if_pos (show asnB asn = true from decide_eq_true ha)]
  have e1 : clkD 0 i 0 = 0 := by
    unfold clkD
    rw [if_neg (by omega)]
    rfl
  have e2 : clkS i = i + 1 := by unfold clkS; rw [if_neg (by omega)]
  show ({ inN cf i z l q last with d := clkD 0 i 0, s := clkS i, lis := l } : Ns) = _
  rw [e1, e2]
  rfl
theorem hear_again {z asn : Int} (h4 : 0 ≤ asn) : Pa.hearR 2 2 [⟨1, 1, z⟩] ⟨1, 1, asn⟩ = 2 ∧ Pa.hearL 2 2 [⟨1, 1, z⟩] ⟨1, 1, asn⟩ = [⟨1, 1, asn⟩] := by
  have hm : Pa.mayH 2 ⟨1, 1, asn⟩ = true := by
    unfold Pa.mayH Pa.rkB
    have e : decide ((0 : Int) ≤ asn) = true := decide_eq_true h4
    show (Pa.ndB 1 && ((1 : Int) != 2 && (decide _ && decide ((0 : Int) ≤ asn)))) = true
    rw [e]
    rfl
  have e1 : Pa.l1 [(⟨1, 1, z⟩ : Pa.P)] 1 = [] := rfl
  have e2 : Pa.l2 [(⟨1, 1, z⟩ : Pa.P)] (⟨1, 1, asn⟩ : Pa.P) = [⟨1, 1, asn⟩] := by
    unfold Pa.l2
    rw [show (⟨1, 1, asn⟩ : Pa.P).n = 1 from rfl, e1]
    rfl
  unfold Pa.hearR Pa.hearL
  rw [if_pos hm, if_pos hm, if_neg (by show ¬ ((2 : Int) ≤ 1); decide), if_neg (by show ¬ ((2 : Int) ≤ 1); decide)]
  refine ⟨?_, ?_⟩
  · unfold Pa.rk3
    rw [if_neg (by show ¬ ((1 : Int) + 1 < 2); decide)]
  · unfold Pa.l4 Pa.l3
    rw [if_neg (by show ¬ ((1 : Int) + 1 < 2); decide), e2]
    rfl
theorem in_hear {cf : Cfg} {i z l last asn : Int} {q : List (Int × List Int)} (ha : 0 ≤ asn) : followN (inN cf i z l q last) 1 1 asn (limM 0) = inN cf i asn l q last := by
  obtain ⟨e1, e2⟩ := hear_again (z := z) ha
  have e3 : heardN (inN cf i z l q last) 1 1 asn = inN cf i asn l q last := by
    show ({ inN cf i z l q last with rk := Pa.hearR 2 2 [⟨1, 1, z⟩] ⟨1, 1, asn⟩, set := Pa.hearL 2 2 [⟨1, 1, z⟩] ⟨1, 1, asn⟩ } : Ns) = _
    rw [e1, e2]
    rfl
  unfold followN
  rw [e3, if_neg (by show ¬ (1 = 0); decide), if_pos (by rfl)]
  rfl
theorem in_send {cf : Cfg} {i z l last asn tt : Int} {q : List (Int × List Int)} {D : List Int} (hq : (q.length : Int) < cf.queue) :
    sentTo (inN cf i z l q last) asn tt D = inN cf i z l (q ++ [(64, Rt.encB (pkN (inN cf i z l q last) asn tt D))]) (numN (inN cf i z l q last) asn) := by
  unfold sentTo putN
  have e : Qu.lostTo (inN cf i z l q last).c.queue (inN cf i z l q last).lost (inN cf i z l q last).q.length = 0 := by
    unfold Qu.lostTo
    rw [if_pos (show ((inN cf i z l q last).q.length : Int) < (inN cf i z l q last).c.queue from hq)]
    rfl
  rw [e, if_pos (show ((inN cf i z l q last).q.length : Int) < (inN cf i z l q last).c.queue from hq)]
  rfl
theorem slot_in {cf : Cfg} {i z l last asn : Int} {q : List (Int × List Int)} {w : World} {b : Nat} {h : Hm} (n : Nd w b (inN cf i z l q last) h) (f : Fit (inN cf i z l q last)) (ha : 0 ≤ asn ∧ asn < 1099511627776) (hi : 0 ≤ i ∧ i < 1099511627776) :
    Calls Tryz.prog 17 #[.pointer (some ⟨b, 0, none⟩), .int .i64 asn, .int .i64 0] w fun r w' => r = .returned (.tuple #[]) ∧ Nd w' b (inN cf (i + 1) z l q last) h ∧ Mv (h.ex b) (h.ex b) w w' := by
  have := slot_any n f asn 0
  rw [in_slot ha hi] at this
  exact this
theorem slot_wait {cf : Cfg} {i asn : Int} {w : World} {b : Nat} {h : Hm} (n : Nd w b (waitN cf i 0) h) (f : Fit (waitN cf i 0)) (ha : 0 ≤ asn ∧ asn < 1099511627776) (hi : 0 ≤ i ∧ i < 1099511627776) :
    Calls Tryz.prog 17 #[.pointer (some ⟨b, 0, none⟩), .int .i64 asn, .int .i64 0] w fun r w' => r = .returned (.tuple #[]) ∧ Nd w' b (waitN cf (i + 1) 0) h ∧ Mv (h.ex b) (h.ex b) w w' := by
  have := slot_any n f asn 0
  rw [wait_slot0 ha hi] at this
  exact this
theorem boot_in {cf : Cfg} {i z l last : Int} {q : List (Int × List Int)} {w : World} {b : Nat} {h : Hm} (n : Nd w b (inN cf i z l q last) h) (f : Fit (inN cf i z l q last)) :
    Calls Tryz.prog 30 #[.pointer (some ⟨b, 0, none⟩)] w fun r w' => r = .returned (.tuple #[]) ∧ ∃ h', Nd w' b (waitN cf 0 0) h' ∧ Mv (h.ex b) (h'.ex b) w w' :=
  reboot_any n f (show (2 : Int) ≠ 0 by decide)
/-- The beacon of node 1 at asn. -/
def beaL (asn : Int) : List Int := encF (beaF 1 1 asn)
def IsBea (asn : Int) (w : World) (a : Option Addr) (c : Nat) : Prop := (beaL asn).length ≤ c ∧ c ≤ maxLen ∧ Row w a (beaL asn).length (bval (beaL asn))
theorem bea_in (asn : Int) (w : World) (ha : 0 ≤ asn ∧ asn < 1099511627776) :
    Calls Tryz.prog 41 #[.int .i64 1, .int .i64 1, .int .i64 asn] w fun r w' => ∃ a c, r = .returned (.slice a (beaL asn).length c) ∧ IsBea asn w' a c ∧ Below w.heap.size w w' :=
  (beacon_any 1 1 asn w (by omega) (by omega) ha).mono (fun _ _ ⟨a, c, e, h1, h2, h3, h4⟩ => ⟨a, c, e, ⟨h1, h2, h3⟩, h4⟩)
theorem hear_in1 {cf : Cfg} {i z l last asn : Int} {q : List (Int × List Int)} {w : World} {b : Nat} {h : Hm} (n : Nd w b (inN cf i z l q last) h) (f : Fit (inN cf i z l q last)) (ha : 0 ≤ asn ∧ asn < 1099511627776) {a : Option Addr} {c : Nat} (hb : IsBea asn w a c) :
    Calls Tryz.prog 22 #[.pointer (some ⟨b, 0, none⟩), .int .i64 asn, .slice a (beaL asn).length c, .int .i64 0] w fun r w' => ∃ v h', r = .returned v ∧ Nd w' b (inN cf i asn l q last) h' ∧ Mv (h.ex b) (h'.ex b) w w' := by
  obtain ⟨h1, h2, h3⟩ := hb
  have hn : 2 < cf.nodes := f.id.2
  have hr := bea_read f (src := 1) (rank := 1) (asn := asn) ⟨by omega, by show (1 : Int) < cf.nodes; omega⟩ (show (1 : Int) ≠ 2 by decide) (by omega) ha
  have hno : asksB (inN cf i z l q last) (beaF 1 1 asn) = false := rfl
  refine (hear_in n f rfl (show (2 : Int) ≠ 0 by decide) asn a c (beaL asn) 0 h1 h2 (bea_len (by omega) (by omega) ha) h3 (encF_ok (bea_may (by omega) (by omega) ha) okD_nil) (beaF 1 1 asn) 1 hr hno).mono ?_
  rintro r w' ⟨a9, c9, h', rfl, _, n', m'⟩
  refine ⟨_, h', rfl, ?_, m'⟩
  rw [show (beaF 1 1 asn).s = 1 from rfl, in_hear ha.1] at n'
  exact n'
theorem hear_wait1 {cf : Cfg} {l asn : Int} {w : World} {b : Nat} {h : Hm} (n : Nd w b (waitN cf l 0) h) (f : Fit (waitN cf l 0)) (hl : cf.loss < l) (ha : 0 ≤ asn ∧ asn < 1099511627776) {a : Option Addr} {c : Nat} (hb : IsBea asn w a c) :
    Calls Tryz.prog 22 #[.pointer (some ⟨b, 0, none⟩), .int .i64 asn, .slice a (beaL asn).length c, .int .i64 0] w fun r w' => ∃ v h', r = .returned v ∧ Nd w' b (inN cf l asn l [] (-1)) h' ∧ Mv (h.ex b) (h'.ex b) w w' := by
  obtain ⟨h1, h2, h3⟩ := hb
  have hn : 2 < cf.nodes := f.id.2
  have hr := bea_read f (src := 1) (rank := 1) (asn := asn) ⟨by omega, by show (1 : Int) < cf.nodes; omega⟩ (show (1 : Int) ≠ 2 by decide) (by omega) ha
  exact (NodeWaits.hear_first1 n f 1 1 asn a c (beaL asn) 0 h1 h2 (bea_len (by omega) (by omega) ha) h3 (encF_ok (bea_may (by omega) (by omega) ha) okD_nil) hr hl (by decide)).mono (fun r w' ⟨_, _, h', e, _, n', m'⟩ => ⟨_, h', e, n', m'⟩)
theorem send_in {cf : Cfg} {i z l last asn tt : Int} {q : List (Int × List Int)} {w : World} {b : Nat} {h : Hm} (n : Nd w b (inN cf i z l q last) h) (f : Fit (inN cf i z l q last)) (ha : 0 ≤ asn ∧ asn < 1099511627776) (ht : 0 ≤ tt ∧ tt < 2)
    (D : List Int) (hD : 1 ≤ D.length ∧ D.length ≤ 24) (hB : ∀ x, x ∈ D → 0 ≤ x ∧ x < 256) (a : Option Addr) (c : Nat) (hc : D.length ≤ c ∧ c ≤ maxLen) (hR : Row w a D.length (Rt.bval D)) (hnil : a = none → D.length = 0) :
    Calls Tryz.prog 28 #[.pointer (some ⟨b, 0, none⟩), .int .i64 asn, .int .i64 tt, .slice a D.length c] w fun r w' =>
      (r = .returned (.tuple #[.int .i64 (max (last + 1) (asn * 64)), .int .i64 0]) ∧ (q.length : Int) < cf.queue ∧ max (last + 1) (asn * 64) ≤ 70368744177663 ∧ ∃ x h', Nd w' b (inN cf i z l (q ++ [(64, x)]) (max (last + 1) (asn * 64))) h' ∧ Mv (h.ex b) (h'.ex b) w w')
      ∨ (r = .returned (.tuple #[.int .i64 0, .int .i64 5]) ∧ (cf.queue ≤ (q.length : Int) ∨ 70368744177663 < max (last + 1) (asn * 64)) ∧ Below w.heap.size w w') := by
  have hn : 2 < cf.nodes := f.id.2
  refine (send_any n f rfl (show (2 : Int) ≠ 0 by decide) (by show 0 < 1; decide) asn ha tt ⟨ht.1, by show tt < cf.nodes; omega, by show tt ≠ 2; omega⟩ D hD hB a c hc hR hnil).mono ?_
  intro r w' hP
  unfold SendPost at hP
  by_cases hq : ((inN cf i z l q last).q.length : Int) < (inN cf i z l q last).c.queue ∧ numN (inN cf i z l q last) asn ≤ 70368744177663
  · rw [if_pos hq] at hP
    have hq2 : (q.length : Int) < cf.queue ∧ max (last + 1) (asn * 64) ≤ 70368744177663 := hq
    obtain ⟨rfl, h', n', m'⟩ := hP
    rw [in_send hq2.1] at n'
    exact .inl ⟨rfl, hq2.1, hq2.2, _, h', n', m'⟩
  · rw [if_neg hq] at hP
    have hq2 : ¬ ((q.length : Int) < cf.queue ∧ max (last + 1) (asn * 64) ≤ 70368744177663) := hq
    exact .inr ⟨hP.1, by omega, hP.2⟩
end Go.Proofs.YtiflmdekcjbmbaaGreat.Nd
set_option maxRecDepth 100000
namespace Go.Proofs.YtiflmdekcjbmbaaGreat.Nd
set_option linter.unusedVariables false
set_option linter.unusedSimpArgs false
open Go.RowKit Lb Ie Fm

def NS (b : Nat) (W wr : World) (s : Ns) : Prop := ∃ h, Nd wr b s h ∧ (∀ e, h.ex b e → W.heap.size ≤ e) ∧ Below W.heap.size W wr
section
variable {b : Nat} {W w : World} {s : Ns} {cf : Cfg} {i z l last asn : Int} {q : List (Int × List Int)}
theorem NS.bel (n : NS b W w s) : Below W.heap.size W w := by
  obtain ⟨_, _, _, h⟩ := n
  exact h
theorem NS.below {w' : World} (n : NS b W w s) (j : Below w.heap.size w w') : NS b W w' s := by
  obtain ⟨h, h1, h2, h3⟩ := n
  exact ⟨h, h1.below j, h2, h3.trans (j.mono h3.size)⟩
theorem ns_mv {w' : World} {s' : Ns} {h h' : Hm} (n : Nd w' b s' h') (hx : ∀ e, h.ex b e → W.heap.size ≤ e) (hb : Below W.heap.size W w) (m : Mv (h.ex b) (h'.ex b) w w') : NS b W w' s' :=
  ⟨h', n, fun e he => (m.sub e he).elim (hx e) (fun h1 => Nat.le_trans hb.size h1), hb.trans (m.down hx hb.size)⟩
theorem slotI (n : NS b W w (inN cf i z l q last)) (f : Fit (inN cf i z l q last)) (ha : 0 ≤ asn ∧ asn < 1099511627776) (hi : 0 ≤ i ∧ i < 1099511627776) :
    Calls Tryz.prog 17 #[.pointer (some ⟨b, 0, none⟩), .int .i64 asn, .int .i64 0] w fun r w' => r = .returned (.tuple #[]) ∧ NS b W w' (inN cf (i + 1) z l q last) := by
  obtain ⟨h, h1, h2, h3⟩ := n
  exact (slot_in h1 f ha hi).mono (fun _ _ ⟨e, n', m'⟩ => ⟨e, ns_mv n' h2 h3 m'⟩)
theorem slotW (n : NS b W w (waitN cf i 0)) (f : Fit (waitN cf i 0)) (ha : 0 ≤ asn ∧ asn < 1099511627776) (hi : 0 ≤ i ∧ i < 1099511627776) :
    Calls Tryz.prog 17 #[.pointer (some ⟨b, 0, none⟩), .int .i64 asn, .int .i64 0] w fun r w' => r = .returned (.tuple #[]) ∧ NS b W w' (waitN cf (i + 1) 0) := by
  obtain ⟨h, h1, h2, h3⟩ := n
  exact (slot_wait h1 f ha hi).mono (fun _ _ ⟨e, n', m'⟩ => ⟨e, ns_mv n' h2 h3 m'⟩)
theorem bootI (n : NS b W w (inN cf i z l q last)) (f : Fit (inN cf i z l q last)) :
    Calls Tryz.prog 30 #[.pointer (some ⟨b, 0, none⟩)] w fun r w' => r = .returned (.tuple #[]) ∧ NS b W w' (waitN cf 0 0) := by
  obtain ⟨h, h1, h2, h3⟩ := n
  exact (boot_in h1 f).mono (fun _ _ ⟨e, _, n', m'⟩ => ⟨e, ns_mv n' h2 h3 m'⟩)
theorem beaI (n : NS b W w s) (ha : 0 ≤ asn ∧ asn < 1099511627776) :
    Calls Tryz.prog 41 #[.int .i64 1, .int .i64 1, .int .i64 asn] w fun r w' => ∃ a c, r = .returned (.slice a (beaL asn).length c) ∧ IsBea asn w' a c ∧ NS b W w' s :=
  (bea_in asn w ha).mono (fun _ _ ⟨a, c, e, h1, h2⟩ => ⟨a, c, e, h1, n.below h2⟩)
theorem hearI (n : NS b W w (inN cf i z l q last)) (f : Fit (inN cf i z l q last)) (ha : 0 ≤ asn ∧ asn < 1099511627776) {a : Option Addr} {c : Nat} (hb : IsBea asn w a c) :
    Calls Tryz.prog 22 #[.pointer (some ⟨b, 0, none⟩), .int .i64 asn, .slice a (beaL asn).length c, .int .i64 0] w fun r w' => ∃ v, r = .returned v ∧ NS b W w' (inN cf i asn l q last) := by
  obtain ⟨h, h1, h2, h3⟩ := n
  exact (hear_in1 h1 f ha hb).mono (fun _ _ ⟨v, _, e, n', m'⟩ => ⟨v, e, ns_mv n' h2 h3 m'⟩)
theorem hearW (n : NS b W w (waitN cf l 0)) (f : Fit (waitN cf l 0)) (hl : cf.loss < l) (ha : 0 ≤ asn ∧ asn < 1099511627776) {a : Option Addr} {c : Nat} (hb : IsBea asn w a c) :
    Calls Tryz.prog 22 #[.pointer (some ⟨b, 0, none⟩), .int .i64 asn, .slice a (beaL asn).length c, .int .i64 0] w fun r w' => ∃ v, r = .returned v ∧ NS b W w' (inN cf l asn l [] (-1)) := by
  obtain ⟨h, h1, h2, h3⟩ := n
  exact (hear_wait1 h1 f hl ha hb).mono (fun _ _ ⟨v, _, e, n', m'⟩ => ⟨v, e, ns_mv n' h2 h3 m'⟩)
theorem sendI (n : NS b W w (inN cf i z l q last)) (f : Fit (inN cf i z l q last)) (ha : 0 ≤ asn ∧ asn < 1099511627776) {tt : Int} (ht : 0 ≤ tt ∧ tt < 2)
    (D : List Int) (hD : 1 ≤ D.length ∧ D.length ≤ 24) (hB : ∀ x, x ∈ D → 0 ≤ x ∧ x < 256) (a : Option Addr) (c : Nat) (hc : D.length ≤ c ∧ c ≤ maxLen) (hR : Row w a D.length (Rt.bval D)) (hnil : a = none → D.length = 0) :
    Calls Tryz.prog 28 #[.pointer (some ⟨b, 0, none⟩), .int .i64 asn, .int .i64 tt, .slice a D.length c] w fun r w' =>
      (r = .returned (.tuple #[.int .i64 (max (last + 1) (asn * 64)), .int .i64 0]) ∧ (q.length : Int) < cf.queue ∧ max (last + 1) (asn * 64) ≤ 70368744177663 ∧ ∃ x, NS b W w' (inN cf i z l (q ++ [(64, x)]) (max (last + 1) (asn * 64))))
      ∨ (r = .returned (.tuple #[.int .i64 0, .int .i64 5]) ∧ (cf.queue ≤ (q.length : Int) ∨ 70368744177663 < max (last + 1) (asn * 64)) ∧ NS b W w' (inN cf i z l q last)) := by
  have n0 := n
  obtain ⟨h, h1, h2, h3⟩ := n
  refine (send_in h1 f ha ht D hD hB a c hc hR hnil).mono ?_
  rintro r w' (⟨e, g1, g2, x, h', n', m'⟩ | ⟨e, g, j⟩)
  · exact .inl ⟨e, g1, g2, x, ns_mv n' h2 h3 m'⟩
  · exact .inr ⟨e, g, n0.below j⟩
end
/-- What holds of the numbers behind k calls, at slot A, with Z the last number. -/
def NI (cf : Cfg) (b : Nat) (W wr : World) (k A : Nat) (Z : Int) : Prop :=
  ∃ (i z l last : Int) (q : List (Int × List Int)), NS b W wr (inN cf i z l q last) ∧ Fit (inN cf i z l q last) ∧ (0 ≤ i ∧ i ≤ 11 * (k + 1)) ∧ (q.length : Int) ≤ 32 ∧ (-1 ≤ last ∧ last < (A : Int) * 64 + q.length) ∧ (-1 ≤ Z ∧ Z < (A : Int) * 64 + q.length ∧ (Z ≤ last ∨ Z < (A : Int) * 64)) ∧ A ≤ 11 * (k + 1)
theorem fit_wait {cf : Cfg} {i z l last i' : Int} {q : List (Int × List Int)} (f : Fit (inN cf i z l q last)) (hi : 0 ≤ i' ∧ i' ≤ 1099511627776) : Fit (waitN cf i' 0) :=
  ⟨f.c, f.id, hi, (by show -(i' * 1000000) ≤ (0 : Int) ∧ (0 : Int) ≤ i' * 1000000; omega), (by show -1000000000000 ≤ (0 : Int) ∧ (0 : Int) ≤ 1000000000000; decide), ⟨hi.1, by show i' ≤ _; omega⟩, (by have := f.c.queue; show (0 : Int) ≤ cf.queue; have : 1 ≤ cf.queue := this.1; omega), f.lost, f.tries, f.u, f.dn, f.g, f.seq, (by show -1 ≤ (-1 : Int) ∧ (-1 : Int) < 70368744177664; decide), (by show 0 ≤ 3; decide), (by show (0 : Int) ≤ 0 ∧ (0 : Int) ≤ 255; decide), (fun e => absurd (show (2 : Int) = 0 from e) (by decide)), f.ks⟩
end Go.Proofs.YtiflmdekcjbmbaaGreat.Nd
set_option maxRecDepth 100000
namespace Go.Proofs.YtiflmdekcjbmbaaGreat.Nd
set_option linter.unusedVariables false
set_option linter.unusedSimpArgs false
open Go.RowKit Go.ChangeShapes Go.WideShapes Go.ChangeAt Go.Deep Lb Ie Fm

/-- A call, with where its rows lie. -/
structure Ca where
  d : Int
  n : Int
  m : Int
  asn : Int
  f : Fp
  p : Rt.Pk
  qa : Option Addr
  qc : Nat
  qb : Option Addr
  qe : Nat
  ba : Option Addr
  bc : Nat
  B : List Int
def Ca.vals (x : Ca) : List Value := [.int .i64 x.d, .int .i64 x.n, .int .i64 x.m, .int .i64 x.asn] ++ x.f.vals.toList ++ (x.p.vals x.qa x.qc x.qb x.qe).toList ++ [.slice x.ba x.B.length x.bc]
structure Ca.At (w : World) (x : Ca) : Prop where
  f : x.f.At w
  p : x.p.At w x.qa x.qc x.qb x.qe
  b1 : x.B.length ≤ x.bc
  b2 : x.bc ≤ maxLen
  row : Row w x.ba x.B.length (bval x.B)
  ok : okD' x.B
theorem Ca.At.below {w w' : World} {x : Ca} (h : x.At w) (j : Below w.heap.size w w') : x.At w' := ⟨h.f.below j, h.p.below j, h.b1, h.b2, h.row.below j, h.ok⟩
structure Cas (w : World) (a : Option Addr) (n : Nat) (Q : Nat → Ca) : Prop where
  row : Row w a (n * 17) (fun q => ((Q (q / 17)).vals[q % 17]?).getD undef)
  at_ : ∀ i, i < n → (Q i).At w
theorem Cas.below {w w' : World} {a : Option Addr} {n : Nat} {Q : Nat → Ca} (h : Cas w a n Q) (j : Below w.heap.size w w') : Cas w' a n Q := ⟨h.row.below j, fun i hi => (h.at_ i hi).below j⟩
section
variable {H : Type} {enc : TypeId × Value → H} {w : World} {base : Nat}
theorem open_frame6 {x0 x1 x2 x3 x4 x5 : Value} {y : DataW H × List MemPlace} {fuel : Nat} (hf : DataW.trod enc Tryz.prog w 0 (fun _ => true) true fuel 37 [x0, x1, x2, x3, x4, x5] = some y) : ∃ p : Fp, [x0, x1, x2, x3, x4, x5] = p.vals.toList ∧ p.At w := by
  have hI : Tryz.prog.cellsOf 3 = 1 := by kernel_rfl
  have hS : Tryz.prog.cellsOf 34 = 1 := by kernel_rfl
  have hB : Tryz.prog.cellsOf 35 = 1 := by kernel_rfl
  obtain ⟨xs, k, _, _, _, hlen, hfs⟩ := DataW.trod_struct Tryz.underlying37 hf
  match xs, hlen with
  | [y0, y1, y2, y3, y4, y5], _ =>
  obtain ⟨z0, e0, _, w0⟩ := DataW.trod_int Tryz.underlying3 (hfs 0 _ rfl)
  obtain ⟨z1, e1, _, w1⟩ := DataW.trod_int Tryz.underlying3 (hfs 1 _ rfl)
  obtain ⟨z2, e2, _, w2⟩ := DataW.trod_int Tryz.underlying3 (hfs 2 _ rfl)
  obtain ⟨z3, e3, _, w3⟩ := DataW.trod_int Tryz.underlying3 (hfs 3 _ rfl)
  have e4 := hfs 4 _ rfl
  have e5 := hfs 5 _ rfl
  simp [hI, hS, hB] at e0 e1 e2 e3 e4 e5
  subst e0 e1 e2 e3
  obtain ⟨L, a, c, rfl, hels⟩ := open_cell_els e4
  obtain ⟨b, m, e, Y, rfl, k1, k2, k3, k4⟩ := Ie.open_cell Tryz.underlying35 Tryz.underlying5 (by kernel_rfl) e5
  obtain ⟨l5, hl5, hz5⟩ := Ie.list_of m Y
  have r5 := Ie.row_b k3 hl5 hz5
  refine ⟨⟨z0, z1, z2, z3, L, a, c, l5, b, e⟩, ?_, ⟨hels, by rw [hl5]; exact k1, k2, r5, fun x hx => ?_⟩⟩
  · subst hl5
    rfl
  · have hx : x ∈ l5 := hx
    obtain ⟨i, hi, rfl⟩ := List.getElem_of_mem hx
    have h1 := u8_bd (k4 i)
    have h2 := hz5 i (by omega)
    rw [List.getD_eq_getElem?_getD, List.getElem?_eq_getElem hi] at h2
    simp only [Option.getD_some] at h2
    rw [h2]
    exact h1
theorem open_packet6 {x0 x1 x2 x3 x4 x5 : Value} {y : DataW H × List MemPlace} {fuel : Nat} (hf : DataW.trod enc Tryz.prog w 0 (fun _ => true) true fuel 39 [x0, x1, x2, x3, x4, x5] = some y) : ∃ p : Rt.Pk, ∃ a c b e, [x0, x1, x2, x3, x4, x5] = (p.vals a c b e).toList ∧ p.At w a c b e := by
  have hI : Tryz.prog.cellsOf 3 = 1 := by kernel_rfl
  have hS : Tryz.prog.cellsOf 23 = 1 := by kernel_rfl
  have hB : Tryz.prog.cellsOf 35 = 1 := by kernel_rfl
  obtain ⟨xs, k, _, _, _, hlen, hfs⟩ := DataW.trod_struct Tryz.underlying39 hf
  match xs, hlen with
  | [y0, y1, y2, y3, y4, y5], _ =>
  obtain ⟨z0, e0, _, w0⟩ := DataW.trod_int Tryz.underlying3 (hfs 0 _ rfl)
  obtain ⟨z1, e1, _, w1⟩ := DataW.trod_int Tryz.underlying3 (hfs 1 _ rfl)
  obtain ⟨z2, e2, _, w2⟩ := DataW.trod_int Tryz.underlying3 (hfs 2 _ rfl)
  obtain ⟨z3, e3, _, w3⟩ := DataW.trod_int Tryz.underlying3 (hfs 3 _ rfl)
  have e4 := hfs 4 _ rfl
  have e5 := hfs 5 _ rfl
  simp [hI, hS, hB] at e0 e1 e2 e3 e4 e5
  subst e0 e1 e2 e3
  obtain ⟨a, n, c, Z, rfl, g1, g2, g3, g4⟩ := Rt.open_cell Tryz.underlying23 Tryz.underlying3 (by kernel_rfl) e4
  obtain ⟨b, m, e, Y, rfl, k1, k2, k3, k4⟩ := Rt.open_cell Tryz.underlying35 Tryz.underlying5 (by kernel_rfl) e5
  obtain ⟨l4, hl4, hz4⟩ := Rt.list_of n Z
  obtain ⟨l5, hl5, hz5⟩ := Rt.list_of m Y
  have r4 := Rt.row_z g3 hl4 hz4
  have r5 := Rt.row_b k3 hl5 hz5
  refine ⟨⟨z0, z1, z2, z3, l4, l5⟩, a, c, b, e, ?_, ⟨by rw [hl4]; exact g1, g2, r4, Rt.row_none r4, by rw [hl5]; exact k1, k2, r5, Rt.row_none r5⟩⟩
  subst hl4 hl5
  rfl
theorem open_ca {x0 x1 x2 x3 x4 x5 x6 x7 x8 x9 x10 x11 x12 x13 x14 x15 x16 : Value} {y : DataW H × List MemPlace} {fuel : Nat} (hf : DataW.trod enc Tryz.prog w 0 (fun _ => true) true fuel 41 [x0, x1, x2, x3, x4, x5, x6, x7, x8, x9, x10, x11, x12, x13, x14, x15, x16] = some y) :
    ∃ c : Ca, [x0, x1, x2, x3, x4, x5, x6, x7, x8, x9, x10, x11, x12, x13, x14, x15, x16] = c.vals ∧ c.At w := by
  have hI : Tryz.prog.cellsOf 3 = 1 := by kernel_rfl
  have hJ : Tryz.prog.cellsOf 2 = 1 := by kernel_rfl
  have hF : Tryz.prog.cellsOf 37 = 6 := by kernel_rfl
  have hP : Tryz.prog.cellsOf 39 = 6 := by kernel_rfl
  have hB : Tryz.prog.cellsOf 35 = 1 := by kernel_rfl
  obtain ⟨xs, k, _, _, _, hlen, hfs⟩ := DataW.trod_struct Tryz.underlying41 hf
  match xs, hlen with
  | [y0, y1, y2, y3, y4, y5, y6], _ =>
  obtain ⟨z0, e0, _, w0⟩ := DataW.trod_int Tryz.underlying3 (hfs 0 _ rfl)
  obtain ⟨z1, e1, _, w1⟩ := DataW.trod_int Tryz.underlying3 (hfs 1 _ rfl)
  obtain ⟨z2, e2, _, w2⟩ := DataW.trod_int Tryz.underlying3 (hfs 2 _ rfl)
  obtain ⟨z3, e3, _, w3⟩ := DataW.trod_int Tryz.underlying2 (hfs 3 _ rfl)
  have e4 := hfs 4 _ rfl
  have e5 := hfs 5 _ rfl
  have e6 := hfs 6 _ rfl
  simp [hI, hJ, hF, hP, hB] at e0 e1 e2 e3 e4 e5 e6
  subst e0 e1 e2 e3
  obtain ⟨f, h4, hat⟩ := open_frame6 e4
  obtain ⟨p, a, c, b, e, h5, hpt⟩ := open_packet6 e5
  obtain ⟨ba, m, bc, Y, rfl, k1, k2, k3, k4⟩ := Ie.open_cell Tryz.underlying35 Tryz.underlying5 (by kernel_rfl) e6
  obtain ⟨l6, hl6, hz6⟩ := Ie.list_of m Y
  have r6 := Ie.row_b k3 hl6 hz6
  refine ⟨⟨z0, z1, z2, z3, f, p, a, c, b, e, ba, bc, l6⟩, ?_, ⟨hat, hpt, by rw [hl6]; exact k1, k2, r6, fun x hx => ?_⟩⟩
  · unfold Ca.vals
    dsimp only
    rw [← h4, ← h5, hl6]
    rfl
  · have hx : x ∈ l6 := hx
    obtain ⟨i, hi, rfl⟩ := List.getElem_of_mem hx
    have h1 := u8_bd (k4 i)
    have h2 := hz6 i (by omega)
    rw [List.getD_eq_getElem?_getD, List.getElem?_eq_getElem hi] at h2
    simp only [Option.getD_some] at h2
    rw [h2]
    exact h1
theorem open_cas {v : Value} {d : DataW H} {p : List MemPlace} (hv : Value.okWide Tryz.prog w .any base 26 v)
    (h : DataW.Trod enc Tryz.prog w 0 (fun _ => true) true 26 v d p) : ∃ a n c Q, v = .slice a n c ∧ n ≤ c ∧ c ≤ maxLen ∧ Cas w a n Q := by
  obtain ⟨a, n, c, V, rfl, hn, hm, hV, hf⟩ := open_row_deep Tryz.underlying26 (k := 17) (by kernel_rfl) (by decide) hv h
  obtain ⟨Q, hQ⟩ := choose_fn (n := n) (q := fun i (x : Ca) => ((List.range 17).map fun j => V (i * 17 + j)) = x.vals ∧ x.At w) (⟨0, 0, 0, 0, zF, ⟨0, 0, 0, 0, [], []⟩, none, 0, none, 0, none, 0, []⟩ : Ca) (fun i hi => by
    obtain ⟨f, y, hy⟩ := hf i hi
    exact open_ca hy)
  refine ⟨a, n, c, Q, rfl, hn, hm, fun h0 => ?_, fun i hi => (hQ i hi).2⟩
  obtain ⟨b, off, e1, e2, e3⟩ := hV h0
  refine ⟨b, off, e1, e2, fun q hq => ?_⟩
  rw [e3 q hq]
  have hi : q / 17 < n := Nat.div_lt_of_lt_mul (by rw [Nat.mul_comm]; exact hq)
  have hj : q % 17 < 17 := Nat.mod_lt _ (by decide)
  show some (V q) = some (((Q (q / 17)).vals[q % 17]?).getD undef)
  rw [← (hQ _ hi).1, List.getElem?_map, List.getElem?_range hj]
  simp only [Option.map_some, Option.getD_some]
  rw [Nat.div_add_mod']
end
/-- The cells of a call. -/
theorem Cas.cells {w w' : World} {a : Option Addr} {n k : Nat} {Q : Nat → Ca} (h : Cas w a n Q) (b1 : Below w.heap.size w w') (hk : k < n) :
    ∃ b off, a = some ⟨b, off, none⟩ ∧ b < w.heap.size ∧ ∀ j, j < 17 → w'.cell? ⟨b, off + k * 17 + j, none⟩ = some (((Q k).vals[j]?).getD undef) := by
  obtain ⟨b, off, h1, h2, h3⟩ := h.row.at_struct b1 hk (by decide)
  refine ⟨b, off, h1, h2, fun j hj => ?_⟩
  rw [h3 j hj]
  have e1 : (k * 17 + j) / 17 = k := by omega
  have e2 : (k * 17 + j) % 17 = j := by omega
  simp only [e1, e2]
end Go.Proofs.YtiflmdekcjbmbaaGreat.Nd
