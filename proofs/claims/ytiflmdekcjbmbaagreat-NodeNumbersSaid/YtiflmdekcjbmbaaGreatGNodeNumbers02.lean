/-
  A node (chapter 24): a packet waits; what one that is in time sends. A node (chapter 24): what a node that follows one sends. A node (chapter 24): node 2 in time by node 1, as the laws make it. A node (chapter 24): whom it follows once it has heard a rank (follow). A node (chapter 24): what one that is in time hears of a frame that asks for no answer.
-/
import Derived.Test.YtiflmdekcjbmbaaGreatGNodeWaits25
import Derived.Test.YtiflmdekcjbmbaaGreatGNodeNumbers01
import Derived.Test.YtiflmdekcjbmbaaGreatGNodeWaits29
import Derived.Test.YtiflmdekcjbmbaaGreatGNodeNumbers06
import Derived.Deep.RegionHeld3
import Derived.Test.YtiflmdekcjbmbaaGreatGNodeWaits01
set_option maxRecDepth 100000
namespace Go.Proofs.YtiflmdekcjbmbaaGreat.Nd
set_option linter.unusedVariables false
set_option linter.unusedSimpArgs false
open Go.RowKit Lb

/-- A packet waits, if there is room. -/
def putN (s : Ns) (p : Rt.Pk) (tt : Int) : Ns := { s with q := if (s.q.length : Int) < s.c.queue then s.q ++ [(tt, Rt.encB p)] else s.q, lost := Qu.lostTo s.c.queue s.lost s.q.length }
theorem keyB_enc (tt : Int) (u : Value) (E : List Int) : keyB ⟨tt, u, E.length, fun i => E.getD i 0⟩ = (tt, E) := by
  unfold keyB
  congr 1
  apply List.ext_getElem?
  intro i
  by_cases hi : i < E.length
  · rw [List.getElem?_map, List.getElem?_range hi, List.getElem?_eq_getElem hi]
    show some (E.getD i 0) = _
    rw [List.getD_eq_getElem?_getD, List.getElem?_eq_getElem hi]
    rfl
  · rw [List.getElem?_eq_none (by simp; omega), List.getElem?_eq_none (by omega)]
theorem put_key {most lost : Int} {l l2 : List Qu.It} {tt : Int} {E : List Int} {q : List (Int × List Int)} (hk : l.map keyB = q) (h : Qu.Put2 most lost l.length l tt E.length (fun i => E.getD i 0) l2) : l2.map keyB = if (q.length : Int) < most then q ++ [(tt, E)] else q := by
  have hl : l.length = q.length := by rw [← hk, List.length_map]
  unfold Qu.Put2 at h
  rw [hl] at h
  split at h
  · rename_i h1
    obtain ⟨u, rfl⟩ := h
    rw [if_pos h1, List.map_append, hk]
    congr 1
    show [keyB _] = _
    rw [keyB_enc]
  · rename_i h1
    rw [if_neg h1, h, hk]
theorem mv_queue {w w' : World} {b : Nat} {h : Hm} {v' : Value} (tu : Lb.Turn w w' h.qb h.qv v') : Mv (h.ex b) (Hm.ex { h with qv := v' } b) w w' := by
  refine ⟨tu.os, tu.tape, tu.output, tu.size, fun q h1 h2 => tu.keep q h1 (fun e => h2 (.inr (.inr (.inl e)))) (fun e => h2 (.inr (.inr (.inr (.inl e))))), fun q hq => ?_⟩
  rcases hq with e | e | e | e | e | e | e | e | e | e
  · exact .inl (.inl e)
  · exact .inl (.inr (.inl e))
  · exact .inl (.inr (.inr (.inl e)))
  · rcases tu.own q e with e | e
    · exact .inl (.inr (.inr (.inr (.inl e))))
    · exact .inr e
  · exact .inl (.inr (.inr (.inr (.inr (.inl e)))))
  · exact .inl (.inr (.inr (.inr (.inr (.inr (.inl e))))))
  · exact .inl (.inr (.inr (.inr (.inr (.inr (.inr (.inl e)))))))
  · exact .inl (.inr (.inr (.inr (.inr (.inr (.inr (.inr (.inl e))))))))
  · exact .inl (.inr (.inr (.inr (.inr (.inr (.inr (.inr (.inr (.inl e)))))))))
  · exact .inl (.inr (.inr (.inr (.inr (.inr (.inr (.inr (.inr (.inr e)))))))))
set_option maxHeartbeats 4000000 in
theorem put_yes {w : World} {b : Nat} {s : Ns} {h : Hm} (n : Nd w b s h) (f : Fit s) (p : Rt.Pk) (pa : Option Addr) (pc : Nat) (pb : Option Addr) (pd : Nat) (hp : p.At w pa pc pb pd) (hB : ∀ x, x ∈ p.data → 0 ≤ x ∧ x < 256) (hm : Rt.mayK p = true) (tt : Int) :
    Calls Tryz.prog 104 #[.pointer (some ⟨b, 0, none⟩), .agg (p.vals pa pc pb pd), .int .i64 tt] w fun r w' => r = .returned (.bool (decide ((s.q.length : Int) < s.c.queue))) ∧ ∃ h', Nd w' b (putN s p tt) h' ∧ Mv (h.ex b) (h'.ex b) w w' := by
  have b0 := (Below.refl w.heap.size w).alloc (Nat.le_refl _) (.cells (p.vals pa pc pb pd) 39)
  have o0 := Own.new w 39 (p.vals pa pc pb pd)
  have PE := Rt.encode_any p pa pc pb pd _ (hp.below b0) hB
  have hlen := Rt.encB_len p
  obtain ⟨_, _, _, _, _, hok, hdl⟩ := Rt.mayK_all hm
  have hpl := (Rt.okP_out hok).1
  obtain ⟨V, hV⟩ : ∃ V, p.vals pa pc pb pd = V := ⟨_, rfl⟩
  have hsz : (Tryz.prog.info? 39).map (·.size) = some V.size := by rw [← hV]; kernel_rfl
  rw [hV] at b0 o0 PE ⊢
  have HM := Lib.hid hm
  have HN := Lib.hid n
  have HF := Lib.hid f
  clear hV hp hB hm n f
  go_enter Tryz.func104, Tryz.ntmps104
  go_upto_region 1 with (fail)
  obtain ⟨xb, hxb⟩ : ∃ q, w.heap.size = q := ⟨_, rfl⟩
  have HB0 := Lib.hid b0
  rw [hxb] at o0 ⊢
  clear hxb b0
  generalize w.alloc (.cells V 39) = w0 at *
  go_wp2_with (refine wpList_load_row rfl _ _ rfl xb rfl 39 V (0, 0) _ o0 Tryz.underlying39 rfl hsz ?_)
  refine PE.mono ?_
  intro r w1 hP
  unfold Rt.EncPost at hP
  rw [if_pos HM.out] at hP
  obtain ⟨ea, ec, rfl, k1, k2, k3, b1⟩ := hP
  have bb1 := HB0.out.trans (b1.mono HB0.out.size)
  have n1 := HN.out.below bb1
  have c11 := n1.c_qb
  obtain ⟨l, hq, hk⟩ := n1.que
  have hll : l.length = s.q.length := by rw [← hk, List.length_map]
  have hq32 := HF.out.q
  have hcq := HF.out.c.queue
  have hlo := HF.out.lost
  have PQ := Qu.put_all 0 h.qb s.c.queue s.lost l h.qv tt ea (Rt.encB p).length ec (fun i => (Rt.encB p).getD i 0) w1 hq (by omega) k1 (by omega) k3 (Ie.row_none k3) hlo.1 hlo.2
  rw [hll] at PQ
  have HQ := Lib.hid (And.intro hq (And.intro hk (And.intro n1 (And.intro bb1 hll))))
  obtain ⟨nl, hnl⟩ : ∃ q, (Rt.encB p).length = q := ⟨_, rfl⟩
  have HNL := Lib.hid hnl
  rw [hnl] at PQ k1 ⊢
  clear PE hlen hpl hdl hok hq hk n1 bb1 hll hq32 hcq hlo k1 k2 k3 b1 hnl o0 hsz
  go_wp2_with fail
  refine PQ.mono ?_
  rintro r w2 ⟨rfl, l2, v2, hq2, tu, hp2⟩
  have HR := Lib.hid (And.intro hq2 (And.intro tu hp2))
  clear PQ hq2 tu hp2 c11
  obtain ⟨qb, hqb⟩ : ∃ q, decide ((s.q.length : Int) < s.c.queue) = q := ⟨_, rfl⟩
  rw [hqb]
  have HQB := Lib.hid hqb
  clear hqb
  go_wp2_with fail
  go_ret
  obtain ⟨hq, hk, n1, bb1, hll⟩ := HQ.out
  obtain ⟨hq2, tu, hp2⟩ := HR.out
  rw [← HNL.out, ← hll] at hp2
  have hkey := put_key hk hp2
  refine ⟨by rw [HQB.out]; rfl, _, n1.queue hq hq2 tu hkey, (Mv.of_below bb1).trans (mv_queue tu)⟩
end Go.Proofs.YtiflmdekcjbmbaaGreat.Nd
set_option maxRecDepth 100000
namespace Go.Proofs.YtiflmdekcjbmbaaGreat.Nd
set_option linter.unusedVariables false
set_option linter.unusedSimpArgs false
open Go.RowKit Lb

/-- The number that its next packet gets; the packet; the node that sent it. -/
def numN (s : Ns) (asn : Int) : Int := max (s.last + 1) (asn * 64)
def pkN (s : Ns) (asn tt : Int) (D : List Int) : Rt.Pk := ⟨s.id, tt, numN s asn, s.c.life, [s.id], D⟩
def sentTo (s : Ns) (asn tt : Int) (D : List Int) : Ns := { putN s (pkN s asn tt D) 64 with last := numN s asn }
section
variable {w : World} {b : Nat} {s : Ns} {h : Hm}
theorem Nd.lst (n : Nd w b s h) (z : Int) : Nd (w.setCell ⟨b, 17, none⟩ (.int .i64 z)) b { s with last := z } h := by
  have j := Just.set b w 17 (.int .i64 z)
  have t := Tn.of_just j n.own
  refine n.put j ((n.own.put 17 _).ext (nd_ext (fun i hi => by rcases idx23 i hi with rfl | rfl | rfl | rfl | rfl | rfl | rfl | rfl | rfl | rfl | rfl | rfl | rfl | rfl | rfl | rfl | rfl | rfl | rfl | rfl | rfl | rfl | rfl <;> rfl) (fun j _ => by rw [if_neg (by omega)]) (fun i hi => by rcases idx4 i hi with rfl | rfl | rfl | rfl <;> rfl))) ⟨rfl, rfl, rfl⟩ ⟨rfl, rfl, rfl, rfl⟩ ⟨rfl, rfl, rfl, rfl⟩ ⟨rfl, rfl, rfl⟩ ⟨rfl, rfl, rfl⟩ ⟨rfl, rfl, rfl⟩ (fun e => t.st (n.set e) (by decide) (by decide)) (fun e => t.own (n.kee e) (by decide)) (fun k hk => t.mine (n.path k hk) (by decide))
end
def SendPost (s : Ns) (asn tt : Int) (D : List Int) (b : Nat) (h : Hm) (w : World) (r : Ending) (w' : World) : Prop :=
  if (s.q.length : Int) < s.c.queue ∧ numN s asn ≤ 70368744177663 then r = .returned (.tuple #[.int .i64 (numN s asn), .int .i64 0]) ∧ ∃ h', Nd w' b (sentTo s asn tt D) h' ∧ Mv (h.ex b) (h'.ex b) w w'
  else r = .returned (.tuple #[.int .i64 0, .int .i64 5]) ∧ Below w.heap.size w w'
theorem pk_may {s : Ns} {asn tt : Int} {D : List Int} (f : Fit s) (ha : 0 ≤ asn) (ht : 0 ≤ tt ∧ tt < s.c.nodes ∧ tt ≠ s.id) (hD : 1 ≤ D.length ∧ D.length ≤ 24) (hn : numN s asn ≤ 70368744177663) : Rt.mayK (pkN s asn tt D) = true := by
  have h1 := f.c.nodes
  have h2 := f.c.life
  have h3 := f.id
  have n0 : 0 ≤ numN s asn := by unfold numN; omega
  have q1 : Rt.ndB s.id = true := by simp [Rt.ndB]; omega
  have q2 : Rt.ndB tt = true := by simp [Rt.ndB]; omega
  have q3 : (s.id != tt) = true := by simp; omega
  have q4 : Rt.okP [s.id] = true := Rt.okP_yes (by simp) (Rt.pfx_succ (l := [s.id]) (k := 0) (Rt.pfx_zero _) q1 (fun i hi => by omega))
  unfold Rt.mayK pkN
  dsimp only
  rw [q1, q2, q3, q4, decide_eq_true n0, decide_eq_true hn, decide_eq_true (show 0 ≤ s.c.life by omega), decide_eq_true (show s.c.life ≤ 15 by omega), decide_eq_true hD.1, decide_eq_true hD.2]
  rfl
set_option maxHeartbeats 4000000 in
theorem send_any {w : World} {b : Nat} {s : Ns} {h : Hm} (n : Nd w b s h) (f : Fit s) (hin : s.inT = true) (h0 : s.id ≠ 0) (hset : 0 < s.set.length) (asn : Int) (ha : 0 ≤ asn ∧ asn < 1099511627776) (tt : Int) (ht : 0 ≤ tt ∧ tt < s.c.nodes ∧ tt ≠ s.id)
    (D : List Int) (hD : 1 ≤ D.length ∧ D.length ≤ 24) (hB : ∀ x, x ∈ D → 0 ≤ x ∧ x < 256) (a : Option Addr) (c : Nat) (hc : D.length ≤ c ∧ c ≤ maxLen) (hR : Row w a D.length (Rt.bval D)) (hnil : a = none → D.length = 0) :
    Calls Tryz.prog 28 #[.pointer (some ⟨b, 0, none⟩), .int .i64 asn, .int .i64 tt, .slice a D.length c] w (SendPost s asn tt D b h w) := by
  have hn := f.c.nodes
  have hl := f.last
  have PL := lives_any n
  have PA := isASN_any asn w
  have PK := knows_any n tt (by omega)
  have PI := isIn_any (D.length : Int) 1 24 w
  have ea : asnB asn = true := decide_eq_true ha
  have ek : inB tt 0 (s.c.nodes - 1) = true := by unfold inB; rw [decide_eq_true_eq]; omega
  have ei : inB (D.length : Int) 1 24 = true := by unfold inB; rw [decide_eq_true_eq]; omega
  rw [ea] at PA
  rw [ek] at PK
  rw [ei] at PI
  clear ea ek ei
  have c0 := n.c_id
  have c40 : w.cell? ⟨b, 40, none⟩ = some (.pointer (some ⟨h.sb, 0, none⟩)) := by rw [n.c_sb, hin]; rfl
  have c39 : w.cell? ⟨b, 39, none⟩ = some (.bool true) := by rw [n.c_inT, hin]
  have PF := Pa.fst_any 0 h.sb s.id s.rk s.set h.sv w (n.set hin)
  rw [decide_eq_true hset] at PF
  obtain ⟨fs, hfs⟩ : ∃ q, Pa.fstN s.set = q := ⟨_, rfl⟩
  rw [hfs] at PF
  clear hfs
  have hM : ∀ hn : numN s asn ≤ 70368744177663, Rt.mayK (pkN s asn tt D) = true := fun hn => pk_may f ha.1 ht hD hn
  have HN := Lib.hid n
  have HF := Lib.hid f
  have HM := Lib.hid hM
  have HD := Lib.hid (And.intro hB (And.intro hc (And.intro hR hnil)))
  have HL := Lib.hid hl
  have e1 : IntKind.i64.wrap (s.last + 1) = s.last + 1 := IntWalk.i64_in _ (by omega)
  have e2 : IntKind.i64.wrap (asn * 64) = asn * 64 := IntWalk.i64_in _ (by omega)
  obtain ⟨id, hid⟩ : ∃ q, s.id = q := ⟨_, rfl⟩
  obtain ⟨la, hla⟩ : ∃ q, s.last = q := ⟨_, rfl⟩
  rw [hid] at c0 h0
  rw [hla] at e1
  have gt : (tt == id) = false := by rw [← hid]; simpa using ht.2.2
  have g1 : (id != 0) = true := by simpa using h0
  have g2 : (id == 0) = false := by simpa using h0
  obtain ⟨dl, hdl⟩ : ∃ q, D.length = q := ⟨_, rfl⟩
  rw [hdl] at PI ⊢
  have HI := Lib.hid (And.intro hid (And.intro hla hdl))
  clear n f hin h0 hset ha ht hD hB hc hR hnil hM hid hla hdl hn hl
  have b00 := Below.refl w.heap.size w
  go_enter Tryz.func28, Tryz.ntmps28
  go_wp2_with fail
  refine PL.mono ?_
  rintro r w' ⟨rfl, rfl⟩
  go_wp2_with fail
  refine PA.mono ?_
  rintro r w' ⟨rfl, rfl⟩
  go_wp2_with fail
  refine PK.mono ?_
  rintro r w' ⟨rfl, rfl⟩
  go_wp2_with fail
  refine PI.mono ?_
  rintro r w' ⟨rfl, rfl⟩
  go_wp2_with fail
  refine PF.mono ?_
  rintro r w' ⟨rfl, rfl⟩
  clear PL PA PK PI PF
  go_upto_region 6 with (fail)
  have b1 := b00.alloc (Nat.le_refl _) (.cells #[.int .i64 id] 3)
  have n1 := HN.out.below b1
  have ox := Own.new w 3 #[.int .i64 id]
  obtain ⟨xb, hxb⟩ : ∃ q, w.heap.size = q := ⟨_, rfl⟩
  have HXB := Lib.hid hxb
  have d0 : (w.alloc (.cells #[.int .i64 id] 3)).cell? ⟨b, 0, none⟩ = some (.int .i64 id) := by rw [n1.c_id, HI.out.1]
  have d17 : (w.alloc (.cells #[.int .i64 id] 3)).cell? ⟨b, 17, none⟩ = some (.int .i64 la) := by rw [n1.c_last, HI.out.2.1]
  go_upto_region 7 with (fail)
  rw [hxb] at ox
  generalize w.alloc (.cells #[.int .i64 id] 3) = w1 at *
  clear c0 c40 c39 hxb
  go_upto_region 13 with (fail)
  obtain ⟨nu, hnu⟩ : ∃ q, max (la + 1) (asn * 64) = q := ⟨_, rfl⟩
  rw [hnu]
  have HNU : Hid (numN s asn = nu) := Lib.hid (by unfold numN; rw [HI.out.2.1]; exact hnu)
  clear hnu d17 e1 e2
  obtain ⟨l, hq, hk⟩ := n1.que
  have hll : l.length = s.q.length := by rw [← hk, List.length_map]
  have tq : ∀ m, Qu.Que (w1.drewN m) 0 h.qb s.c.queue s.lost l h.qv := fun m => (Tn.of_below (below_drewN (Below.refl _ _) m)).que hq (by simp) (by simp) (by simp)
  have QL := fun m => Qu.len_any 0 h.qb s.c.queue s.lost l h.qv (w1.drewN m) (tq m)
  have c11 := n1.c_qb
  have c8 := n1.c_queue
  have c9 := n1.c_life
  obtain ⟨ql, hql⟩ : ∃ q, s.q.length = q := ⟨_, rfl⟩
  obtain ⟨cq, hcq⟩ : ∃ q, s.c.queue = q := ⟨_, rfl⟩
  obtain ⟨li, hli⟩ : ∃ q, s.c.life = q := ⟨_, rfl⟩
  simp only [hll, hql] at QL
  have QH := Lib.hid QL
  clear QL tq
  rw [hcq] at c8
  rw [hli] at c9
  have HQ := Lib.hid (And.intro hql (And.intro hcq hli))
  have HN1 := Lib.hid n1
  have HB1 := Lib.hid b1
  clear n1 b1 hq hk hll hql hcq hli
  by_cases hq : (ql : Int) < cq
  rotate_left 1
  · have HE : Hid (¬ ((s.q.length : Int) < s.c.queue ∧ numN s asn ≤ 70368744177663)) := Lib.hid (fun e => hq (by rw [← HQ.out.1, ← HQ.out.2.1]; exact e.1))
    have g3 : decide (cq ≤ (ql : Int)) = true := decide_eq_true (by omega)
    clear hq
    go_quiet (first | (go_at_call 103; exact quiet_left (QH.out _)))
    have b3 := below_drewN HB1.out nq
    generalize w1.drewN nq = w3 at *
    go_wp2_with fail
    go_ret2
    unfold SendPost
    rw [if_neg HE.out]
    exact ⟨rfl, b3⟩
  have g3 : decide (cq ≤ (ql : Int)) = false := decide_eq_false (by omega)
  have HLT := Lib.hid hq
  clear hq
  by_cases hq : nu ≤ 70368744177663
  rotate_left 1
  · have HE : Hid (¬ ((s.q.length : Int) < s.c.queue ∧ numN s asn ≤ 70368744177663)) := Lib.hid (fun e => hq (by rw [← HNU.out]; exact e.2))
    have g4 : decide (70368744177663 < nu) = true := decide_eq_true (by omega)
    clear hq
    go_quiet (first | (go_at_call 103; exact quiet_left (QH.out _)))
    have b3 := below_drewN HB1.out nq
    generalize w1.drewN nq = w3 at *
    go_wp2_with fail
    go_ret2
    unfold SendPost
    rw [if_neg HE.out]
    exact ⟨rfl, b3⟩
  have g4 : decide (70368744177663 < nu) = false := decide_eq_false (by omega)
  have HNL := Lib.hid hq
  clear hq
  go_quiet (first | (go_at_call 103; exact quiet_left (QH.out _)))
  have n3 := HN1.out.below (below_drewN (Below.refl _ _) nq)
  have o3 := ox.drewN nq
  have b3 := below_drewN HB1.out nq
  have d9 : (w1.drewN nq).cell? ⟨b, 9, none⟩ = some (.int .i64 li) := c9
  have e0 : (w1.drewN nq).cell? ⟨b, 0, none⟩ = some (.int .i64 id) := d0
  generalize w1.drewN nq = w3 at *
  have HAT : Hid ((pkN s asn tt D).At w3 (some ⟨xb, 0, none⟩) 1 a c) := Lib.hid (by
    obtain ⟨_, h2, h3, h4⟩ := HD.out
    refine ⟨by simp [pkN], by unfold maxLen; simp, ?_, (fun e => by cases e), h2.1, h2.2, h3.below ?_, h4⟩
    · refine Row.own o3 (fun i hi => ?_)
      have hi0 : i = 0 := by have : i < 1 := hi; omega
      subst hi0
      rw [← HI.out.1]
      rfl
    · exact b3)
  have HMM := HM.out (by rw [HNU.out]; exact HNL.out)
  have PP := put_yes (n3.below (below_drewN (Below.refl _ _) 1)) HF.out (pkN s asn tt D) (some ⟨xb, 0, none⟩) 1 a c (HAT.out.below (below_drewN (Below.refl _ _) 1)) HD.out.1 HMM 64
  have hV : (pkN s asn tt D).vals (some ⟨xb, 0, none⟩) 1 a c = #[.int .i64 id, .int .i64 tt, .int .i64 nu, .int .i64 li, .slice (some ⟨xb, 0, none⟩) 1 1, .slice a dl c] := by
    unfold Rt.Pk.vals
    rw [← HI.out.1, ← HNU.out, ← HQ.out.2.2, ← HI.out.2.2]
    rfl
  rw [hV, decide_eq_true (show (s.q.length : Int) < s.c.queue by rw [HQ.out.1, HQ.out.2.1]; exact HLT.out)] at PP
  have HP := Lib.hid PP
  have HB3 := Lib.hid (below_drewN b3 1)
  clear PP hV n3 o3 b3 HMM g3 g4 c11 c8 c9 d0 ox
  go_upto_region 15 with (fail)
  refine wp_region_still_tail 16 (by kernel_rfl) (by kernel_rfl) ?_
  simp only [List.take_succ_cons, List.take_zero, List.drop_succ_cons, List.drop_zero]
  repeat still_step
  refine wpStill_nil ?_
  change wpList _ _ _ _ _ w3.drew
  go_wp2_with fail
  refine HP.out.mono ?_
  rintro r w4 ⟨rfl, h4, n4, m4⟩
  have f17 : w4.frozen? ⟨b, 17, none⟩ = false := n4.own.free 17
  have d17 := n4.c_last
  have HN4 := Lib.hid (And.intro n4 m4)
  clear n4 m4 d9 e0
  obtain ⟨lx, hlx⟩ : ∃ q, (putN s (pkN s asn tt D) 64).last = q := ⟨_, rfl⟩
  rw [hlx] at d17
  clear hlx
  go_wp2_with fail
  go_ret2
  obtain ⟨n4, m4⟩ := HN4.out
  unfold SendPost
  rw [if_pos ⟨by rw [HQ.out.1, HQ.out.2.1]; exact HLT.out, by rw [HNU.out]; exact HNL.out⟩, HNU.out]
  refine ⟨rfl, h4, ?_, (Mv.of_below HB3.out).trans (m4.trans (Mv.of_just (Just.set b w4 17 _) (.inl rfl)))⟩
  unfold sentTo
  rw [HNU.out]
  exact n4.lst nu
end Go.Proofs.YtiflmdekcjbmbaaGreat.Nd
set_option maxRecDepth 100000
namespace Go.Proofs.YtiflmdekcjbmbaaGreat.Nd
set_option linter.unusedVariables false
set_option linter.unusedSimpArgs false
open Go.RowKit Lb Ie Fm

/-- Node 2, in time by a beacon of node 1. -/
def joinedN (c : Cfg) : Ns := begunN (waitN c (c.loss + 1) 0) 1 1 c.loss 0
theorem wait_slot0 {c : Cfg} {i asn : Int} (ha : 0 ≤ asn ∧ asn < 1099511627776) (hi : 0 ≤ i ∧ i < 1099511627776) : slotN (waitN c i 0) asn 0 = waitN c (i + 1) 0 := by
  rw [wait_slot ha hi]
  rfl
set_option maxHeartbeats 4000000 in
theorem joined_any (x : Cx) (w : World) (hx : x.At w) (hnew : newB x 2 = true) :
    Calls Tryz.prog 43 #[.agg #[.int .i64 x.nodes, .slice x.na x.nn x.nc, .slice x.ha x.hops.length x.hc, .int .i64 x.guard, .int .i64 x.err, .int .i64 x.keep, .int .i64 x.loss, .int .i64 x.queue, .int .i64 x.life]] w fun r w' => ∃ b h, r = .returned (.pointer (some ⟨b, 0, none⟩)) ∧ Nd w' b (joinedN x.cfg) h ∧ (∀ q, h.ex b q → w.heap.size ≤ q) ∧ Below w.heap.size w w' := by
  have hF : ∀ i : Int, 0 ≤ i ∧ i ≤ 1099511627776 → Fit (waitN x.cfg i 0) := fun i h1 => wait_fit hnew h1 (by omega)
  have hok := (hF 0 (by omega)).c
  have hl : 1 ≤ x.loss ∧ x.loss ≤ 10000 := hok.loss
  have hid : 2 < x.nodes := (hF 0 (by omega)).id.2
  have b2 := (Below.refl w.heap.size w).alloc (Nat.le_refl _) (.cells #[.int .i64 x.nodes, .slice x.na x.nn x.nc, .slice x.ha x.hops.length x.hc, .int .i64 x.guard, .int .i64 x.err, .int .i64 x.keep, .int .i64 x.loss, .int .i64 x.queue, .int .i64 x.life] 25)
  have o2 := Own.new w 25 #[.int .i64 x.nodes, .slice x.na x.nn x.nc, .slice x.ha x.hops.length x.hc, .int .i64 x.guard, .int .i64 x.err, .int .i64 x.keep, .int .i64 x.loss, .int .i64 x.queue, .int .i64 x.life]
  have hx2 := hx.below b2
  have HNEW := Lib.hid hnew
  have HFF := Lib.hid hF
  have HID := Lib.hid hid
  clear hx hnew hF hid hok
  go_enter Tryz.func43, Tryz.ntmps43
  go_upto_region 1 with (fail)
  obtain ⟨xb, hxb⟩ : ∃ q, w.heap.size = q := ⟨_, rfl⟩
  have HXB := Lib.hid hxb
  rw [hxb] at o2 b2 ⊢
  generalize w.alloc (.cells #[.int .i64 x.nodes, .slice x.na x.nn x.nc, .slice x.ha x.hops.length x.hc, .int .i64 x.guard, .int .i64 x.err, .int .i64 x.keep, .int .i64 x.loss, .int .i64 x.queue, .int .i64 x.life] 25) = w2 at *
  have PN := newn_any x 2 w2 hx2
  go_wp2_with (refine wpList_load_row rfl _ _ rfl xb rfl 25 #[.int .i64 x.nodes, .slice x.na x.nn x.nc, .slice x.ha x.hops.length x.hc, .int .i64 x.guard, .int .i64 x.err, .int .i64 x.keep, .int .i64 x.loss, .int .i64 x.queue, .int .i64 x.life] (0, 0) _ o2 Tryz.underlying25 rfl (by kernel_rfl) ?_)
  refine PN.mono ?_
  intro r w3 hN
  unfold NewPost at hN
  rw [if_pos HNEW.out] at hN
  obtain ⟨b, h, rfl, n3, hex, b3⟩ := hN
  have n3 : Nd w3 b (waitN x.cfg (0 : Nat) 0) h := n3
  have o3 := below_own b3 o2 o2.lt
  have hxs := o2.lt
  have hs2 := b2.size
  obtain ⟨cf, hcf⟩ : ∃ q, x.cfg = q := ⟨_, rfl⟩
  rw [hcf] at n3
  have HCF := Lib.hid hcf
  have HFIT : Hid (∀ i : Int, 0 ≤ i ∧ i ≤ 1099511627776 → Fit (waitN cf i 0)) := Lib.hid (fun i h1 => by rw [← hcf]; exact HFF.out i h1)
  have HC5 : Hid (2 < cf.nodes ∧ cf.nodes ≤ 16) := Lib.hid ⟨by rw [← hcf]; exact HID.out, (HFIT.out 0 (by omega)).c.nodes.2⟩
  have hxl : x.loss = cf.loss := by rw [← hcf]; rfl
  obtain ⟨ln, hln⟩ := Int.eq_ofNat_of_zero_le (show 0 ≤ x.loss by omega)
  have HLN : Hid (cf.loss = (ln : Int)) := Lib.hid (by rw [← hxl, hln])
  have hlb : 1 ≤ ln ∧ ln ≤ 10000 := by omega
  have c6 : w3.cell? ⟨xb, 6, none⟩ = some (.int .i64 (ln : Int)) := by rw [← hln]; exact o3.cell 6
  have e6 : IntKind.i64.wrap ((ln : Int) + 1) = (ln : Int) + 1 := IntWalk.i64_in _ (by omega)
  have HO : Hid (∀ wz, Below w2.heap.size w2 wz → wz.cell? ⟨xb, 6, none⟩ = some (.int .i64 (ln : Int))) := Lib.hid (fun wz bz => by rw [← hln]; exact (below_own bz o2 o2.lt).cell 6)
  have HEX := Lib.hid hex
  have HB2 := Lib.hid (And.intro b2 (And.intro hxs hs2))
  clear PN hx2 hl hcf hxl hln hex o2 o3 HNEW HFF HID b2 hxs hs2
  go_wp2_with fail
  clear c6
  go_loopw [10] (fun i wr => ∃ (k : Nat), i = .int .i64 k ∧ k ≤ ln + 1 ∧ Hid (Nd wr b (waitN cf k 0) h) ∧ Below w2.heap.size w2 wr) (fun i _ => ln + 1 - (intOf i).toNat)
  case atStart => exact ⟨0, rfl, by omega, Lib.hid n3, b3⟩
  case round =>
    clear n3 b3
    obtain ⟨k, rfl, hk, HN, b4⟩ := hrel
    by_cases hlt : k < ln + 1
    · have hltI : (k : Int) < (ln : Int) + 1 := by omega
      have PS := slot_any HN.out (HFIT.out k (by omega)) k 0
      rw [wait_slot0 (c := cf) (i := (k : Int)) (asn := (k : Int)) (by omega) (by omega)] at PS
      go_wp2_with fail
      refine PS.mono ?_
      rintro r w5 ⟨rfl, n5, m5⟩
      have b5 := b4.trans (m5.down (fun q e => HEX.out q e) b4.size)
      have HN5 : Hid (Nd w5 b (waitN cf ((k + 1 : Nat) : Int) 0) h) := Lib.hid n5
      clear PS n5 m5 b4 HN
      go_wp2_with fail
      exact ⟨⟨k + 1, by simp, by omega, HN5, b5⟩, by simp [intOf]; omega⟩
    obtain rfl : k = ln + 1 := by omega
    clear hlt hk
    have c6 := HO.out wr b4
    have hJ : begunN (waitN cf ((ln + 1 : Nat) : Int) 0) 1 1 (ln : Int) (limM 0) = joinedN cf := by
      unfold joinedN
      rw [HLN.out]
      rfl
    have hbr := bea_read (HFIT.out ((ln + 1 : Nat) : Int) (by omega)) (src := 1) (rank := 1) (asn := (ln : Int)) ⟨by omega, by have := HC5.out.1; show (1 : Int) < cf.nodes; omega⟩ (show (1 : Int) ≠ 2 by decide) (by omega) (by omega)
    have hbl := bea_len (src := 1) (rank := 1) (asn := (ln : Int)) (by omega) (by omega) (by omega)
    have hbo := encF_ok (bea_may (src := 1) (rank := 1) (asn := (ln : Int)) (by omega) (by omega) (by omega)) okD_nil
    have PB : ∀ wz, Calls _ _ _ wz _ := fun wz => beacon_any 1 1 (ln : Int) wz (by omega) (by omega) (by omega)
    obtain ⟨L, hL⟩ : ∃ q, encF (beaF 1 1 (ln : Int)) = q := ⟨_, rfl⟩
    simp only [hL] at PB hbr hbl hbo
    have PH : ∀ (wz : World) (a : Option Addr) (c : Nat), Nd wz b (waitN cf ((ln + 1 : Nat) : Int) 0) h → L.length ≤ c → c ≤ maxLen → Row wz a L.length (bval L) → Calls Tryz.prog 22 #[.pointer (some ⟨b, 0, none⟩), .int .i64 (ln : Int), .slice a L.length c, .int .i64 0] wz fun r w' => ∃ v h', r = .returned v ∧ Nd w' b (joinedN cf) h' ∧ Mv (h.ex b) (h'.ex b) wz w' := fun wz a c nz h1 h2 h3 =>
      (NodeWaits.hear_first1 nz (HFIT.out ((ln + 1 : Nat) : Int) (by omega)) 1 1 (ln : Int) a c L 0 h1 h2 hbl h3 hbo hbr (by rw [HLN.out]; omega) (by decide)).mono (fun r w' ⟨_, _, h', e, _, n', m'⟩ => ⟨_, h', e, hJ ▸ n', m'⟩)
    obtain ⟨nl, hnl⟩ : ∃ q, L.length = q := ⟨_, rfl⟩
    simp only [hnl] at PB PH
    have nA : Nd wr.drew b (waitN cf ((ln + 1 : Nat) : Int) 0) h := HN.out.below (below_drewN (Below.refl _ _) 1)
    have bA : Below w2.heap.size w2 wr.drew := below_drewN b4 1
    have xx : wr.drew.cell? ⟨xb, 6, none⟩ = some (.int .i64 (ln : Int)) := c6
    have HA := Lib.hid (And.intro nA bA)
    have HPB := Lib.hid PB
    have HPH := Lib.hid PH
    clear nA bA PB PH hJ hbr hbl hbo hL hnl HN b4
    go_upto_region 7 with (fail)
    go_region_held3 (fun w' => w'.cell? ⟨xb, 6, none⟩ = some (.int .i64 (ln : Int))) (with_reducible first | exact xx | exact yy | exact zz) (first
      | (go_at_call 41; refine (HPB.out _).mono ?_; rintro r w6 ⟨a6, c6', rfl, k1, k2, k3, b6⟩; have HK := Lib.hid (And.intro (HA.out.1.below b6) (And.intro k1 (And.intro k2 (And.intro k3 (HA.out.2.trans (b6.mono HA.out.2.size)))))); have yy : w6.cell? ⟨xb, 6, none⟩ = some (.int .i64 (ln : Int)) := HO.out _ HK.out.2.2.2.2)
      | (go_at_call 22; refine (HPH.out _ _ _ HK.out.1 HK.out.2.1 HK.out.2.2.1 HK.out.2.2.2.1).mono ?_; rintro r w9 ⟨v9, h', rfl, n9, m9⟩; have HZ := Lib.hid (And.intro n9 (And.intro m9 (HK.out.2.2.2.2.trans (m9.down (fun q e => HEX.out q e) HK.out.2.2.2.2.size)))); have zz : w9.cell? ⟨xb, 6, none⟩ = some (.int .i64 (ln : Int)) := HO.out _ HZ.out.2.2)
      | fail)
    have HE : ∀ q, h'.ex b q → w.heap.size ≤ q := fun q e => by
      have h1 := HK.out.2.2.2.2.size
      have h2 := HB2.out.2.2
      have h3 := HXB.out
      rcases HZ.out.2.1.sub q e with e1 | e1
      · have := HEX.out q e1
        omega
      · omega
    have HBB : Below w.heap.size w w9 := by
      rw [HXB.out]
      exact HB2.out.1.trans (HZ.out.2.2.mono (by have := HB2.out.2.2; have := HXB.out; omega))
    have HEND := Lib.hid (And.intro HE HBB)
    clear HE HBB xx yy zz
    go_wp2_with fail
    go_ret
    exact ⟨b, h', rfl, by rw [HCF.out]; exact HZ.out.1, HEND.out.1, HEND.out.2⟩
end Go.Proofs.YtiflmdekcjbmbaaGreat.Nd
set_option maxRecDepth 100000
namespace Go.Proofs.YtiflmdekcjbmbaaGreat.Nd
set_option linter.unusedVariables false
set_option linter.unusedSimpArgs false
open Go.RowKit Lb Ie Fm

theorem infoVT : (Tryz.prog.info? 72).map (fun i => (i.zero, i.size, i.bytes)) = some (some (.agg #[.int .i64 0, .int .i64 0, .int .i64 0, .int .i64 0, .int .i64 0, .int .i64 0, .int .i64 0, .int .i64 0, .slice none 0 0, .slice none 0 0]), 10, 112) := by kernel_rfl
/-- It has heard a rank. -/
def heardN (s : Ns) (src rk asn : Int) : Ns := { s with rk := Pa.hearR s.id s.rk s.set ⟨src, rk, asn⟩, set := Pa.hearL s.id s.rk s.set ⟨src, rk, asn⟩ }
/-- It has moved its clock. -/
def movedN (s : Ns) (m : Int) : Ns := { s with p := limP s.p m, ks := 0 }
def followN (s : Ns) (src rk asn m : Int) : Ns :=
  if (heardN s src rk asn).set.length = 0 then heardN s src rk asn
  else if Pa.fstN (heardN s src rk asn).set = src then movedN (heardN s src rk asn) m else heardN s src rk asn
def newP (l l' : List Pa.P) : Bool := !(decide (0 < l.length)) || (Pa.fstN l' != Pa.fstN l)
def followE (s : Ns) (src rk asn : Int) : List EvP :=
  if (heardN s src rk asn).set.length = 0 then []
  else (if Pa.fstN (heardN s src rk asn).set = src then [sev 7 s.id src] else []) ++ (if newP s.set (heardN s src rk asn).set = true then [sev 6 s.id (Pa.fstN (heardN s src rk asn).set)] else [])
def FollowPost (s : Ns) (src rk asn m : Int) (b : Nat) (h : Hm) (w : World) (r : Ending) (w' : World) : Prop :=
  ∃ v h', r = .returned (.tuple #[v, .bool (decide (0 < (heardN s src rk asn).set.length))]) ∧ MineK w' w.heap.size 72 10 v (followE s src rk asn).length (evl (followE s src rk asn)) ∧ Nd w' b (followN s src rk asn m) h' ∧ Mv (h.ex b) (h'.ex b) w w'
theorem vals_one (e : EvP) (j : Nat) (h : j < 10) : ((e.vals[j]?).getD undef).oneCell' = true := by
  obtain ⟨k, i, x, c, p, a, pc, b, pd⟩ := e
  unfold EvP.vals
  rcases (show j = 0 ∨ j = 1 ∨ j = 2 ∨ j = 3 ∨ j = 4 ∨ j = 5 ∨ j = 6 ∨ j = 7 ∨ j = 8 ∨ j = 9 by omega) with rfl | rfl | rfl | rfl | rfl | rfl | rfl | rfl | rfl | rfl <;> rfl
theorem evl_one (L : List EvP) (q : Nat) : (evl L q).oneCell' = true := vals_one _ _ (Nat.mod_lt _ (by decide))
theorem ev_row {w : World} {k i x : Int} {gb : Nat} (h : Own w gb 72 (ev1 k i x)) : Row w (some ⟨gb, 0, none⟩) (1 * 10) (evl [sev k i x]) := fun _ => ⟨gb, 0, rfl, h.lt, fun q hq => by
  rw [Nat.zero_add, h.cell]
  rcases (show q = 0 ∨ q = 1 ∨ q = 2 ∨ q = 3 ∨ q = 4 ∨ q = 5 ∨ q = 6 ∨ q = 7 ∨ q = 8 ∨ q = 9 by omega) with rfl | rfl | rfl | rfl | rfl | rfl | rfl | rfl | rfl | rfl <;> rfl⟩
theorem mv_set {w w' : World} {b : Nat} {h : Hm} {v' : Value} (tu : Pa.Turn w w' h.sb h.sv v') : Mv (h.ex b) (Hm.ex { h with sv := v' } b) w w' := by
  refine ⟨tu.os, tu.tape, tu.output, tu.size, fun q h1 h2 => tu.keep q h1 (fun e => h2 (.inr (.inr (.inr (.inr (.inr (.inr (.inr (.inl e))))))))) (fun e => h2 (.inr (.inr (.inr (.inr (.inr (.inr (.inr (.inr (.inl e)))))))))), fun q hq => ?_⟩
  rcases hq with e | e | e | e | e | e | e | e | e | e
  · exact .inl (.inl e)
  · exact .inl (.inr (.inl e))
  · exact .inl (.inr (.inr (.inl e)))
  · exact .inl (.inr (.inr (.inr (.inl e))))
  · exact .inl (.inr (.inr (.inr (.inr (.inl e)))))
  · exact .inl (.inr (.inr (.inr (.inr (.inr (.inl e))))))
  · exact .inl (.inr (.inr (.inr (.inr (.inr (.inr (.inl e)))))))
  · exact .inl (.inr (.inr (.inr (.inr (.inr (.inr (.inr (.inl e))))))))
  · rcases tu.own q e with e | e
    · exact .inl (.inr (.inr (.inr (.inr (.inr (.inr (.inr (.inr (.inl e)))))))))
    · exact .inr e
  · exact .inl (.inr (.inr (.inr (.inr (.inr (.inr (.inr (.inr (.inr e)))))))))
/-- A node's own event, appended. -/
theorem app_ev {base n : Nat} {L : List EvP} {k i x : Int} {v' : Value} {w' : World} (hL : L.length = n) (m : MineK w' base 72 10 v' (n + 1) (fun q => if q < n * 10 then evl L q else evl [sev k i x] (q - n * 10))) : MineK w' base 72 10 v' (L ++ [sev k i x]).length (evl (L ++ [sev k i x])) := by
  subst hL
  rw [List.length_append]
  exact m.ext (fun q hq => evl_app (M := [sev k i x]) q hq)
set_option maxHeartbeats 8000000 in
theorem follow_any {w : World} {b : Nat} {s : Ns} {h : Hm} (n : Nd w b s h) (hf : Fit s) (hT : s.inT = true) (h0 : s.id ≠ 0) (src rk asn m : Int) :
    Calls Tryz.prog 76 #[.pointer (some ⟨b, 0, none⟩), .int .i64 src, .int .i64 rk, .int .i64 asn, .int .i64 m] w (FollowPost s src rk asn m b h w) := by
  obtain ⟨i0, hi0, hz0, hz1, hz2⟩ := info_parts infoVT
  have HIN := Lib.hid (And.intro hi0 (And.intro hz0 (And.intro hz1 hz2)))
  clear hi0 hz0 hz1 hz2
  have c40 : w.cell? ⟨b, 40, none⟩ = some (.pointer (some ⟨h.sb, 0, none⟩)) := by rw [n.c_sb, hT]; rfl
  have PF := Pa.fst_any 0 h.sb s.id s.rk s.set h.sv w (n.set hT)
  have PH := Pa.hear_any 0 h.sb s.id s.rk s.set h.sv ⟨src, rk, asn⟩ w (n.set hT) (by have := hf.few; omega) hf.rk
  have HN := Lib.hid n
  have hK : s.hasK = true := by unfold Ns.hasK; rw [hT]; simpa using h0
  have HT := Lib.hid (And.intro hT hK)
  have HP := Lib.hid hf.p
  obtain ⟨fw, hfw⟩ : ∃ q, Pa.fstN s.set = q := ⟨_, rfl⟩
  obtain ⟨had, hhad⟩ : ∃ q, decide (0 < s.set.length) = q := ⟨_, rfl⟩
  rw [hfw, hhad] at PF
  have HW := Lib.hid (And.intro hfw hhad)
  clear hfw hhad n hf hT h0 hK
  go_enter Tryz.func76, Tryz.ntmps76
  go_wp2_with fail
  refine PF.mono ?_
  rintro r w' ⟨rfl, rfl⟩
  go_wp2_with fail
  refine PH.mono ?_
  rintro r w1 ⟨rfl, v', hst, tu⟩
  have n1 : Nd w1 b (heardN s src rk asn) { h with sv := v' } := HN.out.sets HT.out.1 hst tu
  have m1 : Mv (h.ex b) (Hm.ex { h with sv := v' } b) w w1 := mv_set tu
  clear PF PH hst tu c40
  obtain ⟨s1, hs1⟩ : ∃ q, heardN s src rk asn = q := ⟨_, rfl⟩
  have HS1 := Lib.hid hs1
  obtain ⟨h1, hh1⟩ : ∃ q, ({ h with sv := v' } : Hm) = q := ⟨_, rfl⟩
  have hsb : h.sb = h1.sb := by rw [← hh1]
  rw [hs1, hh1] at n1
  rw [hh1] at m1
  rw [hsb]
  have HT1 : Hid (s1.inT = true ∧ s1.hasK = true ∧ s1.id = s.id ∧ (-1000000000000 ≤ s1.p ∧ s1.p ≤ 1000000000000)) := Lib.hid (by rw [← hs1]; exact ⟨HT.out.1, HT.out.2, rfl, HP.out⟩)
  clear hs1 hh1 hsb
  have d40 : w1.cell? ⟨b, 40, none⟩ = some (.pointer (some ⟨h1.sb, 0, none⟩)) := by rw [n1.c_sb, HT1.out.1]; rfl
  have PG := Pa.fst_any 0 h1.sb s1.id s1.rk s1.set h1.sv w1 (n1.set HT1.out.1)
  obtain ⟨fn, hfn⟩ : ∃ q, Pa.fstN s1.set = q := ⟨_, rfl⟩
  obtain ⟨has, hhas⟩ : ∃ q, decide (0 < s1.set.length) = q := ⟨_, rfl⟩
  rw [hfn, hhas] at PG
  have HG := Lib.hid (And.intro hfn hhas)
  have HN1 := Lib.hid (And.intro n1 m1)
  clear hfn hhas n1 m1
  go_wp2_with fail
  refine PG.mono ?_
  rintro r w' ⟨rfl, rfl⟩
  clear PG
  cases has
  · clear d40
    go_wp2_with fail
    go_ret2
    have hl : s1.set.length = 0 := by have := HG.out.2; simpa using this
    unfold FollowPost followE followN
    rw [HS1.out, if_pos hl, if_pos hl, HG.out.2]
    exact ⟨.slice none 0 0, h1, rfl, MineK.nil _ _ _ _ _, HN1.out.1, HN1.out.2⟩
  have hl : ¬ s1.set.length = 0 := by have := HG.out.2; simp at this; omega
  have HL := Lib.hid hl
  obtain ⟨np, hnp⟩ : ∃ q, newP s.set s1.set = q := ⟨_, rfl⟩
  have hnp2 : (!had || fn != fw) = np := by
    rw [← hnp]
    unfold newP
    rw [HW.out.1, HW.out.2, HG.out.1]
  have HNP := Lib.hid hnp
  have hcase : (np = true ∧ (had = false ∨ had = true ∧ (fn != fw) = true)) ∨ (np = false ∧ had = true ∧ (fn != fw) = false) := by
    rw [← hnp2]
    cases had
    · exact .inl ⟨rfl, .inl rfl⟩
    · cases h9 : (fn != fw)
      · exact .inr ⟨rfl, rfl, rfl⟩
      · exact .inl ⟨rfl, .inr ⟨rfl, rfl⟩⟩
  clear hl hnp hnp2 d40
  have E6 : Hid (∀ wz, Below w1.heap.size w1 wz → Calls Tryz.prog 75 #[.pointer (some ⟨b, 0, none⟩), .int .i64 6, .int .i64 fn] wz fun r w' => r = .returned (.agg #[.int .i64 6, .int .i64 s.id, .int .i64 fn, .int .i64 0, .int .i64 0, .int .i64 0, .int .i64 0, .int .i64 0, .slice none 0 0, .slice none 0 0]) ∧ Below wz.heap.size wz w') := Lib.hid (fun wz bz => by
    rw [← HT1.out.2.2.1]
    exact event_any (HN1.out.1.below bz) 6 fn)
  obtain ⟨si, hsi⟩ : ∃ q, s.id = q := ⟨_, rfl⟩
  have HSI := Lib.hid hsi
  rw [hsi] at E6
  by_cases hq : fn = src
  rotate_left 1
  · have g1 : (fn == src) = false := by simpa using hq
    have HQ := Lib.hid hq
    clear hq hsi
    rcases hcase with ⟨rfl, hc⟩ | ⟨rfl, rfl, g2⟩
    rotate_left 1
    · go_wp2_with fail
      go_ret2
      unfold FollowPost followE followN
      rw [HS1.out, if_neg HL.out, if_neg HL.out, HG.out.1, if_neg HQ.out, if_neg HQ.out, if_neg (by rw [HNP.out]; decide), HG.out.2]
      exact ⟨.slice none 0 0, h1, rfl, MineK.nil _ _ _ _ _, HN1.out.1, HN1.out.2⟩
    · rcases hc with rfl | ⟨rfl, g2⟩
      all_goals
        go_wp2_with fail
        refine (E6.out w1 (Below.refl _ _)).mono ?_
        rintro r w2 ⟨rfl, b2⟩
        have oE := Own.new w2 72 #[.int .i64 6, .int .i64 si, .int .i64 fn, .int .i64 0, .int .i64 0, .int .i64 0, .int .i64 0, .int .i64 0, .slice none 0 0, .slice none 0 0]
        have b3 := b2.alloc b2.size (.cells #[.int .i64 6, .int .i64 si, .int .i64 fn, .int .i64 0, .int .i64 0, .int .i64 0, .int .i64 0, .int .i64 0, .slice none 0 0, .slice none 0 0] 72)
        have hrow := ev_row (k := 6) (i := si) (x := fn) oE
        have hsw : w.heap.size ≤ (w2.alloc (.cells #[.int .i64 6, .int .i64 si, .int .i64 fn, .int .i64 0, .int .i64 0, .int .i64 0, .int .i64 0, .int .i64 0, .slice none 0 0, .slice none 0 0] 72)).heap.size := Nat.le_trans HN1.out.2.size b3.size
        obtain ⟨hi0, hz0, hz1, hz2⟩ := HIN.out
        have H63 := Lib.hid (show 0 + 1 ≤ maxLen by unfold maxLen; decide)
        go_wp2_with (at_builtin; go_must (refine wp_appK rfl (.tmp 70) (.tmp 74) _ rfl w.heap.size 72 i0 _ 10 112 Tryz.underlying45 hi0 hz0 hz1 hz2 rfl (by decide) _ 0 (evl []) rfl (MineK.nil _ _ _ _ _) _ 1 _ (evl [sev 6 si fn]) rfl hrow (fun i _ => evl_one _ i) H63.out (by decide) hsw ?_))
        intro v4 w4 m4 g4 q4
        have m5 : MineK w4 w.heap.size 72 10 v4 ([] ++ [sev 6 si fn]).length (evl ([] ++ [sev 6 si fn])) := app_ev rfl m4
        obtain ⟨a5, c5, rfl, _, _, _⟩ := m5.row
        have b4 : Below w1.heap.size w1 w4 := b3.grown g4 b3.size (fun q e => by cases e)
        have HM5 := Lib.hid m5
        have HB4 := Lib.hid b4
        clear hi0 hz0 hz1 hz2 m4 m5 g4 q4 b4 b3 hrow hsw oE b2
        go_wp2_with fail
        go_ret2
        unfold FollowPost followE followN
        rw [HS1.out, if_neg HL.out, if_neg HL.out, HG.out.1, if_neg HQ.out, if_neg HQ.out, if_pos HNP.out, HG.out.2, HSI.out]
        exact ⟨_, h1, rfl, HM5.out, HN1.out.1.below HB4.out, HN1.out.2.trans (Mv.of_below HB4.out)⟩
  have g1 : (fn == src) = true := by simpa using hq
  have HQ := Lib.hid hq
  clear hq
  have d10 := HN1.out.1.c_ck
  have PM := Ck.move_any h1.ck s1.p s1.d s1.s m w1 HN1.out.1.clk (by have := HT1.out.2.2.2; omega) (by have := HT1.out.2.2.2; omega)
  go_wp2_with fail
  refine PM.mono ?_
  rintro r w2 ⟨rfl, hck, j2⟩
  have n2 := HN1.out.1.clock hck j2
  have m2 : Mv (h.ex b) (h1.ex b) w w2 := HN1.out.2.trans (Mv.of_just j2 (.inr (.inl rfl)))
  have d41 : w2.cell? ⟨b, 41, none⟩ = some (.pointer (some ⟨h1.kb, 0, none⟩)) := by
    rw [n2.c_kb]
    show some (if s1.hasK = true then _ else _) = _
    rw [HT1.out.2.1]
    rfl
  have PK := Kp.heard_any h1.kb s1.c.keep s1.ks w2 (n2.kee HT1.out.2.1)
  clear d10 PM hck j2
  have HN2 := Lib.hid (And.intro n2 m2)
  clear n2 m2
  go_wp2_with fail
  refine PK.mono ?_
  rintro r w3 ⟨rfl, hk3, j3⟩
  have n3 : Nd w3 b (movedN s1 m) h1 := HN2.out.1.keeper HT1.out.2.1 hk3 j3
  have m3 : Mv (h.ex b) (h1.ex b) w w3 := HN2.out.2.trans (Mv.of_just j3 (.inr (.inr (.inr (.inr (.inr (.inr (.inr (.inr (.inr rfl))))))))))
  have HN3 := Lib.hid (And.intro n3 m3)
  have E7 : Hid (∀ k x wz, Below w3.heap.size w3 wz → Calls Tryz.prog 75 #[.pointer (some ⟨b, 0, none⟩), .int .i64 k, .int .i64 x] wz fun r w' => r = .returned (.agg #[.int .i64 k, .int .i64 si, .int .i64 x, .int .i64 0, .int .i64 0, .int .i64 0, .int .i64 0, .int .i64 0, .slice none 0 0, .slice none 0 0]) ∧ Below wz.heap.size wz w') := Lib.hid (fun k x wz bz => by
    rw [← hsi, ← HT1.out.2.2.1]
    exact event_any (HN3.out.1.below bz) k x)
  clear PK d41 hk3 j3 n3 m3 E6 hsi
  go_wp2_with fail
  refine (E7.out 7 src w3 (Below.refl _ _)).mono ?_
  rintro r w4 ⟨rfl, b4⟩
  have oE := Own.new w4 72 #[.int .i64 7, .int .i64 si, .int .i64 src, .int .i64 0, .int .i64 0, .int .i64 0, .int .i64 0, .int .i64 0, .slice none 0 0, .slice none 0 0]
  have b5 := b4.alloc b4.size (.cells #[.int .i64 7, .int .i64 si, .int .i64 src, .int .i64 0, .int .i64 0, .int .i64 0, .int .i64 0, .int .i64 0, .slice none 0 0, .slice none 0 0] 72)
  have hrow := ev_row (k := 7) (i := si) (x := src) oE
  have hsw := b5.size
  obtain ⟨hi0, hz0, hz1, hz2⟩ := HIN.out
  have H63 := Lib.hid (show 0 + 1 ≤ maxLen by unfold maxLen; decide)
  go_wp2_with (at_builtin; go_must (refine wp_appK rfl (.tmp 57) (.tmp 61) _ rfl w3.heap.size 72 i0 _ 10 112 Tryz.underlying45 hi0 hz0 hz1 hz2 rfl (by decide) _ 0 (evl []) rfl (MineK.nil _ _ _ _ _) _ 1 _ (evl [sev 7 si src]) rfl hrow (fun i _ => evl_one _ i) H63.out (by decide) hsw ?_))
  intro v6 w6 m6 g6 q6
  have m7 : MineK w6 w3.heap.size 72 10 v6 1 (evl [sev 7 si src]) := app_ev (L := []) rfl m6
  have b6 : Below w3.heap.size w3 w6 := b5.grown g6 b5.size (fun q e => by cases e)
  obtain ⟨a7, c7, rfl, _, _, _⟩ := m7.row
  have HM7 := Lib.hid m7
  have HB6 := Lib.hid b6
  clear m6 g6 q6 b5 hrow hsw oE b4 m7 b6
  rcases hcase with ⟨rfl, hc⟩ | ⟨rfl, rfl, g2⟩
  rotate_left 1
  · clear hi0 hz0 hz1 hz2
    go_wp2_with fail
    go_ret2
    unfold FollowPost followE followN
    rw [HS1.out, if_neg HL.out, if_neg HL.out, HG.out.1, if_pos HQ.out, if_pos HQ.out, if_neg (by rw [HNP.out]; decide), HG.out.2, HSI.out]
    exact ⟨_, h1, rfl, mineK_low HM7.out HN3.out.2.size, HN3.out.1.below HB6.out, HN3.out.2.trans (Mv.of_below HB6.out)⟩
  · rcases hc with rfl | ⟨rfl, g2⟩
    all_goals
      go_wp2_with fail
      refine (E7.out 6 fn w6 HB6.out).mono ?_
      rintro r w8 ⟨rfl, b8⟩
      have oE := Own.new w8 72 #[.int .i64 6, .int .i64 si, .int .i64 fn, .int .i64 0, .int .i64 0, .int .i64 0, .int .i64 0, .int .i64 0, .slice none 0 0, .slice none 0 0]
      have b9 := (Below.refl w6.heap.size w6).trans (b8.alloc b8.size (.cells #[.int .i64 6, .int .i64 si, .int .i64 fn, .int .i64 0, .int .i64 0, .int .i64 0, .int .i64 0, .int .i64 0, .slice none 0 0, .slice none 0 0] 72))
      have hrow := ev_row (k := 6) (i := si) (x := fn) oE
      have m9 := HM7.out.below b9
      have bb9 : Below w3.heap.size w3 (w8.alloc (.cells #[.int .i64 6, .int .i64 si, .int .i64 fn, .int .i64 0, .int .i64 0, .int .i64 0, .int .i64 0, .int .i64 0, .slice none 0 0, .slice none 0 0] 72)) := HB6.out.trans (b9.mono HB6.out.size)
      have hsw := bb9.size
      have H64 := Lib.hid (show 1 + 1 ≤ maxLen by unfold maxLen; decide)
      go_wp2_with (at_builtin; go_must (refine wp_appK rfl (.tmp 70) (.tmp 74) _ rfl w3.heap.size 72 i0 _ 10 112 Tryz.underlying45 hi0 hz0 hz1 hz2 rfl (by decide) _ 1 (evl [sev 7 si src]) rfl m9 _ 1 _ (evl [sev 6 si fn]) rfl hrow (fun i _ => evl_one _ i) H64.out (by decide) hsw ?_))
      intro v10 w10 m10 g10 q10
      have m11 : MineK w10 w3.heap.size 72 10 v10 ([sev 7 si src] ++ [sev 6 si fn]).length (evl ([sev 7 si src] ++ [sev 6 si fn])) := app_ev rfl m10
      have b10 : Below w3.heap.size w3 w10 := bb9.grown g10 bb9.size (fun q e => (m9.lt q e).1)
      obtain ⟨a11, c11, rfl, _, _, _⟩ := m11.row
      have HM11 := Lib.hid m11
      have HB10 := Lib.hid b10
      clear hi0 hz0 hz1 hz2 m10 m11 g10 q10 b9 bb9 hrow hsw oE b8 b10 m9
      go_wp2_with fail
      go_ret2
      unfold FollowPost followE followN
      rw [HS1.out, if_neg HL.out, if_neg HL.out, HG.out.1, if_pos HQ.out, if_pos HQ.out, if_pos HNP.out, HG.out.2, HSI.out]
      exact ⟨_, h1, rfl, mineK_low HM11.out HN3.out.2.size, HN3.out.1.below HB10.out, HN3.out.2.trans (Mv.of_below HB10.out)⟩
end Go.Proofs.YtiflmdekcjbmbaaGreat.Nd
set_option maxRecDepth 100000
namespace Go.Proofs.YtiflmdekcjbmbaaGreat.Nd
set_option linter.unusedVariables false
set_option linter.unusedSimpArgs false
open Go.RowKit Lb Ie Fm

/-- All that is a node's own lies. -/
theorem ex_lt {w : World} {b : Nat} {s : Ns} {h : Hm} (n : Nd w b s h) (h1 : s.inT = true) (h2 : s.hasK = true) : ∀ q, h.ex b q → q < w.heap.size := by
  intro q hq
  obtain ⟨l, hl, _⟩ := n.que
  rcases hq with e | e | e | e | e | e | e | e | e | e
  · exact e ▸ n.own.lt
  · exact e ▸ n.clk.lt
  · exact e ▸ hl.own.lt
  · exact (hl.row.lt q e).2
  · exact e ▸ n.up.lt
  · exact e ▸ n.dn.lt
  · exact e ▸ n.gt.lt
  · exact e ▸ (n.set h1).own.lt
  · exact ((n.set h1).row.lt q e).2
  · exact e ▸ (n.kee h2).lt
theorem Mv.own {E E' : Nat → Prop} {w w' : World} (m : Mv E E' w w') {g : Nat} {t : TypeId} {cs : Array Value} (h : Own w g t cs) (hn : ¬ E g) : Own w' g t cs := own_heap (m.keep g h.lt hn) h
theorem Mv.mineK {E E' : Nat → Prop} {w w' : World} (m : Mv E E' w w') {base k n : Nat} {t : TypeId} {v : Value} {V : Nat → Value} (h : MineK w base t k v n V) (hn : ∀ q, base ≤ q → ¬ E q) : MineK w' base t k v n V :=
  h.kept (fun q hq => by
    by_cases hl : q < w.heap.size
    · exact .inl (m.keep q hl (hn q hq))
    · exact .inr (fun e => hl (h.lt q e).2))
theorem Nd.turned {w w' : World} {b : Nat} {s : Ns} {h : Hm} {X : Nat → Prop} (n : Nd w b s h) (t : Tn X [72] w w') : Nd w' b s h := by
  obtain ⟨l, hq, hk⟩ := n.que
  exact ⟨t.own n.own (by decide), t.mine n.hops (by decide), t.own n.clk (by decide), ⟨l, t.que hq (by decide) (by decide) (by decide), hk⟩, t.own n.up (by decide), t.own n.dn (by decide), t.own n.gt (by decide), n.ap, fun e => t.st (n.set e) (by decide) (by decide), fun e => t.own (n.kee e) (by decide), fun k hk => t.mine (n.path k hk) (by decide)⟩
/-- The frame asks for an answer. -/
def asksB (s : Ns) (f : Fr) : Bool := f.d == s.id && (f.k == 1 || f.k == 4)
def HearIn (s : Ns) (f : Fr) (rk asn : Int) (m : Int) (b : Nat) (h : Hm) (w : World) (r : Ending) (w' : World) : Prop :=
  ∃ a c h', r = .returned (.tuple #[.slice none 0 0, .slice a (sev 1 s.id f.s :: followE s f.s rk asn).length c]) ∧ Evs w' (sev 1 s.id f.s :: followE s f.s rk asn) a c ∧ Nd w' b (followN s f.s rk asn (limM m)) h' ∧ Mv (h.ex b) (h'.ex b) w w'
theorem followE_len (s : Ns) (src rk asn : Int) : (followE s src rk asn).length ≤ 2 := by
  unfold followE
  split
  · exact Nat.zero_le _
  · rw [List.length_append]
    split <;> split <;> simp
theorem followE_sev (s : Ns) (src rk asn : Int) : ∀ e, e ∈ followE s src rk asn → ∃ k i x, e = sev k i x := by
  intro e he
  unfold followE at he
  split at he
  · cases he
  · rcases List.mem_append.1 he with h | h
    · split at h
      · exact ⟨_, _, _, List.mem_singleton.1 h⟩
      · cases h
    · split at h
      · exact ⟨_, _, _, List.mem_singleton.1 h⟩
      · cases h
theorem evs_of {w : World} {base n : Nat} {L : List EvP} {v : Value} (hl : L.length = n) (h : MineK w base 72 10 v n (evl L)) (hs : ∀ e, e ∈ L → ∃ k i x, e = sev k i x) : ∃ a c, v = .slice a L.length c ∧ Evs w L a c := by
  subst hl
  obtain ⟨a, c, rfl, h1, h2, h3⟩ := h.row
  exact ⟨a, c, rfl, h1, h2, h3, sev_at hs⟩
theorem heard_none {s : Ns} {src rk asn : Int} (h : (heardN s src rk asn).set.length = 0) : followE s src rk asn = [] := by
  unfold followE
  rw [if_pos h]
set_option maxHeartbeats 8000000 in
theorem hear_in {w : World} {b : Nat} {s : Ns} {h : Hm} (n : Nd w b s h) (hf : Fit s) (hT : s.inT = true) (h0 : s.id ≠ 0) (asn : Int) (a : Option Addr) (c : Nat) (L : List Int) (m : Int) (hlc : L.length ≤ c) (hcm : c ≤ maxLen) (h5 : L.length ≤ 100000) (hR : Row w a L.length (bval L)) (hd : okD' L)
    (f : Fr) (rk : Int) (hr : readN s asn L = some (f, rk)) (hno : asksB s f = false) :
    Calls Tryz.prog 22 #[.pointer (some ⟨b, 0, none⟩), .int .i64 asn, .slice a L.length c, .int .i64 m] w (HearIn s f rk asn m b h w) := by
  obtain ⟨i0, hi0, hz0, hz1, hz2⟩ := info_parts infoVT
  have HIN := Lib.hid (And.intro hi0 (And.intro hz0 (And.intro hz1 hz2)))
  clear hi0 hz0 hz1 hz2
  have PL := lives_any n
  have hnn := hf.c.nodes
  have PR := read_any n (by omega) asn a c L hlc hcm h5 hR hd
  obtain ⟨nl, hnl⟩ : ∃ q, L.length = q := ⟨_, rfl⟩
  rw [hnl] at PR ⊢
  have HN := Lib.hid n
  have HF := Lib.hid hf
  have hK : s.hasK = true := by unfold Ns.hasK; rw [hT]; simpa using h0
  have HT := Lib.hid (And.intro hT (And.intro h0 hK))
  have HR := Lib.hid hr
  have HNO := Lib.hid hno
  clear hlc hcm h5 hR hd hnl n hf hT hnn h0 hK hr hno
  go_enter Tryz.func22, Tryz.ntmps22
  go_wp2_with fail
  refine PL.mono ?_
  rintro r w' ⟨rfl, rfl⟩
  clear PL
  go_wp2_with fail
  refine PR.mono ?_
  rintro r w1 ⟨b1, hP⟩
  clear PR
  rw [HR.out] at hP
  obtain ⟨p, hpf, rfl, hat, hlow⟩ := hP
  obtain ⟨pk, ps, pd, pq, pL, pa, pc, pdata, pb, pe⟩ := p
  have HPS : Hid (f.s = ps) := Lib.hid (by rw [← hpf]; rfl)
  have hno2 : (pd == s.id && (pk == 1 || pk == 4)) = false := by
    have := HNO.out
    unfold asksB at this
    rw [← hpf] at this
    exact this
  have PW := fun (wz : World) (k : Below w.heap.size w wz) (m2 : Int) => follow_any (HN.out.below k) HF.out HT.out.1 HT.out.2.1 f.s rk asn m2
  simp only [Fp.vals]
  obtain ⟨ll, hll⟩ : ∃ q, pL.length = q := ⟨_, rfl⟩
  obtain ⟨dl, hdl⟩ : ∃ q, pdata.length = q := ⟨_, rfl⟩
  rw [hll, hdl]
  have b2 := b1.trans (((Below.refl w1.heap.size w1).alloc (Nat.le_refl _) (.cells #[.int .i64 pk, .int .i64 ps, .int .i64 pd, .int .i64 pq, .slice pa ll pc, .slice pb dl pe] 37)).mono b1.size)
  have o2 := Own.new w1 37 #[.int .i64 pk, .int .i64 ps, .int .i64 pd, .int .i64 pq, .slice pa ll pc, .slice pb dl pe]
  have hs1 := b1.size
  clear hll hdl hpf hat hlow b1
  go_upto_region 4 with (fail)
  obtain ⟨fb, hfb⟩ : ∃ q, w1.heap.size = q := ⟨_, rfl⟩
  rw [hfb] at o2 hs1 ⊢
  generalize w1.alloc (.cells #[.int .i64 pk, .int .i64 ps, .int .i64 pd, .int .i64 pq, .slice pa ll pc, .slice pb dl pe] 37) = w2 at *
  clear hfb
  clear w1
  have c39 : w2.cell? ⟨b, 39, none⟩ = some (.bool true) := by rw [(HN.out.below b2).c_inT, HT.out.1]
  have hmm : min (max m (-30000)) 30000 = limM m := rfl
  obtain ⟨mm, hm2⟩ : ∃ q, limM m = q := ⟨_, rfl⟩
  have HMM := Lib.hid hm2
  rw [hm2] at hmm
  clear hm2
  obtain ⟨si, hsi⟩ : ∃ q, s.id = q := ⟨_, rfl⟩
  have HSI := Lib.hid hsi
  rw [hsi] at hno2
  have c0 : w2.cell? ⟨b, 0, none⟩ = some (.int .i64 si) := by rw [(HN.out.below b2).c_id, hsi]
  have PE : Calls Tryz.prog 75 #[.pointer (some ⟨b, 0, none⟩), .int .i64 1, .int .i64 ps] w2 fun r w' => r = .returned (.agg #[.int .i64 1, .int .i64 si, .int .i64 ps, .int .i64 0, .int .i64 0, .int .i64 0, .int .i64 0, .int .i64 0, .slice none 0 0, .slice none 0 0]) ∧ Below w2.heap.size w2 w' := by
    rw [← hsi]
    exact event_any (HN.out.below b2) 1 ps
  have d1 : w2.cell? ⟨fb, 1, none⟩ = some (.int .i64 ps) := o2.cell 1
  clear hsi
  go_wp2_with fail
  refine PE.mono ?_
  rintro r w3 ⟨rfl, b3⟩
  have oE := Own.new w3 72 #[.int .i64 1, .int .i64 si, .int .i64 ps, .int .i64 0, .int .i64 0, .int .i64 0, .int .i64 0, .int .i64 0, .slice none 0 0, .slice none 0 0]
  have b4 := b3.alloc b3.size (.cells #[.int .i64 1, .int .i64 si, .int .i64 ps, .int .i64 0, .int .i64 0, .int .i64 0, .int .i64 0, .int .i64 0, .slice none 0 0, .slice none 0 0] 72)
  have o4 := below_own b4 o2 o2.lt
  have bb4 := b2.trans (b4.mono b2.size)
  have hg1 : (si != 0) = true := by have := HT.out.2.1; rw [HSI.out] at this; simpa using this
  have hmE : MineK (w3.alloc (.cells #[.int .i64 1, .int .i64 si, .int .i64 ps, .int .i64 0, .int .i64 0, .int .i64 0, .int .i64 0, .int .i64 0, .slice none 0 0, .slice none 0 0] 72)) w.heap.size 72 10 (.slice (some ⟨w3.heap.size, 0, none⟩) 1 1) 1 (evl [sev 1 si ps]) := by
    refine MineK.made oE (by have := b3.size; have := b2.size; omega) rfl (by unfold maxLen; decide) (Nat.le_refl _) (fun i hi => ?_)
    rcases (show i = 0 ∨ i = 1 ∨ i = 2 ∨ i = 3 ∨ i = 4 ∨ i = 5 ∨ i = 6 ∨ i = 7 ∨ i = 8 ∨ i = 9 by omega) with rfl | rfl | rfl | rfl | rfl | rfl | rfl | rfl | rfl | rfl <;> rfl
  clear PE c39 c0 d1 b3 b4 hmm
  go_upto_region 10 with (fail)
  obtain ⟨gE, hgE⟩ : ∃ q, w3.heap.size = q := ⟨_, rfl⟩
  rw [hgE] at oE hmE ⊢
  generalize w3.alloc (.cells #[.int .i64 1, .int .i64 si, .int .i64 ps, .int .i64 0, .int .i64 0, .int .i64 0, .int .i64 0, .int .i64 0, .slice none 0 0, .slice none 0 0] 72) = w4 at *
  clear hgE
  clear w3
  have c0 : w4.cell? ⟨b, 0, none⟩ = some (.int .i64 si) := by rw [(HN.out.below bb4).c_id, HSI.out]
  have d1 : w4.cell? ⟨fb, 1, none⟩ = some (.int .i64 ps) := o4.cell 1
  have PF := PW w4 bb4 mm
  rw [HPS.out] at PF
  clear PW b2 oE o2
  go_wp2_with fail
  refine PF.mono ?_
  rintro r w5 ⟨v5, h', rfl, m5, n5, mv5⟩
  have hex : ∀ q, w.heap.size ≤ q → ¬ h.ex b q := fun q hq e => by have := ex_lt HN.out HT.out.1 HT.out.2.2 q e; omega
  have o5 := mv5.own o4 (hex fb hs1)
  have mE5 := mv5.mineK hmE hex
  obtain ⟨el, hel⟩ : ∃ q, (followE s ps rk asn).length = q := ⟨_, rfl⟩
  have HEL := Lib.hid hel
  have hel2 : el ≤ 2 := by rw [← hel]; exact followE_len _ _ _ _
  rw [hel] at m5
  obtain ⟨a5, c5, rfl, k1, k2, k3⟩ := m5.row
  obtain ⟨has, hhas⟩ : ∃ q, decide (0 < (heardN s ps rk asn).set.length) = q := ⟨_, rfl⟩
  rw [hhas]
  have HHAS := Lib.hid hhas
  have HALL := Lib.hid (And.intro n5 ((Mv.of_below bb4).trans mv5))
  have HMF := Lib.hid m5
  have c0 : w5.cell? ⟨b, 0, none⟩ = some (.int .i64 si) := by
    have e : (followN s ps rk asn mm).id = s.id := by
      unfold followN
      split
      · rfl
      · split <;> rfl
    rw [n5.c_id, e, HSI.out]
  have hs5 := Nat.le_trans bb4.size mv5.size
  clear PF d1 hhas hel n5 mv5 m5 hmE o4
  have hsz4 := bb4.size
  clear bb4
  clear hex
  cases has
  · have hl : (heardN s ps rk asn).set.length = 0 := by have := HHAS.out; simpa using this
    have HE := Lib.hid (heard_none hl)
    have HME := Lib.hid mE5
    clear hl mE5
    go_wp2_with fail
    go_ret2
    unfold HearIn
    rw [HPS.out, HMM.out, HE.out, HSI.out]
    obtain ⟨a9, c9, e9, h9⟩ := evs_of (L := [sev 1 si ps]) rfl HME.out (fun e he => ⟨_, _, _, List.mem_singleton.1 he⟩)
    exact ⟨some ⟨gE, 0, none⟩, 1, h', rfl, by injection e9 with e1 e2 e3; rw [e1, e3]; exact h9, HALL.out.1, HALL.out.2⟩
  obtain ⟨hi0, hz0, hz1, hz2⟩ := HIN.out
  have H63 := Lib.hid (show 1 + el ≤ maxLen ∧ (1 + el) * 112 ≤ 140737488355328 by unfold maxLen; omega)
  obtain ⟨ob, oc, ocs, e9, _, oE5, _⟩ := mE5.block (by decide)
  obtain rfl : gE = ob := by injection e9 with e9; injection e9 with e9; injection e9
  clear e9
  go_wp2_with (at_builtin; go_must (refine wp_appK rfl (.tmp 67) (.tmp 68) _ rfl w.heap.size 72 i0 _ 10 112 Tryz.underlying45 hi0 hz0 hz1 hz2 rfl (by decide) _ 1 (evl [sev 1 si ps]) rfl mE5 _ el _ (evl (followE s ps rk asn)) rfl k3 (fun i _ => evl_one _ i) H63.out.1 H63.out.2 hs5 ?_))
  intro v6 w6 m6 g6 q6
  have m7 : MineK w6 w.heap.size 72 10 v6 (1 + el) (evl ([sev 1 si ps] ++ followE s ps rk asn)) := m6.ext (fun i hi => by
    have := evl_app (L := [sev 1 si ps]) (M := followE s ps rk asn) i (by rw [HEL.out]; exact hi)
    exact this)
  have tn : Tn (fun q => q = gE) [72] w5 w6 := ⟨g6.os, g6.tape, g6.output, g6.size, fun q h1 h2 => g6.block q h1 (fun e => h2 (by injection e)), fun q e => ⟨_, _, e ▸ oE5, by simp⟩⟩
  have o6 := tn.own o5 (by decide)
  have n6 := HALL.out.1.turned tn
  have mv6 : Mv (h.ex b) (h'.ex b) w w6 := by
    have M := HALL.out.2
    exact ⟨g6.os.trans M.os, g6.tape.trans M.tape, g6.output.trans M.output, Nat.le_trans M.size g6.size, fun q h1 h2 => (g6.block q (by omega) (fun e => by have : q = gE := (by injection e); omega)).trans (M.keep q h1 h2), M.sub⟩
  obtain ⟨a6, c6, rfl, _, _, _⟩ := m7.row
  have HM7 := Lib.hid m7
  have HN6 := Lib.hid (And.intro n6 mv6)
  have d0 : w6.cell? ⟨fb, 0, none⟩ = some (.int .i64 pk) := o6.cell 0
  have d2 : w6.cell? ⟨fb, 2, none⟩ = some (.int .i64 pd) := o6.cell 2
  have c0 : w6.cell? ⟨b, 0, none⟩ = some (.int .i64 si) := by
    have e : (followN s ps rk asn mm).id = s.id := by
      unfold followN
      split
      · rfl
      · split <;> rfl
    rw [n6.c_id, e, HSI.out]
  have hor : (pd != si) = true ∨ ((pd != si) = false ∧ (pk != 1) = true ∧ (pk != 4) = true) := by
    cases h1 : (pd == si)
    · exact .inl (by simp only [bne, h1]; rfl)
    · rw [h1] at hno2
      simp at hno2
      exact .inr ⟨by simp only [bne, h1]; rfl, by simpa using hno2.1, by simpa using hno2.2⟩
  clear hi0 hz0 hz1 hz2 m6 m7 g6 q6 tn n6 mv6 o6 oE5 mE5 o5 k3 k1 k2 hno2
  go_upto_region 15 with (fail)
  rcases hor with g1 | ⟨g1, g2, g3⟩
  all_goals
    go_quiet (fail)
    have bq := below_drewN (Below.refl w6.heap.size w6) nq
    have HM8 := Lib.hid (HM7.out.below bq)
    have HN8 := Lib.hid (And.intro (HN6.out.1.below bq) (HN6.out.2.trans (Mv.of_below bq)))
    clear bq d0 d2 c0
    generalize w6.drewN nq = w7 at *
    go_wp2_with fail
    go_ret2
    unfold HearIn
    rw [HPS.out, HMM.out, HSI.out]
    obtain ⟨a9, c9, e9, h9⟩ := evs_of (L := [sev 1 si ps] ++ followE s ps rk asn) (by rw [List.length_append, HEL.out]; rfl) HM8.out (fun e he => (List.mem_append.1 he).elim (fun h => ⟨_, _, _, List.mem_singleton.1 h⟩) (followE_sev _ _ _ _ e))
    refine ⟨a9, c9, h', ?_, h9, HN8.out.1, HN8.out.2⟩
    rw [show ([sev 1 si ps] ++ followE s ps rk asn) = sev 1 si ps :: followE s ps rk asn from rfl] at e9
    rw [← e9]
    rfl
end Go.Proofs.YtiflmdekcjbmbaaGreat.Nd
