/-
  Package alloc (chapter 22): does a cell clash with what was dealt: any map of rows of the call's own, whichever order it is ranged over in.
-/
import Derived.Test.YtahcplddonipcaaGreatAlDeM
import Derived.Test.YtahcplddonipcaaGreatAlDeMap
import Derived.Test.YtahcplddonipcaaGreatBlk
import Derived.Test.YtahcplddonipcaaGreatMid
import Derived.Deep.Cut
import Derived.Deep.CutRange
import Derived.BigRegion
import Derived.IntWalk
set_option maxRecDepth 100000
namespace Go.Proofs.YtahcplddonipcaaGreat.Al
set_option linter.unusedVariables false
set_option linter.unusedSimpArgs false
open Go.RowKit Lb Cl Ce Mi

def stillIn (es : Array MapEntry) (r : Nat) (w : World) : Nat := (leftOf es (World.iterSeen w r)).size
set_option maxHeartbeats 4000000 in
theorem fits_d (lo db bm : Nat) (f len chans : Int) (vs : Nat → Value) (F : Hs) (c : C) (x : Int) (w : World) (hd : Own w db 64 #[.int .i64 f, .int .i64 len, .int .i64 chans, .map (some bm)]) (hm : Dm w lo bm vs F) :
    Calls Tryz.prog 65 #[.pointer (some ⟨db, 0, none⟩), .agg #[.int .i64 c.f, .int .i64 c.s, .int .i64 c.c, .int .i64 c.o, .int .i64 c.p], .int .i64 x] w fun r w' => r = .returned (.bool (fitsF F c x)) ∧ Below w.heap.size w w' := by
  obtain ⟨es, clock, hheap, hes⟩ := id hm.ms
  have hbm := iter_lt hheap
  obtain ⟨cf, cs, cc, co, cp⟩ := c
  dsimp only
  have b1 := (Below.refl w.heap.size w).alloc (Nat.le_refl _) (.cells #[.int .i64 cf, .int .i64 cs, .int .i64 cc, .int .i64 co, .int .i64 cp] 50)
  have o1 := Own.new w 50 #[.int .i64 cf, .int .i64 cs, .int .i64 cc, .int .i64 co, .int .i64 cp]
  have c3 : (w.alloc (.cells #[.int .i64 cf, .int .i64 cs, .int .i64 cc, .int .i64 co, .int .i64 cp] 50)).cell? ⟨db, 3, none⟩ = some (.map (some bm)) := (hd.alloc _).cell 3
  have hmap1 : (w.alloc (.cells #[.int .i64 cf, .int .i64 cs, .int .i64 cc, .int .i64 co, .int .i64 cp] 50)).heap[bm]? = some (.map es clock) := (b1.block bm hbm).trans hheap
  have HM := Lib.hid hm
  have HES := Lib.hid hes
  clear hm hd
  go_enter Tryz.func65, Tryz.ntmps65
  go_upto_region 1 with (fail)
  obtain ⟨r0, hr0⟩ : ∃ q, w.heap.size = q := ⟨_, rfl⟩
  have hsz : (w.alloc (.cells #[.int .i64 cf, .int .i64 cs, .int .i64 cc, .int .i64 co, .int .i64 cp] 50)).heap.size = r0 + 1 := by rw [← hr0]; simp
  have HR0 := Lib.hid hr0
  have HH := Lib.hid hheap
  rw [hr0] at o1 b1 hbm ⊢
  clear hr0 hheap
  generalize w.alloc (.cells #[.int .i64 cf, .int .i64 cs, .int .i64 cc, .int .i64 co, .int .i64 cp] 50) = w1 at *
  have hrange := run_range_map (P := Tryz.prog) w1 28 3 34 bm es clock (by kernel_rfl) hmap1
  rw [hsz] at hrange
  have b2 := b1.alloc (by omega) (.mapIter (some bm) clock #[] clock)
  have o2 := o1.alloc (.mapIter (some bm) clock #[] clock)
  have hit2 : (w1.alloc (.mapIter (some bm) clock #[] clock)).heap[r0 + 1]? = some (.mapIter (some bm) clock #[] clock) := by rw [← hsz]; exact heap_alloc_new w1 _
  go_wp2_with fail
  generalize w1.alloc (.mapIter (some bm) clock #[] clock) = w2 at *
  clear hrange hmap1 b1 o1 hsz c3
  clear w1
  go_loopw [] (fun wz => ∃ (S : List MapEntry) (seen : Array Nat) (c0 : Nat), wz.heap[r0 + 1]? = some (.mapIter (some bm) clock seen c0) ∧ clock ≤ c0 ∧ Hid ((S ++ (leftOf es seen).toList).Perm es.toList) ∧ Hid (∀ e ∈ S, ∀ k, e.key = kv k → ∀ o ∈ F k, clashB ⟨cf, cs, cc, co, cp⟩ o x (k : Int) = false) ∧ Below r0 w wz ∧ Own wz r0 50 #[.int .i64 cf, .int .i64 cs, .int .i64 cc, .int .i64 co, .int .i64 cp]) (fun wz => stillIn es (r0 + 1) wz)
  case atStart => exact ⟨[], #[], clock, hit2, Nat.le_refl _, Lib.hid (by rw [left_all]; exact List.Perm.refl _), Lib.hid (fun e he => by cases he), b2, o2⟩
  case round =>
    clear b2 o2 hit2
    obtain ⟨S, seen, c0, hit, hc0, HSL, HF, bz, oz⟩ := hrel
    have hst : stillIn es (r0 + 1) wr = (leftOf es seen).size := by unfold stillIn World.iterSeen; rw [hit]
    have hmap : wr.heap[bm]? = some (.map es clock) := (bz.block bm hbm).trans HH.out
    have HST := Lib.hid hst
    clear hst
    go_wp2_with (at_next; refine wpList_next_raw rfl (.tmp 15) rfl (r0 + 1) bm clock c0 seen es clock rfl hit hmap HES.out.old hc0 ?_ ?_)
    · intro hdone
      have hl0 : (leftOf es seen).toList = [] := by
        rw [← List.length_eq_zero_iff]
        simpa using hdone
      have hS := HSL.out
      rw [hl0, List.append_nil] at hS
      have HYES : Hid (fitsF F ⟨cf, cs, cc, co, cp⟩ x = true) := Lib.hid (fitsF_yes.2 (fun y hy o ho => by
        obtain ⟨e, he, hk⟩ := HES.out.all y hy (by simpa using List.ne_nil_of_mem ho)
        exact HF.out e (hS.mem_iff.2 he) y hk o ho))
      clear hS hl0 hdone hit hmap
      go_wp2_with fail
      go_ret
      exact ⟨by rw [HYES.out]; rfl, by rw [HR0.out]; exact bz⟩
    · intro e he w5 hit5 j5
      have he := Array.mem_toList_iff.2 he
      obtain ⟨hme, _⟩ := mem_left he
      have hstep := left_step HES.out.nd he
      have hmap5 : w5.heap[bm]? = some (.map es clock) := (j5.block bm (iter_lt hmap) (by omega)).trans hmap
      have hen := run_entry_at (P := Tryz.prog) w5 (r0 + 1) bm clock seen es clock e hit5 hmap5 hme HES.out.nd
      obtain ⟨k, hk16, hSk, hkey, hval⟩ := HES.out.key e hme
      have b5 : Below r0 w w5 := j5.below bz (by omega) (by have := iter_lt hit; omega)
      have o5 : Own w5 r0 50 #[.int .i64 cf, .int .i64 cs, .int .i64 cc, .int .i64 co, .int .i64 cp] := (j5.block r0 oz.lt (by omega)).trans oz
      obtain ⟨a, n, hv, hn, hc, hrow⟩ := ((HM.out.below (HR0.out.symm ▸ b5)).rows.row k hk16).row
      rw [hkey, hval, hv] at hen ⊢
      have HSH := Lib.hid (left_shrinks es seen e he)
      have HKEY := Lib.hid hkey
      have HSTEP := Lib.hid hstep
      unfold kv at hen ⊢
      obtain ⟨l, hl⟩ : ∃ l, F k = l := ⟨_, rfl⟩
      have HL := Lib.hid hl
      rw [hl] at hn hrow hen ⊢
      obtain ⟨m, hm⟩ : ∃ m, l.length = m := ⟨_, rfl⟩
      have HMM := Lib.hid hm
      rw [hm] at hn hrow hen ⊢
      have hs5 := Nat.lt_of_lt_of_le (Nat.lt_succ_self r0) (Nat.le_of_lt (iter_lt hit5))
      have hit5l := iter_lt hit5
      unfold maxLen at hc
      have hm63 : (m : Int) ≤ 9223372036854775807 := by omega
      clear hkey hval hv hl hm hme hmap5 hmap hit j5 bz oz hstep hSk
      go_wp2_with fail
      clear hen
      go_loopw [23] (fun i wz => ∃ t : Nat, i = .int .i64 t ∧ t ≤ m ∧ Hid (∀ i, i < t → clashB ⟨cf, cs, cc, co, cp⟩ (at_ l i) x (k : Int) = false) ∧ Below w5.heap.size w5 wz) (fun i _ => m - (intOf i).toNat)
      case atStart => exact ⟨0, rfl, Nat.zero_le _, Lib.hid (fun i hi => by omega), Below.refl _ _⟩
      case round =>
        obtain ⟨t, rfl, ht, HT, b6⟩ := hrel
        have o6 := below_own b6 o5 o5.lt
        by_cases htl : t < m
        · obtain ⟨bo, off, rfl, hbo, d0, d1, d2, d3, d4⟩ := crow hrow b6 htl
          obtain ⟨y, hy⟩ : ∃ y, at_ l t = y := ⟨_, rfl⟩
          have HY := Lib.hid hy
          rw [hy] at d0 d1 d2 d3 d4
          have PC : ∀ w, _ := fun w => clash_any ⟨cf, cs, cc, co, cp⟩ y x (k : Int) w
          obtain ⟨cq, hcq⟩ : ∃ q, clashB ⟨cf, cs, cc, co, cp⟩ y x (k : Int) = q := ⟨_, rfl⟩
          rw [hcq] at PC
          have HCQ := Lib.hid hcq
          obtain ⟨yf, ys, yc, yo, yp⟩ := y
          dsimp only at *
          have oy := Own.new wr 50 #[.int .i64 yf, .int .i64 ys, .int .i64 yc, .int .i64 yo, .int .i64 yp]
          have bz : Below w5.heap.size w5 (wr.alloc (.cells #[.int .i64 yf, .int .i64 ys, .int .i64 yc, .int .i64 yo, .int .i64 yp] 50)) := b6.alloc b6.size _
          have oz := o6.alloc (.cells #[.int .i64 yf, .int .i64 ys, .int .i64 yc, .int .i64 yo, .int .i64 yp] 50)
          clear hy hcq
          go_upto_region 7 with (fail)
          generalize wr.alloc (.cells #[.int .i64 yf, .int .i64 ys, .int .i64 yc, .int .i64 yo, .int .i64 yp] 50) = wy at *
          obtain ⟨r1, hr1⟩ : ∃ q, wr.heap.size = q := ⟨_, rfl⟩
          rw [hr1] at oy ⊢
          clear hr1 d0 d1 d2 d3 d4 b6 o6
          clear wr
          have k0 : wy.cell? ⟨r0, 0, none⟩ = some (.int .i64 cf) := oz.cell 0
          have k1 : wy.cell? ⟨r0, 1, none⟩ = some (.int .i64 cs) := oz.cell 1
          have k2 : wy.cell? ⟨r0, 2, none⟩ = some (.int .i64 cc) := oz.cell 2
          have k3 : wy.cell? ⟨r0, 3, none⟩ = some (.int .i64 co) := oz.cell 3
          have k4 : wy.cell? ⟨r0, 4, none⟩ = some (.int .i64 cp) := oz.cell 4
          have l0 : wy.cell? ⟨r1, 0, none⟩ = some (.int .i64 yf) := oy.cell 0
          have l1 : wy.cell? ⟨r1, 1, none⟩ = some (.int .i64 ys) := oy.cell 1
          have l2 : wy.cell? ⟨r1, 2, none⟩ = some (.int .i64 yc) := oy.cell 2
          have l3 : wy.cell? ⟨r1, 3, none⟩ = some (.int .i64 yo) := oy.cell 3
          have l4 : wy.cell? ⟨r1, 4, none⟩ = some (.int .i64 yp) := oy.cell 4
          go_wp2_with fail
          clear k0 k1 k2 k3 k4 l0 l1 l2 l3 l4
          refine (PC _).mono ?_
          rintro q w8 ⟨rfl, j8⟩
          have b8 : Below w5.heap.size w5 w8 := bz.trans (j8.mono bz.size)
          cases cq
          · have HT2 : Hid (∀ i, i < t + 1 → clashB ⟨cf, cs, cc, co, cp⟩ (at_ l i) x (k : Int) = false) := Lib.hid (fun i hi => by
              by_cases e' : i = t
              · rw [e', HY.out, HCQ.out]
              · exact HT.out i (by omega))
            go_wp2_with fail
            exact ⟨⟨t + 1, by simp, by omega, HT2, b8⟩, by simp [intOf]; omega⟩
          · have HNO : Hid (fitsF F ⟨cf, cs, cc, co, cp⟩ x = false) := Lib.hid (fitsF_no hk16 (o := at_ l t) (by
              rw [HL.out]
              exact Ce.at_mem (by rw [HMM.out]; exact htl)) (by rw [HY.out, HCQ.out]))
            go_wp2_with fail
            go_ret
            exact ⟨by rw [HNO.out]; rfl, by rw [HR0.out]; exact b5.trans (b8.mono (Nat.le_of_lt o5.lt))⟩
        · obtain rfl : t = m := by omega
          have g6 : decide ((t : Int) < (t : Int)) = false := by simp
          have hit6 := (b6.block (r0 + 1) hit5l).trans hit5
          go_wp2_with fail
          refine ⟨⟨S ++ [e], seen.push e.born, clock, hit6, Nat.le_refl _, Lib.hid ?_, Lib.hid ?_, b5.trans (b6.mono (Nat.le_of_lt o5.lt)), o6⟩, ?_⟩
          · rw [List.append_assoc]
            exact (HSTEP.out.append_left S).trans HSL.out
          · intro z hz q hq o ho
            rcases List.mem_append.1 hz with hz | hz
            · exact HF.out z hz q hq o ho
            · rw [List.mem_singleton] at hz
              subst hz
              rw [HKEY.out] at hq
              have := kv_inj hq
              subst this
              rw [HL.out] at ho
              obtain ⟨i, hi, e1⟩ := List.mem_iff_getElem.1 ho
              have h2 := HT.out i (by rw [← HMM.out]; exact hi)
              have h3 : at_ l i = o := by
                unfold at_
                rw [List.getD_eq_getElem?_getD, List.getElem?_eq_getElem hi, e1]
                rfl
              rw [h3] at h2
              exact h2
          · rw [HST.out]
            unfold stillIn World.iterSeen
            rw [hit6]
            exact HSH.out
end Go.Proofs.YtahcplddonipcaaGreat.Al
