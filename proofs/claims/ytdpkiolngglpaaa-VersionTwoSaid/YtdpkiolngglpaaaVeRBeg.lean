/-
  The reference's book (chapter 23): Begin, of any map, whichever order it is ranged over in.
-/
import Derived.Test.YtdpkiolngglpaaaVeRBook
set_option maxRecDepth 100000
namespace Go.Proofs.Ytdpkiolngglpaaa.Ve
set_option linter.unusedVariables false
set_option linter.unusedSimpArgs false
open Go.RowKit Lb Cl Ce Mi Al

theorem flat_perm {α β : Type} {f g : α → List β} : ∀ (M : List α), (∀ e ∈ M, (f e).Perm (g e)) → (M.flatMap f).Perm (M.flatMap g)
  | [], _ => List.Perm.refl _
  | x :: M, h => by
    rw [List.flatMap_cons, List.flatMap_cons]
    exact (h x (by simp)).append (flat_perm M (fun e he => h e (by simp [he])))
theorem allO_conv (M : List (Int × List C)) : (allO (M.map conv)).Perm (allO M) := by
  unfold allO
  rw [List.flatMap_map]
  refine flat_perm M (fun e _ => ?_)
  unfold ofE conv
  exact (srtC_all e.2).2.map _
theorem okE_conv (e : Int × List C) : okE (conv e) = okE e := by
  have hp := (srtC_all e.2).2
  unfold okE conv
  dsimp only
  have h1 : (srtC e.2).isEmpty = e.2.isEmpty := by
    rw [Bool.eq_iff_iff, List.isEmpty_iff_length_eq_zero, List.isEmpty_iff_length_eq_zero, hp.length_eq]
  have h2 : (srtC e.2).all okc = e.2.all okc := by
    rw [Bool.eq_iff_iff, List.all_eq_true, List.all_eq_true]
    exact ⟨fun g x hx => g x (hp.mem_iff.2 hx), fun g x hx => g x (hp.mem_iff.1 hx)⟩
  rw [h1, h2, hp.length_eq]
theorem clB_conv (M : List (Int × List C)) : clB (M.map conv) = clB M := by
  unfold clB
  rw [decide_eq_decide.2 (noC_perm (allO_conv M)), List.all_map]
  congr 1
  exact congrArg M.all (funext okE_conv)
theorem dealt_conv {M : List (Int × List C)} (hn : (M.map (·.1)).Nodup) (i : Nat) : dealt (M.map conv) i = srtU (dealt M i) := by
  rw [← lk_dealt (conv_nd hn), lk_conv, lk_dealt hn, srt_same]
/-- Where all nodes are the book's: clean, as both say it. -/
theorem clB_sorted {M : List (Int × List C)} {N : Int} (hn : (M.map (·.1)).Nodup) (hN : N ≤ 16) (hf : ∀ e ∈ M, hasB N e.1 = true ∧ e.2.length ≤ 64) : clB M = true ↔ RC fun i => srtU (dealt M i) := by
  rw [← clB_conv, clB_RCn (conv_nd hn) (fun e he => by
    obtain ⟨e', he', rfl⟩ := List.mem_map.1 he
    unfold conv
    dsimp only
    rw [(srtC_all _).2.length_eq]
    have := (hf e' he').2
    omega)]
  have h0 : oddN (M.map conv) = 0 := oddN_zero.2 (fun e he => by
    obtain ⟨e', he', rfl⟩ := List.mem_map.1 he
    have := (hf e' he').1
    unfold hasB at this
    rw [decide_eq_true_eq] at this
    refine .inr ?_
    unfold conv ndB
    dsimp only
    simp
    omega)
  rw [show dealt (M.map conv) = fun i => srtU (dealt M i) from funext (dealt_conv hn)]
  exact ⟨fun h => h.2, fun h => ⟨h0, h⟩⟩
theorem fit_yes {N : Int} {L : List (Int × List C)} (h : ∀ e ∈ L, hasB N e.1 = true ∧ e.2.length ≤ 64) : fitB N L = true := by
  unfold fitB
  rw [List.all_eq_true]
  intro e he
  rw [(h e he).1, Bool.true_and, decide_eq_true_eq]
  exact (h e he).2
theorem mapOf_at {w w' : World} {bm clock : Nat} {es : Array MapEntry} {E : MapEntry → Int × List C} (h : MapOf w bm es clock E) (j : Below w.heap.size w w') : MapOf w' bm es clock E := by
  refine ⟨(j.block bm (iter_lt h.heap)).trans h.heap, h.old, h.nd, h.key, fun x hx => ?_⟩
  obtain ⟨a, c, h1, h2, h3, h4⟩ := h.val x hx
  exact ⟨a, c, h1, h2, h3, h4.below j⟩
theorem rbegin_begun (b : Nat) (N v bg la : Int) (P X : Nat → Value) (R : Nat → Bool) (Dn Dx : Nat → List C) (m : Value) (w : World) (h : RBk w b N v bg la P X R Dn Dx) (hg : 0 < bg) :
    Calls Try.prog 13 #[.pointer (some ⟨b, 0, none⟩), m] w fun r w' => r = .returned (.tuple #[.int .i64 0, .int .i64 7]) ∧ w = w' := by
  have c2 := h.cells.2.2.1
  have g1 : decide (0 < bg) = true := by simpa using hg
  go_enter Try.func13, Try.ntmps13
  go_wp2_with fail
  refine bodyPost_ret (results_tmp2 rfl _ _ _) rfl ?_
  exact ⟨rfl, rfl⟩
def RBegPost (b : Nat) (N v la : Int) (P : Nat → Value) (Dn : Nat → List C) (L : List (Int × List C)) (w : World) (r : Ending) (w' : World) : Prop :=
  (begE N la L ≠ 0 ∧ r = .returned (.tuple #[.int .i64 0, .int .i64 (begE N la L)]) ∧ Below w.heap.size w w') ∨
  (begE N la L = 0 ∧ r = .returned (.tuple #[.int .i64 (la + 1), .int .i64 0]) ∧ Just b w w' ∧ ∃ X' M, M.Perm L ∧ RBk w' b N v (la + 1) (la + 1) P X' (fun _ => false) Dn (fun i => srtU (dealt M i)))
set_option maxHeartbeats 16000000 in
theorem rbegin_any (b bm clock : Nat) (es : Array MapEntry) (E : MapEntry → Int × List C) (N v la : Int) (P X : Nat → Value) (R : Nat → Bool) (Dn Dx : Nat → List C) (L : List (Int × List C)) (w : World) (h : RBk w b N v 0 la P X R Dn Dx) (hN : N ≤ 16) (hla : 0 ≤ la) (hM : MapOf w bm es clock E) (hL : es.toList.map E = L) (hnd : (L.map (·.1)).Nodup) :
    Calls Try.prog 13 #[.pointer (some ⟨b, 0, none⟩), .map (some bm)] w (RBegPost b N v la P Dn L w) := by
  have H := Lib.hid h
  have HM := Lib.hid hM
  have HL := Lib.hid hL
  have HND := Lib.hid hnd
  have c2 := h.cells.2.2.1
  have hbd : b < w.heap.size := h.blk.lt
  have hbm : bm < w.heap.size := iter_lt hM.heap
  clear h hM hL hnd
  go_enter Try.func13, Try.ntmps13
  have b1 := (Below.refl w.heap.size w).alloc (Nat.le_refl _) (.cells (d16 fun _ => .slice none 0 0) 36)
  have o1 : Blk (w.alloc (.cells (d16 fun _ => .slice none 0 0) 36)) w.heap.size 36 16 (fun _ => .slice none 0 0) := Own.new w 36 _
  go_upto_region 4 with (fail)
  change (Code.region _ _ _).wp _ _ _ (w.alloc (.cells (d16 fun _ => .slice none 0 0) 36))
  clear c2
  obtain ⟨d, hd⟩ : ∃ q, w.heap.size = q := ⟨_, rfl⟩
  have hsz : (w.alloc (.cells (d16 fun _ => .slice none 0 0) 36)).heap.size = d + 1 := by rw [← hd]; simp
  rw [hd] at o1 b1 hbd hbm ⊢
  have HD := Lib.hid hd
  clear hd
  generalize w.alloc (.cells (d16 fun _ => .slice none 0 0) 36) = w1 at *
  have hmap1 : w1.heap[bm]? = some (.map es clock) := (b1.block bm hbm).trans HM.out.heap
  have hrange := run_range_map (P := Try.prog) w1 32 3 33 bm es clock (by kernel_rfl) hmap1
  rw [hsz] at hrange
  have b2 := b1.alloc (by omega) (.mapIter (some bm) clock #[] clock)
  have o2 := o1.alloc (.mapIter (some bm) clock #[] clock)
  have hit2 : (w1.alloc (.mapIter (some bm) clock #[] clock)).heap[d + 1]? = some (.mapIter (some bm) clock #[] clock) := by rw [← hsz]; exact heap_alloc_new w1 _
  go_wp2_with fail
  generalize w1.alloc (.mapIter (some bm) clock #[] clock) = w2 at *
  clear hrange hmap1 b1 o1 hsz
  clear w1
  have hr0 : Hid (∀ x, x < 16 → Rv w2 (d + 1) (.slice none (srtU (dealt [] x)).length 0) (srtU (dealt [] x))) := Lib.hid (fun x _ => ⟨none, 0, rfl, Nat.le_refl _, Nat.zero_le _, Row.nil _ _ _, fun h => absurd h (by simp [dealt_nil, srtU])⟩)
  go_loopw [] (fun wz => ∃ (S : List MapEntry) (seen : Array Nat) (c0 : Nat) (A : Nat → Option Addr) (K : Nat → Nat), wz.heap[d + 1]? = some (.mapIter (some bm) clock seen c0) ∧ clock ≤ c0 ∧ Hid ((S ++ (leftOf es seen).toList).Perm es.toList) ∧ Below d w wz ∧ Blk wz d 36 16 (fun i => .slice (A i) (srtU (dealt (S.map E) i)).length (K i)) ∧ Hid (∀ x, x < 16 → Rv wz (d + 1) (.slice (A x) (srtU (dealt (S.map E) x)).length (K x)) (srtU (dealt (S.map E) x))) ∧ Hid (∀ e ∈ S.map E, hasB N e.1 = true ∧ e.2.length ≤ 64)) (fun wz => stillTo es (d + 1) wz)
  case atStart => exact ⟨[], #[], clock, fun _ => none, fun _ => 0, hit2, Nat.le_refl _, Lib.hid (by rw [left_all]; exact List.Perm.refl _), b2, o2, hr0, Lib.hid (fun e he => by cases he)⟩
  case round =>
    clear b2 o2 hit2 hr0
    obtain ⟨S, seen, c0, A, K, hit, hc0, HSL, bz, oz, HRV, HFT⟩ := hrel
    have hst : stillTo es (d + 1) wr = (leftOf es seen).size := by unfold stillTo World.iterSeen; rw [hit]
    have hmap : wr.heap[bm]? = some (.map es clock) := (bz.block bm hbm).trans HM.out.heap
    have HST := Lib.hid hst
    clear hst
    go_wp2_with (at_next; refine wpList_next_raw rfl (.tmp 15) rfl (d + 1) bm clock c0 seen es clock rfl hit hmap HM.out.old hc0 ?_ ?_)
    · intro hdone
      -- <B
      have hl0 : (leftOf es seen).toList = [] := by
        rw [← List.length_eq_zero_iff]
        simpa using hdone
      have hS := HSL.out
      rw [hl0, List.append_nil] at hS
      obtain ⟨M, hMM⟩ : ∃ q, S.map E = q := ⟨_, rfl⟩
      have hMp : M.Perm L := by
        rw [← hMM, ← HL.out]
        exact hS.map E
      rw [hMM] at oz HRV HFT
      have hndM : (M.map (·.1)).Nodup := nd_perm hMp.symm HND.out
      have hclm := clB_sorted hndM hN HFT.out
      rw [clB_perm hMp] at hclm
      have hfit : fitB N L = true := fit_yes (fun e he => HFT.out e (hMp.mem_iff.2 he))
      have hbe : begE N la L = if clB L = false then 9 else if 1000000 ≤ la then 5 else 0 := by
        unfold begE
        rw [hfit, if_neg (by decide)]
      have HMP := Lib.hid hMp
      have HCL := Lib.hid hclm
      have HBE := Lib.hid hbe
      obtain ⟨D, hDD⟩ : ∃ D : Nat → List C, (fun i => srtU (dealt M i)) = D := ⟨_, rfl⟩
      have hDi : ∀ i, srtU (dealt M i) = D i := fun i => by rw [← hDD]
      simp only [hDi] at oz HRV
      rw [hDD] at HCL
      have HDD := Lib.hid hDD
      have hdl : Dl wr D A K := ⟨fun x hx => by
          obtain ⟨a, c, e, h1, h2, h3, _⟩ := HRV.out x hx
          injection e with e1 e2 e3
          rw [e3]; exact h1, fun x hx => by
          obtain ⟨a, c, e, h1, h2, h3, _⟩ := HRV.out x hx
          injection e with e1 e2 e3
          rw [e3]; exact h2, fun x hx => by
          obtain ⟨a, c, e, h1, h2, h3, _⟩ := HRV.out x hx
          injection e with e1 e2 e3
          rw [e1]; exact h3⟩
      have PC := rclean_any D A K wr ⟨hdl.le, hdl.cap, hdl.row⟩
      have o16 : Own wr d 36 #[.slice (A 0) (D 0).length (K 0), .slice (A 1) (D 1).length (K 1), .slice (A 2) (D 2).length (K 2), .slice (A 3) (D 3).length (K 3), .slice (A 4) (D 4).length (K 4), .slice (A 5) (D 5).length (K 5), .slice (A 6) (D 6).length (K 6), .slice (A 7) (D 7).length (K 7), .slice (A 8) (D 8).length (K 8), .slice (A 9) (D 9).length (K 9), .slice (A 10) (D 10).length (K 10), .slice (A 11) (D 11).length (K 11), .slice (A 12) (D 12).length (K 12), .slice (A 13) (D 13).length (K 13), .slice (A 14) (D 14).length (K 14), .slice (A 15) (D 15).length (K 15)] := own16 oz
      have hb3 := bz
      clear hit hmap hdone hl0 hS hMM HST HSL hMp hndM hclm hfit hbe hDD hDi hdl HFT
      go_wp2_with (refine wpList_load_row rfl _ _ rfl d rfl 36 #[.slice (A 0) (D 0).length (K 0), .slice (A 1) (D 1).length (K 1), .slice (A 2) (D 2).length (K 2), .slice (A 3) (D 3).length (K 3), .slice (A 4) (D 4).length (K 4), .slice (A 5) (D 5).length (K 5), .slice (A 6) (D 6).length (K 6), .slice (A 7) (D 7).length (K 7), .slice (A 8) (D 8).length (K 8), .slice (A 9) (D 9).length (K 9), .slice (A 10) (D 10).length (K 10), .slice (A 11) (D 11).length (K 11), .slice (A 12) (D 12).length (K 12), .slice (A 13) (D 13).length (K 13), .slice (A 14) (D 14).length (K 14), .slice (A 15) (D 15).length (K 15)] (0, 0) _ o16 Try.underlying36 rfl (by kernel_rfl) ?_)
      refine PC.mono ?_
      rintro r5 w5 ⟨q, rfl, hq, b5⟩
      have hdw : d < wr.heap.size := oz.lt
      have b6 := hb3.trans (b5.mono (Nat.le_of_lt hdw))
      have H6 := H.out.below (HD.out ▸ b6)
      have oz6 : Blk w5 d 36 16 _ := below_blk b5 oz hdw
      have HRV6 : Hid (∀ x, x < 16 → Rv w5 (d + 1) (.slice (A x) (D x).length (K x)) (D x)) := Lib.hid (fun x hx => by
        obtain ⟨a, c, e, h1, h2, h3, h4⟩ := HRV.out x hx
        exact Rv.below (w := wr) ⟨a, c, e, h1, h2, h3, h4⟩ b5)
      clear PC o16 hb3 HRV oz
      cases q
      · have hno : clB L = false := by
          cases hc : clB L with
          | false => rfl
          | true => exact absurd (hq.2 (HCL.out.1 hc)) (by decide)
        have HE : Hid (begE N la L = 9) := Lib.hid (by rw [HBE.out, if_pos hno])
        clear hq hno
        go_wp2_with fail
        refine bodyPost_ret (results_tmp2 rfl _ _ _) rfl ?_
        exact .inl ⟨by rw [HE.out]; decide, by rw [HE.out]; rfl, by rw [HD.out]; exact b6⟩
      · have hyes : clB L = true := HCL.out.2 (hq.1 rfl)
        have hbe := HBE.out
        rw [hyes, if_neg (by decide)] at hbe
        have c3 := H6.cells.2.2.2.1
        by_cases hl : 1000000 ≤ la
        · have HE : Hid (begE N la L = 5) := Lib.hid (by rw [hbe, if_pos hl])
          have g1 : decide (1000000 ≤ la) = true := by simpa using hl
          clear hq hyes hbe hl
          go_wp2_with fail
          refine bodyPost_ret (results_tmp2 rfl _ _ _) rfl ?_
          exact .inl ⟨by rw [HE.out]; decide, by rw [HE.out]; rfl, by rw [HD.out]; exact b6⟩
        · have HE : Hid (begE N la L = 0) := Lib.hid (by rw [hbe, if_neg hl])
          have g1 : decide (1000000 ≤ la) = false := by simpa using hl
          have e1 : IntKind.i64.wrap (la + 1) = la + 1 := IntWalk.i64_in _ (by omega)
          have f3 : w5.frozen? ⟨b, 3, none⟩ = false := H6.blk.free 3
          have hb7 := rb_put (N' := N) (v' := v) (bg' := 0) (la' := la + 1) H6.blk 3 (.int .i64 (la + 1)) (by decide) (fun j hj => by
            rcases (show j = 0 ∨ j = 1 ∨ j = 2 ∨ j = 3 by omega) with rfl | rfl | rfl | rfl <;> rfl)
          have j7 := Just.set b w5 3 (.int .i64 (la + 1))
          have H7 : RBk (w5.setCell ⟨b, 3, none⟩ (.int .i64 (la + 1))) b N v 0 (la + 1) P X R Dn Dx := ⟨hb7, fun x hx => (H6.now x hx).just j7 (by omega), fun x hx => (H6.next x hx).just j7 (by omega)⟩
          have oz7 := j7.blk oz6 (by omega)
          have HRV7 : Hid (∀ x, x < 16 → Rv (w5.setCell ⟨b, 3, none⟩ (.int .i64 (la + 1))) (d + 1) (.slice (A x) (D x).length (K x)) (D x)) := Lib.hid (fun x hx => (HRV6.out x hx).just j7 (by omega))
          have jj : Just b w (w5.setCell ⟨b, 3, none⟩ (.int .i64 (la + 1))) := (just_of_below b (HD.out ▸ b6)).trans j7
          clear hq hyes hbe hl
          go_upto_region 15 with (fail)
          generalize w5.setCell ⟨b, 3, none⟩ (.int .i64 (la + 1)) = w7 at *
          clear c3 f3 hb7 j7 H6 oz6 HRV6 b6 b5
          have k2 := H7.cells.2.2.1
          have k3 := H7.cells.2.2.2.1
          have k2d : w7.drew.cell? ⟨b, 2, none⟩ = some (.int .i64 0) := k2
          have k3d : w7.drew.cell? ⟨b, 3, none⟩ = some (.int .i64 (la + 1)) := k3
          have f2 : w7.frozen? ⟨b, 2, none⟩ = false := H7.blk.free 2
          have f2d : w7.drew.frozen? ⟨b, 2, none⟩ = false := f2
          have x0 : w7.cell? ⟨b, 20, none⟩ = some (X 0) := H7.cells.2.2.2.2.2.1 0 (by decide)
          have x0d : w7.drew.cell? ⟨b, 20, none⟩ = some (X 0) := x0
          have y0 : w7.frozen? ⟨b, 20, none⟩ = false := H7.blk.free 20
          have y0d : w7.drew.frozen? ⟨b, 20, none⟩ = false := y0
          have r0 : w7.cell? ⟨b, 36, none⟩ = some (.bool (R 0)) := H7.cells.2.2.2.2.2.2 0 (by decide)
          have r0d : w7.drew.cell? ⟨b, 36, none⟩ = some (.bool (R 0)) := r0
          have q0 : w7.frozen? ⟨b, 36, none⟩ = false := H7.blk.free 36
          have q0d : w7.drew.frozen? ⟨b, 36, none⟩ = false := q0
          have d0 : w7.cell? ⟨d, 0, none⟩ = some (.slice (A 0) (D 0).length (K 0)) := oz7.cell (i := 0) (by decide)
          have d0d : w7.drew.cell? ⟨d, 0, none⟩ = some (.slice (A 0) (D 0).length (K 0)) := d0
          have x1 : w7.cell? ⟨b, 21, none⟩ = some (X 1) := H7.cells.2.2.2.2.2.1 1 (by decide)
          have x1d : w7.drew.cell? ⟨b, 21, none⟩ = some (X 1) := x1
          have y1 : w7.frozen? ⟨b, 21, none⟩ = false := H7.blk.free 21
          have y1d : w7.drew.frozen? ⟨b, 21, none⟩ = false := y1
          have r1 : w7.cell? ⟨b, 37, none⟩ = some (.bool (R 1)) := H7.cells.2.2.2.2.2.2 1 (by decide)
          have r1d : w7.drew.cell? ⟨b, 37, none⟩ = some (.bool (R 1)) := r1
          have q1 : w7.frozen? ⟨b, 37, none⟩ = false := H7.blk.free 37
          have q1d : w7.drew.frozen? ⟨b, 37, none⟩ = false := q1
          have d1 : w7.cell? ⟨d, 1, none⟩ = some (.slice (A 1) (D 1).length (K 1)) := oz7.cell (i := 1) (by decide)
          have d1d : w7.drew.cell? ⟨d, 1, none⟩ = some (.slice (A 1) (D 1).length (K 1)) := d1
          have x2 : w7.cell? ⟨b, 22, none⟩ = some (X 2) := H7.cells.2.2.2.2.2.1 2 (by decide)
          have x2d : w7.drew.cell? ⟨b, 22, none⟩ = some (X 2) := x2
          have y2 : w7.frozen? ⟨b, 22, none⟩ = false := H7.blk.free 22
          have y2d : w7.drew.frozen? ⟨b, 22, none⟩ = false := y2
          have r2 : w7.cell? ⟨b, 38, none⟩ = some (.bool (R 2)) := H7.cells.2.2.2.2.2.2 2 (by decide)
          have r2d : w7.drew.cell? ⟨b, 38, none⟩ = some (.bool (R 2)) := r2
          have q2 : w7.frozen? ⟨b, 38, none⟩ = false := H7.blk.free 38
          have q2d : w7.drew.frozen? ⟨b, 38, none⟩ = false := q2
          have d2 : w7.cell? ⟨d, 2, none⟩ = some (.slice (A 2) (D 2).length (K 2)) := oz7.cell (i := 2) (by decide)
          have d2d : w7.drew.cell? ⟨d, 2, none⟩ = some (.slice (A 2) (D 2).length (K 2)) := d2
          have x3 : w7.cell? ⟨b, 23, none⟩ = some (X 3) := H7.cells.2.2.2.2.2.1 3 (by decide)
          have x3d : w7.drew.cell? ⟨b, 23, none⟩ = some (X 3) := x3
          have y3 : w7.frozen? ⟨b, 23, none⟩ = false := H7.blk.free 23
          have y3d : w7.drew.frozen? ⟨b, 23, none⟩ = false := y3
          have r3 : w7.cell? ⟨b, 39, none⟩ = some (.bool (R 3)) := H7.cells.2.2.2.2.2.2 3 (by decide)
          have r3d : w7.drew.cell? ⟨b, 39, none⟩ = some (.bool (R 3)) := r3
          have q3 : w7.frozen? ⟨b, 39, none⟩ = false := H7.blk.free 39
          have q3d : w7.drew.frozen? ⟨b, 39, none⟩ = false := q3
          have d3 : w7.cell? ⟨d, 3, none⟩ = some (.slice (A 3) (D 3).length (K 3)) := oz7.cell (i := 3) (by decide)
          have d3d : w7.drew.cell? ⟨d, 3, none⟩ = some (.slice (A 3) (D 3).length (K 3)) := d3
          have x4 : w7.cell? ⟨b, 24, none⟩ = some (X 4) := H7.cells.2.2.2.2.2.1 4 (by decide)
          have x4d : w7.drew.cell? ⟨b, 24, none⟩ = some (X 4) := x4
          have y4 : w7.frozen? ⟨b, 24, none⟩ = false := H7.blk.free 24
          have y4d : w7.drew.frozen? ⟨b, 24, none⟩ = false := y4
          have r4 : w7.cell? ⟨b, 40, none⟩ = some (.bool (R 4)) := H7.cells.2.2.2.2.2.2 4 (by decide)
          have r4d : w7.drew.cell? ⟨b, 40, none⟩ = some (.bool (R 4)) := r4
          have q4 : w7.frozen? ⟨b, 40, none⟩ = false := H7.blk.free 40
          have q4d : w7.drew.frozen? ⟨b, 40, none⟩ = false := q4
          have d4 : w7.cell? ⟨d, 4, none⟩ = some (.slice (A 4) (D 4).length (K 4)) := oz7.cell (i := 4) (by decide)
          have d4d : w7.drew.cell? ⟨d, 4, none⟩ = some (.slice (A 4) (D 4).length (K 4)) := d4
          have x5 : w7.cell? ⟨b, 25, none⟩ = some (X 5) := H7.cells.2.2.2.2.2.1 5 (by decide)
          have x5d : w7.drew.cell? ⟨b, 25, none⟩ = some (X 5) := x5
          have y5 : w7.frozen? ⟨b, 25, none⟩ = false := H7.blk.free 25
          have y5d : w7.drew.frozen? ⟨b, 25, none⟩ = false := y5
          have r5 : w7.cell? ⟨b, 41, none⟩ = some (.bool (R 5)) := H7.cells.2.2.2.2.2.2 5 (by decide)
          have r5d : w7.drew.cell? ⟨b, 41, none⟩ = some (.bool (R 5)) := r5
          have q5 : w7.frozen? ⟨b, 41, none⟩ = false := H7.blk.free 41
          have q5d : w7.drew.frozen? ⟨b, 41, none⟩ = false := q5
          have d5 : w7.cell? ⟨d, 5, none⟩ = some (.slice (A 5) (D 5).length (K 5)) := oz7.cell (i := 5) (by decide)
          have d5d : w7.drew.cell? ⟨d, 5, none⟩ = some (.slice (A 5) (D 5).length (K 5)) := d5
          have x6 : w7.cell? ⟨b, 26, none⟩ = some (X 6) := H7.cells.2.2.2.2.2.1 6 (by decide)
          have x6d : w7.drew.cell? ⟨b, 26, none⟩ = some (X 6) := x6
          have y6 : w7.frozen? ⟨b, 26, none⟩ = false := H7.blk.free 26
          have y6d : w7.drew.frozen? ⟨b, 26, none⟩ = false := y6
          have r6 : w7.cell? ⟨b, 42, none⟩ = some (.bool (R 6)) := H7.cells.2.2.2.2.2.2 6 (by decide)
          have r6d : w7.drew.cell? ⟨b, 42, none⟩ = some (.bool (R 6)) := r6
          have q6 : w7.frozen? ⟨b, 42, none⟩ = false := H7.blk.free 42
          have q6d : w7.drew.frozen? ⟨b, 42, none⟩ = false := q6
          have d6 : w7.cell? ⟨d, 6, none⟩ = some (.slice (A 6) (D 6).length (K 6)) := oz7.cell (i := 6) (by decide)
          have d6d : w7.drew.cell? ⟨d, 6, none⟩ = some (.slice (A 6) (D 6).length (K 6)) := d6
          have x7 : w7.cell? ⟨b, 27, none⟩ = some (X 7) := H7.cells.2.2.2.2.2.1 7 (by decide)
          have x7d : w7.drew.cell? ⟨b, 27, none⟩ = some (X 7) := x7
          have y7 : w7.frozen? ⟨b, 27, none⟩ = false := H7.blk.free 27
          have y7d : w7.drew.frozen? ⟨b, 27, none⟩ = false := y7
          have r7 : w7.cell? ⟨b, 43, none⟩ = some (.bool (R 7)) := H7.cells.2.2.2.2.2.2 7 (by decide)
          have r7d : w7.drew.cell? ⟨b, 43, none⟩ = some (.bool (R 7)) := r7
          have q7 : w7.frozen? ⟨b, 43, none⟩ = false := H7.blk.free 43
          have q7d : w7.drew.frozen? ⟨b, 43, none⟩ = false := q7
          have d7 : w7.cell? ⟨d, 7, none⟩ = some (.slice (A 7) (D 7).length (K 7)) := oz7.cell (i := 7) (by decide)
          have d7d : w7.drew.cell? ⟨d, 7, none⟩ = some (.slice (A 7) (D 7).length (K 7)) := d7
          have x8 : w7.cell? ⟨b, 28, none⟩ = some (X 8) := H7.cells.2.2.2.2.2.1 8 (by decide)
          have x8d : w7.drew.cell? ⟨b, 28, none⟩ = some (X 8) := x8
          have y8 : w7.frozen? ⟨b, 28, none⟩ = false := H7.blk.free 28
          have y8d : w7.drew.frozen? ⟨b, 28, none⟩ = false := y8
          have r8 : w7.cell? ⟨b, 44, none⟩ = some (.bool (R 8)) := H7.cells.2.2.2.2.2.2 8 (by decide)
          have r8d : w7.drew.cell? ⟨b, 44, none⟩ = some (.bool (R 8)) := r8
          have q8 : w7.frozen? ⟨b, 44, none⟩ = false := H7.blk.free 44
          have q8d : w7.drew.frozen? ⟨b, 44, none⟩ = false := q8
          have d8 : w7.cell? ⟨d, 8, none⟩ = some (.slice (A 8) (D 8).length (K 8)) := oz7.cell (i := 8) (by decide)
          have d8d : w7.drew.cell? ⟨d, 8, none⟩ = some (.slice (A 8) (D 8).length (K 8)) := d8
          have x9 : w7.cell? ⟨b, 29, none⟩ = some (X 9) := H7.cells.2.2.2.2.2.1 9 (by decide)
          have x9d : w7.drew.cell? ⟨b, 29, none⟩ = some (X 9) := x9
          have y9 : w7.frozen? ⟨b, 29, none⟩ = false := H7.blk.free 29
          have y9d : w7.drew.frozen? ⟨b, 29, none⟩ = false := y9
          have r9 : w7.cell? ⟨b, 45, none⟩ = some (.bool (R 9)) := H7.cells.2.2.2.2.2.2 9 (by decide)
          have r9d : w7.drew.cell? ⟨b, 45, none⟩ = some (.bool (R 9)) := r9
          have q9 : w7.frozen? ⟨b, 45, none⟩ = false := H7.blk.free 45
          have q9d : w7.drew.frozen? ⟨b, 45, none⟩ = false := q9
          have d9 : w7.cell? ⟨d, 9, none⟩ = some (.slice (A 9) (D 9).length (K 9)) := oz7.cell (i := 9) (by decide)
          have d9d : w7.drew.cell? ⟨d, 9, none⟩ = some (.slice (A 9) (D 9).length (K 9)) := d9
          have x10 : w7.cell? ⟨b, 30, none⟩ = some (X 10) := H7.cells.2.2.2.2.2.1 10 (by decide)
          have x10d : w7.drew.cell? ⟨b, 30, none⟩ = some (X 10) := x10
          have y10 : w7.frozen? ⟨b, 30, none⟩ = false := H7.blk.free 30
          have y10d : w7.drew.frozen? ⟨b, 30, none⟩ = false := y10
          have r10 : w7.cell? ⟨b, 46, none⟩ = some (.bool (R 10)) := H7.cells.2.2.2.2.2.2 10 (by decide)
          have r10d : w7.drew.cell? ⟨b, 46, none⟩ = some (.bool (R 10)) := r10
          have q10 : w7.frozen? ⟨b, 46, none⟩ = false := H7.blk.free 46
          have q10d : w7.drew.frozen? ⟨b, 46, none⟩ = false := q10
          have d10 : w7.cell? ⟨d, 10, none⟩ = some (.slice (A 10) (D 10).length (K 10)) := oz7.cell (i := 10) (by decide)
          have d10d : w7.drew.cell? ⟨d, 10, none⟩ = some (.slice (A 10) (D 10).length (K 10)) := d10
          have x11 : w7.cell? ⟨b, 31, none⟩ = some (X 11) := H7.cells.2.2.2.2.2.1 11 (by decide)
          have x11d : w7.drew.cell? ⟨b, 31, none⟩ = some (X 11) := x11
          have y11 : w7.frozen? ⟨b, 31, none⟩ = false := H7.blk.free 31
          have y11d : w7.drew.frozen? ⟨b, 31, none⟩ = false := y11
          have r11 : w7.cell? ⟨b, 47, none⟩ = some (.bool (R 11)) := H7.cells.2.2.2.2.2.2 11 (by decide)
          have r11d : w7.drew.cell? ⟨b, 47, none⟩ = some (.bool (R 11)) := r11
          have q11 : w7.frozen? ⟨b, 47, none⟩ = false := H7.blk.free 47
          have q11d : w7.drew.frozen? ⟨b, 47, none⟩ = false := q11
          have d11 : w7.cell? ⟨d, 11, none⟩ = some (.slice (A 11) (D 11).length (K 11)) := oz7.cell (i := 11) (by decide)
          have d11d : w7.drew.cell? ⟨d, 11, none⟩ = some (.slice (A 11) (D 11).length (K 11)) := d11
          have x12 : w7.cell? ⟨b, 32, none⟩ = some (X 12) := H7.cells.2.2.2.2.2.1 12 (by decide)
          have x12d : w7.drew.cell? ⟨b, 32, none⟩ = some (X 12) := x12
          have y12 : w7.frozen? ⟨b, 32, none⟩ = false := H7.blk.free 32
          have y12d : w7.drew.frozen? ⟨b, 32, none⟩ = false := y12
          have r12 : w7.cell? ⟨b, 48, none⟩ = some (.bool (R 12)) := H7.cells.2.2.2.2.2.2 12 (by decide)
          have r12d : w7.drew.cell? ⟨b, 48, none⟩ = some (.bool (R 12)) := r12
          have q12 : w7.frozen? ⟨b, 48, none⟩ = false := H7.blk.free 48
          have q12d : w7.drew.frozen? ⟨b, 48, none⟩ = false := q12
          have d12 : w7.cell? ⟨d, 12, none⟩ = some (.slice (A 12) (D 12).length (K 12)) := oz7.cell (i := 12) (by decide)
          have d12d : w7.drew.cell? ⟨d, 12, none⟩ = some (.slice (A 12) (D 12).length (K 12)) := d12
          have x13 : w7.cell? ⟨b, 33, none⟩ = some (X 13) := H7.cells.2.2.2.2.2.1 13 (by decide)
          have x13d : w7.drew.cell? ⟨b, 33, none⟩ = some (X 13) := x13
          have y13 : w7.frozen? ⟨b, 33, none⟩ = false := H7.blk.free 33
          have y13d : w7.drew.frozen? ⟨b, 33, none⟩ = false := y13
          have r13 : w7.cell? ⟨b, 49, none⟩ = some (.bool (R 13)) := H7.cells.2.2.2.2.2.2 13 (by decide)
          have r13d : w7.drew.cell? ⟨b, 49, none⟩ = some (.bool (R 13)) := r13
          have q13 : w7.frozen? ⟨b, 49, none⟩ = false := H7.blk.free 49
          have q13d : w7.drew.frozen? ⟨b, 49, none⟩ = false := q13
          have d13 : w7.cell? ⟨d, 13, none⟩ = some (.slice (A 13) (D 13).length (K 13)) := oz7.cell (i := 13) (by decide)
          have d13d : w7.drew.cell? ⟨d, 13, none⟩ = some (.slice (A 13) (D 13).length (K 13)) := d13
          have x14 : w7.cell? ⟨b, 34, none⟩ = some (X 14) := H7.cells.2.2.2.2.2.1 14 (by decide)
          have x14d : w7.drew.cell? ⟨b, 34, none⟩ = some (X 14) := x14
          have y14 : w7.frozen? ⟨b, 34, none⟩ = false := H7.blk.free 34
          have y14d : w7.drew.frozen? ⟨b, 34, none⟩ = false := y14
          have r14 : w7.cell? ⟨b, 50, none⟩ = some (.bool (R 14)) := H7.cells.2.2.2.2.2.2 14 (by decide)
          have r14d : w7.drew.cell? ⟨b, 50, none⟩ = some (.bool (R 14)) := r14
          have q14 : w7.frozen? ⟨b, 50, none⟩ = false := H7.blk.free 50
          have q14d : w7.drew.frozen? ⟨b, 50, none⟩ = false := q14
          have d14 : w7.cell? ⟨d, 14, none⟩ = some (.slice (A 14) (D 14).length (K 14)) := oz7.cell (i := 14) (by decide)
          have d14d : w7.drew.cell? ⟨d, 14, none⟩ = some (.slice (A 14) (D 14).length (K 14)) := d14
          have x15 : w7.cell? ⟨b, 35, none⟩ = some (X 15) := H7.cells.2.2.2.2.2.1 15 (by decide)
          have x15d : w7.drew.cell? ⟨b, 35, none⟩ = some (X 15) := x15
          have y15 : w7.frozen? ⟨b, 35, none⟩ = false := H7.blk.free 35
          have y15d : w7.drew.frozen? ⟨b, 35, none⟩ = false := y15
          have r15 : w7.cell? ⟨b, 51, none⟩ = some (.bool (R 15)) := H7.cells.2.2.2.2.2.2 15 (by decide)
          have r15d : w7.drew.cell? ⟨b, 51, none⟩ = some (.bool (R 15)) := r15
          have q15 : w7.frozen? ⟨b, 51, none⟩ = false := H7.blk.free 51
          have q15d : w7.drew.frozen? ⟨b, 51, none⟩ = false := q15
          have d15 : w7.cell? ⟨d, 15, none⟩ = some (.slice (A 15) (D 15).length (K 15)) := oz7.cell (i := 15) (by decide)
          have d15d : w7.drew.cell? ⟨d, 15, none⟩ = some (.slice (A 15) (D 15).length (K 15)) := d15
          have oN := ((((((((((((((((((((((((((((((((H7.blk.put 2 (.int .i64 (la + 1))).put 20 (.slice (A 0) (D 0).length (K 0))).put 21 (.slice (A 1) (D 1).length (K 1))).put 22 (.slice (A 2) (D 2).length (K 2))).put 23 (.slice (A 3) (D 3).length (K 3))).put 24 (.slice (A 4) (D 4).length (K 4))).put 25 (.slice (A 5) (D 5).length (K 5))).put 26 (.slice (A 6) (D 6).length (K 6))).put 27 (.slice (A 7) (D 7).length (K 7))).put 28 (.slice (A 8) (D 8).length (K 8))).put 29 (.slice (A 9) (D 9).length (K 9))).put 30 (.slice (A 10) (D 10).length (K 10))).put 31 (.slice (A 11) (D 11).length (K 11))).put 32 (.slice (A 12) (D 12).length (K 12))).put 33 (.slice (A 13) (D 13).length (K 13))).put 34 (.slice (A 14) (D 14).length (K 14))).put 35 (.slice (A 15) (D 15).length (K 15))).put 36 (.bool false)).put 37 (.bool false)).put 38 (.bool false)).put 39 (.bool false)).put 40 (.bool false)).put 41 (.bool false)).put 42 (.bool false)).put 43 (.bool false)).put 44 (.bool false)).put 45 (.bool false)).put 46 (.bool false)).put 47 (.bool false)).put 48 (.bool false)).put 49 (.bool false)).put 50 (.bool false)).put 51 (.bool false)
          have jN := (((((((((((((((((((((((((((((((((Just.refl b w7).put 2 (.int .i64 (la + 1))).put 20 (.slice (A 0) (D 0).length (K 0))).put 21 (.slice (A 1) (D 1).length (K 1))).put 22 (.slice (A 2) (D 2).length (K 2))).put 23 (.slice (A 3) (D 3).length (K 3))).put 24 (.slice (A 4) (D 4).length (K 4))).put 25 (.slice (A 5) (D 5).length (K 5))).put 26 (.slice (A 6) (D 6).length (K 6))).put 27 (.slice (A 7) (D 7).length (K 7))).put 28 (.slice (A 8) (D 8).length (K 8))).put 29 (.slice (A 9) (D 9).length (K 9))).put 30 (.slice (A 10) (D 10).length (K 10))).put 31 (.slice (A 11) (D 11).length (K 11))).put 32 (.slice (A 12) (D 12).length (K 12))).put 33 (.slice (A 13) (D 13).length (K 13))).put 34 (.slice (A 14) (D 14).length (K 14))).put 35 (.slice (A 15) (D 15).length (K 15))).put 36 (.bool false)).put 37 (.bool false)).put 38 (.bool false)).put 39 (.bool false)).put 40 (.bool false)).put 41 (.bool false)).put 42 (.bool false)).put 43 (.bool false)).put 44 (.bool false)).put 45 (.bool false)).put 46 (.bool false)).put 47 (.bool false)).put 48 (.bool false)).put 49 (.bool false)).put 50 (.bool false)).put 51 (.bool false)
          go_region
          generalize ((((((((((((((((((((((((((((((((w7.setCell ⟨b, 2, none⟩ (.int .i64 (la + 1))).setCell ⟨b, 20, none⟩ (.slice (A 0) (D 0).length (K 0))).setCell ⟨b, 21, none⟩ (.slice (A 1) (D 1).length (K 1))).setCell ⟨b, 22, none⟩ (.slice (A 2) (D 2).length (K 2))).setCell ⟨b, 23, none⟩ (.slice (A 3) (D 3).length (K 3))).setCell ⟨b, 24, none⟩ (.slice (A 4) (D 4).length (K 4))).setCell ⟨b, 25, none⟩ (.slice (A 5) (D 5).length (K 5))).setCell ⟨b, 26, none⟩ (.slice (A 6) (D 6).length (K 6))).setCell ⟨b, 27, none⟩ (.slice (A 7) (D 7).length (K 7))).setCell ⟨b, 28, none⟩ (.slice (A 8) (D 8).length (K 8))).setCell ⟨b, 29, none⟩ (.slice (A 9) (D 9).length (K 9))).setCell ⟨b, 30, none⟩ (.slice (A 10) (D 10).length (K 10))).setCell ⟨b, 31, none⟩ (.slice (A 11) (D 11).length (K 11))).setCell ⟨b, 32, none⟩ (.slice (A 12) (D 12).length (K 12))).setCell ⟨b, 33, none⟩ (.slice (A 13) (D 13).length (K 13))).setCell ⟨b, 34, none⟩ (.slice (A 14) (D 14).length (K 14))).setCell ⟨b, 35, none⟩ (.slice (A 15) (D 15).length (K 15))).setCell ⟨b, 36, none⟩ (.bool false)).setCell ⟨b, 37, none⟩ (.bool false)).setCell ⟨b, 38, none⟩ (.bool false)).setCell ⟨b, 39, none⟩ (.bool false)).setCell ⟨b, 40, none⟩ (.bool false)).setCell ⟨b, 41, none⟩ (.bool false)).setCell ⟨b, 42, none⟩ (.bool false)).setCell ⟨b, 43, none⟩ (.bool false)).setCell ⟨b, 44, none⟩ (.bool false)).setCell ⟨b, 45, none⟩ (.bool false)).setCell ⟨b, 46, none⟩ (.bool false)).setCell ⟨b, 47, none⟩ (.bool false)).setCell ⟨b, 48, none⟩ (.bool false)).setCell ⟨b, 49, none⟩ (.bool false)).setCell ⟨b, 50, none⟩ (.bool false)).setCell ⟨b, 51, none⟩ (.bool false) = w9 at *
          have oN : Blk w9 b 47 52 (rbV N v (la + 1) (la + 1) P (fun x => .slice (A x) (D x).length (K x)) (fun _ => false)) := oN.ext (fun i hi => by
            rcases (show i = 0 ∨ i = 1 ∨ i = 2 ∨ i = 3 ∨ i = 4 ∨ i = 5 ∨ i = 6 ∨ i = 7 ∨ i = 8 ∨ i = 9 ∨ i = 10 ∨ i = 11 ∨ i = 12 ∨ i = 13 ∨ i = 14 ∨ i = 15 ∨ i = 16 ∨ i = 17 ∨ i = 18 ∨ i = 19 ∨ i = 20 ∨ i = 21 ∨ i = 22 ∨ i = 23 ∨ i = 24 ∨ i = 25 ∨ i = 26 ∨ i = 27 ∨ i = 28 ∨ i = 29 ∨ i = 30 ∨ i = 31 ∨ i = 32 ∨ i = 33 ∨ i = 34 ∨ i = 35 ∨ i = 36 ∨ i = 37 ∨ i = 38 ∨ i = 39 ∨ i = 40 ∨ i = 41 ∨ i = 42 ∨ i = 43 ∨ i = 44 ∨ i = 45 ∨ i = 46 ∨ i = 47 ∨ i = 48 ∨ i = 49 ∨ i = 50 ∨ i = 51 by omega) with rfl | rfl | rfl | rfl | rfl | rfl | rfl | rfl | rfl | rfl | rfl | rfl | rfl | rfl | rfl | rfl | rfl | rfl | rfl | rfl | rfl | rfl | rfl | rfl | rfl | rfl | rfl | rfl | rfl | rfl | rfl | rfl | rfl | rfl | rfl | rfl | rfl | rfl | rfl | rfl | rfl | rfl | rfl | rfl | rfl | rfl | rfl | rfl | rfl | rfl | rfl | rfl <;> rfl)
          have m2 : w9.drew.cell? ⟨b, 2, none⟩ = some (.int .i64 (la + 1)) := oN.cell (i := 2) (by decide)
          go_wp2_with fail
          refine bodyPost_ret (results_tmp2 rfl _ _ _) rfl ?_
          refine .inr ⟨HE.out, rfl, jj.trans (jN.drewN 1), fun x => .slice (A x) (D x).length (K x), M, HMP.out, ⟨oN.drewN 1, fun x hx => (H7.now x hx).just (jN.drewN 1) (by omega), fun x hx => ?_⟩⟩
          have e9 : srtU (dealt M x) = D x := congrFun HDD.out x
          rw [e9]
          exact ((HRV7.out x hx).mono (by omega)).just (jN.drewN 1) (by omega)
      -- B>
    · intro e he w5 hit5 j5
      -- <C
      have he := Array.mem_toList_iff.2 he
      obtain ⟨hme, _⟩ := mem_left he
      have hstep := left_step HM.out.nd he
      have hdw : d + 1 < wr.heap.size := iter_lt hit
      have hmap5 : w5.heap[bm]? = some (.map es clock) := (j5.block bm (iter_lt hmap) (by omega)).trans hmap
      have hen := run_entry_at (P := Try.prog) w5 (d + 1) bm clock seen es clock e hit5 hmap5 hme HM.out.nd
      have b5 : Below d w w5 := j5.below bz (by omega) (by omega)
      obtain ⟨ea, ec, hv, hln, hlc, hrow⟩ := (mapOf_at HM.out (HD.out.symm ▸ b5)).val e hme
      rw [HM.out.key e hme, hv] at hen ⊢
      have heL : E e ∈ L := by rw [← HL.out]; exact List.mem_map.2 ⟨e, hme, rfl⟩
      obtain ⟨nd, hnd⟩ : ∃ q, (E e).1 = q := ⟨_, rfl⟩
      obtain ⟨l, hl⟩ : ∃ q, (E e).2 = q := ⟨_, rfl⟩
      have HEE : Hid (E e = (nd, l)) := Lib.hid (by rw [← hnd, ← hl])
      rw [HEE.out] at heL
      rw [hl] at hln hrow hen ⊢
      rw [hnd] at hen ⊢
      have HRW := Lib.hid hrow
      have HEL := Lib.hid heL
      have HSH := Lib.hid (left_shrinks es seen e he)
      have hstep2 : Hid (((S ++ [e]) ++ (leftOf es (seen.push e.born)).toList).Perm es.toList) := Lib.hid (by
        rw [List.append_assoc, List.singleton_append]
        exact (hstep.append_left S).trans HSL.out)
      have HSN : Hid ((S ++ [e]).map E = S.map E ++ [(nd, l)]) := Lib.hid (by rw [List.map_append, List.map_singleton, HEE.out])
      have o5 := j5.blk oz (by omega)
      have HRV5 : Hid (∀ x, x < 16 → Rv w5 (d + 1) (.slice (A x) (srtU (dealt (S.map E) x)).length (K x)) (srtU (dealt (S.map E) x))) := Lib.hid (fun x hx => Rv.off (HRV.out x hx) (fun i => by unfold World.cell?; rw [hit]) j5)
      clear hrow hv hnd hl hit hmap hmap5 j5 bz oz hstep HSL hdw HRV heL
      obtain ⟨T, hTT⟩ : ∃ q, S.map E = q := ⟨_, rfl⟩
      rw [hTT] at o5 HRV5 HSN HFT
      have HTT := Lib.hid hTT
      clear hTT
      unfold maxLen at hlc
      obtain ⟨m, hm⟩ : ∃ q, l.length = q := ⟨_, rfl⟩
      rw [hm] at hen hln ⊢
      have HMm := Lib.hid hm
      clear hm
      have hm63 : (m : Int) ≤ 9223372036854775807 := by omega
      have c0 := (H.out.below (HD.out.symm ▸ b5)).cells.1
      have hbad : ∀ q : Bool, (hasB N nd && decide (l.length ≤ 64)) = false → begE N la L = 1 := fun _ hq => by
        unfold begE
        rw [fit_no HEL.out hq, if_pos rfl]
      have HBAD := Lib.hid (hbad true)
      clear hbad
      by_cases h0 : nd < 0
      · have HE : Hid (begE N la L = 1) := Lib.hid (HBAD.out (by
          have : hasB N nd = false := by unfold hasB; simp; omega
          rw [this, Bool.false_and]))
        have g1 : decide (nd < 0) = true := by simpa using h0
        clear h0 HBAD
        go_wp2_with fail
        refine bodyPost_ret (results_tmp2 rfl _ _ _) rfl ?_
        exact .inl ⟨by rw [HE.out]; decide, by rw [HE.out]; rfl, by rw [HD.out]; exact b5⟩
      have g1 : decide (nd < 0) = false := by simpa using h0
      by_cases h1 : N ≤ nd
      · have HE : Hid (begE N la L = 1) := Lib.hid (HBAD.out (by
          have : hasB N nd = false := by unfold hasB; simp; omega
          rw [this, Bool.false_and]))
        have g2 : decide (N ≤ nd) = true := by simpa using h1
        clear h0 h1 HBAD
        go_wp2_with fail
        refine bodyPost_ret (results_tmp2 rfl _ _ _) rfl ?_
        exact .inl ⟨by rw [HE.out]; decide, by rw [HE.out]; rfl, by rw [HD.out]; exact b5⟩
      have g2 : decide (N ≤ nd) = false := by simpa using h1
      by_cases h2 : 64 < m
      · have HE : Hid (begE N la L = 1) := Lib.hid (HBAD.out (by
          have : decide (l.length ≤ 64) = false := by rw [HMm.out]; simp; omega
          rw [this, Bool.and_false]))
        have g3 : decide ((64 : Int) < (m : Int)) = true := by simp; omega
        have g3' : decide (64 < m) = true := by simp; omega
        clear h0 h1 h2 HBAD
        go_wp2_with fail
        refine bodyPost_ret (results_tmp2 rfl _ _ _) rfl ?_
        exact .inl ⟨by rw [HE.out]; decide, by rw [HE.out]; rfl, by rw [HD.out]; exact b5⟩
      have g3 : decide ((64 : Int) < (m : Int)) = false := by simp; omega
      have g3' : decide (64 < m) = false := by simp; omega
      obtain ⟨q, rfl⟩ := Int.eq_ofNat_of_zero_le (show 0 ≤ nd by omega)
      have hq16 : q < 16 := by omega
      have g4 : (q : Int) < 16 := by omega
      have HB : Hid (hasB N (q : Int) = true ∧ l.length ≤ 64) := Lib.hid ⟨by unfold hasB; simp; omega, by rw [HMm.out]; omega⟩
      have hm1 : m ≤ 100000 := by omega
      have PS := sorted_any ea m ec l w5 (by have := HRW.out; rw [HMm.out] at this; exact this) HMm.out hm1
      have HDE : Hid (∀ i, srtU (dealt (T ++ [((q : Int), l)]) i) = if i = q then srtU l else srtU (dealt T i)) := Lib.hid (fun i => by
        rw [dealt_snoc]
        dsimp only
        by_cases h : i = q
        · rw [if_pos h, if_pos (by rw [h])]
        · rw [if_neg h, if_neg (by omega)])
      have hd5 : d < w5.heap.size := o5.lt
      have hit5' := iter_lt hit5
      clear h0 h1 h2 HBAD c0
      have c0 := (H.out.below (HD.out.symm ▸ b5)).cells.1
      go_wp2_with (go_at_call 33; refine PS.mono ?_; rintro r6 w6 ⟨v6, rfl, m6, b6⟩; obtain ⟨a6, k6, rfl, hk1, hk2, hk3⟩ := m6.row; have f1 := (below_blk b6 o5 hd5).cell hq16; have f2 : w6.frozen? ⟨d, q, none⟩ = false := (below_blk b6 o5 hd5).free q)
      have o6 := (below_blk b6 o5 hd5 : Blk w6 d 36 16 _).put q (.slice a6 m k6)
      have j6 := Just.set d w6 q (.slice a6 m k6)
      have b7 := j6.below (b5.trans (b6.mono (Nat.le_of_lt hd5))) (Nat.le_refl d) (Nat.le_of_lt (Nat.lt_of_lt_of_le hd5 b6.size))
      have hit6 : w6.heap[d + 1]? = _ := (b6.block (d + 1) hit5').trans hit5
      have hit7 := (j6.block (d + 1) (iter_lt hit6) (by omega)).trans hit6
      refine ⟨⟨S ++ [e], seen.push e.born, clock, fun i => if i = q then a6 else A i, fun i => if i = q then k6 else K i, hit7, Nat.le_refl _, hstep2, b7, o6.ext (fun i hi => ?_), Lib.hid ?_, Lib.hid ?_⟩, ?_⟩
      · rw [HSN.out, HDE.out i]
        by_cases h : i = q
        · simp only [if_pos h]
          rw [srtU_len, HMm.out]
        · simp only [if_neg h]
      · intro x hx
        rw [HSN.out, HDE.out x]
        by_cases h : x = q
        · simp only [if_pos h]
          rw [srtU_len, HMm.out]
          refine Rv.just (lo := d + 1) (g := d) ⟨a6, k6, by rw [srtU_len, HMm.out], by rw [srtU_len, HMm.out]; exact hk1, hk2, by rw [srtU_len, HMm.out]; exact hk3, fun h0 z hz => ?_⟩ j6 (by omega)
          have := (m6.lt z (by cases a6 with | none => cases hz | some p => exact hz)).1
          omega
        · simp only [if_neg h]
          exact ((HRV5.out x hx).below b6).just j6 (by omega)
      · intro z hz
        rw [HSN.out, List.mem_append] at hz
        rcases hz with hz | hz
        · exact HFT.out z hz
        · rw [List.mem_singleton] at hz
          subst hz
          exact HB.out
      · rw [HST.out]
        unfold stillTo World.iterSeen
        rw [hit7]
        exact HSH.out
      -- C>
end Go.Proofs.Ytdpkiolngglpaaa.Ve
