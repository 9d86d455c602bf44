/-
  Package alloc (chapter 22): a link at the first place that there is; taking a cell back; both links or neither.
-/
import Derived.Test.YtahcplddonipcaaGreatAlFits
import Derived.Test.YtahcplddonipcaaGreatCut
import Derived.Deep.RegionLaw
import Derived.Deep.RegionHeld3
import Derived.IntWalk
set_option maxRecDepth 100000
namespace Go.Proofs.YtahcplddonipcaaGreat.Al
set_option linter.unusedVariables false
set_option linter.unusedSimpArgs false
open Go.RowKit Lb Cl Ce Mi

theorem infoC5 : (Tryz.prog.info? 50).map (fun i => (i.zero, i.size, i.bytes)) = some (some (.agg #[.int .i64 0, .int .i64 0, .int .i64 0, .int .i64 0, .int .i64 0]), 5, 40) := by kernel_rfl
theorem owns_at {w : World} {lo s n q : Nat} {e : TypeId} {v : Value} {L : List Value} (h : w.ownsRow lo e s v n L) (hq : v.ownBlock = some q) : lo ≤ q ∧ ∃ cs, Own w q e cs := by
  obtain ⟨_, h2⟩ := h
  rcases h2 with ⟨rfl, _⟩ | ⟨g, cap, cur, rfl, hg, hh, _⟩
  · cases hq
  · injection hq with hq
    subst hq
    exact ⟨hg, cur, hh⟩
theorem own_type {w : World} {q : Nat} {t e : TypeId} {cs ds : Array Value} (h : Own w q t cs) (k : Own w q e ds) : t = e := by
  have h' : w.heap[q]? = some _ := h
  have k' : w.heap[q]? = some _ := k
  rw [h'] at k'
  injection k' with k'
  injection k' with _ k' _
theorem mineK_ne {w : World} {lo : Nat} {e t : TypeId} {s n b : Nat} {v : Value} {V : Nat → Value} {cs : Array Value} (h : MineK w lo e s v n V) (o : Own w b t cs) (ht : t ≠ e) : v.ownBlock ≠ some b := fun q => by
  obtain ⟨_, ds, o2⟩ := owns_at h q
  exact ht (own_type o o2)
theorem dt_ne : (64 : TypeId) ≠ 50 := by decide
/-- The dealer, and what it has dealt. -/
structure Dr (w : World) (lo db bm : Nat) (f len chans : Int) (vs : Nat → Value) (F : Hs) : Prop where
  own : Own w db 64 #[.int .i64 f, .int .i64 len, .int .i64 chans, .map (some bm)]
  dm : Dm w lo bm vs F
  few : ∀ k, (F k).length ≤ 64
  le : lo ≤ w.heap.size
theorem Dr.below {w w' : World} {lo db bm : Nat} {f len chans : Int} {vs : Nat → Value} {F : Hs} (h : Dr w lo db bm f len chans vs F) (j : Below w.heap.size w w') : Dr w' lo db bm f len chans vs F := ⟨below_own j h.own h.own.lt, h.dm.below j, h.few, Nat.le_trans h.le j.size⟩
/-- What is there is as it was, but for block bm and rows of cells from lo on. -/
structure Jb (lo bm : Nat) (w w' : World) : Prop where
  os : w'.os = w.os
  tape : w'.tape = w.tape
  output : w'.output = w.output
  size : w.heap.size ≤ w'.heap.size
  block : ∀ k, k < w.heap.size → k ≠ bm → (k < lo ∨ ∀ cs, ¬ Own w k 50 cs) → w'.heap[k]? = w.heap[k]?
theorem Jb.of_below {lo bm : Nat} {w w' : World} (h : Below w.heap.size w w') (hl : lo ≤ w.heap.size) : Jb lo bm w w' := ⟨h.os, h.tape, h.output, h.size, fun k hk _ _ => h.block k hk⟩
theorem Jb.of_just {lo bm : Nat} {w w' : World} (h : Just bm w w') (hl : lo ≤ w.heap.size) : Jb lo bm w w' := ⟨h.os, h.tape, h.output, h.size, fun k hk hb _ => h.block k hk hb⟩
theorem Jb.of_grown {lo bm : Nat} {w w' : World} {row : Option Nat} (h : w.grownBy w' row) (hr : ∀ q, row = some q → lo ≤ q ∧ ∃ cs, Own w q 50 cs) (hl : lo ≤ w.heap.size) : Jb lo bm w w' := by
  have b : Below lo w w' := (Below.refl lo w).grown h hl (fun q e => (hr q e).1)
  refine ⟨b.os, b.tape, b.output, b.size, fun k hk _ hc => h.block k hk (fun e => ?_)⟩
  obtain ⟨h1, cs, h2⟩ := hr k e.symm
  rcases hc with hc | hc
  · omega
  · exact hc cs h2
theorem Jb.trans {lo bm : Nat} {u v w : World} (h : Jb lo bm u v) (k : Jb lo bm v w) : Jb lo bm u w := ⟨k.os.trans h.os, k.tape.trans h.tape, k.output.trans h.output, Nat.le_trans h.size k.size, fun i hi hb hc => by
  have e := h.block i hi hb hc
  refine (k.block i (Nat.lt_of_lt_of_le hi h.size) hb (hc.imp id (fun hn cs o => hn cs ?_))).trans e
  have o' : v.heap[i]? = some _ := o
  rw [e] at o'
  exact o'⟩
theorem Jb.refl (lo bm : Nat) (w : World) : Jb lo bm w w := ⟨rfl, rfl, rfl, Nat.le_refl _, fun _ _ _ _ => rfl⟩
theorem Dr.ne {w : World} {lo db bm : Nat} {f len chans : Int} {vs : Nat → Value} {F : Hs} (h : Dr w lo db bm f len chans vs F) : db ≠ bm := fun e => by
  obtain ⟨es, c, h1, _⟩ := h.dm.ms
  have o' : w.heap[db]? = some _ := h.own
  rw [e, h1] at o'
  cases o'
theorem mineK_cut {w : World} {lo : Nat} {v : Value} {l : List C} (h : MineK w lo 50 5 v l.length (lv l)) (hl : 2 ≤ l.length) : ∃ b c, v = .slice (some ⟨b, 0, none⟩) l.length c ∧ l.length ≤ c ∧ c ≤ maxLen ∧ MineK w lo 50 5 (.slice (some ⟨b, 0, none⟩) (l.length - 1) c) l.dropLast.length (lv l.dropLast) := by
  obtain ⟨b, c, cs, hv, hb, ho, hn, hm, hs, hc⟩ := h.block (by omega)
  refine ⟨b, c, hv, hn, hm, ?_⟩
  have := MineK.made (base := lo) (n := l.length - 1) (c := c) (s := 5) (V := lv l.dropLast) ho hb hs hm (by omega) (fun i hi => by
    rw [hc i (by omega)]
    congr 1
    have hq : i / 5 < l.length - 1 := by omega
    unfold lv cv
    have e : at_ l.dropLast (i / 5) = at_ l (i / 5) := by
      unfold at_
      rw [List.getD_eq_getElem?_getD, List.getD_eq_getElem?_getD, List.getElem?_dropLast, if_pos hq]
    rw [e])
  rw [List.length_dropLast]
  exact this
def backF (F : Hs) (k : Nat) : Hs := fun j => if j = k then (F k).dropLast else F j
set_option maxHeartbeats 2000000 in
theorem take_d (lo db bm k : Nat) (f len chans : Int) (vs : Nat → Value) (F : Hs) (w : World) (h : Dr w lo db bm f len chans vs F) (hk : k < 16) (hF : F k ≠ []) :
    Calls Tryz.prog 48 #[.pointer (some ⟨db, 0, none⟩), .int .i64 (k : Nat)] w fun r w' => r = .returned (.tuple #[]) ∧ (∃ vs', Dr w' lo db bm f len chans vs' (backF F k)) ∧ Jb lo bm w w' := by
  have hpos : 0 < (F k).length := List.length_pos_iff.2 hF
  have c3 : w.cell? ⟨db, 3, none⟩ = some (.map (some bm)) := h.own.cell 3
  have hlk := h.dm.look (k := k) hk
  unfold kv at hlk
  have hlo : lo ≤ w.heap.size := h.le
  have hne := h.ne
  have hbl := h.own.lt
  have hbm := h.dm.ms.lt
  by_cases h1 : (F k).length = 1
  · obtain ⟨a, c, hv, hn, hc, _⟩ := (h.dm.rows.row k hk).row
    rw [hv] at hlk
    rw [h1] at hlk
    obtain ⟨w', hdel, j, hsz, dm⟩ := h.dm.drop hk hF 3
    have hdrop : (F k).dropLast = [] := by
      obtain ⟨x, hx⟩ := List.length_eq_one_iff.1 h1
      rw [hx]
      rfl
    have HD : Hid ((fun j => if j = k then ([] : List C) else F j) = backF F k) := Lib.hid (by unfold backF; rw [hdrop])
    have bj : Jb lo bm w w' := Jb.of_just j hlo
    have hlo' : lo ≤ w'.heap.size := Nat.le_trans hlo j.size
    have own' : Own w' db 64 #[.int .i64 f, .int .i64 len, .int .i64 chans, .map (some bm)] := (j.block db hbl hne).trans h.own
    have hdel2 : ∀ ty, (Builtin.delete_ #[28, 3] ty #[.map (some bm), .int .i64 (k : Nat)]).run Tryz.prog w = .ok (.tuple #[]) w' := fun ty => by
      obtain ⟨w2, q1, _⟩ := h.dm.drop hk hF ty
      have : (Builtin.delete_ #[28, 3] ty #[.map (some bm), kv k]) = (Builtin.delete_ #[28, 3] 3 #[.map (some bm), kv k]) := rfl
      exact hdel
    have few' : ∀ j, (backF F k j).length ≤ 64 := fun j => by
      unfold backF
      split
      · rw [List.length_dropLast]
        have := h.few k
        omega
      · exact h.few j
    have FEW := Lib.hid few'
    clear few' hdrop h1 hn hpos
    go_enter Tryz.func48, Tryz.ntmps48
    go_wp2_with (at_delete; refine wpList_plain rfl fun K' hK' => ?_; unfold Oper.wp; simp [execOp, resolve, invoke, builtin, hdel2, Result.andThen]; refine hK' _ _ ?_)
    refine bodyPost_ret (results_none rfl _ _ _) rfl ?_
    exact ⟨rfl, ⟨_, own', HD.out ▸ dm, FEW.out, hlo'⟩, bj⟩
  · obtain ⟨b, c, hv, hn, hc, mc⟩ := mineK_cut (h.dm.rows.row k hk) (by omega)
    obtain ⟨n, hn0⟩ : ∃ n, (F k).length = n := ⟨_, rfl⟩
    have hne' : (F k).dropLast ≠ [] := fun e => by
      have := congrArg List.length e
      rw [List.length_dropLast] at this
      simp at this
      omega
    have hd : Dm w.drew lo bm vs F := h.dm.below (below_drewN (Below.refl _ _) 1)
    obtain ⟨w', hput, j, hsz, dm⟩ := hd.app (w1 := w.drew) hk hne' (mc.drewN 1) (World.grownBy.refl _ _) (.inl (by rw [hv]; rfl))
    unfold kv at hput
    rw [hv] at hlk
    rw [hn0] at hlk hput hn h1 hpos
    have hn2 : n ≤ 64 := by rw [← hn0]; exact h.few k
    have HD : Hid ((fun j => if j = k then (F k).dropLast else F j) = backF F k) := Lib.hid rfl
    have bj : Jb lo bm w w' := (Jb.of_below (below_drewN (Below.refl _ w) 1) hlo).trans (Jb.of_just j hlo)
    have hlo' : lo ≤ w'.heap.size := Nat.le_trans hlo j.size
    have own' : Own w' db 64 #[.int .i64 f, .int .i64 len, .int .i64 chans, .map (some bm)] := (j.block db hbl hne).trans h.own
    have FEW : Hid (∀ j, (backF F k j).length ≤ 64) := Lib.hid (fun j => by
      unfold backF
      split
      · rw [List.length_dropLast]
        have := h.few k
        omega
      · exact h.few j)
    have DM : Hid (∃ vs', Dm w' lo bm vs' (backF F k)) := Lib.hid ⟨_, HD.out ▸ dm⟩
    have g1 : ((n : Int) == 1) = false := by simp; omega
    have e1 : IntKind.i64.wrap ((n : Int) - 1) = ((n - 1 : Nat) : Int) := by rw [IntWalk.i64_in _ (by omega)]; omega
    unfold maxLen at hc
    have hcut : ∀ wq : World, (Instr.slice 34 (.slice (some ⟨b, 0, none⟩) n c) none (some (.int .i64 ((n - 1 : Nat) : Int))) none).run Tryz.prog wq = .ok (.slice (some ⟨b, 0, none⟩) (n - 1) c) wq := cut_to 34 50 5 Tryz.underlying34 (fun _ => rfl) _ n c (n - 1) (by omega)
    have c4 : w.drew.cell? ⟨db, 3, none⟩ = some (.map (some bm)) := c3
    clear hn0 dm mc h1 hpos hd
    go_enter Tryz.func48, Tryz.ntmps48
    go_wp2_with fail
    go_region_law (fail)
    all_goals
      go_wp2_with fail
      go_end0
      obtain ⟨vs', dm⟩ := DM.out
      exact ⟨rfl, ⟨vs', own', dm, FEW.out, hlo'⟩, bj⟩
theorem few_add {F : Hs} {x : Nat} {c : C} (h : ∀ k, (F k).length ≤ 64) (hx : (F x).length < 64) : ∀ k, (addF F x c k).length ≤ 64 := fun k => by
  unfold addF
  split
  · rename_i e
    rw [List.length_append, e]
    show (F x).length + 1 ≤ 64
    omega
  · exact h k
/-- A cell was appended to a row, which is stored then. -/
theorem dr_app {wA wB w6 : World} {lo db bm x : Nat} {f len chans : Int} {vs : Nat → Value} {F : Hs} {c : C} {v6 vx : Value} (D : Dr wA lo db bm f len chans vs F) (hx : x < 16) (hv : vs x = vx) (hb : Below wA.heap.size wA wB) (h64 : (F x).length < 64)
    (m6 : MineK w6 lo 50 5 v6 ((F x).length + 1) (fun i => if i < (F x).length * 5 then lv (F x) i else lv [c] (i - (F x).length * 5))) (g6 : wB.grownBy w6 vx.ownBlock) (l6 : v6.ownBlock = vx.ownBlock ∨ v6.ownBlock = some wB.heap.size) :
    w6.cell? ⟨db, 3, none⟩ = some (.map (some bm)) ∧ ∃ w7, (Instr.mapUpdate 28 (.map (some bm)) (.int .i64 (x : Nat)) v6).run Tryz.prog w6 = .ok () w7 ∧ (∃ vs7, Dr w7 lo db bm f len chans vs7 (addF F x c)) ∧ Jb lo bm wA w7 ∧ ∀ r t cs, Own wB r t cs → vx.ownBlock ≠ some r → r ≠ bm → Own w7 r t cs := by
  have DB := D.below hb
  have hlo : lo ≤ wA.heap.size := D.le
  have hmx := DB.dm.rows.row x hx
  rw [hv] at hmx
  have hne : vx.ownBlock ≠ some db := mineK_ne hmx DB.own dt_ne
  have own6 := grown_own g6 DB.own hne
  have hlv : ∀ i, i < (F x ++ [c]).length * 5 → (if i < (F x).length * 5 then lv (F x) i else lv [c] (i - (F x).length * 5)) = lv (F x ++ [c]) i := fun i hi => (lv_snoc (F x) c i).resolve_right (by rw [List.length_append, List.length_singleton] at hi; omega)
  have m6' : MineK w6 lo 50 5 v6 (F x ++ [c]).length (lv (F x ++ [c])) := by
    rw [List.length_append, List.length_singleton]
    exact m6.ext (fun i hi => hlv i (by rw [List.length_append, List.length_singleton]; exact hi))
  obtain ⟨w7, hput, j, hsz, dm⟩ := DB.dm.app (w1 := w6) (l := F x ++ [c]) hx (by simp) m6' (by rw [hv]; exact g6) (by
    rw [hv]
    rcases l6 with e | e
    · exact .inl e
    · exact .inr ⟨_, e, Nat.le_refl _⟩)
  have hbm6 : w6.heap[bm]? = wB.heap[bm]? := g6.block bm DB.dm.ms.lt (fun e => by
    obtain ⟨es, cl, h1, _⟩ := DB.dm.ms
    exact mineK_nomap hmx h1 e.symm)
  have hF : (fun j => if j = x then F x ++ [c] else F j) = addF F x c := by
    funext j
    unfold addF
    by_cases e : j = x
    · rw [if_pos e, if_pos e, e]
    · rw [if_neg e, if_neg e]
  rw [hF] at dm
  have b6 : Jb lo bm wA w6 := (Jb.of_below hb hlo).trans (Jb.of_grown g6 (fun q e => owns_at hmx e) (Nat.le_trans hlo hb.size))
  refine ⟨own6.cell 3, w7, hput, ⟨_, (j.block db own6.lt DB.ne).trans own6, dm, few_add D.few h64, Nat.le_trans (Nat.le_trans hlo b6.size) j.size⟩, b6.trans (Jb.of_just j (Nat.le_trans hlo b6.size)), fun r t cs ho hr hrb => ?_⟩
  have o6 := grown_own g6 ho hr
  exact (j.block r o6.lt hrb).trans o6
/-- After a cell was appended and stored. -/
def LinkPost (lo db bm : Nat) (f : Int) (len chans x y : Nat) (o : Int) (F : Hs) (w : World) (r : Ending) (w' : World) : Prop := Jb lo bm w w' ∧ ((r = .returned (.bool false) ∧ linkF F f len chans x y o = none ∧ ∃ vs', Dr w' lo db bm f len chans vs' F) ∨ ∃ G, r = .returned (.bool true) ∧ linkF F f len chans x y o = some G ∧ ∃ vs', Dr w' lo db bm f len chans vs' G)
set_option maxHeartbeats 8000000 in
theorem link_d (lo db bm x y len chans : Nat) (f o : Int) (vs : Nat → Value) (F : Hs) (w : World) (h : Dr w lo db bm f len chans vs F) (hx : x < 16) (hy : y < 16) (hxy : x ≠ y) (hlen : len ≤ 200) (hch : chans ≤ 16) :
    Calls Tryz.prog 47 #[.pointer (some ⟨db, 0, none⟩), .int .i64 (x : Nat), .int .i64 (y : Nat), .int .i64 o] w (LinkPost lo db bm f len chans x y o F w) := by
  obtain ⟨i0, hi0, hz0, hz1, hz2⟩ := info_parts infoC5
  have c0 : w.cell? ⟨db, 0, none⟩ = some (.int .i64 f) := h.own.cell 0
  have c1 : w.cell? ⟨db, 1, none⟩ = some (.int .i64 (len : Nat)) := h.own.cell 1
  have c2 : w.cell? ⟨db, 2, none⟩ = some (.int .i64 (chans : Nat)) := h.own.cell 2
  have c3 : w.cell? ⟨db, 3, none⟩ = some (.map (some bm)) := h.own.cell 3
  have hlx := h.dm.look (k := x) hx
  have hly := h.dm.look (k := y) hy
  unfold kv at hlx hly
  have hlo : lo ≤ w.heap.size := h.le
  obtain ⟨ax, nx, hvx, hnx, hcx, _⟩ := (h.dm.rows.row x hx).row
  obtain ⟨ay, ny, hvy, hny, hcy, _⟩ := (h.dm.rows.row y hy).row
  rw [hvx] at hlx
  rw [hvy] at hly
  have H := Lib.hid h
  have fx := h.few x
  have fy := h.few y
  obtain ⟨mx, hmx⟩ : ∃ q, (F x).length = q := ⟨_, rfl⟩
  obtain ⟨my, hmy⟩ : ∃ q, (F y).length = q := ⟨_, rfl⟩
  rw [hmx] at hlx hnx fx
  rw [hmy] at hly hny fy
  have HMX := Lib.hid hmx
  have HMY := Lib.hid hmy
  clear h hvx hvy hmx hmy
  have POST : Hid (∀ w', Below w.heap.size w w' → linkF F f len chans x y o = none → LinkPost lo db bm f len chans x y o F w (.returned (.bool false)) w') := Lib.hid (fun w' b e => ⟨Jb.of_below b hlo, .inl ⟨rfl, e, vs, H.out.below b⟩⟩)
  by_cases h1 : 64 ≤ mx ∨ 64 ≤ my
  · have HN : Hid (linkF F f len chans x y o = none) := Lib.hid (by unfold linkF; rw [place_full (by rw [HMX.out, HMY.out]; exact h1)]; rfl)
    rcases h1 with h1 | h1
    · have g1 : decide ((64 : Int) ≤ (mx : Int)) = true := by simp; omega
      have g1' : decide (64 ≤ mx) = true := by simp; omega
      clear h1
      go_enter Tryz.func47, Tryz.ntmps47
      go_wp2_with fail
      go_ret
      exact POST.out _ (Below.refl _ _) HN.out
    · have g2 : decide ((64 : Int) ≤ (my : Int)) = true := by simp; omega
      have g2' : decide (64 ≤ my) = true := by simp; omega
      clear h1
      by_cases h1 : 64 ≤ mx
      · have g1 : decide ((64 : Int) ≤ (mx : Int)) = true := by simp; omega
        have g1' : decide (64 ≤ mx) = true := by simp; omega
        clear h1
        go_enter Tryz.func47, Tryz.ntmps47
        go_wp2_with fail
        go_ret
        exact POST.out _ (Below.refl _ _) HN.out
      · have g1 : decide ((64 : Int) ≤ (mx : Int)) = false := by simp; omega
        have g1' : decide (64 ≤ mx) = false := by simp; omega
        clear h1
        go_enter Tryz.func47, Tryz.ntmps47
        go_wp2_with fail
        go_ret
        exact POST.out _ (Below.refl _ _) HN.out
  have hx64 : mx < 64 := by omega
  have hy64 : my < 64 := by omega
  have HF64 : Hid ((F x).length < 64 ∧ (F y).length < 64) := Lib.hid ⟨by rw [HMX.out]; exact hx64, by rw [HMY.out]; exact hy64⟩
  have g1 : decide ((64 : Int) ≤ (mx : Int)) = false := by simp; omega
  have g1' : decide (64 ≤ mx) = false := by simp; omega
  have g2 : decide ((64 : Int) ≤ (my : Int)) = false := by simp; omega
  have g2' : decide (64 ≤ my) = false := by simp; omega
  clear h1
  go_enter Tryz.func47, Tryz.ntmps47
  go_wp2_with fail
  clear g1 g1' g2 g2' hlx hly c0 c1 c2 c3
  go_loopw [35] (fun i wr => ∃ s : Nat, i = .int .i64 s ∧ s ≤ len ∧ Hid (∀ j, j < s * chans → fitAt F f chans x y o j = false) ∧ Below w.heap.size w wr) (fun i _ => len - (intOf i).toNat)
  case atStart => exact ⟨0, rfl, Nat.zero_le _, Lib.hid (fun j hj => by simp at hj), Below.refl _ _⟩
  case round =>
    obtain ⟨s, rfl, hs, HS, b1⟩ := hrel
    by_cases hlt : s < len
    rotate_left 1
    · obtain rfl : s = len := by omega
      have g6 : decide ((s : Int) < (s : Int)) = false := by simp
      have HN : Hid (linkF F f s chans x y o = none) := Lib.hid (by unfold linkF; rw [place_none HS.out]; rfl)
      go_wp2_with fail
      go_ret
      exact POST.out _ b1 HN.out
    have g3 : decide ((s : Int) < (len : Int)) = true := by simp; omega
    have c2 : wr.cell? ⟨db, 2, none⟩ = some (.int .i64 (chans : Nat)) := (H.out.below b1).own.cell 2
    go_wp2_with fail
    clear c2
    go_loopw [42] (fun i wz => ∃ ch : Nat, i = .int .i64 ch ∧ ch ≤ chans ∧ Hid (∀ j, j < s * chans + ch → fitAt F f chans x y o j = false) ∧ Below w.heap.size w wz) (fun i _ => chans - (intOf i).toNat)
    case atStart => exact ⟨0, rfl, Nat.zero_le _, Lib.hid (fun j hj => HS.out j (by omega)), b1⟩
    case round =>
      clear b1 g3
      obtain ⟨ch, rfl, hc, HC, b2⟩ := hrel
      by_cases hcl : ch < chans
      rotate_left 1
      · obtain rfl : ch = chans := by omega
        have g6 : decide ((ch : Int) < (ch : Int)) = false := by simp
        have HS2 : Hid (∀ j, j < (s + 1) * ch → fitAt F f ch x y o j = false) := Lib.hid (fun j hj => HC.out j (by rw [Nat.succ_mul] at hj; exact hj))
        go_wp2_with fail
        exact ⟨⟨s + 1, by simp, by omega, HS2, b2⟩, by simp [intOf]; omega⟩
      have g4 : decide ((ch : Int) < (chans : Int)) = true := by simp; omega
      obtain ⟨hp1, hp2⟩ := place_div (s := s) hcl
      have hfit : fitAt F f chans x y o (s * chans + ch) = (fitsF F ⟨f, s, ch, 1, y⟩ x && fitsF F ⟨f, s, ch, o, x⟩ y) := by
        unfold fitAt
        rw [hp1, hp2]
        rfl
      have hto : linkTo F f chans x y o (s * chans + ch) = addF (addF F x ⟨f, s, ch, 1, y⟩) y ⟨f, s, ch, o, x⟩ := by
        unfold linkTo
        rw [hp1, hp2]
        rfl
      have hpl : s * chans + ch < len * chans := by
        have : (s + 1) * chans ≤ len * chans := Nat.mul_le_mul_right _ (by omega)
        rw [Nat.succ_mul] at this
        omega
      have HPL := Lib.hid hpl
      have HFIT := Lib.hid hfit
      have HTO := Lib.hid hto
      clear hp1 hp2 hfit hto hpl
      have D2 := H.out.below b2
      have c0 : wr.cell? ⟨db, 0, none⟩ = some (.int .i64 f) := D2.own.cell 0
      have d0 : (wr.alloc (.cells #[.int .i64 f, .int .i64 (s : Nat), .int .i64 (ch : Nat), .int .i64 1, .int .i64 (y : Nat)] 50)).cell? ⟨db, 0, none⟩ = some (.int .i64 f) := (D2.own.alloc _).cell 0
      have oa := (Own.new wr 50 #[.int .i64 f, .int .i64 (s : Nat), .int .i64 (ch : Nat), .int .i64 1, .int .i64 (y : Nat)]).alloc (.cells #[.int .i64 f, .int .i64 (s : Nat), .int .i64 (ch : Nat), .int .i64 o, .int .i64 (x : Nat)] 50)
      have ob := Own.new (wr.alloc (.cells #[.int .i64 f, .int .i64 (s : Nat), .int .i64 (ch : Nat), .int .i64 1, .int .i64 (y : Nat)] 50)) 50 #[.int .i64 f, .int .i64 (s : Nat), .int .i64 (ch : Nat), .int .i64 o, .int .i64 (x : Nat)]
      have b3 : Below w.heap.size w ((wr.alloc (.cells #[.int .i64 f, .int .i64 (s : Nat), .int .i64 (ch : Nat), .int .i64 1, .int .i64 (y : Nat)] 50)).alloc (.cells #[.int .i64 f, .int .i64 (s : Nat), .int .i64 (ch : Nat), .int .i64 o, .int .i64 (x : Nat)] 50)) := (b2.alloc b2.size _).alloc (by have := b2.size; simp; omega) _
      go_upto_region 11 with (fail)
      obtain ⟨ra, hra⟩ : ∃ q, wr.heap.size = q := ⟨_, rfl⟩
      have hsz : (wr.alloc (.cells #[.int .i64 f, .int .i64 (s : Nat), .int .i64 (ch : Nat), .int .i64 1, .int .i64 (y : Nat)] 50)).heap.size = ra + 1 := by rw [← hra]; simp
      have hwra : w.heap.size ≤ ra := by rw [← hra]; exact b2.size
      rw [hsz] at ob
      rw [hra] at oa
      try rw [hra]
      try rw [hsz]
      generalize (wr.alloc (.cells #[.int .i64 f, .int .i64 (s : Nat), .int .i64 (ch : Nat), .int .i64 1, .int .i64 (y : Nat)] 50)).alloc (.cells #[.int .i64 f, .int .i64 (s : Nat), .int .i64 (ch : Nat), .int .i64 o, .int .i64 (x : Nat)] 50) = w3 at *
      clear c0 d0 D2 b2 hra hsz
      have D3 := H.out.below b3
      have P1 : ∀ wz, Below w3.heap.size w3 wz → _ := fun wz hz => fits_d lo db bm f len chans vs F ⟨f, s, ch, 1, y⟩ x wz (D3.below hz).own (D3.below hz).dm
      have P2 : ∀ wz, Below w3.heap.size w3 wz → _ := fun wz hz => fits_d lo db bm f len chans vs F ⟨f, s, ch, o, x⟩ y wz (D3.below hz).own (D3.below hz).dm
      obtain ⟨q1, hq1⟩ : ∃ q, fitsF F ⟨f, s, ch, 1, y⟩ x = q := ⟨_, rfl⟩
      obtain ⟨q2, hq2⟩ : ∃ q, fitsF F ⟨f, s, ch, o, x⟩ y = q := ⟨_, rfl⟩
      simp only [hq1] at P1
      simp only [hq2] at P2
      have HQ : Hid (fitAt F f chans x y o (s * chans + ch) = (q1 && q2)) := Lib.hid (by rw [HFIT.out, hq1, hq2])
      clear hq1 hq2 D3 HFIT
      have k0 : w3.cell? ⟨ra, 0, none⟩ = some (.int .i64 f) := oa.cell 0
      have k1 : w3.cell? ⟨ra, 1, none⟩ = some (.int .i64 (s : Nat)) := oa.cell 1
      have k2 : w3.cell? ⟨ra, 2, none⟩ = some (.int .i64 (ch : Nat)) := oa.cell 2
      have k3 : w3.cell? ⟨ra, 3, none⟩ = some (.int .i64 1) := oa.cell 3
      have k4 : w3.cell? ⟨ra, 4, none⟩ = some (.int .i64 (y : Nat)) := oa.cell 4
      go_wp2_with fail
      clear k0 k1 k2 k3 k4
      refine (P1 _ (Below.refl _ _)).mono ?_
      rintro q w4 ⟨rfl, b4⟩
      have HNX : Hid ((q1 && q2) = false → ∀ j, j < s * chans + (ch + 1) → fitAt F f chans x y o j = false) := Lib.hid (fun h j hj => by
        by_cases e : j = s * chans + ch
        · rw [e, HQ.out, h]
        · exact HC.out j (by omega))
      cases q1
      · have HC2 := Lib.hid (HNX.out rfl)
        have b5 := b3.trans (b4.mono b3.size)
        go_wp2_with fail
        exact ⟨⟨ch + 1, by simp, by omega, HC2, b5⟩, by simp [intOf]; omega⟩
      have oa4 := below_own b4 oa oa.lt
      have ob4 := below_own b4 ob ob.lt
      have k0 : w4.cell? ⟨ra + 1, 0, none⟩ = some (.int .i64 f) := ob4.cell 0
      have k1 : w4.cell? ⟨ra + 1, 1, none⟩ = some (.int .i64 (s : Nat)) := ob4.cell 1
      have k2 : w4.cell? ⟨ra + 1, 2, none⟩ = some (.int .i64 (ch : Nat)) := ob4.cell 2
      have k3 : w4.cell? ⟨ra + 1, 3, none⟩ = some (.int .i64 o) := ob4.cell 3
      have k4 : w4.cell? ⟨ra + 1, 4, none⟩ = some (.int .i64 (x : Nat)) := ob4.cell 4
      go_wp2_with fail
      clear k0 k1 k2 k3 k4
      refine (P2 _ b4).mono ?_
      rintro q w5 ⟨rfl, b5⟩
      have b6 := (b3.trans (b4.mono b3.size)).trans (b5.mono (Nat.le_trans b3.size b4.size))
      cases q2
      · have HC2 := Lib.hid (HNX.out rfl)
        go_wp2_with fail
        exact ⟨⟨ch + 1, by simp, by omega, HC2, b6⟩, by simp [intOf]; omega⟩
      have HLINK : Hid (linkF F f len chans x y o = some (addF (addF F x ⟨f, s, ch, 1, y⟩) y ⟨f, s, ch, o, x⟩)) := Lib.hid (by
        unfold linkF
        rw [place_at (by have := HF64.out; omega) HPL.out (by rw [HQ.out]; rfl) HC.out, Option.map_some, HTO.out])
      have oa5 := below_own b5 oa4 oa4.lt
      have ob5 := below_own b5 ob4 ob4.lt
      clear P1 P2 HNX HQ HC HS HTO HPL oa4 ob4 oa ob b4 b5 b3 g4 w4 w3
      have hlo5 : lo ≤ w5.heap.size := Nat.le_trans hlo b6.size
      have D5 := (H.out.below b6).below (below_drewN (Below.refl _ _) 1)
      have bl5 : Jb lo bm w w5 := Jb.of_below b6 hlo
      clear b6
      have a0 : w5.drew.cell? ⟨ra, 0, none⟩ = some (.int .i64 f) := oa5.cell 0
      have a1 : w5.drew.cell? ⟨ra, 1, none⟩ = some (.int .i64 (s : Nat)) := oa5.cell 1
      have a2 : w5.drew.cell? ⟨ra, 2, none⟩ = some (.int .i64 (ch : Nat)) := oa5.cell 2
      have a3 : w5.drew.cell? ⟨ra, 3, none⟩ = some (.int .i64 1) := oa5.cell 3
      have a4 : w5.drew.cell? ⟨ra, 4, none⟩ = some (.int .i64 (y : Nat)) := oa5.cell 4
      have a5 : w5.drew.cell? ⟨db, 3, none⟩ = some (.map (some bm)) := D5.own.cell 3
      have mx5 := D5.dm.rows.row x hx
      have l5 := D5.dm.look (k := x) hx
      unfold kv at l5
      obtain ⟨vx, hvx⟩ : ∃ q, vs x = q := ⟨_, rfl⟩
      rw [hvx] at l5 mx5
      have HVX := Lib.hid hvx
      clear hvx
      have h64 := HF64.out.1
      have hbB : Below w5.drew.heap.size w5.drew (w5.drew.alloc (.cells #[.int .i64 f, .int .i64 (s : Nat), .int .i64 (ch : Nat), .int .i64 1, .int .i64 (y : Nat)] 50)) := (Below.refl _ _).alloc (Nat.le_refl _) _
      have hlo6 : lo ≤ (w5.drew.alloc (.cells #[.int .i64 f, .int .i64 (s : Nat), .int .i64 (ch : Nat), .int .i64 1, .int .i64 (y : Nat)] 50)).heap.size := by simp; exact Nat.le_succ_of_le hlo5
      have a6 : (w5.drew.alloc (.cells #[.int .i64 f, .int .i64 (s : Nat), .int .i64 (ch : Nat), .int .i64 1, .int .i64 (y : Nat)] 50)).cell? ⟨db, 3, none⟩ = some (.map (some bm)) := (D5.own.alloc _).cell 3
      have l6 : (Instr.lookup 28 (.map (some bm)) (.int .i64 (x : Nat)) false).run Tryz.prog (w5.drew.alloc (.cells #[.int .i64 f, .int .i64 (s : Nat), .int .i64 (ch : Nat), .int .i64 1, .int .i64 (y : Nat)] 50)) = .ok vx (w5.drew.alloc (.cells #[.int .i64 f, .int .i64 (s : Nat), .int .i64 (ch : Nat), .int .i64 1, .int .i64 (y : Nat)] 50)) := by
        have := (D5.below hbB).dm.look (k := x) hx
        rw [HVX.out] at this
        exact this
      have D5' : Dr w5.drew lo db bm f len chans vs F := D5
      have l5' : (Instr.lookup 28 (.map (some bm)) (.int .i64 (x : Nat)) false).run Tryz.prog w5.drew = .ok vx w5.drew := l5
      have mx6 : MineK (w5.drew.alloc (.cells #[.int .i64 f, .int .i64 (s : Nat), .int .i64 (ch : Nat), .int .i64 1, .int .i64 (y : Nat)] 50)) lo 50 5 vx (F x).length (lv (F x)) := mx5.alloc _
      have l7 : (Instr.lookup 28 (.map (some bm)) (.int .i64 (x : Nat)) false).run Tryz.prog (w5.alloc (.cells #[.int .i64 f, .int .i64 (s : Nat), .int .i64 (ch : Nat), .int .i64 1, .int .i64 (y : Nat)] 50)).drew = .ok vx (w5.alloc (.cells #[.int .i64 f, .int .i64 (s : Nat), .int .i64 (ch : Nat), .int .i64 1, .int .i64 (y : Nat)] 50)).drew := l6
      have a7 : (w5.alloc (.cells #[.int .i64 f, .int .i64 (s : Nat), .int .i64 (ch : Nat), .int .i64 1, .int .i64 (y : Nat)] 50)).drew.cell? ⟨db, 3, none⟩ = some (.map (some bm)) := a6
      clear l5 D5 mx5
      go_wp2_with fail
      go_cut [] from 72 to 85 (fun wz => ∃ vs7, Dr wz lo db bm f len chans vs7 (addF F x ⟨f, s, ch, 1, y⟩) ∧ Own wz (ra + 1) 50 #[.int .i64 f, .int .i64 (s : Nat), .int .i64 (ch : Nat), .int .i64 o, .int .i64 (x : Nat)] ∧ Jb lo bm w wz)
      case first =>
       go_region_law (first
        | (refine step_appK rfl (.tmp 82) (.tmp 84) 34 rfl lo 50 i0 _ 5 40 Tryz.underlying34 hi0 hz0 hz1 hz2 rfl (by decide) _ (F x).length (lv (F x)) (by rfl) mx6 _ 1 _ (lv [⟨f, s, ch, 1, y⟩]) (by rfl) (row_new _ _ _ _ (fun i hi => by rcases (show i = 0 ∨ i = 1 ∨ i = 2 ∨ i = 3 ∨ i = 4 by omega) with rfl | rfl | rfl | rfl | rfl <;> rfl)) (fun i _ => lv_one _ i) (by unfold maxLen; omega) (by omega) hlo6 ?_; intro v6 w6 m6 g6 q6; obtain ⟨s3, w7, hput, D7, bl7, ow7⟩ := dr_app D5' hx HVX.out hbB h64 m6 g6 q6)
        | fail)
       all_goals
        obtain ⟨vs7, D7⟩ := D7
        have ob7 : Own w7 (ra + 1) 50 #[.int .i64 f, .int .i64 (s : Nat), .int .i64 (ch : Nat), .int .i64 o, .int .i64 (x : Nat)] := ow7 (ra + 1) 50 _ (Own.alloc (ob5.drewN 1) _) (fun e => by
          have := ((H.out.dm.rows.row x hx).lt (ra + 1) (by rw [HVX.out]; exact e)).2
          omega) (by have := H.out.dm.ms.lt; omega)
        have bl8 : Jb lo bm w w7 := bl5.trans ((Jb.of_below (below_drewN (Below.refl _ _) 1) hlo5).trans bl7)
        go_wp2_with fail
        go_meet
        exact ⟨vs7, D7, ob7, bl8⟩
      case rest =>
        obtain ⟨vs7, D7, ob7, bl8⟩ := hcut
        have hlo7 : lo ≤ wc.heap.size := D7.le
        have hGy : (addF F x ⟨f, s, ch, 1, y⟩ y).length < 64 := by rw [add_off _ _ (fun e => hxy e.symm)]; exact HF64.out.2
        obtain ⟨G, hG⟩ : ∃ G, addF F x ⟨f, s, ch, 1, y⟩ = G := ⟨_, rfl⟩
        rw [hG] at D7 hGy
        have HLG : Hid (linkF F f len chans x y o = some (addF G y ⟨f, s, ch, o, x⟩)) := Lib.hid (by rw [← hG]; exact HLINK.out)
        clear hG mx6 l5' D5' l6 a6 hlo6 hbB h64 a0 a1 a2 a3 a4 a5 l7 a7 oa5 ob5 bl5 hlo5 HLINK HVX
        have E7 : Dr wc.drew lo db bm f len chans vs7 G := D7.below (below_drewN (Below.refl _ _) 1)
        have b0 : wc.drew.cell? ⟨ra + 1, 0, none⟩ = some (.int .i64 f) := ob7.cell 0
        have b1 : wc.drew.cell? ⟨ra + 1, 1, none⟩ = some (.int .i64 (s : Nat)) := ob7.cell 1
        have b2 : wc.drew.cell? ⟨ra + 1, 2, none⟩ = some (.int .i64 (ch : Nat)) := ob7.cell 2
        have b3 : wc.drew.cell? ⟨ra + 1, 3, none⟩ = some (.int .i64 o) := ob7.cell 3
        have b4 : wc.drew.cell? ⟨ra + 1, 4, none⟩ = some (.int .i64 (x : Nat)) := ob7.cell 4
        have b5 : wc.drew.cell? ⟨db, 3, none⟩ = some (.map (some bm)) := E7.own.cell 3
        have my5 := E7.dm.rows.row y hy
        have k5 := E7.dm.look (k := y) hy
        unfold kv at k5
        obtain ⟨vy, hvy⟩ : ∃ q, vs7 y = q := ⟨_, rfl⟩
        rw [hvy] at k5 my5
        have HVY := Lib.hid hvy
        clear hvy
        have hcB : Below wc.drew.heap.size wc.drew (wc.drew.alloc (.cells #[.int .i64 f, .int .i64 (s : Nat), .int .i64 (ch : Nat), .int .i64 o, .int .i64 (x : Nat)] 50)) := (Below.refl _ _).alloc (Nat.le_refl _) _
        have hlo8 : lo ≤ (wc.drew.alloc (.cells #[.int .i64 f, .int .i64 (s : Nat), .int .i64 (ch : Nat), .int .i64 o, .int .i64 (x : Nat)] 50)).heap.size := by simp; exact Nat.le_succ_of_le hlo7
        have k6 : (Instr.lookup 28 (.map (some bm)) (.int .i64 (y : Nat)) false).run Tryz.prog (wc.alloc (.cells #[.int .i64 f, .int .i64 (s : Nat), .int .i64 (ch : Nat), .int .i64 o, .int .i64 (x : Nat)] 50)).drew = .ok vy (wc.alloc (.cells #[.int .i64 f, .int .i64 (s : Nat), .int .i64 (ch : Nat), .int .i64 o, .int .i64 (x : Nat)] 50)).drew := by
          have := (E7.below hcB).dm.look (k := y) hy
          rw [HVY.out] at this
          exact this
        have b6 : (wc.alloc (.cells #[.int .i64 f, .int .i64 (s : Nat), .int .i64 (ch : Nat), .int .i64 o, .int .i64 (x : Nat)] 50)).drew.cell? ⟨db, 3, none⟩ = some (.map (some bm)) := (E7.own.alloc _).cell 3
        have my6 : MineK (wc.drew.alloc (.cells #[.int .i64 f, .int .i64 (s : Nat), .int .i64 (ch : Nat), .int .i64 o, .int .i64 (x : Nat)] 50)) lo 50 5 vy (G y).length (lv (G y)) := my5.alloc _
        clear my5 D7
        go_wp2_with fail
        go_region_law (first
          | (refine step_appK rfl (.tmp 96) (.tmp 98) 34 rfl lo 50 i0 _ 5 40 Tryz.underlying34 hi0 hz0 hz1 hz2 rfl (by decide) _ (G y).length (lv (G y)) (by rfl) my6 _ 1 _ (lv [⟨f, s, ch, o, x⟩]) (by rfl) (row_new _ _ _ _ (fun i hi => by rcases (show i = 0 ∨ i = 1 ∨ i = 2 ∨ i = 3 ∨ i = 4 by omega) with rfl | rfl | rfl | rfl | rfl <;> rfl)) (fun i _ => lv_one _ i) (by unfold maxLen; omega) (by omega) hlo8 ?_; intro v8 w8 m8 g8 q8; obtain ⟨s8, w9, hput9, D9, bl9, ow9⟩ := dr_app E7 hy HVY.out hcB hGy m8 g8 q8)
          | fail)
        all_goals
          obtain ⟨vs9, D9⟩ := D9
          go_wp2_with fail
          go_ret
          exact ⟨bl8.trans ((Jb.of_below (below_drewN (Below.refl _ _) 1) hlo7).trans bl9), .inr ⟨_, rfl, HLG.out, vs9, D9⟩⟩
end Go.Proofs.YtahcplddonipcaaGreat.Al
