/-
  The reference's Sorted: cells by Less, one put in after the other, in new memory.
-/
import Derived.Test.YtdpkiolngglpaaaCeRefLess
import Derived.Test.YtdpkiolngglpaaaCut
import Derived.Test.YtdpkiolngglpaaaExt
import Derived.Test.YtdpkiolngglpaaaTurn
import Derived.Deep.CutBlock
import Derived.Deep.CutRange
import Derived.Deep.RegionLaw
import Derived.BigRegion
set_option maxRecDepth 100000
namespace Go.Proofs.Ytdpkiolngglpaaa.Ce
set_option linter.unusedVariables false
set_option linter.unusedSimpArgs false
open Go.RowKit Lb Cl
/-- The place of c behind all that it is not ahead of. -/
def posU : List C → C → Nat
  | [], _ => 0
  | d :: r, c => if cf c d < 0 then 0 else posU r c + 1
theorem posU_le (l : List C) (x : C) : posU l x ≤ l.length := by
  induction l with
  | nil => exact Nat.le_refl _
  | cons c r ih => unfold posU; split <;> simp <;> omega
theorem posU_is {x : C} : ∀ (l : List C) (i : Nat), i ≤ l.length → (∀ t, t < i → ¬ cf x (at_ l t) < 0) → (i < l.length → cf x (at_ l i) < 0) → posU l x = i
  | [], i, h, _, _ => by simp at h; subst h; rfl
  | c :: r, 0, _, _, h2 => by
    have h0 : cf x c < 0 := h2 (by simp)
    unfold posU
    exact if_pos h0
  | c :: r, i + 1, h, h1, h2 => by
    have h0 : ¬ cf x c < 0 := h1 0 (by omega)
    unfold posU
    rw [if_neg h0, posU_is r i (by simpa using h) (fun t ht => h1 (t + 1) (by omega)) (fun hi => h2 (by simpa using hi))]
def insU (l : List C) (x : C) : List C := ins l (posU l x) x
theorem insU_len (l : List C) (x : C) : (insU l x).length = l.length + 1 := ins_len x (posU_le l x)
/-- Sorted. -/
def srtU (l : List C) : List C := l.foldl insU []
theorem srtU_succ (l : List C) (k : Nat) (hk : k < l.length) : srtU (l.take (k + 1)) = insU (srtU (l.take k)) (at_ l k) := by
  unfold srtU
  rw [List.take_succ_eq_append_getElem hk, List.foldl_append]
  unfold at_
  rw [List.getD_eq_getElem?_getD, List.getElem?_eq_getElem hk]
  rfl
theorem srtU_len (l : List C) : (srtU l).length = l.length := by
  have : ∀ (m acc : List C), (m.foldl insU acc).length = acc.length + m.length := fun m => by
    induction m with
    | nil => intro acc; rfl
    | cons x r ih => intro acc; rw [List.foldl_cons, ih, insU_len, List.length_cons]; omega
  unfold srtU
  rw [this]
  simp
theorem infoC : (Try.prog.info? 69).map (fun i => (i.zero, i.size, i.bytes)) = some (some (.agg #[.int .i64 0, .int .i64 0, .int .i64 0, .int .i64 0, .int .i64 0]), 5, 40) := by kernel_rfl
theorem size_c (w : World) : (Go.sizeOf 69).run Try.prog w = .ok 5 w := by kernel_rfl
theorem lv_one_row (w : World) (x : C) : Row (w.alloc (.cells #[.int .i64 x.f, .int .i64 x.s, .int .i64 x.c, .int .i64 x.o, .int .i64 x.p] 69)) (some ⟨w.heap.size, 0, none⟩) (1 * 5) (lv [x]) :=
  row_new _ _ _ _ (fun i hi => by rcases (show i = 0 ∨ i = 1 ∨ i = 2 ∨ i = 3 ∨ i = 4 by omega) with rfl | rfl | rfl | rfl | rfl <;> rfl)
theorem lv_drop (M : List C) (K i : Nat) : lv M (K * 5 + i) = lv (M.drop K) i := by
  unfold lv cv at_
  rw [show (K * 5 + i) / 5 = K + i / 5 by omega, show (K * 5 + i) % 5 = i % 5 by omega, List.getD_eq_getElem?_getD, List.getD_eq_getElem?_getD, List.getElem?_drop]
theorem lv_ext (M : List C) (K : Nat) (x : C) (hK : K ≤ M.length) (i : Nat) : (if i < (K + 1) * 5 then (if i < K * 5 then lv M i else lv [x] (i - K * 5)) else lv (M.drop K) (i - (K + 1) * 5)) = lv (ins M K x) i := by
  rw [← lv_ins x hK]
  unfold insK
  by_cases h1 : i < K * 5
  · rw [if_pos (by omega), if_pos h1, if_pos h1]
  · by_cases h2 : i < K * 5 + 5
    · rw [if_pos (by omega), if_neg h1, if_neg h1, if_pos h2]
    · rw [if_neg (by omega), if_neg h1, if_neg h2, ← lv_drop]
      congr 1
      omega
theorem row_c5 {w : World} {a : Option Addr} {n k : Nat} {l : List C} (h : Row w a (n * 5) (lv l)) (hk : k < n) :
    ∃ b off, a = some ⟨b, off, none⟩ ∧ b < w.heap.size ∧ w.cell? ⟨b, off + k * 5, none⟩ = some (.int .i64 (at_ l k).f) ∧ w.cell? ⟨b, off + k * 5 + 1, none⟩ = some (.int .i64 (at_ l k).s) ∧ w.cell? ⟨b, off + k * 5 + 2, none⟩ = some (.int .i64 (at_ l k).c) ∧ w.cell? ⟨b, off + k * 5 + 3, none⟩ = some (.int .i64 (at_ l k).o) ∧ w.cell? ⟨b, off + k * 5 + 4, none⟩ = some (.int .i64 (at_ l k).p) :=
  crow (L := at_ l) h (Below.refl _ _) hk
theorem row_extC {w : World} {a : Option Addr} {n : Nat} {V U : Nat → Value} (h : Row w a n V) (hv : ∀ i, i < n → V i = U i) : Row w a n U := by
  intro h0
  obtain ⟨b, off, h1, h2, h3⟩ := h h0
  exact ⟨b, off, h1, h2, fun i hi => (h3 i hi).trans (congrArg some (hv i hi))⟩
/-- One round's end: c is put in at K. -/
def PutPost (M : List C) (K : Nat) (x : C) (w wx : World) (v : Value) : Prop := MineK wx w.heap.size 69 5 v (ins M K x).length (lv (ins M K x)) ∧ Below w.heap.size w wx
set_option maxHeartbeats 8000000 in
theorem sorted_any (a : Option Addr) (n c : Nat) (l : List C) (w : World) (hR : Row w a (n * 5) (lv l)) (hl : l.length = n) (hn : n ≤ 100000) :
    Calls Try.prog 33 #[.slice a n c] w fun r w' => ∃ v, r = .returned v ∧ MineK w' w.heap.size 69 5 v n (lv (srtU l)) ∧ Below w.heap.size w w' := by
  obtain ⟨i0, hi0, hz0, hz1, hz2⟩ := info_parts infoC
  have HR := Lib.hid hR
  have HL := Lib.hid hl
  clear hR hl
  go_enter Try.func33, Try.ntmps33
  go_wp2_with fail
  go_loopw [9, 3] (fun i u wr => ∃ k : Nat, i = .int .i64 k ∧ k ≤ n ∧ MineK wr w.heap.size 69 5 u k (lv (srtU (l.take k))) ∧ Below w.heap.size w wr) (fun i _ _ => n - (intOf i).toNat)
  case atStart => exact ⟨0, rfl, by omega, MineK.nil _ _ _ _ _, Below.refl _ _⟩
  case round =>
    obtain ⟨k, rfl, hk, hW, b1⟩ := hrel
    by_cases hlt : k < n
    · obtain ⟨bo, off, rfl, hbo, d0, d1, d2, d3, d4⟩ := row_c5 (HR.out.below b1) hlt
      obtain ⟨x, hx⟩ : ∃ x, at_ l k = x := ⟨_, rfl⟩
      rw [hx] at d0 d1 d2 d3 d4
      have hsu := srtU_succ l k (by rw [HL.out]; exact hlt)
      rw [hx] at hsu
      obtain ⟨M, hM⟩ : ∃ M, srtU (l.take k) = M := ⟨_, rfl⟩
      have hml : M.length = k := by rw [← hM, srtU_len, List.length_take, HL.out]; omega
      rw [hM] at hsu hW
      have HSU := Lib.hid hsu
      have HML := Lib.hid hml
      have ob := Own.new wr 69 #[.int .i64 x.f, .int .i64 x.s, .int .i64 x.c, .int .i64 x.o, .int .i64 x.p]
      have b2 := b1.alloc b1.size (.cells #[.int .i64 x.f, .int .i64 x.s, .int .i64 x.c, .int .i64 x.o, .int .i64 x.p] 69)
      have hW2 := hW.alloc (.cells #[.int .i64 x.f, .int .i64 x.s, .int .i64 x.c, .int .i64 x.o, .int .i64 x.p] 69)
      have hbs := b1.size
      clear hx hM hsu hml hW
      go_upto_region 5 with (fail)
      have hsz : wr.heap.size < (wr.alloc (.cells #[.int .i64 x.f, .int .i64 x.s, .int .i64 x.c, .int .i64 x.o, .int .i64 x.p] 69)).heap.size := by simp
      generalize wr.alloc (.cells #[.int .i64 x.f, .int .i64 x.s, .int .i64 x.c, .int .i64 x.o, .int .i64 x.p] 69) = w2 at *
      obtain ⟨r0, hr0⟩ : ∃ g, wr.heap.size = g := ⟨_, rfl⟩
      rw [hr0] at ob hsz hbs ⊢
      clear hr0 d0 d1 d2 d3 d4
      obtain ⟨A, cc, rfl, hc1, hc2, hRW⟩ := hW2.row
      have HRW := Lib.hid hRW
      unfold maxLen at hc2
      clear hRW
      obtain ⟨K, hK⟩ : ∃ K, posU M x = K := ⟨_, rfl⟩
      have hKk : K ≤ k := by rw [← hK, ← HML.out]; exact posU_le M x
      have HK := Lib.hid hK
      clear hK
      go_upto_block 2 with (fail)
      go_cut [6] from 13 to 27 (fun s wz => s = .int .i64 (K : Nat) ∧ Below w2.heap.size w2 wz)
      case first =>
        go_wp2_with fail
        go_loopw [6] (fun i wz => ∃ j : Nat, i = .int .i64 j ∧ j ≤ k ∧ Hid (∀ t, t < j → ¬ cf x (at_ M t) < 0) ∧ Below w2.heap.size w2 wz) (fun i _ => k - (intOf i).toNat)
        case atStart => exact ⟨0, rfl, by omega, Lib.hid (fun j hj => by omega), Below.refl _ _⟩
        case round =>
          obtain ⟨j, rfl, hj, HN, b3⟩ := hrel
          by_cases hjk : j < k
          · have g0 : decide ((j : Int) < (k : Int)) = true := by simp; omega
            have g0' : decide (j < k) = true := by simp; omega
            obtain ⟨bo2, off2, rfl, _, e0, e1, e2, e3, e4⟩ := row_c5 (HRW.out.below b3) hjk
            obtain ⟨y, hy⟩ : ∃ y, at_ M j = y := ⟨_, rfl⟩
            have HY := Lib.hid hy
            rw [hy] at e0 e1 e2 e3 e4
            have o3 := below_own b3 ob hsz
            have E0 : ∀ z : Ext wr, z.toW.cell? ⟨bo2, off2 + j * 5, none⟩ = some (.int .i64 y.f) := fun z => (z.ok.cell (lt_of_cell e0)).trans e0
            have E1 : ∀ z : Ext wr, z.toW.cell? ⟨bo2, off2 + j * 5 + 1, none⟩ = some (.int .i64 y.s) := fun z => (z.ok.cell (lt_of_cell e1)).trans e1
            have E2 : ∀ z : Ext wr, z.toW.cell? ⟨bo2, off2 + j * 5 + 2, none⟩ = some (.int .i64 y.c) := fun z => (z.ok.cell (lt_of_cell e2)).trans e2
            have E3 : ∀ z : Ext wr, z.toW.cell? ⟨bo2, off2 + j * 5 + 3, none⟩ = some (.int .i64 y.o) := fun z => (z.ok.cell (lt_of_cell e3)).trans e3
            have E4 : ∀ z : Ext wr, z.toW.cell? ⟨bo2, off2 + j * 5 + 4, none⟩ = some (.int .i64 y.p) := fun z => (z.ok.cell (lt_of_cell e4)).trans e4
            have oz : ∀ z : Ext wr, Own z.toW r0 69 #[.int .i64 x.f, .int .i64 x.s, .int .i64 x.c, .int .i64 x.o, .int .i64 x.p] := fun z => below_own z.ok o3 o3.lt
            have D0 : ∀ z : Ext wr, z.toW.cell? ⟨r0, 0, none⟩ = some (.int .i64 x.f) := fun z => (oz z).cell 0
            have D1 : ∀ z : Ext wr, z.toW.cell? ⟨r0, 1, none⟩ = some (.int .i64 x.s) := fun z => (oz z).cell 1
            have D2 : ∀ z : Ext wr, z.toW.cell? ⟨r0, 2, none⟩ = some (.int .i64 x.c) := fun z => (oz z).cell 2
            have D3 : ∀ z : Ext wr, z.toW.cell? ⟨r0, 3, none⟩ = some (.int .i64 x.o) := fun z => (oz z).cell 3
            have D4 : ∀ z : Ext wr, z.toW.cell? ⟨r0, 4, none⟩ = some (.int .i64 x.p) := fun z => (oz z).cell 4
            obtain ⟨lt, hlt9⟩ : ∃ b, decide (cf x y < 0) = b := ⟨_, rfl⟩
            have HLT := Lib.hid hlt9
            have HC : Hid (∀ z : Ext wr, Calls Try.prog 43 #[.agg #[.int .i64 x.f, .int .i64 x.s, .int .i64 x.c, .int .i64 x.o, .int .i64 x.p], .agg #[.int .i64 y.f, .int .i64 y.s, .int .i64 y.c, .int .i64 y.o, .int .i64 y.p]] z.toW fun r w' => r = .returned (.bool lt) ∧ Below z.toW.heap.size z.toW w') := Lib.hid (fun z => by
              have := rless_any x y z.toW
              rw [hlt9] at this
              exact this)
            clear hy hlt9 oz e0 e1 e2 e3 e4 o3
            go_upto_region 6 with (fail)
            refine wp_region_ext wr (by kernel_rfl) (by kernel_rfl) (Below.refl _ _) ?_
            repeat (go_big_quiet_step (first
              | (go_at_call 43; with_reducible exact ext_below _ (u := .bool lt) (HC.out _))))
            refine wpQuiet_nil ?_
            rintro w9 ⟨z9, rfl⟩
            have b9 := b3.trans (z9.ok.mono b3.size)
            clear D0 D1 D2 D3 D4 E0 E1 E2 E3 E4 HC
            cases lt
            · have HN2 : Hid (∀ t, t < j + 1 → ¬ cf x (at_ M t) < 0) := Lib.hid (fun t ht => by
                by_cases e : t = j
                · subst e; rw [HY.out]; simpa using HLT.out
                · exact HN.out t (by omega))
              go_wp2_with fail
              exact ⟨⟨j + 1, by simp, by omega, HN2, b9⟩, by simp [intOf]; omega⟩
            · have HE : Hid (j = K) := Lib.hid (by
                rw [← HK.out]
                exact (posU_is M j (by rw [HML.out]; omega) HN.out (fun _ => by rw [HY.out]; simpa using HLT.out)).symm)
              go_wp2_with fail
              go_meet
              exact ⟨by rw [HE.out], b9⟩
          · have HE : Hid (j = K) := Lib.hid (by
              rw [← HK.out]
              exact (posU_is M j (by rw [HML.out]; omega) HN.out (fun h => by rw [HML.out] at h; omega)).symm)
            have g0 : decide ((j : Int) < (k : Int)) = false := by simp; omega
            have g0' : decide (j < k) = false := by simp; omega
            go_wp2_with fail
            go_quiet (fail)
            go_wp2_with fail
            go_meet
            exact ⟨by rw [HE.out], below_drewN b3 _⟩
      case rest =>
        obtain ⟨rfl, b3⟩ := hcut
        have hs2 : w.heap.size ≤ w2.heap.size := b2.size
        have hW3 := hW2.below b3
        have hb3 : Below w.heap.size w wc := b2.trans (b3.mono hs2)
        have o3 := below_own b3 ob hsz
        have hr0c : r0 < wc.heap.size := o3.lt
        have hRc := HRW.out.below b3
        have HRp : Hid (Row wc A (K * 5) (lv M)) := Lib.hid (hRc.cut (Nat.mul_le_mul_right 5 hKk))
        have q1 : ∀ wq : World, (Instr.slice 33 (.slice A k cc) none (some (.int .i64 (K : Int))) none).run Try.prog wq = .ok (.slice A K cc) wq := cut_to 33 69 5 Try.underlying33 size_c A k cc K (by omega)
        have q2 := cut_from 33 69 5 Try.underlying33 size_c A k cc K hKk
        have HRs : Hid (Row wc (cutA A cc K 5) ((k - K) * 5) (lv (M.drop K))) := Lib.hid (row_extC (cut_row hRc hc1) (fun i _ => lv_drop M K i))
        obtain ⟨A2, hA2⟩ : ∃ A2, cutA A cc K 5 = A2 := ⟨_, rfl⟩
        rw [hA2] at q2 HRs
        clear hA2 hRc hW2 hW3 b3
        have x0 : wc.cell? ⟨r0, 0, none⟩ = some (.int .i64 x.f) := o3.cell 0
        have x1 : wc.cell? ⟨r0, 1, none⟩ = some (.int .i64 x.s) := o3.cell 1
        have x2 : wc.cell? ⟨r0, 2, none⟩ = some (.int .i64 x.c) := o3.cell 2
        have x3 : wc.cell? ⟨r0, 3, none⟩ = some (.int .i64 x.o) := o3.cell 3
        have x4 : wc.cell? ⟨r0, 4, none⟩ = some (.int .i64 x.p) := o3.cell 4
        go_wp2_with fail
        go_region_law (first
          | (refine step_appK (w := wc.drew.alloc (.cells #[.int .i64 x.f, .int .i64 x.s, .int .i64 x.c, .int .i64 x.o, .int .i64 x.p] 69)) rfl (.const (.slice none 0 0)) (.tmp 30) 33 rfl wc.heap.size 69 i0 _ 5 40 Try.underlying33 hi0 hz0 hz1 hz2 rfl (by decide) (.slice none 0 0) 0 (lv []) (by rfl) (MineK.nil _ _ _ _ _) _ K cc (lv M) (by rfl) (HRp.out.below ((below_drewN (Below.refl wc.heap.size wc) 1).alloc (Nat.le_refl _) _)) (fun i _ => lv_one _ i) (by unfold maxLen; omega) (by omega) (by simp) ?_; intro v6 w6 m6 g6 l6; have j6 : Below wc.heap.size wc w6 := ((below_drewN (Below.refl wc.heap.size wc) 1).alloc (Nat.le_refl _) _).grown g6 (by simp) (fun q e => by cases e); have r6 : Row w6 (some ⟨wc.heap.size, 0, none⟩) (1 * 5) (lv [x]) := (lv_one_row wc.drew x).below ⟨g6.os, g6.tape, g6.output, g6.size, fun q hq => g6.block q hq (fun e => by cases e)⟩)
          | (refine step_appK (w := wc.drew) rfl (.const (.slice none 0 0)) (.tmp 30) 33 rfl wc.heap.size 69 i0 _ 5 40 Try.underlying33 hi0 hz0 hz1 hz2 rfl (by decide) (.slice none 0 0) 0 (lv []) (by rfl) (MineK.nil _ _ _ _ _) _ K cc (lv M) (by rfl) HRp.out (fun i _ => lv_one _ i) (by unfold maxLen; omega) (by omega) (Nat.le_refl _) ?_; intro v6 w6 m6 g6 l6; have j6 : Below wc.heap.size wc w6 := (below_drewN (Below.refl _ _) 1).grown g6 (Nat.le_refl _) (fun q e => by cases e); have o6 := below_own j6 o3 hr0c; have y0 : w6.cell? ⟨r0, 0, none⟩ = some (.int .i64 x.f) := o6.cell 0; have y1 : w6.cell? ⟨r0, 1, none⟩ = some (.int .i64 x.s) := o6.cell 1; have y2 : w6.cell? ⟨r0, 2, none⟩ = some (.int .i64 x.c) := o6.cell 2; have y3 : w6.cell? ⟨r0, 3, none⟩ = some (.int .i64 x.o) := o6.cell 3; have y4 : w6.cell? ⟨r0, 4, none⟩ = some (.int .i64 x.p) := o6.cell 4)
          | (refine step_appK (w := w6.alloc (.cells #[.int .i64 x.f, .int .i64 x.s, .int .i64 x.c, .int .i64 x.o, .int .i64 x.p] 69)) rfl (.tmp 31) (.tmp 33) 33 rfl wc.heap.size 69 i0 _ 5 40 Try.underlying33 hi0 hz0 hz1 hz2 rfl (by decide) v6 (0 + K) _ (by rfl) (m6.alloc _) _ 1 _ (lv [x]) (by rfl) (lv_one_row w6 x) (fun i _ => lv_one _ i) (by unfold maxLen; omega) (by omega) (by have := j6.size; simp; omega) ?_; intro v7 w7 m7 g7 l7; have j7 : Below wc.heap.size wc w7 := (j6.alloc j6.size _).grown g7 (by have := j6.size; simp; omega) (fun q e => (m6.lt q e).1))
          | (refine step_appK (w := w6) rfl (.tmp 31) (.tmp 33) 33 rfl wc.heap.size 69 i0 _ 5 40 Try.underlying33 hi0 hz0 hz1 hz2 rfl (by decide) v6 (0 + K) _ (by rfl) m6 _ 1 _ (lv [x]) (by rfl) r6 (fun i _ => lv_one _ i) (by unfold maxLen; omega) (by omega) j6.size ?_; intro v7 w7 m7 g7 l7; have j7 : Below wc.heap.size wc w7 := j6.grown g7 j6.size (fun q e => (m6.lt q e).1))
          | (refine step_appK (w := w7) rfl (.tmp 34) (.tmp 37) 33 rfl wc.heap.size 69 i0 _ 5 40 Try.underlying33 hi0 hz0 hz1 hz2 rfl (by decide) v7 (0 + K + 1) _ (by rfl) m7 A2 (k - K) (cc - K) (lv (M.drop K)) (by rfl) (HRs.out.below j7) (fun i _ => lv_one _ i) (by unfold maxLen; omega) (by omega) j7.size ?_; intro v8 w8 m8 g8 l8; have j8 : Below wc.heap.size wc w8 := j7.grown g8 j7.size (fun q e => (m7.lt q e).1))
          | fail)
        all_goals
          clear x0 x1 x2 x3 x4
          have HW8 : Hid (MineK w8 w.heap.size 69 5 v8 (k + 1) (lv (srtU (l.take (k + 1))))) := Lib.hid (by
            have e8 : 0 + K + 1 + (k - K) = k + 1 := by omega
            rw [e8] at m8
            rw [HSU.out]
            unfold insU
            rw [HK.out]
            refine (mk_low m8 (by omega)).ext (fun i _ => ?_)
            have := lv_ext M K x (by rw [HML.out]; exact hKk) i
            rw [← this]
            rw [show (0 + K + 1) * 5 = (K + 1) * 5 by omega, show (0 + K) * 5 = K * 5 by omega]
            by_cases h1 : i < K * 5
            · rw [if_pos (by omega), if_pos h1, if_neg (by omega), if_pos (by omega), if_pos h1, show i - 0 * 5 = i by omega]
            · by_cases h2 : i < (K + 1) * 5
              · rw [if_pos h2, if_neg h1, if_pos h2, if_neg h1]
              · rw [if_neg h2, if_neg h2])
          have b8 : Below w.heap.size w w8 := hb3.trans (j8.mono hb3.size)
          clear m8 j8
          go_wp2_with fail
          exact ⟨⟨k + 1, by simp, by omega, HW8.out, b8⟩, by simp [intOf]; omega⟩
    · obtain rfl : n = k := by omega
      rw [← HL.out, List.take_length] at hW
      obtain ⟨a9, c9, rfl, _, _, _⟩ := hW.row
      have HQ := Lib.hid hW
      clear hW
      go_wp2_with fail
      go_ret
      exact ⟨_, by rw [HL.out], by have := HQ.out; rw [HL.out] at this; exact this, b1⟩
end Go.Proofs.Ytdpkiolngglpaaa.Ce
