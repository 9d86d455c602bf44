/-
  Package tree (chapter 21): choose: the parents of a node.
-/
import Derived.Test.YtahcplddonipcaaGreatTrSort
import Derived.Deep.Cut
import Derived.Deep.CutRange
import Derived.BigQuiet
import Derived.BigRegion
import Derived.IntWalk
set_option maxRecDepth 100000
namespace Go.Proofs.YtahcplddonipcaaGreat.Tr
set_option linter.unusedVariables false
set_option linter.unusedSimpArgs false
open Go.RowKit Lb Tp Go.Sort Go.Shelf

def isC (R : Rk) (n p : Nat) : Bool := decide (rkI R p = rkI R n - 1)
/-- Of the first k neighbours. -/
def candK (N : Nat) (Q : Nat → Nat → Int) (least : Int) (R : Rk) (n k : Nat) : List Nat := ((near N Q n least).take k).filter (isC R n)
theorem candK_next {N : Nat} {Q : Nat → Nat → Int} {least : Int} {R : Rk} {n k : Nat} (hk : k < (near N Q n least).length) :
    candK N Q least R n (k + 1) = candK N Q least R n k ++ if isC R n ((near N Q n least).getD k 0) then [(near N Q n least).getD k 0] else [] := by
  unfold candK
  rw [List.take_add_one, List.filter_append, List.getD_eq_getElem?_getD, List.getElem?_eq_getElem hk]
  congr 1
  simp only [Option.toList_some, Option.getD_some]
  rw [List.filter_cons, List.filter_nil]
theorem candK_len (N : Nat) (Q : Nat → Nat → Int) (least : Int) (R : Rk) (n k : Nat) : (candK N Q least R n k).length ≤ N := by
  unfold candK
  refine Nat.le_trans (List.length_filter_le _ _) (Nat.le_trans (List.length_take_le' _ _) ?_)
  exact nr_len N Q n least N
/-- Whom a node may follow, the best one first. -/
def par (N : Nat) (Q : Nat → Nat → Int) (least : Int) (R : Rk) (n : Nat) : List Nat := (((near N Q n least).filter (isC R n)).mergeSort fun x y => !ltQ N Q n y x).take 2
theorem near_lt {N : Nat} {Q : Nat → Nat → Int} {least : Int} {n k : Nat} (hk : k < (near N Q n least).length) : (near N Q n least).getD k 0 < N := by
  rw [List.getD_eq_getElem?_getD, List.getElem?_eq_getElem hk]
  exact (mem_near.1 (List.getElem_mem hk)).1
theorem row_ln {w w' : World} {A : Option Addr} {l : List Nat} {k : Nat} (h : Row w A l.length (ln l)) (hb : Below w.heap.size w w') (hk : k < l.length) : ∃ b off, A = some ⟨b, off, none⟩ ∧ b < w.heap.size ∧ w'.cell? ⟨b, off + k, none⟩ = some (.int .i64 ((l.getD k 0 : Nat) : Int)) := by
  obtain ⟨b, off, h1, h2, h3⟩ := h (by omega)
  exact ⟨b, off, h1, h2, (hb.cell (p := ⟨b, off + k, none⟩) h2).trans (h3 k hk)⟩
theorem holds_mine {w : World} {g : Nat} {cs : Array Value} {l : List Nat} (h : Own w g 3 cs) (hc : ∀ i, i < l.length → cs[i]? = some (ln l i)) : Holds encN w g 0 l.toArray := by
  intro j hj
  have hj2 : j < l.length := by simpa using hj
  refine ⟨?_, h.free _⟩
  rw [Nat.zero_add, h.cell, hc j hj2, getElem!_pos l.toArray j hj]
  unfold ln encN
  rw [List.getD_eq_getElem?_getD, List.getElem?_eq_getElem hj2]
  rfl
theorem row_holds {w : World} {g : Nat} {d : Array Nat} (h : Holds encN w g 0 d) (hg : g < w.heap.size) : Row w (some ⟨g, 0, none⟩) d.toList.length (ln d.toList) := by
  intro _
  refine ⟨g, 0, rfl, hg, fun j hj => ?_⟩
  have hj2 : j < d.size := by simpa using hj
  rw [(h j hj2).1, getElem!_pos d j hj2]
  unfold ln encN
  rw [List.getD_eq_getElem?_getD, List.getElem?_eq_getElem hj]
  rfl
theorem row_take {w : World} {A : Option Addr} {l : List Nat} {m : Nat} (h : Row w A l.length (ln l)) (hm : m ≤ l.length) : Row w A (l.take m).length (ln (l.take m)) := by
  intro hn
  have hlen : (l.take m).length = m := by rw [List.length_take]; omega
  rw [hlen] at hn ⊢
  obtain ⟨b, off, h1, h2, h3⟩ := h (by omega)
  refine ⟨b, off, h1, h2, fun i hi => ?_⟩
  rw [h3 i (by omega)]
  unfold ln
  rw [List.getD_eq_getElem?_getD, List.getD_eq_getElem?_getD, List.getElem?_take_of_lt hi]
theorem mine_drew {w w2 : World} {base : Nat} {e : TypeId} {v : Value} {n m : Nat} {V : Nat → Value} (h : Mine w base e v n V) (hw : w.drewN m = w2) : Mine w2 base e v n V := by subst hw; exact h.drewN m
set_option maxHeartbeats 4000000 in
theorem choose_any (t g N : Nat) (Q : Nat → Nat → Int) (R : Rk) (PV : Nat → Value) (n : Nat) (least : Int) (w : World) (hN : N ≤ 16) (hn : n < 16) (hR : ∀ x, rkI R x ≤ 1000) (hT : Tb w t R PV) (hg : Gr w g 101 N Q) :
    Calls Tryz.prog 29 #[.pointer (some ⟨t, 0, none⟩), .pointer (some ⟨g, 0, none⟩), .int .i64 (n : Int), .int .i64 least] w fun r w' => ∃ A c, r = .returned (.slice A (par N Q least R n).length c) ∧ Rl w' w.heap.size A c (par N Q least R n) ∧ Below w.heap.size w w' := by
  obtain ⟨i0, hi0, hz0, hz1, hz2⟩ := info_parts infoT
  have hR0 : ∀ x, 0 ≤ rkI R x := fun x => by unfold rkI; omega
  have og := (Own.new w 23 #[.pointer (some ⟨g, 0, none⟩)]).alloc (.cells #[.int .i64 (n : Int)] 3)
  have on := Own.new (w.alloc (.cells #[.pointer (some ⟨g, 0, none⟩)] 23)) 3 #[.int .i64 (n : Int)]
  have bb := ((Below.refl w.heap.size w).alloc (Nat.le_refl _) (.cells #[.pointer (some ⟨g, 0, none⟩)] 23)).alloc (by simp) (.cells #[.int .i64 (n : Int)] 3)
  obtain ⟨ba, hba⟩ : ∃ q, w.heap.size = q := ⟨_, rfl⟩
  have hbb : (w.alloc (.cells #[.pointer (some ⟨g, 0, none⟩)] 23)).heap.size = ba + 1 := by rw [← hba]; simp
  rw [hbb] at on
  rw [hba] at og bb
  have htl := hba ▸ hT.lt
  have hgl := hba ▸ hg.lt
  have hT1 := below_blk bb hT htl
  have hg1 := below_blk bb hg hgl
  have HBA := Lib.hid hba
  clear hT hg
  go_enter Tryz.func29, Tryz.ntmps29
  go_upto_region 1 with (fail)
  clear hba
  generalize (w.alloc (.cells #[.pointer (some ⟨g, 0, none⟩)] 23)).alloc (.cells #[.int .i64 (n : Int)] 3) = w0 at *
  clear hbb
  have c0 : w0.cell? ⟨ba, 0, none⟩ = some (.pointer (some ⟨g, 0, none⟩)) := og.cell 0
  have c1 : w0.cell? ⟨ba + 1, 0, none⟩ = some (.int .i64 (n : Int)) := on.cell 0
  go_wp2_with fail
  refine (near_any g 101 N Q n least w0 hg1 hN).mono ?_
  rintro r w1 ⟨v, rfl, hv, b1⟩
  have bb1 := bb.trans (b1.mono (Nat.le_of_lt og.lt))
  have og1 := below_own b1 og og.lt
  have on1 := below_own b1 on on.lt
  have hT2 := below_blk b1 hT1 hT1.lt
  have hg2 := below_blk b1 hg1 hg1.lt
  obtain ⟨A, cN, rfl, hl0⟩ := Rl.of hv
  have hl : Row w1 A (near N Q n least).length (ln (near N Q n least)) := hl0.row
  have hcN := hl0.cap
  have hlN := hl0.le
  clear hl0
  have hlen : (near N Q n least).length ≤ N := nr_len N Q n least N
  clear hv b1 og on hT1 hg1 c0 c1 bb
  clear w0
  obtain ⟨L, hL⟩ : ∃ q, (near N Q n least).length = q := ⟨_, rfl⟩
  rw [hL] at hlen hlN ⊢
  have HL := Lib.hid hL
  have HROW := Lib.hid hl
  unfold maxLen at hcN
  have hL63 : (L : Int) ≤ 9223372036854775807 := by omega
  clear hL hl
  go_wp2_with fail
  go_loopw [17, 9] (fun i v wr => ∃ k : Nat, i = .int .i64 k ∧ k ≤ L ∧ Mine wr w1.heap.size 3 v (candK N Q least R n k).length (ln (candK N Q least R n k)) ∧ Below w1.heap.size w1 wr) (fun i _ _ => L - (intOf i).toNat)
  case atStart => exact ⟨0, rfl, by omega, Mine.nil _ _ _ _, Below.refl _ _⟩
  case round =>
    obtain ⟨k, rfl, hk, hv, b2⟩ := hrel
    by_cases hlt : k < L
    · have hkl : k < (near N Q n least).length := by rw [HL.out]; exact hlt
      obtain ⟨bo, off, rfl, hbo, d0⟩ := row_ln HROW.out b2 hkl
      have hp := near_lt (N := N) (Q := Q) (least := least) (n := n) hkl
      have hnx := candK_next (R := R) hkl
      have hcl := candK_len N Q least R n k
      obtain ⟨p, hpp⟩ : ∃ p, (near N Q n least).getD k 0 = p := ⟨_, rfl⟩
      rw [hpp] at d0 hp hnx
      have HNX := Lib.hid hnx
      have hp16 : p < 16 := by omega
      have hT3 := below_blk b2 hT2 hT2.lt
      have og3 := below_own b2 og1 og1.lt
      have on3 := below_own b2 on1 on1.lt
      have t1 := Tb.rank hT3 hp16
      have t2 := Tb.rank hT3 hn
      have t3 : wr.cell? ⟨ba + 1, 0, none⟩ = some (.int .i64 (n : Int)) := on3.cell 0
      obtain ⟨x, hx⟩ : ∃ x, rkI R p = x := ⟨_, rfl⟩
      obtain ⟨y, hy⟩ : ∃ y, rkI R n = y := ⟨_, rfl⟩
      have hy0 : 0 ≤ y ∧ y ≤ 1000 := by rw [← hy]; exact ⟨hR0 n, hR n⟩
      have HC : Hid (isC R n p = decide (x = y - 1)) := Lib.hid (by unfold isC; rw [hx, hy])
      rw [hx] at t1
      rw [hy] at t2
      have e1 : IntKind.i64.wrap (y - 1) = y - 1 := IntWalk.i64_in _ (by omega)
      have g1 : (p : Int) < 16 := by omega
      have g2 : (n : Int) < 16 := by omega
      clear hnx hpp hx hy hkl hT3 og3 on3
      go_upto_region 5 with (fail)
      go_quiet (fail)
      generalize hw2 : World.drewN _ _ = w2 at *
      have hv2 := mine_drew hv hw2
      have b3 : RowKit.Below w1.heap.size w1 w2 := by rw [← hw2]; exact below_drewN b2 _
      clear hw2 hv b2 d0 t1 t2 t3 hbo
      by_cases hxy : x = y - 1
      · have HY : Hid (candK N Q least R n (k + 1) = candK N Q least R n k ++ [p]) := Lib.hid (by rw [HNX.out, HC.out, decide_eq_true hxy]; rfl)
        have g3 : (x == y - 1) = true := by simpa using hxy
        have hm : (candK N Q least R n k).length + 1 ≤ maxLen := by unfold maxLen; omega
        have Hm := Lib.hid hm
        have hs2 := b3.size
        clear hm hxy
        go_wp2_with (at_builtin; go_must (refine wp_app rfl (.tmp 37) (.tmp 39) _ rfl w1.heap.size 3 i0 _ 8 Tryz.underlying29 hi0 hz0 hz1 hz2 rfl _ (candK N Q least R n k).length (ln (candK N Q least R n k)) rfl (hv2.alloc _) _ 1 _ (fun _ => .int .i64 (p : Int)) rfl (row_new _ _ _ _ (fun i hi => by obtain rfl : i = 0 := (by omega); rfl)) (fun _ _ => rfl) Hm.out ?c2 ?c3 ?_))
        case c2 => omega
        case c3 => first | omega | (simp; omega)
        intro v' w5 hv5 hg5
        have b5 : RowKit.Below w1.heap.size w1 w5 := (b3.alloc hs2 _).grown hg5 (by simp; omega) (fun q hq => (hv2.lt q hq).1)
        have hv6 : Mine w5 w1.heap.size 3 v' (candK N Q least R n (k + 1)).length (ln (candK N Q least R n (k + 1))) := by
          rw [HY.out, List.length_append]
          exact hv5.ext (fun q hq => ln_snoc _ _ _ hq)
        clear hv2 hv5 b3
        go_wp2_with fail
        exact ⟨⟨k + 1, by simp [intOf], by omega, hv6, b5⟩, by simp [intOf]; omega⟩
      · have HY : Hid (candK N Q least R n (k + 1) = candK N Q least R n k) := Lib.hid (by rw [HNX.out, HC.out, decide_eq_false hxy]; simp)
        have g3 : (x == y - 1) = false := by simpa using hxy
        clear hxy
        go_wp2_with fail
        exact ⟨⟨k + 1, by simp [intOf], by omega, by rw [HY.out]; exact hv2, b3⟩, by simp [intOf]; omega⟩
    · obtain rfl : k = L := by omega
      have g4 : decide ((k : Int) < (k : Int)) = false := by simp
      have hce : candK N Q least R n k = (near N Q n least).filter (isC R n) := by unfold candK; rw [← HL.out, List.take_length]
      have hcl := candK_len N Q least R n k
      rw [hce] at hv hcl
      obtain ⟨M, hM⟩ : ∃ M, (near N Q n least).filter (isC R n) = M := ⟨_, rfl⟩
      rw [hM] at hv hcl
      have HP : Hid (par N Q least R n = (M.mergeSort fun x y => !ltQ N Q n y x).take 2) := Lib.hid (by unfold par; rw [hM])
      have hs2 := b2.size
      by_cases h0 : M.length = 0
      · obtain ⟨a5, c5, rfl, h5, h6, _⟩ := hv.row
        have hM0 : M = [] := List.length_eq_zero_iff.1 h0
        subst hM0
        have HP2 : Hid (par N Q least R n = []) := Lib.hid (by rw [HP.out]; simp)
        rw [List.length_nil] at h5
        unfold maxLen at h6
        go_wp2_with (go_at_call 54; refine (sort_none c5 a5 _ _).mono ?_; rintro q w6 ⟨rfl, rfl⟩)
        go_ret
        refine ⟨a5, c5, by rw [HP2.out]; rfl, ?_, ?_⟩
        · rw [HP2.out]
          exact ⟨Nat.zero_le _, by unfold maxLen; omega, Row.nil _ _ _, fun h => absurd h (by simp)⟩
        · rw [HBA.out]
          exact bb1.trans (b2.mono (Nat.le_of_lt og1.lt))
      · obtain ⟨b, cs, rfl, hb, ho, h5, h6, h7⟩ := hv.block (by omega)
        have hh := holds_mine ho h7
        have og3 := below_own b2 og1 og1.lt
        have on3 := below_own b2 on1 on1.lt
        have hS := sort_any g N Q n ba (ba + 1) b cs.size M.toArray wr hN (below_blk b2 hg2 hg2.lt) (og3.cell 0) (on3.cell 0) (by have := hg2.lt; omega) (by have := og1.lt; omega) (by have := on1.lt; omega) hh ho.lt (by simp; omega)
        rw [List.size_toArray] at hS
        obtain ⟨m, hm⟩ : ∃ m, M.length = m := ⟨_, rfl⟩
        rw [hm] at hS h5 h0 hcl ⊢
        have HM := Lib.hid hm
        obtain ⟨Z, hZ, hZ2⟩ : ∃ Z : Nat, min 2 (m : Int) = (Z : Int) ∧ Z = min 2 m := ⟨min 2 m, by omega, rfl⟩
        have hZ3 : min (m : Int) 2 = (Z : Int) := by omega
        have hZm : Z ≤ m := by omega
        have HZ2 := Lib.hid hZ2
        have hblt := ho.lt
        unfold maxLen at h6
        have hcs63 : (cs.size : Int) ≤ 9223372036854775807 := by omega
        have hm63 : (m : Int) ≤ 9223372036854775807 := by omega
        have hZc : (Z : Int) ≤ (cs.size : Int) := by omega
        obtain ⟨C, hC⟩ : ∃ C, cs.size = C := ⟨_, rfl⟩
        rw [hC] at h5 h6 hcs63 hZc hS ⊢
        clear hh ho h7 og3 on3 hm hZ2 hC hce hv
        go_wp2_with (go_at_call 54; refine hS.mono ?_; rintro q w6 ⟨rfl, d', hd1, hd2, hd3, j6⟩)
        have b6 := j6.below b2 hb hs2
        go_ret
        have hML : d'.toList.length = m := by
          rw [Array.length_toList, hd1]
        have hpl : par N Q least R n = d'.toList.take 2 := by rw [HP.out, hd2]
        have hpt : d'.toList.take 2 = d'.toList.take Z := by
          rw [HZ2.out]
          by_cases h : 2 ≤ m
          · rw [Nat.min_eq_left h]
          · rw [Nat.min_eq_right (by omega), List.take_of_length_le (by omega), List.take_of_length_le (by omega)]
        have hlen2 : (d'.toList.take Z).length = Z := by rw [List.length_take]; omega
        refine ⟨some ⟨b, 0, none⟩, C, ?_, ?_, ?_⟩
        · rw [hpl, hpt, hlen2]
          rfl
        · rw [hpl, hpt]
          refine ⟨by rw [hlen2]; omega, by unfold maxLen; omega, row_take (row_holds hd3 (Nat.lt_of_lt_of_le hblt j6.size)) (by omega), fun _ q e => ?_⟩
          have e : b = q := by simpa using e
          have := og1.lt
          rw [HBA.out]
          omega
        · rw [HBA.out]
          exact bb1.trans (b6.mono (Nat.le_of_lt og1.lt))
end Go.Proofs.YtahcplddonipcaaGreat.Tr
