/-
  The reference's tree (chapter 21): parents, by quality from the best one down.
-/
import Derived.Test.YthdgnnjnkeljmaaTrRM
import Derived.Test.YthdgnnjnkeljmaaTrRWalks
set_option maxRecDepth 100000
namespace Go.Proofs.Ythdgnnjnkeljmaa.Tr
set_option linter.unusedVariables false
open Go.RowKit Lb Tp

section
variable {N : Nat} {Q : Nat → Nat → Int} {least : Int} {R : Rk} {n : Nat}
theorem take2 (l : List Nat) (b : Nat) : (l ++ [b]).take 2 = if (l.take 2).length < 2 then l.take 2 ++ [b] else l.take 2 := by
  rcases l with _ | ⟨x, _ | ⟨y, l⟩⟩ <;> simp
/-- Who is chosen so far: all of better quality than 255 - k, and of that quality those among the first j. -/
def selJ (N : Nat) (Q : Nat → Nat → Int) (least : Int) (R : Rk) (n k j : Nat) : List Nat := (((near N Q n least).take j).filter (isC R n)).filter fun b => decide (qual N Q n b = ((255 - k : Nat) : Int))
def selP (N : Nat) (Q : Nat → Nat → Int) (least : Int) (R : Rk) (n k j : Nat) : List Nat := (selAll N Q least R n k ++ selJ N Q least R n k j).take 2
theorem selP_len (k j : Nat) : (selP N Q least R n k j).length ≤ 2 := by
  unfold selP
  rw [List.length_take]
  omega
theorem selP_row (k : Nat) : selP N Q least R n (k + 1) 0 = selP N Q least R n k (near N Q n least).length := by
  unfold selP selAll selJ selQ candR
  rw [List.range_succ, List.flatMap_append, List.take_length]
  simp
theorem selP_zero : selP N Q least R n 0 0 = [] := by
  unfold selP selAll selJ
  simp
theorem selP_end (hF : Fine N Q) : selP N Q least R n 255 0 = par N Q least R n := by
  rw [← par_sel hF]
  unfold selP selJ
  simp
theorem selP_next {k j : Nat} (hj : j < (near N Q n least).length) : selP N Q least R n k (j + 1) = if (isC R n ((near N Q n least).getD j 0) && decide (qual N Q n ((near N Q n least).getD j 0 : Nat) = ((255 - k : Nat) : Int))) = true then (if (selP N Q least R n k j).length < 2 then selP N Q least R n k j ++ [(near N Q n least).getD j 0] else selP N Q least R n k j) else selP N Q least R n k j := by
  have e : (near N Q n least).take (j + 1) = (near N Q n least).take j ++ [(near N Q n least).getD j 0] := by
    rw [List.take_add_one, List.getD_eq_getElem?_getD, List.getElem?_eq_getElem hj]
    rfl
  unfold selP selJ
  rw [e, List.filter_append, List.filter_append, List.filter_cons, List.filter_nil]
  generalize (near N Q n least).getD j 0 = b
  cases h1 : isC R n b
  · simp
  · rw [if_pos rfl, List.filter_cons, List.filter_nil, Bool.true_and]
    cases h2 : decide (qual N Q n b = ((255 - k : Nat) : Int))
    · simp
    · rw [if_pos rfl, if_pos rfl, ← List.append_assoc, take2]
end
theorem mine_below {w w' : World} {base n : Nat} {e : TypeId} {v : Value} {V : Nat → Value} (h : Mine w base e v n V) (j : RowKit.Below w.heap.size w w') : Mine w' base e v n V :=
  h.kept fun b _ => by
    by_cases hb : b < w.heap.size
    · exact .inl (j.block b hb)
    · exact .inr (fun e => hb (h.lt b e).2)
/-- A row that lies in another block than a slice's. -/
def Nl (w : World) (A : Option Addr) (l : List Nat) (v : Value) : Prop := Row w A l.length (ln l) ∧ ∀ b q, A.map Addr.block = some b → v.ownBlock = some q → 0 < l.length → b ≠ q
theorem Nl.grown {w w' : World} {A : Option Addr} {l : List Nat} {v v' : Value} (h : Nl w A l v) (hg : w.grownBy w' v.ownBlock) (ho : ∀ q, v'.ownBlock = some q → v.ownBlock = some q ∨ w.heap.size ≤ q) : Nl w' A l v' := by
  refine ⟨fun hn => ?_, fun b q hA hv hn => ?_⟩
  · obtain ⟨b, off, e1, e2, e3⟩ := h.1 hn
    have hb := hg.block b e2 (fun e => h.2 b b (by rw [e1]; rfl) e.symm hn rfl)
    refine ⟨b, off, e1, Nat.lt_of_lt_of_le e2 hg.size, fun i hi => ?_⟩
    have h6 := e3 i hi
    unfold World.cell? at h6 ⊢
    rw [← h6, hb]
  · rcases ho q hv with h2 | h2
    · exact h.2 b q hA h2 hn
    · have := row_lt h.1 hn b hA
      omega
theorem Nl.alloc {w : World} {A : Option Addr} {l : List Nat} {v : Value} (h : Nl w A l v) (o : Obj) : Nl (w.alloc o) A l v := ⟨h.1.below ((Below.refl _ _).alloc (Nat.le_refl _) o), h.2⟩
theorem Nl.drewN {w : World} {A : Option Addr} {l : List Nat} {v : Value} (h : Nl w A l v) (m : Nat) : Nl (w.drewN m) A l v := h
set_option maxHeartbeats 8000000 in
theorem rpars_any (g t N : Nat) (Q : Nat → Nat → Int) (R : Rk) (PV : Nat → Value) (n r : Nat) (least : Int) (w : World) (hF : Fine N Q) (hn : n < 16) (hR : R n = some (r + 1)) (hnear : ∀ b, b ∈ near N Q n least → ∃ s, R b = some s) (hs : ∀ x s, R x = some s → s ≤ 15) (hT : RTb w t R PV) (hg : Gr w g 66 N Q) :
    Calls Try.prog 35 #[.pointer (some ⟨g, 0, none⟩), .pointer (some ⟨t, 0, none⟩), .int .i64 (n : Int), .int .i64 least] w fun e w' => ∃ A c, e = .returned (.slice A (par N Q least R n).length c) ∧ Rl w' w.heap.size A c (par N Q least R n) ∧ RowKit.Below w.heap.size w w' := by
  obtain ⟨i0, hi0, hz0, hz1, hz2⟩ := info_parts infoT
  have hN := hF.2.1
  have HG := Lib.hid hg
  have HT := Lib.hid hT
  have hr15 := hs n _ hR
  obtain ⟨z, hz, hz1', hz15⟩ : ∃ z : Int, ((r + 1 : Nat) : Int) = z ∧ 1 ≤ z ∧ z ≤ 15 := ⟨_, rfl, by omega, by omega⟩
  have hrn : rI R n = z := by unfold rI; rw [hR]; exact hz
  have HZ := Lib.hid hz
  have HRN := Lib.hid hrn
  have HNEAR : Hid (∀ b, b ∈ near N Q n least → ∃ s, R b = some s ∧ s ≤ 15) := Lib.hid (fun b hb => by
    obtain ⟨s, h⟩ := hnear b hb
    exact ⟨s, h, hs b s h⟩)
  have HRn := Lib.hid hR
  have HF := Lib.hid hF
  clear hg hT hrn hR hnear hs hz hr15
  go_enter Try.func35, Try.ntmps35
  go_wp2_with fail
  go_loopw [9, 10] (fun v q wr => ∃ m k : Nat, q = .int .i64 m ∧ m + k = 255 ∧ Mine wr w.heap.size 3 v (selP N Q least R n k 0).length (ln (selP N Q least R n k 0)) ∧ RowKit.Below w.heap.size w wr) (fun _ q _ => (intOf q).toNat)
  case atStart => exact ⟨255, 0, rfl, by omega, by rw [selP_zero]; exact Mine.nil _ _ _ _, Below.refl _ _⟩
  case round =>
    obtain ⟨m, k, rfl, hmk, hv, bb⟩ := hrel
    by_cases hm0 : m = 0
    · subst hm0
      obtain rfl : k = 255 := by omega
      rw [selP_end HF.out] at hv
      obtain ⟨A5, c5, rfl, h5⟩ := Rl.of hv
      go_wp2_with fail
      go_ret
      exact ⟨A5, c5, rfl, h5, bb⟩
    · have g1 : 1 ≤ (m : Int) := by omega
      have e1 : IntKind.i64.wrap ((m : Int) - 1) = ((m - 1 : Nat) : Int) := by rw [IntWalk.i64_in _ (by omega)]; omega
      have hgr : Gr wr g 66 N Q := below_blk bb HG.out HG.out.lt
      go_wp2_with fail
      refine (rnear g 66 N Q n least _ hgr hN).mono ?_
      rintro e w1 ⟨vn, rfl, hvn, b1⟩
      have hv1 := mine_below hv b1
      have hlt1 := hv.lt
      have bb1 := bb.trans (b1.mono bb.size)
      obtain ⟨A, cN, rfl, hl0⟩ := Rl.of hvn
      have hnl : Nl w1 A (near N Q n least) _ := ⟨hl0.row, fun b q hA hq hn0 => by
        have h1 := hl0.lo hn0 b hA
        have h2 := (hlt1 q hq).2
        omega⟩
      have hcN := hl0.cap
      have hlN := hl0.le
      have hlen : (near N Q n least).length ≤ N := nr_len N Q n least N
      clear hl0 hvn hv bb b1 hgr hlt1
      clear wr
      obtain ⟨L, hL⟩ : ∃ q, (near N Q n least).length = q := ⟨_, rfl⟩
      rw [hL] at hlen hlN ⊢
      have HL := Lib.hid hL
      unfold maxLen at hcN
      have hL63 : (L : Int) ≤ 9223372036854775807 := by omega
      clear hL
      go_wp2_with fail
      go_loopw [9, 22] (fun v i wz => ∃ j : Nat, i = .int .i64 j ∧ j ≤ L ∧ Mine wz w.heap.size 3 v (selP N Q least R n k j).length (ln (selP N Q least R n k j)) ∧ Nl wz A (near N Q n least) v ∧ RowKit.Below w.heap.size w wz) (fun _ i _ => L - (intOf i).toNat)
      case atStart => exact ⟨0, rfl, by omega, hv1, hnl, bb1⟩
      case round =>
        clear hv1 hnl bb1
        obtain ⟨j, rfl, hj, hv, hnl, b2⟩ := hrel
        by_cases hlt : j < L
        · have hjl : j < (near N Q n least).length := by rw [HL.out]; exact hlt
          obtain ⟨bo, off, rfl, hbo, d0⟩ := row_ln hnl.1 (Below.refl _ _) hjl
          have hp := near_lt (N := N) (Q := Q) (least := least) (n := n) hjl
          have hmem : (near N Q n least).getD j 0 ∈ near N Q n least := by
            rw [List.getD_eq_getElem?_getD, List.getElem?_eq_getElem hjl]
            exact List.getElem_mem hjl
          have hnx := selP_next (N := N) (Q := Q) (least := least) (R := R) (n := n) (k := k) hjl
          obtain ⟨p, hpp⟩ : ∃ p, (near N Q n least).getD j 0 = p := ⟨_, rfl⟩
          rw [hpp] at d0 hp hnx hmem
          obtain ⟨s, hRp, hs15⟩ := HNEAR.out p hmem
          have hp16 : p < 16 := by omega
          have hT3 := HT.out.below b2 HT.out.lt
          have t1 := hT3.rank hp16
          have t2 := hT3.rank hn
          rw [HRN.out] at t2
          have hrp : rI R p = (s : Int) := by unfold rI; rw [hRp]
          rw [hrp] at t1
          have hC : isC R n p = decide ((s : Int) = z - 1) := by
            unfold isC rkI
            rw [hRp, HRn.out, ← HZ.out]
            rfl
          have hgr : Gr wr g 66 N Q := below_blk b2 HG.out HG.out.lt
          have hq : ∀ a, Calls Try.prog 46 #[.pointer (some ⟨g, 0, none⟩), .int .i64 (n : Int), .int .i64 (p : Int)] (wr.drewN a) _ := fun a => quiet_some (rquality g 66 N Q n p (wr.drewN a) (Blk.drewN hgr a) hN)
          obtain ⟨y, hy⟩ : ∃ y, qual N Q n p = y := ⟨_, rfl⟩
          rw [hy] at hq hnx
          have hsl := selP_len (N := N) (Q := Q) (least := least) (R := R) (n := n) k j
          have em : ((255 - k : Nat) : Int) = (m : Int) := by omega
          rw [hC, em] at hnx
          have HNX := Lib.hid hnx
          obtain ⟨av, cv, rfl, hlv1, hlv2, hrv⟩ := hv.row
          obtain ⟨ls, hls⟩ : ∃ q, (selP N Q least R n k j).length = q := ⟨_, rfl⟩
          rw [hls] at hsl hlv1 hnl
          have HLS := Lib.hid hls
          have HV := Lib.hid hv
          have e2 : IntKind.i64.wrap (z - 1) = z - 1 := IntWalk.i64_in _ (by omega)
          have g2 : (p : Int) < 16 := by omega
          have g3 : (n : Int) < 16 := by omega
          have hs0 := b2.size
          rw [hls]
          clear hnx hpp hmem hRp hT3 hrp hC hgr hy em hls hv hrv hjl
          by_cases h1 : (s : Int) = z - 1
          · have g4 : ((s : Int) == z - 1) = true := by simpa using h1
            by_cases h2 : y = (m : Int)
            · have g5 : (y == (m : Int)) = true := by simpa using h2
              by_cases h3 : ls < 2
              · have g6 : (ls : Int) < 2 := by omega
                have HY : Hid (selP N Q least R n k (j + 1) = selP N Q least R n k j ++ [p]) := Lib.hid (by rw [HNX.out, HLS.out, if_pos (by rw [decide_eq_true h1, decide_eq_true h2]; rfl), if_pos h3])
                clear h1 h2 h3
                go_upto_region 8 with (fail)
                go_quiet (first | (go_at_call 46; exact hq _))
                generalize hw2 : World.drewN _ _ = w2 at *
                have hv2 := mine_drew HV.out hw2
                have hn2 : Nl w2 _ _ _ := hw2 ▸ hnl.drewN _
                have b3 : RowKit.Below w.heap.size w w2 := by rw [← hw2]; exact below_drewN b2 _
                clear hw2 hnl b2 d0 t1 t2 hq HV
                have hs2 := b3.size
                rw [HLS.out] at hv2
                go_wp2_with (at_builtin; go_must (refine wp_app_at rfl (.tmp 53) (.tmp 55) _ rfl w.heap.size 3 i0 _ 8 Try.underlying33 hi0 hz0 hz1 hz2 rfl _ ls (ln (selP N Q least R n k j)) rfl (hv2.alloc _) _ 1 _ (fun _ => .int .i64 (p : Int)) rfl (row_new _ _ _ _ (fun i hi => by obtain rfl : i = 0 := (by omega); rfl)) (fun _ _ => rfl) ?c1 ?c2 ?c3 ?_))
                case c1 => unfold maxLen; omega
                case c2 => omega
                case c3 => first | omega | (simp; omega)
                intro v' w5 hv5 hg5 ho5
                have b5 : RowKit.Below w.heap.size w w5 := (b3.alloc hs2 _).grown hg5 (by simp; omega) (fun q hq => (hv2.lt q hq).1)
                have hn5 := (hn2.alloc _).grown hg5 (fun q hq => by
                  rcases ho5 with e | e
                  · exact .inl (by rw [← e]; exact hq)
                  · rw [e] at hq
                    injection hq with hq
                    exact .inr (by simp; omega))
                have hv6 : Mine w5 w.heap.size 3 v' (selP N Q least R n k (j + 1)).length (ln (selP N Q least R n k (j + 1))) := by
                  rw [HY.out, List.length_append, HLS.out]
                  exact hv5.ext (fun q hq => by
                    have := ln_snoc (selP N Q least R n k j) p q (by rw [HLS.out]; exact hq)
                    rw [HLS.out] at this
                    exact this)
                clear hv2 hv5 b3 hn2
                go_wp2_with fail
                exact ⟨⟨j + 1, by simp [intOf], by omega, hv6, hn5, b5⟩, by simp [intOf]; omega⟩
              · have g6 : decide ((ls : Int) < 2) = false := by simp; omega
                have HY : Hid (selP N Q least R n k (j + 1) = selP N Q least R n k j) := Lib.hid (by rw [HNX.out, HLS.out, if_neg h3]; split <;> rfl)
                clear h1 h2 h3
                go_upto_region 8 with (fail)
                go_quiet (first | (go_at_call 46; exact hq _))
                generalize hw2 : World.drewN _ _ = w2 at *
                have hv2 := mine_drew HV.out hw2
                have hn2 : Nl w2 _ _ _ := hw2 ▸ hnl.drewN _
                have b3 : RowKit.Below w.heap.size w w2 := by rw [← hw2]; exact below_drewN b2 _
                clear hw2 hnl b2 d0 t1 t2 hq HV
                rw [HLS.out] at hv2
                go_wp2_with fail
                exact ⟨⟨j + 1, by simp [intOf], by omega, by rw [HY.out, HLS.out]; exact hv2, hn2, b3⟩, by simp [intOf]; omega⟩
            · have g5 : (y == (m : Int)) = false := by simpa using h2
              have HY : Hid (selP N Q least R n k (j + 1) = selP N Q least R n k j) := Lib.hid (by rw [HNX.out, if_neg (by rw [decide_eq_false h2, Bool.and_false]; decide)])
              clear h1 h2
              go_upto_region 8 with (fail)
              go_quiet (first | (go_at_call 46; exact hq _))
              generalize hw2 : World.drewN _ _ = w2 at *
              have hv2 := mine_drew HV.out hw2
              have hn2 : Nl w2 _ _ _ := hw2 ▸ hnl.drewN _
              have b3 : RowKit.Below w.heap.size w w2 := by rw [← hw2]; exact below_drewN b2 _
              clear hw2 hnl b2 d0 t1 t2 hq HV
              rw [HLS.out] at hv2
              go_wp2_with fail
              exact ⟨⟨j + 1, by simp [intOf], by omega, by rw [HY.out, HLS.out]; exact hv2, hn2, b3⟩, by simp [intOf]; omega⟩
          · have g4 : ((s : Int) == z - 1) = false := by simpa using h1
            have HY : Hid (selP N Q least R n k (j + 1) = selP N Q least R n k j) := Lib.hid (by rw [HNX.out, decide_eq_false h1]; simp)
            clear h1
            go_upto_region 8 with (fail)
            go_quiet (first | (go_at_call 46; exact hq _))
            generalize hw2 : World.drewN _ _ = w2 at *
            have hv2 := mine_drew HV.out hw2
            have hn2 : Nl w2 _ _ _ := hw2 ▸ hnl.drewN _
            have b3 : RowKit.Below w.heap.size w w2 := by rw [← hw2]; exact below_drewN b2 _
            clear hw2 hnl b2 d0 t1 t2 hq HV
            rw [HLS.out] at hv2
            go_wp2_with fail
            exact ⟨⟨j + 1, by simp [intOf], by omega, by rw [HY.out, HLS.out]; exact hv2, hn2, b3⟩, by simp [intOf]; omega⟩
        · obtain rfl : j = L := by omega
          have g4 : decide ((j : Int) < (j : Int)) = false := by simp
          have hrw : selP N Q least R n (k + 1) 0 = selP N Q least R n k j := by rw [selP_row, HL.out]
          have HRW := Lib.hid hrw
          clear hrw
          go_wp2_with fail
          exact ⟨⟨m - 1, k + 1, by simp, by omega, by rw [HRW.out]; exact hv, b2⟩, by simp [intOf]; omega⟩
end Go.Proofs.Ythdgnnjnkeljmaa.Tr
