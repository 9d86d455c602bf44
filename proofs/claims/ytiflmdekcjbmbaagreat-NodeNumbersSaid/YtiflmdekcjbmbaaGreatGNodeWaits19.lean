/-
  The reference's bytes of elements. Package ie (chapter 6): elements out of bytes, plain. Package ie (chapter 6): a byte and whether it is there; which sizes fit; a list read. Package ie (chapter 6): slices.Clone at int, off the shelf.
-/
import Derived.Test.YtiflmdekcjbmbaaGreatGNodeWaits17
import Derived.Test.YtiflmdekcjbmbaaGreatGNodeWaits04
import Derived.Test.YtiflmdekcjbmbaaGreatGNodeWaits11
import Derived.Deep.RegionHeld3
import Derived.Deep.CutBlock
import Derived.Test.YtiflmdekcjbmbaaGreatGNodeWaits18
import Derived.Ground.Names2Prog
import Derived.Shelf.Slices.Clone
import Derived.Lib.OwnBridge
set_option maxRecDepth 100000
namespace Go.Proofs.YtiflmdekcjbmbaaGreat.Ie
set_option linter.unusedVariables false
set_option linter.unusedSimpArgs false
open Go.RowKit Lb Go.Shelf Bf

theorem Mine.low {w : World} {base base' : Nat} {e : TypeId} {v : Value} {n : Nat} {V : Nat → Value} (h : Mine w base e v n V) (hb : base' ≤ base) : Mine w base' e v n V := by
  obtain ⟨h1, h2⟩ := h
  refine ⟨h1, ?_⟩
  rcases h2 with h2 | ⟨g, cap, cur, hv, hg, r⟩
  · exact .inl h2
  · exact .inr ⟨g, cap, cur, hv, Nat.le_trans hb hg, r⟩
/-- What stands behind the kind and the size. -/
def xsOf (e : El) : List Int := if e.k = 1 then bytesK e.asn.toNat 5 ++ [e.rank] else if e.k = 2 then bytesK (u64 e.ticks) 2 else e.list
theorem enc_xs (e : El) : encOne e = [e.k] ++ [((xsOf e).length : Int)] ++ xsOf e := by
  unfold encOne xsOf
  by_cases k1 : e.k = 1
  · rw [if_pos k1, if_pos k1, k1]; simp [bytesK_len]
  · by_cases k2 : e.k = 2
    · rw [if_neg k1, if_pos k2, if_neg k1, if_pos k2, k2]; simp [bytesK_len]
    · rw [if_neg k1, if_neg k2, if_neg k1, if_neg k2]
theorem xs_len {e : El} (h : mayE e = true) : (xsOf e).length ≤ 16 := by
  have := encOne_len h
  rw [enc_xs] at this
  simp at this
  omega
theorem octet_bytes (N k i : Nat) (h : i < k) : octet (N : Int) k i = (bytesK N k).getD i 0 := by
  rw [bytesK_at _ _ _ h, Nat.shiftRight_eq_div_pow]
  unfold octet
  push_cast
  rfl
theorem bval_app (l m : List Int) (q : Nat) : (if q < l.length then bval l q else bval m (q - l.length)) = bval (l ++ m) q := by
  unfold bval
  by_cases h : q < l.length
  · rw [if_pos h, List.getD_eq_getElem?_getD, List.getD_eq_getElem?_getD, List.getElem?_append_left h]
  · rw [if_neg h, List.getD_eq_getElem?_getD, List.getD_eq_getElem?_getD, List.getElem?_append_right (by omega)]
theorem u8_id {x : Int} (h : 0 ≤ x ∧ x < 256) : IntKind.u8.wrap x = x := by
  simp only [IntKind.wrap, IntKind.signed, IntKind.bits]
  simp
  omega
theorem at_app {P : Program} {w : World} {ops : Array Oper} {a : Act} {K : Act → World → Prop} {Q : Exit → Act → World → Prop} {E : Prop} {s x : Operand} {t t' : TypeId} {d ty pos af g}
    (h : if Region.wanted (Oper.mk d (.call { callee := .builtin .append, args := #[s, x], argTypes := #[t, t'] }) ty pos af g) (yielded ops a.tmps) = true then Oper.wp P (Oper.mk d (.call { callee := .builtin .append, args := #[s, x], argTypes := #[t, t'] }) ty pos af g) a w K Q else E) :
    if Region.wanted (Oper.mk d (.call { callee := .builtin .append, args := #[s, x], argTypes := #[t, t'] }) ty pos af g) (yielded ops a.tmps) = true then Oper.wp P (Oper.mk d (.call { callee := .builtin .append, args := #[s, x], argTypes := #[t, t'] }) ty pos af g) a w K Q else E := h
theorem mine_snoc {w : World} {base n : Nat} {v : Value} {l X : List Int} {x : Int} (hX : X = l ++ [x]) (hl : l.length = n) (h : Mine w base 5 v (n + 1) (fun i => if i < n then bval l i else bval [x] (i - n))) : Mine w base 5 v X.length (bval X) := by
  subst hX
  subst hl
  rw [List.length_append]
  exact h.ext (fun i _ => bval_app l [x] i)
theorem Mine.lo {w : World} {base : Nat} {e : TypeId} {v : Value} {n : Nat} {V : Nat → Value} (h : Mine w base e v n V) : ∀ q, v.ownBlock = some q → base ≤ q := fun q hq => (h.lt q hq).1
def REncPost (l : List El) (w : World) (r : Ending) (w' : World) : Prop :=
  if mayL l = true then ∃ v, r = .returned (.tuple #[v, .int .i64 0]) ∧ Mine w' w.heap.size 5 v (encI l).length (bval (encI l)) ∧ Below w.heap.size w w'
  else r = .returned (.tuple #[.slice none 0 0, .int .i64 1]) ∧ Below w.heap.size w w'
set_option maxHeartbeats 4000000 in
theorem rencode_own (L : List EP) (a : Option Addr) (c : Nat) (w : World) (h : Els w L a c) :
    Calls Tryz.prog 54 #[.slice a L.length c] w (REncPost (els L) w) := by
  have hlc := h.lc
  have hcm := h.cm
  unfold maxLen at hcm
  have hrow := h.row
  have hels := Lib.hid h.els
  clear h
  obtain ⟨i0, hi0, hz0, hz1, hz2⟩ := info_parts info8
  obtain ⟨n, hn⟩ : ∃ n, L.length = n := ⟨_, rfl⟩
  have HN := Lib.hid hn
  rw [hn] at hlc hrow ⊢
  clear hn
  by_cases h4 : n ≤ 4
  · have g1 : decide ((4 : Int) < (n : Int)) = false := by simp; omega
    have g2 : decide (4 < n) = false := by simp; omega
    have u0 : IntKind.u8.wrap (n : Int) = (n : Int) := u8_id (by omega)
    have ho := Own.new w 5 #[.int .u8 (n : Int)]
    have b1 := (Below.refl w.heap.size w).alloc (Nat.le_refl _) (.cells #[.int .u8 (n : Int)] 5)
    have hW : Mine (w.alloc (.cells #[.int .u8 (n : Int)] 5)) w.heap.size 5 (.slice (some ⟨w.heap.size, 0, none⟩) 1 1) 1 (bval [(n : Int)]) := Mine.made ho (Nat.le_refl _) (by simp [maxLen]) (Nat.le_refl _) (fun i hi => by cases Nat.lt_one_iff.1 hi; rfl)
    clear ho
    go_enter Tryz.func54, Tryz.ntmps54
    go_upto_region 4 with (fail)
    generalize w.alloc (.cells #[.int .u8 (n : Int)] 5) = w1 at *
    obtain ⟨g, hg⟩ : ∃ g, w.heap.size = g := ⟨_, rfl⟩
    have HG := Lib.hid hg
    rw [hg] at hW b1 ⊢
    clear hg u0
    go_wp2_with fail
    go_loopw [4, 19] (fun v i wr => ∃ (k : Nat), i = .int .i64 k ∧ k ≤ n ∧ Mine wr g 5 v ([(n : Int)] ++ encL ((els L).take k)).length (bval ([(n : Int)] ++ encL ((els L).take k))) ∧ Hid (∀ j, j < k → mayE (L.getD j ep0).e = true) ∧ Below g w wr) (fun _ i _ => n - (intOf i).toNat)
    case atStart => exact ⟨0, rfl, by omega, hW, Lib.hid (fun j hj => by omega), b1⟩
    case round =>
      clear hW b1
      obtain ⟨k, rfl, hk, hW, HE, b2⟩ := hrel
      have hbw : Below w.heap.size w wr := by rw [HG.out]; exact b2
      have hgr : g ≤ wr.heap.size := by rw [← HG.out]; exact hbw.size
      by_cases hlt : k < n
      · obtain ⟨x, hx⟩ : ∃ x, L.getD k ep0 = x := ⟨_, rfl⟩
        obtain ⟨pb, po, rfl, hpb, x0, x1, x2, x3, x4⟩ := erow hrow hbw hlt hx
        have hat := hels.out k (by rw [HN.out]; exact hlt)
        rw [hx] at hat
        have hl1 := els_at (k := k) (by rw [HN.out]; exact hlt) hx
        have HX := Lib.hid hx
        have hlen : ([(n : Int)] ++ encL ((els L).take k)).length ≤ 900 := by
          have : ∀ j, (hj : j < (els L).length) → j < k → mayE (els L)[j] = true := fun j hj hjk => by
            have e1 := els_at (L := L) (k := j) (by rw [els_len] at hj; exact hj) rfl
            rw [e1]
            exact HE.out j hjk
          have e2 : (encL ((els L).take k)).length ≤ 18 * k := by
            have h9 := encL_take_len (l := (els L).take k) (fun j hj => by
              rw [List.getElem_take]
              rw [List.length_take] at hj
              exact this j (by omega) (by omega)) k (by rw [List.length_take, els_len, HN.out]; omega)
            rwa [List.take_take, Nat.min_self] at h9
          simp only [List.length_append, List.length_cons, List.length_nil]
          omega
        have HL := Lib.hid hlen
        have HL1 := Lib.hid hl1
        clear hlen hl1 hx
        obtain ⟨⟨ek, easn, erank, et, el⟩, ea, ec⟩ := x
        simp only at x0 x1 x2 x3 x4 hat
        have o3 := Own.new wr 59 #[.int .i64 ek, .int .i64 easn, .int .i64 erank, .int .i64 et, .slice ea el.length ec]
        have b3 := b2.alloc hgr (.cells #[.int .i64 ek, .int .i64 easn, .int .i64 erank, .int .i64 et, .slice ea el.length ec] 59)
        have hW3 := hW.alloc (.cells #[.int .i64 ek, .int .i64 easn, .int .i64 erank, .int .i64 et, .slice ea el.length ec] 59)
        go_upto_region 7 with (fail)
        generalize wr.alloc (.cells #[.int .i64 ek, .int .i64 easn, .int .i64 erank, .int .i64 et, .slice ea el.length ec] 59) = w3 at *
        obtain ⟨gg, hgg⟩ : ∃ g, wr.heap.size = g := ⟨_, rfl⟩
        rw [hgg] at o3 ⊢
        clear x0 x1 x2 x3 x4 hgg hbw hgr hW b2
        have hat3 := hat.below (by rw [HG.out]; exact b3)
        have c0 : w3.cell? ⟨gg, 0, none⟩ = some (.int .i64 ek) := o3.cell 0
        have c1 : w3.cell? ⟨gg, 1, none⟩ = some (.int .i64 easn) := o3.cell 1
        have c2 : w3.cell? ⟨gg, 2, none⟩ = some (.int .i64 erank) := o3.cell 2
        have c3 : w3.cell? ⟨gg, 3, none⟩ = some (.int .i64 et) := o3.cell 3
        have c4 : w3.cell? ⟨gg, 4, none⟩ = some (.slice ea el.length ec) := o3.cell 4
        have hM := rmay_any ⟨ek, easn, erank, et, el⟩ ea ec w3 hat3
        unfold El.vals at hM
        simp only at hM
        obtain ⟨q, hq⟩ : ∃ q, mayE ⟨ek, easn, erank, et, el⟩ = q := ⟨_, rfl⟩
        rw [hq] at hM
        have HM := Lib.hid hM
        clear hM
        have hg3 : g ≤ w3.heap.size := by have := b3.size; rw [← HG.out]; exact this
        cases q
        · have HD : Hid (mayL (els L) = false) := Lib.hid (mayL_no (k := k) (by rw [els_len, HN.out]; exact hlt) (by rw [HL1.out]; exact hq))
          clear hq
          go_wp2_with fail
          refine HM.out.mono ?_
          rintro r w4 ⟨rfl, b4⟩
          go_wp2_with fail
          go_ret2
          unfold REncPost
          rw [HD.out]
          refine ⟨rfl, ?_⟩
          rw [HG.out]
          exact b3.trans (b4.mono hg3)
        · have HQ := Lib.hid hq
          clear hq
          go_wp2_with fail
          refine HM.out.mono ?_
          rintro r w4 ⟨rfl, b4⟩
          have o4 := below_own b4 o3 o3.lt
          have hW4 : Mine w4 g 5 u4 ([(n : Int)] ++ encL ((els L).take k)).length (bval ([(n : Int)] ++ encL ((els L).take k))) := hW3.kept (fun q hq => by
            by_cases h : q < w3.heap.size
            · exact .inl (b4.block q h)
            · exact .inr (fun e => h (hW3.lt q e).2))
          have b5 := b3.trans (b4.mono hg3)
          have hat4 := hat3.below b4
          clear c0 c1 c2 c3 c4 hat3 o3 hW3 b3 HM
          have c0 : w4.cell? ⟨gg, 0, none⟩ = some (.int .i64 ek) := o4.cell 0
          have c1 : w4.cell? ⟨gg, 1, none⟩ = some (.int .i64 easn) := o4.cell 1
          have c2 : w4.cell? ⟨gg, 2, none⟩ = some (.int .i64 erank) := o4.cell 2
          have c3 : w4.cell? ⟨gg, 3, none⟩ = some (.int .i64 et) := o4.cell 3
          have c4 : w4.cell? ⟨gg, 4, none⟩ = some (.slice ea el.length ec) := o4.cell 4
          obtain ⟨X, hX⟩ : ∃ X, xsOf ⟨ek, easn, erank, et, el⟩ = X := ⟨_, rfl⟩
          have HXS := Lib.hid hX
          clear hX
          go_upto_block 2 with (fail)
          go_cut [7] from 26 to 57 (fun v7 wx => Mine wx w4.heap.size 5 v7 X.length (bval X) ∧ Below w4.heap.size w4 wx)
          case first =>
            by_cases k1 : ek = 1
            · subst k1
              have hr := HQ.out
              rw [may1] at hr
              simp only [Bool.and_eq_true, decide_eq_true_eq, asnB] at hr
              obtain ⟨hr1, hr2, hr3, _⟩ := hr
              have hXe : X = bytesK easn.toNat 5 ++ [erank] := by rw [← HXS.out]; rfl
              have u1 : IntKind.u64.wrap easn = easn := u64_id (by omega)
              have u2 : IntKind.u8.wrap erank = erank := u8_id (by omega)
              have HXE := Lib.hid hXe
              have hBY : ∀ W, Calls Tryz.prog 112 #[.int .u64 easn, .int .i64 5] W fun r w' => ∃ v, r = .returned v ∧ Mine w' W.heap.size 5 v 5 (bval (bytesK easn.toNat 5)) ∧ Below W.heap.size W w' := fun W => by
                refine (Lb.bytes_any easn 5 W (by omega) (by omega)).mono ?_
                rintro r w' ⟨v, h1, h2, h3⟩
                refine ⟨v, h1, h2.ext fun i hi => ?_, h3⟩
                unfold bval
                rw [← octet_bytes _ _ _ hi, Int.toNat_of_nonneg (by omega)]
              have HBY := Lib.hid hBY
              have hALL : ∀ W, Lb.Own W gg 59 #[.int .i64 1, .int .i64 easn, .int .i64 erank, .int .i64 et, .slice ea el.length ec] → W.cell? ⟨gg, 1, none⟩ = some (.int .i64 easn) ∧ W.cell? ⟨gg, 2, none⟩ = some (.int .i64 erank) := fun W h => ⟨h.cell 1, h.cell 2⟩
              have HALL := Lib.hid hALL
              clear hBY hALL hXe hat4
              go_upto_region 17 with (fail)
              have oA : Lb.Own w4.drew gg 59 #[.int .i64 1, .int .i64 easn, .int .i64 erank, .int .i64 et, .slice ea el.length ec] := o4.drewN 1
              have oB : Lb.Own (w4.alloc (.cells #[.int .u8 erank] 5)).drew gg 59 #[.int .i64 1, .int .i64 easn, .int .i64 erank, .int .i64 et, .slice ea el.length ec] := (o4.alloc (.cells #[.int .u8 erank] 5)).drewN 1
              have s0 := HALL.out _ oA
              have sB := HALL.out _ oB
              have lgg := o4.lt
              have dA : Below w4.heap.size w4 w4.drew := below_drewN (Below.refl _ _) 1
              have dB : Below w4.heap.size w4 (w4.alloc (.cells #[.int .u8 erank] 5)).drew := below_drewN ((Below.refl _ _).alloc (Nat.le_refl _) _) 1
              have rB : Row (w4.alloc (.cells #[.int .u8 erank] 5)).drew (some ⟨w4.heap.size, 0, none⟩) 1 (bval [erank]) := (row_new _ _ _ _ (fun i hi => by cases Nat.lt_one_iff.1 hi; rfl)).drewN 1
              have h63 : 5 + 1 ≤ maxLen := by unfold maxLen; decide
              have H63 := Lib.hid h63
              clear h63
              go_region_held3 (fun w' => w'.cell? ⟨gg, 1, none⟩ = some (.int .i64 easn) ∧ w'.cell? ⟨gg, 2, none⟩ = some (.int .i64 erank)) (with_reducible first | exact s0 | exact sB | exact s1 | exact s2 | exact s3 | fail) (first
                | (go_at_call 112; refine (HBY.out _).mono ?_; rintro q5 w5 ⟨v5, rfl, m5, b5⟩; (first
                    | (have gd : Below _ w4.drew w5 := (by with_reducible exact b5); have o5 := below_own gd oA oA.lt; have s1 := HALL.out _ o5; have b6 := dA.trans (gd.mono dA.size); have m6 := (Mine.low m5 dA.size).alloc (.cells #[.int .u8 erank] 5); have r6 : Row (w5.alloc (.cells #[.int .u8 erank] 5)) (some ⟨w5.heap.size, 0, none⟩) 1 (bval [erank]) := row_new _ _ _ _ (fun i hi => by cases Nat.lt_one_iff.1 hi; rfl); have b7 := b6.alloc b6.size (.cells #[.int .u8 erank] 5); have o7 := o5.alloc (.cells #[.int .u8 erank] 5); have s2 := HALL.out _ o7)
                    | (have gd : Below _ (w4.alloc (.cells #[.int .u8 erank] 5)).drew w5 := (by with_reducible exact b5); have o5 := below_own gd oB oB.lt; have s1 := HALL.out _ o5; have b7 := dB.trans (gd.mono dB.size); have m6 := Mine.low m5 dB.size; have r6 := rB.below b5; have o7 := o5)))
                | (with_reducible refine at_app ?_; refine step_app rfl (.tmp 46) (.tmp 50) 35 rfl w4.heap.size 5 i0 _ 1 Tryz.underlying35 hi0 hz0 hz1 hz2 rfl v5 5 (bval (bytesK easn.toNat 5)) rfl m6 _ 1 1 (bval [erank]) rfl r6 (fun _ _ => rfl) H63.out (by omega) b7.size ?_; intro v8 w8 m8 g8 _; have b8 := b7.grown g8 b7.size (fun q hq => (m6.lt q hq).1); have o8 := grown_own g8 o7 (fun e => by have := (m6.lt _ e).1; omega); have s3 := HALL.out _ o8; have m9 : Mine w8 w4.heap.size 5 v8 X.length (bval X) := mine_snoc HXE.out (bytesK_len _ _) m8)
                | fail)
              all_goals
                go_wp2_with fail
                go_meet
                exact ⟨m9, b8⟩
            · have f1 : (ek == 1) = false := by simpa using k1
              by_cases k2 : ek = 2
              · subst k2
                have hXe : X = bytesK (Ie.u64 et) 2 := by rw [← HXS.out]; rfl
                have u1 := u64_eq et
                have hBY : ∀ W, Calls Tryz.prog 112 #[.int .u64 ((Ie.u64 et : Nat) : Int), .int .i64 2] W fun r w' => ∃ v, r = .returned v ∧ Mine w' W.heap.size 5 v 2 (bval (bytesK (Ie.u64 et) 2)) ∧ Below W.heap.size W w' := fun W => by
                  refine (Lb.bytes_any ((Ie.u64 et : Nat) : Int) 2 W (by omega) (by omega)).mono ?_
                  rintro r w' ⟨v, h1, h2, h3⟩
                  refine ⟨v, h1, h2.ext fun i hi => ?_, h3⟩
                  unfold bval
                  rw [← octet_bytes _ _ _ hi]
                have HBY := Lib.hid hBY
                have HXE := Lib.hid hXe
                clear hBY hXe k1
                go_wp2_with fail
                refine (HBY.out _).mono ?_
                rintro r w5 ⟨v5, rfl, m5, b5⟩
                go_wp2_with fail
                go_meet
                rw [HXE.out, bytesK_len]
                exact ⟨m5, b5⟩
              · have f2 : (ek == 2) = false := by simpa using k2
                have hk34 : ek = 3 ∨ ek = 4 := by
                  rcases mayE_kind HQ.out with h | h | h | h
                  · exact absurd h k1
                  · exact absurd h k2
                  · exact .inl h
                  · exact .inr h
                have hr := HQ.out
                rw [may3 _ _ _ _ _ hk34] at hr
                simp only [Bool.and_eq_true, decide_eq_true_eq] at hr
                obtain ⟨hoc, h16, _⟩ := hr
                unfold octsB at hoc
                rw [decide_eq_true_eq] at hoc
                have HOC := Lib.hid hoc
                obtain rfl : el = X := by rw [← HXS.out]; unfold xsOf; rw [if_neg k1, if_neg k2]
                have hR := hat4.row
                obtain ⟨m, hm⟩ : ∃ m, el.length = m := ⟨_, rfl⟩
                have HM := Lib.hid hm
                rw [hm] at hR h16 c4
                clear hoc hk34 k1 k2 hm hat4
                go_wp2_with fail
                go_loopw [7, 31] (fun v i wr => ∃ (k : Nat), i = .int .i64 k ∧ k ≤ m ∧ Mine wr w4.heap.size 5 v k (bval el) ∧ Below w4.heap.size w4 wr) (fun _ i _ => m - (intOf i).toNat)
                case atStart => exact ⟨0, rfl, by omega, Mine.nil _ _ _ _, Below.refl _ _⟩
                case round =>
                  rename_i kk _ _
                  obtain ⟨k, rfl, hk, hv, bb⟩ := hrel
                  by_cases hlt : k < m
                  · obtain ⟨pa, po', rfl, _, x1⟩ := (hR.below bb).at_ hlt
                    unfold zval at x1
                    obtain ⟨x, hx⟩ : ∃ x, el.getD k 0 = x := ⟨_, rfl⟩
                    rw [hx] at x1
                    have hxb := HOC.out k (by rw [HM.out]; exact hlt)
                    rw [hx] at hxb
                    have HX2 := Lib.hid hx
                    have u1 : IntKind.u8.wrap x = x := u8_id (by omega)
                    have hm1 : k + 1 ≤ maxLen := by unfold maxLen; omega
                    have Hm := Lib.hid hm1
                    have hs := bb.size
                    clear hx hxb hm1
                    go_wp2_with (at_builtin; go_must (refine wp_app rfl (.tmp 35) (.tmp 38) _ rfl w4.heap.size 5 i0 _ 1 Tryz.underlying35 hi0 hz0 hz1 hz2 rfl u7 k (bval el) rfl (hv.alloc _) _ 1 _ (bval [x]) rfl (row_new _ _ _ _ (fun i hi => by cases Nat.lt_one_iff.1 hi; rfl)) (fun _ _ => rfl) Hm.out ?c2 ?c3 ?_))
                    case c2 => omega
                    case c3 => simp; omega
                    intro v' w2 hv2 hg
                    have b2 : Below w4.heap.size w4 w2 := (bb.alloc hs _).grown hg (by simp; omega) (fun q hq => (hv.lt q hq).1)
                    have hv3 := hv2.ext (U := bval el) (fun q hq => by
                      by_cases h : q < k
                      · rw [if_pos h]
                      · obtain rfl : q = k := by omega
                        rw [if_neg h, Nat.sub_self]
                        unfold bval
                        rw [HX2.out]
                        rfl)
                    clear hv hv2 hg
                    go_wp2_with fail
                    exact ⟨⟨k + 1, by simp, by omega, hv3, b2⟩, by simp [intOf]; omega⟩
                  · obtain rfl : m = k := by omega
                    go_wp2_with fail
                    go_meet
                    rw [HM.out]
                    exact ⟨hv, bb⟩
          case rest =>
            clear c0 c1 c2 c3 c4 hat4
            obtain ⟨hX7, b7⟩ := hcut
            have o7 := below_own b7 o4 o4.lt
            have hk4 := mayE_kind HQ.out
            have hx16 := xs_len HQ.out
            rw [HXS.out] at hx16
            have hWc : Mine wc g 5 u4 ([(n : Int)] ++ encL ((els L).take k)).length (bval ([(n : Int)] ++ encL ((els L).take k))) := hW4.kept (fun q hq => by
              by_cases h : q < w4.heap.size
              · exact .inl (b7.block q h)
              · exact .inr (fun e => h (hW4.lt q e).2))
            have hulo := fun q e => (hW4.lt q e).2
            have b8 := b5.trans (b7.mono (by have := b4.size; omega))
            have hNX : ([(n : Int)] ++ encL ((els L).take (k + 1))) = ([(n : Int)] ++ encL ((els L).take k)) ++ ([ek] ++ [(X.length : Int)] ++ X) := by
              rw [encL_take (by rw [els_len, HN.out]; exact hlt), HL1.out, enc_xs, HXS.out]
              simp
            have hl9 := HL.out
            obtain ⟨l, hl⟩ : ∃ l, ([(n : Int)] ++ encL ((els L).take k)) = l := ⟨_, rfl⟩
            rw [hl] at hWc hNX hl9
            have HNX := Lib.hid hNX
            have HUL := Lib.hid hulo
            obtain ⟨a7, c7, rfl, l7, m7, R7⟩ := hX7.row
            have hk4 : 1 ≤ ek ∧ ek ≤ 4 := by
              have : ek = 1 ∨ ek = 2 ∨ ek = 3 ∨ ek = 4 := hk4
              omega
            have u1 : IntKind.u8.wrap ek = ek := u8_id (by omega)
            obtain ⟨x, hxl⟩ : ∃ x, X.length = x := ⟨_, rfl⟩
            rw [hxl] at hX7 R7 l7 hx16 ⊢
            have HXL := Lib.hid hxl
            have u2 : IntKind.u8.wrap (x : Int) = (x : Int) := u8_id (by omega)
            obtain ⟨ll, hll⟩ : ∃ ll, l.length = ll := ⟨_, rfl⟩
            rw [hll] at hWc hl9
            have HLL := Lib.hid hll
            have z0 : wc.cell? ⟨gg, 0, none⟩ = some (.int .i64 ek) := o7.cell 0
            have hgc : g ≤ wc.heap.size := by have := b7.size; have := b4.size; omega
            have Hm1 : Hid (ll + 2 ≤ maxLen) := Lib.hid (by unfold maxLen; omega)
            have Hm2 : Hid (ll + 2 + x ≤ maxLen) := Lib.hid (by unfold maxLen; omega)
            clear hl hll hxl hNX hulo hk4 hW4 b7 b5 b4 hat
            go_wp2_with (at_builtin; go_must (refine wp_app_at rfl (.tmp 58) (.tmp 65) _ rfl g 5 i0 _ 1 Tryz.underlying35 hi0 hz0 hz1 hz2 rfl u4 ll (bval l) rfl (hWc.alloc _) _ 2 _ (bval [ek, (x : Int)]) rfl (row_new _ _ _ _ (fun i hi => by rcases (show i = 0 ∨ i = 1 by omega) with rfl | rfl <;> rfl)) (fun _ _ => rfl) Hm1.out ?c2 ?c3 ?_))
            case c2 => omega
            case c3 => first | omega | (simp; omega)
            intro v9 w9 h9 g9 q9
            have h9' : Mine w9 g 5 v9 (ll + 2) (bval (l ++ [ek, (x : Int)])) := h9.ext (fun i _ => by rw [← HLL.out]; exact bval_app l _ i)
            have b9 : Below g w w9 := (b8.alloc hgc _).grown g9 (by simp; omega) (fun q hq => (hWc.lt q hq).1)
            have hX9 := (hX7.alloc (.cells #[.int .u8 ek, .int .u8 (x : Int)] 5)).kept (w' := w9) (fun q hq => by
              by_cases h : q < (wc.alloc (.cells #[.int .u8 ek, .int .u8 (x : Int)] 5)).heap.size
              · exact .inl (g9.block q h (fun e => by have := HUL.out q e.symm; omega))
              · exact .inr (fun e => h (((hX7.alloc (.cells #[.int .u8 ek, .int .u8 (x : Int)] 5)).lt q e).2)))
            have H9 := Lib.hid h9'
            have HX9 := Lib.hid hX9.rowAt
            have hg9 : g ≤ w9.heap.size := by have := g9.size; simp at this; omega
            clear h9 h9' hX9 g9 q9 hX7 R7 hWc b8 u1 u2
            go_wp2_with (at_builtin; go_must (refine wp_app rfl (.tmp 66) (.tmp 67) _ rfl g 5 i0 _ 1 Tryz.underlying35 hi0 hz0 hz1 hz2 rfl v9 (ll + 2) (bval (l ++ [ek, (x : Int)])) rfl H9.out _ x _ (bval X) rfl HX9.out (fun _ _ => rfl) Hm2.out ?c4 hg9 ?_))
            case c4 => omega
            intro v10 w10 h10 g10
            have hN : ([(n : Int)] ++ encL ((els L).take (k + 1))).length = ll + 2 + x := by rw [HNX.out]; simp [HLL.out, HXL.out]; omega
            have h11 : Mine w10 g 5 v10 ([(n : Int)] ++ encL ((els L).take (k + 1))).length (bval ([(n : Int)] ++ encL ((els L).take (k + 1)))) := by
              rw [hN, HNX.out]
              refine h10.ext (fun i _ => ?_)
              have e1 : (l ++ [ek, (x : Int)]).length = ll + 2 := by simp [HLL.out]
              rw [← e1, bval_app, HXL.out]
              simp
            have b10 : Below g w w10 := b9.grown g10 hg9 (fun q hq => (H9.out.lt q hq).1)
            have HE2 : Hid (∀ j, j < k + 1 → mayE (L.getD j ep0).e = true) := Lib.hid (fun j hj => by
              by_cases e : j = k
              · subst e; rw [HX.out]; exact HQ.out
              · exact HE.out j (by omega))
            clear h10 g10 b9 H9 HX9 hN
            go_wp2_with fail
            exact ⟨⟨k + 1, by simp, by omega, h11, HE2, b10⟩, by simp [intOf]; omega⟩
      · obtain rfl : n = k := by omega
        have hall : ∀ j, (hj : j < (els L).length) → mayE (els L)[j] = true := fun j hj => by
          have e1 := els_at (L := L) (k := j) (by rw [els_len] at hj; exact hj) rfl
          rw [e1]
          exact HE.out j (by rw [els_len, HN.out] at hj; exact hj)
        have HD : Hid (mayL (els L) = true) := Lib.hid (mayL_yes (by rw [els_len, HN.out]; exact h4) hall)
        have e1 : (els L).take n = els L := List.take_of_length_le (by rw [els_len, HN.out]; exact Nat.le_refl _)
        rw [e1] at hW
        have hI : [(n : Int)] ++ encL (els L) = encI (els L) := by unfold encI; rw [els_len, HN.out]
        rw [hI] at hW
        obtain ⟨a8, c8, rfl, l8, m8, R8⟩ := hW.row
        have HW := Lib.hid hW
        clear e1 hI hall hW
        go_wp2_with fail
        go_ret2
        unfold REncPost
        rw [HD.out, if_pos rfl]
        exact ⟨.slice a8 (encI (els L)).length c8, rfl, by rw [HG.out]; exact HW.out, hbw⟩
  · have g1 : decide ((4 : Int) < (n : Int)) = true := by simp; omega
    have g2 : decide (4 < n) = true := by simp; omega
    have HD : Hid (mayL (els L) = false) := Lib.hid (by
      unfold mayL
      rw [els_len, HN.out, decide_eq_false h4]
      rfl)
    clear h4
    go_enter Tryz.func54, Tryz.ntmps54
    go_wp2_with fail
    go_ret2
    unfold REncPost
    rw [HD.out]
    exact ⟨rfl, Below.refl _ _⟩
theorem rencode_any (L : List EP) (a : Option Addr) (c : Nat) (w : World) (h : Els w L a c) :
    Calls Tryz.prog 54 #[.slice a L.length c] w (EncPost (els L) w) := by
  refine (rencode_own L a c w h).mono ?_
  intro r w' hp
  unfold REncPost at hp
  unfold EncPost
  by_cases hm : mayL (els L) = true
  · rw [if_pos hm] at hp ⊢
    obtain ⟨v, rfl, h1, h2⟩ := hp
    obtain ⟨a8, c8, rfl, l8, m8, R8⟩ := h1.row
    exact ⟨a8, c8, rfl, l8, m8, R8, h2⟩
  · rw [if_neg hm] at hp ⊢
    exact hp
end Go.Proofs.YtiflmdekcjbmbaaGreat.Ie
set_option maxRecDepth 100000
namespace Go.Proofs.YtiflmdekcjbmbaaGreat.Ie
set_option linter.unusedVariables false
set_option linter.unusedSimpArgs false
open Go.RowKit Lb Bf

/-- The number that bytes are, the highest first. -/
def numB (l : List Int) : Int := l.foldl (fun x c => x * 256 + c) 0
theorem numB_snoc (l : List Int) (c : Int) : numB (l ++ [c]) = numB l * 256 + c := by
  unfold numB
  rw [List.foldl_append]
  rfl
theorem bytesK_snoc (x k : Nat) : bytesK x (k + 1) = bytesK (x / 256) k ++ [((x % 256 : Nat) : Int)] := by
  apply List.ext_getElem
  · simp [bytesK_len]
  · intro i h1 h2
    rw [bytesK_len] at h1
    have e1 := bytesK_at x (k + 1) i h1
    rw [List.getD_eq_getElem?_getD, List.getElem?_eq_getElem (by rw [bytesK_len]; exact h1)] at e1
    simp only [Option.getD_some] at e1
    rw [e1]
    by_cases h : i < k
    · have e2 := bytesK_at (x / 256) k i h
      rw [List.getD_eq_getElem?_getD, List.getElem?_eq_getElem (by rw [bytesK_len]; exact h)] at e2
      simp only [Option.getD_some] at e2
      rw [List.getElem_append_left (by rw [bytesK_len]; exact h), e2, Nat.shiftRight_eq_div_pow, Nat.shiftRight_eq_div_pow, Nat.div_div_eq_div_mul]
      congr 3
      rw [show 8 * (k + 1 - 1 - i) = 8 + 8 * (k - 1 - i) by omega, Nat.pow_add]
    · obtain rfl : i = k := by omega
      rw [List.getElem_append_right (by rw [bytesK_len]; omega)]
      simp [bytesK_len]
theorem numB_bytes : ∀ (k x : Nat), x < 256 ^ k → numB (bytesK x k) = (x : Int) := by
  intro k
  induction k with
  | zero => intro x hx; have : x = 0 := (by simpa using hx); subst this; rfl
  | succ k ih =>
    intro x hx
    rw [bytesK_snoc, numB_snoc, ih (x / 256) (by rw [Nat.div_lt_iff_lt_mul (by decide)]; rwa [Nat.pow_succ] at hx)]
    omega
theorem numB_of {x k : Nat} {l : List Int} (hx : x < 256 ^ k) (h : bytesK x k = l) : numB l = (x : Int) := by rw [← h]; exact numB_bytes k x hx
def okD' (l : List Int) : Prop := ∀ x, x ∈ l → 0 ≤ x ∧ x < 256
theorem numB_bd : ∀ (k : Nat) (l : List Int), l.length = k → okD' l → 0 ≤ numB l ∧ numB l < 256 ^ k := by
  intro k
  induction k with
  | zero => intro l hl _; have : l = [] := List.length_eq_zero_iff.1 hl; subst this; exact ⟨(by decide), (by decide)⟩
  | succ k ih =>
    intro l hl hd
    rcases List.eq_nil_or_concat l with rfl | ⟨m, c, rfl⟩
    · simp at hl
    · rw [List.concat_eq_append] at *
      have h1 := ih m (by simp at hl; omega) (fun x hx => hd x (List.mem_append_left _ hx))
      have h2 := hd c (List.mem_append_right _ (by simp))
      rw [numB_snoc, Int.pow_succ]
      omega
/-- An element out of what stands behind its kind and its size. -/
def elOf (k : Int) (xs : List Int) : El :=
  if k = 1 then ⟨1, numB (xs.take 5), xs.getD 5 0, 0, []⟩
  else if k = 2 then ⟨2, 0, 0, IntKind.i16.wrap (numB xs), []⟩
  else ⟨k, 0, 0, 0, xs⟩
def sizeB (k s : Int) : Bool := if k = 1 then s == 6 else if k = 2 then s == 2 else decide (s ≤ 16)
def dec1 (L : List Int) : Except Int (El × List Int) :=
  match L with
  | [] => .error 2
  | k :: L1 =>
    if k < 1 ∨ 4 < k then .error 3
    else match L1 with
      | [] => .error 2
      | s :: L2 => if sizeB k s = false then .error 3 else if L2.length < s.toNat then .error 2 else .ok (elOf k (L2.take s.toNat), L2.drop s.toNat)
def decN : Nat → List Int → Except Int (List El × List Int)
  | 0, L => .ok ([], L)
  | n + 1, L => match dec1 L with
    | .error e => .error e
    | .ok (x, R) => match decN n R with
      | .error e => .error e
      | .ok (l, Q) => .ok (x :: l, Q)
def decI (L : List Int) : Except Int (List El) :=
  match L with
  | [] => .error 2
  | n :: L1 => if 4 < n then .error 3 else match decN n.toNat L1 with
    | .error e => .error e
    | .ok (l, R) => if R = [] then .ok l else .error 3
/-- What has been decoded goes on. -/
theorem decN_snoc : ∀ (n : Nat) (L : List Int), decN (n + 1) L = match decN n L with
    | .error e => .error e
    | .ok (l, R) => match dec1 R with
      | .error e => .error e
      | .ok (x, Q) => .ok (l ++ [x], Q) := by
  intro n
  induction n with
  | zero =>
    intro L
    simp only [decN]
    cases h : dec1 L with
    | error e => rfl
    | ok p => obtain ⟨x, R⟩ := p; rfl
  | succ n ih =>
    intro L
    rw [decN]
    cases h : dec1 L with
    | error e =>
      simp only
      rw [decN, h]
    | ok p =>
      obtain ⟨x, R⟩ := p
      simp only
      rw [ih R]
      conv => rhs; rw [decN, h]
      simp only
      cases h2 : decN n R with
      | error e => rfl
      | ok p =>
        obtain ⟨l, Q⟩ := p
        simp only
        cases h3 : dec1 Q with
        | error e => rfl
        | ok p => obtain ⟨y, S⟩ := p; rfl
theorem decN_err {n m : Nat} {L : List Int} {e : Int} (h : decN n L = .error e) (hm : n ≤ m) : decN m L = .error e := by
  induction m with
  | zero => obtain rfl : n = 0 := by omega
            exact h
  | succ m ih =>
    by_cases hn : n = m + 1
    · subst hn; exact h
    · rw [decN_snoc, ih (by omega)]
end Go.Proofs.YtiflmdekcjbmbaaGreat.Ie
set_option maxRecDepth 100000
namespace Go.Proofs.YtiflmdekcjbmbaaGreat.Ie
set_option linter.unusedVariables false
set_option linter.unusedSimpArgs false
open Go.RowKit Lb Go.Shelf Bf

theorem Just.of_drew {b m : Nat} {w w' : World} (h : Just b (w.drewN m) w') : Just b w w' := ⟨h.os, h.tape, h.output, h.size, h.block⟩
theorem Just.far {b g : Nat} {w w' : World} (h : Just b w w') (hg : w.heap.size ≤ g) (i : Nat) (u : Value) : Just b w (w'.setCell ⟨g, i, none⟩ u) :=
  ⟨h.os, h.tape, h.output, by simpa [World.setCell] using h.size, fun k hk hb => (Below.heap_setCell w' _ u k (by show k ≠ g; omega)).trans (h.block k hk hb)⟩
theorem infoI : (Tryz.prog.info? 3).map (fun i => (i.zero, i.size, i.bytes)) = some (some (.int .i64 0), 1, 8) := by kernel_rfl
theorem itake_any (base H b : Nat) (l : List Int) (err : Int) (w : World) (h : Rh w base H b l err) (hd : okD' l) :
    Calls Tryz.prog 216 #[.pointer (some ⟨b, 0, none⟩)] w fun r w' => r = .returned (.tuple #[.int .i64 (l.getD 0 0), .bool (decide (0 < l.length))]) ∧ Rh w' base H b (lft l 1) (er l 1 err) ∧ Just b w w' := by
  have hl := lefth_any base H b l err w h
  have HL := Lib.hid hl
  have hx : 0 ≤ l.getD 0 0 ∧ l.getD 0 0 < 256 := by
    cases l with
    | nil => exact ⟨by decide, by decide⟩
    | cons x m => exact hd x (by simp)
  obtain ⟨x, hxx⟩ : ∃ x, l.getD 0 0 = x := ⟨_, rfl⟩
  have HX := Lib.hid hxx
  rw [hxx] at hx ⊢
  clear hl hxx
  have hn : l.length ≤ 100000 := by
    obtain ⟨_, j, n, Z, v, _, _, h1, h2, _⟩ := h
    omega
  obtain ⟨n, hnn⟩ : ∃ n, l.length = n := ⟨_, rfl⟩
  rw [hnn] at HL hn ⊢
  clear hnn
  have g1 : decide ((8 : Int) ≤ 8 * (n : Int)) = decide (0 < n) := by rw [Bool.eq_iff_iff]; simp; omega
  go_enter Tryz.func216, Tryz.ntmps216
  go_wp2_with fail
  refine HL.out.mono ?_
  rintro r w2 ⟨rfl, m, rfl⟩
  go_wp2_with fail
  refine (take8h_any base H b l err _ (h.drewN m)).mono ?_
  rintro r w3 ⟨rfl, h3, j3⟩
  rw [HX.out]
  go_wp2_with fail
  go_ret2
  exact ⟨rfl, h3, Just.of_drew j3⟩
theorem sizef_any (k s : Int) (w : World) : Calls Tryz.prog 241 #[.int .i64 k, .int .i64 s] w fun r w' => r = .returned (.bool (sizeB k s)) ∧ w = w' := by
  by_cases k1 : k = 1
  · have hD : sizeB k s = (s == 6) := by unfold sizeB; rw [if_pos k1]
    have HD := Lib.hid hD
    have g1 : (k == 1) = true := by simpa using k1
    clear k1 hD
    go_enter Tryz.func241, Tryz.ntmps241
    go_wp2_with fail
    go_ret
    exact ⟨by rw [HD.out]; rfl, rfl⟩
  · have g1 : (k == 1) = false := by simpa using k1
    by_cases k2 : k = 2
    · have hD : sizeB k s = (s == 2) := by unfold sizeB; rw [if_neg k1, if_pos k2]
      have HD := Lib.hid hD
      have g2 : (k == 2) = true := by simpa using k2
      clear k1 k2 hD
      go_enter Tryz.func241, Tryz.ntmps241
      go_wp2_with fail
      go_ret
      exact ⟨by rw [HD.out]; rfl, rfl⟩
    · have hD : sizeB k s = decide (s ≤ 16) := by unfold sizeB; rw [if_neg k1, if_neg k2]
      have HD := Lib.hid hD
      have g2 : (k == 2) = false := by simpa using k2
      clear k1 k2 hD
      go_enter Tryz.func241, Tryz.ntmps241
      go_wp2_with fail
      go_ret
      exact ⟨by rw [HD.out]; rfl, rfl⟩
set_option maxHeartbeats 1000000 in
theorem readl_any (base H b : Nat) (l : List Int) (err : Int) (n : Nat) (w : World) (h : Rh w base H b l err) (hd : okD' l) (hn : n ≤ l.length) (hH : H ≤ w.heap.size) (h16 : n ≤ 255) :
    Calls Tryz.prog 251 #[.pointer (some ⟨b, 0, none⟩), .int .i64 (n : Int)] w fun r w' => r = .returned (.slice (some ⟨w.heap.size, 0, none⟩) n n) ∧ Blk w' w.heap.size 3 n (zval (l.take n)) ∧ Rh w' base H b (l.drop n) err ∧ Just b w w' := by
  obtain ⟨i0, hi0, hz0, hz1, hz2⟩ := info_parts infoI
  have hmk : ∀ w : World, (Instr.makeSlice 23 (.int .i64 (n : Int)) (.int .i64 (n : Int))).run Tryz.prog w = .ok (.slice (some ⟨w.heap.size, 0, none⟩) n n) (w.alloc (.cells (madeCells #[.int .i64 0] n) 3)) := by
    intro w
    have := run_make w 23 3 i0 (.int .i64 0) Tryz.underlying23 hi0 hz0 .i64 .i64 (n : Int) (n : Int) (by omega) (by omega) (by rw [hz2]; omega) (by omega)
    rw [this, hz1]
    simp [Value.cells]
  have HCS : Hid (madeCells #[Value.int .i64 0] n = (List.replicate n (Value.int .i64 0)).toArray) := Lib.hid (by
    apply Array.toList_inj.1
    simpa using toList_madeCells_one (Value.int .i64 0) n)
  have HD := Lib.hid hd
  have HL := Lib.hid hn
  clear hd hn
  go_enter Tryz.func251, Tryz.ntmps251
  go_wp2_with fail
  have o1 : Blk (w.alloc (.cells (madeCells #[.int .i64 0] n) 3)) w.heap.size 3 n (fun j => if j < 0 then .int .i64 (l.getD j 0) else .int .i64 0) := Blk.ext (Blk.same (Own.new _ _ _) HCS.out) (fun i hi => by rw [if_neg (by omega)])
  have b1 := (Below.refl w.heap.size w).alloc (Nat.le_refl _) (.cells (madeCells #[.int .i64 0] n) 3)
  have h1 : Rh (w.alloc (.cells (madeCells #[.int .i64 0] n) 3)) base H b (l.drop 0) err := by rw [List.drop_zero]; exact h.kept (b1.mono hH)
  have j1 : Just b w (w.alloc (.cells (madeCells #[.int .i64 0] n) 3)) := (Just.refl b w).alloc _
  have hbg : b < w.heap.size := Nat.lt_of_lt_of_le h.lt hH
  generalize w.alloc (.cells (madeCells #[.int .i64 0] n) 3) = w1 at *
  obtain ⟨g, hg⟩ : ∃ g, w.heap.size = g := ⟨_, rfl⟩
  have HG := Lib.hid hg
  rw [hg] at o1 hbg hH ⊢
  clear hg h b1 hmk HCS
  go_loopw [11] (fun i wr => ∃ (k : Nat), i = .int .i64 k ∧ k ≤ n ∧ Blk wr g 3 n (fun j => if j < k then .int .i64 (l.getD j 0) else .int .i64 0) ∧ Rh wr base H b (l.drop k) err ∧ Just b w wr) (fun i _ => n - (intOf i).toNat)
  case atStart => exact ⟨0, rfl, by omega, o1, h1, j1⟩
  case round =>
    clear o1 h1 j1
    obtain ⟨k, rfl, hk, o1, h1, j1⟩ := hrel
    by_cases hlt : k < n
    · have hx : 0 ≤ l.getD k 0 ∧ l.getD k 0 < 256 := by
        have := HL.out
        rw [List.getD_eq_getElem?_getD, List.getElem?_eq_getElem (by omega)]
        exact HD.out _ (List.getElem_mem _)
      have h0 : (l.drop k).getD 0 0 = l.getD k 0 := by rw [lft_get, Nat.add_zero]
      have hlf : lft (l.drop k) 1 = l.drop (k + 1) ∧ er (l.drop k) 1 err = err := by
        have := HL.out
        have h2 : ¬ (l.drop k).length < 1 := by rw [List.length_drop]; omega
        unfold lft er
        rw [if_neg h2, if_neg h2, List.drop_drop]
        exact ⟨rfl, rfl⟩
      obtain ⟨x, hxx⟩ : ∃ x, l.getD k 0 = x := ⟨_, rfl⟩
      rw [hxx] at hx h0
      have HX := Lib.hid hxx
      have H0 := Lib.hid h0
      have HLF := Lib.hid hlf
      clear hxx h0 hlf
      go_wp2_with fail
      refine (take8h_any base H b (l.drop k) err _ h1).mono ?_
      rintro r w3 ⟨rfl, h3, j3⟩
      rw [H0.out]
      rw [HLF.out.1, HLF.out.2] at h3
      have o3 := j3.blk o1 (by omega)
      have c3 := o3.cell hlt
      have f3 := o3.free k
      have j4 := Ie.Just.far (j1.trans j3) (g := g) (by rw [HG.out]; exact Nat.le_refl _) k (.int .i64 x)
      have h4 : Rh (w3.setCell ⟨g, k, none⟩ (.int .i64 x)) base H b (l.drop (k + 1)) err := h3.kept ((Below.refl H w3).setCell (p := ⟨g, k, none⟩) hH _)
      have o4 := (o3.put k (.int .i64 x)).ext (U := fun j => if j < k + 1 then .int .i64 (l.getD j 0) else .int .i64 0) (fun i hi => by
        by_cases e : i = k
        · subst e; rw [if_pos rfl, if_pos (by omega), HX.out]
        · rw [if_neg e]
          by_cases e2 : i < k
          · rw [if_pos e2, if_pos (by omega)]
          · rw [if_neg e2, if_neg (by omega)])
      clear h1 h3 j3 o1 j1 o3
      go_wp2_with fail
      exact ⟨⟨k + 1, by simp, by omega, o4, h4, j4⟩, by simp [intOf]; omega⟩
    · obtain rfl : n = k := by omega
      go_wp2_with fail
      go_ret
      rw [HG.out]
      refine ⟨rfl, o1.ext (fun i hi => ?_), h1, j1⟩
      rw [if_pos hi]
      unfold zval
      rw [List.getD_eq_getElem?_getD, List.getD_eq_getElem?_getD, List.getElem?_take_of_lt hi]
def ReadPost (base H b : Nat) (e : El) (R : List Int) (err : Int) (w : World) (r : Ending) (w' : World) : Prop :=
  ∃ a c, r = .returned (fromV e a c) ∧ e.At w' a c ∧ (∀ p, a = some p → w.heap.size ≤ p.block) ∧ Rh w' base H b R err ∧ Just b w w'
theorem tk_tk (l : List Int) : (l.take 6).take 5 = l.take 5 := by rw [List.take_take]; rfl
theorem tk_get {l : List Int} {s i : Nat} (h : i < s) : (l.take s).getD i 0 = l.getD i 0 := by
  rw [List.getD_eq_getElem?_getD, List.getD_eq_getElem?_getD, List.getElem?_take_of_lt h]
set_option maxHeartbeats 1000000 in
theorem read1 (base H b : Nat) (l : List Int) (err : Int) (w : World) (h : Rh w base H b l err) (hd : okD' l) (hl : 6 ≤ l.length) :
    Calls Tryz.prog 242 #[.pointer (some ⟨b, 0, none⟩), .int .i64 1, .int .i64 6] w (ReadPost base H b (elOf 1 (l.take 6)) (l.drop 6) err w) := by
  have hT : Calls Tryz.prog 188 #[.pointer (some ⟨b, 0, none⟩), .int .i64 40] w (fun r w' => ∃ x : Nat, r = .returned (.int .u64 (x : Nat)) ∧ x < 256 ^ 5 ∧ bytesK x 5 = l.take 5 ∧ Rh w' base H b (l.drop 5) err ∧ Just b w w') := takeh_any base H b l err 5 w h (by omega) (by omega)
  have HT := Lib.hid hT
  have h6 : 0 < (l.drop 5).length := by rw [List.length_drop]; omega
  have hlf : lft (l.drop 5) 1 = l.drop 6 ∧ er (l.drop 5) 1 err = err := by
    have h2 : ¬ (l.drop 5).length < 1 := by omega
    unfold lft er
    rw [if_neg h2, if_neg h2, List.drop_drop]
    exact ⟨rfl, rfl⟩
  have hy : (l.drop 5).getD 0 0 = l.getD 5 0 := by rw [lft_get]
  have hyb : 0 ≤ l.getD 5 0 ∧ l.getD 5 0 < 256 := by
    rw [List.getD_eq_getElem?_getD, List.getElem?_eq_getElem (by omega)]
    exact hd _ (List.getElem_mem _)
  have hE : ∀ x : Nat, x < 256 ^ 5 → bytesK x 5 = l.take 5 → elOf 1 (l.take 6) = ⟨1, (x : Int), l.getD 5 0, 0, []⟩ := fun x h1 h2 => by
    unfold elOf
    rw [if_pos rfl, tk_tk, numB_of h1 h2, tk_get (by omega)]
  obtain ⟨y, hyy⟩ : ∃ y, l.getD 5 0 = y := ⟨_, rfl⟩
  rw [hyy] at hy hyb hE
  have HY := Lib.hid hy
  have HE := Lib.hid hE
  have HLF := Lib.hid hlf
  clear hT hlf hy hyy hE hl h6
  go_enter Tryz.func242, Tryz.ntmps242
  go_wp2_with fail
  refine HT.out.mono ?_
  rintro r w2 ⟨x, rfl, hx, hxb, h2, j2⟩
  have hx40 : x < 1099511627776 := hx
  have HX := Lib.hid (HE.out x hx hxb)
  clear hx hxb
  go_wp2_with fail
  refine (take8h_any base H b (l.drop 5) err _ h2).mono ?_
  rintro r w3 ⟨rfl, h3, j3⟩
  rw [HY.out]
  rw [HLF.out.1, HLF.out.2] at h3
  go_wp2_with fail
  go_ret
  unfold ReadPost
  rw [HX.out]
  exact ⟨none, 0, rfl, El.At.none _ _ _ _ _, fun p e => (by cases e), h3, j2.trans j3⟩
set_option maxHeartbeats 1000000 in
theorem read2 (base H b : Nat) (l : List Int) (err : Int) (w : World) (h : Rh w base H b l err) (hl : 2 ≤ l.length) :
    Calls Tryz.prog 242 #[.pointer (some ⟨b, 0, none⟩), .int .i64 2, .int .i64 2] w (ReadPost base H b (elOf 2 (l.take 2)) (l.drop 2) err w) := by
  have hT : Calls Tryz.prog 188 #[.pointer (some ⟨b, 0, none⟩), .int .i64 16] w (fun r w' => ∃ x : Nat, r = .returned (.int .u64 (x : Nat)) ∧ x < 256 ^ 2 ∧ bytesK x 2 = l.take 2 ∧ Rh w' base H b (l.drop 2) err ∧ Just b w w') := takeh_any base H b l err 2 w h (by omega) (by omega)
  have HT := Lib.hid hT
  have hE : ∀ x : Nat, x < 256 ^ 2 → bytesK x 2 = l.take 2 → elOf 2 (l.take 2) = ⟨2, 0, 0, IntKind.i16.wrap (x : Int), []⟩ := fun x h1 h2 => by
    unfold elOf
    rw [if_neg (by decide), if_pos rfl, numB_of h1 h2]
  have HE := Lib.hid hE
  clear hT hE hl
  go_enter Tryz.func242, Tryz.ntmps242
  go_wp2_with fail
  refine HT.out.mono ?_
  rintro r w2 ⟨x, rfl, hx, hxb, h2, j2⟩
  have HX := Lib.hid (HE.out x hx hxb)
  clear hx hxb
  obtain ⟨y, hy⟩ : ∃ y, IntKind.i16.wrap (x : Int) = y := ⟨_, rfl⟩
  have hyb : -32768 ≤ y ∧ y ≤ 32767 := by
    rw [← hy]
    simp only [IntKind.wrap, IntKind.signed, IntKind.bits]
    simp
    omega
  rw [hy] at HX
  go_wp2_with fail
  go_ret
  unfold ReadPost
  rw [HX.out]
  exact ⟨none, 0, rfl, El.At.none _ _ _ _ _, fun p e => (by cases e), h2, j2⟩
theorem blk_at {w : World} {g n : Nat} {l : List Int} {k asn rank t : Int} (h : Blk w g 3 n (zval l)) (hl : l.length = n) (hn : n ≤ 255) : (⟨k, asn, rank, t, l⟩ : El).At w (some ⟨g, 0, none⟩) n := by
  refine ⟨by rw [← hl]; exact Nat.le_refl _, by unfold maxLen; omega, ?_, fun e => by cases e⟩
  show Row w _ l.length _
  rw [hl]
  exact Row.own h (fun i hi => by simp [hi])
set_option maxHeartbeats 1000000 in
theorem read3 (base H b : Nat) (l : List Int) (err : Int) (n : Nat) (w : World) (h : Rh w base H b l err) (hd : okD' l) (hl : n ≤ l.length) (hH : H ≤ w.heap.size) (h16 : n ≤ 16) :
    Calls Tryz.prog 242 #[.pointer (some ⟨b, 0, none⟩), .int .i64 3, .int .i64 (n : Int)] w (ReadPost base H b (elOf 3 (l.take n)) (l.drop n) err w) := by
  have hlen : (l.take n).length = n := by rw [List.length_take]; omega
  go_enter Tryz.func242, Tryz.ntmps242
  go_wp2_with fail
  refine (readl_any base H b l err n w h hd hl hH (by omega)).mono ?_
  rintro r w2 ⟨rfl, o2, h2, j2⟩
  have hat := blk_at (k := 3) (asn := 0) (rank := 0) (t := 0) o2 hlen (by omega)
  have HF : Hid (fromV (⟨3, 0, 0, 0, l.take n⟩ : El) (some ⟨w.heap.size, 0, none⟩) n = .iface 258 (.agg #[.slice (some ⟨w.heap.size, 0, none⟩) n n])) := Lib.hid (by unfold fromV; simp only [hlen]; rfl)
  clear hlen
  go_wp2_with fail
  go_ret
  exact ⟨some ⟨w.heap.size, 0, none⟩, n, congrArg _ HF.out.symm, hat, fun p e => (by injection e with e; subst e; exact Nat.le_refl _), h2, j2⟩
set_option maxHeartbeats 1000000 in
theorem read4 (base H b : Nat) (l : List Int) (err : Int) (n : Nat) (w : World) (h : Rh w base H b l err) (hd : okD' l) (hl : n ≤ l.length) (hH : H ≤ w.heap.size) (h16 : n ≤ 16) :
    Calls Tryz.prog 242 #[.pointer (some ⟨b, 0, none⟩), .int .i64 4, .int .i64 (n : Int)] w (ReadPost base H b (elOf 4 (l.take n)) (l.drop n) err w) := by
  have hlen : (l.take n).length = n := by rw [List.length_take]; omega
  go_enter Tryz.func242, Tryz.ntmps242
  go_wp2_with fail
  refine (readl_any base H b l err n w h hd hl hH (by omega)).mono ?_
  rintro r w2 ⟨rfl, o2, h2, j2⟩
  have hat := blk_at (k := 4) (asn := 0) (rank := 0) (t := 0) o2 hlen (by omega)
  have HF : Hid (fromV (⟨4, 0, 0, 0, l.take n⟩ : El) (some ⟨w.heap.size, 0, none⟩) n = .iface 259 (.agg #[.slice (some ⟨w.heap.size, 0, none⟩) n n])) := Lib.hid (by unfold fromV; simp only [hlen]; rfl)
  clear hlen
  go_wp2_with fail
  go_ret
  exact ⟨some ⟨w.heap.size, 0, none⟩, n, congrArg _ HF.out.symm, hat, fun p e => (by injection e with e; subst e; exact Nat.le_refl _), h2, j2⟩
theorem read_any (base H b : Nat) (l : List Int) (err : Int) (k : Int) (s : Nat) (w : World) (h : Rh w base H b l err) (hd : okD' l) (hk : 1 ≤ k ∧ k ≤ 4) (hs : sizeB k (s : Int) = true) (hl : s ≤ l.length) (hH : H ≤ w.heap.size) :
    Calls Tryz.prog 242 #[.pointer (some ⟨b, 0, none⟩), .int .i64 k, .int .i64 (s : Int)] w (ReadPost base H b (elOf k (l.take s)) (l.drop s) err w) := by
  rcases (show k = 1 ∨ k = 2 ∨ k = 3 ∨ k = 4 by omega) with rfl | rfl | rfl | rfl
  · have : s = 6 := by unfold sizeB at hs; simp at hs; omega
    subst this
    exact read1 base H b l err w h hd hl
  · have : s = 2 := by unfold sizeB at hs; simp at hs; omega
    subst this
    exact read2 base H b l err w h hl
  · have : s ≤ 16 := by unfold sizeB at hs; simp at hs; omega
    exact read3 base H b l err s w h hd hl hH this
  · have : s ≤ 16 := by unfold sizeB at hs; simp at hs; omega
    exact read4 base H b l err s w h hd hl hH this
end Go.Proofs.YtiflmdekcjbmbaaGreat.Ie
set_option maxRecDepth 100000
namespace Go.Proofs
set_option linter.unusedVariables false
set_option linter.unusedSimpArgs false
open Go.Shelf
def Tryz.laysClone_ren : Go.Shelf.Ren := ⟨fun | 15 => 46 | n => n, fun | 22 => 23 | 3 => 3 | 4 => 4 | n => n, fun | n => n⟩
theorem Tryz.laysClone : Go.Proofs.Lays2.n15 Tryz.prog Tryz.laysClone_ren := {
  mixed := by kernel_rfl
  f15 := Tryz.func46.trans (congrArg some (by kernel_rfl))
  t3 := Tryz.underlying3
  a3 := Tryz.isAgg3
  z3 := Tryz.sizeOf3
  v3 := Tryz.zeroValue3
  t4 := Tryz.underlying4
  a4 := Tryz.isAgg4
  z4 := Tryz.sizeOf4
  v4 := Tryz.zeroValue4
  t22 := Tryz.underlying23
  a22 := Tryz.isAgg23
  z22 := Tryz.sizeOf23
  v22 := Tryz.zeroValue23
  i3 := by kernel_rfl }
end Go.Proofs
namespace Go.Proofs.YtiflmdekcjbmbaaGreat.Ie
set_option linter.unusedVariables false
set_option linter.unusedSimpArgs false
open Go.RowKit Lb Go.Shelf Go.Sort

theorem zlist (zs : List Int) : (List.range zs.length).map (zval zs) = zs.map (Value.int .i64) := by
  apply List.ext_getElem
  · simp
  · intro i h1 h2
    simp at h1
    simp [zval, List.getD, h1]
theorem mine_z {w : World} {base : Nat} {v : Value} {zs : List Int} (h : w.ownsRow base 3 1 v zs.length (zs.map (Value.int .i64))) : Mine w base 3 v zs.length (zval zs) := by
  unfold Mine
  rw [zlist]
  exact h
/-- A copy: the same numbers, in a new block or none; nil of nil. -/
theorem cloneI_any (a : Option Addr) (c : Nat) (l : List Int) (w : World) (hc : l.length ≤ 1000000) (hR : Row w a l.length (zval l)) (ha : a = none → l.length = 0) :
    Calls Tryz.prog 46 #[.slice a l.length c] w fun r w' => ∃ v, r = .returned v ∧ Mine w' w.heap.size 3 v l.length (zval l) ∧ Below w.heap.size w w' := by
  cases a with
  | none =>
    refine (Any.slices_Clone_int_nil Tryz.laysClone l.length c w).mono ?_
    rintro r w' ⟨rfl, rfl⟩
    have h0 := ha rfl
    refine ⟨.slice none 0 0, rfl, ?_, Below.refl _ _⟩
    rw [h0]
    exact Mine.nil _ _ _ _
  | some p =>
    by_cases h0 : l.length = 0
    · rw [h0]
      refine (Any.slices_Clone_int_zero Tryz.laysClone p c w).mono ?_
      rintro r w' ⟨v, rfl, hown, hne, hb⟩
      exact ⟨v, rfl, hown, hb⟩
    · obtain ⟨b, off, hp, hbl, hcs⟩ := hR (by omega)
      injection hp with hp
      subst hp
      refine (Any.slices_Clone_int Tryz.laysClone b off l.length c l w (Nat.le_refl _) (by omega) (fun j hj => hcs j hj)).mono ?_
      rintro r w' ⟨v, rfl, hown, hne, hb⟩
      rw [List.take_length] at hown
      exact ⟨v, rfl, mine_z hown, hb⟩
end Go.Proofs.YtiflmdekcjbmbaaGreat.Ie
