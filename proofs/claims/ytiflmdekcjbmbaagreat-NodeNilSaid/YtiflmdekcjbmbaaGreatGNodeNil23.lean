/-
  The reference's bytes of elements. Package ie (chapter 6): elements out of bytes, plain. Package bits (chapter 3): a reader as a value; NewReader, Left, Take.
-/
import Derived.Test.YtiflmdekcjbmbaaGreatGNodeNil21
import Derived.Test.YtiflmdekcjbmbaaGreatGNodeNil22
import Derived.Deep.RegionHeld3
import Derived.Deep.CutBlock
import Derived.Test.YtiflmdekcjbmbaaGreatGNodeNil19
set_option maxRecDepth 100000
namespace Go.Proofs.YtiflmdekcjbmbaaGreat.Ie
set_option linter.unusedVariables false
set_option linter.unusedSimpArgs false
open Go.RowKit Lb Go.Shelf Bf

theorem Mine.low {w : World} {base base' : Nat} {e : TypeId} {v : Value} {n : Nat} {V : Nat → Value} (h : Mine w base e v n V) (hb : base' ≤ base) : Mine w base' e v n V := by
  obtain ⟨h1, h2⟩ := h
  refine ⟨h1, ?_⟩
  rcases h2 with h2 | ⟨g, cap, cur, hv, hg, r⟩
  · exact .inl h2
  · exact .inr ⟨g, cap, cur, hv, Nat.le_trans hb hg, r⟩
/-- What stands behind the kind and the size. -/
def xsOf (e : El) : List Int := if e.k = 1 then bytesK e.asn.toNat 5 ++ [e.rank] else if e.k = 2 then bytesK (u64 e.ticks) 2 else e.list
theorem enc_xs (e : El) : encOne e = [e.k] ++ [((xsOf e).length : Int)] ++ xsOf e := by
  unfold encOne xsOf
  by_cases k1 : e.k = 1
  · rw [if_pos k1, if_pos k1, k1]; simp [bytesK_len]
  · by_cases k2 : e.k = 2
    · rw [if_neg k1, if_pos k2, if_neg k1, if_pos k2, k2]; simp [bytesK_len]
    · rw [if_neg k1, if_neg k2, if_neg k1, if_neg k2]
theorem xs_len {e : El} (h : mayE e = true) : (xsOf e).length ≤ 16 := by
  have := encOne_len h
  rw [enc_xs] at this
  simp at this
  omega
theorem octet_bytes (N k i : Nat) (h : i < k) : octet (N : Int) k i = (bytesK N k).getD i 0 := by
  rw [bytesK_at _ _ _ h, Nat.shiftRight_eq_div_pow]
  unfold octet
  push_cast
  rfl
theorem bval_app (l m : List Int) (q : Nat) : (if q < l.length then bval l q else bval m (q - l.length)) = bval (l ++ m) q := by
  unfold bval
  by_cases h : q < l.length
  · rw [if_pos h, List.getD_eq_getElem?_getD, List.getD_eq_getElem?_getD, List.getElem?_append_left h]
  · rw [if_neg h, List.getD_eq_getElem?_getD, List.getD_eq_getElem?_getD, List.getElem?_append_right (by omega)]
theorem u8_id {x : Int} (h : 0 ≤ x ∧ x < 256) : IntKind.u8.wrap x = x := by
  simp only [IntKind.wrap, IntKind.signed, IntKind.bits]
  simp
  omega
theorem at_app {P : Program} {w : World} {ops : Array Oper} {a : Act} {K : Act → World → Prop} {Q : Exit → Act → World → Prop} {E : Prop} {s x : Operand} {t t' : TypeId} {d ty pos af g}
    (h : if Region.wanted (Oper.mk d (.call { callee := .builtin .append, args := #[s, x], argTypes := #[t, t'] }) ty pos af g) (yielded ops a.tmps) = true then Oper.wp P (Oper.mk d (.call { callee := .builtin .append, args := #[s, x], argTypes := #[t, t'] }) ty pos af g) a w K Q else E) :
    if Region.wanted (Oper.mk d (.call { callee := .builtin .append, args := #[s, x], argTypes := #[t, t'] }) ty pos af g) (yielded ops a.tmps) = true then Oper.wp P (Oper.mk d (.call { callee := .builtin .append, args := #[s, x], argTypes := #[t, t'] }) ty pos af g) a w K Q else E := h
theorem mine_snoc {w : World} {base n : Nat} {v : Value} {l X : List Int} {x : Int} (hX : X = l ++ [x]) (hl : l.length = n) (h : Mine w base 5 v (n + 1) (fun i => if i < n then bval l i else bval [x] (i - n))) : Mine w base 5 v X.length (bval X) := by
  subst hX
  subst hl
  rw [List.length_append]
  exact h.ext (fun i _ => bval_app l [x] i)
theorem Mine.lo {w : World} {base : Nat} {e : TypeId} {v : Value} {n : Nat} {V : Nat → Value} (h : Mine w base e v n V) : ∀ q, v.ownBlock = some q → base ≤ q := fun q hq => (h.lt q hq).1
def REncPost (l : List El) (w : World) (r : Ending) (w' : World) : Prop :=
  if mayL l = true then ∃ v, r = .returned (.tuple #[v, .int .i64 0]) ∧ Mine w' w.heap.size 5 v (encI l).length (bval (encI l)) ∧ Below w.heap.size w w'
  else r = .returned (.tuple #[.slice none 0 0, .int .i64 1]) ∧ Below w.heap.size w w'
set_option maxHeartbeats 4000000 in
theorem rencode_own (L : List EP) (a : Option Addr) (c : Nat) (w : World) (h : Els w L a c) :
    Calls Tryz.prog 54 #[.slice a L.length c] w (REncPost (els L) w) := by
  have hlc := h.lc
  have hcm := h.cm
  unfold maxLen at hcm
  have hrow := h.row
  have hels := Lib.hid h.els
  clear h
  obtain ⟨i0, hi0, hz0, hz1, hz2⟩ := info_parts info8
  obtain ⟨n, hn⟩ : ∃ n, L.length = n := ⟨_, rfl⟩
  have HN := Lib.hid hn
  rw [hn] at hlc hrow ⊢
  clear hn
  by_cases h4 : n ≤ 4
  · have g1 : decide ((4 : Int) < (n : Int)) = false := by simp; omega
    have g2 : decide (4 < n) = false := by simp; omega
    have u0 : IntKind.u8.wrap (n : Int) = (n : Int) := u8_id (by omega)
    have ho := Own.new w 5 #[.int .u8 (n : Int)]
    have b1 := (Below.refl w.heap.size w).alloc (Nat.le_refl _) (.cells #[.int .u8 (n : Int)] 5)
    have hW : Mine (w.alloc (.cells #[.int .u8 (n : Int)] 5)) w.heap.size 5 (.slice (some ⟨w.heap.size, 0, none⟩) 1 1) 1 (bval [(n : Int)]) := Mine.made ho (Nat.le_refl _) (by simp [maxLen]) (Nat.le_refl _) (fun i hi => by cases Nat.lt_one_iff.1 hi; rfl)
    clear ho
    go_enter Tryz.func54, Tryz.ntmps54
    go_upto_region 4 with (fail)
    generalize w.alloc (.cells #[.int .u8 (n : Int)] 5) = w1 at *
    obtain ⟨g, hg⟩ : ∃ g, w.heap.size = g := ⟨_, rfl⟩
    have HG := Lib.hid hg
    rw [hg] at hW b1 ⊢
    clear hg u0
    go_wp2_with fail
    go_loopw [4, 19] (fun v i wr => ∃ (k : Nat), i = .int .i64 k ∧ k ≤ n ∧ Mine wr g 5 v ([(n : Int)] ++ encL ((els L).take k)).length (bval ([(n : Int)] ++ encL ((els L).take k))) ∧ Hid (∀ j, j < k → mayE (L.getD j ep0).e = true) ∧ Below g w wr) (fun _ i _ => n - (intOf i).toNat)
    case atStart => exact ⟨0, rfl, by omega, hW, Lib.hid (fun j hj => by omega), b1⟩
    case round =>
      clear hW b1
      obtain ⟨k, rfl, hk, hW, HE, b2⟩ := hrel
      have hbw : Below w.heap.size w wr := by rw [HG.out]; exact b2
      have hgr : g ≤ wr.heap.size := by rw [← HG.out]; exact hbw.size
      by_cases hlt : k < n
      · obtain ⟨x, hx⟩ : ∃ x, L.getD k ep0 = x := ⟨_, rfl⟩
        obtain ⟨pb, po, rfl, hpb, x0, x1, x2, x3, x4⟩ := erow hrow hbw hlt hx
        have hat := hels.out k (by rw [HN.out]; exact hlt)
        rw [hx] at hat
        have hl1 := els_at (k := k) (by rw [HN.out]; exact hlt) hx
        have HX := Lib.hid hx
        have hlen : ([(n : Int)] ++ encL ((els L).take k)).length ≤ 900 := by
          have : ∀ j, (hj : j < (els L).length) → j < k → mayE (els L)[j] = true := fun j hj hjk => by
            have e1 := els_at (L := L) (k := j) (by rw [els_len] at hj; exact hj) rfl
            rw [e1]
            exact HE.out j hjk
          have e2 : (encL ((els L).take k)).length ≤ 18 * k := by
            have h9 := encL_take_len (l := (els L).take k) (fun j hj => by
              rw [List.getElem_take]
              rw [List.length_take] at hj
              exact this j (by omega) (by omega)) k (by rw [List.length_take, els_len, HN.out]; omega)
            rwa [List.take_take, Nat.min_self] at h9
          simp only [List.length_append, List.length_cons, List.length_nil]
          omega
        have HL := Lib.hid hlen
        have HL1 := Lib.hid hl1
        clear hlen hl1 hx
        obtain ⟨⟨ek, easn, erank, et, el⟩, ea, ec⟩ := x
        simp only at x0 x1 x2 x3 x4 hat
        have o3 := Own.new wr 59 #[.int .i64 ek, .int .i64 easn, .int .i64 erank, .int .i64 et, .slice ea el.length ec]
        have b3 := b2.alloc hgr (.cells #[.int .i64 ek, .int .i64 easn, .int .i64 erank, .int .i64 et, .slice ea el.length ec] 59)
        have hW3 := hW.alloc (.cells #[.int .i64 ek, .int .i64 easn, .int .i64 erank, .int .i64 et, .slice ea el.length ec] 59)
        go_upto_region 7 with (fail)
        generalize wr.alloc (.cells #[.int .i64 ek, .int .i64 easn, .int .i64 erank, .int .i64 et, .slice ea el.length ec] 59) = w3 at *
        obtain ⟨gg, hgg⟩ : ∃ g, wr.heap.size = g := ⟨_, rfl⟩
        rw [hgg] at o3 ⊢
        clear x0 x1 x2 x3 x4 hgg hbw hgr hW b2
        have hat3 := hat.below (by rw [HG.out]; exact b3)
        have c0 : w3.cell? ⟨gg, 0, none⟩ = some (.int .i64 ek) := o3.cell 0
        have c1 : w3.cell? ⟨gg, 1, none⟩ = some (.int .i64 easn) := o3.cell 1
        have c2 : w3.cell? ⟨gg, 2, none⟩ = some (.int .i64 erank) := o3.cell 2
        have c3 : w3.cell? ⟨gg, 3, none⟩ = some (.int .i64 et) := o3.cell 3
        have c4 : w3.cell? ⟨gg, 4, none⟩ = some (.slice ea el.length ec) := o3.cell 4
        have hM := rmay_any ⟨ek, easn, erank, et, el⟩ ea ec w3 hat3
        unfold El.vals at hM
        simp only at hM
        obtain ⟨q, hq⟩ : ∃ q, mayE ⟨ek, easn, erank, et, el⟩ = q := ⟨_, rfl⟩
        rw [hq] at hM
        have HM := Lib.hid hM
        clear hM
        have hg3 : g ≤ w3.heap.size := by have := b3.size; rw [← HG.out]; exact this
        cases q
        · have HD : Hid (mayL (els L) = false) := Lib.hid (mayL_no (k := k) (by rw [els_len, HN.out]; exact hlt) (by rw [HL1.out]; exact hq))
          clear hq
          go_wp2_with fail
          refine HM.out.mono ?_
          rintro r w4 ⟨rfl, b4⟩
          go_wp2_with fail
          go_ret2
          unfold REncPost
          rw [HD.out]
          refine ⟨rfl, ?_⟩
          rw [HG.out]
          exact b3.trans (b4.mono hg3)
        · have HQ := Lib.hid hq
          clear hq
          go_wp2_with fail
          refine HM.out.mono ?_
          rintro r w4 ⟨rfl, b4⟩
          have o4 := below_own b4 o3 o3.lt
          have hW4 : Mine w4 g 5 u4 ([(n : Int)] ++ encL ((els L).take k)).length (bval ([(n : Int)] ++ encL ((els L).take k))) := hW3.kept (fun q hq => by
            by_cases h : q < w3.heap.size
            · exact .inl (b4.block q h)
            · exact .inr (fun e => h (hW3.lt q e).2))
          have b5 := b3.trans (b4.mono hg3)
          have hat4 := hat3.below b4
          clear c0 c1 c2 c3 c4 hat3 o3 hW3 b3 HM
          have c0 : w4.cell? ⟨gg, 0, none⟩ = some (.int .i64 ek) := o4.cell 0
          have c1 : w4.cell? ⟨gg, 1, none⟩ = some (.int .i64 easn) := o4.cell 1
          have c2 : w4.cell? ⟨gg, 2, none⟩ = some (.int .i64 erank) := o4.cell 2
          have c3 : w4.cell? ⟨gg, 3, none⟩ = some (.int .i64 et) := o4.cell 3
          have c4 : w4.cell? ⟨gg, 4, none⟩ = some (.slice ea el.length ec) := o4.cell 4
          obtain ⟨X, hX⟩ : ∃ X, xsOf ⟨ek, easn, erank, et, el⟩ = X := ⟨_, rfl⟩
          have HXS := Lib.hid hX
          clear hX
          go_upto_block 2 with (fail)
          go_cut [7] from 26 to 57 (fun v7 wx => Mine wx w4.heap.size 5 v7 X.length (bval X) ∧ Below w4.heap.size w4 wx)
          case first =>
            by_cases k1 : ek = 1
            · subst k1
              have hr := HQ.out
              rw [may1] at hr
              simp only [Bool.and_eq_true, decide_eq_true_eq, asnB] at hr
              obtain ⟨hr1, hr2, hr3, _⟩ := hr
              have hXe : X = bytesK easn.toNat 5 ++ [erank] := by rw [← HXS.out]; rfl
              have u1 : IntKind.u64.wrap easn = easn := u64_id (by omega)
              have u2 : IntKind.u8.wrap erank = erank := u8_id (by omega)
              have HXE := Lib.hid hXe
              have hBY : ∀ W, Calls Tryz.prog 112 #[.int .u64 easn, .int .i64 5] W fun r w' => ∃ v, r = .returned v ∧ Mine w' W.heap.size 5 v 5 (bval (bytesK easn.toNat 5)) ∧ Below W.heap.size W w' := fun W => by
                refine (Lb.bytes_any easn 5 W (by omega) (by omega)).mono ?_
                rintro r w' ⟨v, h1, h2, h3⟩
                refine ⟨v, h1, h2.ext fun i hi => ?_, h3⟩
                unfold bval
                rw [← octet_bytes _ _ _ hi, Int.toNat_of_nonneg (by omega)]
              have HBY := Lib.hid hBY
              have hALL : ∀ W, Lb.Own W gg 59 #[.int .i64 1, .int .i64 easn, .int .i64 erank, .int .i64 et, .slice ea el.length ec] → W.cell? ⟨gg, 1, none⟩ = some (.int .i64 easn) ∧ W.cell? ⟨gg, 2, none⟩ = some (.int .i64 erank) := fun W h => ⟨h.cell 1, h.cell 2⟩
              have HALL := Lib.hid hALL
              clear hBY hALL hXe hat4
              go_upto_region 17 with (fail)
              have oA : Lb.Own w4.drew gg 59 #[.int .i64 1, .int .i64 easn, .int .i64 erank, .int .i64 et, .slice ea el.length ec] := o4.drewN 1
              have oB : Lb.Own (w4.alloc (.cells #[.int .u8 erank] 5)).drew gg 59 #[.int .i64 1, .int .i64 easn, .int .i64 erank, .int .i64 et, .slice ea el.length ec] := (o4.alloc (.cells #[.int .u8 erank] 5)).drewN 1
              have s0 := HALL.out _ oA
              have sB := HALL.out _ oB
              have lgg := o4.lt
              have dA : Below w4.heap.size w4 w4.drew := below_drewN (Below.refl _ _) 1
              have dB : Below w4.heap.size w4 (w4.alloc (.cells #[.int .u8 erank] 5)).drew := below_drewN ((Below.refl _ _).alloc (Nat.le_refl _) _) 1
              have rB : Row (w4.alloc (.cells #[.int .u8 erank] 5)).drew (some ⟨w4.heap.size, 0, none⟩) 1 (bval [erank]) := (row_new _ _ _ _ (fun i hi => by cases Nat.lt_one_iff.1 hi; rfl)).drewN 1
              have h63 : 5 + 1 ≤ maxLen := by unfold maxLen; decide
              have H63 := Lib.hid h63
              clear h63
              go_region_held3 (fun w' => w'.cell? ⟨gg, 1, none⟩ = some (.int .i64 easn) ∧ w'.cell? ⟨gg, 2, none⟩ = some (.int .i64 erank)) (with_reducible first | exact s0 | exact sB | exact s1 | exact s2 | exact s3 | fail) (first
                | (go_at_call 112; refine (HBY.out _).mono ?_; rintro q5 w5 ⟨v5, rfl, m5, b5⟩; (first
                    | (have gd : Below _ w4.drew w5 := (by with_reducible exact b5); have o5 := below_own gd oA oA.lt; have s1 := HALL.out _ o5; have b6 := dA.trans (gd.mono dA.size); have m6 := (Mine.low m5 dA.size).alloc (.cells #[.int .u8 erank] 5); have r6 : Row (w5.alloc (.cells #[.int .u8 erank] 5)) (some ⟨w5.heap.size, 0, none⟩) 1 (bval [erank]) := row_new _ _ _ _ (fun i hi => by cases Nat.lt_one_iff.1 hi; rfl); have b7 := b6.alloc b6.size (.cells #[.int .u8 erank] 5); have o7 := o5.alloc (.cells #[.int .u8 erank] 5); have s2 := HALL.out _ o7)
                    | (have gd : Below _ (w4.alloc (.cells #[.int .u8 erank] 5)).drew w5 := (by with_reducible exact b5); have o5 := below_own gd oB oB.lt; have s1 := HALL.out _ o5; have b7 := dB.trans (gd.mono dB.size); have m6 := Mine.low m5 dB.size; have r6 := rB.below b5; have o7 := o5)))
                | (with_reducible refine at_app ?_; refine step_app rfl (.tmp 46) (.tmp 50) 35 rfl w4.heap.size 5 i0 _ 1 Tryz.underlying35 hi0 hz0 hz1 hz2 rfl v5 5 (bval (bytesK easn.toNat 5)) rfl m6 _ 1 1 (bval [erank]) rfl r6 (fun _ _ => rfl) H63.out (by omega) b7.size ?_; intro v8 w8 m8 g8 _; have b8 := b7.grown g8 b7.size (fun q hq => (m6.lt q hq).1); have o8 := grown_own g8 o7 (fun e => by have := (m6.lt _ e).1; omega); have s3 := HALL.out _ o8; have m9 : Mine w8 w4.heap.size 5 v8 X.length (bval X) := mine_snoc HXE.out (bytesK_len _ _) m8)
                | fail)
              all_goals
                go_wp2_with fail
                go_meet
                exact ⟨m9, b8⟩
            · have f1 : (ek == 1) = false := by simpa using k1
              by_cases k2 : ek = 2
              · subst k2
                have hXe : X = bytesK (Ie.u64 et) 2 := by rw [← HXS.out]; rfl
                have u1 := u64_eq et
                have hBY : ∀ W, Calls Tryz.prog 112 #[.int .u64 ((Ie.u64 et : Nat) : Int), .int .i64 2] W fun r w' => ∃ v, r = .returned v ∧ Mine w' W.heap.size 5 v 2 (bval (bytesK (Ie.u64 et) 2)) ∧ Below W.heap.size W w' := fun W => by
                  refine (Lb.bytes_any ((Ie.u64 et : Nat) : Int) 2 W (by omega) (by omega)).mono ?_
                  rintro r w' ⟨v, h1, h2, h3⟩
                  refine ⟨v, h1, h2.ext fun i hi => ?_, h3⟩
                  unfold bval
                  rw [← octet_bytes _ _ _ hi]
                have HBY := Lib.hid hBY
                have HXE := Lib.hid hXe
                clear hBY hXe k1
                go_wp2_with fail
                refine (HBY.out _).mono ?_
                rintro r w5 ⟨v5, rfl, m5, b5⟩
                go_wp2_with fail
                go_meet
                rw [HXE.out, bytesK_len]
                exact ⟨m5, b5⟩
              · have f2 : (ek == 2) = false := by simpa using k2
                have hk34 : ek = 3 ∨ ek = 4 := by
                  rcases mayE_kind HQ.out with h | h | h | h
                  · exact absurd h k1
                  · exact absurd h k2
                  · exact .inl h
                  · exact .inr h
                have hr := HQ.out
                rw [may3 _ _ _ _ _ hk34] at hr
                simp only [Bool.and_eq_true, decide_eq_true_eq] at hr
                obtain ⟨hoc, h16, _⟩ := hr
                unfold octsB at hoc
                rw [decide_eq_true_eq] at hoc
                have HOC := Lib.hid hoc
                obtain rfl : el = X := by rw [← HXS.out]; unfold xsOf; rw [if_neg k1, if_neg k2]
                have hR := hat4.row
                obtain ⟨m, hm⟩ : ∃ m, el.length = m := ⟨_, rfl⟩
                have HM := Lib.hid hm
                rw [hm] at hR h16 c4
                clear hoc hk34 k1 k2 hm hat4
                go_wp2_with fail
                go_loopw [7, 31] (fun v i wr => ∃ (k : Nat), i = .int .i64 k ∧ k ≤ m ∧ Mine wr w4.heap.size 5 v k (bval el) ∧ Below w4.heap.size w4 wr) (fun _ i _ => m - (intOf i).toNat)
                case atStart => exact ⟨0, rfl, by omega, Mine.nil _ _ _ _, Below.refl _ _⟩
                case round =>
                  rename_i kk _ _
                  obtain ⟨k, rfl, hk, hv, bb⟩ := hrel
                  by_cases hlt : k < m
                  · obtain ⟨pa, po', rfl, _, x1⟩ := (hR.below bb).at_ hlt
                    unfold zval at x1
                    obtain ⟨x, hx⟩ : ∃ x, el.getD k 0 = x := ⟨_, rfl⟩
                    rw [hx] at x1
                    have hxb := HOC.out k (by rw [HM.out]; exact hlt)
                    rw [hx] at hxb
                    have HX2 := Lib.hid hx
                    have u1 : IntKind.u8.wrap x = x := u8_id (by omega)
                    have hm1 : k + 1 ≤ maxLen := by unfold maxLen; omega
                    have Hm := Lib.hid hm1
                    have hs := bb.size
                    clear hx hxb hm1
                    go_wp2_with (at_builtin; go_must (refine wp_app rfl (.tmp 35) (.tmp 38) _ rfl w4.heap.size 5 i0 _ 1 Tryz.underlying35 hi0 hz0 hz1 hz2 rfl u7 k (bval el) rfl (hv.alloc _) _ 1 _ (bval [x]) rfl (row_new _ _ _ _ (fun i hi => by cases Nat.lt_one_iff.1 hi; rfl)) (fun _ _ => rfl) Hm.out ?c2 ?c3 ?_))
                    case c2 => omega
                    case c3 => simp; omega
                    intro v' w2 hv2 hg
                    have b2 : Below w4.heap.size w4 w2 := (bb.alloc hs _).grown hg (by simp; omega) (fun q hq => (hv.lt q hq).1)
                    have hv3 := hv2.ext (U := bval el) (fun q hq => by
                      by_cases h : q < k
                      · rw [if_pos h]
                      · obtain rfl : q = k := by omega
                        rw [if_neg h, Nat.sub_self]
                        unfold bval
                        rw [HX2.out]
                        rfl)
                    clear hv hv2 hg
                    go_wp2_with fail
                    exact ⟨⟨k + 1, by simp, by omega, hv3, b2⟩, by simp [intOf]; omega⟩
                  · obtain rfl : m = k := by omega
                    go_wp2_with fail
                    go_meet
                    rw [HM.out]
                    exact ⟨hv, bb⟩
          case rest =>
            clear c0 c1 c2 c3 c4 hat4
            obtain ⟨hX7, b7⟩ := hcut
            have o7 := below_own b7 o4 o4.lt
            have hk4 := mayE_kind HQ.out
            have hx16 := xs_len HQ.out
            rw [HXS.out] at hx16
            have hWc : Mine wc g 5 u4 ([(n : Int)] ++ encL ((els L).take k)).length (bval ([(n : Int)] ++ encL ((els L).take k))) := hW4.kept (fun q hq => by
              by_cases h : q < w4.heap.size
              · exact .inl (b7.block q h)
              · exact .inr (fun e => h (hW4.lt q e).2))
            have hulo := fun q e => (hW4.lt q e).2
            have b8 := b5.trans (b7.mono (by have := b4.size; omega))
            have hNX : ([(n : Int)] ++ encL ((els L).take (k + 1))) = ([(n : Int)] ++ encL ((els L).take k)) ++ ([ek] ++ [(X.length : Int)] ++ X) := by
              rw [encL_take (by rw [els_len, HN.out]; exact hlt), HL1.out, enc_xs, HXS.out]
              simp
            have hl9 := HL.out
            obtain ⟨l, hl⟩ : ∃ l, ([(n : Int)] ++ encL ((els L).take k)) = l := ⟨_, rfl⟩
            rw [hl] at hWc hNX hl9
            have HNX := Lib.hid hNX
            have HUL := Lib.hid hulo
            obtain ⟨a7, c7, rfl, l7, m7, R7⟩ := hX7.row
            have hk4 : 1 ≤ ek ∧ ek ≤ 4 := by
              have : ek = 1 ∨ ek = 2 ∨ ek = 3 ∨ ek = 4 := hk4
              omega
            have u1 : IntKind.u8.wrap ek = ek := u8_id (by omega)
            obtain ⟨x, hxl⟩ : ∃ x, X.length = x := ⟨_, rfl⟩
            rw [hxl] at hX7 R7 l7 hx16 ⊢
            have HXL := Lib.hid hxl
            have u2 : IntKind.u8.wrap (x : Int) = (x : Int) := u8_id (by omega)
            obtain ⟨ll, hll⟩ : ∃ ll, l.length = ll := ⟨_, rfl⟩
            rw [hll] at hWc hl9
            have HLL := Lib.hid hll
            have z0 : wc.cell? ⟨gg, 0, none⟩ = some (.int .i64 ek) := o7.cell 0
            have hgc : g ≤ wc.heap.size := by have := b7.size; have := b4.size; omega
            have Hm1 : Hid (ll + 2 ≤ maxLen) := Lib.hid (by unfold maxLen; omega)
            have Hm2 : Hid (ll + 2 + x ≤ maxLen) := Lib.hid (by unfold maxLen; omega)
            clear hl hll hxl hNX hulo hk4 hW4 b7 b5 b4 hat
            go_wp2_with (at_builtin; go_must (refine wp_app_at rfl (.tmp 58) (.tmp 65) _ rfl g 5 i0 _ 1 Tryz.underlying35 hi0 hz0 hz1 hz2 rfl u4 ll (bval l) rfl (hWc.alloc _) _ 2 _ (bval [ek, (x : Int)]) rfl (row_new _ _ _ _ (fun i hi => by rcases (show i = 0 ∨ i = 1 by omega) with rfl | rfl <;> rfl)) (fun _ _ => rfl) Hm1.out ?c2 ?c3 ?_))
            case c2 => omega
            case c3 => first | omega | (simp; omega)
            intro v9 w9 h9 g9 q9
            have h9' : Mine w9 g 5 v9 (ll + 2) (bval (l ++ [ek, (x : Int)])) := h9.ext (fun i _ => by rw [← HLL.out]; exact bval_app l _ i)
            have b9 : Below g w w9 := (b8.alloc hgc _).grown g9 (by simp; omega) (fun q hq => (hWc.lt q hq).1)
            have hX9 := (hX7.alloc (.cells #[.int .u8 ek, .int .u8 (x : Int)] 5)).kept (w' := w9) (fun q hq => by
              by_cases h : q < (wc.alloc (.cells #[.int .u8 ek, .int .u8 (x : Int)] 5)).heap.size
              · exact .inl (g9.block q h (fun e => by have := HUL.out q e.symm; omega))
              · exact .inr (fun e => h (((hX7.alloc (.cells #[.int .u8 ek, .int .u8 (x : Int)] 5)).lt q e).2)))
            have H9 := Lib.hid h9'
            have HX9 := Lib.hid hX9.rowAt
            have hg9 : g ≤ w9.heap.size := by have := g9.size; simp at this; omega
            clear h9 h9' hX9 g9 q9 hX7 R7 hWc b8 u1 u2
            go_wp2_with (at_builtin; go_must (refine wp_app rfl (.tmp 66) (.tmp 67) _ rfl g 5 i0 _ 1 Tryz.underlying35 hi0 hz0 hz1 hz2 rfl v9 (ll + 2) (bval (l ++ [ek, (x : Int)])) rfl H9.out _ x _ (bval X) rfl HX9.out (fun _ _ => rfl) Hm2.out ?c4 hg9 ?_))
            case c4 => omega
            intro v10 w10 h10 g10
            have hN : ([(n : Int)] ++ encL ((els L).take (k + 1))).length = ll + 2 + x := by rw [HNX.out]; simp [HLL.out, HXL.out]; omega
            have h11 : Mine w10 g 5 v10 ([(n : Int)] ++ encL ((els L).take (k + 1))).length (bval ([(n : Int)] ++ encL ((els L).take (k + 1)))) := by
              rw [hN, HNX.out]
              refine h10.ext (fun i _ => ?_)
              have e1 : (l ++ [ek, (x : Int)]).length = ll + 2 := by simp [HLL.out]
              rw [← e1, bval_app, HXL.out]
              simp
            have b10 : Below g w w10 := b9.grown g10 hg9 (fun q hq => (H9.out.lt q hq).1)
            have HE2 : Hid (∀ j, j < k + 1 → mayE (L.getD j ep0).e = true) := Lib.hid (fun j hj => by
              by_cases e : j = k
              · subst e; rw [HX.out]; exact HQ.out
              · exact HE.out j (by omega))
            clear h10 g10 b9 H9 HX9 hN
            go_wp2_with fail
            exact ⟨⟨k + 1, by simp, by omega, h11, HE2, b10⟩, by simp [intOf]; omega⟩
      · obtain rfl : n = k := by omega
        have hall : ∀ j, (hj : j < (els L).length) → mayE (els L)[j] = true := fun j hj => by
          have e1 := els_at (L := L) (k := j) (by rw [els_len] at hj; exact hj) rfl
          rw [e1]
          exact HE.out j (by rw [els_len, HN.out] at hj; exact hj)
        have HD : Hid (mayL (els L) = true) := Lib.hid (mayL_yes (by rw [els_len, HN.out]; exact h4) hall)
        have e1 : (els L).take n = els L := List.take_of_length_le (by rw [els_len, HN.out]; exact Nat.le_refl _)
        rw [e1] at hW
        have hI : [(n : Int)] ++ encL (els L) = encI (els L) := by unfold encI; rw [els_len, HN.out]
        rw [hI] at hW
        obtain ⟨a8, c8, rfl, l8, m8, R8⟩ := hW.row
        have HW := Lib.hid hW
        clear e1 hI hall hW
        go_wp2_with fail
        go_ret2
        unfold REncPost
        rw [HD.out, if_pos rfl]
        exact ⟨.slice a8 (encI (els L)).length c8, rfl, by rw [HG.out]; exact HW.out, hbw⟩
  · have g1 : decide ((4 : Int) < (n : Int)) = true := by simp; omega
    have g2 : decide (4 < n) = true := by simp; omega
    have HD : Hid (mayL (els L) = false) := Lib.hid (by
      unfold mayL
      rw [els_len, HN.out, decide_eq_false h4]
      rfl)
    clear h4
    go_enter Tryz.func54, Tryz.ntmps54
    go_wp2_with fail
    go_ret2
    unfold REncPost
    rw [HD.out]
    exact ⟨rfl, Below.refl _ _⟩
theorem rencode_any (L : List EP) (a : Option Addr) (c : Nat) (w : World) (h : Els w L a c) :
    Calls Tryz.prog 54 #[.slice a L.length c] w (EncPost (els L) w) := by
  refine (rencode_own L a c w h).mono ?_
  intro r w' hp
  unfold REncPost at hp
  unfold EncPost
  by_cases hm : mayL (els L) = true
  · rw [if_pos hm] at hp ⊢
    obtain ⟨v, rfl, h1, h2⟩ := hp
    obtain ⟨a8, c8, rfl, l8, m8, R8⟩ := h1.row
    exact ⟨a8, c8, rfl, l8, m8, R8, h2⟩
  · rw [if_neg hm] at hp ⊢
    exact hp
end Go.Proofs.YtiflmdekcjbmbaaGreat.Ie
set_option maxRecDepth 100000
namespace Go.Proofs.YtiflmdekcjbmbaaGreat.Ie
set_option linter.unusedVariables false
set_option linter.unusedSimpArgs false
open Go.RowKit Lb Bf

/-- The number that bytes are, the highest first. -/
def numB (l : List Int) : Int := l.foldl (fun x c => x * 256 + c) 0
theorem numB_snoc (l : List Int) (c : Int) : numB (l ++ [c]) = numB l * 256 + c := by
  unfold numB
  rw [List.foldl_append]
  rfl
theorem bytesK_snoc (x k : Nat) : bytesK x (k + 1) = bytesK (x / 256) k ++ [((x % 256 : Nat) : Int)] := by
  apply List.ext_getElem
  · simp [bytesK_len]
  · intro i h1 h2
    rw [bytesK_len] at h1
    have e1 := bytesK_at x (k + 1) i h1
    rw [List.getD_eq_getElem?_getD, List.getElem?_eq_getElem (by rw [bytesK_len]; exact h1)] at e1
    simp only [Option.getD_some] at e1
    rw [e1]
    by_cases h : i < k
    · have e2 := bytesK_at (x / 256) k i h
      rw [List.getD_eq_getElem?_getD, List.getElem?_eq_getElem (by rw [bytesK_len]; exact h)] at e2
      simp only [Option.getD_some] at e2
      rw [List.getElem_append_left (by rw [bytesK_len]; exact h), e2, Nat.shiftRight_eq_div_pow, Nat.shiftRight_eq_div_pow, Nat.div_div_eq_div_mul]
      congr 3
      rw [show 8 * (k + 1 - 1 - i) = 8 + 8 * (k - 1 - i) by omega, Nat.pow_add]
    · obtain rfl : i = k := by omega
      rw [List.getElem_append_right (by rw [bytesK_len]; omega)]
      simp [bytesK_len]
theorem numB_bytes : ∀ (k x : Nat), x < 256 ^ k → numB (bytesK x k) = (x : Int) := by
  intro k
  induction k with
  | zero => intro x hx; have : x = 0 := (by simpa using hx); subst this; rfl
  | succ k ih =>
    intro x hx
    rw [bytesK_snoc, numB_snoc, ih (x / 256) (by rw [Nat.div_lt_iff_lt_mul (by decide)]; rwa [Nat.pow_succ] at hx)]
    omega
theorem numB_of {x k : Nat} {l : List Int} (hx : x < 256 ^ k) (h : bytesK x k = l) : numB l = (x : Int) := by rw [← h]; exact numB_bytes k x hx
def okD' (l : List Int) : Prop := ∀ x, x ∈ l → 0 ≤ x ∧ x < 256
theorem numB_bd : ∀ (k : Nat) (l : List Int), l.length = k → okD' l → 0 ≤ numB l ∧ numB l < 256 ^ k := by
  intro k
  induction k with
  | zero => intro l hl _; have : l = [] := List.length_eq_zero_iff.1 hl; subst this; exact ⟨(by decide), (by decide)⟩
  | succ k ih =>
    intro l hl hd
    rcases List.eq_nil_or_concat l with rfl | ⟨m, c, rfl⟩
    · simp at hl
    · rw [List.concat_eq_append] at *
      have h1 := ih m (by simp at hl; omega) (fun x hx => hd x (List.mem_append_left _ hx))
      have h2 := hd c (List.mem_append_right _ (by simp))
      rw [numB_snoc, Int.pow_succ]
      omega
/-- An element out of what stands behind its kind and its size. -/
def elOf (k : Int) (xs : List Int) : El :=
  if k = 1 then ⟨1, numB (xs.take 5), xs.getD 5 0, 0, []⟩
  else if k = 2 then ⟨2, 0, 0, IntKind.i16.wrap (numB xs), []⟩
  else ⟨k, 0, 0, 0, xs⟩
def sizeB (k s : Int) : Bool := if k = 1 then s == 6 else if k = 2 then s == 2 else decide (s ≤ 16)
def dec1 (L : List Int) : Except Int (El × List Int) :=
  match L with
  | [] => .error 2
  | k :: L1 =>
    if k < 1 ∨ 4 < k then .error 3
    else match L1 with
      | [] => .error 2
      | s :: L2 => if sizeB k s = false then .error 3 else if L2.length < s.toNat then .error 2 else .ok (elOf k (L2.take s.toNat), L2.drop s.toNat)
def decN : Nat → List Int → Except Int (List El × List Int)
  | 0, L => .ok ([], L)
  | n + 1, L => match dec1 L with
    | .error e => .error e
    | .ok (x, R) => match decN n R with
      | .error e => .error e
      | .ok (l, Q) => .ok (x :: l, Q)
def decI (L : List Int) : Except Int (List El) :=
  match L with
  | [] => .error 2
  | n :: L1 => if 4 < n then .error 3 else match decN n.toNat L1 with
    | .error e => .error e
    | .ok (l, R) => if R = [] then .ok l else .error 3
/-- What has been decoded goes on. -/
theorem decN_snoc : ∀ (n : Nat) (L : List Int), decN (n + 1) L = match decN n L with
    | .error e => .error e
    | .ok (l, R) => match dec1 R with
      | .error e => .error e
      | .ok (x, Q) => .ok (l ++ [x], Q) := by
  intro n
  induction n with
  | zero =>
    intro L
    simp only [decN]
    cases h : dec1 L with
    | error e => rfl
    | ok p => obtain ⟨x, R⟩ := p; rfl
  | succ n ih =>
    intro L
    rw [decN]
    cases h : dec1 L with
    | error e =>
      simp only
      rw [decN, h]
    | ok p =>
      obtain ⟨x, R⟩ := p
      simp only
      rw [ih R]
      conv => rhs; rw [decN, h]
      simp only
      cases h2 : decN n R with
      | error e => rfl
      | ok p =>
        obtain ⟨l, Q⟩ := p
        simp only
        cases h3 : dec1 Q with
        | error e => rfl
        | ok p => obtain ⟨y, S⟩ := p; rfl
theorem decN_err {n m : Nat} {L : List Int} {e : Int} (h : decN n L = .error e) (hm : n ≤ m) : decN m L = .error e := by
  induction m with
  | zero => obtain rfl : n = 0 := by omega
            exact h
  | succ m ih =>
    by_cases hn : n = m + 1
    · subst hn; exact h
    · rw [decN_snoc, ih (by omega)]
end Go.Proofs.YtiflmdekcjbmbaaGreat.Ie
set_option maxRecDepth 100000
namespace Go.Proofs.YtiflmdekcjbmbaaGreat.Bf
set_option linter.unusedVariables false
set_option linter.unusedSimpArgs false
open Go.RowKit Lb Go.Shelf

/-- Bit p of bytes. -/
def bt (Z : Nat → Nat) (p : Nat) : Bool := (Z (p / 8)).testBit (7 - p % 8)
/-- x is the number that k bits of B are, from bit p on. -/
structure Num (x k : Nat) (B : Nat → Bool) (p : Nat) : Prop where
  lt : x < 2 ^ k
  bit : ∀ j, j < k → x.testBit j = B (p + (k - 1 - j))
theorem Num.zero (B : Nat → Bool) (p : Nat) : Num 0 0 B p := ⟨by decide, fun j hj => by omega⟩
theorem Num.uniq {x y k p : Nat} {B : Nat → Bool} (h : Num x k B p) (g : Num y k B p) : x = y := by
  apply Nat.eq_of_testBit_eq
  intro j
  by_cases hj : j < k
  · rw [h.bit j hj, g.bit j hj]
  · rw [Nat.testBit_lt_two_pow (Nat.lt_of_lt_of_le h.lt (Nat.pow_le_pow_right (by decide) (by omega))), Nat.testBit_lt_two_pow (Nat.lt_of_lt_of_le g.lt (Nat.pow_le_pow_right (by decide) (by omega)))]
theorem Num.step {x k t p : Nat} {Z : Nat → Nat} (h : Num x k (bt Z) p) (ht : t ≤ 8 - (p + k) % 8) :
    Num (x <<< t ||| part (Z ((p + k) / 8)) (8 - (p + k) % 8 - t) t) (k + t) (bt Z) p where
  lt := by
    refine Nat.or_lt_two_pow ?_ ?_
    · rw [Nat.shiftLeft_eq, Nat.pow_add]
      exact (Nat.mul_lt_mul_right (Nat.two_pow_pos t)).2 h.lt
    · refine Nat.lt_of_le_of_lt Nat.and_le_right ?_
      have h1 : 2 ^ t ≤ 2 ^ (k + t) := Nat.pow_le_pow_right (by decide) (by omega)
      have := Nat.two_pow_pos t
      omega
  bit j hj := by
    rw [Nat.testBit_or, Nat.testBit_shiftLeft, part_bit _ _ _ _ (by omega)]
    by_cases h1 : j < t
    · have h2 : ¬ j ≥ t := by omega
      have h3 : p + (k + t - 1 - j) = p + k + (t - 1 - j) := by omega
      rw [h3]
      unfold bt
      have h4 : (p + k + (t - 1 - j)) / 8 = (p + k) / 8 := by omega
      have h5 : 7 - (p + k + (t - 1 - j)) % 8 = 8 - (p + k) % 8 - t + j := by omega
      rw [h4, h5]
      simp [h1, h2]
    · have h2 : j ≥ t := by omega
      rw [h.bit (j - t) (by omega)]
      simp [h1, h2]
      congr 1
      omega
theorem Str.bt {n bits : Nat} {Z : Nat → Nat} {B : Nat → Bool} (h : Str n bits Z B) {p : Nat} (hp : p < bits) (hb : bits ≤ 8 * n) : bt Z p = B p := by
  unfold Bf.bt
  rw [h.bit (p / 8) (by omega) (p % 8) (by omega), show 8 * (p / 8) + p % 8 = p from by omega]
  simp [hp]
theorem part_and' (z D T : Nat) (hz : z < 256) (hT : T ≤ 8) : Go.bits .and .u8 ((z : Int) / 2 ^ D) ((2 ^ T - 1 : Nat) : Int) = ((part z D T : Nat) : Int) := by
  have hq : z / 2 ^ D < 256 := Nat.lt_of_le_of_lt (Nat.div_le_self _ _) hz
  have := part_and z D T hT
  have e : ((z : Int) / 2 ^ D) = ((z / 2 ^ D : Nat) : Int) := by simp
  have e2 : ((z : Int) / 2 ^ D) % 256 = (z : Int) / 2 ^ D := by
    rw [e]
    clear this e
    generalize z / 2 ^ D = u at hq ⊢
    omega
  rw [← this, e2]
structure Rd (w : World) (base b at_ n : Nat) (Z : Nat → Nat) (err : Int) (v : Value) : Prop where
  own : Own w b 268 #[v, .int .i64 (at_ : Int), .int .i64 err]
  row : Mine w base 5 v n (fun i => .int .u8 (Z i : Nat))
  lt : ∀ k, k < n → Z k < 256
  low : base ≤ b
theorem Rd.drewN {w : World} {base b at_ n : Nat} {Z : Nat → Nat} {err : Int} {v : Value} (h : Rd w base b at_ n Z err v) (m : Nat) : Rd (w.drewN m) base b at_ n Z err v := ⟨h.own.drewN m, h.row.drewN m, h.lt, h.low⟩
theorem left_any (base b at_ n : Nat) (Z : Nat → Nat) (err : Int) (v : Value) (w : World) (h : Rd w base b at_ n Z err v) (hl : at_ ≤ 8 * n) (hn : n ≤ 1000000) :
    Calls Tryz.prog 214 #[.pointer (some ⟨b, 0, none⟩)] w fun r w' => r = .returned (.int .i64 ((8 * n - at_ : Nat) : Int)) ∧ ∃ m, w.drewN m = w' := by
  obtain ⟨a, c, rfl, h1, h2, hR⟩ := h.row.row
  have k0 : w.cell? ⟨b, 0, none⟩ = some (.slice a n c) := h.own.cell 0
  have k1 : w.cell? ⟨b, 1, none⟩ = some (.int .i64 (at_ : Int)) := h.own.cell 1
  have e1 : IntKind.i64.wrap ((n : Int) * 8) = (n : Int) * 8 := IntWalk.i64_in _ (by omega)
  obtain ⟨R, hR⟩ : ∃ R, 8 * n - at_ = R := ⟨_, rfl⟩
  have e2 : IntKind.i64.wrap ((n : Int) * 8 - (at_ : Int)) = (R : Int) := by rw [IntWalk.i64_in _ (by omega)]; omega
  have e2' : (n : Int) * 8 - (at_ : Int) = (R : Int) := by omega
  go_enter Tryz.func214, Tryz.ntmps214
  go_wp2_with fail
  go_quiet (fail)
  go_wp2_with fail
  go_ret
  exact ⟨by rw [hR]; rfl, _, rfl⟩
theorem new_any (a : Option Addr) (n c : Nat) (Z : Nat → Nat) (w : World) (hc : n ≤ 100000) (hR : Row w a n (fun i => .int .u8 (Z i : Nat))) (hz : ∀ k, k < n → Z k < 256) (ha : a = none → n = 0) :
    Calls Tryz.prog 187 #[.slice a n c] w fun r w' => ∃ b v, r = .returned (.pointer (some ⟨b, 0, none⟩)) ∧ Rd w' w.heap.size b 0 n Z 0 v ∧ Below w.heap.size w w' := by
  go_enter Tryz.func187, Tryz.ntmps187
  go_wp2_with fail
  refine (clone_mine a n c (fun i => (Z i : Int)) _ (by omega) hR ha).mono ?_
  rintro r w4 ⟨v, rfl, hm, b4⟩
  have hm2 := hm.row
  obtain ⟨a', c', rfl, h3, h4, hR4⟩ := hm2
  go_wp2_with fail
  go_ret
  exact ⟨_, _, rfl, ⟨Own.new _ _ _, hm.alloc _, hz, b4.size⟩, b4.alloc b4.size _⟩
set_option maxHeartbeats 4000000 in
theorem take_any (base b at_ n : Nat) (Z : Nat → Nat) (err : Int) (v : Value) (width : Nat) (w : World) (h : Rd w base b at_ n Z err v) (hw : width ≤ 64) (hl : at_ + width ≤ 8 * n) (hn : n ≤ 100000) :
    Calls Tryz.prog 188 #[.pointer (some ⟨b, 0, none⟩), .int .i64 (width : Nat)] w fun r w' => ∃ x, r = .returned (.int .u64 (x : Nat)) ∧ Num x width (bt Z) at_ ∧ Rd w' base b (at_ + width) n Z err v ∧ Below base w w' := by
  have g1 : decide ((width : Int) < 0) = false := by simp
  have g2 : decide ((64 : Int) < (width : Int)) = false := by simp; omega
  have g3 : decide (64 < width) = false := by simp; omega
  have g4 : decide (((8 * n - at_ : Nat) : Int) < (width : Int)) = false := by simp; omega
  have g5 : decide (8 * n - at_ < width) = false := by simp; omega
  have hbase : base ≤ w.heap.size := by have := h.own.lt; have := h.low; omega
  go_enter Tryz.func188, Tryz.ntmps188
  go_wp2_with fail
  refine (left_any base b at_ n Z err v _ h (by omega) (by omega)).mono ?_
  rintro r w1 ⟨rfl, m1, hw1⟩
  have h1 : Rd w1 base b (at_ + (width - width)) n Z err v := by rw [Nat.sub_self, ← hw1]; exact h.drewN m1
  have b1 : Below base w w1 := by rw [← hw1]; exact below_drewN (Below.refl _ _) m1
  clear hw1 h
  obtain ⟨LL, hLL⟩ : ∃ LL, 8 * n - at_ = LL := ⟨_, rfl⟩
  rw [hLL] at g4 g5 ⊢
  have HLL := Lib.hid hLL
  clear hLL
  go_wp2_with fail
  go_loopw [1, 5] (fun i s wr => ∃ d X : Nat, i = .int .i64 d ∧ s = .int .u64 (X : Nat) ∧ d ≤ width ∧ Num X (width - d) (bt Z) at_ ∧ Rd wr base b (at_ + (width - d)) n Z err v ∧ Below base w wr) (fun i _ _ => (intOf i).toNat)
  case atStart => exact ⟨width, 0, rfl, rfl, Nat.le_refl _, by rw [Nat.sub_self]; exact Num.zero _ _, h1, b1⟩
  case round =>
    clear h1 b1
    obtain ⟨d, X, rfl, rfl, hd, hX, h1, b1⟩ := hrel
    by_cases hd0 : 0 < d
    · obtain ⟨g, c1, rfl⟩ := mine_form h1.row (by omega)
      have k0 : wr.cell? ⟨b, 0, none⟩ = some (.slice (some ⟨g, 0, none⟩) n c1) := h1.own.cell 0
      have k1 : wr.cell? ⟨b, 1, none⟩ = some (.int .i64 ((at_ + (width - d) : Nat) : Int)) := h1.own.cell 1
      obtain ⟨q, hq⟩ : ∃ q, at_ + (width - d) = q := ⟨_, rfl⟩
      rw [hq] at k1 h1
      have hq2 : q + d ≤ 8 * n := by omega
      have HQ := Lib.hid hq
      have hmk : width - d + d = width := by omega
      clear hq
      obtain ⟨R, hR⟩ : ∃ R, 8 - q % 8 = R := ⟨_, rfl⟩
      have e2 : (8 : Int) - (q : Int) % 8 = (R : Int) := by omega
      obtain ⟨T, hT⟩ : ∃ T, min R d = T := ⟨_, rfl⟩
      have hT1 : 1 ≤ T ∧ T ≤ R ∧ T ≤ d := by omega
      have e4 : min (R : Int) (d : Int) = (T : Int) := by omega
      obtain ⟨K, hK⟩ : ∃ K, q / 8 = K := ⟨_, rfl⟩
      have hK2 : K < n := by omega
      have e5 : (q : Int) / 8 = (K : Int) := by omega
      obtain ⟨S, hS⟩ : ∃ S, R - T = S := ⟨_, rfl⟩
      have e6 : IntKind.i64.wrap ((R : Int) - (T : Int)) = (S : Int) := by rw [IntWalk.i64_in _ (by omega)]; omega
      have e6' : (R : Int) - (T : Int) = (S : Int) := by omega
      have hz := h1.lt K hK2
      have e8 := part_and' (Z K) S T hz (by omega)
      obtain ⟨y, hy⟩ : ∃ y, part (Z K) S T = y := ⟨_, rfl⟩
      have hyl : y < 256 := by rw [← hy]; exact part_lt _ _ _
      have hX2 : Num (X <<< T ||| y) (width - d + T) (bt Z) at_ := by
        have := hX.step (t := T) (by rw [HQ.out]; omega)
        rw [HQ.out, hK, hR, hS, hy] at this
        exact this
      obtain ⟨M, hM⟩ : ∃ M, X <<< T ||| y = M := ⟨_, rfl⟩
      rw [hM] at hX2
      have hXT : X <<< T < 2 ^ 64 := by
        rw [Nat.shiftLeft_eq]
        refine Nat.lt_of_lt_of_le ((Nat.mul_lt_mul_right (Nat.two_pow_pos T)).2 hX.lt) ?_
        rw [← Nat.pow_add]
        exact Nat.pow_le_pow_right (by decide) (by omega)
      have e9 : bits .or .u64 (IntKind.u64.wrap ((X : Int) * 2 ^ T)) (y : Int) = (M : Int) := by
        have := u64_or_nat (X <<< T) y hXT (by omega)
        have e : (X : Int) * 2 ^ T = ((X <<< T : Nat) : Int) := by rw [Nat.shiftLeft_eq]; simp
        rw [← hM, ← this, e, IntKind.wrap_u64, Int.emod_eq_of_lt (Int.natCast_nonneg _) (by have h : X <<< T < 18446744073709551616 := hXT; omega)]
      have e10 : IntKind.u64.wrap (y : Int) = (y : Int) := by rw [IntKind.wrap_u64]; omega
      have e11 : (y : Int) % 18446744073709551616 = (y : Int) := by omega
      have k2 : wr.cell? ⟨g, K, none⟩ = some (.int .u8 (Z K : Nat)) := (h1.row.at_ hK2).2.2.1
      rw [hy] at e8
      obtain ⟨D, hD⟩ : ∃ D, d - T = D := ⟨_, rfl⟩
      have e12 : IntKind.i64.wrap ((d : Int) - (T : Int)) = (D : Int) := by rw [IntWalk.i64_in _ (by omega)]; omega
      have e12' : (d : Int) - (T : Int) = (D : Int) := by omega
      have hO := fun w => ones_any T (by omega) w
      have HX2 := Lib.hid hX2
      clear hM hy hXT hX hX2 hz
      go_wp2_with fail
      go_quiet (first | (go_at_call 184; exact quiet_left (hO _)))
      generalize hw2 : wr.drewN nq = w2 at *
      have h2 : Rd w2 base b q n Z err (.slice (some ⟨g, 0, none⟩) n c1) := by rw [← hw2]; exact h1.drewN nq
      have b2 : Below base w w2 := by rw [← hw2]; exact below_drewN b1 nq
      clear hw2 h1 b1 k0 k1 k2
      have k1 : w2.cell? ⟨b, 1, none⟩ = some (.int .i64 (q : Int)) := h2.own.cell 1
      have k3 : w2.frozen? ⟨b, 1, none⟩ = false := h2.own.free 1
      go_wp2_with fail
      have hbne : (Value.slice (some ⟨g, 0, none⟩) n c1).ownBlock ≠ some b := fun e => by
        have e : some g = some b := e
        injection e with e
        subst e
        exact absurd (own_type h2.own (mine_at h2.row).2.choose_spec) (by decide)
      refine ⟨⟨D, M, rfl, rfl, by omega, by rw [show width - D = width - d + T from by omega]; exact HX2.out, ?_, (Just.set b w2 1 _).below b2 h2.low (by have := h2.own.lt; have := h2.low; omega)⟩, by simp [intOf]; omega⟩
      rw [show at_ + (width - D) = q + T from by have := HQ.out; omega]
      exact ⟨h2.own.put 1 _, h2.row.other (p := ⟨b, 1, none⟩) hbne _, h2.lt, h2.low⟩
    · have e0 : d = 0 := by omega
      subst e0
      go_wp2_with fail
      go_ret
      exact ⟨X, rfl, hX, h1, b1⟩
end Go.Proofs.YtiflmdekcjbmbaaGreat.Bf
