/-
  The reference of joining (chapter 18): Give, Given; the law's bytes, changed; what comes in.
-/
import Derived.Test.YtphiohdhgkpgnaaJoRAsk
import Derived.Test.YtphiohdhgkpgnaaJoRSame
import Derived.Test.YtphiohdhgkpgnaaJoRRd
import Derived.Test.YtphiohdhgkpgnaaJoOnceM
import Derived.Test.YtphiohdhgkpgnaaJoM
import Derived.Test.YtphiohdhgkpgnaaCellArg
import Derived.Test.YtphiohdhgkpgnaaRowRow
import Derived.Deep.Strs
import Derived.Lib.SmallJoins
set_option maxRecDepth 100000
namespace Go.Proofs.Ytphiohdhgkpgnaa.Jo
set_option linter.unusedVariables false
open Go.RowKit Lb Go.Shelf Bf Se Cl

set_option maxHeartbeats 1000000 in
theorem rjoin_mine (A : Option Addr) (k cc : Nat) (av : Nat → Option Addr) (cs : Nat → Nat) (Ls : Nat → List Int) (w : World) (hk : k ≤ 8) (hl : ∀ j, (Ls j).length ≤ 1000) (hR : Row w A k (fun j => .slice (av j) (Ls j).length (cs j))) (hB : ∀ j, j < k → Bs w (av j) (cs j) (Ls j)) :
    Calls Try.prog 33 #[.slice A k cc] w fun r w' => ∃ v, r = .returned v ∧ Mine w' w.heap.size 5 v (joinL Ls k).length (bval (joinL Ls k)) ∧ Below w.heap.size w w' := by
  obtain ⟨i0, hi0, hz0, hz1, hz2⟩ := info_parts info8'
  have hk63 : (k : Int) ≤ 9223372036854775807 := by omega
  have HJ := Lib.hid (joinL_len hl)
  go_enter Try.func33, Try.ntmps33
  go_wp2_with fail
  go_loopw [3, 8] (fun u i wr => ∃ (j : Nat) (v : Value), u = v ∧ j ≤ k ∧ i = .int .i64 (j : Int) ∧ Mine wr w.heap.size 5 v (joinL Ls j).length (bval (joinL Ls j)) ∧ Below w.heap.size w wr) (fun _ i _ => k - (intOf i).toNat)
  case atStart => exact ⟨0, _, rfl, Nat.zero_le _, by simp, Mine.nil _ _ _ _, Below.refl _ _⟩
  case round =>
    obtain ⟨j, v, rfl, hj, rfl, hv, bb⟩ := hrel
    by_cases hlt : j < k
    · have hs := bb.size
      have hn1 := hl j
      have hm : (joinL Ls j).length + (Ls j).length ≤ maxLen := by
        have t1 := HJ.out j
        have t2 : j * 1000 ≤ 8 * 1000 := Nat.mul_le_mul_right _ (by omega)
        unfold maxLen
        omega
      have hmj8 : (joinL Ls j).length ≤ 8000 := by
        have t1 := HJ.out j
        have t2 : j * 1000 ≤ 8 * 1000 := Nat.mul_le_mul_right _ (by omega)
        omega
      have Hm := Lib.hid hm
      have hrow := ((hB j hlt).below bb).row
      have hca := (hB j hlt).cap
      have hle := (hB j hlt).le
      unfold maxLen at hca
      obtain ⟨rb, ro, rfl, hrb, hrc⟩ := (hR.below bb) (by omega)
      have c0 : wr.cell? ⟨rb, ro + j, none⟩ = some (.slice (av j) (Ls j).length (cs j)) := hrc j hlt
      obtain ⟨nj, hnj⟩ : ∃ n, (Ls j).length = n := ⟨_, rfl⟩
      obtain ⟨mj, hmj⟩ : ∃ n, (joinL Ls j).length = n := ⟨_, rfl⟩
      have HNJ := Lib.hid hnj
      have HMJ := Lib.hid hmj
      rw [hnj] at c0 hrow hle hn1 Hm
      rw [hmj] at hv Hm hmj8
      have hn63 : (nj : Int) ≤ 9223372036854775807 := by omega
      have hc63 : (cs j : Int) ≤ 9223372036854775807 := by omega
      clear hm hrc hR hB hl hnj hmj
      go_wp2_with (at_builtin; go_must (refine wp_app_at rfl (.tmp 12) (.tmp 13) _ rfl w.heap.size 5 i0 _ 1 Try.underlying30 hi0 hz0 hz1 hz2 rfl _ mj (bval (joinL Ls j)) rfl hv _ nj _ (bval (Ls j)) rfl hrow (fun _ _ => rfl) Hm.out ?c2 hs ?_))
      case c2 => omega
      intro v' w2 hv2 hg _
      have b2 : Below w.heap.size w w2 := bb.grown hg hs (fun q hq => (hv.lt q hq).1)
      have hv3 : Mine w2 w.heap.size 5 v' (joinL Ls (j + 1)).length (bval (joinL Ls (j + 1))) := by
        rw [joinL, List.length_append, HNJ.out, HMJ.out]
        refine hv2.ext (fun q hq => ?_)
        unfold bval
        by_cases h : q < mj
        · rw [if_pos h, List.getD_eq_getElem?_getD, List.getD_eq_getElem?_getD, List.getElem?_append_left (by rw [HMJ.out]; exact h)]
        · rw [if_neg h, List.getD_eq_getElem?_getD, List.getD_eq_getElem?_getD, List.getElem?_append_right (by rw [HMJ.out]; omega), HMJ.out]
      clear hv hv2 hg c0 hrow
      go_wp2_with fail
      exact ⟨⟨j + 1, _, rfl, by omega, by simp, hv3, b2⟩, by simp [intOf]; omega⟩
    · obtain rfl : j = k := by omega
      have HV := Lib.hid hv
      obtain ⟨a, c, rfl, h1, h2, h3⟩ := hv.row
      obtain ⟨mj, hmj⟩ : ∃ n, (joinL Ls j).length = n := ⟨_, rfl⟩
      have HMJ := Lib.hid hmj
      rw [hmj] at h1 h3 ⊢
      unfold maxLen at h2
      have hn63 : (mj : Int) ≤ 9223372036854775807 := by omega
      have hc63 : (c : Int) ≤ 9223372036854775807 := by omega
      clear hl hmj hR hB hv
      go_wp2_with fail
      go_ret
      exact ⟨.slice a mj c, rfl, by have := HV.out; rw [HMJ.out] at this ⊢; exact this, bb⟩
/-- A row of one's own, where nothing grows. -/
def mineP (v : World) (n : Nat) (V : Nat → Value) (x : Value) (s : Gw v) : Prop := Mine s.toW v.heap.size 5 x n V
theorem mineP_still (v : World) (n : Nat) (V : Nat → Value) (x : Value) (s s' : Gw v) (h : s.still s') (hx : mineP v n V x s) : mineP v n V x s' :=
  hx.kept (fun b _ => by
    rcases Nat.lt_or_ge b s.toW.heap.size with hb | hb
    · exact .inl (h.below.block b hb)
    · exact .inr (fun e => by have := (hx.lt b e).2; omega))
theorem mine_low {w : World} {base base' : Nat} {e : TypeId} {v : Value} {n : Nat} {V : Nat → Value} (h : Mine w base e v n V) (hb : base' ≤ base) : Mine w base' e v n V := by
  obtain ⟨h1, h2⟩ := h
  refine ⟨h1, ?_⟩
  rcases h2 with h2 | ⟨g, cap, cur, hv, hg, r⟩
  · exact .inl h2
  · exact .inr ⟨g, cap, cur, hv, Nat.le_trans hb hg, r⟩
def mineK (v : World) (n : Nat) (V : Nat → Value) : Kd v := .grow (mineP v n V) (mineP_still v n V)
def gHead (g : Gt) : List Int := [71, g.nd, g.cd] ++ b4 g.no ++ [(g.n : Int)]
theorem gHead_len (g : Gt) : (gHead g).length = 8 := by
  unfold gHead
  simp [b4_len]
theorem tri_give (g : Gt) : joinL (fun j => if j = 0 then [71, g.nd, g.cd] else if j = 1 then b4 g.no else [(g.n : Int)]) 3 = gHead g := by
  unfold joinL joinL joinL joinL gHead
  simp
theorem gHead_give (g : Gt) : gHead g ++ cellsB g.L g.n = giveB g := by
  unfold gHead giveB
  simp
set_option maxHeartbeats 4000000 in
theorem rgrant_any (g : Gt) (a : Option Addr) (c : Nat) (w : World) (hnd : nodeB g.nd = true) (hcd : 0 ≤ g.cd ∧ g.cd < 256) (hno : In32 g.no) (h8 : g.n ≤ 8) (hmay : ∀ k, k < g.n → (g.L k).may = true) (hc : g.n ≤ c) (hm : c ≤ maxLen) (hR : Row w a (g.n * 5) (cv g.L)) :
    Calls Try.prog 37 #[.agg (g.vals a c)] w fun r w' => ∃ v, r = .returned v ∧ Mine w' w.heap.size 5 v (giveB g).length (bval (giveB g)) ∧ Below w.heap.size w w' := by
  obtain ⟨nd, cd, no, n, L, tg⟩ := g
  dsimp only at hnd hcd hno h8 hmay hc hR
  have q1 := Own.new w 28 (Gt.vals ⟨nd, cd, no, n, L, tg⟩ a c)
  have b0 := (Below.refl w.heap.size w).alloc (Nat.le_refl _) (.cells (Gt.vals ⟨nd, cd, no, n, L, tg⟩ a c) 28)
  have HTG := Lib.hid (tri_give ⟨nd, cd, no, n, L, tg⟩)
  have hnn := nodeB_iff.1 hnd
  have R1 := hR.below b0
  unfold maxLen at hm
  have hn63 : (n : Int) ≤ 9223372036854775807 := by omega
  have hc63 : (c : Int) ≤ 9223372036854775807 := by omega
  obtain ⟨o0, o1⟩ := hno
  go_enter Try.func37, Try.ntmps37
  go_upto_region 1 with (fail)
  obtain ⟨h, hh⟩ : ∃ h, w.heap.size = h := ⟨_, rfl⟩
  have HH := Lib.hid hh
  rw [hh] at q1 ⊢
  generalize w.alloc (.cells (Gt.vals ⟨nd, cd, no, n, L, tg⟩ a c) 28) = w2 at *
  have c0 : w2.cell? ⟨h, 0, none⟩ = some (.int .i64 nd) := q1.cell 0
  have c1 : w2.cell? ⟨h, 1, none⟩ = some (.int .i64 cd) := q1.cell 1
  have c2 : w2.cell? ⟨h, 2, none⟩ = some (.int .u32 no) := q1.cell 2
  have c3 : w2.cell? ⟨h, 3, none⟩ = some (.slice a n c) := q1.cell 3
  have d0 : ∀ z : Gw w2, z.toW.cell? ⟨h, 0, none⟩ = some (.int .i64 nd) := fun z => (z.ok.cell (lt_of_cell c0)).trans c0
  have d1 : ∀ z : Gw w2, z.toW.cell? ⟨h, 1, none⟩ = some (.int .i64 cd) := fun z => (z.ok.cell (lt_of_cell c1)).trans c1
  have d2 : ∀ z : Gw w2, z.toW.cell? ⟨h, 2, none⟩ = some (.int .u32 no) := fun z => (z.ok.cell (lt_of_cell c2)).trans c2
  have d3 : ∀ z : Gw w2, z.toW.cell? ⟨h, 3, none⟩ = some (.slice a n c) := fun z => (z.ok.cell (lt_of_cell c3)).trans c3
  have u1 : IntKind.u8.wrap nd = nd := by rw [IntKind.wrap_u8]; omega
  have u2 : IntKind.u8.wrap cd = cd := by rw [IntKind.wrap_u8]; omega
  have u3 : IntKind.u64.wrap no = no := by rw [IntKind.wrap_u64]; omega
  have u4 : IntKind.u8.wrap (n : Int) = (n : Int) := by rw [IntKind.wrap_u8]; omega
  clear c0 c1 c2 c3
  refine wp_region_grow w2 (Below.refl _ _) [.is (.pointer (some ⟨h, 0, none⟩)), .is (.int .i64 nd), .is (.int .u8 nd), .is (.pointer (some ⟨h, 1, none⟩)), .is (.int .i64 cd), .is (.int .u8 cd), .rows w2 3 (bval [71, nd, cd]), .is (.pointer (some ⟨h, 2, none⟩)), .is (.int .u32 no), .is (.int .u64 no), .rows w2 4 (bval (b4 no)), .is (.pointer (some ⟨h, 3, none⟩)), .is (.slice a n c), .is (.int .i64 (n : Int)), .is (.int .u8 (n : Int)), .rows w2 1 (bval [(n : Int)]), triK w2 [71, nd, cd] (b4 no) [(n : Int)], mineK w2 8 (bval (gHead ⟨nd, cd, no, n, L, tg⟩)), mineK w2 8 (bval (gHead ⟨nd, cd, no, n, L, tg⟩))] [] (by kernel_rfl) (by kernel_rfl) rfl (by kernel_rfl) ?_
  iterate 6
    refine kd_is (by rfl) (fun z hz K Q hK => ?_) ?_
    · go_big_op
      exact hK _ _ rfl rfl
    simp only [Act.put, List.setIfInBounds_toArray, List.set_cons_zero, List.set_cons_succ]
  refine kd_grow (by rfl) (fun z hz K Q hK => ?_) (fun x6 => ?_)
  · go_big_op
    refine hK _ _ ⟨_, z.to _ ((Below.refl _ _).alloc (Nat.le_refl _) (.cells #[.int .u8 71, .int .u8 nd, .int .u8 cd] 5)), rfl, rfl, z.to_still _ _, some ⟨z.toW.heap.size, 0, none⟩, 3, rfl, Nat.le_refl _, by decide, row_new _ _ _ _ (fun i hi => by rcases (show i = 0 ∨ i = 1 ∨ i = 2 by omega) with rfl | rfl | rfl <;> rfl)⟩
  simp only [Act.put, List.setIfInBounds_toArray, List.set_cons_zero, List.set_cons_succ]
  iterate 3
    refine kd_is (by rfl) (fun z hz K Q hK => ?_) ?_
    · go_big_op
      exact hK _ _ rfl rfl
    simp only [Act.put, List.setIfInBounds_toArray, List.set_cons_zero, List.set_cons_succ]
  refine kd_grow (by rfl) (fun z hz K Q hK => ?_) (fun x10 => ?_)
  · go_big_op
    refine (rb4_any no z.toW o0).mono ?_
    rintro e w3 ⟨a, c, rfl, hB, bb⟩
    exact hK _ _ ⟨_, z.to w3 bb, rfl, rfl, z.to_still w3 bb, a, c, rfl, by have := hB.toBs.le; rwa [b4_len] at this, hB.toBs.cap, by have := hB.toBs.row; rwa [b4_len] at this⟩
  simp only [Act.put, List.setIfInBounds_toArray, List.set_cons_zero, List.set_cons_succ]
  iterate 4
    refine kd_is (by rfl) (fun z hz K Q hK => ?_) ?_
    · go_big_op
      exact hK _ _ rfl rfl
    simp only [Act.put, List.setIfInBounds_toArray, List.set_cons_zero, List.set_cons_succ]
  refine kd_grow (by rfl) (fun z hz K Q hK => ?_) (fun x15 => ?_)
  · go_big_op
    refine hK _ _ ⟨_, z.to _ ((Below.refl _ _).alloc (Nat.le_refl _) (.cells #[.int .u8 (n : Int)] 5)), rfl, rfl, z.to_still _ _, some ⟨z.toW.heap.size, 0, none⟩, 1, rfl, Nat.le_refl _, by decide, row_new _ _ _ _ (fun i hi => by obtain rfl : i = 0 := (by omega); rfl)⟩
  simp only [Act.put, List.setIfInBounds_toArray, List.set_cons_zero, List.set_cons_succ]
  refine kd_grow (by rfl) (fun z hz K Q hK => ?_) (fun x16 => ?_)
  · obtain ⟨a1, c1, rfl, f1, f2, f3⟩ := fact_at hz 6 (rowS w2 3 (bval [71, nd, cd])) x6 (by kernel_rfl) (by kernel_rfl) (by kernel_rfl)
    obtain ⟨a2, c2, rfl, g1, g2, g3⟩ := fact_at hz 10 (rowS w2 4 (bval (b4 no))) x10 (by kernel_rfl) (by kernel_rfl) (by kernel_rfl)
    obtain ⟨a3, c3, rfl, h1, h2, h3⟩ := fact_at hz 15 (rowS w2 1 (bval [(n : Int)])) x15 (by kernel_rfl) (by kernel_rfl) (by kernel_rfl)
    go_big_op
    have ba := (Below.refl z.toW.heap.size z.toW).alloc (Nat.le_refl _) (.cells #[.slice a1 3 c1, .slice a2 4 c2, .slice a3 1 c3] 30)
    refine hK _ _ ⟨_, z.to _ ba, rfl, rfl, z.to_still _ _, ⟨z.toW.heap.size, 0, none⟩, a1, a2, a3, c1, c2, c3, rfl, row_new _ _ _ _ (fun i hi => ?_), Bs.below ⟨f1, f2, f3⟩ ba, Bs.below ⟨by rw [b4_len]; exact g1, g2, by rw [b4_len]; exact g3⟩ ba, Bs.below ⟨h1, h2, h3⟩ ba⟩
    rcases (show i = 0 ∨ i = 1 ∨ i = 2 by omega) with rfl | rfl | rfl
    · simp
    · simp [b4_len]
    · simp
  simp only [Act.put, List.setIfInBounds_toArray, List.set_cons_zero, List.set_cons_succ]
  refine kd_grow (by rfl) (fun z hz K Q hK => ?_) (fun x17 => ?_)
  · obtain ⟨A, a1, a2, a3, c1, c2, c3, rfl, f1, f2, f3, f4⟩ := fact_at hz 16 (triP w2 [71, nd, cd] (b4 no) [(n : Int)]) x16 (by kernel_rfl) (by kernel_rfl) (by kernel_rfl)
    have PJ := rjoin_mine (some A) 3 3 _ _ _ z.toW (by decide) (fun j => by
      split
      · show 3 ≤ 1000
        decide
      · split
        · rw [b4_len]; decide
        · show 1 ≤ 1000
          decide) f1 (fun j hj => by
      rcases (show j = 0 ∨ j = 1 ∨ j = 2 by omega) with rfl | rfl | rfl
      · exact f2
      · exact f3
      · exact f4)
    rw [HTG.out] at PJ
    go_big_op
    refine PJ.mono ?_
    rintro e w3 ⟨v, rfl, hV, bb⟩
    exact hK _ _ ⟨_, z.to w3 bb, rfl, rfl, z.to_still w3 bb, mine_low (by rw [gHead_len] at hV; exact hV) z.ok.size⟩
  simp only [Act.put, List.setIfInBounds_toArray, List.set_cons_zero, List.set_cons_succ]
  refine kd_grow (by rfl) (fun z hz K Q hK => ?_) (fun x18 => ?_)
  · have hy := fact_at hz 17 (mineP w2 8 (bval (gHead ⟨nd, cd, no, n, L, tg⟩))) x17 (by kernel_rfl) (by kernel_rfl) (by kernel_rfl)
    go_big_op
    exact hK _ _ ⟨_, z, rfl, rfl, .refl z, hy⟩
  simp only [Act.put, List.setIfInBounds_toArray, List.set_cons_zero, List.set_cons_succ]
  refine kd_nil (fun z hz => ?_)
  have hV := (show mineP w2 8 (bval (gHead ⟨nd, cd, no, n, L, tg⟩)) x18 z from hz 18 (.of (mineP w2 8 (bval (gHead ⟨nd, cd, no, n, L, tg⟩)))) x18 (by kernel_rfl) (fun i hi => by simp [gKill]))
  obtain ⟨wz, hwz⟩ : ∃ q, z.toW = q := ⟨_, rfl⟩
  have bz := z.ok
  unfold mineP at hV
  rw [hwz] at hV bz ⊢
  have e3 := d3 z
  rw [hwz] at e3
  clear hz hwz d0 d1 d2 d3 u1 u2 u3 u4 q1 HTG hm
  obtain ⟨i0, hi0, hz0, hz1, hz2⟩ := info_parts info8'
  have HMAY := Lib.hid hmay
  obtain ⟨GH, hGH⟩ : ∃ q, gHead ⟨nd, cd, no, n, L, tg⟩ = q := ⟨_, rfl⟩
  have HGH := Lib.hid hGH
  have HGL : Hid (GH.length = 8) := Lib.hid (by rw [← hGH]; exact gHead_len _)
  rw [hGH] at hV
  clear hmay hGH
  have hsw := b0.size
  have bb := b0.trans (bz.mono b0.size)
  have hV := mine_low hV hsw
  rw [HH.out] at hV bb hsw
  have hbz : h ≤ wz.heap.size := by have := bz.size; omega
  have HR0 := Lib.hid hR
  clear bz hR hsw b0 R1
  go_wp2_with fail
  go_loopw [3, 27] (fun u i wr => ∃ (k : Nat) (v : Value), u = v ∧ i = .int .i64 (k : Int) ∧ k ≤ n ∧ Mine wr h 5 v (8 + 5 * k) (bval (GH ++ cellsB L k)) ∧ Below h w wr ∧ h ≤ wr.heap.size) (fun _ i _ => n - (intOf i).toNat)
  case atStart => exact ⟨0, _, rfl, rfl, Nat.zero_le _, by simpa [cellsB] using hV, bb, hbz⟩
  case round =>
    clear hV bb hbz
    obtain ⟨k, v, rfl, rfl, hk, hv, bb, hs⟩ := hrel
    by_cases hlt : k < n
    · obtain ⟨b, off, rfl, hb0, d0, d1, d2, d3, d4⟩ := crow (HR0.out.below (by rw [HH.out]; exact bb)) (Below.refl _ _) hlt
      have hby := may_bytes (HMAY.out k hlt)
      have m0 := hby (L k).f (by simp [cellB])
      have m1 := hby (L k).s (by simp [cellB])
      have m2 := hby (L k).c (by simp [cellB])
      have m3 := hby (L k).o (by simp [cellB])
      have m4 := hby (L k).p (by simp [cellB])
      have hsum : Hid (8 + 5 * k + 5 ≤ maxLen) := Lib.hid (by unfold maxLen; omega)
      obtain ⟨x, hx⟩ : ∃ x, L k = x := ⟨_, rfl⟩
      rw [hx] at d0 d1 d2 d3 d4 m0 m1 m2 m3 m4
      have HX := Lib.hid hx
      obtain ⟨xf, xs, xc, xo, xp⟩ := x
      dsimp only at d0 d1 d2 d3 d4 m0 m1 m2 m3 m4
      have hv2 : Mine ((wr.alloc (.cells #[.int .i64 xf, .int .i64 xs, .int .i64 xc, .int .i64 xo, .int .i64 xp] 62)).alloc (.cells #[.int .u8 xf, .int .u8 xs, .int .u8 xc, .int .u8 xo, .int .u8 xp] 5)) h 5 _ (8 + 5 * k) (bval (GH ++ cellsB L k)) := (hv.alloc _).alloc _
      have b2 := (bb.alloc hs (.cells #[.int .i64 xf, .int .i64 xs, .int .i64 xc, .int .i64 xo, .int .i64 xp] 62)).alloc (by simp; omega) (.cells #[.int .u8 xf, .int .u8 xs, .int .u8 xc, .int .u8 xo, .int .u8 xp] 5)
      have hr2 : Hid (Row ((wr.alloc (.cells #[.int .i64 xf, .int .i64 xs, .int .i64 xc, .int .i64 xo, .int .i64 xp] 62)).alloc (.cells #[.int .u8 xf, .int .u8 xs, .int .u8 xc, .int .u8 xo, .int .u8 xp] 5)) (some ⟨wr.heap.size + 1, 0, none⟩) 5 (bval (cellB ⟨xf, xs, xc, xo, xp⟩))) := Lib.hid (by
        have := row_new (wr.alloc (.cells #[.int .i64 xf, .int .i64 xs, .int .i64 xc, .int .i64 xo, .int .i64 xp] 62)) #[.int .u8 xf, .int .u8 xs, .int .u8 xc, .int .u8 xo, .int .u8 xp] 5 (0, 0) (n := 5) (V := bval (cellB ⟨xf, xs, xc, xo, xp⟩)) (fun i hi => by rcases (show i = 0 ∨ i = 1 ∨ i = 2 ∨ i = 3 ∨ i = 4 by omega) with rfl | rfl | rfl | rfl | rfl <;> rfl)
        rwa [show (wr.alloc (.cells #[.int .i64 xf, .int .i64 xs, .int .i64 xc, .int .i64 xo, .int .i64 xp] 62)).heap.size = wr.heap.size + 1 by simp] at this)
      have hs2 : Hid (h ≤ ((wr.alloc (.cells #[.int .i64 xf, .int .i64 xs, .int .i64 xc, .int .i64 xo, .int .i64 xp] 62)).alloc (.cells #[.int .u8 xf, .int .u8 xs, .int .u8 xc, .int .u8 xo, .int .u8 xp] 5)).heap.size) := Lib.hid (by simp; omega)
      have HB2 := Lib.hid b2
      clear hby hv hx b2
      go_wp2_with (at_builtin; go_must (refine wp_app rfl (.tmp 31) (.tmp 47) _ rfl h 5 i0 _ 1 Try.underlying30 hi0 hz0 hz1 hz2 rfl _ (8 + 5 * k) (bval (GH ++ cellsB L k)) rfl hv2 _ 5 _ (bval (cellB ⟨xf, xs, xc, xo, xp⟩)) rfl hr2.out (fun _ _ => rfl) hsum.out ?c5 hs2.out ?_))
      case c5 => omega
      intro v' w2 hv3 hg
      have b3 := HB2.out.grown hg hs2.out (fun q hq => (hv2.lt q hq).1)
      have hs3 : h ≤ w2.heap.size := Nat.le_trans hs2.out hg.size
      have hv4 : Mine w2 h 5 v' (8 + 5 * (k + 1)) (bval (GH ++ cellsB L (k + 1))) := by
        have hl8 := HGL.out
        have hlen : (GH ++ cellsB L k).length = 8 + 5 * k := by rw [List.length_append, hl8, cellsB_len]
        rw [show 8 + 5 * (k + 1) = 8 + 5 * k + 5 by omega]
        refine hv3.ext (fun q hq => ?_)
        unfold bval
        rw [show GH ++ cellsB L (k + 1) = (GH ++ cellsB L k) ++ cellB ⟨xf, xs, xc, xo, xp⟩ by rw [cellsB, HX.out, List.append_assoc]]
        by_cases h : q < 8 + 5 * k
        · rw [if_pos h, getD_append_left (l := GH ++ cellsB L k) (by omega)]
        · rw [if_neg h, getD_append_right (l := GH ++ cellsB L k) (by omega), hlen]
      clear hv2 hv3 hg HB2 hs2 hr2 d0 d1 d2 d3 d4 m0 m1 m2 m3 m4 hsum e3
      go_wp2_with fail
      exact ⟨⟨k + 1, _, rfl, by simp, by omega, hv4, b3, hs3⟩, by simp [intOf]; omega⟩
    · obtain rfl : k = n := by omega
      have HV := Lib.hid hv
      obtain ⟨a2, c2, rfl, l1, l2, _⟩ := hv.row
      clear hv
      unfold maxLen at l2
      go_wp2_with fail
      go_ret
      have hg1 := gHead_give ⟨nd, cd, no, k, L, tg⟩
      rw [HGH.out] at hg1
      dsimp only at hg1
      refine ⟨_, rfl, ?_, by rw [HH.out]; exact bb⟩
      rw [giveB_len, ← hg1, HH.out]
      exact HV.out
end Go.Proofs.Ytphiohdhgkpgnaa.Jo
set_option maxRecDepth 100000
namespace Go.Proofs.Ytphiohdhgkpgnaa.Jo
set_option linter.unusedVariables false
open Go.RowKit Lb Go.Shelf Bf Se Cl

set_option maxHeartbeats 4000000 in
theorem rgive_any (key : Int) (g : Gt) (a : Option Addr) (c : Nat) (w : World) (hk : 0 ≤ key) (hno : In32 g.no) (hc : g.n ≤ c) (hm : c ≤ maxLen) (hR : Row w a (g.n * 5) (cv g.L)) :
    Calls Try.prog 12 #[.int .u64 key, .agg (g.vals a c)] w fun r w' => ∃ a c, r = .returned (.tuple #[.slice a (giveO key g).length c, .int .i64 (giveC g)]) ∧ Bs w' a c (giveO key g) ∧ Below w.heap.size w w' := by
  obtain ⟨nd, cd, no, n, L, tg⟩ := g
  dsimp only at hno hc hR
  have q1 := Own.new w 28 (Gt.vals ⟨nd, cd, no, n, L, tg⟩ a c)
  have b0 := (Below.refl w.heap.size w).alloc (Nat.le_refl _) (.cells (Gt.vals ⟨nd, cd, no, n, L, tg⟩ a c) 28)
  have PN : ∀ W, Calls Try.prog 36 #[.int .i64 nd] W fun r w' => r = .returned (.bool (nodeB nd)) ∧ W = w' := fun W => rnode_any nd W
  have HNO := Lib.hid (fun h => @give_no key ⟨nd, cd, no, n, L, tg⟩ h)
  have HYES := Lib.hid (fun h => @give_yes key ⟨nd, cd, no, n, L, tg⟩ h)
  have HIFF := Lib.hid (@mayG_iff ⟨nd, cd, no, n, L, tg⟩)
  have hm63 : c ≤ 9223372036854775807 := hm
  have hn63 : (n : Int) ≤ 9223372036854775807 := by omega
  have hc63 : (c : Int) ≤ 9223372036854775807 := by omega
  have HL1 := Lib.hid (give_no (key := key) (g := ⟨nd, cd, no, n, L, tg⟩))
  by_cases h1 : nodeB nd = true
  · rw [h1] at PN
    have H1 := Lib.hid h1
    clear h1
    by_cases h2 : 0 ≤ cd ∧ cd < 256
    · have e1 : decide (cd < 0) = false := by simp; omega
      have e2 : decide (255 < cd) = false := by simp; omega
      have H2 := Lib.hid h2
      go_enter Try.func12, Try.ntmps12
      go_upto_region 1 with (fail)
      have R1 := hR.below b0
      obtain ⟨h, hh⟩ : ∃ h, w.heap.size = h := ⟨_, rfl⟩
      have HH := Lib.hid hh
      rw [hh] at q1 b0 ⊢
      generalize w.alloc (.cells (Gt.vals ⟨nd, cd, no, n, L, tg⟩ a c) 28) = w2 at *
      have c0 : w2.cell? ⟨h, 0, none⟩ = some (.int .i64 nd) := q1.cell 0
      have c1 : w2.cell? ⟨h, 1, none⟩ = some (.int .i64 cd) := q1.cell 1
      have c2 : w2.cell? ⟨h, 2, none⟩ = some (.int .u32 no) := q1.cell 2
      have c3 : w2.cell? ⟨h, 3, none⟩ = some (.slice a n c) := q1.cell 3
      have c4 : w2.cell? ⟨h, 4, none⟩ = some (.int .u32 tg) := q1.cell 4
      have hs2 : h < w2.heap.size := q1.lt
      have HQ := Lib.hid q1
      have PM := Lib.hid (rmaycells_any a n c L w2 hc hm R1)
      clear hh hR q1
      go_wp2_with fail
      refine (PN _).mono ?_
      rintro r w3 ⟨rfl, rfl⟩
      go_wp2_with fail
      refine PM.out.mono ?_
      rintro r w3 ⟨rfl, bb⟩
      have q3 := below_own bb HQ.out HQ.out.lt
      have k0 : w3.cell? ⟨h, 0, none⟩ = some (.int .i64 nd) := q3.cell 0
      have k1 : w3.cell? ⟨h, 1, none⟩ = some (.int .i64 cd) := q3.cell 1
      have k2 : w3.cell? ⟨h, 2, none⟩ = some (.int .u32 no) := q3.cell 2
      have k3 : w3.cell? ⟨h, 3, none⟩ = some (.slice a n c) := q3.cell 3
      have k4 : w3.cell? ⟨h, 4, none⟩ = some (.int .u32 tg) := q3.cell 4
      have HR3 := Lib.hid (R1.below bb)
      have HB3 := Lib.hid (b0.trans (bb.mono (Nat.le_of_lt hs2)))
      clear c0 c1 c2 c3 c4 b0 R1 bb q3
      cases h3 : mayL L n with
      | false =>
        have hno : mayG ⟨nd, cd, no, n, L, tg⟩ = false := by unfold mayG; dsimp only; rw [h3]; simp
        have HG := Lib.hid (HNO.out hno)
        clear h3 hno
        go_wp2_with fail
        go_ret2
        exact ⟨none, 0, by rw [HG.out.1, HG.out.2]; rfl, by rw [HG.out.1]; exact ⟨Nat.le_refl _, by decide, Row.nil _ _ _⟩, by rw [HH.out]; exact HB3.out⟩
      | true =>
        have hyes : mayG ⟨nd, cd, no, n, L, tg⟩ = true := HIFF.out.2 ⟨H1.out, H2.out, (mayL_iff.1 h3).1, (mayL_iff.1 h3).2⟩
        have HG := Lib.hid (HYES.out hyes)
        have PG := Lib.hid (rgrant_any ⟨nd, cd, no, n, L, tg⟩ a c w3 H1.out H2.out ‹In32 no› (mayL_iff.1 h3).1 (mayL_iff.1 h3).2 hc hm HR3.out)
        have HBK := Lib.hid (giveB_ok (p := ⟨nd, cd, no, n, L, tg⟩) H1.out H2.out (mayL_iff.1 h3).1 (mayL_iff.1 h3).2)
        have h8 : n ≤ 8 := (mayL_iff.1 h3).1
        have HGL : Hid ((giveB ⟨nd, cd, no, n, L, tg⟩).length ≤ 1000) := Lib.hid (by rw [giveB_len]; dsimp only; omega)
        clear h3 hyes
        go_wp2_with fail
        refine PG.out.mono ?_
        rintro r w4 ⟨v, rfl, hv, b4⟩
        obtain ⟨ga, gc, rfl, g1, g2, g3⟩ := hv.row
        have PT := Lib.hid (rtagged_any key ga gc (giveB ⟨nd, cd, no, n, L, tg⟩) w4 hk HGL.out ⟨g1, g2, g3⟩ HBK.out)
        have HB4 := Lib.hid (HB3.out.trans (b4.mono (by rw [← HH.out]; exact HB3.out.size)))
        have hs4 : h ≤ w4.heap.size := by have := HB4.out.size; rw [HH.out] at this; exact this
        clear hv g3 b4 PG HBK HGL
        generalize (giveB ⟨nd, cd, no, n, L, tg⟩).length = gl at *
        go_wp2_with fail
        refine PT.out.mono ?_
        rintro r w5 ⟨sa, sc, rfl, hB, b5⟩
        have HB5 := Lib.hid (HB4.out.trans (b5.mono hs4))
        have HS := Lib.hid hB.toBs
        clear hB b5 PT
        obtain ⟨sl, hsl⟩ : ∃ m, (sealL key (giveB ⟨nd, cd, no, n, L, tg⟩)).length = m := ⟨_, rfl⟩
        have HSL := Lib.hid hsl
        rw [hsl]
        clear hsl
        go_wp2_with fail
        go_ret2
        exact ⟨sa, sc, by rw [HG.out.1, HG.out.2, HSL.out]; rfl, by rw [HG.out.1]; exact HS.out, by rw [HH.out]; exact HB5.out⟩
    · have e0 : (decide (cd < 0) = true) ∨ (decide (cd < 0) = false ∧ decide (255 < cd) = true) := by
        by_cases h : cd < 0
        · exact .inl (decide_eq_true h)
        · exact .inr ⟨decide_eq_false h, decide_eq_true (by omega)⟩
      have hno' : mayG ⟨nd, cd, no, n, L, tg⟩ = false := by unfold mayG; dsimp only; rw [show decide (0 ≤ cd ∧ cd < 256) = false by simpa using h2]; simp
      have HG := Lib.hid (HNO.out hno')
      clear h2 hno' HIFF HYES HNO HL1 hno
      rcases e0 with e1 | ⟨e1, e2⟩
      all_goals
        go_enter Try.func12, Try.ntmps12
        go_upto_region 1 with (fail)
        obtain ⟨h, hh⟩ : ∃ h, w.heap.size = h := ⟨_, rfl⟩
        have HH := Lib.hid hh
        rw [hh] at q1 b0 ⊢
        generalize w.alloc (.cells (Gt.vals ⟨nd, cd, no, n, L, tg⟩ a c) 28) = w2 at *
        have c0 : w2.cell? ⟨h, 0, none⟩ = some (.int .i64 nd) := q1.cell 0
        have c1 : w2.cell? ⟨h, 1, none⟩ = some (.int .i64 cd) := q1.cell 1
        have HB := Lib.hid b0
        clear hh hR q1 b0
        go_wp2_with fail
        refine (PN _).mono ?_
        rintro r w3 ⟨rfl, rfl⟩
        go_wp2_with fail
        go_ret2
        exact ⟨none, 0, by rw [HG.out.1, HG.out.2]; rfl, by rw [HG.out.1]; exact ⟨Nat.le_refl _, by decide, Row.nil _ _ _⟩, by rw [HH.out]; exact HB.out⟩
  · have h1 : nodeB nd = false := by simpa using h1
    have hno' : mayG ⟨nd, cd, no, n, L, tg⟩ = false := by unfold mayG; dsimp only; rw [h1]; simp
    have HG := Lib.hid (HNO.out hno')
    rw [h1] at PN
    clear h1 hno' HIFF HYES HNO HL1 hno
    go_enter Try.func12, Try.ntmps12
    go_upto_region 1 with (fail)
    obtain ⟨h, hh⟩ : ∃ h, w.heap.size = h := ⟨_, rfl⟩
    have HH := Lib.hid hh
    rw [hh] at q1 b0 ⊢
    generalize w.alloc (.cells (Gt.vals ⟨nd, cd, no, n, L, tg⟩ a c) 28) = w2 at *
    have c0 : w2.cell? ⟨h, 0, none⟩ = some (.int .i64 nd) := q1.cell 0
    have HB := Lib.hid b0
    clear hh hR q1 b0
    go_wp2_with fail
    refine (PN _).mono ?_
    rintro r w3 ⟨rfl, rfl⟩
    go_wp2_with fail
    go_ret2
    exact ⟨none, 0, by rw [HG.out.1, HG.out.2]; rfl, by rw [HG.out.1]; exact ⟨Nat.le_refl _, by decide, Row.nil _ _ _⟩, by rw [HH.out]; exact HB.out⟩
end Go.Proofs.Ytphiohdhgkpgnaa.Jo
set_option maxRecDepth 100000
namespace Go.Proofs.Ytphiohdhgkpgnaa.Jo
set_option linter.unusedVariables false
open Go.RowKit Lb Go.Shelf Bf Se Cl

theorem rend_any (lo b : Nat) (l : List Int) (err : Int) (w : World) (h : Rdq w lo b l err) (he : err = 0 ∨ err = 2) :
    Calls Try.prog 43 #[.pointer (some ⟨b, 0, none⟩)] w fun r w' => r = .returned (.int .i64 (if err ≠ 0 then err else if 0 < l.length then 3 else 0)) ∧ w = w' := by
  obtain ⟨a, c, h1, h2, h3, h4, h5⟩ := h
  unfold maxLen at h3
  obtain ⟨len, hlen⟩ : ∃ len, l.length = len := ⟨_, rfl⟩
  rw [hlen] at h1 h2 ⊢
  have c0 : w.cell? ⟨b, 0, none⟩ = some (.slice a len c) := h1.cell 0
  have c1 : w.cell? ⟨b, 1, none⟩ = some (.int .i64 err) := h1.cell 1
  have hl63 : (len : Int) ≤ 9223372036854775807 := by omega
  clear h4 hlen h1
  rcases he with rfl | rfl
  · by_cases h0 : 0 < len
    · have e0 : decide ((0 : Int) < (len : Int)) = true := by simp; omega
      have e1 : decide (0 < len) = true := by simp; omega
      go_enter Try.func43, Try.ntmps43
      go_wp2_with fail
      go_ret
      exact ⟨rfl, rfl⟩
    · obtain rfl : len = 0 := by omega
      go_enter Try.func43, Try.ntmps43
      go_wp2_with fail
      go_ret
      exact ⟨rfl, rfl⟩
  · go_enter Try.func43, Try.ntmps43
    go_wp2_with fail
    go_ret
    exact ⟨rfl, rfl⟩
theorem er_two (l : List Int) (k : Nat) : er l k 0 = 0 ∨ er l k 0 = 2 := by
  by_cases h : l.length < k
  · exact .inr (er_no h)
  · exact .inl (er_yes (by omega))
theorem badQ_lft {l : List Int} {k n : Nat} (hn : 0 < n) (h : l.length < k + n) : badQ (lft l k) (er l k 0) n := by
  by_cases h1 : l.length < k
  · exact .inl (by rw [er_no h1]; decide)
  · right
    rw [lft_yes (by omega), List.length_drop]
    omega
theorem lft_short {l : List Int} {k : Nat} (h : l.length < k + 1) : (lft l k).getD 0 0 = 0 := by
  by_cases h1 : l.length < k
  · rw [lft_no h1]; rfl
  · rw [lft_yes (by omega), getD_drop, List.getD_eq_getElem?_getD, List.getElem?_eq_none (by omega)]
    rfl
/-- The reader, k bytes on. -/
def Rdk (w : World) (b : Nat) (l : List Int) (k : Nat) : Prop := Rdq w 0 b (lft l k) (er l k 0)
theorem rdk_u8 (b : Nat) (l : List Int) (k : Nat) (w : World) (h : Rdk w b l k) (hB : okB l) :
    Calls Try.prog 40 #[.pointer (some ⟨b, 0, none⟩)] w fun r w' => r = .returned (.int .i64 ((lft l k).getD 0 0)) ∧ Rdk w' b l (k + 1) ∧ Just b w w' := by
  unfold Rdk at *
  by_cases hs : l.length < k + 1
  · rw [lft_short hs, lft_no hs, er_no hs]
    exact ru8_bad 0 b _ _ w h (badQ_lft (by decide) hs)
  · rw [er_yes (by omega)] at h ⊢
    rw [lft_yes (by omega)] at h ⊢
    rw [lft_yes (show k + 1 ≤ l.length by omega)]
    have e : l.drop k = l.getD k 0 :: l.drop (k + 1) := by
      rw [List.drop_eq_getElem_cons (show k < l.length by omega), List.getD_eq_getElem?_getD, List.getElem?_eq_getElem (show k < l.length by omega)]
      rfl
    rw [e] at h ⊢
    have := ru8_ok 0 b _ _ w h (by rw [← e]; exact okB_drop hB k)
    exact this
theorem rdk_num (b : Nat) (l : List Int) (k : Nat) (w : World) (h : Rdk w b l k) (hB : okB l) :
    Calls Try.prog 39 #[.pointer (some ⟨b, 0, none⟩), .int .i64 4] w fun r w' => r = .returned (.int .u64 (m4 (lft l k))) ∧ Rdk w' b l (k + 4) ∧ Just b w w' := by
  unfold Rdk at *
  by_cases hs : l.length < k + 4
  · have e : m4 (lft l k) = 0 := by
      unfold m4
      rw [if_pos]
      by_cases h1 : l.length < k
      · rw [lft_no h1]; decide
      · rw [lft_yes (by omega), List.length_drop]; omega
    rw [e, lft_no hs, er_no hs]
    exact num_bad 0 b _ _ 4 w h (badQ_lft (by decide) hs) (by decide)
  · rw [er_yes (by omega)] at h ⊢
    rw [m4_lft (by omega), lft_yes (show k + 4 ≤ l.length by omega)]
    rw [lft_yes (by omega)] at h
    have := num_ok 0 b (l.drop k) 4 w h (okB_drop hB k) (by rw [List.length_drop]; omega) (by decide)
    rw [numB_four (by rw [List.length_drop]; omega), n4_drop, List.drop_drop] at this
    exact this
theorem rdk_raw_bad (b : Nat) (l : List Int) (k : Nat) (w : World) (h : Rdk w b l k) (hs : l.length < k + 5) :
    Calls Try.prog 41 #[.pointer (some ⟨b, 0, none⟩), .int .i64 5] w fun r w' => r = .returned (.slice none 0 0) ∧ Rdk w' b l (k + 5) ∧ Just b w w' := by
  unfold Rdk at *
  rw [lft_no hs, er_no hs]
  exact raw_bad 0 b _ _ 5 w h (badQ_lft (by decide) hs) (by decide)
theorem rdk_raw (b : Nat) (l : List Int) (k : Nat) (w : World) (h : Rdk w b l k) (hs : ¬ l.length < k + 5) :
    Calls Try.prog 41 #[.pointer (some ⟨b, 0, none⟩), .int .i64 5] w fun r w' => ∃ a c, r = .returned (.slice a 5 c) ∧ 5 ≤ c ∧ c ≤ maxLen ∧ Row w' a 5 (bval (l.drop k)) ∧ Rdk w' b l (k + 5) ∧ Just b w w' := by
  unfold Rdk at *
  rw [er_yes (by omega)] at h ⊢
  rw [lft_yes (by omega)] at h
  rw [lft_yes (by omega)]
  refine (raw_ok 0 b (l.drop k) 5 w h (by rw [List.length_drop]; omega) (by decide)).mono ?_
  rintro r w' ⟨v, rfl, hm, h2, j⟩
  obtain ⟨a, c, rfl, h3, h4, h5⟩ := hm.row
  rw [List.drop_drop] at h2
  exact ⟨a, c, rfl, h3, h4, fun h0 => by
    obtain ⟨b1, o1, e1, e2, e3⟩ := h5 h0
    exact ⟨b1, o1, e1, e2, fun i hi => by rw [e3 i hi]; unfold bval; rw [tk_get hi]⟩, h2, j⟩
theorem rdk_end (b : Nat) (l : List Int) (k : Nat) (w : World) (h : Rdk w b l k) :
    Calls Try.prog 43 #[.pointer (some ⟨b, 0, none⟩)] w fun r w' => r = .returned (.int .i64 (if l.length < k then 2 else if l.length ≠ k then 3 else 0)) ∧ w = w' := by
  unfold Rdk at h
  have := rend_any 0 b _ _ w h (er_two l k)
  refine this.mono ?_
  rintro r w' ⟨rfl, e⟩
  refine ⟨?_, e⟩
  by_cases hs : l.length < k
  · rw [er_no hs, if_pos (by decide), if_pos hs]
  · rw [er_yes (by omega), if_neg (by decide), if_neg hs, lft_yes (by omega), List.length_drop]
    by_cases h2 : l.length = k
    · rw [if_neg (by omega), if_neg (by omega)]
    · rw [if_pos (by omega), if_pos h2]
def Z5 : Array Value := #[.int .i64 0, .int .i64 0, .int .u32 0, .slice none 0 0, .int .u32 0]
/-- Given's memory, k bytes on. -/
structure GvS (l : List Int) (w : World) (h k : Nat) (W : World) : Prop where
  hs : w.heap.size = h
  o2 : Own W h 28 Z5
  o4 : Own W (h + 1) 28 Z5
  rd : Rdk W (h + 2) l k
  bb : Below h w W
section
variable {l : List Int} {w W W' : World} {h k : Nat}
theorem GvS.lt (S : GvS l w h k W) : h + 2 < W.heap.size := by
  obtain ⟨a, c, h1, _⟩ := S.rd
  exact h1.lt
theorem GvS.le (S : GvS l w h k W) : h ≤ W.heap.size := by have := S.lt; omega
theorem GvS.read (S : GvS l w h k W) {k' : Nat} (hr : Rdk W' (h + 2) l k') (j : Just (h + 2) W W') : GvS l w h k' W' :=
  ⟨S.hs, j.own S.o2 (by omega), j.own S.o4 (by omega), hr, j.below S.bb (by omega) S.le⟩
theorem Rdk.lt {b : Nat} (h : Rdk W b l k) : b < W.heap.size := by
  obtain ⟨a, c, h1, _⟩ := h
  exact h1.lt
/-- Blocks from h + 3 on may turn. -/
theorem GvS.high (S : GvS l w h k W) {B : Nat} (j : Below B W W') (hB : h + 2 < B) : GvS l w h k W' :=
  ⟨S.hs, below_own j S.o2 (by omega), below_own j S.o4 (by omega), Rdq.kept S.rd j hB, S.bb.trans (j.mono (by omega))⟩
theorem GvS.alloc (S : GvS l w h k W) (o : Obj) : GvS l w h k (W.alloc o) := S.high (B := W.heap.size) ((Below.refl _ _).alloc (Nat.le_refl _) o) S.lt
theorem GvS.err (S : GvS l w h k W) : W.cell? ⟨h + 2, 1, none⟩ = some (.int .i64 (er l k 0)) := by
  obtain ⟨a, c, h1, _⟩ := S.rd
  exact h1.cell 1
theorem Rdk.err {b : Nat} (S : Rdk W b l k) : W.cell? ⟨b, 1, none⟩ = some (.int .i64 (er l k 0)) := by
  obtain ⟨a, c, h1, _⟩ := S
  exact h1.cell 1
theorem GvS.setHigh (S : GvS l w h k W) {g : Nat} (hg : h + 2 < g) (i : Nat) (v : Value) : GvS l w h k (W.setCell ⟨g, i, none⟩ v) :=
  S.high (B := h + 3) ((Just.set g W i v).below (Below.refl (h + 3) W) (by omega) (by have := S.lt; omega)) (by omega)
theorem gvs_start (a : Option Addr) (c : Nat) (l : List Int) (w : World) (hR : Bs w a c l) :
    GvS l w w.heap.size 0 (((w.alloc (.cells Z5 28)).alloc (.cells Z5 28)).alloc (.cells #[.slice a l.length c, .int .i64 0] 82)) := by
  have ba := (((Below.refl w.heap.size w).alloc (Nat.le_refl _) (.cells Z5 28)).alloc (by simp) (.cells Z5 28)).alloc (by simp; omega) (.cells #[.slice a l.length c, .int .i64 0] 82)
  have o3 := Own.new ((w.alloc (.cells Z5 28)).alloc (.cells Z5 28)) 82 #[.slice a l.length c, .int .i64 0]
  have o2 := Own.new (w.alloc (.cells Z5 28)) 28 Z5
  have e1 : (w.alloc (.cells Z5 28)).heap.size = w.heap.size + 1 := by simp
  have e2 : ((w.alloc (.cells Z5 28)).alloc (.cells Z5 28)).heap.size = w.heap.size + 2 := by simp
  have o1 := Own.new w 28 Z5
  rw [e1] at o2
  rw [e2] at o3
  refine ⟨rfl, (o1.alloc _).alloc _, o2.alloc _, ?_, ba⟩
  unfold Rdk
  rw [lft_zero, er_zero]
  refine ⟨a, c, o3, hR.le, hR.cap, (hR.below ba).row, fun p hp h0 => ⟨Nat.zero_le _, ?_⟩⟩
  obtain ⟨b1, o1', e3, e4, _⟩ := hR.row h0
  rw [hp] at e3
  injection e3 with e3
  rw [e3]
  show b1 < w.heap.size + 2
  omega
/-- The result stored: own, below. -/
theorem GvS.put (S : GvS l w h k W) (x0 x1 x2 x3 x4 : Value) : Own (((((W.setCell ⟨h, 0, none⟩ x0).setCell ⟨h, 1, none⟩ x1).setCell ⟨h, 2, none⟩ x2).setCell ⟨h, 3, none⟩ x3).setCell ⟨h, 4, none⟩ x4) h 28 #[x0, x1, x2, x3, x4] ∧ Just h W (((((W.setCell ⟨h, 0, none⟩ x0).setCell ⟨h, 1, none⟩ x1).setCell ⟨h, 2, none⟩ x2).setCell ⟨h, 3, none⟩ x3).setCell ⟨h, 4, none⟩ x4) :=
  ⟨((((S.o2.put 0 x0).put 1 x1).put 2 x2).put 3 x3).put 4 x4, (((((Just.refl h W).put 0 x0).put 1 x1).put 2 x2).put 3 x3).put 4 x4⟩
end
end Go.Proofs.Ytphiohdhgkpgnaa.Jo
set_option maxRecDepth 100000
namespace Go.Proofs.Ytphiohdhgkpgnaa.Jo
set_option linter.unusedVariables false
open Go.RowKit Lb Go.Shelf Bf Se Cl

theorem giveE_short {l : List Int} (h : l.length < 8) (h1 : 1 ≤ l.length → l.getD 0 0 = 71) (h2 : 2 ≤ l.length → nodeB (l.getD 1 0) = true) : giveE l = 2 := by
  unfold giveE
  by_cases a : l.length < 1
  · rw [if_pos a]
  · rw [if_neg a, if_neg (by rw [h1 (by omega)]; decide)]
    by_cases b : l.length < 2
    · rw [if_pos b]
    · rw [if_neg b, if_neg (by rw [h2 (by omega)]; decide)]
      unfold give2
      rw [if_pos (by rw [List.length_drop]; omega)]
theorem giveR_err {l : List Int} {e : Int} (h : giveE l = e) (he : e ≠ 0) : giveR l = giveN := if_neg (by rw [h]; exact he)
theorem gnp_err {l : List Int} {e : Int} {base : Nat} {w : World} (h : giveE l = e) (he : e ≠ 0) : GnP base l (.returned (.tuple #[.agg Z5, .int .i64 e])) w :=
  ⟨none, 0, by rw [giveR_err h he, h]; rfl, by rw [giveR_err h he]; exact Nat.le_refl _, by decide, by rw [giveR_err h he]; exact Row.nil _ _ _, fun p hp => by cases hp⟩
set_option maxHeartbeats 4000000 in
theorem rgiven_short (a : Option Addr) (c : Nat) (l : List Int) (w : World) (hl : l.length < 8) (h1 : 1 ≤ l.length → l.getD 0 0 = 71) (h2 : 2 ≤ l.length → nodeB (l.getD 1 0) = true) (hR : Bs w a c l) (hB : okB l) :
    Calls Try.prog 17 #[.slice a l.length c] w fun r w' => GnP w.heap.size l r w' ∧ Below w.heap.size w w' := by
  have HE := Lib.hid (giveE_short hl h1 h2)
  have HOB := Lib.hid hB
  have T : (er l 1 0 = 2 ∧ er l 2 0 = 2) ∨ (er l 1 0 = 0 ∧ (lft l 0).getD 0 0 = 71 ∧ er l 2 0 = 2) ∨ (er l 1 0 = 0 ∧ (lft l 0).getD 0 0 = 71 ∧ er l 2 0 = 0 ∧ nodeB ((lft l 1).getD 0 0) = true) := by
    by_cases a1 : l.length < 1
    · exact .inl ⟨er_no a1, er_no (by omega)⟩
    · by_cases a2 : l.length < 2
      · exact .inr (.inl ⟨er_yes (by omega), by rw [lft_getD (by omega)]; exact h1 (by omega), er_no a2⟩)
      · exact .inr (.inr ⟨er_yes (by omega), by rw [lft_getD (by omega)]; exact h1 (by omega), er_yes (by omega), by rw [lft_getD (by omega)]; exact h2 (by omega)⟩)
  have e8 : er l 8 0 = 2 := er_no hl
  have e12 : Hid (l.length < 8 + 4) := Lib.hid (by omega)
  have eN : (lft l 7).getD 0 0 = 0 := lft_short hl
  have S0 := gvs_start a c l w hR
  unfold Z5 at S0
  obtain ⟨x0, hx0⟩ : ∃ x, (lft l 0).getD 0 0 = x := ⟨_, rfl⟩
  obtain ⟨v1, hv1⟩ : ∃ x, (lft l 1).getD 0 0 = x := ⟨_, rfl⟩
  obtain ⟨h, hh⟩ : ∃ h, w.heap.size = h := ⟨_, rfl⟩
  rw [hx0, hv1] at T
  rw [hh] at S0
  have HH := Lib.hid hh
  have HX0 := Lib.hid hx0
  have HV1 := Lib.hid hv1
  have HEN := Lib.hid eN
  have E8 := Lib.hid e8
  have PN : ∀ W, Calls Try.prog 36 #[.int .i64 v1] W fun r w' => r = .returned (.bool (nodeB v1)) ∧ W = w' := fun W => rnode_any v1 W
  have k0 : ∀ {W : World} {cs : Array Value} {t : TypeId} {b : Nat}, Own W b t cs → ∀ i, W.cell? ⟨b, i, none⟩ = cs[i]? := fun o i => o.cell i
  obtain ⟨n, hn⟩ : ∃ n, l.length = n := ⟨_, rfl⟩
  have HN := Lib.hid hn
  rw [hn] at S0 ⊢
  clear hn
  clear hx0 hv1 eN e8 h1 h2 hR hB hl
  rcases T with ⟨e1, e2⟩ | ⟨e1, e0, e2⟩ | ⟨e1, e0, e2, ev⟩
  all_goals
    have E1 := Lib.hid e1
    have E2 := Lib.hid e2
    clear e1 e2
    go_enter Try.func17, Try.ntmps17
    go_upto_region 3 with (fail)
    generalize ((w.alloc (.cells #[.int .i64 0, .int .i64 0, .int .u32 0, .slice none 0 0, .int .u32 0] 28)).alloc (.cells #[.int .i64 0, .int .i64 0, .int .u32 0, .slice none 0 0, .int .u32 0] 28)).alloc (.cells #[.slice a n c, .int .i64 0] 82) = w0 at *
    go_wp2_with fail
    refine (rdk_u8 (h + 2) l 0 w0 S0.rd HOB.out).mono ?_
    rintro r w1 ⟨rfl, r1, j1⟩
    have S1 := S0.read r1 j1
    rw [HX0.out]
    have c1 := S1.err
    rw [E1.out] at c1
    clear S0 r1 j1
    go_wp2_with fail
    refine (rdk_u8 (h + 2) l 1 w1 S1.rd HOB.out).mono ?_
    rintro r w2 ⟨rfl, r2, j2⟩
    have S2 := S1.read r2 j2
    rw [HV1.out]
    have b2 := (Below.refl w2.heap.size w2).alloc (Nat.le_refl _) (.cells #[.int .i64 v1, .int .i64 0, .int .u32 0, .slice none 0 0, .int .u32 0] 28)
    have og := Own.new w2 28 #[.int .i64 v1, .int .i64 0, .int .u32 0, .slice none 0 0, .int .u32 0]
    have S3 := S2.alloc (.cells #[.int .i64 v1, .int .i64 0, .int .u32 0, .slice none 0 0, .int .u32 0] 28)
    have hg := S2.lt
    clear S1 S2 r2 j2 c1 b2
    go_upto_region 7 with (fail)
    obtain ⟨g, hgg⟩ : ∃ g, w2.heap.size = g := ⟨_, rfl⟩
    rw [hgg] at og hg ⊢
    generalize w2.alloc (.cells #[.int .i64 v1, .int .i64 0, .int .u32 0, .slice none 0 0, .int .u32 0] 28) = w3 at *
    clear hgg
    have c1 := S3.err
    rw [E2.out] at c1
    have d0 := og.cell 0
    go_wp2_with (first | (go_at_call 36; refine (PN _).mono ?_; rintro r w4 ⟨rfl, rfl⟩) | fail)
    refine (rdk_u8 (h + 2) l 2 w3 S3.rd HOB.out).mono ?_
    rintro r w4 ⟨rfl, r4, j4⟩
    have S4 := (S3.read r4 j4).setHigh hg 1 (.int .i64 ((lft l 2).getD 0 0))
    have og4 := (j4.own og (Nat.ne_of_gt hg)).put 1 (.int .i64 ((lft l 2).getD 0 0))
    have f1 := (j4.own og (Nat.ne_of_gt hg)).free 1
    have x1 := (j4.own og (Nat.ne_of_gt hg)).cell 1
    generalize (lft l 2).getD 0 0 = cd at *
    clear S3 r4 j4 c1 d0 og
    go_upto_region 10 with (fail)
    generalize w4.setCell ⟨g, 1, none⟩ (.int .i64 cd) = w5 at *
    clear f1 x1
    go_wp2_with fail
    refine (rdk_num (h + 2) l 3 w5 S4.rd HOB.out).mono ?_
    rintro r w6 ⟨rfl, r6, j6⟩
    obtain ⟨no, hno⟩ : ∃ no, IntKind.u32.wrap (m4 (lft l 3)) = no := ⟨_, rfl⟩
    have og5 := (j6.own og4 (Nat.ne_of_gt hg)).put 2 (.int .u32 no)
    have S5 := (S4.read r6 j6).setHigh hg 2 (.int .u32 no)
    have f1 := (j6.own og4 (Nat.ne_of_gt hg)).free 2
    have x1 := (j6.own og4 (Nat.ne_of_gt hg)).cell 2
    clear S4 og4 r6 j6
    go_upto_region 11 with (fail)
    generalize w6.setCell ⟨g, 2, none⟩ (.int .u32 no) = w7 at *
    clear f1 x1 hno
    go_wp2_with fail
    refine (rdk_u8 (h + 2) l 7 w7 S5.rd HOB.out).mono ?_
    rintro r w8 ⟨rfl, r8, j8⟩
    have S8 := S5.read r8 j8
    have og8 := j8.own og5 (Nat.ne_of_gt hg)
    have c1 := S8.err
    rw [E8.out] at c1
    rw [HEN.out]
    clear S5 og5 r8 j8
    go_wp2_with fail
    go_loopw [63] (fun i wr => i = .int .i64 0 ∧ w8 = wr) (fun _ _ => 0)
    case atStart => exact ⟨rfl, rfl⟩
    case round =>
      obtain ⟨rfl, rfl⟩ := hrel
      go_wp2_with fail
      refine (rdk_num (h + 2) l 8 w8 S8.rd HOB.out).mono ?_
      rintro r w9 ⟨rfl, r9, j9⟩
      obtain ⟨tg, htg⟩ : ∃ no, IntKind.u32.wrap (m4 (lft l 8)) = no := ⟨_, rfl⟩
      have S9 := (S8.read r9 j9).setHigh hg 4 (.int .u32 tg)
      have f1 := (j9.own og8 (Nat.ne_of_gt hg)).free 4
      have x1 := (j9.own og8 (Nat.ne_of_gt hg)).cell 4
      clear S8 og8 r9 j9 c1
      go_upto_region 24 with (fail)
      generalize w9.setCell ⟨g, 4, none⟩ (.int .u32 tg) = w10 at *
      clear f1 x1 htg
      go_wp2_with fail
      refine (rdk_end (h + 2) l 12 w10 S9.rd).mono ?_
      rintro r w11 ⟨rfl, rfl⟩
      rw [if_pos (show l.length < 12 from e12.out)]
      have oo4 := S9.o4
      have oo2 := S9.o2
      unfold Z5 at oo4 oo2
      have y0 := oo4.cell 0
      have y1 := oo4.cell 1
      have y2 := oo4.cell 2
      have y3 := oo4.cell 3
      have y4 := oo4.cell 4
      have z0 := oo2.cell 0
      have z1 := oo2.cell 1
      have z2 := oo2.cell 2
      have z3 := oo2.cell 3
      have z4 := oo2.cell 4
      have q0 := oo2.free 0
      have q1 := oo2.free 1
      have q2 := oo2.free 2
      have q3 := oo2.free 3
      have q4 := oo2.free 4
      have HP := Lib.hid (S9.put (.int .i64 0) (.int .i64 0) (.int .u32 0) (.slice none 0 0) (.int .u32 0))
      have HB := Lib.hid S9.bb
      have HL := Lib.hid S9.le
      clear S9 oo2 oo4
      go_wp2_with fail
      refine bodyPost_ret (results_row_tmp rfl _ _ h 28 _ (0, 0) _ rfl HP.out.1 Try.underlying28 rfl (by kernel_rfl)) rfl ⟨?_, by rw [HH.out]; exact HP.out.2.below HB.out (Nat.le_refl _) HL.out⟩
      exact gnp_err HE.out (by decide)
end Go.Proofs.Ytphiohdhgkpgnaa.Jo
set_option maxRecDepth 100000
namespace Go.Proofs.Ytphiohdhgkpgnaa.Jo
set_option linter.unusedVariables false
open Go.RowKit Lb Go.Shelf Bf Se Cl

set_option maxHeartbeats 4000000 in
theorem rgiven_mark (a : Option Addr) (c : Nat) (l : List Int) (w : World) (h1 : 1 ≤ l.length) (h2 : l.getD 0 0 ≠ 71) (hR : Bs w a c l) (hB : okB l) :
    Calls Try.prog 17 #[.slice a l.length c] w fun r w' => GnP w.heap.size l r w' ∧ Below w.heap.size w w' := by
  have HE : Hid (giveE l = 3) := Lib.hid (by unfold giveE; rw [if_neg (by omega), if_pos h2])
  have HOB := Lib.hid hB
  have S0 := gvs_start a c l w hR
  unfold Z5 at S0
  obtain ⟨x0, hx0⟩ : ∃ x, (lft l 0).getD 0 0 = x := ⟨_, rfl⟩
  obtain ⟨v1, hv1⟩ : ∃ x, (lft l 1).getD 0 0 = x := ⟨_, rfl⟩
  obtain ⟨h, hh⟩ : ∃ h, w.heap.size = h := ⟨_, rfl⟩
  rw [hh] at S0
  have HH := Lib.hid hh
  have HX0 := Lib.hid hx0
  have HV1 := Lib.hid hv1
  have PN : ∀ W, Calls Try.prog 36 #[.int .i64 v1] W fun r w' => r = .returned (.bool (nodeB v1)) ∧ W = w' := fun W => rnode_any v1 W
  obtain ⟨n, hn⟩ : ∃ n, l.length = n := ⟨_, rfl⟩
  have HN := Lib.hid hn
  have E1 : Hid (er l 1 0 = 0) := Lib.hid (er_yes h1)
  have e0 : (x0 != 71) = true := by rw [← hx0, lft_getD (by omega)]; simpa using h2
  rw [hn] at S0 ⊢
  clear hn hx0 hv1 h1 h2 hR hB
  go_enter Try.func17, Try.ntmps17
  go_upto_region 3 with (fail)
  generalize ((w.alloc (.cells #[.int .i64 0, .int .i64 0, .int .u32 0, .slice none 0 0, .int .u32 0] 28)).alloc (.cells #[.int .i64 0, .int .i64 0, .int .u32 0, .slice none 0 0, .int .u32 0] 28)).alloc (.cells #[.slice a n c, .int .i64 0] 82) = w0 at *
  go_wp2_with fail
  refine (rdk_u8 (h + 2) l 0 w0 S0.rd HOB.out).mono ?_
  rintro r w1 ⟨rfl, r1, j1⟩
  have S1 := S0.read r1 j1
  rw [HX0.out]
  have c1 := S1.err
  rw [E1.out] at c1
  have oo4 := S1.o4
  have oo2 := S1.o2
  unfold Z5 at oo4 oo2
  have y0 := oo4.cell 0
  have y1 := oo4.cell 1
  have y2 := oo4.cell 2
  have y3 := oo4.cell 3
  have y4 := oo4.cell 4
  have z0 := oo2.cell 0
  have z1 := oo2.cell 1
  have z2 := oo2.cell 2
  have z3 := oo2.cell 3
  have z4 := oo2.cell 4
  have q0 := oo2.free 0
  have q1 := oo2.free 1
  have q2 := oo2.free 2
  have q3 := oo2.free 3
  have q4 := oo2.free 4
  have HP := Lib.hid (S1.put (.int .i64 0) (.int .i64 0) (.int .u32 0) (.slice none 0 0) (.int .u32 0))
  have HB := Lib.hid S1.bb
  have HL := Lib.hid S1.le
  clear S1 oo2 oo4
  go_wp2_with fail
  refine bodyPost_ret (results_row_tmp rfl _ _ h 28 _ (0, 0) _ rfl HP.out.1 Try.underlying28 rfl (by kernel_rfl)) rfl ⟨?_, by rw [HH.out]; exact HP.out.2.below HB.out (Nat.le_refl _) HL.out⟩
  exact gnp_err HE.out (by decide)
set_option maxHeartbeats 4000000 in
theorem rgiven_node (a : Option Addr) (c : Nat) (l : List Int) (w : World) (h1 : 2 ≤ l.length) (h2 : l.getD 0 0 = 71) (h3 : nodeB (l.getD 1 0) = false) (hR : Bs w a c l) (hB : okB l) :
    Calls Try.prog 17 #[.slice a l.length c] w fun r w' => GnP w.heap.size l r w' ∧ Below w.heap.size w w' := by
  have HE : Hid (giveE l = 3) := Lib.hid (by unfold giveE; rw [if_neg (by omega), if_neg (by rw [h2]; decide), if_neg (by omega), if_pos h3])
  have HOB := Lib.hid hB
  have S0 := gvs_start a c l w hR
  unfold Z5 at S0
  obtain ⟨x0, hx0⟩ : ∃ x, (lft l 0).getD 0 0 = x := ⟨_, rfl⟩
  obtain ⟨v1, hv1⟩ : ∃ x, (lft l 1).getD 0 0 = x := ⟨_, rfl⟩
  obtain ⟨h, hh⟩ : ∃ h, w.heap.size = h := ⟨_, rfl⟩
  rw [hh] at S0
  have HH := Lib.hid hh
  have HX0 := Lib.hid hx0
  have HV1 := Lib.hid hv1
  have PN : ∀ W, Calls Try.prog 36 #[.int .i64 v1] W fun r w' => r = .returned (.bool (nodeB v1)) ∧ W = w' := fun W => rnode_any v1 W
  obtain ⟨n, hn⟩ : ∃ n, l.length = n := ⟨_, rfl⟩
  have HN := Lib.hid hn
  have E1 : Hid (er l 1 0 = 0) := Lib.hid (er_yes (by omega))
  have E2 : Hid (er l 2 0 = 0) := Lib.hid (er_yes (by omega))
  have e0 : x0 = 71 := by rw [← hx0, lft_getD (by omega)]; exact h2
  have ev : nodeB v1 = false := by rw [← hv1, lft_getD (by omega)]; exact h3
  rw [hn] at S0 ⊢
  clear hn hx0 hv1 h1 h2 h3 hR hB
  go_enter Try.func17, Try.ntmps17
  go_upto_region 3 with (fail)
  generalize ((w.alloc (.cells #[.int .i64 0, .int .i64 0, .int .u32 0, .slice none 0 0, .int .u32 0] 28)).alloc (.cells #[.int .i64 0, .int .i64 0, .int .u32 0, .slice none 0 0, .int .u32 0] 28)).alloc (.cells #[.slice a n c, .int .i64 0] 82) = w0 at *
  go_wp2_with fail
  refine (rdk_u8 (h + 2) l 0 w0 S0.rd HOB.out).mono ?_
  rintro r w1 ⟨rfl, r1, j1⟩
  have S1 := S0.read r1 j1
  rw [HX0.out]
  have c1 := S1.err
  rw [E1.out] at c1
  clear S0 r1 j1
  go_wp2_with fail
  refine (rdk_u8 (h + 2) l 1 w1 S1.rd HOB.out).mono ?_
  rintro r w2 ⟨rfl, r2, j2⟩
  have S2 := S1.read r2 j2
  rw [HV1.out]
  have b2 := (Below.refl w2.heap.size w2).alloc (Nat.le_refl _) (.cells #[.int .i64 v1, .int .i64 0, .int .u32 0, .slice none 0 0, .int .u32 0] 28)
  have og := Own.new w2 28 #[.int .i64 v1, .int .i64 0, .int .u32 0, .slice none 0 0, .int .u32 0]
  have S3 := S2.alloc (.cells #[.int .i64 v1, .int .i64 0, .int .u32 0, .slice none 0 0, .int .u32 0] 28)
  have hg := S2.lt
  clear S1 S2 r2 j2 c1 b2
  go_upto_region 7 with (fail)
  obtain ⟨g, hgg⟩ : ∃ g, w2.heap.size = g := ⟨_, rfl⟩
  rw [hgg] at og hg ⊢
  generalize w2.alloc (.cells #[.int .i64 v1, .int .i64 0, .int .u32 0, .slice none 0 0, .int .u32 0] 28) = w3 at *
  clear hgg
  have c1 := S3.err
  rw [E2.out] at c1
  have d0 := og.cell 0
  have oo4 := S3.o4
  have oo2 := S3.o2
  unfold Z5 at oo4 oo2
  have y0 := oo4.cell 0
  have y1 := oo4.cell 1
  have y2 := oo4.cell 2
  have y3 := oo4.cell 3
  have y4 := oo4.cell 4
  have z0 := oo2.cell 0
  have z1 := oo2.cell 1
  have z2 := oo2.cell 2
  have z3 := oo2.cell 3
  have z4 := oo2.cell 4
  have q0 := oo2.free 0
  have q1 := oo2.free 1
  have q2 := oo2.free 2
  have q3 := oo2.free 3
  have q4 := oo2.free 4
  have HP := Lib.hid (S3.put (.int .i64 0) (.int .i64 0) (.int .u32 0) (.slice none 0 0) (.int .u32 0))
  have HB := Lib.hid S3.bb
  have HL := Lib.hid S3.le
  go_wp2_with fail
  refine (PN _).mono ?_
  rintro r w4 ⟨rfl, rfl⟩
  clear S3 oo2 oo4
  go_wp2_with fail
  refine bodyPost_ret (results_row_tmp rfl _ _ h 28 _ (0, 0) _ rfl HP.out.1 Try.underlying28 rfl (by kernel_rfl)) rfl ⟨?_, by rw [HH.out]; exact HP.out.2.below HB.out (Nat.le_refl _) HL.out⟩
  exact gnp_err HE.out (by decide)
set_option maxHeartbeats 4000000 in
theorem rgiven_many (a : Option Addr) (c : Nat) (l : List Int) (w : World) (h1 : 8 ≤ l.length) (h2 : l.getD 0 0 = 71) (h3 : nodeB (l.getD 1 0) = true) (h4 : 8 < l.getD 7 0) (hR : Bs w a c l) (hB : okB l) :
    Calls Try.prog 17 #[.slice a l.length c] w fun r w' => GnP w.heap.size l r w' ∧ Below w.heap.size w w' := by
  have HE : Hid (giveE l = 3) := Lib.hid (by unfold giveE; rw [if_neg (by omega), if_neg (by rw [h2]; decide), if_neg (by omega), if_neg (by rw [h3]; decide)]; unfold give2; rw [if_neg (by rw [List.length_drop]; omega), if_pos (by rw [getD_drop]; exact h4)])
  have HOB := Lib.hid hB
  have S0 := gvs_start a c l w hR
  unfold Z5 at S0
  obtain ⟨x0, hx0⟩ : ∃ x, (lft l 0).getD 0 0 = x := ⟨_, rfl⟩
  obtain ⟨v1, hv1⟩ : ∃ x, (lft l 1).getD 0 0 = x := ⟨_, rfl⟩
  obtain ⟨h, hh⟩ : ∃ h, w.heap.size = h := ⟨_, rfl⟩
  rw [hh] at S0
  have HH := Lib.hid hh
  have HX0 := Lib.hid hx0
  have HV1 := Lib.hid hv1
  have PN : ∀ W, Calls Try.prog 36 #[.int .i64 v1] W fun r w' => r = .returned (.bool (nodeB v1)) ∧ W = w' := fun W => rnode_any v1 W
  obtain ⟨n, hn⟩ : ∃ n, l.length = n := ⟨_, rfl⟩
  have HN := Lib.hid hn
  have E1 : Hid (er l 1 0 = 0) := Lib.hid (er_yes (by omega))
  have E2 : Hid (er l 2 0 = 0) := Lib.hid (er_yes (by omega))
  have E8 : Hid (er l 8 0 = 0) := Lib.hid (er_yes (by omega))
  have e0 : x0 = 71 := by rw [← hx0, lft_getD (by omega)]; exact h2
  have ev : nodeB v1 = true := by rw [← hv1, lft_getD (by omega)]; exact h3
  obtain ⟨N, hNN⟩ : ∃ x, (lft l 7).getD 0 0 = x := ⟨_, rfl⟩
  have HEN := Lib.hid hNN
  have eN : decide (8 < N) = true := by rw [← hNN, lft_getD (by omega)]; simpa using h4
  rw [hn] at S0 ⊢
  clear hn hx0 hv1 hNN h1 h2 h3 h4 hR hB
  go_enter Try.func17, Try.ntmps17
  go_upto_region 3 with (fail)
  generalize ((w.alloc (.cells #[.int .i64 0, .int .i64 0, .int .u32 0, .slice none 0 0, .int .u32 0] 28)).alloc (.cells #[.int .i64 0, .int .i64 0, .int .u32 0, .slice none 0 0, .int .u32 0] 28)).alloc (.cells #[.slice a n c, .int .i64 0] 82) = w0 at *
  go_wp2_with fail
  refine (rdk_u8 (h + 2) l 0 w0 S0.rd HOB.out).mono ?_
  rintro r w1 ⟨rfl, r1, j1⟩
  have S1 := S0.read r1 j1
  rw [HX0.out]
  have c1 := S1.err
  rw [E1.out] at c1
  clear S0 r1 j1
  go_wp2_with fail
  refine (rdk_u8 (h + 2) l 1 w1 S1.rd HOB.out).mono ?_
  rintro r w2 ⟨rfl, r2, j2⟩
  have S2 := S1.read r2 j2
  rw [HV1.out]
  have b2 := (Below.refl w2.heap.size w2).alloc (Nat.le_refl _) (.cells #[.int .i64 v1, .int .i64 0, .int .u32 0, .slice none 0 0, .int .u32 0] 28)
  have og := Own.new w2 28 #[.int .i64 v1, .int .i64 0, .int .u32 0, .slice none 0 0, .int .u32 0]
  have S3 := S2.alloc (.cells #[.int .i64 v1, .int .i64 0, .int .u32 0, .slice none 0 0, .int .u32 0] 28)
  have hg := S2.lt
  clear S1 S2 r2 j2 c1 b2
  go_upto_region 7 with (fail)
  obtain ⟨g, hgg⟩ : ∃ g, w2.heap.size = g := ⟨_, rfl⟩
  rw [hgg] at og hg ⊢
  generalize w2.alloc (.cells #[.int .i64 v1, .int .i64 0, .int .u32 0, .slice none 0 0, .int .u32 0] 28) = w3 at *
  clear hgg
  have c1 := S3.err
  rw [E2.out] at c1
  have d0 := og.cell 0
  go_wp2_with (first | (go_at_call 36; refine (PN _).mono ?_; rintro r w4 ⟨rfl, rfl⟩) | fail)
  refine (rdk_u8 (h + 2) l 2 w3 S3.rd HOB.out).mono ?_
  rintro r w4 ⟨rfl, r4, j4⟩
  have S4 := (S3.read r4 j4).setHigh hg 1 (.int .i64 ((lft l 2).getD 0 0))
  have og4 := (j4.own og (Nat.ne_of_gt hg)).put 1 (.int .i64 ((lft l 2).getD 0 0))
  have f1 := (j4.own og (Nat.ne_of_gt hg)).free 1
  have x1 := (j4.own og (Nat.ne_of_gt hg)).cell 1
  generalize (lft l 2).getD 0 0 = cd at *
  clear S3 r4 j4 c1 d0 og
  go_upto_region 10 with (fail)
  generalize w4.setCell ⟨g, 1, none⟩ (.int .i64 cd) = w5 at *
  clear f1 x1
  go_wp2_with fail
  refine (rdk_num (h + 2) l 3 w5 S4.rd HOB.out).mono ?_
  rintro r w6 ⟨rfl, r6, j6⟩
  obtain ⟨no, hno⟩ : ∃ no, IntKind.u32.wrap (m4 (lft l 3)) = no := ⟨_, rfl⟩
  have og5 := (j6.own og4 (Nat.ne_of_gt hg)).put 2 (.int .u32 no)
  have S5 := (S4.read r6 j6).setHigh hg 2 (.int .u32 no)
  have f1 := (j6.own og4 (Nat.ne_of_gt hg)).free 2
  have x1 := (j6.own og4 (Nat.ne_of_gt hg)).cell 2
  clear S4 og4 r6 j6
  go_upto_region 11 with (fail)
  generalize w6.setCell ⟨g, 2, none⟩ (.int .u32 no) = w7 at *
  clear f1 x1 hno
  go_wp2_with fail
  refine (rdk_u8 (h + 2) l 7 w7 S5.rd HOB.out).mono ?_
  rintro r w8 ⟨rfl, r8, j8⟩
  have S8 := S5.read r8 j8
  have og8 := j8.own og5 (Nat.ne_of_gt hg)
  have c1 := S8.err
  rw [E8.out] at c1
  rw [HEN.out]
  clear S5 og5 r8 j8
  have oo4 := S8.o4
  have oo2 := S8.o2
  unfold Z5 at oo4 oo2
  have y0 := oo4.cell 0
  have y1 := oo4.cell 1
  have y2 := oo4.cell 2
  have y3 := oo4.cell 3
  have y4 := oo4.cell 4
  have z0 := oo2.cell 0
  have z1 := oo2.cell 1
  have z2 := oo2.cell 2
  have z3 := oo2.cell 3
  have z4 := oo2.cell 4
  have q0 := oo2.free 0
  have q1 := oo2.free 1
  have q2 := oo2.free 2
  have q3 := oo2.free 3
  have q4 := oo2.free 4
  have HP := Lib.hid (S8.put (.int .i64 0) (.int .i64 0) (.int .u32 0) (.slice none 0 0) (.int .u32 0))
  have HB := Lib.hid S8.bb
  have HL := Lib.hid S8.le
  clear S8 oo2 oo4
  go_wp2_with fail
  refine bodyPost_ret (results_row_tmp rfl _ _ h 28 _ (0, 0) _ rfl HP.out.1 Try.underlying28 rfl (by kernel_rfl)) rfl ⟨?_, by rw [HH.out]; exact HP.out.2.below HB.out (Nat.le_refl _) HL.out⟩
  exact gnp_err HE.out (by decide)
end Go.Proofs.Ytphiohdhgkpgnaa.Jo
set_option maxRecDepth 100000
namespace Go.Proofs.Ytphiohdhgkpgnaa.Jo
set_option linter.unusedVariables false
open Go.RowKit Lb Go.Shelf Bf Se Cl

/-- A block of one's own of a known row. -/
def cbP (v : World) (t : TypeId) (cs : Array Value) (x : Value) (s : Gw v) : Prop := ∃ b, x = .pointer (some ⟨b, 0, none⟩) ∧ v.heap.size ≤ b ∧ Own s.toW b t cs
theorem cbP_still (v : World) (t : TypeId) (cs : Array Value) (x : Value) (s s' : Gw v) (h : s.still s') (hx : cbP v t cs x s) : cbP v t cs x s' := by
  obtain ⟨b, e, hb, ho⟩ := hx
  exact ⟨b, e, hb, below_own h.below ho ho.lt⟩
def cbK (v : World) (t : TypeId) (cs : Array Value) : Kd v := .grow (cbP v t cs) (cbP_still v t cs)
set_option maxHeartbeats 4000000 in
theorem rgiven_main (a : Option Addr) (c : Nat) (l : List Int) (w : World) (h1 : 8 ≤ l.length) (h2 : l.getD 0 0 = 71) (h3 : nodeB (l.getD 1 0) = true) (h4 : l.getD 7 0 ≤ 8) (hR : Bs w a c l) (hB : okB l) :
    Calls Try.prog 17 #[.slice a l.length c] w fun r w' => GnP w.heap.size l r w' ∧ Below w.heap.size w w' := by
  have HD : Hid (giveE l = gE (l.drop 2) 0 (l.getD 7 0).toNat) := Lib.hid (by unfold giveE; rw [if_neg (by omega), if_neg (by rw [h2]; decide), if_neg (by omega), if_neg (by rw [h3]; decide)]; unfold give2; rw [if_neg (by rw [List.length_drop]; omega), if_neg (by rw [getD_drop]; show ¬ 8 < l.getD 7 0; omega), getD_drop])
  have HOB := Lib.hid hB
  have S0 := gvs_start a c l w hR
  unfold Z5 at S0
  obtain ⟨x0, hx0⟩ : ∃ x, (lft l 0).getD 0 0 = x := ⟨_, rfl⟩
  obtain ⟨v1, hv1⟩ : ∃ x, (lft l 1).getD 0 0 = x := ⟨_, rfl⟩
  obtain ⟨h, hh⟩ : ∃ h, w.heap.size = h := ⟨_, rfl⟩
  rw [hh] at S0
  have HH := Lib.hid hh
  have HX0 := Lib.hid hx0
  have HV1 := Lib.hid hv1
  have PN : ∀ W, Calls Try.prog 36 #[.int .i64 v1] W fun r w' => r = .returned (.bool (nodeB v1)) ∧ W = w' := fun W => rnode_any v1 W
  obtain ⟨n, hn⟩ : ∃ n, l.length = n := ⟨_, rfl⟩
  have HN := Lib.hid hn
  have E1 : Hid (er l 1 0 = 0) := Lib.hid (er_yes (by omega))
  have E2 : Hid (er l 2 0 = 0) := Lib.hid (er_yes (by omega))
  have E8 : Hid (er l 8 0 = 0) := Lib.hid (er_yes (by omega))
  have e0 : x0 = 71 := by rw [← hx0, lft_getD (by omega)]; exact h2
  have ev : nodeB v1 = true := by rw [← hv1, lft_getD (by omega)]; exact h3
  have hb7 := okB_at hB 7
  obtain ⟨N, hNN⟩ : ∃ N : Nat, l.getD 7 0 = (N : Int) := ⟨(l.getD 7 0).toNat, by omega⟩
  have HEN : Hid ((lft l 7).getD 0 0 = (N : Int)) := Lib.hid (by rw [lft_getD (by omega)]; exact hNN)
  have hN8 : N ≤ 8 := by omega
  have eN : decide (8 < (N : Int)) = false := by simp; omega
  have eN2 : decide (8 < N) = false := by simp; omega
  have HV : Hid (l.getD 1 0 = v1) := Lib.hid (by rw [← hv1, lft_getD (by omega)])
  rw [hNN, Int.toNat_natCast] at HD
  have HN7 := Lib.hid hNN
  have H8 : Hid (8 ≤ l.length) := Lib.hid h1
  obtain ⟨l2, hl2⟩ : ∃ x, l.drop 2 = x := ⟨_, rfl⟩
  rw [hl2] at HD
  have HL2 := Lib.hid hl2
  have hlen2 : l2.length = n - 2 := by rw [← hl2, List.length_drop, hn]
  have HLEN := Lib.hid hlen2
  obtain ⟨i0, hi0, hz0, hz1, hz2⟩ := info_parts cinfo
  rw [hn] at S0 ⊢
  have HCD : Hid ((lft l 2).getD 0 0 = l2.getD 0 0) := Lib.hid (by rw [lft_getD (by omega), ← hl2, getD_drop])
  have HNO : Hid (IntKind.u32.wrap (m4 (lft l 3)) = n4 l2 1) := Lib.hid (by rw [m4_lft (by omega), ← hl2, n4_drop, IntKind.wrap_u32]; have := n4_in hB 3; unfold In32 at this; show _ = n4 l 3; omega)
  clear hn hx0 hv1 hNN h1 h2 h3 h4 hb7 hl2 hlen2
  go_enter Try.func17, Try.ntmps17
  go_upto_region 3 with (fail)
  generalize ((w.alloc (.cells #[.int .i64 0, .int .i64 0, .int .u32 0, .slice none 0 0, .int .u32 0] 28)).alloc (.cells #[.int .i64 0, .int .i64 0, .int .u32 0, .slice none 0 0, .int .u32 0] 28)).alloc (.cells #[.slice a n c, .int .i64 0] 82) = w0 at *
  go_wp2_with fail
  refine (rdk_u8 (h + 2) l 0 w0 S0.rd HOB.out).mono ?_
  rintro r w1 ⟨rfl, r1, j1⟩
  have S1 := S0.read r1 j1
  rw [HX0.out]
  have c1 := S1.err
  rw [E1.out] at c1
  clear S0 r1 j1
  go_wp2_with fail
  refine (rdk_u8 (h + 2) l 1 w1 S1.rd HOB.out).mono ?_
  rintro r w2 ⟨rfl, r2, j2⟩
  have S2 := S1.read r2 j2
  rw [HV1.out]
  have b2 := (Below.refl w2.heap.size w2).alloc (Nat.le_refl _) (.cells #[.int .i64 v1, .int .i64 0, .int .u32 0, .slice none 0 0, .int .u32 0] 28)
  have og := Own.new w2 28 #[.int .i64 v1, .int .i64 0, .int .u32 0, .slice none 0 0, .int .u32 0]
  have S3 := S2.alloc (.cells #[.int .i64 v1, .int .i64 0, .int .u32 0, .slice none 0 0, .int .u32 0] 28)
  have hg := S2.lt
  clear S1 S2 r2 j2 c1 b2
  go_upto_region 7 with (fail)
  obtain ⟨g, hgg⟩ : ∃ g, w2.heap.size = g := ⟨_, rfl⟩
  rw [hgg] at og hg ⊢
  generalize w2.alloc (.cells #[.int .i64 v1, .int .i64 0, .int .u32 0, .slice none 0 0, .int .u32 0] 28) = w3 at *
  clear hgg
  have c1 := S3.err
  rw [E2.out] at c1
  have d0 := og.cell 0
  go_wp2_with (first | (go_at_call 36; refine (PN _).mono ?_; rintro r w4 ⟨rfl, rfl⟩) | fail)
  refine (rdk_u8 (h + 2) l 2 w3 S3.rd HOB.out).mono ?_
  rintro r w4 ⟨rfl, r4, j4⟩
  have S4 := (S3.read r4 j4).setHigh hg 1 (.int .i64 ((lft l 2).getD 0 0))
  have og4 := (j4.own og (Nat.ne_of_gt hg)).put 1 (.int .i64 ((lft l 2).getD 0 0))
  have f1 := (j4.own og (Nat.ne_of_gt hg)).free 1
  have x1 := (j4.own og (Nat.ne_of_gt hg)).cell 1
  rw [HCD.out] at S4 og4 ⊢
  obtain ⟨cd, hcd⟩ : ∃ x, l2.getD 0 0 = x := ⟨_, rfl⟩
  rw [hcd] at S4 og4 ⊢
  have HCD2 := Lib.hid hcd
  clear hcd
  clear S3 r4 j4 c1 d0 og
  go_upto_region 10 with (fail)
  generalize w4.setCell ⟨g, 1, none⟩ (.int .i64 cd) = w5 at *
  clear f1 x1
  go_wp2_with fail
  refine (rdk_num (h + 2) l 3 w5 S4.rd HOB.out).mono ?_
  rintro r w6 ⟨rfl, r6, j6⟩
  have hno := HNO.out
  obtain ⟨no, hno2⟩ : ∃ no, n4 l2 1 = no := ⟨_, rfl⟩
  rw [hno2] at hno
  have HNO2 := Lib.hid hno2
  clear hno2
  have og5 := (j6.own og4 (Nat.ne_of_gt hg)).put 2 (.int .u32 no)
  have S5 := (S4.read r6 j6).setHigh hg 2 (.int .u32 no)
  have f1 := (j6.own og4 (Nat.ne_of_gt hg)).free 2
  have x1 := (j6.own og4 (Nat.ne_of_gt hg)).cell 2
  clear S4 og4 r6 j6
  go_upto_region 11 with (fail)
  generalize w6.setCell ⟨g, 2, none⟩ (.int .u32 no) = w7 at *
  clear f1 x1 hno
  go_wp2_with fail
  refine (rdk_u8 (h + 2) l 7 w7 S5.rd HOB.out).mono ?_
  rintro r w8 ⟨rfl, r8, j8⟩
  have S8 := S5.read r8 j8
  have og8 := j8.own og5 (Nat.ne_of_gt hg)
  have c1 := S8.err
  rw [E8.out] at c1
  rw [HEN.out]
  clear S5 og5 r8 j8
  go_wp2_with fail
  clear c1
  have mv0 : MineK w8 (g + 1) 62 5 (.slice none 0 0) 0 (cv (fun j => cellAt l2 (6 + 5 * j))) := MineK.nil _ _ _ _ _
  have hg8 : g + 1 ≤ w8.heap.size := og8.lt
  go_loopw [63] (fun i wr => ∃ (k : Nat) (v : Value), i = .int .i64 (k : Int) ∧ k ≤ N ∧ GvS l w h (8 + 5 * k) wr ∧ Own wr g 28 #[.int .i64 v1, .int .i64 cd, .int .u32 no, v, .int .u32 0] ∧ MineK wr (g + 1) 62 5 v k (cv (fun j => cellAt l2 (6 + 5 * j))) ∧ Hid (giveE l = gE l2 k (N - k)) ∧ g + 1 ≤ wr.heap.size) (fun i _ => N - (intOf i).toNat)
  case atStart => exact ⟨0, _, rfl, Nat.zero_le _, S8, og8, mv0, HD, hg8⟩
  case round =>
    clear S8 og8 mv0 hg8
    obtain ⟨k, v, rfl, hk, S, og, mv, HGK, hgs⟩ := hrel
    have P := S.rd
    by_cases hlt : k < N
    · have HSUC : Hid (gE l2 k (N - k) = if n - 2 < 6 + 5 * k + 5 then 2 else if (cellAt l2 (6 + 5 * k)).may = false then 3 else gE l2 (k + 1) (N - (k + 1))) := Lib.hid (by
        rw [show N - k = N - (k + 1) + 1 by omega, ← HLEN.out]
        rfl)
      by_cases hsh : n < 8 + 5 * k + 5
      · have HE : Hid (giveE l = 2) := Lib.hid (by rw [HGK.out, HSUC.out, if_pos (by omega)])
        have EK : Hid (er l (8 + 5 * k + 5) 0 = 2) := Lib.hid (er_no (by rw [HN.out]; exact hsh))
        have HSH := Lib.hid hsh
        clear HSUC HGK hsh
        go_wp2_with fail
        refine (rdk_raw_bad (h + 2) l (8 + 5 * k) wr P (by rw [HN.out]; exact HSH.out)).mono ?_
        rintro r w2 ⟨rfl, r2, j2⟩
        have S2 := S.read r2 j2
        have og2 := j2.own og (Nat.ne_of_gt hg)
        have c1 := S2.err
        rw [EK.out] at c1
        have mv := mineK_just mv j2 (by omega)
        clear S og r2 j2 P
        go_wp2_with fail
        refine (rdk_num (h + 2) l (8 + 5 * k + 5) w2 S2.rd HOB.out).mono ?_
        rintro r w9 ⟨rfl, r9, j9⟩
        obtain ⟨tg, htg⟩ : ∃ no, IntKind.u32.wrap (m4 (lft l (8 + 5 * k + 5))) = no := ⟨_, rfl⟩
        have HTG := Lib.hid htg
        have S9 := (S2.read r9 j9).setHigh hg 4 (.int .u32 tg)
        have o9 := (j9.own og2 (Nat.ne_of_gt hg)).put 4 (.int .u32 tg)
        have f1 := (j9.own og2 (Nat.ne_of_gt hg)).free 4
        have x1 := (j9.own og2 (Nat.ne_of_gt hg)).cell 4
        have m9 := mineK_just (mineK_just mv j9 (by omega)) (Just.set g w9 4 (.int .u32 tg)) (Nat.lt_succ_self g)
        clear S2 og2 mv r9 j9
        go_upto_region 24 with (fail)
        generalize w9.setCell ⟨g, 4, none⟩ (.int .u32 tg) = w10 at *
        clear f1 x1 htg
        go_wp2_with fail
        refine (rdk_end (h + 2) l (8 + 5 * k + 5 + 4) w10 S9.rd).mono ?_
        rintro r w11 ⟨rfl, rfl⟩
        rw [if_pos (by rw [HN.out]; have := HSH.out; omega)]
        have oo4 := S9.o4
        have oo2 := S9.o2
        unfold Z5 at oo4 oo2
        have y0 := oo4.cell 0
        have y1 := oo4.cell 1
        have y2 := oo4.cell 2
        have y3 := oo4.cell 3
        have y4 := oo4.cell 4
        have z0 := oo2.cell 0
        have z1 := oo2.cell 1
        have z2 := oo2.cell 2
        have z3 := oo2.cell 3
        have z4 := oo2.cell 4
        have q0 := oo2.free 0
        have q1 := oo2.free 1
        have q2 := oo2.free 2
        have q3 := oo2.free 3
        have q4 := oo2.free 4
        have HP := Lib.hid (S9.put (.int .i64 0) (.int .i64 0) (.int .u32 0) (.slice none 0 0) (.int .u32 0))
        have HB := Lib.hid S9.bb
        have HL := Lib.hid S9.le
        clear S9 oo2 oo4
        go_wp2_with fail
        refine bodyPost_ret (results_row_tmp rfl _ _ h 28 _ (0, 0) _ rfl HP.out.1 Try.underlying28 rfl (by kernel_rfl)) rfl ⟨?_, by rw [HH.out]; exact HP.out.2.below HB.out (Nat.le_refl _) HL.out⟩
        exact gnp_err HE.out (by decide)
      · have HSH := Lib.hid hsh
        obtain ⟨J, hJ⟩ : ∃ J, 8 + 5 * k = J := ⟨_, rfl⟩
        rw [hJ] at S P HSH
        have HJ := Lib.hid hJ
        have EK : Hid (er l (J + 5) 0 = 0) := Lib.hid (er_yes (by rw [HN.out]; have := HSH.out; omega))
        have x0 := okB_at HOB.out J
        have x1 := okB_at HOB.out (J + 1)
        have x2 := okB_at HOB.out (J + 2)
        have x3 := okB_at HOB.out (J + 3)
        have x4 := okB_at HOB.out (J + 4)
        have HCA : Hid (cellAt l2 (6 + 5 * k) = ⟨l.getD J 0, l.getD (J + 1) 0, l.getD (J + 2) 0, l.getD (J + 3) 0, l.getD (J + 4) 0⟩) := Lib.hid (by
          unfold cellAt
          rw [← HL2.out, getD_drop, getD_drop, getD_drop, getD_drop, getD_drop, show 2 + (6 + 5 * k) = J by omega, show 2 + (6 + 5 * k + 1) = J + 1 by omega, show 2 + (6 + 5 * k + 2) = J + 2 by omega, show 2 + (6 + 5 * k + 3) = J + 3 by omega, show 2 + (6 + 5 * k + 4) = J + 4 by omega])
        have HV0 : ∀ i, bval (l.drop J) i = .int .u8 (l.getD (J + i) 0) := fun i => by unfold bval; rw [getD_drop]
        obtain ⟨y0, hy0⟩ : ∃ y, l.getD J 0 = y := ⟨_, rfl⟩
        obtain ⟨y1, hy1⟩ : ∃ y, l.getD (J + 1) 0 = y := ⟨_, rfl⟩
        obtain ⟨y2, hy2⟩ : ∃ y, l.getD (J + 2) 0 = y := ⟨_, rfl⟩
        obtain ⟨y3, hy3⟩ : ∃ y, l.getD (J + 3) 0 = y := ⟨_, rfl⟩
        obtain ⟨y4, hy4⟩ : ∃ y, l.getD (J + 4) 0 = y := ⟨_, rfl⟩
        rw [hy0, hy1, hy2, hy3, hy4] at HCA
        rw [hy0] at x0
        rw [hy1] at x1
        rw [hy2] at x2
        rw [hy3] at x3
        rw [hy4] at x4
        have B0 : Hid (bval (l.drop J) 0 = .int .u8 y0) := Lib.hid (by rw [HV0, Nat.add_zero, hy0])
        have B1 : Hid (bval (l.drop J) 1 = .int .u8 y1) := Lib.hid (by rw [HV0, hy1])
        have B2 : Hid (bval (l.drop J) 2 = .int .u8 y2) := Lib.hid (by rw [HV0, hy2])
        have B3 : Hid (bval (l.drop J) 3 = .int .u8 y3) := Lib.hid (by rw [HV0, hy3])
        have B4 : Hid (bval (l.drop J) 4 = .int .u8 y4) := Lib.hid (by rw [HV0, hy4])
        obtain ⟨x00, x01⟩ := x0
        obtain ⟨x10, x11⟩ := x1
        obtain ⟨x20, x21⟩ := x2
        obtain ⟨x30, x31⟩ := x3
        obtain ⟨x40, x41⟩ := x4
        clear hy0 hy1 hy2 hy3 hy4 HV0 hJ hsh
        go_wp2_with fail
        refine (rdk_raw (h + 2) l J wr P (by rw [HN.out]; exact HSH.out)).mono ?_
        rintro r w2 ⟨ra, rc, rfl, l1, l2', hRW, r2, j2⟩
        obtain ⟨rb, ro, rfl, hrb, hrc⟩ := hRW (by decide)
        have d0 : w2.cell? ⟨rb, ro, none⟩ = some (.int .u8 y0) := by rw [← B0.out]; exact hrc 0 (by decide)
        have d1 : w2.cell? ⟨rb, ro + 1, none⟩ = some (.int .u8 y1) := by rw [← B1.out]; exact hrc 1 (by decide)
        have d2 : w2.cell? ⟨rb, ro + 2, none⟩ = some (.int .u8 y2) := by rw [← B2.out]; exact hrc 2 (by decide)
        have d3 : w2.cell? ⟨rb, ro + 3, none⟩ = some (.int .u8 y3) := by rw [← B3.out]; exact hrc 3 (by decide)
        have d4 : w2.cell? ⟨rb, ro + 4, none⟩ = some (.int .u8 y4) := by rw [← B4.out]; exact hrc 4 (by decide)
        have S2 := S.read r2 j2
        have og2 := j2.own og (Nat.ne_of_gt hg)
        have c1 := S2.err
        rw [EK.out] at c1
        have mv2 := mineK_just mv j2 (by omega)
        have hs2 := Nat.le_trans hgs j2.size
        unfold maxLen at l2'
        have hc63 : (rc : Int) ≤ 9223372036854775807 := by omega
        clear S og r2 j2 P hRW hrc mv hgs B0 B1 B2 B3 B4
        go_upto_region 18 with (fail)
        clear c1
        have e0 : ∀ z : Gw w2, z.toW.cell? ⟨rb, ro, none⟩ = some (.int .u8 y0) := fun z => (z.ok.cell hrb).trans d0
        have e1 : ∀ z : Gw w2, z.toW.cell? ⟨rb, ro + 1, none⟩ = some (.int .u8 y1) := fun z => (z.ok.cell hrb).trans d1
        have e2 : ∀ z : Gw w2, z.toW.cell? ⟨rb, ro + 2, none⟩ = some (.int .u8 y2) := fun z => (z.ok.cell hrb).trans d2
        have e3 : ∀ z : Gw w2, z.toW.cell? ⟨rb, ro + 3, none⟩ = some (.int .u8 y3) := fun z => (z.ok.cell hrb).trans d3
        have e4 : ∀ z : Gw w2, z.toW.cell? ⟨rb, ro + 4, none⟩ = some (.int .u8 y4) := fun z => (z.ok.cell hrb).trans d4
        have u0 : IntKind.i64.wrap y0 = y0 := by rw [IntKind.wrap_i64]; omega
        have u1 : IntKind.i64.wrap y1 = y1 := by rw [IntKind.wrap_i64]; omega
        have u2 : IntKind.i64.wrap y2 = y2 := by rw [IntKind.wrap_i64]; omega
        have u3 : IntKind.i64.wrap y3 = y3 := by rw [IntKind.wrap_i64]; omega
        have u4 : IntKind.i64.wrap y4 = y4 := by rw [IntKind.wrap_i64]; omega
        have v0 : (0 : Nat) < 5 := by decide
        have hs2b : g + 1 ≤ w2.heap.size := hs2
        clear d0 d1 d2 d3 d4
        apply wp_tail_start
        case hl => repeat (first | exact Snoc.one _ | apply Snoc.cons)
        refine wp_region_tail w2 (Below.refl _ _) [.is (.slice (some ⟨rb, ro, none⟩) 5 rc), .is (.pointer (some ⟨rb, ro, none⟩)), .is (.int .u8 y0), .is (.int .i64 y0), .is (.slice (some ⟨rb, ro, none⟩) 5 rc), .is (.pointer (some ⟨rb, ro + 1, none⟩)), .is (.int .u8 y1), .is (.int .i64 y1), .is (.slice (some ⟨rb, ro, none⟩) 5 rc), .is (.pointer (some ⟨rb, ro + 2, none⟩)), .is (.int .u8 y2), .is (.int .i64 y2), .is (.slice (some ⟨rb, ro, none⟩) 5 rc), .is (.pointer (some ⟨rb, ro + 3, none⟩)), .is (.int .u8 y3), .is (.int .i64 y3), .is (.slice (some ⟨rb, ro, none⟩) 5 rc), .is (.pointer (some ⟨rb, ro + 4, none⟩)), .is (.int .u8 y4), .is (.int .i64 y4), .is (.agg #[.int .i64 y0, .int .i64 y1, .int .i64 y2, .int .i64 y3, .int .i64 y4]), cbK w2 62 #[.int .i64 0, .int .i64 0, .int .i64 0, .int .i64 0, .int .i64 0]] [] (by kernel_rfl) (by kernel_rfl) (by kernel_rfl) rfl (by kernel_rfl) ?_
        iterate 21
          refine kd_is (by rfl) (fun z hz K Q hK => ?_) ?_
          · go_big_op
            exact hK _ _ rfl rfl
          simp only [Act.put, List.setIfInBounds_toArray, List.set_cons_zero, List.set_cons_succ]
        refine kd_grow (by rfl) (fun z hz Kk Q hKk => ?_) (fun x21 => ?_)
        · go_big_op
          have ba := (Below.refl z.toW.heap.size z.toW).alloc (Nat.le_refl _) (.cells #[.int .i64 0, .int .i64 0, .int .i64 0, .int .i64 0, .int .i64 0] 62)
          exact hKk _ _ ⟨_, z.to _ ba, rfl, rfl, z.to_still _ ba, _, rfl, z.ok.size, Own.new _ _ _⟩
        simp only [Act.put, List.setIfInBounds_toArray, List.set_cons_zero, List.set_cons_succ]
        refine kd_nil (fun z hz => ?_)
        obtain ⟨cb, rfl, hcb, oc⟩ := (show cbP w2 62 #[.int .i64 0, .int .i64 0, .int .i64 0, .int .i64 0, .int .i64 0] x21 z from hz 21 (.of (cbP w2 62 #[.int .i64 0, .int .i64 0, .int .i64 0, .int .i64 0, .int .i64 0])) x21 (by kernel_rfl) (fun i hi => by simp [gKill]))
        rw [if_pos (by rfl)]
        refine wp_K (fun Kk hKk => ?_)
        have k0 := oc.cell 0
        have k1 := oc.cell 1
        have k2 := oc.cell 2
        have k3 := oc.cell 3
        have k4 := oc.cell 4
        have f0 := oc.free 0
        have f1 := oc.free 1
        have f2 := oc.free 2
        have f3 := oc.free 3
        have f4 := oc.free 4
        have oz := ((((oc.put 0 (.int .i64 y0)).put 1 (.int .i64 y1)).put 2 (.int .i64 y2)).put 3 (.int .i64 y3)).put 4 (.int .i64 y4)
        have jz := (((((Just.refl cb z.toW).put 0 (.int .i64 y0)).put 1 (.int .i64 y1)).put 2 (.int .i64 y2)).put 3 (.int .i64 y3)).put 4 (.int .i64 y4)
        have bz := jz.below z.ok hcb z.ok.size
        have S4 := S2.high bz S2.lt
        have og4 := below_own bz og2 og2.lt
        have mv4 := mv2.below bz
        have hs4 : g + 1 ≤ w2.heap.size := hs2b
        have hs5 := Nat.le_trans hs4 bz.size
        clear e0 e1 e2 e3 e4 u0 u1 u2 u3 u4 v0 hz S2 og2 mv2 hs2b hs2 jz oc
        go_big_op
        refine hKk _ _ ?_
        generalize ((((z.toW.setCell ⟨cb, 0, none⟩ (.int .i64 y0)).setCell ⟨cb, 1, none⟩ (.int .i64 y1)).setCell ⟨cb, 2, none⟩ (.int .i64 y2)).setCell ⟨cb, 3, none⟩ (.int .i64 y3)).setCell ⟨cb, 4, none⟩ (.int .i64 y4) = w4 at *
        have oz : Own w4 cb 62 #[.int .i64 y0, .int .i64 y1, .int .i64 y2, .int .i64 y3, .int .i64 y4] := oz
        clear k0 k1 k2 k3 k4 f0 f1 f2 f3 f4 bz hKk
        have k0 := oz.cell 0
        have k1 := oz.cell 1
        have k2 := oz.cell 2
        have k3 := oz.cell 3
        have k4 := oz.cell 4
        have PM := ref_may y0 y1 y2 y3 y4 w4
        have HSUC2 : Hid (gE l2 k (N - k) = if (C.mk y0 y1 y2 y3 y4).may = false then 3 else gE l2 (k + 1) (N - (k + 1))) := Lib.hid (by
          rw [HSUC.out, HCA.out, if_neg (by have := HSH.out; have := HJ.out; omega)])
        have hmy : (C.mk y0 y1 y2 y3 y4).may = mayC y0 y1 y2 y3 y4 := rfl
        have HMY := Lib.hid hmy
        clear HSUC hmy
        cases hmc : mayC y0 y1 y2 y3 y4 with
        | false =>
          rw [hmc] at PM
          have HE : Hid (giveE l = 3) := Lib.hid (by rw [HGK.out, HSUC2.out, HMY.out, if_pos hmc])
          clear hmc
          go_wp2_with fail
          refine PM.mono ?_
          rintro e w5 ⟨rfl, b5⟩
          have S6 := S4.high b5 S4.lt
          clear k0 k1 k2 k3 k4 S4
          have oo4 := S6.o4
          have oo2 := S6.o2
          unfold Z5 at oo4 oo2
          have y0 := oo4.cell 0
          have y1 := oo4.cell 1
          have y2 := oo4.cell 2
          have y3 := oo4.cell 3
          have y4 := oo4.cell 4
          have z0 := oo2.cell 0
          have z1 := oo2.cell 1
          have z2 := oo2.cell 2
          have z3 := oo2.cell 3
          have z4 := oo2.cell 4
          have q0 := oo2.free 0
          have q1 := oo2.free 1
          have q2 := oo2.free 2
          have q3 := oo2.free 3
          have q4 := oo2.free 4
          have HP := Lib.hid (S6.put (.int .i64 0) (.int .i64 0) (.int .u32 0) (.slice none 0 0) (.int .u32 0))
          have HB := Lib.hid S6.bb
          have HL := Lib.hid S6.le
          clear S6 oo2 oo4
          go_wp2_with fail
          refine bodyPost_ret (results_row_tmp rfl _ _ h 28 _ (0, 0) _ rfl HP.out.1 Try.underlying28 rfl (by kernel_rfl)) rfl ⟨?_, by rw [HH.out]; exact HP.out.2.below HB.out (Nat.le_refl _) HL.out⟩
          exact gnp_err HE.out (by decide)
        | true =>
          rw [hmc] at PM
          have HGN : Hid (giveE l = gE l2 (k + 1) (N - (k + 1))) := Lib.hid (by rw [HGK.out, HSUC2.out, HMY.out, if_neg (by rw [hmc]; decide)])
          clear hmc
          go_wp2_with fail
          refine PM.mono ?_
          rintro e w5 ⟨rfl, b5⟩
          have S6 := S4.high b5 S4.lt
          have og6 := below_own b5 og4 og4.lt
          have oc6 := below_own b5 oz oz.lt
          have mv6 := mv4.below b5
          have hs6 := Nat.le_trans hs5 b5.size
          clear k0 k1 k2 k3 k4 S4 og4 oz mv4 b5 hs5 PM
          have k0 := oc6.cell 0
          have k1 := oc6.cell 1
          have k2 := oc6.cell 2
          have k3 := oc6.cell 3
          have k4 := oc6.cell 4
          have d3 := og6.cell 3
          obtain ⟨A, cc, rfl, hkc, hcm, _⟩ := mv6.row
          have HNM := Lib.hid (show k + 1 ≤ maxLen by unfold maxLen; omega)
          have m9 := mv6.alloc (.cells #[.int .i64 y0, .int .i64 y1, .int .i64 y2, .int .i64 y3, .int .i64 y4] 62)
          have hr9 : Row (w5.alloc (.cells #[.int .i64 y0, .int .i64 y1, .int .i64 y2, .int .i64 y3, .int .i64 y4] 62)) (some ⟨w5.heap.size, 0, none⟩) (1 * 5) (cv (fun _ => ⟨y0, y1, y2, y3, y4⟩)) := row_new _ _ _ _ (fun i hi => by rcases (show i = 0 ∨ i = 1 ∨ i = 2 ∨ i = 3 ∨ i = 4 by omega) with rfl | rfl | rfl | rfl | rfl <;> rfl)
          have S9 := S6.alloc (.cells #[.int .i64 y0, .int .i64 y1, .int .i64 y2, .int .i64 y3, .int .i64 y4] 62)
          have og9 := og6.alloc (.cells #[.int .i64 y0, .int .i64 y1, .int .i64 y2, .int .i64 y3, .int .i64 y4] 62)
          have hs9 : g + 1 ≤ (w5.alloc (.cells #[.int .i64 y0, .int .i64 y1, .int .i64 y2, .int .i64 y3, .int .i64 y4] 62)).heap.size := by simp; omega
          go_wp2_with (at_builtin; go_must (refine wp_appK rfl (.tmp 98) (.tmp 100) _ rfl (g + 1) 62 i0 _ 5 40 Try.underlying26 hi0 hz0 hz1 hz2 rfl (by decide) _ k (cv (fun j => cellAt l2 (6 + 5 * j))) rfl m9 _ 1 _ (cv (fun _ => ⟨y0, y1, y2, y3, y4⟩)) rfl hr9 (fun i _ => cv_one _ i) HNM.out ?c2 hs9 ?_))
          case c2 => omega
          intro v' w6 m10 g10 q10
          have hgb : ∀ q, (Value.slice A k cc).ownBlock = some q → g + 1 ≤ q := fun q hq => (m9.lt q hq).1
          have bg := (Below.refl (g + 1) (w5.alloc (.cells #[.int .i64 y0, .int .i64 y1, .int .i64 y2, .int .i64 y3, .int .i64 y4] 62))).grown g10 hs9 hgb
          have S10 := S9.high bg (by omega)
          have og10 := below_own bg og9 (Nat.lt_succ_self g)
          have m11 : MineK w6 (g + 1) 62 5 v' (k + 1) (cv (fun j => cellAt l2 (6 + 5 * j))) := m10.ext (fun i hi => cv_snoc (L := fun j => cellAt l2 (6 + 5 * j)) (by show cellAt l2 (6 + 5 * k) = _; rw [HCA.out]) hi)
          have d3 := og10.cell 3
          have f3 := og10.free 3
          have og12 := og10.put 3 v'
          have S12 := S10.setHigh hg 3 v'
          have m12 := mineK_just m11 (Just.set g w6 3 v') (Nat.lt_succ_self g)
          have hs12 : g + 1 ≤ (w6.setCell ⟨g, 3, none⟩ v').heap.size := Nat.le_trans (Nat.le_trans hs9 bg.size) (Just.set g w6 3 v').size
          rw [show J + 5 = 8 + 5 * (k + 1) by have := HJ.out; omega] at S12
          obtain ⟨A', cc', rfl, _, _, _⟩ := m12.row
          clear S6 og6 oc6 mv6 hs6 k0 k1 k2 k3 k4 m9 hr9 S9 og9 hs9 m10 g10 q10 hgb bg S10 og10 m11
          go_wp2_with fail
          exact ⟨⟨k + 1, _, by simp, by omega, S12, og12, m12, HGN, hs12⟩, by simp [intOf]; omega⟩
    · obtain rfl : k = N := by omega
      have HE0 : Hid (giveE l = if n < 8 + 5 * k + 4 then 2 else if n ≠ 8 + 5 * k + 4 then 3 else 0) := Lib.hid (by
        have h8 := H8.out
        rw [HN.out] at h8
        rw [HGK.out, Nat.sub_self]
        unfold gE
        rw [HLEN.out]
        by_cases q1 : n < 8 + 5 * k + 4
        · rw [if_pos q1, if_pos (by omega)]
        · rw [if_neg q1, if_neg (by omega)]
          by_cases q2 : n = 8 + 5 * k + 4
          · rw [if_neg (by omega), if_neg (by omega)]
          · rw [if_pos (by omega), if_pos (by omega)])
      go_wp2_with fail
      refine (rdk_num (h + 2) l (8 + 5 * k) wr P HOB.out).mono ?_
      rintro r w9 ⟨rfl, r9, j9⟩
      obtain ⟨tg, htg⟩ : ∃ no, IntKind.u32.wrap (m4 (lft l (8 + 5 * k))) = no := ⟨_, rfl⟩
      have HTG := Lib.hid htg
      have S9 := (S.read r9 j9).setHigh hg 4 (.int .u32 tg)
      have o9 := (j9.own og (Nat.ne_of_gt hg)).put 4 (.int .u32 tg)
      have f1 := (j9.own og (Nat.ne_of_gt hg)).free 4
      have x1 := (j9.own og (Nat.ne_of_gt hg)).cell 4
      have m9 := mineK_just (mineK_just mv j9 (by omega)) (Just.set g w9 4 (.int .u32 tg)) (Nat.lt_succ_self g)
      clear S og mv r9 j9 P
      go_upto_region 24 with (fail)
      generalize w9.setCell ⟨g, 4, none⟩ (.int .u32 tg) = w10 at *
      clear f1 x1 htg
      have PE := rdk_end (h + 2) l (8 + 5 * k + 4) w10 S9.rd
      rw [HN.out, ← HE0.out] at PE
      obtain ⟨e, he0⟩ : ∃ e, giveE l = e := ⟨_, rfl⟩
      rw [he0] at PE
      have HE := Lib.hid he0
      clear he0
      by_cases he : e = 0
      · subst he
        have hR0 : giveR l = ⟨v1, cd, no, k, fun j => cellAt l2 (6 + 5 * j), tg⟩ := by
          have hl : n = 8 + 5 * k + 4 := by
            have := HE.out
            rw [HE0.out] at this
            by_cases q1 : n < 8 + 5 * k + 4
            · rw [if_pos q1] at this; cases this
            · rw [if_neg q1] at this
              by_cases q2 : n = 8 + 5 * k + 4
              · exact q2
              · rw [if_pos q2] at this; cases this
          unfold giveR giveR2
          rw [if_pos HE.out, HV.out, HL2.out, HCD2.out, HNO2.out]
          have e5 : l2.getD 5 0 = (k : Int) := by rw [← HL2.out, getD_drop]; exact HN7.out
          rw [e5, Int.toNat_natCast]
          have htg : n4 l2 (6 + 5 * k) = tg := by
            rw [← HTG.out, m4_lft (by rw [HN.out]; omega), ← HL2.out, n4_drop, show 2 + (6 + 5 * k) = 8 + 5 * k by omega, IntKind.wrap_u32]
            have := n4_in HOB.out (8 + 5 * k)
            unfold In32 at this
            omega
          rw [htg]
        have HR0 := Lib.hid hR0
        obtain ⟨A, cc, rfl, hkc, hcm, hrow⟩ := m9.row
        have hlow : ∀ p, A = some p → h ≤ p.block := fun p hp => by
          subst hp
          have := (m9.lt p.block rfl).1
          omega
        have HLOW := Lib.hid hlow
        have y0 := o9.cell 0
        have y1 := o9.cell 1
        have y2 := o9.cell 2
        have y3 := o9.cell 3
        have y4 := o9.cell 4
        have oo2 := S9.o2
        unfold Z5 at oo2
        have z0 := oo2.cell 0
        have z1 := oo2.cell 1
        have z2 := oo2.cell 2
        have z3 := oo2.cell 3
        have z4 := oo2.cell 4
        have q0 := oo2.free 0
        have q1 := oo2.free 1
        have q2 := oo2.free 2
        have q3 := oo2.free 3
        have q4 := oo2.free 4
        have HP := Lib.hid (S9.put (.int .i64 v1) (.int .i64 cd) (.int .u32 no) (.slice A k cc) (.int .u32 tg))
        have HB := Lib.hid S9.bb
        have HL := Lib.hid S9.le
        have HRW : Hid (∀ W, Just h w10 W → Row W A (k * 5) (cv (fun j => cellAt l2 (6 + 5 * j)))) := Lib.hid (fun W jW => row_just hrow jW (fun p hp e => by
          subst hp
          have := (m9.lt p.block rfl).1
          omega))
        have HKC := Lib.hid hkc
        have HCM := Lib.hid hcm
        clear S9 oo2 o9 m9 hrow hlow hR0 hkc hcm
        go_wp2_with fail
        refine PE.mono ?_
        rintro r w11 ⟨rfl, rfl⟩
        clear PE
        go_wp2_with fail
        refine bodyPost_ret (results_row_tmp rfl _ _ h 28 _ (0, 0) _ rfl HP.out.1 Try.underlying28 rfl (by kernel_rfl)) rfl ⟨?_, by rw [HH.out]; exact HP.out.2.below HB.out (Nat.le_refl _) HL.out⟩
        exact ⟨A, cc, by rw [HR0.out, HE.out]; rfl, by rw [HR0.out]; exact HKC.out, HCM.out, by rw [HR0.out]; exact HRW.out _ HP.out.2, by rw [HH.out]; exact HLOW.out⟩
      · have he2 : (e == 0) = false := by simpa using he
        have he3 : (e != 0) = true := by simpa using he
        have HEN0 := Lib.hid he
        clear he m9 o9
        have oo4 := S9.o4
        have oo2 := S9.o2
        unfold Z5 at oo4 oo2
        have y0 := oo4.cell 0
        have y1 := oo4.cell 1
        have y2 := oo4.cell 2
        have y3 := oo4.cell 3
        have y4 := oo4.cell 4
        have z0 := oo2.cell 0
        have z1 := oo2.cell 1
        have z2 := oo2.cell 2
        have z3 := oo2.cell 3
        have z4 := oo2.cell 4
        have q0 := oo2.free 0
        have q1 := oo2.free 1
        have q2 := oo2.free 2
        have q3 := oo2.free 3
        have q4 := oo2.free 4
        have HP := Lib.hid (S9.put (.int .i64 0) (.int .i64 0) (.int .u32 0) (.slice none 0 0) (.int .u32 0))
        have HB := Lib.hid S9.bb
        have HL := Lib.hid S9.le
        clear S9 oo2 oo4
        go_wp2_with fail
        refine PE.mono ?_
        rintro r w11 ⟨rfl, rfl⟩
        clear PE
        go_wp2_with fail
        refine bodyPost_ret (results_row_tmp rfl _ _ h 28 _ (0, 0) _ rfl HP.out.1 Try.underlying28 rfl (by kernel_rfl)) rfl ⟨?_, by rw [HH.out]; exact HP.out.2.below HB.out (Nat.le_refl _) HL.out⟩
        exact gnp_err HE.out HEN0.out
end Go.Proofs.Ytphiohdhgkpgnaa.Jo
set_option maxRecDepth 100000
namespace Go.Proofs.Ytphiohdhgkpgnaa.Jo
set_option linter.unusedVariables false
open Go.RowKit Lb Go.Shelf Bf Se Cl

theorem rgiven_any (a : Option Addr) (c : Nat) (l : List Int) (w : World) (hR : Bs w a c l) (hB : okB l) :
    Calls Try.prog 17 #[.slice a l.length c] w fun r w' => GnP w.heap.size l r w' ∧ Below w.heap.size w w' := by
  by_cases h1 : 1 ≤ l.length
  · by_cases h2 : l.getD 0 0 = 71
    · by_cases h3 : 2 ≤ l.length
      · cases h4 : nodeB (l.getD 1 0) with
        | false => exact rgiven_node a c l w h3 h2 h4 hR hB
        | true =>
          by_cases h5 : 8 ≤ l.length
          · by_cases h6 : l.getD 7 0 ≤ 8
            · exact rgiven_main a c l w h5 h2 h4 h6 hR hB
            · exact rgiven_many a c l w h5 h2 h4 (by omega) hR hB
          · exact rgiven_short a c l w (by omega) (fun _ => h2) (fun _ => h4) hR hB
      · exact rgiven_short a c l w (by omega) (fun _ => h2) (fun h => absurd h h3) hR hB
    · exact rgiven_mark a c l w h1 h2 hR hB
  · exact rgiven_short a c l w (by omega) (fun h => absurd h h1) (fun h => absurd h (by omega)) hR hB
theorem xor_in {z x : Int} (hz : 0 ≤ z ∧ z < 256) (hx : 0 ≤ x ∧ x < 256) : 0 ≤ bits .xor .u8 z x ∧ bits .xor .u8 z x < 256 := by
  have hlt : z.toNat ^^^ x.toNat < 2 ^ 8 := Nat.xor_lt_two_pow (by omega) (by omega)
  rw [u8_xor _ _ hz.1 hz.2 hx.1 hx.2]
  exact ⟨by omega, by omega⟩
set_option maxHeartbeats 2000000 in
theorem bent_any (a : Option Addr) (c : Nat) (l : List Int) (A : Option Addr) (m C : Nat) (Z : Nat → Int) (x cut : Int) (w : World) (hl : l.length ≤ 1000) (hR : Bs w a c l) (hB : okB l) (hm : m ≤ C) (hC : C ≤ maxLen) (hZ : Row w A m (fun i => .int .i64 (Z i))) (hx : 0 ≤ x ∧ x < 256) :
    Calls Try.prog 13 #[.slice a l.length c, .slice A m C, .int .u8 x, .int .i64 cut] w fun r w' => ∃ a' c' l', r = .returned (.slice a' l'.length c') ∧ Bs w' a' c' l' ∧ okB l' ∧ l'.length ≤ l.length ∧ Below w.heap.size w w' := by
  have hrow := hR.row
  have hle := hR.le
  have hcap := hR.cap
  obtain ⟨n, hn⟩ : ∃ n, l.length = n := ⟨_, rfl⟩
  have HN := Lib.hid hn
  rw [hn] at hrow hle hl ⊢
  unfold maxLen at hcap hC
  have hn63 : (n : Int) ≤ 9223372036854775807 := by omega
  have hc63 : (c : Int) ≤ 9223372036854775807 := by omega
  have hm63 : (m : Int) ≤ 9223372036854775807 := by omega
  have hC63 : (C : Int) ≤ 9223372036854775807 := by omega
  obtain ⟨i0, hi0, hz0, hz1, hz2⟩ := info_parts info8'
  have HB := Lib.hid hB
  have b1 := (Below.refl w.heap.size w).alloc (Nat.le_refl _) (.cells #[] 5)
  have o1 := Own.new w 5 #[]
  have m1 : Mine (w.alloc (.cells #[] 5)) w.heap.size 5 (.slice (some ⟨w.heap.size, 0, none⟩) 0 0) 0 (bval []) := Mine.made o1 (Nat.le_refl _) (by decide) (Nat.le_refl _) (fun i hi => absurd hi (by omega))
  have r1 := Lib.hid (hrow.below b1)
  have hnm : Hid (0 + n ≤ maxLen) := Lib.hid (by unfold maxLen; omega)
  clear hn hB hR hrow o1
  go_enter Try.func13, Try.ntmps13
  go_wp2_with (at_builtin; go_must (refine wp_app rfl (.tmp 12) (.tmp 13) _ rfl w.heap.size 5 i0 _ 1 Try.underlying30 hi0 hz0 hz1 hz2 rfl _ 0 (bval []) rfl m1 _ n _ (bval l) rfl r1.out (fun _ _ => rfl) hnm.out ?c2 ?c3 ?_))
  case c2 => omega
  case c3 => simp
  intro v' w2 m2 g2
  have m3 : Mine w2 w.heap.size 5 v' n (bval l) := by
    have m2 : Mine w2 w.heap.size 5 v' (0 + n) (fun i => if i < 0 then bval [] i else bval l (i - 0)) := by first | exact m2 | simpa using m2
    rw [Nat.zero_add] at m2
    exact m2.ext (fun i hi => by rw [if_neg (by omega)]; rfl)
  have b2 : Below w.heap.size w w2 := b1.grown g2 (by simp) (fun q hq => (m1.lt q hq).1)
  have hs2 : w.heap.size ≤ w2.heap.size := b2.size
  have HZ := Lib.hid hZ
  clear m1 m2 g2 b1 r1 hnm hZ
  obtain ⟨h, hh⟩ : ∃ h, w.heap.size = h := ⟨_, rfl⟩
  have HH := Lib.hid hh
  rw [hh] at m3 b2 hs2
  clear hh
  by_cases h0 : n = 0
  · subst h0
    obtain ⟨va, vc, rfl, _, hvm, _⟩ := m3.row
    unfold maxLen at hvm
    have hv63 : (vc : Int) ≤ 9223372036854775807 := by omega
    clear m3
    go_wp2_with fail
    go_ret
    exact ⟨va, vc, [], rfl, ⟨Nat.zero_le _, by unfold maxLen; omega, Row.nil _ _ _⟩, okB_nil, Nat.le_refl _, by rw [HH.out]; exact b2⟩
  · obtain ⟨g, cs, rfl, hgb, og, hnc, hcm, _⟩ := m3.block (by omega)
    have hp : 0 < n := by omega
    have hp' : (0 : Int) < (n : Int) := by omega
    have e0 : decide (0 < n) = true := by simp; omega
    have e1 : decide ((0 : Int) < (n : Int)) = true := by simp; omega
    obtain ⟨cp, hcp⟩ : ∃ cp, cs.size = cp := ⟨_, rfl⟩
    rw [hcp] at m3 hnc hcm ⊢
    unfold maxLen at hcm
    have hcp63 : (cp : Int) ≤ 9223372036854775807 := by omega
    clear og hcp h0
    go_wp2_with fail
    go_loopw [21] (fun i wr => ∃ (k : Nat) (l' : List Int), i = .int .i64 (k : Int) ∧ k ≤ m ∧ Hid (l'.length = n) ∧ Hid (okB l') ∧ Mine wr h 5 (.slice (some ⟨g, 0, none⟩) n cp) n (bval l') ∧ Below h w wr ∧ h ≤ wr.heap.size) (fun i _ => m - (intOf i).toNat)
    case atStart => exact ⟨0, l, rfl, Nat.zero_le _, HN, HB, m3, b2, hs2⟩
    case round =>
      clear m3 b2 hs2
      obtain ⟨k, l', rfl, hk, HL', HB', m3, b2, hs2⟩ := hrel
      by_cases hlt : k < m
      · obtain ⟨rb, ro, rfl, _, hrc⟩ := (HZ.out.below (by rw [HH.out]; exact b2)) (by omega)
        have d0 : wr.cell? ⟨rb, ro + k, none⟩ = some (.int .i64 (Z k)) := hrc k hlt
        have hq0 := u64_pos (Z k)
        clear hrc
        by_cases h3 : k < 3
        · have e3 : decide (k < 3) = true := by simp; omega
          have e3' : decide ((k : Int) < 3) = true := by simp; omega
          obtain ⟨q, hq⟩ : ∃ q, IntKind.u64.wrap (Z k) = q := ⟨_, rfl⟩
          rw [hq] at hq0
          obtain ⟨j, hj⟩ : ∃ j : Nat, q % (n : Int) = (j : Int) := ⟨(q % (n : Int)).toNat, by have := Int.emod_nonneg q (by omega : (n : Int) ≠ 0); omega⟩
          have hjn : j < n := by have := Int.emod_lt_of_pos q hp'; omega
          obtain ⟨_, _, c00, f0⟩ := m3.at_ hjn
          have hz := okB_at HB'.out j
          have c0 : wr.cell? ⟨g, j, none⟩ = some (.int .u8 (l'.getD j 0)) := c00
          clear c00
          have hx1 := xor_in hz hx
          obtain ⟨z, hz'⟩ : ∃ z, l'.getD j 0 = z := ⟨_, rfl⟩
          rw [hz'] at c0 hx1
          obtain ⟨y, hy⟩ : ∃ y, bits .xor .u8 z x = y := ⟨_, rfl⟩
          rw [hy] at hx1
          have HY := Lib.hid hx1
          have m4 := Lib.hid (m3.store hjn (.int .u8 y))
          have j4 := Just.set g wr j (.int .u8 y)
          have b4 := Lib.hid (j4.below b2 hgb hs2)
          have s4 := Nat.le_trans hs2 j4.size
          clear m3 hz hz' hx1 j4 b2 hs2
          go_wp2_with fail
          refine ⟨⟨k + 1, l'.set j y, by simp, by omega, Lib.hid (by rw [List.length_set]; exact HL'.out), Lib.hid (okB_set HB'.out j HY.out), m4.out.ext (fun i hi => ?_), b4.out, s4⟩, by simp [intOf]; omega⟩
          unfold bval
          rw [getD_setL]
          by_cases e : i = j
          · rw [if_pos e, if_pos ⟨e.symm, by rw [HL'.out]; omega⟩]
          · rw [if_neg e, if_neg (fun q => e q.1.symm)]
        · have e3 : decide (k < 3) = false := by simp; omega
          have e3' : decide ((k : Int) < 3) = false := by simp; omega
          go_wp2_with fail
          exact ⟨⟨k + 1, l', by simp, by omega, HL', HB', m3, b2, hs2⟩, by simp [intOf]; omega⟩
      · obtain rfl : k = m := by omega
        obtain ⟨q, hq⟩ : ∃ q, IntKind.u64.wrap cut = q := ⟨_, rfl⟩
        have hq0 := u64_pos cut
        rw [hq] at hq0
        obtain ⟨j, hj⟩ : ∃ j : Nat, q % (n : Int) = (j : Int) := ⟨(q % (n : Int)).toNat, by have := Int.emod_nonneg q (by omega : (n : Int) ≠ 0); omega⟩
        have hjn : j < n := by have := Int.emod_lt_of_pos q hp'; omega
        go_wp2_with fail
        go_ret
        obtain ⟨_, _, hBs⟩ : True ∧ True ∧ Row wr (some ⟨g, 0, none⟩) n (bval l') := ⟨trivial, trivial, m3.rowAt⟩
        have hlen := HL'.out
        refine ⟨some ⟨g, 0, none⟩, cp, l'.take (n - j), ?_, ⟨by rw [List.length_take]; omega, by unfold maxLen; omega, ?_⟩, okB_take HB'.out _, by rw [List.length_take]; omega, by rw [HH.out]; exact b2⟩
        · rw [List.length_take, show min (n - j) l'.length = n - j by omega]
          rfl
        · rw [List.length_take, show min (n - j) l'.length = n - j by omega]
          refine fun h0 => ?_
          obtain ⟨b1, o1, e1, e2, e3⟩ := hBs hp
          exact ⟨b1, o1, e1, e2, fun i hi => by rw [e3 i (by omega)]; unfold bval; rw [List.getD_eq_getElem?_getD, List.getD_eq_getElem?_getD, List.getElem?_take, if_pos hi]⟩
end Go.Proofs.Ytphiohdhgkpgnaa.Jo
set_option maxRecDepth 100000
namespace Go.Proofs.Ytphiohdhgkpgnaa.Jo
set_option linter.unusedVariables false
open Go.RowKit Go.ChangeShapes Go.WideShapes Go.ChangeAt Go.Deep Lb Go.Shelf Bf Se Cl

section
variable {H : Type} {enc : TypeId × Value → H} {w : World} {base : Nat}
theorem open_cellsAt {v : Value} {fuel : Nat} {y : DataW H × List MemPlace} (hf : DataW.trod enc Try.prog w 0 (fun _ => true) true fuel 26 [v] = some y) :
    ∃ a n c L, v = .slice a n c ∧ n ≤ c ∧ c ≤ maxLen ∧ Row w a (n * 5) (cv L) := by
  obtain ⟨a, n, c, V, rfl, hn, hm, hV, hf⟩ := open_cell_struct Try.underlying26 Try.underlying62 (by kernel_rfl) (by kernel_rfl) (by decide) hf
  obtain ⟨X0, e0⟩ := field_int (n := n) (m := 5) (j := 0) Try.underlying3 (fun i hi => hf i hi 0 _ rfl)
  obtain ⟨X1, e1⟩ := field_int (n := n) (m := 5) (j := 1) Try.underlying3 (fun i hi => hf i hi 1 _ rfl)
  obtain ⟨X2, e2⟩ := field_int (n := n) (m := 5) (j := 2) Try.underlying3 (fun i hi => hf i hi 2 _ rfl)
  obtain ⟨X3, e3⟩ := field_int (n := n) (m := 5) (j := 3) Try.underlying3 (fun i hi => hf i hi 3 _ rfl)
  obtain ⟨X4, e4⟩ := field_int (n := n) (m := 5) (j := 4) Try.underlying3 (fun i hi => hf i hi 4 _ rfl)
  refine ⟨a, n, c, fun k => ⟨X0 k, X1 k, X2 k, X3 k, X4 k⟩, rfl, hn, hm, fun h0 => ?_⟩
  obtain ⟨b, off, h1, h2, h3⟩ := hV h0
  refine ⟨b, off, h1, h2, fun q hq => (h3 q hq).trans (congrArg some ?_)⟩
  have hk : q / 5 < n := by have hq2 : q < n * 5 := hq; omega
  have hq5 : q / 5 * 5 + q % 5 = q := by omega
  unfold cv
  rcases (show q % 5 = 0 ∨ q % 5 = 1 ∨ q % 5 = 2 ∨ q % 5 = 3 ∨ q % 5 = 4 by omega) with h | h | h | h | h
  · rw [h]; rw [h] at hq5; have := (e0 _ hk).1; rw [hq5] at this; rw [this]; rfl
  · rw [h]; rw [h] at hq5; have := (e1 _ hk).1; rw [hq5] at this; rw [this]; rfl
  · rw [h]; rw [h] at hq5; have := (e2 _ hk).1; rw [hq5] at this; rw [this]; rfl
  · rw [h]; rw [h] at hq5; have := (e3 _ hk).1; rw [hq5] at this; rw [this]; rfl
  · rw [h]; rw [h] at hq5; have := (e4 _ hk).1; rw [hq5] at this; rw [this]; rfl
theorem open_grant {v : Value} {d : DataW H} {pl : List MemPlace} (hv : Value.okWide Try.prog w .any base 28 v)
    (h : DataW.Trod enc Try.prog w 0 (fun _ => true) true 28 v d pl) :
    ∃ (g : Gt) (a : Option Addr) (c : Nat), v = .agg (g.vals a c) ∧ In32 g.no ∧ g.n ≤ c ∧ c ≤ maxLen ∧ Row w a (g.n * 5) (cv g.L) := by
  have hC : Try.prog.cellsOf 28 = 5 := by kernel_rfl
  have hI : Try.prog.cellsOf 3 = 1 := by kernel_rfl
  have hU : Try.prog.cellsOf 23 = 1 := by kernel_rfl
  have hS : Try.prog.cellsOf 26 = 1 := by kernel_rfl
  obtain ⟨cs, rfl, hsz⟩ := okWide_struct Try.underlying28 hv
  rw [hC] at hsz
  obtain ⟨l⟩ := cs
  match l, hsz with
  | [x0, x1, x2, x3, x4], _ =>
  obtain ⟨fuel, hf⟩ := h
  obtain ⟨xs, k, _, _, _, hlen, hfs⟩ := DataW.trod_struct Try.underlying28 hf
  match xs, hlen with
  | [y0, y1, y2, y3, y4], _ =>
  obtain ⟨z0, e0, _, w0⟩ := DataW.trod_int Try.underlying3 (hfs 0 _ rfl)
  obtain ⟨z1, e1, _, w1⟩ := DataW.trod_int Try.underlying3 (hfs 1 _ rfl)
  obtain ⟨z2, e2, _, w2⟩ := DataW.trod_int Try.underlying23 (hfs 2 _ rfl)
  have e3 := hfs 3 _ rfl
  obtain ⟨z4, e4, _, w4⟩ := DataW.trod_int Try.underlying23 (hfs 4 _ rfl)
  simp [Value.cells, hI, hS, hU] at e0 e1 e2 e3 e4
  subst e0 e1 e2 e4
  obtain ⟨a, n, c, L, rfl, g1, g2, g3⟩ := open_cellsAt e3
  exact ⟨⟨z0, z1, z2, n, L, z4⟩, a, c, rfl, u32_bd w2, g1, g2, g3⟩
theorem open_request {v : Value} {d : DataW H} {pl : List MemPlace} (hv : Value.okWide Try.prog w .any base 25 v)
    (h : DataW.Trod enc Try.prog w 0 (fun _ => true) true 25 v d pl) :
    ∃ r : Rq, v = .agg r.vals ∧ r.wide := by
  have hC : Try.prog.cellsOf 25 = 5 := by kernel_rfl
  have hI : Try.prog.cellsOf 3 = 1 := by kernel_rfl
  have hU : Try.prog.cellsOf 23 = 1 := by kernel_rfl
  obtain ⟨cs, rfl, hsz⟩ := okWide_struct Try.underlying25 hv
  rw [hC] at hsz
  obtain ⟨l⟩ := cs
  match l, hsz with
  | [x0, x1, x2, x3, x4], _ =>
  obtain ⟨fuel, hf⟩ := h
  obtain ⟨xs, k, _, _, _, hlen, hfs⟩ := DataW.trod_struct Try.underlying25 hf
  match xs, hlen with
  | [y0, y1, y2, y3, y4], _ =>
  obtain ⟨z0, e0, _, w0⟩ := DataW.trod_int Try.underlying3 (hfs 0 _ rfl)
  obtain ⟨z1, e1, _, w1⟩ := DataW.trod_int Try.underlying3 (hfs 1 _ rfl)
  obtain ⟨z2, e2, _, w2⟩ := DataW.trod_int Try.underlying23 (hfs 2 _ rfl)
  obtain ⟨z3, e3, _, w3⟩ := DataW.trod_int Try.underlying23 (hfs 3 _ rfl)
  obtain ⟨z4, e4, _, w4⟩ := DataW.trod_int Try.underlying23 (hfs 4 _ rfl)
  simp [Value.cells, hI, hU] at e0 e1 e2 e3 e4
  subst e0 e1 e2 e3 e4
  exact ⟨⟨z0, z1, z2, z3, z4⟩, rfl, u32_bd w2, u32_bd w3⟩
theorem list_of (n : Nat) (Z : Nat → Int) : ∃ l : List Int, l.length = n ∧ ∀ i, i < n → l.getD i 0 = Z i :=
  ⟨(List.range n).map Z, by simp, fun i hi => by simp [List.getD, hi]⟩
theorem open_bytes {v : Value} {d : DataW H} {p : List MemPlace} (hv : Value.okWide Try.prog w .any base 30 v)
    (h : DataW.Trod enc Try.prog w 0 (fun _ => true) true 30 v d p) :
    ∃ a, ∃ l : List Int, ∃ c, v = .slice a l.length c ∧ l.length ≤ c ∧ c ≤ maxLen ∧ Row w a l.length (bval l) ∧ okB l := by
  obtain ⟨a, n, c, Z, rfl, h1, h2, h3, h4⟩ := open_row_int Try.underlying30 Try.underlying5 (by kernel_rfl) hv h
  obtain ⟨l, hl, hz⟩ := list_of n Z
  refine ⟨a, l, c, by rw [hl], by rw [hl]; exact h1, h2, ?_, fun x hx => ?_⟩
  · intro h0
    rw [hl] at h0 ⊢
    obtain ⟨b, off, h1, h2, h3⟩ := h3 h0
    exact ⟨b, off, h1, h2, fun i hi => by rw [h3 i hi]; unfold bval; rw [hz i hi]⟩
  obtain ⟨i, hi, e⟩ := List.getElem_of_mem hx
  have := Lb.u8_bd (h4 i)
  have e2 := hz i (by omega)
  rw [List.getD_eq_getElem?_getD, List.getElem?_eq_getElem hi] at e2
  simp only [Option.getD_some] at e2
  rw [← e, e2]
  exact this
end
end Go.Proofs.Ytphiohdhgkpgnaa.Jo
