/-
  Package neigh's Report: the links to those that are heard well enough, the best ones first.
-/
import Derived.Test.YtpapkcelgbnkaaaNeighSort
import Derived.Test.YtpapkcelgbnkaaaOwnK
import Derived.Deep.Cut
set_option maxRecDepth 100000
namespace Go.Proofs.Ytpapkcelgbnkaaa.Ng
set_option linter.unusedVariables false
open Go.RowKit Lb Go.Sort

def pairs (Q : Nat → Int) (least : Int) : Nat → List (Int × Int)
  | 0 => []
  | k + 1 => pairs Q least k ++ if 0 < Q k ∧ least ≤ Q k then [((k : Int), Q k)] else []
def pv (me : Int) (l : List (Int × Int)) (q : Nat) : Value := ((encM me (l.getD (q / 3) (0, 0)))[q % 3]?).getD undef
def srt (Q : Nat → Int) (least : Int) : List (Int × Int) := (pairs Q least 16).mergeSort fun x y => !(ltOf cfM) y x
theorem srt_len (Q : Nat → Int) (least : Int) : (srt Q least).length = (pairs Q least 16).length := by unfold srt; simp
theorem pairs_len (Q : Nat → Int) (least : Int) : ∀ k, (pairs Q least k).length ≤ k
  | 0 => by simp [pairs]
  | k + 1 => by
    have := pairs_len Q least k
    unfold pairs
    rw [List.length_append]
    split
    · simp only [List.length_cons, List.length_nil]; omega
    · simp only [List.length_nil]; omega
theorem pairs_not {Q : Nat → Int} {least : Int} {k : Nat} (h : ¬ (0 < Q k ∧ least ≤ Q k)) : pairs Q least (k + 1) = pairs Q least k := by
  show pairs Q least k ++ _ = _
  rw [if_neg h, List.append_nil]
theorem pairs_yes {Q : Nat → Int} {least : Int} {k : Nat} (h : 0 < Q k ∧ least ≤ Q k) : pairs Q least (k + 1) = pairs Q least k ++ [((k : Int), Q k)] := by
  show pairs Q least k ++ _ = _
  rw [if_pos h]
theorem pv_snoc (me : Int) (l : List (Int × Int)) (x : Int × Int) (q : Nat) (h : q < (l.length + 1) * 3) : (if q < l.length * 3 then pv me l q else pv me [x] (q - l.length * 3)) = pv me (l ++ [x]) q := by
  unfold pv
  by_cases h1 : q < l.length * 3
  · rw [if_pos h1, List.getD_eq_getElem?_getD, List.getD_eq_getElem?_getD, List.getElem?_append_left (by omega)]
  · have e1 : q / 3 = l.length := by omega
    have e2 : (q - l.length * 3) / 3 = 0 := by omega
    have e3 : (q - l.length * 3) % 3 = q % 3 := by omega
    rw [if_neg h1, e1, e2, e3]
    simp
theorem pv_one (me : Int) (l : List (Int × Int)) (q : Nat) : (pv me l q).oneCell' = true := by
  unfold pv encM
  rcases (show q % 3 = 0 ∨ q % 3 = 1 ∨ q % 3 = 2 by omega) with h | h | h <;> rw [h] <;> rfl
theorem infoL : (Try.prog.info? 41).map (fun i => (i.zero, i.size, i.bytes)) = some (some (.agg #[.int .i64 0, .int .i64 0, .int .i64 0]), 3, 24) := by kernel_rfl
theorem flat_pv {me : Int} {l : List (Int × Int)} {j : Nat} (hj : j < l.length * 3) : (flatK (encM me) 3 l.toArray)[j]! = pv me l j := by
  have hi : j / 3 < l.length := by omega
  rw [get_flatK _ _ _ _ (by simpa using hj)]
  have e : l.toArray[j / 3]! = l.getD (j / 3) (0, 0) := by
    rw [List.getD_eq_getElem?_getD, List.getElem?_eq_getElem hi, getElem!_pos l.toArray (j / 3) (by simpa using hi)]
    rfl
  unfold pv
  rw [e]
  unfold encM
  rcases (show j % 3 = 0 ∨ j % 3 = 1 ∨ j % 3 = 2 by omega) with h | h | h <;> rw [h] <;> rfl
theorem holds_pv {w : World} {g : Nat} {e : TypeId} {cs : Array Value} {me : Int} {l : List (Int × Int)} (h : Own w g e cs) (hc : ∀ i, i < l.length * 3 → cs[i]? = some (pv me l i)) : HoldsK (encM me) 3 w g 0 l.toArray := by
  intro j hj
  have hj2 : j < l.length * 3 := by simpa using hj
  refine ⟨?_, h.free _⟩
  rw [Nat.zero_add, h.cell, hc j hj2, flat_pv hj2]
  rfl
theorem row_pv {w : World} {g : Nat} {me : Int} {l : List (Int × Int)} (h : HoldsK (encM me) 3 w g 0 l.toArray) (hg : g < w.heap.size) : Row w (some ⟨g, 0, none⟩) (l.length * 3) (pv me l) := by
  intro _
  refine ⟨g, 0, rfl, hg, fun j hj => ?_⟩
  have := (h j (by simpa using hj)).1
  rw [this, flat_pv hj]
  rfl
theorem index_q (Q : Nat → Int) (k : Nat) (hk : k < 16) (w : World) : (Instr.index 45 (.agg #[.int .i64 (Q 0), .int .i64 (Q 1), .int .i64 (Q 2), .int .i64 (Q 3), .int .i64 (Q 4), .int .i64 (Q 5), .int .i64 (Q 6), .int .i64 (Q 7), .int .i64 (Q 8), .int .i64 (Q 9), .int .i64 (Q 10), .int .i64 (Q 11), .int .i64 (Q 12), .int .i64 (Q 13), .int .i64 (Q 14), .int .i64 (Q 15)]) (.int .i64 (k : Int))).run Try.prog w = .ok (.int .i64 (Q k)) w := by
  rcases (show k = 0 ∨ k = 1 ∨ k = 2 ∨ k = 3 ∨ k = 4 ∨ k = 5 ∨ k = 6 ∨ k = 7 ∨ k = 8 ∨ k = 9 ∨ k = 10 ∨ k = 11 ∨ k = 12 ∨ k = 13 ∨ k = 14 ∨ k = 15 by omega) with rfl | rfl | rfl | rfl | rfl | rfl | rfl | rfl | rfl | rfl | rfl | rfl | rfl | rfl | rfl | rfl <;> kernel_rfl
set_option maxHeartbeats 1000000 in
theorem report_any (b : Nat) (me : Int) (Q : Nat → Int) (x y : Int) (w : World) (h : Tb w b 47 me Q) (hg : Good Q) (hy : 0 < y) :
    Calls Try.prog 18 #[.pointer (some ⟨b, 0, none⟩), .int .i64 x, .int .i64 y] w fun r w' => ∃ a m c, r = .returned (.slice a m c) ∧ (m : Int) = min y (pairs Q x 16).length ∧ m ≤ c ∧ c ≤ maxLen ∧ Row w' a (m * 3) (pv me (srt Q x)) ∧ Below w.heap.size w w' := by
  obtain ⟨cs, hcs⟩ : ∃ cs : List Value, cs = (List.range 16).map (fun i => Value.int .i64 (Q i)) := ⟨_, rfl⟩
  have hl : cs.length = 16 := by rw [hcs]; simp
  have hr : Hid (w.rangeAt b 1 cs) := Lib.hid (fun j v hv => by
    rw [hcs] at hv
    have hj : j < 16 := by
      have := (List.getElem?_eq_some_iff.1 hv).1
      simpa using this
    rw [h.q hj]
    simpa [hj] using hv)
  have c0 := h.me
  go_enter Try.func18, Try.ntmps18
  go_wp2_with (refine wpList_load_mid rfl 45 _ rfl b 1 rfl cs _ hr.out Try.underlying45 rfl (by rw [hl]; kernel_rfl) ?_)
  go_wp2_with fail
  obtain ⟨i0, hi0, hz0, hz1, hz2⟩ := info_parts infoL
  go_loopw [20, 7] (fun i v wr => ∃ k : Nat, i = .int .i64 k ∧ k ≤ 16 ∧ MineK wr w.heap.size 41 3 v (pairs Q x k).length (pv me (pairs Q x k)) ∧ Tb wr b 47 me Q ∧ Below w.heap.size w wr) (fun i _ _ => 16 - (intOf i).toNat)
  case atStart => exact ⟨0, rfl, by omega, MineK.nil _ _ _ _ _, h, Below.refl _ _⟩
  case round =>
    have hbl := h.lt
    clear h c0
    obtain ⟨k, rfl, hk, hv, h2, bb⟩ := hrel
    by_cases hlt : k < 16
    · have g1 : (k : Int) < 16 := by omega
      have hix := index_q Q k hlt
      have c0 := h2.me
      have hl := pairs_len Q x k
      obtain ⟨q, hq⟩ : ∃ q, Q k = q := ⟨_, rfl⟩
      have HQ := Lib.hid hq
      rw [hq] at hix
      clear hq
      by_cases h1 : 0 < q
      · by_cases h3 : x ≤ q
        · have HF := Lib.hid (pairs_yes (Q := Q) (least := x) (k := k) (by rw [HQ.out]; exact ⟨h1, h3⟩))
          have hm : (pairs Q x k).length + 1 ≤ maxLen := by unfold maxLen; omega
          have Hm := Lib.hid hm
          clear hm
          go_wp2_with (at_builtin; go_must (refine wp_appK rfl (.tmp 31) (.tmp 39) _ rfl w.heap.size 41 i0 _ 3 24 Try.underlying33 hi0 hz0 hz1 hz2 rfl (by decide) _ (pairs Q x k).length (pv me (pairs Q x k)) rfl (hv.alloc _) _ 1 _ (pv me [((k : Int), q)]) rfl (row_new _ _ _ _ (fun i hi => by rcases (show i = 0 ∨ i = 1 ∨ i = 2 by omega) with rfl | rfl | rfl <;> rfl)) (fun i _ => pv_one me _ i) Hm.out ?c2 ?c3 ?_))
          case c2 => omega
          case c3 => have := bb.size; first | omega | (simp; omega)
          intro v' w2 hv2 hg2 _
          have b2 : Below w.heap.size w w2 := (bb.alloc bb.size _).grown hg2 (by have := bb.size; simp; omega) (fun q hq => (hv.lt q hq).1)
          have hh2 := grown_own hg2 (Own.alloc h2 _) (by
            intro e
            have := (hv.lt _ e).1
            omega)
          have hv3 : MineK w2 w.heap.size 41 3 v' (pairs Q x (k + 1)).length (pv me (pairs Q x (k + 1))) := by
            rw [HF.out, HQ.out, List.length_append]
            exact hv2.ext (fun q hq => pv_snoc me _ _ _ hq)
          clear hv hv2 h2 hix
          go_wp2_with fail
          exact ⟨⟨k + 1, by simp [intOf], by omega, hv3, hh2, b2⟩, by simp [intOf]; omega⟩
        · have HF := Lib.hid (pairs_not (Q := Q) (least := x) (k := k) (by rw [HQ.out]; omega))
          have h4 : decide (x ≤ q) = false := by simp; omega
          clear h3
          go_wp2_with fail
          exact ⟨⟨k + 1, by simp [intOf], by omega, by rw [HF.out]; exact hv, h2, bb⟩, by simp [intOf]; omega⟩
      · have HF := Lib.hid (pairs_not (Q := Q) (least := x) (k := k) (by rw [HQ.out]; omega))
        have h4 : q ≤ 0 := by omega
        clear h1
        go_wp2_with fail
        exact ⟨⟨k + 1, by simp [intOf], by omega, by rw [HF.out]; exact hv, h2, bb⟩, by simp [intOf]; omega⟩
    · obtain rfl : 16 = k := by omega
      go_wp2_with fail
      rcases Nat.eq_zero_or_pos (pairs Q x 16).length with h0 | h0
      · obtain ⟨ga, gc, rfl, hc1, hc2, hR⟩ := hv.row
        rw [h0] at hc1 hR ⊢
        have hs0 : (0 : Int) < y := hy
        refine (AnyF.slices_SortFunc_none { sortL with } ga gc _ wr).mono ?_
        rintro r w5 ⟨rfl, rfl⟩
        have em : min y (0 : Int) = 0 := by omega
        go_wp2_with fail
        go_ret
        exact ⟨ga, 0, gc, rfl, by rw [h0]; omega, Nat.zero_le _, hc2, by rw [Nat.zero_mul]; exact Row.nil _ _ _, bb⟩
      · obtain ⟨g, c, cs', rfl, hgb, ho, hnc, hcm, hcs3, hcv⟩ := hv.block h0
        have hH := holds_pv ho hcv
        have hsz : (pairs Q x 16).toArray.size = (pairs Q x 16).length := by simp
        refine (sort_any me g c (pairs Q x 16).toArray _ hH ho.lt (by rw [hsz]; have := pairs_len Q x 16; omega)).mono ?_
        rintro r w5 ⟨rfl, hS, j5⟩
        have hR := row_pv (l := srt Q x) hS (Nat.lt_of_lt_of_le ho.lt j5.size)
        have b5 := j5.below bb hgb bb.size
        generalize hnn : (pairs Q x 16).length = nn at *
        by_cases hyn : y ≤ (nn : Int)
        · obtain ⟨m, rfl⟩ := Int.eq_ofNat_of_zero_le (show 0 ≤ y by omega)
          go_wp2_with fail
          go_ret
          exact ⟨some ⟨g, 0, none⟩, (min (m : Int) (nn : Int)).toNat, c, rfl, by rw [hnn]; omega, by omega, hcm, hR.cut (by rw [srt_len, hnn]; omega), b5⟩
        · have em : min y (nn : Int) = (nn : Int) := by omega
          have hyn2 : (nn : Int) < y := by omega
          clear hyn
          go_wp2_with fail
          go_ret
          exact ⟨_, nn, _, rfl, by rw [hnn]; omega, hnc, hcm, hR.cut (by rw [srt_len, hnn]; omega), b5⟩
end Go.Proofs.Ytpapkcelgbnkaaa.Ng
