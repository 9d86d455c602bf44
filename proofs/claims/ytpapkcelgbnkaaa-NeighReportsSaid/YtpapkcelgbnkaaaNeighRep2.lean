/-
  The reference's report; two rows of links that are alike.
-/
import Derived.Test.YtpapkcelgbnkaaaNeighRef
import Derived.BigQuiet
set_option maxRecDepth 100000
namespace Go.Proofs.Ytpapkcelgbnkaaa.Ng
set_option linter.unusedVariables false
open Go.RowKit Lb Go.Sort

/-- The rows behind the first k qualities and the first j nodes of the next one. -/
def part (Q : Nat → Int) (least : Int) (k j : Nat) : List (Int × Int) := tiers Q least k ++ if least ≤ 255 - (k : Int) then lvl Q (255 - k) j else []
theorem part_zero (Q : Nat → Int) (least : Int) (k : Nat) : part Q least k 0 = tiers Q least k := by
  unfold part lvl
  split <;> simp
theorem part_full (Q : Nat → Int) (least : Int) (k : Nat) : part Q least k 16 = tiers Q least (k + 1) := rfl
theorem part_same {Q : Nat → Int} {least : Int} {k j : Nat} (h : ¬ (Q j = 255 - (k : Int) ∧ least ≤ 255 - (k : Int))) : part Q least k (j + 1) = part Q least k j := by
  unfold part
  by_cases hl : least ≤ 255 - (k : Int)
  · rw [if_pos hl, if_pos hl, lvl_not (fun e => h ⟨e, hl⟩)]
  · rw [if_neg hl, if_neg hl]
theorem part_more {Q : Nat → Int} {least : Int} {k j : Nat} (h1 : Q j = 255 - (k : Int)) (h2 : least ≤ 255 - (k : Int)) : part Q least k (j + 1) = part Q least k j ++ [((j : Int), 255 - (k : Int))] := by
  unfold part
  rw [if_pos h2, if_pos h2, lvl_yes h1, List.append_assoc]
theorem cut_full {l : List (Int × Int)} {y : Int} (e : Int × Int) (h : ¬ ((l.take y.toNat).length : Int) < y) : (l ++ [e]).take y.toNat = l.take y.toNat := by
  rw [List.take_append_of_le_length]
  rw [List.length_take] at h
  omega
theorem cut_room {l : List (Int × Int)} {y : Int} (e : Int × Int) (h : ((l.take y.toNat).length : Int) < y) : (l ++ [e]).take y.toNat = l.take y.toNat ++ [e] ∧ l.take y.toNat = l := by
  rw [List.length_take] at h
  have h1 : l.length < y.toNat := by omega
  rw [List.take_of_length_le (by simp; omega), List.take_of_length_le (by omega)]
  exact ⟨rfl, rfl⟩
theorem lvl_len (Q : Nat → Int) (q : Int) : ∀ k, (lvl Q q k).length ≤ k
  | 0 => by simp [lvl]
  | k + 1 => by
    have := lvl_len Q q k
    by_cases h : Q k = q
    · rw [lvl_yes h, List.length_append]; simp only [List.length_cons, List.length_nil]; omega
    · rw [lvl_not h]; omega
theorem tiers_len (Q : Nat → Int) (least : Int) : ∀ n, (tiers Q least n).length ≤ 16 * n
  | 0 => by simp [tiers]
  | n + 1 => by
    have := tiers_len Q least n
    show (tiers Q least n ++ _).length ≤ _
    rw [List.length_append]
    split
    · have := lvl_len Q (255 - n) 16; omega
    · simp only [List.length_nil]; omega
theorem part_len (Q : Nat → Int) (least : Int) (k j : Nat) (hj : j ≤ 16) : (part Q least k j).length ≤ 16 * k + 16 := by
  unfold part
  rw [List.length_append]
  have := tiers_len Q least k
  split
  · have := lvl_len Q (255 - k) j; omega
  · simp only [List.length_nil]; omega
set_option maxHeartbeats 2000000 in
theorem rreport (b : Nat) (me : Int) (Q : Nat → Int) (x y : Int) (w : World) (h : Tb w b 49 me Q) :
    Calls Try.prog 19 #[.pointer (some ⟨b, 0, none⟩), .int .i64 x, .int .i64 y] w fun r w' => ∃ v, r = .returned v ∧ MineK w' w.heap.size 41 3 v ((tiers Q x 255).take y.toNat).length (pv me ((tiers Q x 255).take y.toNat)) ∧ Below w.heap.size w w' := by
  obtain ⟨cs, hcs⟩ : ∃ cs : List Value, cs = (List.range 16).map (fun i => Value.int .i64 (Q i)) := ⟨_, rfl⟩
  have hl : cs.length = 16 := by rw [hcs]; simp
  have HL := Lib.hid hl
  have HCS := Lib.hid hcs
  have hbl := h.lt
  clear hl hcs
  obtain ⟨i0, hi0, hz0, hz1, hz2⟩ := info_parts infoL
  go_enter Try.func19, Try.ntmps19
  go_wp2_with fail
  go_loopw [8, 7] (fun i v wr => ∃ k : Nat, i = .int .i64 (255 - (k : Int)) ∧ k ≤ 255 ∧ MineK wr w.heap.size 41 3 v ((tiers Q x k).take y.toNat).length (pv me ((tiers Q x k).take y.toNat)) ∧ Tb wr b 49 me Q ∧ Below w.heap.size w wr) (fun i _ _ => (intOf i).toNat)
  case atStart => exact ⟨0, rfl, by omega, by unfold tiers; rw [List.take_nil]; exact MineK.nil _ _ _ _ _, h, Below.refl _ _⟩
  case round =>
    clear h
    obtain ⟨k, rfl, hk, hv, h2, bb⟩ := hrel
    obtain ⟨c, hc⟩ : ∃ c, c = 255 - (k : Int) := ⟨_, rfl⟩
    rw [← hc]
    have HC := Lib.hid hc
    by_cases hlt : k < 255
    · have g1 : 1 ≤ c := by omega
      have c255 : c ≤ 255 := by omega
      have hr : Hid (wr.rangeAt b 1 cs) := Lib.hid (fun j v hv => by
        rw [HCS.out] at hv
        have hj : j < 16 := by
          have := (List.getElem?_eq_some_iff.1 hv).1
          simpa using this
        rw [h2.q hj]
        simpa [hj] using hv)
      have c0 := h2.me
      clear hc
      go_wp2_with (refine wpList_load_mid rfl 45 _ rfl b 1 rfl cs _ hr.out Try.underlying45 rfl (by rw [HL.out]; kernel_rfl) ?_)
      go_wp2_with fail
      clear c0 hr
      go_loopw [19, 7] (fun i v w2 => ∃ j : Nat, i = .int .i64 j ∧ j ≤ 16 ∧ MineK w2 w.heap.size 41 3 v ((part Q x k j).take y.toNat).length (pv me ((part Q x k j).take y.toNat)) ∧ Tb w2 b 49 me Q ∧ Below w.heap.size w w2) (fun i _ _ => 16 - (intOf i).toNat)
      case atStart => exact ⟨0, rfl, by omega, by rw [part_zero]; exact hv, h2, bb⟩
      case round =>
        clear hv h2 bb
        rename_i w2 _
        obtain ⟨j, rfl, hj, hv, h2, bb⟩ := hrel
        by_cases hjt : j < 16
        · have g2 : (j : Int) < 16 := by omega
          have hix : ∀ wz : World, (Instr.index 45 (.agg cs.toArray) (.int .i64 (j : Int))).run Try.prog wz = .ok (.int .i64 (Q j)) wz := fun wz => by
            rw [HCS.out]
            exact index_q Q j hjt wz
          have c0 := h2.me
          have hl := part_len Q x k j hj
          by_cases hq : Q j = c
          · rw [hq] at hix
            by_cases hx : x ≤ c
            · by_cases hroom : ((((part Q x k j).take y.toNat).length : Nat) : Int) < y
              · obtain ⟨e1, e2⟩ := cut_room (l := part Q x k j) (y := y) ((j : Int), c) hroom
                have HF : Hid ((part Q x k (j + 1)).take y.toNat = (part Q x k j).take y.toNat ++ [((j : Int), c)]) := Lib.hid (by
                  rw [part_more (by rw [hq, HC.out]) (by rw [← HC.out]; exact hx), ← HC.out, e1])
                have hm : ((part Q x k j).take y.toNat).length + 1 ≤ maxLen := by rw [e2]; unfold maxLen; omega
                have hb5 : ((part Q x k j).take y.toNat).length ≤ 5000 := by rw [e2]; omega
                have Hm := Lib.hid hm
                clear hm e1 e2 hl hq
                generalize (part Q x k j).take y.toNat = L at *
                obtain ⟨ga, gc, rfl, hc1, hc2, hR⟩ := hv.row
                unfold maxLen at hc2
                clear hR
                go_wp2_with (at_builtin; go_must (refine wp_appK rfl (.tmp 37) (.tmp 45) _ rfl w.heap.size 41 i0 _ 3 24 Try.underlying33 hi0 hz0 hz1 hz2 rfl (by decide) _ L.length (pv me L) rfl (hv.alloc _) _ 1 _ (pv me [((j : Int), c)]) rfl (row_new _ _ _ _ (fun i hi => by rcases (show i = 0 ∨ i = 1 ∨ i = 2 by omega) with rfl | rfl | rfl <;> rfl)) (fun i _ => pv_one me _ i) Hm.out ?c2 ?c3 ?_))
                case c2 => omega
                case c3 => have := bb.size; first | omega | (simp; omega)
                intro v' w5 hv2 hg2 _
                have b2 : Below w.heap.size w w5 := (bb.alloc bb.size _).grown hg2 (by have := bb.size; simp; omega) (fun q hq => (hv.lt q hq).1)
                have hh2 := grown_own hg2 (Own.alloc h2 _) (by
                  intro e
                  have := (hv.lt _ e).1
                  omega)
                have hv3 : MineK w5 w.heap.size 41 3 v' ((part Q x k (j + 1)).take y.toNat).length (pv me ((part Q x k (j + 1)).take y.toNat)) := by
                  rw [HF.out, List.length_append]
                  exact hv2.ext (fun q hq => pv_snoc me _ _ _ hq)
                clear hv hv2 h2 hix
                go_wp2_with fail
                exact ⟨⟨j + 1, by simp [intOf], by omega, hv3, hh2, b2⟩, by simp [intOf]; omega⟩
              · have HF : Hid ((part Q x k (j + 1)).take y.toNat = (part Q x k j).take y.toNat) := Lib.hid (by
                  rw [part_more (by rw [hq, HC.out]) (by rw [← HC.out]; exact hx), cut_full _ hroom])
                have g3 : decide (((((part Q x k j).take y.toNat).length : Nat) : Int) < y) = false := by simp only [decide_eq_false_iff_not]; exact hroom
                clear hroom hl hq
                generalize (part Q x k j).take y.toNat = L at *
                obtain ⟨ga, gc, rfl, hc1, hc2, hR⟩ := hv.row
                unfold maxLen at hc2
                clear hR
                go_wp2_with fail
                exact ⟨⟨j + 1, by simp [intOf], by omega, by rw [HF.out]; exact hv, h2, bb⟩, by simp [intOf]; omega⟩
            · have HF := Lib.hid (part_same (Q := Q) (least := x) (k := k) (j := j) (by rw [← HC.out]; exact fun e => hx e.2))
              have g3 : decide (x ≤ c) = false := by simp; omega
              clear hx hl hq
              go_wp2_with fail
              exact ⟨⟨j + 1, by simp [intOf], by omega, by rw [HF.out]; exact hv, h2, bb⟩, by simp [intOf]; omega⟩
          · have HF := Lib.hid (part_same (Q := Q) (least := x) (k := k) (j := j) (by rw [← HC.out]; exact fun e => hq e.1))
            have g3 : (Q j == c) = false := by simpa using hq
            clear hl hq
            go_wp2_with fail
            exact ⟨⟨j + 1, by simp [intOf], by omega, by rw [HF.out]; exact hv, h2, bb⟩, by simp [intOf]; omega⟩
        · obtain rfl : 16 = j := by omega
          rw [part_full] at hv
          go_wp2_with fail
          exact ⟨⟨k + 1, by have := HC.out; simp [intOf]; omega, by omega, hv, h2, bb⟩, by simp [intOf]; omega⟩
    · have g1 : decide ((1 : Int) ≤ c) = false := by simp; omega
      obtain rfl : k = 255 := by omega
      clear hc hlt
      go_wp2_with fail
      go_ret
      exact ⟨_, rfl, hv, bb⟩
theorem pv_at (me : Int) (l : List (Int × Int)) (k : Nat) : pv me l (k * 3) = .int .i64 me ∧ pv me l (k * 3 + 1) = .int .i64 (l.getD k (0, 0)).1 ∧ pv me l (k * 3 + 2) = .int .i64 (l.getD k (0, 0)).2 := by
  unfold pv encM
  rw [show k * 3 / 3 = k by omega, show (k * 3 + 1) / 3 = k by omega, show (k * 3 + 2) / 3 = k by omega, show k * 3 % 3 = 0 by omega, show (k * 3 + 1) % 3 = 1 by omega, show (k * 3 + 2) % 3 = 2 by omega]
  exact ⟨rfl, rfl, rfl⟩
set_option maxHeartbeats 1000000 in
theorem same_links (a b : Option Addr) (n c d : Nat) (me : Int) (l : List (Int × Int)) (w : World) (hn : n ≤ c) (hm : n ≤ d) (hc : c ≤ maxLen) (hd : d ≤ maxLen) (hX : Row w a (n * 3) (pv me l)) (hY : Row w b (n * 3) (pv me l)) :
    Calls Try.prog 17 #[.slice a n c, .slice b n d] w fun r w' => r = .returned (.bool true) ∧ ∃ m, w.drewN m = w' := by
  unfold maxLen at hc hd
  go_enter Try.func17, Try.ntmps17
  go_wp2_with fail
  go_loopw [13] (fun i wr => ∃ (k m : Nat), i = .int .i64 k ∧ k ≤ n ∧ w.drewN m = wr) (fun i _ => n - (intOf i).toNat)
  case atStart => exact ⟨0, 0, rfl, by omega, rfl⟩
  case round =>
    obtain ⟨k, m, rfl, hk, rfl⟩ := hrel
    by_cases hlt : k < n
    · obtain ⟨p1, p2, p3⟩ := pv_at me l k
      obtain ⟨p, o, rfl, _, h1⟩ := hX.at_struct (Below.refl _ _) hlt (by decide)
      obtain ⟨q, s, rfl, _, h2⟩ := hY.at_struct (Below.refl _ _) hlt (by decide)
      have a0 := (h1 0 (by decide)).trans (congrArg some p1)
      have a1 := (h1 1 (by decide)).trans (congrArg some p2)
      have a2 := (h1 2 (by decide)).trans (congrArg some p3)
      have b0 := (h2 0 (by decide)).trans (congrArg some p1)
      have b1 := (h2 1 (by decide)).trans (congrArg some p2)
      have b2 := (h2 2 (by decide)).trans (congrArg some p3)
      rw [Nat.add_zero] at a0 b0
      clear h1 h2 p1 p2 p3
      generalize (l.getD k (0, 0)).1 = x1 at *
      generalize (l.getD k (0, 0)).2 = x2 at *
      go_wp2_with fail
      go_quiet (fail)
      go_wp2_with fail
      exact ⟨⟨k + 1, _, by go_num, by omega, rfl⟩, by simp [intOf]; omega⟩
    · obtain rfl : k = n := by omega
      go_wp2_with fail
      go_ret
      exact ⟨rfl, m, rfl⟩
end Go.Proofs.Ytpapkcelgbnkaaa.Ng
