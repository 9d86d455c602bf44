/-
  Contracts of package hop (chapter 5). A node (chapter 24): bounds of a state; Slot; the clock in every case.
-/
import Derived.Test.YtiflmdekcjbmbaaGreatGNodeNil12
import Derived.Test.YtiflmdekcjbmbaaGreatGNodeNil01
import Derived.Test.YtiflmdekcjbmbaaGreatGNodeNil04
import Derived.Laws.MakeOwn
import Derived.Lib.Hide
set_option maxRecDepth 100000
namespace Go.Proofs.YtiflmdekcjbmbaaGreat.Hp
set_option linter.unusedVariables false
set_option linter.unusedSimpArgs false
open Go.RowKit Lb

theorem infoI : (Tryz.prog.info? 3).map (fun i => (i.zero, i.size, i.bytes)) = some (some (.int .i64 0), 1, 8) := by kernel_rfl

theorem shr32 {s : Nat} (hs : s < 4294967296) (x : Int) : bits .and .u32 ((s : Int) / 2 ^ x.toNat) 1 = if s.testBit x.toNat then 1 else 0 := by
  have q1 : s >>> x.toNat < 4294967296 := Nat.lt_of_le_of_lt (by rw [Nat.shiftRight_eq_div_pow]; exact Nat.div_le_self _ _) hs
  have := u32_and_nat _ 1 q1 (by decide)
  rw [shr_and_one, Nat.shiftRight_eq_div_pow] at this
  split <;> simp_all
theorem shl32 {s : Nat} (hs : s < 4294967296) {x : Int} (h0 : 0 ≤ x) (h1 : x < 32) : bits .or .u32 (s : Int) (2 ^ x.toNat % 4294967296) = ((s ||| 1 <<< x.toNat : Nat) : Int) := by
  have q3 : (1 : Nat) <<< x.toNat < 4294967296 := by
    rw [Nat.one_shiftLeft]
    exact Nat.lt_of_lt_of_le (Nat.pow_lt_pow_right (by decide) (show x.toNat < 32 by omega)) (by decide)
  rw [← u32_or_nat _ _ hs q3]
  congr 1
  rw [Nat.one_shiftLeft] at q3 ⊢
  have e : ((2 ^ x.toNat : Nat) : Int) = 2 ^ x.toNat := Int.natCast_pow 2 x.toNat
  rw [← e]
  exact Int.emod_eq_of_lt (Int.natCast_nonneg _) (Int.ofNat_lt.2 q3)

set_option maxHeartbeats 1000000 in
theorem may_any (a : Option Addr) (n c : Nat) (Z : Nat → Int) (w : World) (hn : n ≤ c) (hm : c ≤ maxLen) (hZ : Row w a n (fun i => .int .i64 (Z i))) :
    Calls Tryz.prog 50 #[.slice a n c] w fun r w' => r = .returned (.bool (mayB Z n)) ∧ w = w' := by
  unfold maxLen at hm
  by_cases h1 : 1 ≤ n ∧ n ≤ 16
  · obtain ⟨n0, n1⟩ := h1
    have HM : Hid (mayB Z n = okTo Z n) := Lib.hid (by unfold mayB; simp [n0, n1])
    have i0 : (1 : Int) ≤ (n : Int) := by omega
    have i1 : (n : Int) ≤ 16 := by omega
    go_enter Tryz.func50, Tryz.ntmps50
    go_wp2_with fail
    go_loop [3, 16] (fun u i => ∃ (k s : Nat), u = .int .u32 s ∧ i = .int .i64 k ∧ k ≤ n ∧ Seen s Z k ∧ Hid (okTo Z k = true)) (fun _ i => n - (intOf i).toNat)
    case atStart => exact ⟨0, 0, rfl, rfl, by omega, seen_zero Z, Lib.hid rfl⟩
    case round =>
      obtain ⟨k, s, rfl, rfl, hk, hs, HO⟩ := hrel
      by_cases hlt : k < n
      · obtain ⟨b, o, rfl, hb, hc⟩ := hZ.at_ hlt
        have HS := Lib.hid hs
        have hs2 := hs.1
        clear hs hZ
        by_cases hz : 0 ≤ Z k ∧ Z k < 32
        · obtain ⟨z0, z1⟩ := hz
          have hz2 : decide (32 ≤ Z k) = false := by simp; omega
          have e1 := shr32 hs2 (Z k)
          cases hb2 : s.testBit (Z k).toNat
          · rw [hb2] at e1
            have e2 := shl32 hs2 z0 z1
            have HN : Hid (okTo Z (k + 1) = true) := Lib.hid (by
              simp only [okTo, HO.out, seen_fresh HS.out z0 z1, hb2, Bool.and_eq_true, decide_eq_true_eq]
              simp [z0, z1])
            have HS2 : Hid (Seen (s ||| 1 <<< (Z k).toNat) Z (k + 1)) := Lib.hid (seen_next HS.out z0 z1)
            clear hb2
            simp only [Bool.false_eq_true, if_false] at e1
            go_wp2_with fail
            exact ⟨⟨k + 1, s ||| 1 <<< (Z k).toNat, rfl, by go_num, by omega, HS2.out, HN⟩, by simp [intOf]; omega⟩
          · rw [hb2] at e1
            have HN : Hid (mayB Z n = false) := Lib.hid (by
              rw [HM.out, ← Bool.not_eq_true]
              intro h
              have := (okTo_iff.1 h k hlt)
              have h3 := fresh_iff.2 this.2.2
              rw [seen_fresh HS.out z0 z1, hb2] at h3
              cases h3)
            clear hb2
            simp only [if_true] at e1
            go_wp2_with fail
            go_ret
            exact ⟨by rw [HN.out]; rfl, rfl⟩
        · have HN : Hid (mayB Z n = false) := Lib.hid (by
            rw [HM.out, ← Bool.not_eq_true]
            intro h
            have := (okTo_iff.1 h k hlt)
            exact hz ⟨this.1, this.2.1⟩)
          by_cases hz0 : 0 ≤ Z k
          · have hz2 : 32 ≤ Z k := by omega
            clear hz
            go_wp2_with fail
            go_ret
            exact ⟨by rw [HN.out]; rfl, rfl⟩
          · have hz0 : Z k < 0 := by omega
            clear hz
            go_wp2_with fail
            go_ret
            exact ⟨by rw [HN.out]; rfl, rfl⟩
      · obtain rfl : k = n := by omega
        have HN : Hid (mayB Z k = true) := Lib.hid (by rw [HM.out]; exact HO.out)
        clear hlt hs
        go_wp2_with fail
        go_ret
        exact ⟨by rw [HN.out]; rfl, rfl⟩
  · have HN : Hid (mayB Z n = false) := Lib.hid (by unfold mayB; simp; omega)
    by_cases h0 : n < 1
    · obtain rfl : n = 0 := by omega
      clear h1 h0
      go_enter Tryz.func50, Tryz.ntmps50
      go_wp2_with fail
      go_ret
      exact ⟨by rw [HN.out]; rfl, rfl⟩
    · have i0 : decide ((n : Int) < 1) = false := by simp; omega
      have i1 : 16 < (n : Int) := by omega
      clear h1 h0
      go_enter Tryz.func50, Tryz.ntmps50
      go_wp2_with fail
      go_ret
      exact ⟨by rw [HN.out]; rfl, rfl⟩

/-- The cells of a list of numbers. -/
def lc (l : List Int) (q : Nat) : Value := .int .i64 (l.getD q 0)
theorem lc_snoc (l : List Int) (x : Int) (q : Nat) (hq : q < l.length + 1) : (if q < l.length then lc l q else .int .i64 x) = lc (l ++ [x]) q := by
  unfold lc
  by_cases h : q < l.length
  · rw [if_pos h, List.getD_eq_getElem?_getD, List.getD_eq_getElem?_getD, List.getElem?_append_left h]
  · obtain rfl : q = l.length := by omega
    rw [if_neg h, List.getD_eq_getElem?_getD, List.getElem?_append_right (by omega)]
    simp
theorem lc_map (Z : Nat → Int) (n q : Nat) (hq : q < n) : lc ((List.range n).map Z) q = .int .i64 (Z q) := by
  unfold lc
  rw [List.getD_eq_getElem?_getD]
  simp [hq]

set_option maxHeartbeats 2000000 in
theorem open_yes (a : Option Addr) (n c : Nat) (Z : Nat → Int) (bl : Nat) (w : World) (hn : n ≤ c) (hm : c ≤ maxLen) (hZ : Row w a n (fun i => .int .i64 (Z i))) (hbl : bl < 4294967296) (hM : mayB Z n = true) :
    Calls Tryz.prog 127 #[.slice a n c, .int .u32 bl] w fun r w' => ∃ v, r = .returned v ∧ Mine w' w.heap.size 3 v (opn Z bl n).length (lc (opn Z bl n)) ∧ Below w.heap.size w w' := by
  obtain ⟨i0, hi0, hz0, hz1, hz2⟩ := info_parts infoI
  obtain ⟨n0, n1, hO⟩ := mayB_iff.1 hM
  have HO := Lib.hid hO
  have HM := Lib.hid hM
  have hML : 100 ≤ maxLen := by unfold maxLen; omega
  have HML := Lib.hid hML
  clear hO hM hML
  have hmk : ∀ w : World, (Instr.makeSlice 23 (.int .i64 0) (.int .i64 (n : Int))).run Tryz.prog w = .ok (.slice (some ⟨w.heap.size, 0, none⟩) 0 n) (w.alloc (.cells (madeCells #[.int .i64 0] n) 3)) := by
    intro w
    have := run_make w 23 3 i0 (.int .i64 0) Tryz.underlying23 hi0 hz0 .i64 .i64 0 (n : Int) (by omega) (by omega) (by rw [hz2]; omega) (by omega)
    rw [this, hz1]
    simp [Value.cells]
  have hcs : (madeCells #[Value.int .i64 0] n).size = n := by simp [madeCells]
  unfold maxLen at hm
  go_enter Tryz.func127, Tryz.ntmps127
  go_wp2_with fail
  refine (may_any a n c Z _ hn hm hZ).mono ?_
  rintro r w' ⟨rfl, rfl⟩
  rw [HM.out]
  go_wp2_with fail
  have hm0 : Mine (w.alloc (.cells (madeCells #[.int .i64 0] n) 3)) w.heap.size 3 (.slice (some ⟨w.heap.size, 0, none⟩) 0 n) 0 (lc []) := by
    have := Mine.made (base := w.heap.size) (n := 0) (V := lc []) (Own.new w 3 (madeCells #[.int .i64 0] n)) (Nat.le_refl _) (by rw [hcs]; exact Nat.le_trans (by omega) HML.out) (Nat.zero_le _) (fun i hi => absurd hi (by omega))
    rw [hcs] at this
    exact this
  have b0 := (Below.refl w.heap.size w).alloc (Nat.le_refl _) (.cells (madeCells #[.int .i64 0] n) 3)
  generalize w.alloc (.cells (madeCells #[.int .i64 0] n) 3) = w1 at *
  clear hmk hcs
  go_loopw [5, 16] (fun u i wr => ∃ (k : Nat) (v : Value), u = v ∧ i = .int .i64 k ∧ k ≤ n ∧ Mine wr w.heap.size 3 v (flt Z bl k).length (lc (flt Z bl k)) ∧ Below w.heap.size w wr) (fun _ i _ => n - (intOf i).toNat)
  case atStart => exact ⟨0, _, rfl, rfl, by omega, hm0, b0⟩
  case round =>
    obtain ⟨k, v, rfl, rfl, hk, hv, bb⟩ := hrel
    have hlen := flt_len Z bl k
    have hs := bb.size
    by_cases hlt : k < n
    · obtain ⟨b, o, rfl, hb, hc⟩ := hZ.at_old bb hlt
      obtain ⟨z0, z1, _⟩ := okTo_iff.1 HO.out k hlt
      have e1 := shr32 hbl (Z k)
      cases hb2 : bl.testBit (Z k).toNat
      · rw [hb2] at e1
        have HF := Lib.hid (flt_open (Z := Z) (b := bl) (k := k) hb2)
        have hm1 : (flt Z bl k).length + 1 ≤ maxLen := Nat.le_trans (by omega) HML.out
        have Hm := Lib.hid hm1
        clear hb2 hm1 hZ
        simp only [Bool.false_eq_true, if_false] at e1
        go_wp2_with (at_builtin; go_must (refine wp_app rfl (.tmp 25) (.tmp 27) _ rfl w.heap.size 3 i0 _ 8 Tryz.underlying23 hi0 hz0 hz1 hz2 rfl u5 (flt Z bl k).length (lc (flt Z bl k)) rfl (hv.alloc _) _ 1 _ (fun _ => .int .i64 (Z k)) rfl (row_new _ _ _ _ (fun i hi => by obtain rfl : i = 0 := (by omega); rfl)) (fun _ _ => rfl) Hm.out ?c2 ?c3 ?_))
        case c2 => omega
        case c3 => first | omega | (simp; omega)
        intro v' w2 hv2 hg
        have b2 : Below w.heap.size w w2 := (bb.alloc hs _).grown hg (by simp; omega) (fun q hq => (hv.lt q hq).1)
        have hv3 : Mine w2 w.heap.size 3 v' (flt Z bl (k + 1)).length (lc (flt Z bl (k + 1))) := by
          rw [HF.out, List.length_append]
          exact hv2.ext (fun q hq => lc_snoc _ _ _ hq)
        clear hv hv2
        go_wp2_with fail
        exact ⟨⟨k + 1, _, rfl, by go_num, by omega, hv3, b2⟩, by simp [intOf]; omega⟩
      · rw [hb2] at e1
        have HF := Lib.hid (flt_black (Z := Z) (b := bl) (k := k) hb2)
        clear hb2
        simp only [if_true] at e1
        go_wp2_with fail
        exact ⟨⟨k + 1, _, rfl, by go_num, by omega, by rw [HF.out]; exact hv, bb⟩, by simp [intOf]; omega⟩
    · obtain rfl : k = n := by omega
      clear hlt
      obtain ⟨a', c', rfl, hc1, hc2, hR⟩ := hv.row
      obtain ⟨m, hmm⟩ : ∃ m, (flt Z bl k).length = m := ⟨_, rfl⟩
      by_cases hm0 : m = 0
      · have hfe : flt Z bl k = [] := List.length_eq_zero_iff.1 (by omega)
        have HP : Hid (opn Z bl k = (List.range k).map Z) := Lib.hid (by unfold opn; rw [if_pos hfe])
        rw [hfe] at hv hc1 hR
        rw [hfe]
        simp only [List.length_nil] at *
        clear hfe hmm hm0 hlen
        have hm1 : 0 + k ≤ maxLen := Nat.le_trans (by omega) HML.out
        have Hm := Lib.hid hm1
        clear hm1
        go_wp2_with (at_builtin; go_must (refine wp_app rfl (.tmp 33) (.tmp 34) _ rfl w.heap.size 3 i0 _ 8 Tryz.underlying23 hi0 hz0 hz1 hz2 rfl _ 0 (lc []) rfl hv a k c (fun i => .int .i64 (Z i)) rfl (hZ.below bb) (fun _ _ => rfl) Hm.out ?c2 ?c3 ?_))
        case c2 => omega
        case c3 => omega
        intro v' w2 hv2 hg
        have b2 : Below w.heap.size w w2 := bb.grown hg hs (fun q hq => (hv.lt q hq).1)
        go_wp2_with fail
        go_ret
        refine ⟨_, rfl, ?_, b2⟩
        rw [HP.out, List.length_map, List.length_range]
        exact hv2.ext (fun q hq => (lc_map Z k q hq).symm)
      · have hfe : ¬ flt Z bl k = [] := fun e => hm0 (by rw [← hmm, e]; rfl)
        have HP : Hid (opn Z bl k = flt Z bl k) := Lib.hid (by unfold opn; rw [if_neg hfe])
        have hne : (((flt Z bl k).length : Int) == 0) = false := by simp; exact hfe
        clear hfe hmm hm0
        go_wp2_with fail
        go_ret
        refine ⟨_, rfl, ?_, bb⟩
        rw [HP.out]
        exact hv
theorem open_no (a : Option Addr) (n c : Nat) (Z : Nat → Int) (bl : Nat) (w : World) (hn : n ≤ c) (hm : c ≤ maxLen) (hZ : Row w a n (fun i => .int .i64 (Z i))) (hM : mayB Z n = false) :
    Calls Tryz.prog 127 #[.slice a n c, .int .u32 bl] w fun r w' => r = .returned (.slice none 0 0) ∧ w = w' := by
  have HM := Lib.hid hM
  clear hM
  go_enter Tryz.func127, Tryz.ntmps127
  go_wp2_with fail
  refine (may_any a n c Z _ hn hm hZ).mono ?_
  rintro r w' ⟨rfl, rfl⟩
  rw [HM.out]
  go_wp2_with fail
  go_ret
  exact ⟨rfl, rfl⟩

set_option maxHeartbeats 1000000 in
theorem channel_yes (a : Option Addr) (n c : Nat) (Z : Nat → Int) (bl : Nat) (asn off : Int) (w : World) (hn : n ≤ c) (hm : c ≤ maxLen) (hZ : Row w a n (fun i => .int .i64 (Z i))) (hbl : bl < 4294967296)
    (hM : mayB Z n = true) (h0 : 0 ≤ asn) (h1 : asn < 1099511627776) (h2 : 0 ≤ off) (h3 : off < 256) :
    Calls Tryz.prog 63 #[.slice a n c, .int .u32 bl, .int .i64 asn, .int .i64 off] w fun r w' => r = .returned (.int .i64 (chan Z bl n asn off)) ∧ Below w.heap.size w w' := by
  obtain ⟨n0, n1, hO⟩ := mayB_iff.1 hM
  obtain ⟨l0, l1⟩ := opn_len (Z := Z) (b := bl) n0
  have HM := Lib.hid hM
  clear hM hO
  have HC : Hid (chan Z bl n asn off = (opn Z bl n).getD ((asn + off) % ((opn Z bl n).length : Int)).toNat 0) := Lib.hid rfl
  go_enter Tryz.func63, Tryz.ntmps63
  go_wp2_with fail
  refine (open_yes a n c Z bl _ hn hm hZ hbl HM.out).mono ?_
  rintro r w1 ⟨v, rfl, hv, bb⟩
  obtain ⟨a', c', rfl, hc1, hc2, hR⟩ := hv.row
  clear hv
  have hd : ¬ (opn Z bl n).length = 0 := by omega
  have r0 : 0 ≤ (asn + off) % ((opn Z bl n).length : Int) := Int.emod_nonneg _ (by omega)
  have r1 : (asn + off) % ((opn Z bl n).length : Int) < ((opn Z bl n).length : Int) := Int.emod_lt_of_pos _ (by omega)
  obtain ⟨q, hq⟩ : ∃ q : Nat, (asn + off) % ((opn Z bl n).length : Int) = (q : Int) := ⟨((asn + off) % ((opn Z bl n).length : Int)).toNat, by omega⟩
  rw [hq] at r0 r1
  obtain ⟨b, o, rfl, hb, hc⟩ := hR.at_ (k := q) (by omega)
  have HQ := Lib.hid hq
  obtain ⟨m, hmm⟩ : ∃ m, (opn Z bl n).length = m := ⟨_, rfl⟩
  unfold lc at hc
  rw [hmm] at l0 l1 hc1 hd r1 hq ⊢
  have hz : ¬ (m : Int) = 0 := by omega
  have hz2 : ((m : Int) == 0) = false := by simp; exact hd
  have ht : (asn + off).tmod (m : Int) = (q : Int) := by rw [Int.tmod_eq_emod_of_nonneg (by omega)]; exact hq
  clear hmm hq hR
  go_wp2_with fail
  go_ret
  refine ⟨?_, bb⟩
  rw [HC.out, HQ.out, Int.toNat_natCast, List.getD_eq_getElem?_getD]
  rfl
set_option maxHeartbeats 1000000 in
theorem channel_off (a : Option Addr) (n c : Nat) (Z : Nat → Int) (bl : Nat) (asn off : Int) (w : World) (hn : n ≤ c) (hm : c ≤ maxLen) (hZ : Row w a n (fun i => .int .i64 (Z i))) (hbl : bl < 4294967296)
    (hM : mayB Z n = true) (ho : ¬ (0 ≤ asn ∧ asn < 1099511627776 ∧ 0 ≤ off ∧ off < 256)) :
    Calls Tryz.prog 63 #[.slice a n c, .int .u32 bl, .int .i64 asn, .int .i64 off] w fun r w' => r = .returned (.int .i64 (-1)) ∧ Below w.heap.size w w' := by
  obtain ⟨n0, n1, hO⟩ := mayB_iff.1 hM
  obtain ⟨l0, l1⟩ := opn_len (Z := Z) (b := bl) n0
  have HM := Lib.hid hM
  clear hM hO
  have hcase : asn < 0 ∨ (0 ≤ asn ∧ 1099511627776 ≤ asn) ∨ (0 ≤ asn ∧ decide (1099511627776 ≤ asn) = false ∧ off < 0) ∨ (0 ≤ asn ∧ decide (1099511627776 ≤ asn) = false ∧ 0 ≤ off ∧ 256 ≤ off) := by
    by_cases g0 : asn < 0
    · exact .inl g0
    · by_cases g1 : 1099511627776 ≤ asn
      · exact .inr (.inl ⟨by omega, g1⟩)
      · by_cases g2 : off < 0
        · exact .inr (.inr (.inl ⟨by omega, by simpa using g1, g2⟩))
        · exact .inr (.inr (.inr ⟨by omega, by simpa using g1, by omega, by omega⟩))
  clear ho
  go_enter Tryz.func63, Tryz.ntmps63
  go_wp2_with fail
  refine (open_yes a n c Z bl _ hn hm hZ hbl HM.out).mono ?_
  rintro r w1 ⟨v, rfl, hv, bb⟩
  obtain ⟨a', c', rfl, hc1, hc2, hR⟩ := hv.row
  clear hv hR
  have hz2 : (((opn Z bl n).length : Int) == 0) = false := by simp; intro h; rw [h] at l0; simp at l0
  generalize (opn Z bl n).length = m at *
  rcases hcase with h | ⟨h, h'⟩ | ⟨h, h', h''⟩ | ⟨h, h', h'', h3⟩
  all_goals
    go_wp2_with fail
    go_ret
    exact ⟨rfl, bb⟩
theorem channel_none (a : Option Addr) (n c : Nat) (Z : Nat → Int) (bl : Nat) (asn off : Int) (w : World) (hn : n ≤ c) (hm : c ≤ maxLen) (hZ : Row w a n (fun i => .int .i64 (Z i))) (hM : mayB Z n = false) :
    Calls Tryz.prog 63 #[.slice a n c, .int .u32 bl, .int .i64 asn, .int .i64 off] w fun r w' => r = .returned (.int .i64 (-1)) ∧ w = w' := by
  have HM := Lib.hid hM
  clear hM
  go_enter Tryz.func63, Tryz.ntmps63
  go_wp2_with fail
  refine (open_no a n c Z bl _ hn hm hZ HM.out).mono ?_
  rintro r w1 ⟨rfl, rfl⟩
  go_wp2_with fail
  go_ret
  exact ⟨rfl, rfl⟩
theorem channel_any (a : Option Addr) (n c : Nat) (Z : Nat → Int) (bl : Nat) (asn off : Int) (w : World) (hn : n ≤ c) (hm : c ≤ maxLen) (hZ : Row w a n (fun i => .int .i64 (Z i))) (hbl : bl < 4294967296) :
    Calls Tryz.prog 63 #[.slice a n c, .int .u32 bl, .int .i64 asn, .int .i64 off] w fun r w' => r = .returned (.int .i64 (chanB Z bl n asn off)) ∧ Below w.heap.size w w' := by
  unfold chanB
  cases hM : mayB Z n
  · rw [if_neg (by simp)]
    refine (channel_none a n c Z bl asn off w hn hm hZ hM).mono ?_
    rintro r w' ⟨rfl, rfl⟩
    exact ⟨rfl, Below.refl _ _⟩
  · by_cases ho : 0 ≤ asn ∧ asn < 1099511627776 ∧ 0 ≤ off ∧ off < 256
    · rw [if_pos ⟨rfl, ho⟩]
      exact channel_yes a n c Z bl asn off w hn hm hZ hbl hM ho.1 ho.2.1 ho.2.2.1 ho.2.2.2
    · rw [if_neg (fun h => ho h.2)]
      exact channel_off a n c Z bl asn off w hn hm hZ hbl hM ho

end Go.Proofs.YtiflmdekcjbmbaaGreat.Hp
set_option maxRecDepth 100000
namespace Go.Proofs.YtiflmdekcjbmbaaGreat.Nd
set_option linter.unusedVariables false
set_option linter.unusedSimpArgs false
open Go.RowKit Lb

/-- A mesh that may be. -/
structure Okc (c : Cfg) : Prop where
  nodes : 2 ≤ c.nodes ∧ c.nodes ≤ 16
  hops : Hp.mayB (fun i => c.hops.getD i 0) c.hops.length = true
  guard : 1 ≤ c.guard ∧ c.guard ≤ 4000
  err : 0 ≤ c.err ∧ c.err ≤ 1000
  keep : 1 ≤ c.keep ∧ c.keep ≤ 10000
  loss : 1 ≤ c.loss ∧ c.loss ≤ 10000
  queue : 1 ≤ c.queue ∧ c.queue ≤ 32
  life : 1 ≤ c.life ∧ c.life ≤ 15
/-- What the numbers of a state keep to. -/
structure Fit (s : Ns) : Prop where
  c : Okc s.c
  id : 0 ≤ s.id ∧ s.id < s.c.nodes
  z : 0 ≤ s.s ∧ s.s ≤ 1099511627776
  d : -(s.s * 1000000) ≤ s.d ∧ s.d ≤ s.s * 1000000
  p : -1000000000000 ≤ s.p ∧ s.p ≤ 1000000000000
  lis : 0 ≤ s.lis ∧ s.lis ≤ 4000000000000000000
  q : (s.q.length : Int) ≤ s.c.queue
  lost : 0 ≤ s.lost ∧ s.lost ≤ 1000000
  tries : 0 ≤ s.tries ∧ s.tries ≤ 8
  u : Dp.AllG s.uL s.uS
  dn : Dp.AllG s.dL s.dS
  g : Dp.AllG s.gL s.gS
  seq : 0 ≤ s.seq ∧ s.seq < 256
  last : -1 ≤ s.last ∧ s.last < 70368744177664
  few : s.set.length ≤ 3
  rk : 0 ≤ s.rk ∧ s.rk ≤ 255
  root : s.id = 0 → s.inT = true ∧ s.set = [] ∧ s.rk = 0
  ks : 0 ≤ s.ks ∧ s.ks ≤ 1000000
def clkD (d z ppm : Int) : Int := if z = 1099511627776 then d else d + Ck.lim ppm 100 * 10000
def clkS (z : Int) : Int := if z = 1099511627776 then z else z + 1
theorem ckslot_any (b : Nat) (p d z n : Int) (w : World) (h : Ck.Clk w b p d z) (hz : 0 ≤ z ∧ z ≤ 1099511627776) (hd : -(z * 1000000) ≤ d ∧ d ≤ z * 1000000) :
    Calls Tryz.prog 58 #[.pointer (some ⟨b, 0, none⟩), .int .i64 n] w fun r w' => r = .returned (.tuple #[]) ∧ Ck.Clk w' b p (clkD d z n) (clkS z) ∧ Just b w w' := by
  unfold clkD clkS
  by_cases e : z = 1099511627776
  · subst e
    rw [if_pos rfl, if_pos rfl]
    refine (Ck.slot_full b p d n w h).mono ?_
    rintro r w' ⟨rfl, m, rfl⟩
    exact ⟨rfl, h.drewN m, (Just.refl _ _).drewN m⟩
  · rw [if_neg e, if_neg e]
    exact Ck.slot_any b p d z n w h hz.1 (by omega) (by omega) (by omega)
section
variable {w : World} {b : Nat} {s : Ns} {h : Hm}
theorem Nd.lis (n : Nd w b s h) (z : Int) : Nd (w.setCell ⟨b, 42, none⟩ (.int .i64 z)) b { s with lis := z } h := by
  have j := Just.set b w 42 (.int .i64 z)
  have t := Tn.of_just j n.own
  refine n.put j ((n.own.put 42 _).ext (nd_ext (fun i hi => by rcases idx23 i hi with rfl | rfl | rfl | rfl | rfl | rfl | rfl | rfl | rfl | rfl | rfl | rfl | rfl | rfl | rfl | rfl | rfl | rfl | rfl | rfl | rfl | rfl | rfl <;> rfl) (fun j _ => by rw [if_neg (by omega)]) (fun i hi => by rcases idx4 i hi with rfl | rfl | rfl | rfl <;> rfl))) ⟨rfl, rfl, rfl⟩ ⟨rfl, rfl, rfl, rfl⟩ ⟨rfl, rfl, rfl, rfl⟩ ⟨rfl, rfl, rfl⟩ ⟨rfl, rfl, rfl⟩ ⟨rfl, rfl, rfl⟩ (fun e => t.st (n.set e) (by decide) (by decide)) (fun e => t.own (n.kee e) (by decide)) (fun k hk => t.mine (n.path k hk) (by decide))
end
/-- A slot goes by. -/
def slotN (s : Ns) (asn ppm : Int) : Ns := if asnB asn = true then { s with d := clkD s.d s.s (if s.id = 0 then 0 else ppm), s := clkS s.s, lis := if s.inT = true then s.lis else s.lis + 1 } else s
theorem slot_any {w : World} {b : Nat} {s : Ns} {h : Hm} (n : Nd w b s h) (f : Fit s) (asn ppm : Int) :
    Calls Tryz.prog 17 #[.pointer (some ⟨b, 0, none⟩), .int .i64 asn, .int .i64 ppm] w fun r w' => r = .returned (.tuple #[]) ∧ Nd w' b (slotN s asn ppm) h ∧ Mv (h.ex b) (h.ex b) w w' := by
  have PA := isASN_any asn
  cases ha : asnB asn
  · rw [show slotN s asn ppm = s by unfold slotN; rw [if_neg (by rw [ha]; decide)]]
    rw [ha] at PA
    go_enter Tryz.func17, Tryz.ntmps17
    go_wp2_with fail
    refine (lives_any n).mono ?_
    rintro r w' ⟨rfl, rfl⟩
    go_wp2_with fail
    refine (PA _).mono ?_
    rintro r w' ⟨rfl, rfl⟩
    go_wp2_with fail
    refine bodyPost_ret (results_none rfl _ _ _) rfl ?_
    exact ⟨rfl, n, Mv.refl _ _⟩
  · have HE : Hid (slotN s asn ppm = { s with d := clkD s.d s.s (if s.id = 0 then 0 else ppm), s := clkS s.s, lis := if s.inT = true then s.lis else s.lis + 1 }) := Lib.hid (if_pos ha)
    rw [ha] at PA
    have c0 := n.c_id
    have c10 := n.c_ck
    have hl := f.lis
    have e1 : IntKind.i64.wrap (s.lis + 1) = s.lis + 1 := IntWalk.i64_in _ (by omega)
    have PC := fun z => ckslot_any h.ck s.p s.d s.s z w n.clk f.z f.d
    have HN := Lib.hid n
    have PL := lives_any n
    by_cases hi : s.id = 0
    · have g0 : (s.id == 0) = true := by simpa using hi
      have HE2 : Hid (slotN s asn ppm = { s with d := clkD s.d s.s 0, s := clkS s.s, lis := if s.inT = true then s.lis else s.lis + 1 }) := Lib.hid (by rw [HE.out, if_pos hi])
      clear HE hi n f ha hl
      go_enter Tryz.func17, Tryz.ntmps17
      go_wp2_with fail
      refine PL.mono ?_
      rintro r w' ⟨rfl, rfl⟩
      go_wp2_with fail
      refine (PA _).mono ?_
      rintro r w' ⟨rfl, rfl⟩
      go_wp2_with fail
      refine (PC 0).mono ?_
      rintro r w2 ⟨rfl, hc, j⟩
      have n2 := HN.out.clock hc j
      have m2 : Mv (h.ex b) (h.ex b) w w2 := Mv.of_just j (.inr (.inl rfl))
      have d39 := n2.c_inT
      have d42 := n2.c_lis
      have f42 : w2.frozen? ⟨b, 42, none⟩ = false := n2.own.free 42
      have n3 := n2.lis (s.lis + 1)
      have m3 := m2.trans (Mv.of_just (Just.set b w2 42 (.int .i64 (s.lis + 1))) (.inl rfl))
      dsimp only at d39 d42
      clear PC PL PA c0 c10
      obtain ⟨q, hq⟩ : ∃ q, s.inT = q := ⟨_, rfl⟩
      have HQ := Lib.hid hq
      rw [hq] at d39
      clear hq
      cases q
      · go_wp2_with fail
        go_end0
        exact ⟨rfl, by rw [HE2.out, if_neg (by rw [HQ.out]; decide)]; exact n3, m3⟩
      · go_wp2_with fail
        go_end0
        exact ⟨rfl, by rw [HE2.out, if_pos HQ.out]; exact n2, m2⟩
    · have g0 : (s.id == 0) = false := by simpa using hi
      have HE2 : Hid (slotN s asn ppm = { s with d := clkD s.d s.s ppm, s := clkS s.s, lis := if s.inT = true then s.lis else s.lis + 1 }) := Lib.hid (by rw [HE.out, if_neg hi])
      clear HE hi n f ha hl
      go_enter Tryz.func17, Tryz.ntmps17
      go_wp2_with fail
      refine PL.mono ?_
      rintro r w' ⟨rfl, rfl⟩
      go_wp2_with fail
      refine (PA _).mono ?_
      rintro r w' ⟨rfl, rfl⟩
      go_wp2_with fail
      refine (PC ppm).mono ?_
      rintro r w2 ⟨rfl, hc, j⟩
      have n2 := HN.out.clock hc j
      have m2 : Mv (h.ex b) (h.ex b) w w2 := Mv.of_just j (.inr (.inl rfl))
      have d39 := n2.c_inT
      have d42 := n2.c_lis
      have f42 : w2.frozen? ⟨b, 42, none⟩ = false := n2.own.free 42
      have n3 := n2.lis (s.lis + 1)
      have m3 := m2.trans (Mv.of_just (Just.set b w2 42 (.int .i64 (s.lis + 1))) (.inl rfl))
      dsimp only at d39 d42
      clear PC PL PA c0 c10
      obtain ⟨q, hq⟩ : ∃ q, s.inT = q := ⟨_, rfl⟩
      have HQ := Lib.hid hq
      rw [hq] at d39
      clear hq
      cases q
      · go_wp2_with fail
        go_end0
        exact ⟨rfl, by rw [HE2.out, if_neg (by rw [HQ.out]; decide)]; exact n3, m3⟩
      · go_wp2_with fail
        go_end0
        exact ⟨rfl, by rw [HE2.out, if_pos HQ.out]; exact n2, m2⟩
end Go.Proofs.YtiflmdekcjbmbaaGreat.Nd
