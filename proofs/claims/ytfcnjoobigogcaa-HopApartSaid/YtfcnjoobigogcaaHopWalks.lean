/-
  Contracts of package hop (chapter 5).
-/
import Derived.Test.YtfcnjoobigogcaaHopMath
import Derived.Test.YtfcnjoobigogcaaBits
import Derived.Test.YtfcnjoobigogcaaOwn
import Derived.Laws.MakeOwn
import Derived.Lib.Hide
set_option maxRecDepth 100000
namespace Go.Proofs.Ytfcnjoobigogcaa.Hp
set_option linter.unusedVariables false
open Go.RowKit Lb

theorem infoI : (Try.prog.info? 3).map (fun i => (i.zero, i.size, i.bytes)) = some (some (.int .i64 0), 1, 8) := by kernel_rfl

theorem shr32 {s : Nat} (hs : s < 4294967296) (x : Int) : bits .and .u32 ((s : Int) / 2 ^ x.toNat) 1 = if s.testBit x.toNat then 1 else 0 := by
  have q1 : s >>> x.toNat < 4294967296 := Nat.lt_of_le_of_lt (by rw [Nat.shiftRight_eq_div_pow]; exact Nat.div_le_self _ _) hs
  have := u32_and_nat _ 1 q1 (by decide)
  rw [shr_and_one, Nat.shiftRight_eq_div_pow] at this
  split <;> simp_all
theorem shl32 {s : Nat} (hs : s < 4294967296) {x : Int} (h0 : 0 ≤ x) (h1 : x < 32) : bits .or .u32 (s : Int) (2 ^ x.toNat % 4294967296) = ((s ||| 1 <<< x.toNat : Nat) : Int) := by
  have q3 : (1 : Nat) <<< x.toNat < 4294967296 := by
    rw [Nat.one_shiftLeft]
    exact Nat.lt_of_lt_of_le (Nat.pow_lt_pow_right (by decide) (show x.toNat < 32 by omega)) (by decide)
  rw [← u32_or_nat _ _ hs q3]
  congr 1
  rw [Nat.one_shiftLeft] at q3 ⊢
  have e : ((2 ^ x.toNat : Nat) : Int) = 2 ^ x.toNat := Int.natCast_pow 2 x.toNat
  rw [← e]
  exact Int.emod_eq_of_lt (Int.natCast_nonneg _) (Int.ofNat_lt.2 q3)

set_option maxHeartbeats 1000000 in
theorem may_any (a : Option Addr) (n c : Nat) (Z : Nat → Int) (w : World) (hn : n ≤ c) (hm : c ≤ maxLen) (hZ : Row w a n (fun i => .int .i64 (Z i))) :
    Calls Try.prog 8 #[.slice a n c] w fun r w' => r = .returned (.bool (mayB Z n)) ∧ w = w' := by
  unfold maxLen at hm
  by_cases h1 : 1 ≤ n ∧ n ≤ 16
  · obtain ⟨n0, n1⟩ := h1
    have HM : Hid (mayB Z n = okTo Z n) := Lib.hid (by unfold mayB; simp [n0, n1])
    have i0 : (1 : Int) ≤ (n : Int) := by omega
    have i1 : (n : Int) ≤ 16 := by omega
    go_enter Try.func8, Try.ntmps8
    go_wp2_with fail
    go_loop [3, 16] (fun u i => ∃ (k s : Nat), u = .int .u32 s ∧ i = .int .i64 k ∧ k ≤ n ∧ Seen s Z k ∧ Hid (okTo Z k = true)) (fun _ i => n - (intOf i).toNat)
    case atStart => exact ⟨0, 0, rfl, rfl, by omega, seen_zero Z, Lib.hid rfl⟩
    case round =>
      obtain ⟨k, s, rfl, rfl, hk, hs, HO⟩ := hrel
      by_cases hlt : k < n
      · obtain ⟨b, o, rfl, hb, hc⟩ := hZ.at_ hlt
        have HS := Lib.hid hs
        have hs2 := hs.1
        clear hs hZ
        by_cases hz : 0 ≤ Z k ∧ Z k < 32
        · obtain ⟨z0, z1⟩ := hz
          have hz2 : decide (32 ≤ Z k) = false := by simp; omega
          have e1 := shr32 hs2 (Z k)
          cases hb2 : s.testBit (Z k).toNat
          · rw [hb2] at e1
            have e2 := shl32 hs2 z0 z1
            have HN : Hid (okTo Z (k + 1) = true) := Lib.hid (by
              simp only [okTo, HO.out, seen_fresh HS.out z0 z1, hb2, Bool.and_eq_true, decide_eq_true_eq]
              simp [z0, z1])
            have HS2 : Hid (Seen (s ||| 1 <<< (Z k).toNat) Z (k + 1)) := Lib.hid (seen_next HS.out z0 z1)
            clear hb2
            simp only [Bool.false_eq_true, if_false] at e1
            go_wp2_with fail
            exact ⟨⟨k + 1, s ||| 1 <<< (Z k).toNat, rfl, by go_num, by omega, HS2.out, HN⟩, by simp [intOf]; omega⟩
          · rw [hb2] at e1
            have HN : Hid (mayB Z n = false) := Lib.hid (by
              rw [HM.out, ← Bool.not_eq_true]
              intro h
              have := (okTo_iff.1 h k hlt)
              have h3 := fresh_iff.2 this.2.2
              rw [seen_fresh HS.out z0 z1, hb2] at h3
              cases h3)
            clear hb2
            simp only [if_true] at e1
            go_wp2_with fail
            go_ret
            exact ⟨by rw [HN.out]; rfl, rfl⟩
        · have HN : Hid (mayB Z n = false) := Lib.hid (by
            rw [HM.out, ← Bool.not_eq_true]
            intro h
            have := (okTo_iff.1 h k hlt)
            exact hz ⟨this.1, this.2.1⟩)
          by_cases hz0 : 0 ≤ Z k
          · have hz2 : 32 ≤ Z k := by omega
            clear hz
            go_wp2_with fail
            go_ret
            exact ⟨by rw [HN.out]; rfl, rfl⟩
          · have hz0 : Z k < 0 := by omega
            clear hz
            go_wp2_with fail
            go_ret
            exact ⟨by rw [HN.out]; rfl, rfl⟩
      · obtain rfl : k = n := by omega
        have HN : Hid (mayB Z k = true) := Lib.hid (by rw [HM.out]; exact HO.out)
        clear hlt hs
        go_wp2_with fail
        go_ret
        exact ⟨by rw [HN.out]; rfl, rfl⟩
  · have HN : Hid (mayB Z n = false) := Lib.hid (by unfold mayB; simp; omega)
    by_cases h0 : n < 1
    · obtain rfl : n = 0 := by omega
      clear h1 h0
      go_enter Try.func8, Try.ntmps8
      go_wp2_with fail
      go_ret
      exact ⟨by rw [HN.out]; rfl, rfl⟩
    · have i0 : decide ((n : Int) < 1) = false := by simp; omega
      have i1 : 16 < (n : Int) := by omega
      clear h1 h0
      go_enter Try.func8, Try.ntmps8
      go_wp2_with fail
      go_ret
      exact ⟨by rw [HN.out]; rfl, rfl⟩

/-- The cells of a list of numbers. -/
def lc (l : List Int) (q : Nat) : Value := .int .i64 (l.getD q 0)
theorem lc_snoc (l : List Int) (x : Int) (q : Nat) (hq : q < l.length + 1) : (if q < l.length then lc l q else .int .i64 x) = lc (l ++ [x]) q := by
  unfold lc
  by_cases h : q < l.length
  · rw [if_pos h, List.getD_eq_getElem?_getD, List.getD_eq_getElem?_getD, List.getElem?_append_left h]
  · obtain rfl : q = l.length := by omega
    rw [if_neg h, List.getD_eq_getElem?_getD, List.getElem?_append_right (by omega)]
    simp
theorem lc_map (Z : Nat → Int) (n q : Nat) (hq : q < n) : lc ((List.range n).map Z) q = .int .i64 (Z q) := by
  unfold lc
  rw [List.getD_eq_getElem?_getD]
  simp [hq]

set_option maxHeartbeats 2000000 in
theorem open_yes (a : Option Addr) (n c : Nat) (Z : Nat → Int) (bl : Nat) (w : World) (hn : n ≤ c) (hm : c ≤ maxLen) (hZ : Row w a n (fun i => .int .i64 (Z i))) (hbl : bl < 4294967296) (hM : mayB Z n = true) :
    Calls Try.prog 11 #[.slice a n c, .int .u32 bl] w fun r w' => ∃ v, r = .returned v ∧ Mine w' w.heap.size 3 v (opn Z bl n).length (lc (opn Z bl n)) ∧ Below w.heap.size w w' := by
  obtain ⟨i0, hi0, hz0, hz1, hz2⟩ := info_parts infoI
  obtain ⟨n0, n1, hO⟩ := mayB_iff.1 hM
  have HO := Lib.hid hO
  have HM := Lib.hid hM
  have hML : 100 ≤ maxLen := by unfold maxLen; omega
  have HML := Lib.hid hML
  clear hO hM hML
  have hmk : ∀ w : World, (Instr.makeSlice 22 (.int .i64 0) (.int .i64 (n : Int))).run Try.prog w = .ok (.slice (some ⟨w.heap.size, 0, none⟩) 0 n) (w.alloc (.cells (madeCells #[.int .i64 0] n) 3)) := by
    intro w
    have := run_make w 22 3 i0 (.int .i64 0) Try.underlying22 hi0 hz0 .i64 .i64 0 (n : Int) (by omega) (by omega) (by rw [hz2]; omega) (by omega)
    rw [this, hz1]
    simp [Value.cells]
  have hcs : (madeCells #[Value.int .i64 0] n).size = n := by simp [madeCells]
  unfold maxLen at hm
  go_enter Try.func11, Try.ntmps11
  go_wp2_with fail
  refine (may_any a n c Z _ hn hm hZ).mono ?_
  rintro r w' ⟨rfl, rfl⟩
  rw [HM.out]
  go_wp2_with fail
  have hm0 : Mine (w.alloc (.cells (madeCells #[.int .i64 0] n) 3)) w.heap.size 3 (.slice (some ⟨w.heap.size, 0, none⟩) 0 n) 0 (lc []) := by
    have := Mine.made (base := w.heap.size) (n := 0) (V := lc []) (Own.new w 3 (madeCells #[.int .i64 0] n)) (Nat.le_refl _) (by rw [hcs]; exact Nat.le_trans (by omega) HML.out) (Nat.zero_le _) (fun i hi => absurd hi (by omega))
    rw [hcs] at this
    exact this
  have b0 := (Below.refl w.heap.size w).alloc (Nat.le_refl _) (.cells (madeCells #[.int .i64 0] n) 3)
  generalize w.alloc (.cells (madeCells #[.int .i64 0] n) 3) = w1 at *
  clear hmk hcs
  go_loopw [5, 16] (fun u i wr => ∃ (k : Nat) (v : Value), u = v ∧ i = .int .i64 k ∧ k ≤ n ∧ Mine wr w.heap.size 3 v (flt Z bl k).length (lc (flt Z bl k)) ∧ Below w.heap.size w wr) (fun _ i _ => n - (intOf i).toNat)
  case atStart => exact ⟨0, _, rfl, rfl, by omega, hm0, b0⟩
  case round =>
    obtain ⟨k, v, rfl, rfl, hk, hv, bb⟩ := hrel
    have hlen := flt_len Z bl k
    have hs := bb.size
    by_cases hlt : k < n
    · obtain ⟨b, o, rfl, hb, hc⟩ := hZ.at_old bb hlt
      obtain ⟨z0, z1, _⟩ := okTo_iff.1 HO.out k hlt
      have e1 := shr32 hbl (Z k)
      cases hb2 : bl.testBit (Z k).toNat
      · rw [hb2] at e1
        have HF := Lib.hid (flt_open (Z := Z) (b := bl) (k := k) hb2)
        have hm1 : (flt Z bl k).length + 1 ≤ maxLen := Nat.le_trans (by omega) HML.out
        have Hm := Lib.hid hm1
        clear hb2 hm1 hZ
        simp only [Bool.false_eq_true, if_false] at e1
        go_wp2_with (at_builtin; go_must (refine wp_app rfl (.tmp 25) (.tmp 27) _ rfl w.heap.size 3 i0 _ 8 Try.underlying22 hi0 hz0 hz1 hz2 rfl u5 (flt Z bl k).length (lc (flt Z bl k)) rfl (hv.alloc _) _ 1 _ (fun _ => .int .i64 (Z k)) rfl (row_new _ _ _ _ (fun i hi => by obtain rfl : i = 0 := (by omega); rfl)) (fun _ _ => rfl) Hm.out ?c2 ?c3 ?_))
        case c2 => omega
        case c3 => first | omega | (simp; omega)
        intro v' w2 hv2 hg
        have b2 : Below w.heap.size w w2 := (bb.alloc hs _).grown hg (by simp; omega) (fun q hq => (hv.lt q hq).1)
        have hv3 : Mine w2 w.heap.size 3 v' (flt Z bl (k + 1)).length (lc (flt Z bl (k + 1))) := by
          rw [HF.out, List.length_append]
          exact hv2.ext (fun q hq => lc_snoc _ _ _ hq)
        clear hv hv2
        go_wp2_with fail
        exact ⟨⟨k + 1, _, rfl, by go_num, by omega, hv3, b2⟩, by simp [intOf]; omega⟩
      · rw [hb2] at e1
        have HF := Lib.hid (flt_black (Z := Z) (b := bl) (k := k) hb2)
        clear hb2
        simp only [if_true] at e1
        go_wp2_with fail
        exact ⟨⟨k + 1, _, rfl, by go_num, by omega, by rw [HF.out]; exact hv, bb⟩, by simp [intOf]; omega⟩
    · obtain rfl : k = n := by omega
      clear hlt
      obtain ⟨a', c', rfl, hc1, hc2, hR⟩ := hv.row
      obtain ⟨m, hmm⟩ : ∃ m, (flt Z bl k).length = m := ⟨_, rfl⟩
      by_cases hm0 : m = 0
      · have hfe : flt Z bl k = [] := List.length_eq_zero_iff.1 (by omega)
        have HP : Hid (opn Z bl k = (List.range k).map Z) := Lib.hid (by unfold opn; rw [if_pos hfe])
        rw [hfe] at hv hc1 hR
        rw [hfe]
        simp only [List.length_nil] at *
        clear hfe hmm hm0 hlen
        have hm1 : 0 + k ≤ maxLen := Nat.le_trans (by omega) HML.out
        have Hm := Lib.hid hm1
        clear hm1
        go_wp2_with (at_builtin; go_must (refine wp_app rfl (.tmp 33) (.tmp 34) _ rfl w.heap.size 3 i0 _ 8 Try.underlying22 hi0 hz0 hz1 hz2 rfl _ 0 (lc []) rfl hv a k c (fun i => .int .i64 (Z i)) rfl (hZ.below bb) (fun _ _ => rfl) Hm.out ?c2 ?c3 ?_))
        case c2 => omega
        case c3 => omega
        intro v' w2 hv2 hg
        have b2 : Below w.heap.size w w2 := bb.grown hg hs (fun q hq => (hv.lt q hq).1)
        go_wp2_with fail
        go_ret
        refine ⟨_, rfl, ?_, b2⟩
        rw [HP.out, List.length_map, List.length_range]
        exact hv2.ext (fun q hq => (lc_map Z k q hq).symm)
      · have hfe : ¬ flt Z bl k = [] := fun e => hm0 (by rw [← hmm, e]; rfl)
        have HP : Hid (opn Z bl k = flt Z bl k) := Lib.hid (by unfold opn; rw [if_neg hfe])
        have hne : (((flt Z bl k).length : Int) == 0) = false := by simp; exact hfe
        clear hfe hmm hm0
        go_wp2_with fail
        go_ret
        refine ⟨_, rfl, ?_, bb⟩
        rw [HP.out]
        exact hv
theorem open_no (a : Option Addr) (n c : Nat) (Z : Nat → Int) (bl : Nat) (w : World) (hn : n ≤ c) (hm : c ≤ maxLen) (hZ : Row w a n (fun i => .int .i64 (Z i))) (hM : mayB Z n = false) :
    Calls Try.prog 11 #[.slice a n c, .int .u32 bl] w fun r w' => r = .returned (.slice none 0 0) ∧ w = w' := by
  have HM := Lib.hid hM
  clear hM
  go_enter Try.func11, Try.ntmps11
  go_wp2_with fail
  refine (may_any a n c Z _ hn hm hZ).mono ?_
  rintro r w' ⟨rfl, rfl⟩
  rw [HM.out]
  go_wp2_with fail
  go_ret
  exact ⟨rfl, rfl⟩

set_option maxHeartbeats 1000000 in
theorem channel_yes (a : Option Addr) (n c : Nat) (Z : Nat → Int) (bl : Nat) (asn off : Int) (w : World) (hn : n ≤ c) (hm : c ≤ maxLen) (hZ : Row w a n (fun i => .int .i64 (Z i))) (hbl : bl < 4294967296)
    (hM : mayB Z n = true) (h0 : 0 ≤ asn) (h1 : asn < 1099511627776) (h2 : 0 ≤ off) (h3 : off < 256) :
    Calls Try.prog 13 #[.slice a n c, .int .u32 bl, .int .i64 asn, .int .i64 off] w fun r w' => r = .returned (.int .i64 (chan Z bl n asn off)) ∧ Below w.heap.size w w' := by
  obtain ⟨n0, n1, hO⟩ := mayB_iff.1 hM
  obtain ⟨l0, l1⟩ := opn_len (Z := Z) (b := bl) n0
  have HM := Lib.hid hM
  clear hM hO
  have HC : Hid (chan Z bl n asn off = (opn Z bl n).getD ((asn + off) % ((opn Z bl n).length : Int)).toNat 0) := Lib.hid rfl
  go_enter Try.func13, Try.ntmps13
  go_wp2_with fail
  refine (open_yes a n c Z bl _ hn hm hZ hbl HM.out).mono ?_
  rintro r w1 ⟨v, rfl, hv, bb⟩
  obtain ⟨a', c', rfl, hc1, hc2, hR⟩ := hv.row
  clear hv
  have hd : ¬ (opn Z bl n).length = 0 := by omega
  have r0 : 0 ≤ (asn + off) % ((opn Z bl n).length : Int) := Int.emod_nonneg _ (by omega)
  have r1 : (asn + off) % ((opn Z bl n).length : Int) < ((opn Z bl n).length : Int) := Int.emod_lt_of_pos _ (by omega)
  obtain ⟨q, hq⟩ : ∃ q : Nat, (asn + off) % ((opn Z bl n).length : Int) = (q : Int) := ⟨((asn + off) % ((opn Z bl n).length : Int)).toNat, by omega⟩
  rw [hq] at r0 r1
  obtain ⟨b, o, rfl, hb, hc⟩ := hR.at_ (k := q) (by omega)
  have HQ := Lib.hid hq
  obtain ⟨m, hmm⟩ : ∃ m, (opn Z bl n).length = m := ⟨_, rfl⟩
  unfold lc at hc
  rw [hmm] at l0 l1 hc1 hd r1 hq ⊢
  have hz : ¬ (m : Int) = 0 := by omega
  have hz2 : ((m : Int) == 0) = false := by simp; exact hd
  have ht : (asn + off).tmod (m : Int) = (q : Int) := by rw [Int.tmod_eq_emod_of_nonneg (by omega)]; exact hq
  clear hmm hq hR
  go_wp2_with fail
  go_ret
  refine ⟨?_, bb⟩
  rw [HC.out, HQ.out, Int.toNat_natCast, List.getD_eq_getElem?_getD]
  rfl
set_option maxHeartbeats 1000000 in
theorem channel_off (a : Option Addr) (n c : Nat) (Z : Nat → Int) (bl : Nat) (asn off : Int) (w : World) (hn : n ≤ c) (hm : c ≤ maxLen) (hZ : Row w a n (fun i => .int .i64 (Z i))) (hbl : bl < 4294967296)
    (hM : mayB Z n = true) (ho : ¬ (0 ≤ asn ∧ asn < 1099511627776 ∧ 0 ≤ off ∧ off < 256)) :
    Calls Try.prog 13 #[.slice a n c, .int .u32 bl, .int .i64 asn, .int .i64 off] w fun r w' => r = .returned (.int .i64 (-1)) ∧ Below w.heap.size w w' := by
  obtain ⟨n0, n1, hO⟩ := mayB_iff.1 hM
  obtain ⟨l0, l1⟩ := opn_len (Z := Z) (b := bl) n0
  have HM := Lib.hid hM
  clear hM hO
  have hcase : asn < 0 ∨ (0 ≤ asn ∧ 1099511627776 ≤ asn) ∨ (0 ≤ asn ∧ decide (1099511627776 ≤ asn) = false ∧ off < 0) ∨ (0 ≤ asn ∧ decide (1099511627776 ≤ asn) = false ∧ 0 ≤ off ∧ 256 ≤ off) := by
    by_cases g0 : asn < 0
    · exact .inl g0
    · by_cases g1 : 1099511627776 ≤ asn
      · exact .inr (.inl ⟨by omega, g1⟩)
      · by_cases g2 : off < 0
        · exact .inr (.inr (.inl ⟨by omega, by simpa using g1, g2⟩))
        · exact .inr (.inr (.inr ⟨by omega, by simpa using g1, by omega, by omega⟩))
  clear ho
  go_enter Try.func13, Try.ntmps13
  go_wp2_with fail
  refine (open_yes a n c Z bl _ hn hm hZ hbl HM.out).mono ?_
  rintro r w1 ⟨v, rfl, hv, bb⟩
  obtain ⟨a', c', rfl, hc1, hc2, hR⟩ := hv.row
  clear hv hR
  have hz2 : (((opn Z bl n).length : Int) == 0) = false := by simp; intro h; rw [h] at l0; simp at l0
  generalize (opn Z bl n).length = m at *
  rcases hcase with h | ⟨h, h'⟩ | ⟨h, h', h''⟩ | ⟨h, h', h'', h3⟩
  all_goals
    go_wp2_with fail
    go_ret
    exact ⟨rfl, bb⟩
theorem channel_none (a : Option Addr) (n c : Nat) (Z : Nat → Int) (bl : Nat) (asn off : Int) (w : World) (hn : n ≤ c) (hm : c ≤ maxLen) (hZ : Row w a n (fun i => .int .i64 (Z i))) (hM : mayB Z n = false) :
    Calls Try.prog 13 #[.slice a n c, .int .u32 bl, .int .i64 asn, .int .i64 off] w fun r w' => r = .returned (.int .i64 (-1)) ∧ w = w' := by
  have HM := Lib.hid hM
  clear hM
  go_enter Try.func13, Try.ntmps13
  go_wp2_with fail
  refine (open_no a n c Z bl _ hn hm hZ HM.out).mono ?_
  rintro r w1 ⟨rfl, rfl⟩
  go_wp2_with fail
  go_ret
  exact ⟨rfl, rfl⟩
theorem channel_any (a : Option Addr) (n c : Nat) (Z : Nat → Int) (bl : Nat) (asn off : Int) (w : World) (hn : n ≤ c) (hm : c ≤ maxLen) (hZ : Row w a n (fun i => .int .i64 (Z i))) (hbl : bl < 4294967296) :
    Calls Try.prog 13 #[.slice a n c, .int .u32 bl, .int .i64 asn, .int .i64 off] w fun r w' => r = .returned (.int .i64 (chanB Z bl n asn off)) ∧ Below w.heap.size w w' := by
  unfold chanB
  cases hM : mayB Z n
  · rw [if_neg (by simp)]
    refine (channel_none a n c Z bl asn off w hn hm hZ hM).mono ?_
    rintro r w' ⟨rfl, rfl⟩
    exact ⟨rfl, Below.refl _ _⟩
  · by_cases ho : 0 ≤ asn ∧ asn < 1099511627776 ∧ 0 ≤ off ∧ off < 256
    · rw [if_pos ⟨rfl, ho⟩]
      exact channel_yes a n c Z bl asn off w hn hm hZ hbl hM ho.1 ho.2.1 ho.2.2.1 ho.2.2.2
    · rw [if_neg (fun h => ho h.2)]
      exact channel_off a n c Z bl asn off w hn hm hZ hbl hM ho

set_option maxHeartbeats 1000000 in
theorem awake_any (w : World) :
    Calls Try.prog 7 #[] w fun r w' => r = .returned (.bool true) ∧ Below w.heap.size w w' := by
  go_enter Try.func7, Try.ntmps7
  go_wp2_with fail
  have r1 : Row (w.alloc (.cells #[.int .i64 11, .int .i64 20, .int .i64 26] 3)) (some ⟨w.heap.size, 0, none⟩) 3 (fun i => .int .i64 ((fun i => if i = 0 then 11 else if i = 1 then 20 else 26) i)) :=
    row_new _ _ _ _ (fun i hi => by rcases (show i = 0 ∨ i = 1 ∨ i = 2 by omega) with rfl | rfl | rfl <;> rfl)
  have b1 := (Below.refl w.heap.size w).alloc (Nat.le_refl _) (.cells #[.int .i64 11, .int .i64 20, .int .i64 26] 3)
  generalize w.alloc (.cells #[.int .i64 11, .int .i64 20, .int .i64 26] 3) = w1 at *
  refine (channel_any _ 3 3 _ 0 4 1 _ (by decide) (by unfold maxLen; omega) r1 (by decide)).mono ?_
  rintro r w2 ⟨rfl, b2⟩
  have bb := b1.trans (b2.mono b1.size)
  rw [show chanB (fun i => if i = 0 then 11 else if i = 1 then 20 else 26) 0 3 4 1 = 26 from by decide]
  go_wp2_with fail
  have r3 : Row (w2.alloc (.cells #[.int .i64 3] 3)) (some ⟨w2.heap.size, 0, none⟩) 1 (fun i => .int .i64 ((fun _ => 3) i)) :=
    row_new _ _ _ _ (fun i hi => by obtain rfl : i = 0 := (by omega); rfl)
  have b3 := bb.alloc bb.size (.cells #[.int .i64 3] 3)
  generalize w2.alloc (.cells #[.int .i64 3] 3) = w3 at *
  refine (may_any _ 1 1 _ _ (by decide) (by unfold maxLen; omega) r3).mono ?_
  rintro r w' ⟨rfl, rfl⟩
  rw [show mayB (fun _ => 3) 1 = true from by decide]
  go_wp2_with fail
  go_ret
  exact ⟨rfl, b3⟩
end Go.Proofs.Ytfcnjoobigogcaa.Hp
