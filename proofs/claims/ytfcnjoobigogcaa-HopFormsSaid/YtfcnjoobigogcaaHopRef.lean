/-
  Contracts of the reference's channels (chapter 5).
-/
import Derived.Test.YtfcnjoobigogcaaHopWalks
set_option maxRecDepth 100000
namespace Go.Proofs.Ytfcnjoobigogcaa.Hp
set_option linter.unusedVariables false
open Go.RowKit Lb

set_option maxHeartbeats 1000000 in
theorem ref_may (a : Option Addr) (n c : Nat) (Z : Nat → Int) (w : World) (hn : n ≤ c) (hm : c ≤ maxLen) (hZ : Row w a n (fun i => .int .i64 (Z i))) :
    Calls Try.prog 9 #[.slice a n c] w fun r w' => r = .returned (.bool (mayB Z n)) ∧ w = w' := by
  unfold maxLen at hm
  by_cases h1 : 1 ≤ n ∧ n ≤ 16
  · obtain ⟨n0, n1⟩ := h1
    have HM : Hid (mayB Z n = okTo Z n) := Lib.hid (by unfold mayB; simp [n0, n1])
    have i0 : decide ((n : Int) < 1) = false := by simp; omega
    have i1 : decide (16 < (n : Int)) = false := by simp; omega
    clear n0
    go_enter Try.func9, Try.ntmps9
    go_wp2_with fail
    go_loop [17] (fun i => ∃ k : Nat, i = .int .i64 k ∧ k ≤ n ∧ Hid (okTo Z k = true)) (fun i => n - (intOf i).toNat)
    case atStart => exact ⟨0, rfl, by omega, Lib.hid rfl⟩
    case round =>
      obtain ⟨k, rfl, hk, HO⟩ := hrel
      by_cases hlt : k < n
      · obtain ⟨b, o, rfl, hb, hc⟩ := hZ.at_ hlt
        have hZ' := hZ
        obtain ⟨b', o', e1, e2, e3⟩ := hZ (by omega)
        obtain ⟨rfl, rfl⟩ : b = b' ∧ o = o' := by injection e1 with e1; injection e1 with x y; exact ⟨x, y⟩
        have H3 := Lib.hid e3
        clear e1 e3 hZ hZ'
        by_cases hz : 0 ≤ Z k ∧ Z k < 32
        · obtain ⟨z0, z1⟩ := hz
          have z2 : decide (31 < Z k) = false := by simp; omega
          go_wp2_with fail
          go_loop [32] (fun i => ∃ j : Nat, i = .int .i64 j ∧ j ≤ k ∧ Hid (fresh Z (Z k) j = true)) (fun i => k - (intOf i).toNat)
          case atStart => exact ⟨0, rfl, by omega, Lib.hid rfl⟩
          case round =>
            obtain ⟨j, rfl, hj, HF⟩ := hrel
            by_cases hjk : j < k
            · have c1 := H3.out j (by omega)
              by_cases he : Z k = Z j
              · have HN : Hid (mayB Z n = false) := Lib.hid (by
                  rw [HM.out, ← Bool.not_eq_true]
                  intro h
                  exact (okTo_iff.1 h k hlt).2.2 j hjk he.symm)
                have he2 : (Z k == Z j) = true := by simp [he]
                clear he
                go_wp2_with fail
                go_ret
                exact ⟨by rw [HN.out]; rfl, rfl⟩
              · have he2 : (Z k == Z j) = false := by simpa using he
                have HF2 : Hid (fresh Z (Z k) (j + 1) = true) := Lib.hid (by
                  simp only [fresh, HF.out, Bool.true_and, decide_eq_true_eq]
                  exact fun e => he e.symm)
                clear he
                go_wp2_with fail
                exact ⟨⟨j + 1, by go_num, by omega, HF2⟩, by simp [intOf]; omega⟩
            · obtain rfl : j = k := by omega
              have HO2 : Hid (okTo Z (j + 1) = true) := Lib.hid (by
                simp only [okTo, HO.out, HF.out, Bool.true_and, Bool.and_true, Bool.and_eq_true, decide_eq_true_eq]
                exact ⟨z0, z1⟩)
              clear hjk
              go_wp2_with fail
              exact ⟨⟨j + 1, by go_num, by omega, HO2⟩, by simp [intOf]; omega⟩
        · have HN : Hid (mayB Z n = false) := Lib.hid (by
            rw [HM.out, ← Bool.not_eq_true]
            intro h
            have := (okTo_iff.1 h k hlt)
            exact hz ⟨this.1, this.2.1⟩)
          by_cases hz0 : 0 ≤ Z k
          · have hz2 : 31 < Z k := by omega
            clear hz
            go_wp2_with fail
            go_ret
            exact ⟨by rw [HN.out]; rfl, rfl⟩
          · have hz0 : Z k < 0 := by omega
            clear hz
            go_wp2_with fail
            go_ret
            exact ⟨by rw [HN.out]; rfl, rfl⟩
      · obtain rfl : k = n := by omega
        have HN : Hid (mayB Z k = true) := Lib.hid (by rw [HM.out]; exact HO.out)
        clear hlt
        go_wp2_with fail
        go_ret
        exact ⟨by rw [HN.out]; rfl, rfl⟩
  · have HN : Hid (mayB Z n = false) := Lib.hid (by unfold mayB; simp; omega)
    by_cases h0 : n < 1
    · obtain rfl : n = 0 := by omega
      clear h1 h0
      go_enter Try.func9, Try.ntmps9
      go_wp2_with fail
      go_ret
      exact ⟨by rw [HN.out]; rfl, rfl⟩
    · have i0 : decide ((n : Int) < 1) = false := by simp; omega
      have i1 : 16 < (n : Int) := by omega
      clear h1 h0
      go_enter Try.func9, Try.ntmps9
      go_wp2_with fail
      go_ret
      exact ⟨by rw [HN.out]; rfl, rfl⟩

set_option maxHeartbeats 2000000 in
theorem ref_open_yes (a : Option Addr) (n c : Nat) (Z : Nat → Int) (bl : Nat) (w : World) (hn : n ≤ c) (hm : c ≤ maxLen) (hZ : Row w a n (fun i => .int .i64 (Z i))) (hbl : bl < 4294967296) (hM : mayB Z n = true) :
    Calls Try.prog 12 #[.slice a n c, .int .u32 bl] w fun r w' => ∃ v, r = .returned v ∧ Mine w' w.heap.size 3 v (opn Z bl n).length (lc (opn Z bl n)) ∧ Below w.heap.size w w' := by
  obtain ⟨i0, hi0, hz0, hz1, hz2⟩ := info_parts infoI
  obtain ⟨n0, n1, hO⟩ := mayB_iff.1 hM
  have HO := Lib.hid hO
  have HM := Lib.hid hM
  have hML : 100 ≤ maxLen := by unfold maxLen; omega
  have HML := Lib.hid hML
  clear hO hM hML
  go_enter Try.func12, Try.ntmps12
  go_wp2_with fail
  refine (ref_may a n c Z _ hn hm hZ).mono ?_
  rintro r w' ⟨rfl, rfl⟩
  rw [HM.out]
  unfold maxLen at hm
  go_wp2_with fail
  go_loopw [5, 13] (fun u i wr => ∃ (k : Nat) (v : Value), u = v ∧ i = .int .i64 k ∧ k ≤ n ∧ Mine wr w.heap.size 3 v (flt Z bl k).length (lc (flt Z bl k)) ∧ Below w.heap.size w wr) (fun _ i _ => n - (intOf i).toNat)
  case atStart => exact ⟨0, _, rfl, rfl, by omega, Mine.nil _ _ _ _, Below.refl _ _⟩
  case round =>
    obtain ⟨k, v, rfl, rfl, hk, hv, bb⟩ := hrel
    have hlen := flt_len Z bl k
    have hs := bb.size
    by_cases hlt : k < n
    · obtain ⟨b, o, rfl, hb, hc⟩ := hZ.at_old bb hlt
      obtain ⟨z0, z1, _⟩ := okTo_iff.1 HO.out k hlt
      have e1 := shr32 hbl (Z k)
      have e9 : IntKind.u64.wrap (Z k) = Z k := by rw [IntKind.wrap_u64]; omega
      cases hb2 : bl.testBit (Z k).toNat
      · rw [hb2] at e1
        have HF := Lib.hid (flt_open (Z := Z) (b := bl) (k := k) hb2)
        have hm1 : (flt Z bl k).length + 1 ≤ maxLen := Nat.le_trans (by omega) HML.out
        have Hm := Lib.hid hm1
        clear hb2 hm1 hZ
        simp only [Bool.false_eq_true, if_false] at e1
        go_wp2_with (at_builtin; go_must (refine wp_app rfl (.tmp 23) (.tmp 25) _ rfl w.heap.size 3 i0 _ 8 Try.underlying22 hi0 hz0 hz1 hz2 rfl u5 (flt Z bl k).length (lc (flt Z bl k)) rfl (hv.alloc _) _ 1 _ (fun _ => .int .i64 (Z k)) rfl (row_new _ _ _ _ (fun i hi => by obtain rfl : i = 0 := (by omega); rfl)) (fun _ _ => rfl) Hm.out ?c2 ?c3 ?_))
        case c2 => omega
        case c3 => first | omega | (simp; omega)
        intro v' w2 hv2 hg
        have b2 : Below w.heap.size w w2 := (bb.alloc hs _).grown hg (by simp; omega) (fun q hq => (hv.lt q hq).1)
        have hv3 : Mine w2 w.heap.size 3 v' (flt Z bl (k + 1)).length (lc (flt Z bl (k + 1))) := by
          rw [HF.out, List.length_append]
          exact hv2.ext (fun q hq => lc_snoc _ _ _ hq)
        clear hv hv2
        go_wp2_with fail
        exact ⟨⟨k + 1, _, rfl, by go_num, by omega, hv3, b2⟩, by simp [intOf]; omega⟩
      · rw [hb2] at e1
        have HF := Lib.hid (flt_black (Z := Z) (b := bl) (k := k) hb2)
        clear hb2
        simp only [if_true] at e1
        go_wp2_with fail
        exact ⟨⟨k + 1, _, rfl, by go_num, by omega, by rw [HF.out]; exact hv, bb⟩, by simp [intOf]; omega⟩
    · obtain rfl : k = n := by omega
      clear hlt
      obtain ⟨a', c', rfl, hc1, hc2, hR⟩ := hv.row
      obtain ⟨m, hmm⟩ : ∃ m, (flt Z bl k).length = m := ⟨_, rfl⟩
      by_cases hm0 : m = 0
      · have hfe : flt Z bl k = [] := List.length_eq_zero_iff.1 (by omega)
        have HP : Hid (opn Z bl k = (List.range k).map Z) := Lib.hid (by unfold opn; rw [if_pos hfe])
        rw [hfe] at hv hc1 hR
        rw [hfe]
        simp only [List.length_nil] at *
        clear hfe hmm hm0 hlen
        have hm1 : 0 + k ≤ maxLen := Nat.le_trans (by omega) HML.out
        have Hm := Lib.hid hm1
        clear hm1
        go_wp2_with (at_builtin; go_must (refine wp_app rfl (.tmp 31) (.tmp 32) _ rfl w.heap.size 3 i0 _ 8 Try.underlying22 hi0 hz0 hz1 hz2 rfl _ 0 (lc []) rfl hv a k c (fun i => .int .i64 (Z i)) rfl (hZ.below bb) (fun _ _ => rfl) Hm.out ?c2 ?c3 ?_))
        case c2 => omega
        case c3 => omega
        intro v' w2 hv2 hg
        have b2 : Below w.heap.size w w2 := bb.grown hg hs (fun q hq => (hv.lt q hq).1)
        go_wp2_with fail
        go_ret
        refine ⟨_, rfl, ?_, b2⟩
        rw [HP.out, List.length_map, List.length_range]
        exact hv2.ext (fun q hq => (lc_map Z k q hq).symm)
      · have hfe : ¬ flt Z bl k = [] := fun e => hm0 (by rw [← hmm, e]; rfl)
        have HP : Hid (opn Z bl k = flt Z bl k) := Lib.hid (by unfold opn; rw [if_neg hfe])
        have hne : (((flt Z bl k).length : Int) == 0) = false := by simp; exact hfe
        clear hfe hmm hm0
        go_wp2_with fail
        go_ret
        refine ⟨_, rfl, ?_, bb⟩
        rw [HP.out]
        exact hv
theorem ref_open_no (a : Option Addr) (n c : Nat) (Z : Nat → Int) (bl : Nat) (w : World) (hn : n ≤ c) (hm : c ≤ maxLen) (hZ : Row w a n (fun i => .int .i64 (Z i))) (hM : mayB Z n = false) :
    Calls Try.prog 12 #[.slice a n c, .int .u32 bl] w fun r w' => r = .returned (.slice none 0 0) ∧ w = w' := by
  have HM := Lib.hid hM
  clear hM
  go_enter Try.func12, Try.ntmps12
  go_wp2_with fail
  refine (ref_may a n c Z _ hn hm hZ).mono ?_
  rintro r w' ⟨rfl, rfl⟩
  rw [HM.out]
  go_wp2_with fail
  go_ret
  exact ⟨rfl, rfl⟩

def asnB (x : Int) : Bool := decide (0 ≤ x ∧ x < 1099511627776)
theorem ref_asn (x : Int) (w : World) :
    Calls Try.prog 15 #[.int .i64 x] w fun r w' => r = .returned (.bool (asnB x)) ∧ w = w' := by
  by_cases h0 : 0 ≤ x
  · by_cases h1 : x < 1099511627776
    · have HD : Hid (asnB x = true) := Lib.hid (by simp [asnB, h0, h1])
      go_enter Try.func15, Try.ntmps15
      go_wp2_with fail
      go_ret
      exact ⟨by rw [HD.out]; rfl, rfl⟩
    · have HD : Hid (asnB x = false) := Lib.hid (by simp [asnB, h0]; omega)
      have h2 : decide (x < 1099511627776) = false := by simp; omega
      clear h1
      go_enter Try.func15, Try.ntmps15
      go_wp2_with fail
      go_ret
      exact ⟨by rw [HD.out]; rfl, rfl⟩
  · have HD : Hid (asnB x = false) := Lib.hid (by simp [asnB]; omega)
    have h2 : x < 0 := by omega
    clear h0
    go_enter Try.func15, Try.ntmps15
    go_wp2_with fail
    go_ret
    exact ⟨by rw [HD.out]; rfl, rfl⟩

set_option maxHeartbeats 1000000 in
theorem ref_channel_yes (a : Option Addr) (n c : Nat) (Z : Nat → Int) (bl : Nat) (asn off : Int) (w : World) (hn : n ≤ c) (hm : c ≤ maxLen) (hZ : Row w a n (fun i => .int .i64 (Z i))) (hbl : bl < 4294967296)
    (hM : mayB Z n = true) (h0 : 0 ≤ asn) (h1 : asn < 1099511627776) (h2 : 0 ≤ off) (h3 : off < 256) :
    Calls Try.prog 14 #[.slice a n c, .int .u32 bl, .int .i64 asn, .int .i64 off] w fun r w' => r = .returned (.int .i64 (chan Z bl n asn off)) ∧ Below w.heap.size w w' := by
  obtain ⟨n0, n1, hO⟩ := mayB_iff.1 hM
  obtain ⟨l0, l1⟩ := opn_len (Z := Z) (b := bl) n0
  have HM := Lib.hid hM
  clear hM hO
  have HC : Hid (chan Z bl n asn off = (opn Z bl n).getD ((asn + off) % ((opn Z bl n).length : Int)).toNat 0) := Lib.hid rfl
  have HD : Hid (asnB asn = true) := Lib.hid (by simp [asnB, h0, h1])
  have h4 : decide (255 < off) = false := by simp; omega
  go_enter Try.func14, Try.ntmps14
  go_wp2_with fail
  refine (ref_may a n c Z _ hn hm hZ).mono ?_
  rintro r w' ⟨rfl, rfl⟩
  rw [HM.out]
  go_wp2_with fail
  refine (ref_asn asn _).mono ?_
  rintro r w' ⟨rfl, rfl⟩
  rw [HD.out]
  go_wp2_with fail
  refine (ref_open_yes a n c Z bl _ hn hm hZ hbl HM.out).mono ?_
  rintro r w1 ⟨v, rfl, hv, bb⟩
  obtain ⟨a', c', rfl, hc1, hc2, hR⟩ := hv.row
  clear hv
  have hd : ¬ (opn Z bl n).length = 0 := by omega
  have r0 : 0 ≤ (asn + off) % ((opn Z bl n).length : Int) := Int.emod_nonneg _ (by omega)
  have r1 : (asn + off) % ((opn Z bl n).length : Int) < ((opn Z bl n).length : Int) := Int.emod_lt_of_pos _ (by omega)
  obtain ⟨q, hq⟩ : ∃ q : Nat, (asn + off) % ((opn Z bl n).length : Int) = (q : Int) := ⟨((asn + off) % ((opn Z bl n).length : Int)).toNat, by omega⟩
  rw [hq] at r0 r1
  obtain ⟨b, o, rfl, hb, hc⟩ := hR.at_ (k := q) (by omega)
  have HQ := Lib.hid hq
  obtain ⟨m, hmm⟩ : ∃ m, (opn Z bl n).length = m := ⟨_, rfl⟩
  unfold lc at hc
  rw [hmm] at l0 l1 hc1 hd r1 hq ⊢
  have hz : ¬ (m : Int) = 0 := by omega
  have hz2 : ((m : Int) == 0) = false := by simp; exact hd
  have ht : (asn + off).tmod (m : Int) = (q : Int) := by rw [Int.tmod_eq_emod_of_nonneg (by omega)]; exact hq
  clear hmm hq hR
  go_wp2_with fail
  go_ret
  refine ⟨?_, bb⟩
  rw [HC.out, HQ.out, Int.toNat_natCast, List.getD_eq_getElem?_getD]
  rfl
theorem ref_channel_no (a : Option Addr) (n c : Nat) (Z : Nat → Int) (bl : Nat) (asn off : Int) (w : World) (hn : n ≤ c) (hm : c ≤ maxLen) (hZ : Row w a n (fun i => .int .i64 (Z i)))
    (ho : ¬ (mayB Z n = true ∧ 0 ≤ asn ∧ asn < 1099511627776 ∧ 0 ≤ off ∧ off < 256)) :
    Calls Try.prog 14 #[.slice a n c, .int .u32 bl, .int .i64 asn, .int .i64 off] w fun r w' => r = .returned (.int .i64 (-1)) ∧ w = w' := by
  cases hM : mayB Z n
  · have HM := Lib.hid hM
    clear hM ho
    go_enter Try.func14, Try.ntmps14
    go_wp2_with fail
    refine (ref_may a n c Z _ hn hm hZ).mono ?_
    rintro r w' ⟨rfl, rfl⟩
    rw [HM.out]
    go_wp2_with fail
    go_ret
    exact ⟨rfl, rfl⟩
  · rw [hM] at ho
    simp only [true_and] at ho
    have HM := Lib.hid hM
    clear hM
    by_cases hA : 0 ≤ asn ∧ asn < 1099511627776
    · have HD : Hid (asnB asn = true) := Lib.hid (by simp [asnB, hA])
      by_cases h2 : off < 0
      · clear ho hA
        go_enter Try.func14, Try.ntmps14
        go_wp2_with fail
        refine (ref_may a n c Z _ hn hm hZ).mono ?_
        rintro r w' ⟨rfl, rfl⟩
        rw [HM.out]
        go_wp2_with fail
        refine (ref_asn asn _).mono ?_
        rintro r w' ⟨rfl, rfl⟩
        rw [HD.out]
        go_wp2_with fail
        go_ret
        exact ⟨rfl, rfl⟩
      · have h3 : 0 ≤ off := by omega
        have h4 : 255 < off := by omega
        clear ho hA h2
        go_enter Try.func14, Try.ntmps14
        go_wp2_with fail
        refine (ref_may a n c Z _ hn hm hZ).mono ?_
        rintro r w' ⟨rfl, rfl⟩
        rw [HM.out]
        go_wp2_with fail
        refine (ref_asn asn _).mono ?_
        rintro r w' ⟨rfl, rfl⟩
        rw [HD.out]
        go_wp2_with fail
        go_ret
        exact ⟨rfl, rfl⟩
    · have HD : Hid (asnB asn = false) := Lib.hid (by unfold asnB; exact decide_eq_false hA)
      clear ho hA
      go_enter Try.func14, Try.ntmps14
      go_wp2_with fail
      refine (ref_may a n c Z _ hn hm hZ).mono ?_
      rintro r w' ⟨rfl, rfl⟩
      rw [HM.out]
      go_wp2_with fail
      refine (ref_asn asn _).mono ?_
      rintro r w' ⟨rfl, rfl⟩
      rw [HD.out]
      go_wp2_with fail
      go_ret
      exact ⟨rfl, rfl⟩
theorem ref_channel (a : Option Addr) (n c : Nat) (Z : Nat → Int) (bl : Nat) (asn off : Int) (w : World) (hn : n ≤ c) (hm : c ≤ maxLen) (hZ : Row w a n (fun i => .int .i64 (Z i))) (hbl : bl < 4294967296) :
    Calls Try.prog 14 #[.slice a n c, .int .u32 bl, .int .i64 asn, .int .i64 off] w fun r w' => r = .returned (.int .i64 (chanB Z bl n asn off)) ∧ Below w.heap.size w w' := by
  unfold chanB
  by_cases ho : mayB Z n = true ∧ 0 ≤ asn ∧ asn < 1099511627776 ∧ 0 ≤ off ∧ off < 256
  · rw [if_pos ho]
    exact ref_channel_yes a n c Z bl asn off w hn hm hZ hbl ho.1 ho.2.1 ho.2.2.1 ho.2.2.2.1 ho.2.2.2.2
  · rw [if_neg ho]
    refine (ref_channel_no a n c Z bl asn off w hn hm hZ ho).mono ?_
    rintro r w' ⟨rfl, rfl⟩
    exact ⟨rfl, Below.refl _ _⟩

/-- Two rows that read alike are the same. -/
theorem same_ints (a b : Option Addr) (n c d : Nat) (X : Nat → Int) (w : World) (hn : n ≤ c) (hm : n ≤ d) (hc : c ≤ maxLen) (hd : d ≤ maxLen) (hX : Row w a n (fun i => .int .i64 (X i))) (hY : Row w b n (fun i => .int .i64 (X i))) :
    Calls Try.prog 10 #[.slice a n c, .slice b n d] w fun r w' => r = .returned (.bool true) ∧ ∃ m, w.drewN m = w' := by
  unfold maxLen at hc hd
  go_enter Try.func10, Try.ntmps10
  go_wp2_with fail
  go_loopw [13] (fun i wr => ∃ (k m : Nat), i = .int .i64 k ∧ k ≤ n ∧ w.drewN m = wr) (fun i _ => n - (intOf i).toNat)
  case atStart => exact ⟨0, 0, rfl, by omega, rfl⟩
  case round =>
    obtain ⟨k, m, rfl, hk, rfl⟩ := hrel
    by_cases hlt : k < n
    · obtain ⟨p, o, rfl, _, h1⟩ := hX.at_ hlt
      obtain ⟨q, s, rfl, _, h2⟩ := hY.at_ hlt
      go_wp2_with fail
      go_quiet (fail)
      go_wp2_with fail
      first
        | exact ⟨⟨k + 1, _, by go_num, by omega, rfl⟩, by simp [intOf]; omega⟩
    · obtain rfl : k = n := by omega
      go_wp2_with fail
      go_ret
      exact ⟨rfl, m, rfl⟩
end Go.Proofs.Ytfcnjoobigogcaa.Hp
