/-
  The reference's DecodeIEs: the elements that bytes are.
-/
import Derived.Test.YtiflmdekcjbmbaaGNodeSends13
import Derived.Deep.CutBlock
set_option maxRecDepth 100000
namespace Go.Proofs.Ytiflmdekcjbmbaa.Ie
set_option linter.unusedVariables false
set_option linter.unusedSimpArgs false
open Go.RowKit Lb Go.Shelf Bf

theorem okD_drop {l : List Int} {n : Nat} (h : okD' l) : okD' (l.drop n) := fun x hx => h x (List.mem_of_mem_drop hx)
theorem okD_take {l : List Int} {n : Nat} (h : okD' l) : okD' (l.take n) := fun x hx => h x (List.mem_of_mem_take hx)
theorem dec1_nil : dec1 [] = .error 2 := rfl
theorem dec1_kind {k : Int} {L1 : List Int} (h : k < 1 ∨ 4 < k) : dec1 (k :: L1) = .error 3 := by unfold dec1; simp only; rw [if_pos h]
theorem dec1_one {k : Int} (h : ¬ (k < 1 ∨ 4 < k)) : dec1 [k] = .error 2 := by unfold dec1; simp only; rw [if_neg h]
theorem dec1_size {k s : Int} {L2 : List Int} (h : ¬ (k < 1 ∨ 4 < k)) (hs : sizeB k s = false) : dec1 (k :: s :: L2) = .error 3 := by unfold dec1; simp only; rw [if_neg h, if_pos hs]
theorem dec1_short {k : Int} {n : Nat} {L2 : List Int} (h : ¬ (k < 1 ∨ 4 < k)) (hs : sizeB k (n : Int) = true) (hl : L2.length < n) : dec1 (k :: (n : Int) :: L2) = .error 2 := by
  unfold dec1
  simp only
  rw [if_neg h, if_neg (by rw [hs]; simp), if_pos (by simpa using hl)]
theorem dec1_all {k : Int} {n : Nat} {L2 : List Int} (h : ¬ (k < 1 ∨ 4 < k)) (hs : sizeB k (n : Int) = true) (hl : n ≤ L2.length) : dec1 (k :: (n : Int) :: L2) = .ok (elOf k (L2.take n), L2.drop n) := by
  unfold dec1
  simp only
  rw [if_neg h, if_neg (by rw [hs]; simp), if_neg (by simp; omega)]
  simp
theorem size_le {k : Int} {n : Nat} (hs : sizeB k (n : Int) = true) : n ≤ 16 := by
  unfold sizeB at hs
  split at hs
  · simp at hs; omega
  · split at hs
    · simp at hs; omega
    · simp at hs; omega
set_option maxHeartbeats 4000000 in
theorem rdecode_any (a : Option Addr) (c : Nat) (L : List Int) (w : World) (hlc : L.length ≤ c) (hcm : c ≤ maxLen) (hR : Row w a L.length (bval L)) (hd : okD' L) (ha : ∀ p, a = some p → p.block < w.heap.size) :
    Calls Try.prog 31 #[.slice a L.length c] w (DecPost L w) := by
  have o0 := Own.new w 81 #[.slice a L.length c, .int .i64 0]
  have b0 := (Below.refl w.heap.size w).alloc (Nat.le_refl _) (.cells #[.slice a L.length c, .int .i64 0] 81)
  have hq0 : Rq (w.alloc (.cells #[.slice a L.length c, .int .i64 0] 81)) 0 w.heap.size L 0 := ⟨a, c, o0, hlc, hcm, hR.below b0, fun p e => ⟨Nat.zero_le _, ha p e⟩⟩
  have hs0 : w.heap.size + 1 ≤ (w.alloc (.cells #[.slice a L.length c, .int .i64 0] 81)).heap.size := by simp
  have HDI : Hid (okD' L) := Lib.hid hd
  clear o0 hR hd ha hlc hcm
  obtain ⟨len, hlen⟩ : ∃ len, L.length = len := ⟨_, rfl⟩
  rw [hlen] at hq0 b0 hs0 ⊢
  have HLEN := Lib.hid hlen
  clear hlen
  obtain ⟨i0, hi0, hz0, hz1, hz2⟩ := info_parts infoE
  obtain ⟨j0, hj0, hy0, hy1, hy2⟩ := info_parts infoI
  go_enter Try.func31, Try.ntmps31
  go_upto_region 2 with (fail)
  generalize w.alloc (.cells #[.slice a len c, .int .i64 0] 81) = w1 at *
  obtain ⟨b, hb⟩ : ∃ b, w.heap.size = b := ⟨_, rfl⟩
  have HB := Lib.hid hb
  rw [hb] at hq0 b0 hs0 ⊢
  clear hb
  cases L with
  | nil =>
    have HD : Hid (decI [] = .error 2) := Lib.hid rfl
    go_wp2_with fail
    refine (ru8_bad 0 b [] 0 w1 hq0 (.inr (by simp))).mono ?_
    rintro r w2 ⟨rfl, h2, j2⟩
    have b2 := j2.below b0 (Nat.le_refl _) (by omega)
    obtain ⟨a2, c2, o2, _⟩ := id h2
    have k1 : w2.cell? ⟨b, 1, none⟩ = some (.int .i64 2) := o2.cell 1
    have he := rend_any 0 b [] 2 w2 h2
    have HE : Hid (endE [] 2 = 2) := Lib.hid rfl
    clear o2 hq0 h2
    go_wp2_with fail
    go_loopw [6, 29] (fun v i wr => v = .slice none 0 0 ∧ i = .int .i64 0 ∧ w2 = wr) (fun _ _ _ => 0)
    case atStart => exact ⟨rfl, rfl, rfl⟩
    case round =>
      obtain ⟨rfl, rfl, rfl⟩ := hrel
      go_wp2_with fail
      refine he.mono ?_
      rintro r w3 ⟨rfl, rfl⟩
      rw [HE.out]
      go_wp2_with fail
      go_ret2
      unfold DecPost
      rw [HD.out, HB.out]
      exact ⟨rfl, b2⟩
  | cons n0 L1 =>
    have hn0 := HDI.out n0 (by simp)
    have hd1 : okD' L1 := fun x hx => HDI.out x (by simp [hx])
    go_wp2_with fail
    refine (ru8_ok 0 b n0 L1 w1 hq0 HDI.out).mono ?_
    rintro r w2 ⟨rfl, h2, j2⟩
    have b2 := j2.below b0 (Nat.le_refl _) (by omega)
    have hs2 : b + 1 ≤ w2.heap.size := Nat.le_trans hs0 j2.size
    obtain ⟨a2, c2, o2, _⟩ := id h2
    have k1 : w2.cell? ⟨b, 1, none⟩ = some (.int .i64 0) := o2.cell 1
    clear hq0 j2 b0 hs0 o2 HDI
    obtain ⟨n, rfl⟩ : ∃ n : Nat, n0 = (n : Int) := ⟨n0.toNat, by omega⟩
    by_cases h4 : 4 < n
    · have HD : Hid (decI ((n : Int) :: L1) = .error 3) := Lib.hid (by unfold decI; simp only; rw [if_pos (by omega)])
      have g1 : decide (4 < n) = true := by simpa using h4
      have g2 : decide ((4 : Int) < (n : Int)) = true := by simp; omega
      clear h4
      go_wp2_with fail
      go_ret2
      unfold DecPost
      rw [HD.out, HB.out]
      exact ⟨rfl, b2⟩
    · have g1 : decide (4 < n) = false := by simpa using h4
      have g2 : decide ((4 : Int) < (n : Int)) = false := by simp; omega
      have hn4 : n ≤ 4 := by omega
      go_wp2_with fail
      clear k1
      go_loopw [6, 29] (fun v i wr => ∃ (k : Nat) (LL : List EP) (R : List Int), i = .int .i64 k ∧ k ≤ n ∧ LL.length = k ∧ MineK wr (b + 1) 49 5 v k (ev LL) ∧ Hid (∀ j, j < k → (LL.getD j ep0).e.At wr (LL.getD j ep0).a (LL.getD j ep0).c) ∧ Hid (∀ j, j < k → ∀ p, (LL.getD j ep0).a = some p → 0 < (LL.getD j ep0).e.list.length → v.ownBlock ≠ some p.block ∧ b + 1 ≤ p.block) ∧ Hid (decN k L1 = .ok (els LL, R)) ∧ Hid (okD' R) ∧ Rq wr 0 b R 0 ∧ Below b w wr ∧ b + 1 ≤ wr.heap.size) (fun _ i _ => n - (intOf i).toNat)
      case atStart => exact ⟨0, [], L1, rfl, by omega, rfl, MineK.nil _ _ _ _ _, Lib.hid (fun j hj => by omega), Lib.hid (fun j hj => by omega), Lib.hid rfl, Lib.hid hd1, h2, b2, hs2⟩
      case round =>
        clear h2 b2 hs2 hd1
        obtain ⟨k, LL, R, rfl, hk, hLL, hW, HAT, HAP, HDN, HOD, hR, bb, hG⟩ := hrel
        have HLL := Lib.hid hLL
        clear hLL
        by_cases hlt : k < n
        · have HERR : Hid (∀ x, dec1 R = .error x → decI ((n : Int) :: L1) = .error x) := Lib.hid (fun x h1 => decI_err hn4 (decN_err (n := k + 1) (by rw [decN_snoc, HDN.out]; simp only; rw [h1]) (by omega)))
          cases R with
          | nil =>
            have HD := Lib.hid (HERR.out 2 dec1_nil)
            go_wp2_with fail
            refine (ru8_bad 0 b [] 0 wr hR (.inr (by simp))).mono ?_
            rintro r w3 ⟨rfl, h3, j3⟩
            have b3 := j3.below bb (Nat.le_refl _) (by omega)
            have b4 := b3.alloc (by have := j3.size; omega) (.cells #[.int .i64 0, .int .i64 0, .int .i64 0, .int .i64 0, .slice none 0 0] 49)
            have h4 := h3.kept ((Below.refl (b + 1) w3).alloc (by have := j3.size; omega) (.cells #[.int .i64 0, .int .i64 0, .int .i64 0, .int .i64 0, .slice none 0 0] 49)) (Nat.lt_succ_self _)
            have hs4 : b + 1 ≤ (w3.alloc (.cells #[.int .i64 0, .int .i64 0, .int .i64 0, .int .i64 0, .slice none 0 0] 49)).heap.size := by have := j3.size; simp; omega
            go_upto_region 9 with (fail)
            generalize w3.alloc (.cells #[.int .i64 0, .int .i64 0, .int .i64 0, .int .i64 0, .slice none 0 0] 49) = w4 at *
            obtain ⟨a4, c4, o4, _⟩ := id h4
            have k1 : w4.cell? ⟨b, 1, none⟩ = some (.int .i64 2) := o4.cell 1
            clear o4 h3 j3 b3 bb
            go_wp2_with fail
            refine (ru8_bad 0 b [] 2 w4 h4 (.inl (by decide))).mono ?_
            rintro r w5 ⟨rfl, h5, j5⟩
            have b5 := j5.below b4 (Nat.le_refl _) (by omega)
            obtain ⟨a5, c5, o5, _⟩ := id h5
            have k1 : w5.cell? ⟨b, 1, none⟩ = some (.int .i64 2) := o5.cell 1
            have hs5 := j5.size
            clear o5 h4 j5 b4
            go_wp2_with fail
            refine (raw_bad 0 b [] 2 0 w5 h5 (.inl (by decide)) (by omega)).mono ?_
            rintro r w6 ⟨rfl, h6, j6⟩
            have b6 := j6.below b5 (Nat.le_refl _) (by omega)
            obtain ⟨a6, c6, o6, _⟩ := id h6
            have k1 : w6.cell? ⟨b, 1, none⟩ = some (.int .i64 2) := o6.cell 1
            clear o6 h5 j6 b5
            go_wp2_with fail
            go_ret2
            unfold DecPost
            rw [HD.out, HB.out]
            exact ⟨rfl, b6⟩
          | cons kd R1 =>
            have hkd := HOD.out kd (by simp)
            have hO1 : okD' R1 := fun x hx => HOD.out x (by simp [hx])
            go_wp2_with fail
            refine (ru8_ok 0 b kd R1 wr hR HOD.out).mono ?_
            rintro r w3 ⟨rfl, h3, j3⟩
            have b3 := j3.below bb (Nat.le_refl _) (by omega)
            have hs3 : b + 1 ≤ w3.heap.size := Nat.le_trans hG j3.size
            have bA := (Below.refl (b + 1) w3).alloc hs3 (.cells #[.int .i64 kd, .int .i64 0, .int .i64 0, .int .i64 0, .slice none 0 0] 49)
            have b4 := b3.alloc (by omega) (.cells #[.int .i64 kd, .int .i64 0, .int .i64 0, .int .i64 0, .slice none 0 0] 49)
            have h4 := h3.kept bA (Nat.lt_succ_self _)
            have hs4 : b + 1 ≤ (w3.alloc (.cells #[.int .i64 kd, .int .i64 0, .int .i64 0, .int .i64 0, .slice none 0 0] 49)).heap.size := by simp; omega
            have o7 := Own.new w3 49 #[.int .i64 kd, .int .i64 0, .int .i64 0, .int .i64 0, .slice none 0 0]
            have hnv : ∀ q, u6.ownBlock = some q → q < wr.heap.size := fun q e => (hW.lt q e).2
            have HNV := Lib.hid hnv
            have hge : wr.heap.size ≤ w3.heap.size := j3.size
            have HS0 : Hid (∀ q, q < wr.heap.size → q ≠ b → (w3.alloc (.cells #[.int .i64 kd, .int .i64 0, .int .i64 0, .int .i64 0, .slice none 0 0] 49)).heap[q]? = wr.heap[q]?) := Lib.hid (fun q h1 h2 => (Below.heap_alloc w3 _ q (by omega)).trans (j3.block q h1 h2))
            go_upto_region 9 with (fail)
            generalize w3.alloc (.cells #[.int .i64 kd, .int .i64 0, .int .i64 0, .int .i64 0, .slice none 0 0] 49) = w4 at *
            obtain ⟨ge, hge'⟩ : ∃ g, w3.heap.size = g := ⟨_, rfl⟩
            rw [hge'] at o7 hge hs3 ⊢
            clear hge' h3 j3 b3 bA hnv
            obtain ⟨a4, c4, o4, _⟩ := id h4
            have k1 : w4.cell? ⟨b, 1, none⟩ = some (.int .i64 0) := o4.cell 1
            have y0 : w4.cell? ⟨ge, 0, none⟩ = some (.int .i64 kd) := o7.cell 0
            clear o4
            by_cases hk : kd < 1 ∨ 4 < kd
            · have HD := Lib.hid (HERR.out 3 (dec1_kind hk))
              by_cases hk1 : kd < 1
              · have g3 : decide (kd < 1) = true := by simpa using hk1
                clear hk hk1
                go_wp2_with fail
                go_ret2
                unfold DecPost
                rw [HD.out, HB.out]
                exact ⟨rfl, b4⟩
              · have g3 : decide (kd < 1) = false := by simpa using hk1
                have g4 : decide (4 < kd) = true := by simp; omega
                clear hk hk1
                go_wp2_with fail
                go_ret2
                unfold DecPost
                rw [HD.out, HB.out]
                exact ⟨rfl, b4⟩
            · have g3 : decide (kd < 1) = false := by simp; omega
              have g4 : decide (4 < kd) = false := by simp; omega
              have HK := Lib.hid hk
              have hk14 : 1 ≤ kd ∧ kd ≤ 4 := by omega
              clear hk
              cases R1 with
              | nil =>
                have HD := Lib.hid (HERR.out 2 (dec1_one HK.out))
                go_wp2_with fail
                refine (ru8_bad 0 b [] 0 w4 h4 (.inr (by simp))).mono ?_
                rintro r w5 ⟨rfl, h5, j5⟩
                have b5 := j5.below b4 (Nat.le_refl _) (by omega)
                obtain ⟨a5, c5, o5, _⟩ := id h5
                have k1 : w5.cell? ⟨b, 1, none⟩ = some (.int .i64 2) := o5.cell 1
                have hs5 := j5.size
                clear o5 h4 j5 b4
                go_wp2_with fail
                refine (raw_bad 0 b [] 2 0 w5 h5 (.inl (by decide)) (by omega)).mono ?_
                rintro r w6 ⟨rfl, h6, j6⟩
                have b6 := j6.below b5 (Nat.le_refl _) (by omega)
                obtain ⟨a6, c6, o6, _⟩ := id h6
                have k1 : w6.cell? ⟨b, 1, none⟩ = some (.int .i64 2) := o6.cell 1
                clear o6 h5 j6 b5
                go_wp2_with fail
                go_ret2
                unfold DecPost
                rw [HD.out, HB.out]
                exact ⟨rfl, b6⟩
              | cons s R2 =>
                have hsb := hO1 s (by simp)
                have hO2 : okD' R2 := fun x hx => hO1 x (by simp [hx])
                obtain ⟨m, rfl⟩ : ∃ m : Nat, s = (m : Int) := ⟨s.toNat, by omega⟩
                go_wp2_with fail
                refine (ru8_ok 0 b (m : Int) R2 w4 h4 hO1).mono ?_
                rintro r w5 ⟨rfl, h5, j5⟩
                have b5 := j5.below b4 (Nat.le_refl _) (by omega)
                obtain ⟨a5, c5, o5, _⟩ := id h5
                have k1 : w5.cell? ⟨b, 1, none⟩ = some (.int .i64 0) := o5.cell 1
                have hs5 : ge < w5.heap.size := Nat.lt_of_lt_of_le o7.lt j5.size
                have p7 := j5.own o7 (by omega)
                have y0 : w5.cell? ⟨ge, 0, none⟩ = some (.int .i64 kd) := p7.cell 0
                have HS1 : Hid (∀ q, q < wr.heap.size → q ≠ b → w5.heap[q]? = wr.heap[q]?) := Lib.hid (fun q h1 h2 => (j5.block q (by have := o7.lt; omega) h2).trans (HS0.out q h1 h2))
                clear o5 h4 j5 b4 o7 HS0 hO1
                obtain ⟨sz, hsz⟩ : ∃ sz, sizeB kd (m : Int) = sz := ⟨_, rfl⟩
                have HSZ := Lib.hid hsz
                clear hsz
                go_upto_region 12 with (fail)
                go_cut [77] from 51 to 77 (fun v wx => v = .bool (!sz) ∧ w5 = wx)
                case first =>
                  by_cases k1' : kd = 1
                  · have t1 : (kd == 1) = true := by simpa using k1'
                    have t2 : (kd == 2) = false := by simp; omega
                    have hsz := HSZ.out
                    unfold sizeB at hsz
                    rw [if_pos k1'] at hsz
                    by_cases h6 : m = 6
                    · have hz : sz = true := by rw [← hsz, h6]; rfl
                      have HZ := Lib.hid hz
                      subst h6
                      clear hsz k1' hz
                      go_wp2_with fail
                      go_meet
                      exact ⟨by rw [HZ.out]; rfl, rfl⟩
                    · have hz : sz = false := by rw [← hsz]; simp; omega
                      have t3 : (((m : Nat) : Int) != 6) = true := by simp; omega
                      have HZ := Lib.hid hz
                      clear hsz k1' hz h6
                      go_wp2_with fail
                      go_meet
                      exact ⟨by rw [HZ.out]; rfl, rfl⟩
                  · by_cases k2' : kd = 2
                    · have t1 : (kd == 1) = false := by simpa using k1'
                      have t2 : (kd == 2) = true := by simpa using k2'
                      have hsz := HSZ.out
                      unfold sizeB at hsz
                      rw [if_neg k1', if_pos k2'] at hsz
                      by_cases h6 : m = 2
                      · have hz : sz = true := by rw [← hsz, h6]; rfl
                        have HZ := Lib.hid hz
                        subst h6
                        clear hsz k1' k2' hz
                        go_wp2_with fail
                        go_meet
                        exact ⟨by rw [HZ.out]; rfl, rfl⟩
                      · have hz : sz = false := by rw [← hsz]; simp; omega
                        have t3 : (((m : Nat) : Int) != 2) = true := by simp; omega
                        have HZ := Lib.hid hz
                        clear hsz k1' k2' hz h6
                        go_wp2_with fail
                        go_meet
                        exact ⟨by rw [HZ.out]; rfl, rfl⟩
                    · have t1 : (kd == 1) = false := by simpa using k1'
                      have t2 : (kd == 2) = false := by simpa using k2'
                      have hsz := HSZ.out
                      unfold sizeB at hsz
                      rw [if_neg k1', if_neg k2'] at hsz
                      have t3 : decide ((16 : Int) < (m : Int)) = !sz := by rw [← hsz, Bool.eq_iff_iff]; simp
                      have t4 : decide (16 < m) = !sz := by rw [← hsz, Bool.eq_iff_iff]; simp; omega
                      clear hsz k1' k2'
                      go_wp2_with fail
                      go_meet
                      exact ⟨rfl, rfl⟩
                case rest =>
                  obtain ⟨rfl, rfl⟩ := hcut
                  cases sz with
                  | false =>
                    have HD := Lib.hid (HERR.out 3 (dec1_size HK.out HSZ.out))
                    go_wp2_with fail
                    go_ret2
                    unfold DecPost
                    rw [HD.out, HB.out]
                    exact ⟨rfl, b5⟩
                  | true =>
                    have hm16 := size_le HSZ.out
                    by_cases hlt2 : R2.length < m
                    · have HD := Lib.hid (HERR.out 2 (dec1_short HK.out HSZ.out hlt2))
                      go_wp2_with fail
                      refine (raw_bad 0 b R2 0 m w5 h5 (.inr hlt2) (by omega)).mono ?_
                      rintro r w6 ⟨rfl, h6, j6⟩
                      have b6 := j6.below b5 (Nat.le_refl _) (by omega)
                      obtain ⟨a6, c6, o6, _⟩ := id h6
                      have k1 : w6.cell? ⟨b, 1, none⟩ = some (.int .i64 2) := o6.cell 1
                      clear o6 h5 j6 b5 hlt2
                      go_wp2_with fail
                      go_ret2
                      unfold DecPost
                      rw [HD.out, HB.out]
                      exact ⟨rfl, b6⟩
                    · have hle : m ≤ R2.length := by omega
                      have HDK : Hid (dec1 (kd :: (m : Int) :: R2) = .ok (elOf kd (R2.take m), R2.drop m)) := Lib.hid (dec1_all HK.out HSZ.out hle)
                      clear hlt2
                      go_wp2_with fail
                      refine (raw_ok 0 b R2 m w5 h5 hle (by omega)).mono ?_
                      rintro r w6 ⟨v9, rfl, hX, h6, j6⟩
                      have b6 := j6.below b5 (Nat.le_refl _) (by omega)
                      have hs6 : ge < w6.heap.size := Nat.lt_of_lt_of_le hs5 j6.size
                      have o7 := j6.own p7 (by omega)
                      have HS2 : Hid (∀ q, q < wr.heap.size → q ≠ b → w6.heap[q]? = wr.heap[q]?) := Lib.hid (fun q h1 h2 => (j6.block q (by omega) h2).trans (HS1.out q h1 h2))
                      obtain ⟨a9, c9, rfl, l9, m9, R9⟩ := hX.row
                      have hlo := fun p (e : a9 = some p) => hX.lt p.block (by rw [e]; rfl)
                      have hXl : (R2.take m).length = m := by rw [List.length_take]; omega
                      have HOX : Hid (okD' (R2.take m)) := Lib.hid (okD_take hO2)
                      have HOQ : Hid (okD' (R2.drop m)) := Lib.hid (okD_drop hO2)
                      obtain ⟨X, hXX⟩ : ∃ X, R2.take m = X := ⟨_, rfl⟩
                      rw [hXX] at R9 hXl HOX HDK
                      obtain ⟨a6, c6, o6, _⟩ := id h6
                      have k1 : w6.cell? ⟨b, 1, none⟩ = some (.int .i64 0) := o6.cell 1
                      clear o6 h5 j6 b5 p7 HS1 hX hXX y0
                      -- the reader of the element's own bytes
                      have oy := Own.new w6 81 #[.slice a9 m c9, .int .i64 0]
                      have bY := (Below.refl w6.heap.size w6).alloc (Nat.le_refl _) (.cells #[.slice a9 m c9, .int .i64 0] 81)
                      have hq7 : Rq (w6.alloc (.cells #[.slice a9 m c9, .int .i64 0] 81)) (ge + 1) w6.heap.size X 0 := ⟨a9, c9, by rw [hXl]; exact oy, by rw [hXl]; exact l9, m9, by rw [hXl]; exact R9.below bY, fun p e => ⟨Nat.lt_of_lt_of_le hs5 (hlo p e).1, (hlo p e).2⟩⟩
                      have hR9 := R9.below bY
                      have b7 := b6.alloc (by omega) (.cells #[.slice a9 m c9, .int .i64 0] 81)
                      have h7 := h6.kept (bY.mono (Nat.succ_le_of_lt h6.lt)) (Nat.lt_succ_self _)
                      have p7 := below_own bY o7 hs6
                      have HS3 : Hid (∀ q, q < wr.heap.size → q ≠ b → (w6.alloc (.cells #[.slice a9 m c9, .int .i64 0] 81)).heap[q]? = wr.heap[q]?) := Lib.hid (fun q h1 h2 => (bY.block q (by omega)).trans (HS2.out q h1 h2))
                      have hs7 : w6.heap.size < (w6.alloc (.cells #[.slice a9 m c9, .int .i64 0] 81)).heap.size := by simp
                      go_upto_region 18 with (fail)
                      generalize w6.alloc (.cells #[.slice a9 m c9, .int .i64 0] 81) = w7 at *
                      obtain ⟨gy, hgy⟩ : ∃ g, w6.heap.size = g := ⟨_, rfl⟩
                      rw [hgy] at hq7 hs6 hs7 oy ⊢
                      have HLO : Hid (∀ p, a9 = some p → ge < p.block ∧ p.block < gy) := Lib.hid (fun p e => by have := hlo p e; omega)
                      clear hgy bY b6 h6 o7 HS2 R9 hs5 hlo
                      have z0 : w7.cell? ⟨ge, 0, none⟩ = some (.int .i64 kd) := p7.cell 0
                      go_upto_block 2 with (fail)
                      go_cut [105] from 91 to 120 (fun _ wx => ∃ a' c', Lb.Own wx ge 49 ((elOf kd X).vals a' c') ∧ (elOf kd X).At wx a' c' ∧ Hid (∀ p, a' = some p → 0 < (elOf kd X).list.length → ge < p.block) ∧ Below ge w7 wx)
                      case first =>
                        by_cases k1' : kd = 1
                        · subst k1'
                          have h6 : m = 6 := by have := HSZ.out; unfold sizeB at this; simp at this; omega
                          subst h6
                          have hyb := numB_bd 5 (X.take 5) (by rw [List.length_take]; omega) (okD_take HOX.out)
                          have e5 : (256 : Int) ^ 5 = 1099511627776 := by decide
                          rw [e5] at hyb
                          have hn5 := num_ok (ge + 1) gy X 5 w7 hq7 HOX.out (by omega) (by omega)
                          obtain ⟨y, hy⟩ : ∃ y, numB (X.take 5) = y := ⟨_, rfl⟩
                          rw [hy] at hyb hn5
                          have hzb : 0 ≤ X.getD 5 0 ∧ X.getD 5 0 < 256 := by
                            rw [List.getD_eq_getElem?_getD, List.getElem?_eq_getElem (by omega)]
                            exact HOX.out _ (List.getElem_mem _)
                          have hX5 : X.drop 5 = X.getD 5 0 :: X.drop 6 := by
                            rw [List.drop_eq_getElem_cons (by omega), List.getD_eq_getElem?_getD, List.getElem?_eq_getElem (by omega)]
                            rfl
                          have hEl : elOf 1 X = ⟨1, y, X.getD 5 0, 0, []⟩ := by unfold elOf; rw [if_pos rfl, hy]
                          obtain ⟨z, hz⟩ : ∃ z, X.getD 5 0 = z := ⟨_, rfl⟩
                          rw [hz] at hzb hX5 hEl
                          have HEL := Lib.hid hEl
                          have HX5 := Lib.hid hX5
                          have HN5 := Lib.hid hn5
                          clear e5 hn5 hy hX5 hEl hz hXl hR9
                          go_wp2_with fail
                          refine HN5.out.mono ?_
                          rintro r w8 ⟨rfl, h8, j8⟩
                          have o8 := j8.own p7 (by omega)
                          have y1 : w8.cell? ⟨ge, 1, none⟩ = some (.int .i64 0) := o8.cell 1
                          have f1 := o8.free 1
                          have o9 : Lb.Own (w8.setCell ⟨ge, 1, none⟩ (.int .i64 y)) ge 49 #[.int .i64 1, .int .i64 y, .int .i64 0, .int .i64 0, .slice none 0 0] := o8.put 1 _
                          have h9 := h8.just (Just.set ge w8 1 (.int .i64 y)) (Nat.lt_succ_self _) (by omega)
                          have b9 : Below ge w7 (w8.setCell ⟨ge, 1, none⟩ (.int .i64 y)) := (Just.below j8 (Below.refl ge w7) (by omega) (by omega)).setCell (p := ⟨ge, 1, none⟩) (Nat.le_refl _) _
                          have hs8 : gy < w8.heap.size := Nat.lt_of_lt_of_le hs7 j8.size
                          rw [HX5.out] at h9
                          clear h8 j8 o8
                          go_upto_region 26 with (fail)
                          generalize w8.setCell ⟨ge, 1, none⟩ (.int .i64 y) = w9 at *
                          clear y1 f1
                          go_wp2_with fail
                          refine (ru8_ok (ge + 1) gy z (X.drop 6) w9 h9 (by rw [← HX5.out]; exact okD_drop HOX.out)).mono ?_
                          rintro r w10 ⟨rfl, h10, j10⟩
                          have o10 := j10.own o9 (by omega)
                          have y2 : w10.cell? ⟨ge, 2, none⟩ = some (.int .i64 0) := o10.cell 2
                          have f2 := o10.free 2
                          have o11 : Lb.Own (w10.setCell ⟨ge, 2, none⟩ (.int .i64 z)) ge 49 #[.int .i64 1, .int .i64 y, .int .i64 z, .int .i64 0, .slice none 0 0] := o10.put 2 _
                          have b11 : Below ge w7 (w10.setCell ⟨ge, 2, none⟩ (.int .i64 z)) := (Just.below j10 b9 (by omega) (by have := o9.lt; omega)).setCell (p := ⟨ge, 2, none⟩) (Nat.le_refl _) _
                          clear o9 h9 b9 j10 h10 o10
                          go_wp2_with fail
                          go_meet
                          rw [HEL.out]
                          exact ⟨none, 0, o11, El.At.none _ _ _ _ _, Lib.hid (fun p e => by cases e), b11⟩
                        · have t1 : (kd == 1) = false := by simpa using k1'
                          by_cases k2' : kd = 2
                          · subst k2'
                            have h6 : m = 2 := by have := HSZ.out; unfold sizeB at this; simp at this; omega
                            subst h6
                            have hyb := numB_bd 2 (X.take 2) (by rw [List.length_take]; omega) (okD_take HOX.out)
                            have e5 : (256 : Int) ^ 2 = 65536 := by decide
                            rw [e5] at hyb
                            have hn5 := num_ok (ge + 1) gy X 2 w7 hq7 HOX.out (by omega) (by omega)
                            have ht : X.take 2 = X := List.take_of_length_le (by omega)
                            rw [ht] at hn5 hyb
                            obtain ⟨y, hy⟩ : ∃ y, numB X = y := ⟨_, rfl⟩
                            rw [hy] at hyb hn5
                            have hEl : elOf 2 X = ⟨2, 0, 0, IntKind.i16.wrap y, []⟩ := by unfold elOf; rw [if_neg (by decide), if_pos rfl, hy]
                            obtain ⟨z, hz⟩ : ∃ z, IntKind.i16.wrap y = z := ⟨_, rfl⟩
                            have hzb : -32768 ≤ z ∧ z ≤ 32767 := by
                              rw [← hz]
                              simp only [IntKind.wrap, IntKind.signed, IntKind.bits]
                              simp
                              omega
                            rw [hz] at hEl
                            have HEL := Lib.hid hEl
                            have HN5 := Lib.hid hn5
                            clear e5 hn5 hy hEl hXl ht hR9 k1'
                            go_wp2_with fail
                            refine HN5.out.mono ?_
                            rintro r w8 ⟨rfl, h8, j8⟩
                            have o8 := j8.own p7 (by omega)
                            have y1 : w8.cell? ⟨ge, 3, none⟩ = some (.int .i64 0) := o8.cell 3
                            have f1 := o8.free 3
                            have o9 : Lb.Own (w8.setCell ⟨ge, 3, none⟩ (.int .i64 z)) ge 49 #[.int .i64 2, .int .i64 0, .int .i64 0, .int .i64 z, .slice none 0 0] := o8.put 3 _
                            have b9 : Below ge w7 (w8.setCell ⟨ge, 3, none⟩ (.int .i64 z)) := (Just.below j8 (Below.refl ge w7) (by omega) (by omega)).setCell (p := ⟨ge, 3, none⟩) (Nat.le_refl _) _
                            clear h8 j8 o8
                            go_wp2_with fail
                            go_meet
                            rw [HEL.out]
                            exact ⟨none, 0, o9, El.At.none _ _ _ _ _, Lib.hid (fun p e => by cases e), b9⟩
                          · have t2 : (kd == 2) = false := by simpa using k2'
                            have hEl : elOf kd X = ⟨kd, 0, 0, 0, X⟩ := by unfold elOf; rw [if_neg k1', if_neg k2']
                            have HEL := Lib.hid hEl
                            have HXL := Lib.hid hXl
                            clear hEl k1' k2' hXl hq7
                            go_wp2_with fail
                            go_loopw [93] (fun i wr' => ∃ (q : Nat) (a7 : Option Addr) (c7 : Nat), i = .int .i64 q ∧ q ≤ m ∧ Lb.Own wr' ge 49 #[.int .i64 kd, .int .i64 0, .int .i64 0, .int .i64 0, .slice a7 q c7] ∧ Mine wr' (gy + 1) 3 (.slice a7 q c7) q (zval X) ∧ Row wr' a9 m (bval X) ∧ Below ge w7 wr' ∧ gy < wr'.heap.size) (fun i _ => m - (intOf i).toNat)
                            case atStart => exact ⟨0, none, 0, rfl, by omega, p7, Mine.nil _ _ _ _, hR9, Below.refl _ _, hs7⟩
                            case round =>
                              obtain ⟨q, a7, c7, rfl, hq, ow, hM, hRr, bw, hgw⟩ := hrel
                              have HOW : Hid (ge ≠ gy) := Lib.hid (by omega)
                              by_cases hlt3 : q < m
                              · obtain ⟨pa, po', rfl, _, x1⟩ := hRr.at_ hlt3
                                unfold bval at x1
                                have hxb : 0 ≤ X.getD q 0 ∧ X.getD q 0 < 256 := by
                                  rw [List.getD_eq_getElem?_getD, List.getElem?_eq_getElem (by rw [HXL.out]; exact hlt3)]
                                  exact HOX.out _ (List.getElem_mem _)
                                obtain ⟨x, hx⟩ : ∃ x, X.getD q 0 = x := ⟨_, rfl⟩
                                rw [hx] at x1 hxb
                                have HX2 := Lib.hid hx
                                have c4 : wr.cell? ⟨ge, 4, none⟩ = some (.slice a7 q c7) := ow.cell 4
                                have Hm : Hid (q + 1 ≤ maxLen) := Lib.hid (by unfold maxLen; omega)
                                have hbs : gy + 1 ≤ (wr.alloc (.cells #[.int .i64 x] 3)).heap.size := by simp; omega
                                clear hx
                                go_wp2_with (at_builtin; go_must (refine wp_app rfl (.tmp 98) (.tmp 101) _ rfl (gy + 1) 3 j0 _ 8 Try.underlying26 hj0 hy0 hy1 hy2 rfl (.slice a7 q c7) q (zval X) rfl (hM.alloc _) _ 1 _ (zval [x]) rfl (row_new _ _ _ _ (fun i hi => by cases Nat.lt_one_iff.1 hi; rfl)) (fun _ _ => rfl) Hm.out ?d2 hbs ?_))
                                case d2 => omega
                                intro v' w2 hv2 hg
                                have hv3 := hv2.ext (U := zval X) (fun i hi => by
                                  by_cases h : i < q
                                  · rw [if_pos h]
                                  · obtain rfl : i = q := by omega
                                    rw [if_neg h, Nat.sub_self]
                                    unfold zval
                                    rw [HX2.out]
                                    rfl)
                                obtain ⟨a8, c8, rfl, _, _, _⟩ := hv3.row
                                have hno : (Value.slice a7 q c7).ownBlock ≠ some ge := fun e => by have := (hM.lt _ e).1; omega
                                have o2 := grown_own hg (ow.alloc _) hno
                                have f4 : w2.cell? ⟨ge, 4, none⟩ = some (.slice a7 q c7) := o2.cell 4
                                have ff4 := o2.free 4
                                have o3 : Lb.Own (w2.setCell ⟨ge, 4, none⟩ (.slice a8 (q + 1) c8)) ge 49 #[.int .i64 kd, .int .i64 0, .int .i64 0, .int .i64 0, .slice a8 (q + 1) c8] := o2.put 4 _
                                have hM3 := hv3.just (Just.set ge w2 4 (.slice a8 (q + 1) c8)) (by omega)
                                have hR3 : Row (w2.setCell ⟨ge, 4, none⟩ (.slice a8 (q + 1) c8)) (some ⟨pa, po', none⟩) m (bval X) := Row.same hRr (fun p e _ => by
                                  have hl := HLO.out p e
                                  refine ((Just.set ge w2 4 _).block p.block ?_ (by omega)).trans ((hg.block p.block (by simp; omega) (fun e => by have := (hM.lt _ e.symm).1; omega)).trans (Below.heap_alloc wr _ p.block (by omega)))
                                  have := hg.size
                                  simp at this
                                  omega)
                                have b3 : Below ge w7 (w2.setCell ⟨ge, 4, none⟩ (.slice a8 (q + 1) c8)) := ((bw.alloc (by omega) _).grown hg (by simp; omega) (fun k e => by have := (hM.lt _ e).1; omega)).setCell (p := ⟨ge, 4, none⟩) (Nat.le_refl _) _
                                have hs3' : gy < (w2.setCell ⟨ge, 4, none⟩ (.slice a8 (q + 1) c8)).heap.size := by have := hg.size; simp [World.setCell] at this ⊢; omega
                                clear hM hRr bw hv2 hv3 hg o2 ow hno c4 x1
                                go_wp2_with fail
                                exact ⟨⟨q + 1, a8, c8, by simp, by omega, o3, hM3, hR3, b3, hs3'⟩, by simp [intOf]; omega⟩
                              · obtain rfl : m = q := by omega
                                obtain ⟨_, _, hsl, l7, m7, r7⟩ := hM.row
                                injection hsl with h1 h2 h3
                                subst h1 h3
                                have hlow : ∀ p, a7 = some p → 0 < X.length → ge < p.block := fun p e _ => by
                                  have := (hM.lt p.block (by rw [e]; rfl)).1
                                  omega
                                have HLOW := Lib.hid hlow
                                clear hlow
                                go_wp2_with fail
                                go_meet
                                rw [HEL.out]
                                have hxl := HXL.out
                                refine ⟨a7, c7, ?_, ⟨?_, m7, ?_, ?_⟩, HLOW, bw⟩
                                · unfold El.vals; simp only; rw [hxl]; exact ow
                                · show X.length ≤ c7; rw [hxl]; exact l7
                                · show Row _ _ X.length _; rw [hxl]; exact r7
                                · intro e; show X.length = 0; rw [hxl]; exact row_none r7 e
                      case rest =>
                        obtain ⟨a', c', oe, hat, HLOW, bX⟩ := hcut
                        obtain ⟨e, he⟩ : ∃ e, elOf kd X = e := ⟨_, rfl⟩
                        rw [he] at oe hat HLOW HDK
                        obtain ⟨ek, easn, er, et, el⟩ := e
                        unfold El.vals at oe
                        simp only at oe
                        have HD1 : Hid (decN (k + 1) L1 = .ok (els (LL ++ [(⟨⟨ek, easn, er, et, el⟩, a', c'⟩ : EP)]), R2.drop m)) := Lib.hid (by rw [decN_snoc, HDN.out]; simp only; rw [HDK.out, els_app]; rfl)
                        have hgec : ge < wc.heap.size := oe.lt
                        have HSC : Hid (∀ q, q < wr.heap.size → q ≠ b → wc.heap[q]? = wr.heap[q]?) := Lib.hid (fun q h1 h2 => (bX.block q (by omega)).trans (HS3.out q h1 h2))
                        have hWc := hW.kept (w' := wc) (fun q hq => by
                          by_cases h : q < wr.heap.size
                          · exact .inl (HSC.out q h (by omega))
                          · exact .inr (fun e => h (hW.lt q e).2))
                        have HATc : Hid (∀ j, j < k → (LL.getD j ep0).e.At wc (LL.getD j ep0).a (LL.getD j ep0).c) := Lib.hid (fun j hj => (HAT.out j hj).same (fun p e1 e2 => HSC.out _ ((HAT.out j hj).lt p e1 e2) (by have := (HAP.out j hj p e1 e2).2; omega)))
                        have hRc := h7.kept bX (by omega)
                        have b8 := b7.trans (bX.mono (by omega))
                        clear hW HAT HS3 h7 b7 bX HDN HOD HDK HSC hq7 hR9 HLO p7 z0 oy he
                        have y0 : wc.cell? ⟨ge, 0, none⟩ = some (.int .i64 ek) := oe.cell 0
                        have y1 : wc.cell? ⟨ge, 1, none⟩ = some (.int .i64 easn) := oe.cell 1
                        have y2 : wc.cell? ⟨ge, 2, none⟩ = some (.int .i64 er) := oe.cell 2
                        have y3 : wc.cell? ⟨ge, 3, none⟩ = some (.int .i64 et) := oe.cell 3
                        have y4 : wc.cell? ⟨ge, 4, none⟩ = some (.slice a' el.length c') := oe.cell 4
                        have hr1 : Row (wc.alloc (.cells #[.int .i64 ek, .int .i64 easn, .int .i64 er, .int .i64 et, .slice a' el.length c'] 49)) (some ⟨wc.heap.size, 0, none⟩) (1 * 5) (ev [⟨⟨ek, easn, er, et, el⟩, a', c'⟩]) := row_new _ _ _ _ (fun i hi => by rcases (show i = 0 ∨ i = 1 ∨ i = 2 ∨ i = 3 ∨ i = 4 by omega) with rfl | rfl | rfl | rfl | rfl <;> rfl)
                        have HR1 := Lib.hid hr1
                        have HNM : Hid (k + 1 ≤ maxLen) := Lib.hid (by unfold maxLen; omega)
                        have bbA := (Below.refl wc.heap.size wc).alloc (Nat.le_refl _) (.cells #[.int .i64 ek, .int .i64 easn, .int .i64 er, .int .i64 et, .slice a' el.length c'] 49)
                        have hbsc : (b + 1) ≤ (wc.alloc (.cells #[.int .i64 ek, .int .i64 easn, .int .i64 er, .int .i64 et, .slice a' el.length c'] 49)).heap.size := by simp; omega
                        clear hr1
                        go_wp2_with (at_builtin; go_must (refine wp_appK rfl (.tmp 121) (.tmp 123) _ rfl (b + 1) 49 i0 _ 5 56 Try.underlying32 hi0 hz0 hz1 hz2 rfl (by decide) u6 k (ev LL) rfl (hWc.alloc _) _ 1 _ (ev [⟨⟨ek, easn, er, et, el⟩, a', c'⟩]) rfl HR1.out (fun i _ => ev_one _ i) HNM.out ?c2 hbsc ?_))
                        case c2 => omega
                        intro v9 w9 m9 q9 l9
                        have hsame : ∀ q, q < wc.heap.size → u6.ownBlock ≠ some q → w9.heap[q]? = wc.heap[q]? := fun q h1 h2 => (q9.block q (by simp; omega) (fun e => h2 e.symm)).trans (bbA.block q h1)
                        have hM9 : MineK w9 (b + 1) 49 5 v9 (k + 1) (ev (LL ++ [(⟨⟨ek, easn, er, et, el⟩, a', c'⟩ : EP)])) := m9.ext (fun i _ => by rw [← HLL.out]; exact ev_app LL _ i)
                        have b9 := (b8.alloc (by omega) (.cells #[.int .i64 ek, .int .i64 easn, .int .i64 er, .int .i64 et, .slice a' el.length c'] 49)).grown q9 (by omega) (fun q e => by have := (hWc.lt q e).1; omega)
                        have hR9 : Rq w9 0 b (R2.drop m) 0 := hRc.kept (((Below.refl (b + 1) wc).alloc (by omega) (.cells #[.int .i64 ek, .int .i64 easn, .int .i64 er, .int .i64 et, .slice a' el.length c'] 49)).grown q9 (by omega) (fun q e => by have := (hWc.lt q e).1; omega)) (Nat.lt_succ_self _)
                        have hget : ∀ j, j < k → (LL ++ [(⟨⟨ek, easn, er, et, el⟩, a', c'⟩ : EP)]).getD j ep0 = LL.getD j ep0 := fun j hj => by
                          rw [List.getD_eq_getElem?_getD, List.getD_eq_getElem?_getD, List.getElem?_append_left (by rw [HLL.out]; exact hj)]
                        have hgetk : (LL ++ [(⟨⟨ek, easn, er, et, el⟩, a', c'⟩ : EP)]).getD k ep0 = ⟨⟨ek, easn, er, et, el⟩, a', c'⟩ := by
                          rw [List.getD_eq_getElem?_getD, List.getElem?_append_right (by rw [HLL.out]; exact Nat.le_refl _), HLL.out, Nat.sub_self]
                          rfl
                        have hnew : ∀ p, a' = some p → 0 < el.length → u6.ownBlock ≠ some p.block ∧ p.block < wc.heap.size ∧ (b + 1) ≤ p.block := fun p e1 e2 => by
                          have h1 := HLOW.out p e1 e2
                          refine ⟨fun e => ?_, hat.lt p e1 e2, by omega⟩
                          have := HNV.out _ e
                          omega
                        have HAT9 : Hid (∀ j, j < k + 1 → ((LL ++ [(⟨⟨ek, easn, er, et, el⟩, a', c'⟩ : EP)]).getD j ep0).e.At w9 ((LL ++ [(⟨⟨ek, easn, er, et, el⟩, a', c'⟩ : EP)]).getD j ep0).a ((LL ++ [(⟨⟨ek, easn, er, et, el⟩, a', c'⟩ : EP)]).getD j ep0).c) := Lib.hid (fun j hj => by
                          by_cases e : j = k
                          · subst e
                            rw [hgetk]
                            exact hat.same (fun p e1 e2 => hsame _ (hnew p e1 e2).2.1 (hnew p e1 e2).1)
                          · rw [hget j (by omega)]
                            exact (HATc.out j (by omega)).same (fun p e1 e2 => hsame _ ((HATc.out j (by omega)).lt p e1 e2) (HAP.out j (by omega) p e1 e2).1))
                        have hv9 : ∀ q, q < wc.heap.size → u6.ownBlock ≠ some q → v9.ownBlock ≠ some q := fun q h1 h2 e => by
                          rcases l9 with h | h
                          · rw [h] at e; exact h2 e
                          · rw [h] at e
                            injection e with e
                            first | omega | (simp at e; omega)
                        have HAP9 : Hid (∀ j, j < k + 1 → ∀ p, ((LL ++ [(⟨⟨ek, easn, er, et, el⟩, a', c'⟩ : EP)]).getD j ep0).a = some p → 0 < ((LL ++ [(⟨⟨ek, easn, er, et, el⟩, a', c'⟩ : EP)]).getD j ep0).e.list.length → v9.ownBlock ≠ some p.block ∧ (b + 1) ≤ p.block) := Lib.hid (fun j hj p e1 e2 => by
                          by_cases e : j = k
                          · subst e
                            rw [hgetk] at e1 e2
                            exact ⟨hv9 _ (hnew p e1 e2).2.1 (hnew p e1 e2).1, (hnew p e1 e2).2.2⟩
                          · rw [hget j (by omega)] at e1 e2
                            exact ⟨hv9 _ ((HATc.out j (by omega)).lt p e1 e2) (HAP.out j (by omega) p e1 e2).1, (HAP.out j (by omega) p e1 e2).2⟩)
                        have hs9 : b + 1 ≤ w9.heap.size := Nat.le_trans hbsc q9.size
                        have hL9 : (LL ++ [(⟨⟨ek, easn, er, et, el⟩, a', c'⟩ : EP)]).length = k + 1 := by rw [List.length_append, HLL.out]; rfl
                        have HL9 := Lib.hid hL9
                        clear hsame m9 q9 l9 hget hgetk hnew hv9 bbA hbsc hRc hWc hat HATc b8 hL9 HR1 HNM
                        go_wp2_with fail
                        exact ⟨⟨k + 1, LL ++ [(⟨⟨ek, easn, er, et, el⟩, a', c'⟩ : EP)], R2.drop m, by simp, by omega, HL9.out, hM9, HAT9, HAP9, HD1, HOQ, hR9, b9, hs9⟩, by simp [intOf]; omega⟩
        · obtain rfl : n = k := by omega
          obtain ⟨aL, cL, rfl, lc, lm, RL⟩ := hW.row
          have hels : Els wr LL aL cL := ⟨by rw [HLL.out]; exact lc, lm, by rw [HLL.out]; exact RL, fun j hj => HAT.out j (by rw [← HLL.out]; exact hj)⟩
          have hend := rend_any 0 b R 0 wr hR
          unfold endE at hend
          rw [if_pos rfl] at hend
          have haq : ∀ q, aL = some q → b ≤ q.block := fun q e => by
            subst e
            have := (hW.lt q.block rfl).1
            omega
          have hlq : ∀ j, j < LL.length → ∀ q, (LL.getD j ep0).a = some q → 0 < (LL.getD j ep0).e.list.length → b ≤ q.block := fun j hj q e1 e2 => by
            have := (HAP.out j (by rw [← HLL.out]; exact hj) q e1 e2).2
            omega
          by_cases hR0 : R = []
          · subst hR0
            rw [if_pos rfl] at hend
            have HE := Lib.hid hend
            have HD : Hid (decI ((n : Int) :: L1) = .ok (els LL)) := Lib.hid (decI_ok hn4 HDN.out)
            have HELS := Lib.hid hels
            have HAQ := Lib.hid haq
            have HLQ := Lib.hid hlq
            clear hend hW RL hels haq hlq
            go_wp2_with fail
            refine HE.out.mono ?_
            rintro r w' ⟨rfl, rfl⟩
            go_wp2_with fail
            go_ret2
            unfold DecPost
            rw [HD.out, HB.out]
            exact ⟨LL, aL, cL, rfl, by rw [HLL.out]; rfl, HELS.out, HAQ.out, HLQ.out, bb⟩
          · rw [if_neg hR0] at hend
            have HE := Lib.hid hend
            have HD : Hid (decI ((n : Int) :: L1) = .error 3) := Lib.hid (decI_more hn4 HDN.out hR0)
            clear hend hW RL hels haq hlq hR0
            go_wp2_with fail
            refine HE.out.mono ?_
            rintro r w' ⟨rfl, rfl⟩
            go_wp2_with fail
            go_ret2
            unfold DecPost
            rw [HD.out, HB.out]
            exact ⟨rfl, bb⟩
end Go.Proofs.Ytiflmdekcjbmbaa.Ie
