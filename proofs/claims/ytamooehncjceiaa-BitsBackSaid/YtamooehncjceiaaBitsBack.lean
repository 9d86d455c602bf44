/-
  Law BitsBack: what is put is taken, by the same widths, as it was; the call returns true. No condition.
-/
import Derived.Test.YtamooehncjceiaaBfField
import Derived.Test.YtamooehncjceiaaBfCuts
import Derived.Test.YtamooehncjceiaaRowRow
import Derived.Deep.RegionHeld3
import Derived.Deep.CutBlock
import Derived.Deep.DeepCutAuto
import Derived.BigRegion
import Derived.IntWalk
set_option maxRecDepth 100000
namespace Go.Proofs.Ytamooehncjceiaa.BitsBack
set_option linter.unusedVariables false
open Go.RowKit Go.ChangeShapes Go.WideShapes Go.ChangeAt Go.Deep Lb Bf
set_option linter.unusedVariables false
theorem own : ownKnob Try.prog.godebug = none := by kernel_rfl
theorem laidOut : laidOutB Try.prog = true := by kernel_rfl
/-- Where a step ends is where its bytes end. -/
theorem even_to {nb n : Nat} (h1 : nb ≤ 8 * n) (h2 : 8 * n < nb + 8) : (nb + 7) / 8 * 8 = 8 * n := by omega
/-- A row of bytes taken is the row that was put. -/
theorem text_back {F : Nat → Fl} {n k nn m : Nat} {Z : Nat → Nat} (hs : Str nn (toF F n) Z (putF F n)) (hle : toF F n ≤ 8 * nn) (hk : k < n) (ht : (F k).t = true) (hm : (F k).m = m) (hy : ∀ i, (F k).y i < 256) : ∀ i, i < m → num (bt Z) (toF F k + 8 * i) 8 = (F k).y i := fun i hi => by
  have hto : toF F (k + 1) = toF F k + 8 * m := by rw [toF, Fl.to, if_pos ht, hm]
  have hmo := toF_mono F (show k + 1 ≤ n from hk)
  refine (num_num _ _ _).uniq ⟨hy i, fun j hj => ?_⟩
  have hp : toF F k + 8 * i + (8 - 1 - j) < toF F (k + 1) := by omega
  rw [hs.bt (by omega) hle, putF_old F hk hp, putF, Fl.put, if_pos ht]
  unfold txt
  rw [if_neg (by omega), show (toF F k + 8 * i + (8 - 1 - j) - toF F k) / 8 = i by omega, show 7 - (toF F k + 8 * i + (8 - 1 - j) - toF F k) % 8 = j by omega]
/-- A number taken is the number that was put. -/
theorem num_back {F : Nat → Fl} {n k nn x : Nat} {Z : Nat → Nat} (hs : Str nn (toF F n) Z (putF F n)) (hle : toF F n ≤ 8 * nn) (hk : k < n) (ht : (F k).t = false) (he : (F k).e = false) (hx : Num x (F k).wd (bt Z) (toF F k)) : x = (F k).n % 2 ^ (F k).wd := by
  have hto : toF F (k + 1) = toF F k + (F k).wd := by rw [toF, Fl.to, if_neg (by rw [ht]; decide), if_neg (by rw [he]; decide)]
  have hmo := toF_mono F (show k + 1 ≤ n from hk)
  refine hx.uniq ⟨Nat.mod_lt _ (Nat.two_pow_pos _), fun j hj => ?_⟩
  have hp : toF F k + ((F k).wd - 1 - j) < toF F (k + 1) := by omega
  rw [hs.bt (by omega) hle, putF_old F hk hp, putF, Fl.put, if_neg (by rw [ht]; decide), if_neg (by rw [he]; decide)]
  unfold app
  rw [if_neg (by omega), Nat.testBit_mod_two_pow, show (F k).wd - 1 - (toF F k + ((F k).wd - 1 - j) - toF F k) = j by omega]
  simp [hj]
/-- What fills a byte is 0. -/
theorem even_back {F : Nat → Fl} {n k nn x : Nat} {Z : Nat → Nat} (hs : Str nn (toF F n) Z (putF F n)) (hle : toF F n ≤ 8 * nn) (hk : k < n) (ht : (F k).t = false) (he : (F k).e = true) (h8 : toF F k % 8 ≠ 0) (hx : Num x (8 - toF F k % 8) (bt Z) (toF F k)) : x = 0 := by
  have hto : toF F (k + 1) = (toF F k + 7) / 8 * 8 := by rw [toF, Fl.to, if_neg (by rw [ht]; decide), if_pos he]
  have hmo := toF_mono F (show k + 1 ≤ n from hk)
  refine hx.uniq ⟨Nat.two_pow_pos _, fun j hj => ?_⟩
  have hp : toF F k + (8 - toF F k % 8 - 1 - j) < toF F (k + 1) := by omega
  rw [hs.bt (by omega) hle, putF_old F hk hp, putF, Fl.put, if_neg (by rw [ht]; decide), if_pos he]
  unfold evn
  have : decide (toF F k + (8 - toF F k % 8 - 1 - j) < toF F k) = false := decide_eq_false (by omega)
  rw [this]
  simp
/-- Behind the last bit there is nothing. -/
theorem end_back {n nb x : Nat} {Z : Nat → Nat} {B : Nat → Bool} (hs : Str n nb Z B) (h1 : nb ≤ 8 * n) (h2 : 8 * n < nb + 8) (h8 : nb % 8 ≠ 0) (hx : Num x (8 - nb % 8) (bt Z) nb) : x = 0 := by
  refine hx.uniq ⟨Nat.two_pow_pos _, fun j hj => ?_⟩
  unfold bt
  rw [hs.bit _ (by omega) _ (by omega)]
  simp
  omega
theorem Lone.box {w w' : World} {base b nb n r0 : Nat} {Z : Nat → Nat} {B : Nat → Bool} {v v' : Value} {cs : Array Value} (l : Lone w w' b v v') (h : Wr w base b nb n Z B v) (ho : Own w r0 32 cs) : Own w' r0 32 cs := by
  refine (l.keep r0 ho.lt (fun e => ?_) (fun e => ?_)).trans ho
  · subst e
    exact absurd (own_type h.own ho) (by decide)
  · obtain ⟨_, h9⟩ := h.row
    rcases h9 with ⟨hv, _⟩ | ⟨g, cap, cur, hv, _, hh, _⟩
    · rw [hv] at e
      cases e
    · rw [hv] at e
      have e : some g = some r0 := e
      injection e with e
      subst e
      exact absurd (own_type hh ho) (by decide)
set_option maxHeartbeats 8000000 in
theorem body (a : Option Addr) (n c : Nat) (V : Nat → Value) (F : Nat → Fl) (w : World) (hn : n ≤ c) (hc : c ≤ maxLen) (hF : Fls w a n V F) :
    Calls Try.prog 5 #[.slice a n c] w fun r w' => r = .returned (.bool true) ∧ Below w.heap.size w w' := by
  have hend : ∀ wz, Below w.heap.size w wz → Calls Try.prog 9 #[] wz fun r w' => r = .returned (.bool true) ∧ Below w.heap.size w w' := fun wz tz =>
    (awake_any wz).mono (by rintro r w' ⟨rfl, b1⟩; exact ⟨rfl, tz.trans (b1.mono tz.size)⟩)
  have hcap : (n : Int) ≤ 9223372036854775807 := by unfold maxLen at hc; omega
  go_enter Try.func5, Try.ntmps5
  go_wp2_with fail
  refine (few_any a n c V F _ hn hc hF).mono ?_
  rintro r w1 ⟨q, rfl, hq, b1⟩
  cases q
  · go_wp2_with fail
    refine (hend _ b1).mono ?_
    rintro r w' ⟨rfl, b2⟩
    go_wp2_with fail
    go_ret
    exact ⟨rfl, b2⟩
  obtain ⟨hn100, hsum⟩ := hq rfl
  clear hq
  have htot : ∀ k, k ≤ n → toF F k ≤ 20000 := fun k hk => by
    have := toF_le F k
    have := sumM_le F hk
    omega
  have HTOT := Lib.hid htot
  have HF := Lib.hid hF
  clear htot hF
  have h0 : Wr (w1.alloc (.cells #[.slice none 0 0, .int .i64 0] 47)) w.heap.size w1.heap.size 0 0 (fun _ => 0) (fun _ => false) (.slice none 0 0) := ⟨⟨Own.new w1 47 _, Mine.nil _ _ _ _, ⟨fun k hk => by omega, fun k hk => by omega⟩, b1.size⟩, by decide, by decide⟩
  have b0 := b1.alloc b1.size (.cells #[.slice none 0 0, .int .i64 0] 47)
  go_wp2_with fail
  generalize w1.alloc (.cells #[.slice none 0 0, .int .i64 0] 47) = w2 at *
  obtain ⟨b, hb⟩ : ∃ b, w1.heap.size = b := ⟨_, rfl⟩
  rw [hb] at h0 ⊢
  clear hb b1
  clear w1
  go_loopw [21, 4] (fun i s wr => ∃ k : Nat, i = .int .i64 k ∧ s = .int .i64 (toF F k : Nat) ∧ k ≤ n ∧ ∃ nn Z v, Wr wr w.heap.size b (toF F k) nn Z (putF F k) v ∧ Below w.heap.size w wr) (fun i _ _ => n - (intOf i).toNat)
  case atStart => exact ⟨0, rfl, rfl, by omega, 0, _, _, h0, b0⟩
  case round =>
    clear h0 b0
    obtain ⟨k, rfl, rfl, hk, nn, Z, v, h, bb⟩ := hrel
    have hbb := bb.size
    by_cases hlt : k < n
    · obtain ⟨bo, off, rfl, hbo, hcs⟩ := HF.out.row.at_struct bb hlt (by decide)
      obtain ⟨⟨e0, e1, e2, e3, e4⟩, hok⟩ := HF.out.at_ k hlt
      have d0 := (hcs 0 (by decide)).trans (congrArg some e0)
      have d1 := (hcs 1 (by decide)).trans (congrArg some e1)
      have d2 := (hcs 2 (by decide)).trans (congrArg some e2)
      have d3 := (hcs 3 (by decide)).trans (congrArg some e3)
      have d4 := (hcs 4 (by decide)).trans (congrArg some e4)
      rw [Nat.add_zero] at d0
      have ht1 := HTOT.out k hk
      have ht2 := HTOT.out (k + 1) hlt
      have hwd := (F k).wd_is
      have hm1 : (F k).m ≤ 1000 := by
        have h1 : sumM F (k + 1) = sumM F k + (F k).m := rfl
        have := sumM_le F (show k + 1 ≤ n from hlt)
        omega
      have hto : toF F (k + 1) = (F k).to (toF F k) := rfl
      have hpt : putF F (k + 1) = (F k).put (toF F k) (putF F k) := rfl
      obtain ⟨q, hq⟩ : ∃ q, F k = q := ⟨_, rfl⟩
      rw [hq] at d0 d1 d2 d3 d4 hok hwd hto hpt hm1
      obtain ⟨hnq, hmc, hmm, hrow, hnone, hyl⟩ := hok
      obtain ⟨P, hP⟩ : ∃ P, toF F k = P := ⟨_, rfl⟩
      obtain ⟨B, hB⟩ : ∃ B, putF F k = B := ⟨_, rfl⟩
      rw [hP] at h hto hpt ht1
      rw [hP]
      rw [hB] at h hpt
      obtain ⟨wd, hw⟩ : ∃ x, q.wd = x := ⟨_, rfl⟩
      rw [hw] at hwd
      have q1 : wrap64 ((IntKind.u64.wrap q.w).tmod 65) = (wd : Int) := by
        rw [IntKind.wrap_u64, Int.tmod_eq_emod_of_nonneg (Int.emod_nonneg _ (by decide)), hwd.1, IntWalk.wrap64_in _ ⟨by omega, by omega⟩]
      have hwd2 := hwd.2
      clear hwd
      unfold Fl.to at hto
      unfold Fl.put at hpt
      rw [hw] at hto hpt
      obtain ⟨qn, qw, qt, qe, qa, qm, qc, qy⟩ := q
      clear hcs e0 e1 e2 e3 e4 hq hw hP hB
      dsimp only at *
      have ba := (Below.refl wr.heap.size wr).alloc (Nat.le_refl _) (.cells #[.int .u64 (qn : Nat), .int .i64 qw, .bool qt, .bool qe, .slice qa qm qc] 32)
      have ox := Own.new wr 32 #[.int .u64 (qn : Nat), .int .i64 qw, .bool qt, .bool qe, .slice qa qm qc]
      have hx := h.below ba
      have bx := bb.trans (ba.mono hbb)
      go_upto_region 8 with (fail)
      generalize wr.alloc (.cells #[.int .u64 (qn : Nat), .int .i64 qw, .bool qt, .bool qe, .slice qa qm qc] 32) = wx at *
      obtain ⟨r0, hr0⟩ : ∃ r, wr.heap.size = r := ⟨_, rfl⟩
      rw [hr0] at ox ba ⊢
      clear hr0 d0 d1 d2 d3 d4 h bb hbb ba
      clear wr
      have c0 : wx.cell? ⟨r0, 0, none⟩ = some (.int .u64 (qn : Nat)) := ox.cell 0
      have c1 : wx.cell? ⟨r0, 1, none⟩ = some (.int .i64 qw) := ox.cell 1
      have c2 : wx.cell? ⟨r0, 2, none⟩ = some (.bool qt) := ox.cell 2
      have c3 : wx.cell? ⟨r0, 3, none⟩ = some (.bool qe) := ox.cell 3
      have c4 : wx.cell? ⟨r0, 4, none⟩ = some (.slice qa qm qc) := ox.cell 4
      -- <A
      go_upto_block 2 with (fail)
      rw [q1]
      clear c1 q1
      go_cut [4] (fun s wz => s = .int .i64 (toF F (k + 1) : Nat) ∧ ∃ nn Z v, Wr wz w.heap.size b (toF F (k + 1)) nn Z (putF F (k + 1)) v ∧ Below w.heap.size w wz)
      case first =>
        cases qt
        · cases qe
          · rw [if_neg (by decide), if_neg (by decide)] at hto hpt
            have e1 : IntKind.i64.wrap ((P : Int) + (wd : Int)) = (P : Int) + (wd : Int) := IntWalk.i64_in _ (by omega)
            go_wp2_with fail
            refine (put_any w.heap.size b P nn Z B v qn wd _ hx hnq hwd2 (by omega)).mono ?_
            rintro r w5 ⟨rfl, n5, Z5, v5, h5, b5, _⟩
            go_wp2_with fail
            go_meet
            rw [hto, hpt]
            exact ⟨by simp, n5, Z5, v5, h5, bx.trans b5⟩
          · rw [if_neg (by decide), if_pos rfl] at hto hpt
            have h8 := even_to hx.le hx.lt
            have e1 : IntKind.i64.wrap ((P : Int) + 7) = (P : Int) + 7 := IntWalk.i64_in _ (by omega)
            obtain ⟨D, hD⟩ : ∃ D, (P + 7) / 8 = D := ⟨_, rfl⟩
            have e2 : ((P : Int) + 7) / 8 = (D : Int) := by omega
            have e2t : ((P : Int) + 7).tdiv 8 = (D : Int) := by rw [Int.tdiv_eq_ediv_of_nonneg (by omega)]; exact e2
            have e3 : IntKind.i64.wrap ((D : Int) * 8) = (D : Int) * 8 := IntWalk.i64_in _ (by omega)
            have e4 : wrap64 (D : Int) = (D : Int) := IntWalk.wrap64_in _ ⟨by omega, by omega⟩
            rw [hD] at h8 hto
            go_wp2_with fail
            refine (weven_any w.heap.size b P nn Z B v _ hx (by omega)).mono ?_
            rintro r w5 ⟨rfl, h5, b5, _⟩
            go_wp2_with fail
            go_meet
            rw [hto, hpt, h8]
            exact ⟨by simp; omega, nn, Z, v, h5, bx.trans b5⟩
        · rw [if_pos rfl] at hto hpt
          have e1 : IntKind.i64.wrap (8 * (qm : Int)) = 8 * (qm : Int) := IntWalk.i64_in _ (by omega)
          have e2 : IntKind.i64.wrap ((P : Int) + 8 * (qm : Int)) = (P : Int) + 8 * (qm : Int) := IntWalk.i64_in _ (by omega)
          go_wp2_with fail
          refine (wtext_any b P nn qm Z B qy v qa qc w _ hx (by omega) (by omega) hrow bx (fun i _ => hyl i)).mono ?_
          rintro r w5 ⟨rfl, n5, Z5, v5, h5, b5, l5⟩
          have c4 : w5.cell? ⟨r0, 4, none⟩ = some (.slice qa qm qc) := (Lone.box l5 hx ox).cell 4
          go_wp2_with fail
          go_meet
          rw [hto, hpt]
          exact ⟨by simp, n5, Z5, v5, h5, bx.trans b5⟩
      case rest =>
        clear hx bx c0 c2 c3 c4 ox
        obtain ⟨rfl, nn2, Z2, v2, h2, b2⟩ := hcut
        obtain ⟨P2, hP2⟩ : ∃ P2, toF F (k + 1) = P2 := ⟨_, rfl⟩
        rw [hP2] at h2 ht2
        rw [hP2]
        have hle2 := h2.le
        have hlt2 := h2.lt
        have e1 : IntKind.i64.wrap ((P2 : Int) + 7) = (P2 : Int) + 7 := IntWalk.i64_in _ (by omega)
        have e2 : ((P2 : Int) + 7) / 8 = (nn2 : Int) := by omega
        have e2t : ((P2 : Int) + 7).tdiv 8 = (nn2 : Int) := by rw [Int.tdiv_eq_ediv_of_nonneg (by omega)]; exact e2
        have e4 : wrap64 (nn2 : Int) = (nn2 : Int) := IntWalk.wrap64_in _ ⟨by omega, by omega⟩
        have e5 : ((nn2 : Int) != (nn2 : Int)) = false := by simp
        have e6 : ((nn2 : Int) == (nn2 : Int)) = true := by simp
        have e7 : ((P2 : Int) != (P2 : Int)) = false := by simp
        have e8 : ((P2 : Int) == (P2 : Int)) = true := by simp
        go_wp2_with fail
        refine (bits_any w.heap.size b P2 nn2 Z2 _ v2 _ h2).mono ?_
        rintro r w' ⟨rfl, rfl⟩
        go_wp2_with fail
        refine (bytes_any w.heap.size b P2 nn2 Z2 _ v2 _ h2 (by omega)).mono ?_
        rintro r w6 ⟨va, vc, rfl, _, _, _, b6⟩
        have h6 := h2.below b6
        have b7 := b2.trans (b6.mono b2.size)
        go_wp2_with fail
        exact ⟨⟨k + 1, by simp, by rw [hP2], by omega, nn2, Z2, v2, by rw [hP2]; exact h6, b7⟩, by simp [intOf]; omega⟩
      -- A>
    · obtain rfl : k = n := by omega
      have g4 : decide ((k : Int) < (k : Int)) = false := by simp
      have htn := HTOT.out k (Nat.le_refl _)
      have hle := h.le
      have hlt8 := h.lt
      have hstr := h.str
      have hnn1 : nn ≤ 100000 := by omega
      have hnn2 : nn ≤ 1000000 := by omega
      obtain ⟨P, hP⟩ : ∃ P, toF F k = P := ⟨_, rfl⟩
      go_wp2_with fail
      refine (bytes_any w.heap.size b _ nn Z _ v _ h (by omega)).mono ?_
      rintro r w3 ⟨va, vc, rfl, hva, hvm, hvr, b3⟩
      have b3 := bb.trans (b3.mono hbb)
      clear h bb hbb
      go_wp2_with fail
      refine (new_any va nn vc Z _ (by omega) hvr hstr.lt (fun e => by
        subst e
        rcases Nat.eq_zero_or_pos nn with h | h
        · exact h
        · obtain ⟨_, _, h1, _⟩ := hvr h
          cases h1)).mono ?_
      rintro r w4 ⟨br, vr, rfl, hr, b4⟩
      have hs3 := b3.size
      have b4 := b3.trans (b4.mono hs3)
      clear b3 hvr
      obtain ⟨B3, hB3⟩ : ∃ B, w3.heap.size = B := ⟨_, rfl⟩
      rw [hB3] at hr hs3
      have hWB : w.heap.size ≤ B3 := hs3
      clear hB3
      have HSTR := Lib.hid hstr
      clear hstr
      go_wp2_with fail
      go_loopw [79] (fun i wr => ∃ j : Nat, i = .int .i64 j ∧ j ≤ k ∧ Rd wr B3 br (toF F j) nn Z 0 vr ∧ Below w.heap.size w wr) (fun i _ => k - (intOf i).toNat)
      case atStart => exact ⟨0, rfl, by omega, hr, b4⟩
      case round =>
        clear hr b4
        obtain ⟨j, rfl, hj, h, bb⟩ := hrel
        have hbb := bb.size
        by_cases hlt : j < k
        · obtain ⟨bo, off, rfl, hbo, hcs⟩ := HF.out.row.at_struct bb hlt (by decide)
          obtain ⟨⟨e0, e1, e2, e3, e4⟩, hok⟩ := HF.out.at_ j hlt
          have d0 := (hcs 0 (by decide)).trans (congrArg some e0)
          have d1 := (hcs 1 (by decide)).trans (congrArg some e1)
          have d2 := (hcs 2 (by decide)).trans (congrArg some e2)
          have d3 := (hcs 3 (by decide)).trans (congrArg some e3)
          have d4 := (hcs 4 (by decide)).trans (congrArg some e4)
          rw [Nat.add_zero] at d0
          have ht1 := toF_mono F hj
          have ht2 := toF_mono F (show j + 1 ≤ k from hlt)
          have hwd := (F j).wd_is
          have hm1 : (F j).m ≤ 1000 := by
            have h1 : sumM F (j + 1) = sumM F j + (F j).m := rfl
            have := sumM_le F (show j + 1 ≤ k from hlt)
            omega
          have hto : toF F (j + 1) = (F j).to (toF F j) := rfl
          have TB := Lib.hid (fun ht => text_back (m := (F j).m) HSTR.out (by rw [hP]; omega) hlt ht rfl hok.lt)
          have NB := Lib.hid (fun ht he x => num_back (x := x) HSTR.out (by rw [hP]; omega) hlt ht he)
          have EB := Lib.hid (fun ht he h8 x => even_back (x := x) HSTR.out (by rw [hP]; omega) hlt ht he h8)
          obtain ⟨q, hq⟩ : ∃ q, F j = q := ⟨_, rfl⟩
          rw [hq] at d0 d1 d2 d3 d4 hok hwd hto hm1 TB NB EB
          obtain ⟨hnq, hmc, hmm, hrow, hnone, hyl⟩ := hok
          obtain ⟨O, hO⟩ : ∃ O, toF F j = O := ⟨_, rfl⟩
          rw [hO] at h hto ht1 TB NB EB
          obtain ⟨wd, hw⟩ : ∃ x, q.wd = x := ⟨_, rfl⟩
          rw [hw] at hwd NB
          have q1 : wrap64 ((IntKind.u64.wrap q.w).tmod 65) = (wd : Int) := by
            rw [IntKind.wrap_u64, Int.tmod_eq_emod_of_nonneg (Int.emod_nonneg _ (by decide)), hwd.1, IntWalk.wrap64_in _ ⟨by omega, by omega⟩]
          have hwd2 := hwd.2
          unfold Fl.to at hto
          rw [hw] at hto
          obtain ⟨qn, qw, qt, qe, qa, qm, qc, qy⟩ := q
          clear hcs e0 e1 e2 e3 e4 hq hw hwd hO
          dsimp only at *
          have ba := (Below.refl wr.heap.size wr).alloc (Nat.le_refl _) (.cells #[.int .u64 (qn : Nat), .int .i64 qw, .bool qt, .bool qe, .slice qa qm qc] 32)
          have ox := Own.new wr 32 #[.int .u64 (qn : Nat), .int .i64 qw, .bool qt, .bool qe, .slice qa qm qc]
          have hx := h.alloc (.cells #[.int .u64 (qn : Nat), .int .i64 qw, .bool qt, .bool qe, .slice qa qm qc] 32)
          have bx := bb.trans (ba.mono hbb)
          go_upto_region 25 with (fail)
          generalize wr.alloc (.cells #[.int .u64 (qn : Nat), .int .i64 qw, .bool qt, .bool qe, .slice qa qm qc] 32) = wx at *
          obtain ⟨r0, hr0⟩ : ∃ r, wr.heap.size = r := ⟨_, rfl⟩
          rw [hr0] at ox ba ⊢
          clear hr0 d0 d1 d2 d3 d4 h bb hbb ba
          clear wr
          have c0 : wx.cell? ⟨r0, 0, none⟩ = some (.int .u64 (qn : Nat)) := ox.cell 0
          have c1 : wx.cell? ⟨r0, 1, none⟩ = some (.int .i64 qw) := ox.cell 1
          have c2 : wx.cell? ⟨r0, 2, none⟩ = some (.bool qt) := ox.cell 2
          have c3 : wx.cell? ⟨r0, 3, none⟩ = some (.bool qe) := ox.cell 3
          have c4 : wx.cell? ⟨r0, 4, none⟩ = some (.slice qa qm qc) := ox.cell 4
          go_upto_block 5 with (fail)
          rw [q1]
          clear c1 q1
          go_cut [11] (fun s wz => s = .bool true ∧ Rd wz B3 br (toF F (j + 1)) nn Z 0 vr ∧ Below w.heap.size w wz)
          case first =>
            cases qt
            · cases qe
              · rw [if_neg (by decide), if_neg (by decide)] at hto
                -- <N
                have hp64 : 2 ^ wd ≤ 2 ^ 64 := Nat.pow_le_pow_right (by decide) hwd2
                have hp0 := Nat.two_pow_pos wd
                have h64 : (2 : Nat) ^ 64 = 18446744073709551616 := rfl
                obtain ⟨T, hT⟩ : ∃ T, 2 ^ wd - 1 = T := ⟨_, rfl⟩
                obtain ⟨R, hR⟩ : ∃ R, qn % 2 ^ wd = R := ⟨_, rfl⟩
                have e2 : IntKind.u64.wrap (IntKind.u64.wrap (2 ^ wd) - 1) = (T : Int) := by
                  rw [IntKind.wrap_u64, IntKind.wrap_u64, ← hT, show ((2 : Int) ^ wd) = ((2 ^ wd : Nat) : Int) from by simp]
                  omega
                have e4 : Go.bits .and .u64 (qn : Int) (T : Int) = (R : Int) := by
                  rw [u64_and_nat qn T hnq (by omega), ← hT, Nat.and_two_pow_sub_one_eq_mod, hR]
                have e5 : IntKind.u64.wrap (wd : Int) = (wd : Int) := by rw [IntKind.wrap_u64]; omega
                have P1 : ∀ wz, Rd wz B3 br O nn Z 0 vr → Calls Try.prog 16 #[.pointer (some ⟨br, 0, none⟩), .int .i64 (wd : Nat)] wz fun r w' => r = .returned (.int .u64 (R : Nat)) ∧ Rd w' B3 br (O + wd) nn Z 0 vr ∧ Just br wz w' := fun wz hz => (takeJ B3 br O nn Z 0 vr wd wz hz hwd2 (by omega) (by omega)).mono (by
                  rintro r w' ⟨x, rfl, h1, h2, h3⟩
                  exact ⟨by rw [NB.out (by simp) (by simp) x h1, hR], h2, h3⟩)
                have oA : Own wx.drew r0 32 #[.int .u64 (qn : Nat), .int .i64 qw, .bool false, .bool false, .slice qa qm qc] := ox
                have hA : Rd wx.drew B3 br O nn Z 0 vr := hx.drewN 1
                have bA : Below w.heap.size w wx.drew := below_drewN bx 1
                have xx : wx.drew.cell? ⟨r0, 0, none⟩ = some (.int .u64 (qn : Nat)) := c0
                have hrb : r0 ≠ br := fun e => by
                  subst e
                  exact absurd (own_type hx.own ox) (by decide)
                clear hT hR hp64 hp0 h64
                go_upto_region 26 with (fail)
                go_region_with (first | (go_at_call 16; refine (P1 _ hA).mono ?_; rintro e w5 ⟨rfl, h5, j5⟩; have b5 := j5.below bA (Nat.le_trans hWB hx.low) bA.size; have y1 : w5.cell? ⟨r0, 0, none⟩ = some (.int .u64 (qn : Nat)) := (j5.own oA hrb).cell 0))
                all_goals
                  go_wp2_with fail
                  go_meet
                  rw [hto]
                  exact ⟨by simp, h5, b5⟩
                -- N>
              · rw [if_neg (by decide), if_pos rfl] at hto
                -- <E
                by_cases h8 : O % 8 = 0
                · have ho : toF F (j + 1) = O := by omega
                  go_wp2_with fail
                  refine (even_yes B3 br O nn Z 0 vr _ hx h8).mono ?_
                  rintro r w' ⟨rfl, rfl⟩
                  go_wp2_with fail
                  go_meet
                  rw [ho]
                  exact ⟨rfl, hx, bx⟩
                · have ho : toF F (j + 1) = O + (8 - O % 8) := by omega
                  go_wp2_with fail
                  refine (even_no B3 br O nn Z 0 vr _ hx h8 (by omega) (by omega)).mono ?_
                  rintro r w5 ⟨rfl, b5, x, hx5, hor⟩
                  obtain rfl := EB.out (by simp) (by simp) h8 x hx5
                  rcases hor with ⟨_, h5⟩ | ⟨h9, _⟩
                  · go_wp2_with fail
                    go_meet
                    rw [ho]
                    exact ⟨rfl, h5, bx.trans (b5.mono hs3)⟩
                  · exact absurd rfl h9
                -- E>
            · rw [if_pos rfl] at hto
              -- <T
              have TE := TB.out (by simp)
              have P1 : ∀ wz, Rd wz B3 br O nn Z 0 vr → _ := fun wz hz => rtext_all B3 br O nn qm Z 0 vr wz hz (by omega) (by omega)
              obtain ⟨s, hs⟩ : ∃ s, str (fun i => (qy i : Int)) qm = s := ⟨_, rfl⟩
              have HCV : ∀ (wz : World) (a : Option Addr) (c : Nat), Row wz a qm (fun i => .int .u8 (num (bt Z) (O + 8 * i) 8 : Nat)) → (convert 22 9 (.slice a qm c)).run Try.prog wz = .ok (.string s) wz := fun wz a c hr => by
                rw [← hs, ← str_congr (fun i hi => show ((num (bt Z) (O + 8 * i) 8 : Nat) : Int) = (qy i : Int) by rw [TE i hi])]
                exact conv_string (P := Try.prog) Try.underlying22 Try.underlying5 Try.underlying9 hr
              have HCO : ∀ wz, Below w.heap.size w wz → (convert 22 9 (.slice qa qm qc)).run Try.prog wz = .ok (.string s) wz := fun wz hb => by
                rw [← hs]
                exact conv_string (P := Try.prog) Try.underlying22 Try.underlying5 Try.underlying9 (hrow.below hb)
              have oA : Own wx.drew r0 32 #[.int .u64 (qn : Nat), .int .i64 qw, .bool true, .bool qe, .slice qa qm qc] := ox
              have hA : Rd wx.drew B3 br O nn Z 0 vr := hx.drewN 1
              have bA : Below w.heap.size w wx.drew := below_drewN bx 1
              have xx : wx.drew.cell? ⟨r0, 4, none⟩ = some (.slice qa qm qc) ∧ (convert 22 9 (.slice qa qm qc)).run Try.prog wx.drew = .ok (.string s) wx.drew := ⟨c4, HCO _ bA⟩
              have hrb : r0 ≠ br := fun e => by
                subst e
                exact absurd (own_type hx.own ox) (by decide)
              clear hs TE
              go_upto_region 28 with (fail)
              go_region_with (first | (go_at_call 12; refine (P1 _ hA).mono ?_; rintro e w5 ⟨a5, k5, rfl, r5, h5, j5⟩; have b5 := j5.below bA (Nat.le_trans hWB hx.low) bA.size; have z5 := HCV w5 a5 k5 r5; have y1 : w5.cell? ⟨r0, 4, none⟩ = some (.slice qa qm qc) := (j5.own oA hrb).cell 4; have y2 := HCO _ b5))
              all_goals
                go_wp2_with fail
                go_meet
                rw [hto]
                exact ⟨by simp, h5, b5⟩
              -- T>
          case rest =>
            clear hx bx c0 c2 c3 c4 ox
            obtain ⟨rfl, h2, b2⟩ := hcut
            go_wp2_with fail
            exact ⟨⟨j + 1, by simp, by omega, h2, b2⟩, by simp [intOf]; omega⟩
        · obtain rfl : j = k := by omega
          have g5 : decide ((j : Int) < (j : Int)) = false := by simp
          -- <Z
          obtain ⟨r8, hr8⟩ : ∃ r8, P % 8 = r8 := ⟨_, rfl⟩
          have e0 : (P : Int) % 8 = (r8 : Int) := by omega
          obtain ⟨s8, hs8⟩ : ∃ s8, 8 - r8 = s8 := ⟨_, rfl⟩
          have e1 : IntKind.i64.wrap ((8 : Int) - (r8 : Int)) = (s8 : Int) := by rw [IntWalk.i64_in _ (by omega)]; omega
          have e1' : (8 : Int) - (r8 : Int) = (s8 : Int) := by omega
          obtain ⟨L, hL⟩ : ∃ L, 8 * nn - P = L := ⟨_, rfl⟩
          have e2 : (s8 : Int) % 8 = (L : Int) := by omega
          have e2t : (s8 : Int).tmod 8 = (L : Int) := by rw [Int.tmod_eq_emod_of_nonneg (by omega)]; exact e2
          have e3 : ((L : Int) != (L : Int)) = false := by simp
          have e4 : ((L : Int) == (L : Int)) = true := by simp
          have e5 : IntKind.i64.wrap (L : Int) = (L : Int) := IntWalk.i64_in _ (by omega)
          have e6 : wrap64 (L : Int) = (L : Int) := IntWalk.wrap64_in _ ⟨by omega, by omega⟩
          rw [hP] at h hle hlt8
          have HE := Lib.hid (fun h8 x => end_back (x := x) HSTR.out (by rw [hP]; exact hle) (by rw [hP]; exact hlt8) h8)
          rw [hP] at HE
          go_wp2_with fail
          refine (left_any B3 br P nn Z 0 vr _ h hle hnn2).mono ?_
          rintro r w5 ⟨rfl, m5, hw5⟩
          have h5 : Rd w5 B3 br P nn Z 0 vr := by rw [← hw5]; exact h.drewN m5
          have b5 : Below w.heap.size w w5 := by rw [← hw5]; exact below_drewN bb m5
          rw [hL]
          clear hw5 h bb hbb
          -- <Y
          clear hr8 hs8 e1' hL
          have HLE := Lib.hid hle
          have HP8 := Lib.hid (show (P % 8 = 0 → P = 8 * nn) ∧ (P % 8 ≠ 0 → P + (8 - P % 8) = 8 * nn) by omega)
          clear hle hlt8
          go_wp2_with fail
          by_cases h8 : P % 8 = 0
          · have HE9 := Lib.hid (HP8.out.1 h8)
            refine (even_yes B3 br P nn Z 0 vr _ h5 h8).mono ?_
            rintro r w' ⟨rfl, rfl⟩
            clear h8
            go_wp2_with fail
            refine (end_ok B3 br P nn Z vr _ h5 HE9.out hnn1).mono ?_
            rintro r w7 ⟨rfl, m7, hw7⟩
            have b7 : Below w.heap.size w w7 := by rw [← hw7]; exact below_drewN b5 m7
            go_wp2_with fail
            refine (hend _ b7).mono ?_
            rintro r w8 ⟨rfl, b8⟩
            go_wp2_with fail
            go_ret
            exact ⟨rfl, b8⟩
          · have HE9 := Lib.hid (HP8.out.2 h8)
            refine (even_no B3 br P nn Z 0 vr _ h5 h8 HLE.out hnn1).mono ?_
            rintro r w6 ⟨rfl, b6, x, hx6, hor⟩
            obtain rfl := HE.out h8 x hx6
            clear hx6 h8
            rcases hor with ⟨_, h6⟩ | ⟨h9, _⟩
            · have b6 := b5.trans (b6.mono hs3)
              go_wp2_with fail
              refine (end_ok B3 br (P + (8 - P % 8)) nn Z vr _ h6 HE9.out hnn1).mono ?_
              rintro r w7 ⟨rfl, m7, hw7⟩
              have b7 : Below w.heap.size w w7 := by rw [← hw7]; exact below_drewN b6 m7
              go_wp2_with fail
              refine (hend _ b7).mono ?_
              rintro r w8 ⟨rfl, b8⟩
              go_wp2_with fail
              go_ret
              exact ⟨rfl, b8⟩
            · exact absurd rfl h9
          -- Y>
          -- Z>
theorem walk (H : Type) (enc : TypeId × Value → H) : WalkS H enc Try.prog 5 Try.f5 := by
  intro W base args ds p hval hA hw
  rw [Try.params5] at hA hval hw
  obtain ⟨v0, d0, rfl, rfl, h0⟩ := trodAll_one hA
  obtain ⟨a, n, c, V, F, rfl, hn, hc, hF⟩ := open_fields (hval 0 _ v0 rfl rfl) h0 (fun x hx => by
    exact of_decide_eq_true (List.all_eq_true.1 hw x (DataW.weights_mem_each (j := 0) rfl rfl x hx)))
  exact body a n c V F W hn hc hF

set_option maxRecDepth 100000 in
theorem lifted (os : Os) (started : os.Started) (H : Type) (enc : TypeId × Value → H) :
    ReturnsInHanded {} Try.checked os 5 .any (Rows.bitsBackSpec.pre6 enc Try.prog Try.f5 Rows.bitsBackRow.domain false) (Rows.bitsBackSpec.post enc Try.prog Try.f5 false true false false) :=
  returnsInHanded_of_change_sized (C := Try.checked) own started (by kernel_rfl) Try.func5
    (ChangeSpec.witness6 (enc := enc) (C := Try.checked) false ⟨#[], #[.slice none 0 0], []⟩ 8 (by kernel_rfl) (by kernel_rfl) (by kernel_rfl) (by kernel_rfl))
    fun W base args ds gs before hval hW _ hwt _ => step_of_walk_sized laidOut (by rw [Try.params5]; exact of_decide_eq_true (by kernel_rfl)) (by kernel_rfl) Try.underlying4 rfl rfl
      (fun ds h => by
        rw [Try.params5] at h
        match ds, h with
        | [_], _ => rfl) (walk H enc) W base args ds gs before hval hW hwt

theorem holds : Rows.BitsBackSaid :=
  OpenClaim.holds_of_wide 5 Try.f5 rfl rfl rfl rfl rfl rfl rfl ⟨rfl, rfl, rfl, rfl, rfl⟩ rfl rfl rfl rfl rfl (by kernel_rfl) Try.func5 (by kernel_rfl)
    (of_decide_eq_true (by kernel_rfl)) (by unfold Func.isWrapper; first | (rw [if_pos (by decide +kernel)]; kernel_rfl) | (rw [if_neg (by decide +kernel)]; exact ⟨rfl, rfl⟩))
    (fun os started H enc _ => lifted os started H enc)
#print axioms holds
end Go.Proofs.Ytamooehncjceiaa.BitsBack
