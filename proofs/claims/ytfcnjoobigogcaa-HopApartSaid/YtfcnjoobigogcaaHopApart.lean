/-
  Law HopApart: in one slot two offsets are on one channel just if they are the same, but for what goes round, and over as many slots as there are channels each one comes once; the call returns true. No condition.
-/
import Derived.Test.YtfcnjoobigogcaaHopWalks
import Derived.Test.YtfcnjoobigogcaaMild
import Derived.Test.YtfcnjoobigogcaaBlk
import Derived.Test.YtfcnjoobigogcaaVar
set_option maxRecDepth 100000
namespace Go.Proofs.Ytfcnjoobigogcaa.HopApart
set_option linter.unusedVariables false
open Go.RowKit Go.ChangeShapes Go.WideShapes Go.ChangeAt Go.Deep Lb Hp
set_option linter.unusedVariables false
theorem own : ownKnob Try.prog.godebug = none := by kernel_rfl
theorem laidOut : laidOutB Try.prog = true := by kernel_rfl

theorem mod_part (m i k : Nat) (s : Int) (hik : i < k) (hk : k < m) : (s + i) % (m : Int) ≠ (s + k) % (m : Int) := by
  intro h
  have h1 := Int.emod_emod_of_dvd (s + k) (Int.dvd_refl (m : Int))
  have h2 : ((s + k) - (s + i)) % (m : Int) = 0 := by
    rw [Int.sub_emod, ← h, Int.sub_self, Int.zero_emod]
  rw [show (s + k) - (s + i) = ((k - i : Nat) : Int) by omega] at h2
  have h3 : ((k - i : Nat) : Int) % (m : Int) = ((k - i : Nat) : Int) := Int.emod_eq_of_lt (by omega) (by omega)
  omega
theorem mod_off (m : Nat) (T A B : Int) (hm : 0 < m) : ((T + A) % (m : Int) == (T + B) % (m : Int)) = (A % (m : Int) == B % (m : Int)) := by
  rw [Bool.eq_iff_iff]
  simp only [beq_iff_eq]
  constructor
  · intro h
    have := Int.sub_emod (T + A) T m
    have h2 := Int.sub_emod (T + B) T m
    rw [show T + A - T = A by omega] at this
    rw [show T + B - T = B by omega] at h2
    rw [this, h2, h]
  · intro h
    rw [Int.add_emod, h, ← Int.add_emod]

/-- Did channel j come in the first k slots? -/
def occ (f : Nat → Int) : Nat → Nat → Bool
  | 0, _ => false
  | k + 1, j => occ f k j || decide (f k = (j : Int))
theorem occ_iff {f : Nat → Int} {j : Nat} : ∀ {k : Nat}, occ f k j = true ↔ ∃ i, i < k ∧ f i = (j : Int)
  | 0 => by simp [occ]
  | k + 1 => by
    simp only [occ, Bool.or_eq_true, occ_iff (k := k), decide_eq_true_eq]
    constructor
    · rintro (⟨i, h, e⟩ | e)
      · exact ⟨i, by omega, e⟩
      · exact ⟨k, by omega, e⟩
    · rintro ⟨i, h, e⟩
      by_cases hk : i = k
      · subst hk; exact .inr e
      · exact .inl ⟨i, by omega, e⟩
def sv (f : Nat → Int) (k j : Nat) : Value := .int .i64 (if occ f k j = true then 1 else 0)

theorem zeros32 (w : World) (f : Nat → Int) : Blk (w.alloc (.cells #[.int .i64 0, .int .i64 0, .int .i64 0, .int .i64 0, .int .i64 0, .int .i64 0, .int .i64 0, .int .i64 0, .int .i64 0, .int .i64 0, .int .i64 0, .int .i64 0, .int .i64 0, .int .i64 0, .int .i64 0, .int .i64 0, .int .i64 0, .int .i64 0, .int .i64 0, .int .i64 0, .int .i64 0, .int .i64 0, .int .i64 0, .int .i64 0, .int .i64 0, .int .i64 0, .int .i64 0, .int .i64 0, .int .i64 0, .int .i64 0, .int .i64 0, .int .i64 0] 31)) w.heap.size 31 32 (sv f 0) :=
  Blk.ext (Blk.same (n := 32) (v := .int .i64 0) (Own.new _ _ _) rfl) (fun i hi => rfl)

set_option maxHeartbeats 4000000 in
theorem body (a : Option Addr) (n c : Nat) (Z : Nat → Int) (bl : Nat) (t x y : Int) (w : World) (hn : n ≤ c) (hm : c ≤ maxLen) (hZ : Row w a n (fun i => .int .i64 (Z i))) (hbl : bl < 4294967296) :
    Calls Try.prog 4 #[.slice a n c, .int .u32 bl, .int .i64 t, .int .i64 x, .int .i64 y] w fun e w' => e = .returned (.bool true) ∧ Below w.heap.size w w' := by
  have ut := u64_pos t
  have ux := u64_pos x
  have uy := u64_pos y
  cases hM : mayB Z n
  · have HM := Lib.hid hM
    have HQ : Hid (chanB Z bl n 5 0 = -1) := Lib.hid (by unfold chanB; rw [hM, if_neg (by simp)])
    clear hM
    go_enter Try.func4, Try.ntmps4
    go_wp2_with fail
    refine (may_any a n c Z _ hn hm hZ).mono ?_
    rintro r w' ⟨rfl, rfl⟩
    rw [HM.out]
    go_wp2_with fail
    refine (open_no a n c Z bl _ hn hm hZ HM.out).mono ?_
    rintro r w' ⟨rfl, rfl⟩
    go_wp2_with fail
    refine (channel_any a n c Z bl 5 0 _ hn hm hZ hbl).mono ?_
    rintro r w1 ⟨rfl, b1⟩
    rw [HQ.out]
    go_wp2_with fail
    refine (awake_any _).mono ?_
    rintro r w9 ⟨rfl, b9⟩
    go_wp2_with fail
    go_ret
    exact ⟨rfl, b1.trans (b9.mono b1.size)⟩
  · obtain ⟨n0, n1, hO⟩ := mayB_iff.1 hM
    obtain ⟨l0, l1⟩ := opn_len (Z := Z) (b := bl) n0
    have HO := Lib.hid hO
    have HM := Lib.hid hM
    clear hM hO
    go_enter Try.func4, Try.ntmps4
    go_wp2_with fail
    refine (may_any a n c Z _ hn hm hZ).mono ?_
    rintro r w' ⟨rfl, rfl⟩
    rw [HM.out]
    go_wp2_with fail
    refine (open_yes a n c Z bl _ hn hm hZ hbl HM.out).mono ?_
    rintro r w1 ⟨v, rfl, hv, b1⟩
    obtain ⟨a', c', rfl, hc1, hc2, hR⟩ := hv.row
    clear hv hR
    have hZ1 := hZ.below b1
    obtain ⟨m, hmm⟩ : ∃ m, (opn Z bl n).length = m := ⟨_, rfl⟩
    rw [hmm] at l0 l1 hc1 ⊢
    have HMM := Lib.hid hmm
    have HZ0 := Lib.hid hZ
    clear hmm hZ
    have i0 : decide ((m : Int) < 1) = false := by simp; omega
    have i1 : decide (n < m) = false := by simp; omega
    go_wp2_with fail
    have t0 : 0 ≤ IntKind.u64.wrap t % 549755813888 ∧ IntKind.u64.wrap t % 549755813888 < 549755813888 := by omega
    have x0 : 0 ≤ IntKind.u64.wrap x % 256 ∧ IntKind.u64.wrap x % 256 < 256 := by omega
    have y0 : 0 ≤ IntKind.u64.wrap y % 256 ∧ IntKind.u64.wrap y % 256 < 256 := by omega
    generalize IntKind.u64.wrap t % 549755813888 = T at *
    generalize IntKind.u64.wrap x % 256 = A at *
    generalize IntKind.u64.wrap y % 256 = B at *
    clear ut ux uy
    obtain ⟨t0, t1⟩ := t0
    obtain ⟨x0, x1⟩ := x0
    obtain ⟨y0, y1⟩ := y0
    have HC : Hid (∀ (S O : Int), 0 ≤ S → S < 600000000000 → 0 ≤ O → O < 256 → chanB Z bl n S O = (opn Z bl n).getD ((S + O) % (m : Int)).toNat 0) := Lib.hid (by
      intro S O h1 h2 h3 h4
      unfold chanB chan
      rw [HM.out, if_pos ⟨rfl, h1, by omega, h3, h4⟩, HMM.out])
    have hmod : ∀ S : Int, (S % (m : Int)).toNat < m := fun S => by
      have h1 := Int.emod_nonneg S (show (m : Int) ≠ 0 by omega)
      have h2 := Int.emod_lt_of_pos S (show (0 : Int) < m by omega)
      omega
    have HMO := Lib.hid hmod
    clear hmod
    obtain ⟨e, he⟩ : ∃ e : Bool, (A % (m : Int) == B % (m : Int)) = e := ⟨_, rfl⟩
    have he2 : (chanB Z bl n T A == chanB Z bl n T B) = e := by
      rw [HC.out T A t0 (by omega) x0 x1, HC.out T B t0 (by omega) y0 y1, ← he, ← mod_off m T A B (by omega), Bool.eq_iff_iff]
      simp only [beq_iff_eq]
      constructor
      · intro h
        have := opn_inj HO.out (by rw [HMM.out]; exact HMO.out _) (by rw [HMM.out]; exact HMO.out _) h
        have h1 := Int.emod_nonneg (T + A) (show (m : Int) ≠ 0 by omega)
        have h2 := Int.emod_nonneg (T + B) (show (m : Int) ≠ 0 by omega)
        omega
      · intro h
        rw [h]
    obtain ⟨ca, hca⟩ : ∃ ca, chanB Z bl n T A = ca := ⟨_, rfl⟩
    obtain ⟨cb, hcb⟩ : ∃ cb, chanB Z bl n T B = cb := ⟨_, rfl⟩
    have HKA : Hid (∀ w', Below w1.heap.size w1 w' → Calls Try.prog 13 #[.slice a n c, .int .u32 bl, .int .i64 T, .int .i64 A] w' fun r w'' => r = .returned (.int .i64 ca) ∧ Below w'.heap.size w' w'') := Lib.hid (by
      intro w' hw
      rw [← hca]
      exact channel_any a n c Z bl T A _ hn hm (hZ1.below hw) hbl)
    have HKB : Hid (∀ w', Below w1.heap.size w1 w' → Calls Try.prog 13 #[.slice a n c, .int .u32 bl, .int .i64 T, .int .i64 B] w' fun r w'' => r = .returned (.int .i64 cb) ∧ Below w'.heap.size w' w'') := Lib.hid (by
      intro w' hw
      rw [← hcb]
      exact channel_any a n c Z bl T B _ hn hm (hZ1.below hw) hbl)
    rw [hca, hcb] at he2
    have HCA := Lib.hid hca
    clear hca hcb
    have hmz : ¬ (m : Int) = 0 := by omega
    have htA : A.tmod (m : Int) = A % (m : Int) := Int.tmod_eq_emod_of_nonneg x0
    have htB : B.tmod (m : Int) = B % (m : Int) := Int.tmod_eq_emod_of_nonneg y0
    refine wp_region_mild w1.heap.size w1 (by kernel_rfl) (by kernel_rfl) (Below.refl _ _) ?_
    have hq := mild_forall w1.heap.size w1
    repeat (go_big_quiet_step (first
      | (intro hC; go_at_call 13; first
          | (with_reducible exact mild_below (x := .int .i64 ca) hC (Nat.le_refl _) (HKA.out _ hC))
          | (with_reducible exact mild_below (x := .int .i64 cb) hC (Nat.le_refl _) (HKB.out _ hC)))))
    refine wpQuiet_nil ?_
    intro w2 hC2
    have b2 := b1.trans (hC2.mono b1.size)
    clear hq HKA HKB hZ1 hC2 he he2 htA htB
    go_upto_region 10 with (fail)
    refine wp_zero_var (z := #[.int .i64 0, .int .i64 0, .int .i64 0, .int .i64 0, .int .i64 0, .int .i64 0, .int .i64 0, .int .i64 0, .int .i64 0, .int .i64 0, .int .i64 0, .int .i64 0, .int .i64 0, .int .i64 0, .int .i64 0, .int .i64 0, .int .i64 0, .int .i64 0, .int .i64 0, .int .i64 0, .int .i64 0, .int .i64 0, .int .i64 0, .int .i64 0, .int .i64 0, .int .i64 0, .int .i64 0, .int .i64 0, .int .i64 0, .int .i64 0, .int .i64 0, .int .i64 0]) rfl rfl rfl rfl rfl rfl rfl (by kernel_rfl) (by kernel_rfl) (by kernel_rfl) rfl rfl ?_
    go_wp2_with fail
    have o3 := zeros32 w2 (fun i => chanB Z bl n (T + i) A)
    have b3 := b2.alloc b2.size (.cells #[.int .i64 0, .int .i64 0, .int .i64 0, .int .i64 0, .int .i64 0, .int .i64 0, .int .i64 0, .int .i64 0, .int .i64 0, .int .i64 0, .int .i64 0, .int .i64 0, .int .i64 0, .int .i64 0, .int .i64 0, .int .i64 0, .int .i64 0, .int .i64 0, .int .i64 0, .int .i64 0, .int .i64 0, .int .i64 0, .int .i64 0, .int .i64 0, .int .i64 0, .int .i64 0, .int .i64 0, .int .i64 0, .int .i64 0, .int .i64 0, .int .i64 0, .int .i64 0] 31)
    generalize w2.alloc (.cells #[.int .i64 0, .int .i64 0, .int .i64 0, .int .i64 0, .int .i64 0, .int .i64 0, .int .i64 0, .int .i64 0, .int .i64 0, .int .i64 0, .int .i64 0, .int .i64 0, .int .i64 0, .int .i64 0, .int .i64 0, .int .i64 0, .int .i64 0, .int .i64 0, .int .i64 0, .int .i64 0, .int .i64 0, .int .i64 0, .int .i64 0, .int .i64 0, .int .i64 0, .int .i64 0, .int .i64 0, .int .i64 0, .int .i64 0, .int .i64 0, .int .i64 0, .int .i64 0] 31) = w3 at *
    obtain ⟨g, hg⟩ : ∃ g, g = w2.heap.size := ⟨_, rfl⟩
    rw [← hg] at o3 ⊢
    have hgw : w.heap.size ≤ g := by rw [hg]; exact b2.size
    clear hg b2
    go_loopw [79] (fun i wr => ∃ k : Nat, i = .int .i64 k ∧ k ≤ m ∧ Blk wr g 31 32 (sv (fun i => chanB Z bl n (T + i) A) k) ∧ Below w.heap.size w wr) (fun i _ => m - (intOf i).toNat)
    case atStart => exact ⟨0, rfl, by omega, o3, b3⟩
    case round =>
      obtain ⟨k, rfl, hk, kk, bb⟩ := hrel
      have zr := HZ0.out.below bb
      by_cases hlt : k < m
      · have hc1 := HC.out (T + k) A (by omega) (by omega) x0 x1
        have hr := HMO.out (T + k + A)
        obtain ⟨d0, d1⟩ := opn_bd (b := bl) HO.out (q := ((T + k + A) % (m : Int)).toNat) (by rw [HMM.out]; exact hr)
        obtain ⟨d, hd⟩ : ∃ d : Nat, chanB Z bl n (T + k) A = (d : Int) := ⟨(chanB Z bl n (T + k) A).toNat, by rw [hc1]; omega⟩
        have hd32 : d < 32 := by rw [← hc1, hd] at d1; omega
        have hocc : occ (fun i => chanB Z bl n (T + i) A) k d = false := by
          rw [← Bool.not_eq_true, occ_iff]
          rintro ⟨i, hi, e⟩
          rw [← hd, hc1, HC.out (T + i) A (by omega) (by omega) x0 x1] at e
          have := opn_inj HO.out (by rw [HMM.out]; exact HMO.out _) (by rw [HMM.out]; exact HMO.out _) e
          have h1 := Int.emod_nonneg (T + i + A) (show (m : Int) ≠ 0 by omega)
          have h2 := Int.emod_nonneg (T + k + A) (show (m : Int) ≠ 0 by omega)
          exact mod_part m i k (T + A) hi hlt (by rw [show T + A + i = T + i + A by omega, show T + A + k = T + k + A by omega]; omega)
        have HV : Hid (∀ j, (if j = d then Value.int .i64 1 else sv (fun i => chanB Z bl n (T + i) A) k j) = sv (fun i => chanB Z bl n (T + i) A) (k + 1) j) := Lib.hid (by
          intro j
          unfold sv
          have e1 : occ (fun i => chanB Z bl n (T + i) A) (k + 1) j = (occ (fun i => chanB Z bl n (T + i) A) k j || decide (chanB Z bl n (T + k) A = (j : Int))) := rfl
          rw [e1, hd]
          by_cases hj : j = d
          · subst hj; simp
          · rw [if_neg hj, show decide ((d : Int) = (j : Int)) = false by simp; omega, Bool.or_false])
        have HW : Hid (m < n → blk bl d = false) := Lib.hid (fun h => by
          have := opn_white (Z := Z) (b := bl) (n := n) (q := ((T + k + A) % (m : Int)).toNat) (by rw [HMM.out]; exact h) (by rw [HMM.out]; exact hr)
          rw [← hc1, hd] at this
          exact this)
        have HD := Lib.hid hd
        go_wp2_with fail
        refine (channel_any a n c Z bl (T + k) A _ hn hm zr hbl).mono ?_
        rintro r w4 ⟨rfl, b4⟩
        rw [HD.out]
        have k4 := below_blk b4 kk kk.lt
        have z4 := zr.below b4
        have bb4 := bb.trans (b4.mono bb.size)
        have xd : w4.cell? ⟨g, d, none⟩ = some (.int .i64 0) := by
          rw [k4.cell hd32]
          unfold sv
          rw [hocc]
          rfl
        have f1 : w4.frozen? ⟨g, d, none⟩ = false := k4.free d
        have q1 : decide (31 < (d : Int)) = false := by simp; omega
        have q2 : (d : Int) < 32 := by omega
        have q3 : IntKind.u64.wrap (d : Int) = d := by rw [IntKind.wrap_u64]; omega
        have e1 := shr32 hbl (d : Int)
        rw [Int.toNat_natCast] at e1
        clear hocc hc1 hr d0 d1 hd
        by_cases hmn : m < n
        · have hbk := HW.out hmn
          unfold blk at hbk
          rw [Int.toNat_natCast] at hbk
          rw [hbk] at e1
          simp only [Bool.false_eq_true, if_false] at e1
          clear hbk
          have hmn2 : decide (m < n) = true := by simp; exact hmn
          go_wp2_with fail
          exact ⟨⟨k + 1, by go_num, by omega, (k4.put d _).ext (fun j _ => HV.out j), (Just.set g w4 d _).below bb4 hgw (Nat.le_trans hgw (Nat.le_of_lt k4.lt))⟩, by simp [intOf]; omega⟩
        · have hmn2 : decide (m < n) = false := by simp; omega
          clear e1 hmn
          go_wp2_with fail
          exact ⟨⟨k + 1, by go_num, by omega, (k4.put d _).ext (fun j _ => HV.out j), (Just.set g w4 d _).below bb4 hgw (Nat.le_trans hgw (Nat.le_of_lt k4.lt))⟩, by simp [intOf]; omega⟩
      · obtain rfl : k = m := by omega
        clear hlt kk
        have hE : Hid (chanB Z bl n (T + k) A = chanB Z bl n T A) := Lib.hid (by
          rw [HC.out T A (by omega) (by omega) x0 x1, HC.out (T + k) A (by omega) (by omega) x0 x1, show T + (k : Int) + A = T + A + k by omega, Int.add_emod_right])
        go_wp2_with fail
        refine (channel_any a n c Z bl (T + k) A _ hn hm zr hbl).mono ?_
        rintro r w4 ⟨rfl, b4⟩
        rw [hE.out, HCA.out]
        have z4 := zr.below b4
        have bb4 := bb.trans (b4.mono bb.size)
        go_wp2_with fail
        refine (channel_any a n c Z bl T A _ hn hm z4 hbl).mono ?_
        rintro r w5 ⟨rfl, b5⟩
        rw [HCA.out]
        have bb5 := bb4.trans (b5.mono bb4.size)
        go_wp2_with fail
        refine (awake_any _).mono ?_
        rintro r w9 ⟨rfl, b9⟩
        go_wp2_with fail
        go_ret
        exact ⟨rfl, bb5.trans (b9.mono bb5.size)⟩

theorem walk (H : Type) (enc : TypeId × Value → H) : Walk H enc Try.prog 4 Try.f4 := by
  intro W base args ds p hval hA
  rw [Try.params4] at hA hval
  obtain ⟨v0, vs, d0, ds', p0, q0, e0, rfl, rfl, h0, hA⟩ := trodAll_cons hA
  obtain ⟨v1, vs1, d1, ds1, p1, q1, rfl, rfl, rfl, h1, hA⟩ := trodAll_cons hA
  obtain ⟨v2, vs2, d2, ds2, p2, q2, rfl, rfl, rfl, h2, hA⟩ := trodAll_cons hA
  obtain ⟨v3, vs3, d3, ds3, p3, q3, rfl, rfl, rfl, h3, hA⟩ := trodAll_cons hA
  obtain ⟨v4, vs4, d4, ds4, p4, q4, rfl, rfl, rfl, h4, hA⟩ := trodAll_cons hA
  obtain ⟨rfl, rfl, rfl⟩ := trodAll_nil hA
  obtain ⟨l⟩ := args
  dsimp only at e0
  subst e0
  obtain ⟨a, n, c, Z, rfl, hn, hm, hZ, hz⟩ := open_row_int Try.underlying22 Try.underlying3 (by kernel_rfl) (hval 0 _ v0 rfl rfl) h0
  obtain ⟨bl, rfl, rfl, rfl, w1⟩ := open_int Try.underlying23 (hval 1 _ v1 rfl rfl) h1
  obtain ⟨t, rfl, rfl, rfl, w2⟩ := open_int Try.underlying2 (hval 2 _ v2 rfl rfl) h2
  obtain ⟨x, rfl, rfl, rfl, w3⟩ := open_int Try.underlying3 (hval 3 _ v3 rfl rfl) h3
  obtain ⟨y, rfl, rfl, rfl, w4⟩ := open_int Try.underlying3 (hval 4 _ v4 rfl rfl) h4
  obtain ⟨b0, b1⟩ := u32_bd w1
  obtain ⟨bl, rfl⟩ := Int.eq_ofNat_of_zero_le b0
  exact body a n c Z bl t x y W hn hm hZ (by omega)

set_option maxRecDepth 100000 in
theorem lifted (os : Os) (started : os.Started) (H : Type) (enc : TypeId × Value → H) :
    ReturnsInHanded {} Try.checked os 4 .any (Rows.hopApartSpec.pre6 enc Try.prog Try.f4 Rows.hopApartRow.domain false) (Rows.hopApartSpec.post enc Try.prog Try.f4 false true false false) :=
  returnsInHanded_of_change (C := Try.checked) own started (by kernel_rfl) Try.func4
    (ChangeSpec.witness6 (enc := enc) (C := Try.checked) false ⟨#[], #[.slice none 0 0, .int .u32 0, .int .i64 0, .int .i64 0, .int .i64 0], []⟩ 8 (by kernel_rfl) (by kernel_rfl) (by kernel_rfl) (by kernel_rfl))
    fun W base args ds gs before hval hW _ _ => step_of_walk laidOut (by rw [Try.params4]; exact of_decide_eq_true (by kernel_rfl)) (by kernel_rfl) Try.underlying4 rfl
      (fun ds h => by
        rw [Try.params4] at h
        match ds, h with
        | [_, _, _, _, _], _ => rfl) (walk H enc) W base args ds gs before hval hW

theorem holds : Rows.HopApartSaid :=
  OpenClaim.holds_of_wide 4 Try.f4 rfl rfl rfl rfl rfl rfl rfl ⟨rfl, rfl, rfl, rfl, rfl⟩ rfl rfl rfl rfl rfl (by kernel_rfl) Try.func4 (by kernel_rfl)
    (of_decide_eq_true (by kernel_rfl)) (by unfold Func.isWrapper; first | (rw [if_pos (by decide +kernel)]; kernel_rfl) | (rw [if_neg (by decide +kernel)]; exact ⟨rfl, rfl⟩))
    (fun os started H enc _ => lifted os started H enc)
#print axioms holds
end Go.Proofs.Ytfcnjoobigogcaa.HopApart
