/-
  Law TopoNewer: a report takes the place of the elder one of that node, and of no other one's; one that is refused changes nothing; the call returns true. No condition.
-/
import Derived.Test.YtcgnfngbljlgeaaTopoMore
import Derived.Deep.RegionHeld3
import Derived.Test.YtcgnfngbljlgeaaOwnK
set_option maxRecDepth 100000
namespace Go.Proofs.Ytcgnfngbljlgeaa.TopoNewer
set_option linter.unusedVariables false
open Go.RowKit Go.ChangeShapes Go.WideShapes Go.ChangeAt Go.Deep Lb Tp
set_option linter.unusedVariables false
theorem own : ownKnob Try.prog.godebug = none := by kernel_rfl
theorem laidOut : laidOutB Try.prog = true := by kernel_rfl

theorem infoL : (Try.prog.info? 50).map (fun i => (i.zero, i.size, i.bytes)) = some (some (.agg #[.int .i64 0, .int .i64 0, .int .i64 0]), 3, 24) := by kernel_rfl
/-- The links that node n tells of all others. -/
def Ln (n : Nat) (j : Nat) : Lk := ⟨n, ((if j < n then j else j + 1 : Nat) : Int), 200⟩
def ll (n k : Nat) : Nat := if k ≤ n then k else k - 1
/-- Each of the first n tells of all others. -/
def Qn (N n : Nat) (i j : Nat) : Int := if i < n ∧ j < N ∧ i ≠ j then 200 else 0
theorem row_ln (n : Nat) : ∀ m j, rowR (Ln n) m j = if (j < n ∧ j < m) ∨ (n < j ∧ j < m + 1) then 200 else 0
  | 0, j => by
    unfold rowR
    rw [if_neg (by omega)]
  | m + 1, j => by
    unfold rowR
    rw [row_ln n m j]
    have e : (Ln n m).b.toNat = if m < n then m else m + 1 := by unfold Ln; simp
    rw [e]
    have e2 : (Ln n m).q = 200 := rfl
    rw [e2]
    by_cases hm : m < n
    · rw [if_pos hm]
      by_cases hj : j = m
      · rw [if_pos hj, if_pos (by omega)]
      · rw [if_neg hj]
        by_cases h : (j < n ∧ j < m) ∨ (n < j ∧ j < m + 1)
        · rw [if_pos h, if_pos (by omega)]
        · rw [if_neg h, if_neg (by omega)]
    · rw [if_neg hm]
      by_cases hj : j = m + 1
      · rw [if_pos hj, if_pos (by omega)]
      · rw [if_neg hj]
        by_cases h : (j < n ∧ j < m) ∨ (n < j ∧ j < m + 1)
        · rw [if_pos h, if_pos (by omega)]
        · rw [if_neg h, if_neg (by omega)]
theorem seen_ln (n : Nat) : ∀ m j, seenR (Ln n) m j = decide ((j < n ∧ j < m) ∨ (n < j ∧ j < m + 1))
  | 0, j => by
    unfold seenR
    symm
    rw [decide_eq_false_iff_not]
    omega
  | m + 1, j => by
    unfold seenR
    rw [seen_ln n m j]
    have e : (Ln n m).b.toNat = if m < n then m else m + 1 := by unfold Ln; simp
    rw [e]
    by_cases hm : m < n
    · rw [if_pos hm]
      by_cases hj : j = m
      · rw [if_pos hj]; symm; rw [decide_eq_true_eq]; omega
      · rw [if_neg hj]; congr 1; apply propext; omega
    · rw [if_neg hm]
      by_cases hj : j = m + 1
      · rw [if_pos hj]; symm; rw [decide_eq_true_eq]; omega
      · rw [if_neg hj]; congr 1; apply propext; omega
theorem ok_ln {N n : Nat} (hn : n < N) : ∀ m, m + 1 ≤ N → okR N n (Ln n) m = true
  | 0, _ => rfl
  | m + 1, h => by
    unfold okR
    rw [ok_ln hn m (by omega), Bool.true_and]
    unfold good1
    have e : (Ln n m).b.toNat = if m < n then m else m + 1 := by unfold Ln; simp
    have eb : (Ln n m).b = ((if m < n then m else m + 1 : Nat) : Int) := rfl
    rw [e, seen_ln]
    have h1 : ((Ln n m).a == (n : Int)) = true := by unfold Ln; simp
    have h2 : ((Ln n m).b != (n : Int)) = true := by
      rw [eb]; simp only [bne_iff_ne]; split <;> omega
    have h3 : hasB N (Ln n m).b = true := by
      rw [eb, hasB_iff]; split <;> omega
    have h4 : decide (0 ≤ (Ln n m).q ∧ (Ln n m).q ≤ 255) = true := by
      show decide ((0 : Int) ≤ 200 ∧ (200 : Int) ≤ 255) = true
      decide
    have h5 : decide (((if m < n then m else m + 1) < n ∧ (if m < n then m else m + 1) < m) ∨ (n < (if m < n then m else m + 1) ∧ (if m < n then m else m + 1) < m + 1)) = false := by
      rw [decide_eq_false_iff_not]; split <;> omega
    rw [h1, h2, h3, h4, h5]
    rfl
theorem rep_ln {N n : Nat} (hn : n < N) (hN : N ≤ 16) : repN N n (Ln n) (N - 1) = 0 ∧ ∀ i j, j < 16 → repTo N (Qn N n) n (Ln n) (N - 1) i j = Qn N (n + 1) i j := by
  have hb : repB N n (Ln n) (N - 1) = true := by
    unfold repB
    rw [ok_ln hn (N - 1) (by omega), decide_eq_true (by omega), (hasB_iff (N := N) (x := n)).2 (by omega)]
    rfl
  obtain ⟨e1, e2⟩ := rep_yes (Q := Qn N n) hb
  refine ⟨e1, fun i j hj => ?_⟩
  rw [e2]
  dsimp only
  rw [row_ln]
  unfold Qn
  by_cases hi : i = n
  · rw [if_pos hi]
    by_cases h : (j < n ∧ j < N - 1) ∨ (n < j ∧ j < N - 1 + 1)
    · rw [if_pos h, if_pos (by omega)]
    · rw [if_neg h, if_neg (by omega)]
  · rw [if_neg hi]
    by_cases h : i < n ∧ j < N ∧ i ≠ j
    · rw [if_pos h, if_pos (by omega)]
    · rw [if_neg h, if_neg (by omega)]
/-- One link, twice the same, and another one's. -/
def L1 (m a : Nat) (q : Int) (_ : Nat) : Lk := ⟨m, a, q⟩
theorem rep_one {N m a : Nat} {q : Int} (hm : m < N) (ha : a < N) (hma : m ≠ a) (h0 : 0 ≤ q) (h1 : q ≤ 255) : repB N m (L1 m a q) 1 = true := by
  unfold repB okR okR good1 seenR
  have e1 : (((L1 m a q 0).a) == (m : Int)) = true := by unfold L1; simp
  have e2 : (((L1 m a q 0).b) != (m : Int)) = true := by unfold L1; simp; omega
  have e3 : hasB N (L1 m a q 0).b = true := by rw [hasB_iff]; unfold L1; simp; omega
  have e4 : decide (0 ≤ (L1 m a q 0).q ∧ (L1 m a q 0).q ≤ 255) = true := by unfold L1; simp; omega
  rw [e1, e2, e3, e4, (hasB_iff (N := N) (x := m)).2 (by omega)]
  rfl
theorem rep_two {N m a : Nat} {q : Int} : repB N m (L1 m a q) 2 = false := by
  have : okR N m (L1 m a q) 2 = false := by
    refine okR_false (k := 1) ?_ (by omega)
    unfold good1
    have : seenR (L1 m a q) 1 (L1 m a q 1).b.toNat = true := by unfold seenR L1; simp
    rw [this]
    simp
  unfold repB
  rw [this, Bool.and_false]
theorem rep_other {N m a : Nat} {q : Int} (hma : m ≠ a) : repB N m (L1 a m q) 1 = false := by
  have : okR N m (L1 a m q) 1 = false := by
    refine okR_false (k := 0) ?_ (by omega)
    unfold good1
    have : ((L1 a m q 0).a == (m : Int)) = false := by unfold L1; simp; omega
    rw [this]
    simp
  unfold repB
  rw [this, Bool.and_false]
theorem row_one (m a : Nat) (q : Int) (j : Nat) : rowR (L1 m a q) 1 j = if j = a then q else 0 := by
  unfold rowR rowR L1
  simp
theorem lv_one (L : Nat → Lk) (i : Nat) : (lv L i).oneCell' = true := by
  unfold lv
  rcases (show i % 3 = 0 ∨ i % 3 = 1 ∨ i % 3 = 2 by omega) with h | h | h <;> rw [h] <;> rfl
theorem nr_single {N : Nat} {Q : Nat → Nat → Int} {m y : Int} {a : Nat} (h : ∀ k, k < N → ((0 < qual N Q m k ∧ y ≤ qual N Q m k) ↔ k = a)) : ∀ n, n ≤ N → (nr N Q m y n).length = if a < n then 1 else 0
  | 0, _ => by simp [nr]
  | n + 1, hn => by
    have ih := nr_single h n (by omega)
    by_cases e : n = a
    · rw [nr_yes ((h n (by omega)).2 e), List.length_append, ih, if_neg (by omega), if_pos (by omega)]
      rfl
    · rw [nr_not (fun h' => e ((h n (by omega)).1 h')), ih]
      by_cases h1 : a < n
      · rw [if_pos h1, if_pos (by omega)]
      · rw [if_neg h1, if_neg (by omega)]

set_option maxHeartbeats 8000000 in
theorem body (x m a b q : Int) (w : World) :
    Calls Try.prog 6 #[.int .i64 x, .int .i64 m, .int .i64 a, .int .i64 b, .int .i64 q] w fun r w' => r = .returned (.bool true) ∧ Below w.heap.size w w' := by
  have ux := u64_pos x
  have um := u64_pos m
  have ua := u64_pos a
  have ub := u64_pos b
  have uq := u64_pos q
  go_enter Try.func6, Try.ntmps6
  go_wp2_with fail
  have hp : 3 ≤ 3 + IntKind.u64.wrap x % 14 ∧ 3 + IntKind.u64.wrap x % 14 ≤ 16 := by omega
  generalize 3 + IntKind.u64.wrap x % 14 = P at *
  obtain ⟨N, rfl⟩ := Int.eq_ofNat_of_zero_le (show 0 ≤ P by omega)
  have hN3 : 3 ≤ N := by omega
  have hN : N ≤ 16 := by omega
  have hw : IntKind.u64.wrap (N : Int) = (N : Int) := by
    simp only [IntKind.wrap, IntKind.signed, IntKind.bits]
    simp
    omega
  have e1 : (1 : Int) ≤ (N : Int) := by omega
  clear hp ux
  go_quiet (fail)
  generalize hwd : w.drewN _ = wd at *
  have b0 : Below w.heap.size w wd := by rw [← hwd]; exact below_drewN (Below.refl _ _) _
  clear hwd
  have hmod : ∀ z : Int, 0 ≤ IntKind.u64.wrap z → 0 ≤ wrap64 (IntKind.u64.wrap z % (N : Int)) ∧ wrap64 (IntKind.u64.wrap z % (N : Int)) < (N : Int) := fun z hz => by
    have m1 := Int.emod_nonneg (IntKind.u64.wrap z) (by omega : (N : Int) ≠ 0)
    have m2 := Int.emod_lt_of_pos (IntKind.u64.wrap z) (by omega : (0 : Int) < (N : Int))
    have m3 : wrap64 (IntKind.u64.wrap z % (N : Int)) = IntKind.u64.wrap z % (N : Int) := by unfold wrap64; omega
    rw [m3]
    exact ⟨m1, m2⟩
  have m0 := hmod m um
  have a0 := hmod a ua
  have bb0 := hmod b ub
  generalize wrap64 (IntKind.u64.wrap m % (N : Int)) = M0 at *
  generalize wrap64 (IntKind.u64.wrap a % (N : Int)) = A0 at *
  generalize wrap64 (IntKind.u64.wrap b % (N : Int)) = B0 at *
  obtain ⟨M, rfl⟩ := Int.eq_ofNat_of_zero_le m0.1
  obtain ⟨A, rfl⟩ := Int.eq_ofNat_of_zero_le a0.1
  obtain ⟨B, rfl⟩ := Int.eq_ofNat_of_zero_le bb0.1
  have hM : M < N := by omega
  have hA : A < N := by omega
  have hB : B < N := by omega
  have q0 : 1 ≤ 1 + IntKind.u64.wrap q % 255 ∧ 1 + IntKind.u64.wrap q % 255 ≤ 255 := by omega
  have hs : wd.heap.size ≥ w.heap.size := b0.size
  clear m0 a0 bb0 hmod um ua ub hw
  by_cases hdist : M ≠ A ∧ M ≠ B ∧ A ≠ B
  · obtain ⟨hMA, hMB, hAB⟩ := hdist
    have f1 : ((M : Int) == (A : Int)) = false := by simp; omega
    have f2 : ((M : Int) == (B : Int)) = false := by simp; omega
    have f3 : ((A : Int) == (B : Int)) = false := by simp; omega
    go_wp2_with fail
    generalize 1 + IntKind.u64.wrap q % 255 = v at *
    clear uq f1 f2 f3
    have hNN : (min (max (N : Int) 1) 16).toNat = N := by omega
    refine (new_any N _).mono ?_
    rintro r w1 ⟨rfl, h1, b1, s1⟩
    rw [hNN] at h1
    have h1 : Gr w1 wd.heap.size 55 N (Qn N 0) := h1.ext fun i j _ _ => by unfold Qn; rw [if_neg (by omega)]
    have bq := b0.trans (b1.mono hs)
    clear hNN b0 b1
    generalize wd.heap.size = g at *
    have hgw : w.heap.size ≤ g := hs
    obtain ⟨i0, hi0, hz0, hz1, hz2⟩ := info_parts infoL
    go_wp2_with fail
    go_loopw [60] (fun i wr => ∃ n : Nat, i = .int .i64 n ∧ n ≤ N ∧ Gr wr g 55 N (Qn N n) ∧ Below w.heap.size w wr) (fun i _ => N - (intOf i).toNat)
    case atStart => exact ⟨0, rfl, by omega, h1, bq⟩
    case round =>
      clear h1 bq s1
      obtain ⟨n, rfl, hn, h1, b1⟩ := hrel
      by_cases hnt : n < N
      · have hgl := h1.lt
        go_wp2_with fail
        go_loopw [13, 64] (fun u i wr => ∃ k : Nat, i = .int .i64 k ∧ k ≤ N ∧ MineK wr (g + 1) 50 3 u (ll n k) (lv (Ln n)) ∧ Gr wr g 55 N (Qn N n) ∧ Below w.heap.size w wr) (fun _ i _ => N - (intOf i).toNat)
        case atStart => exact ⟨0, rfl, by omega, (by unfold ll; rw [if_pos (Nat.zero_le _)]; exact MineK.nil _ _ _ _ _), h1, b1⟩
        case round =>
          clear h1 b1
          obtain ⟨k, rfl, hk, hv, h1, b1⟩ := hrel
          have hgl := h1.lt
          by_cases hkt : k < N
          · by_cases hkn : k = n
            · have f1 : ((k : Int) != (n : Int)) = false := by simp; omega
              have e : ll n (k + 1) = ll n k := by unfold ll; rw [if_neg (by omega), if_pos (by omega)]; omega
              rw [← e] at hv
              have HV := Lib.hid hv
              clear hkn hv e
              go_wp2_with fail
              exact ⟨⟨k + 1, by simp [intOf], by omega, HV.out, h1, b1⟩, by simp [intOf]; omega⟩
            · have f1 : ((k : Int) != (n : Int)) = true := by simp; omega
              have el : ll n (k + 1) = ll n k + 1 := by unfold ll; split <;> split <;> omega
              have ev : ∀ i, i < (ll n k + 1) * 3 → (if i < ll n k * 3 then lv (Ln n) i else lv (fun _ => ⟨n, k, 200⟩) (i - ll n k * 3)) = lv (Ln n) i := fun i hi => by
                by_cases h : i < ll n k * 3
                · rw [if_pos h]
                · rw [if_neg h]
                  have e1 : i / 3 = ll n k := by omega
                  have e2 : Ln n (ll n k) = ⟨n, k, 200⟩ := by
                    have : (if ll n k < n then ll n k else ll n k + 1) = k := by unfold ll; split <;> split <;> omega
                    unfold Ln
                    rw [this]
                  unfold lv
                  rw [e1, e2, show (i - ll n k * 3) % 3 = i % 3 by omega]
              have hl17 : ll n k ≤ 16 := by unfold ll; split <;> omega
              have hm : ll n k + 1 ≤ maxLen := by unfold maxLen; omega
              have Hm := Lib.hid hm
              have EV := Lib.hid ev
              have EL := Lib.hid el
              clear hkn hm ev el
              go_wp2_with (at_builtin; go_must (refine wp_appK rfl (.tmp 70) (.tmp 74) _ rfl (g + 1) 50 i0 _ 3 24 Try.underlying39 hi0 hz0 hz1 hz2 rfl (by decide) _ (ll n k) (lv (Ln n)) rfl (hv.alloc _) _ 1 _ (lv (fun _ => ⟨n, k, 200⟩)) rfl (row_new _ _ _ _ (fun i hi => by rcases (show i = 0 ∨ i = 1 ∨ i = 2 by omega) with rfl | rfl | rfl <;> rfl)) (fun i _ => lv_one _ i) Hm.out ?c2 ?c3 ?_))
              case c2 => omega
              case c3 => simp; omega
              intro v' w2 hv2 hg2 _
              have b2 : Below w.heap.size w w2 := (b1.alloc b1.size _).grown hg2 (by have := b1.size; simp; omega) (fun q hq => by have := (hv.lt q hq).1; omega)
              have hh2 := grown_own hg2 (Own.alloc h1 _) (by
                intro e
                have := (hv.lt _ e).1
                omega)
              have hv3 : MineK w2 (g + 1) 50 3 v' (ll n (k + 1)) (lv (Ln n)) := by
                rw [EL.out]
                exact hv2.ext EV.out
              clear hv hv2 h1
              go_wp2_with fail
              exact ⟨⟨k + 1, by simp [intOf], by omega, hv3, hh2, b2⟩, by simp [intOf]; omega⟩
          · obtain rfl : N = k := by omega
            have el : ll n N = N - 1 := by unfold ll; rw [if_neg (by omega)]
            rw [el] at hv
            obtain ⟨ra, rc, rfl, hrc, hrm, hR⟩ := hv.row
            obtain ⟨e1', e2'⟩ := rep_ln hnt hN
            have HE1 := Lib.hid e1'
            have HE2 := Lib.hid e2'
            clear e1' e2' el hv
            go_wp2_with fail
            refine (report_any g _ N (Qn N n) n ra (N - 1) rc (Ln n) _ h1 hN hrc hrm hR).mono ?_
            rintro r w5 ⟨rfl, h5, j5⟩
            rw [HE1.out]
            have h5 : Gr w5 g 55 N (Qn N (n + 1)) := h5.ext fun i j _ hj => HE2.out i j hj
            have b5 := j5.below b1 hgw b1.size
            go_wp2_with fail
            exact ⟨⟨n + 1, by simp [intOf], by omega, h5, b5⟩, by simp [intOf] <;> omega⟩
      · obtain rfl : N = n := by omega
        obtain ⟨hv0, hv1⟩ := q0
        have hQ : Hid (∀ i j : Nat, i < N → j < N → i ≠ j → Qn N N i j = 200) := Lib.hid (fun i j hi hj hij => by unfold Qn; rw [if_pos ⟨hi, hj, hij⟩])
        have hB0 : ∀ z : Nat, z < N → hasB N (z : Int) = true := fun z hz => by rw [hasB_iff]; omega
        have HT := Lib.hid (rep_no (Q := Qn N N) (rep_two (N := N) (m := M) (a := A) (q := v)))
        have HO := Lib.hid (rep_no (Q := Qn N N) (rep_other (N := N) (m := M) (a := A) (q := v) hMA))
        have HY := Lib.hid (rep_yes (Q := Qn N N) (rep_one (N := N) (m := M) (a := A) (q := v) hM hA hMA (by omega) hv1))
        have HQ1 : Hid (qual N (Qn N N) M A = 200) := Lib.hid (by
          unfold qual; rw [if_pos ⟨hB0 M hM, hB0 A hA⟩]
          simp only [Int.toNat_natCast]
          rw [hQ.out M A hM hA hMA, hQ.out A M hA hM (fun e => hMA e.symm)]
          rfl)
        obtain ⟨R, hR⟩ : ∃ R : Nat → Nat → Int, R = fun i j => if i = M then rowR (L1 M A v) 1 j else Qn N N i j := ⟨_, rfl⟩
        have hqR : ∀ z : Nat, z < N → z ≠ M → qual N R M z = if z = A then min v 200 else 0 := fun z hz hzM => by
          unfold qual; rw [if_pos ⟨hB0 M hM, hB0 z hz⟩]
          simp only [Int.toNat_natCast]
          rw [hR]
          dsimp only
          rw [if_pos rfl, if_neg hzM, row_one, hQ.out z M hz hM hzM]
          split
          · rfl
          · omega
        have hqM : qual N R M M = 0 := by
          unfold qual; rw [if_pos ⟨hB0 M hM, hB0 M hM⟩]
          simp only [Int.toNat_natCast]
          rw [hR]
          dsimp only
          rw [if_pos rfl, row_one, if_neg hMA]
          rfl
        have HR1 : Hid (qual N R M A = min v 200) := Lib.hid (by rw [hqR A hA (fun e => hMA e.symm), if_pos rfl])
        have HR2 : Hid (qual N R M B = 0) := Lib.hid (by rw [hqR B hB (fun e => hMB e.symm), if_neg (fun e => hAB e.symm)])
        have HR3 : Hid (qual N R A B = 200) := Lib.hid (by
          unfold qual; rw [if_pos ⟨hB0 A hA, hB0 B hB⟩]
          simp only [Int.toNat_natCast]
          rw [hR]
          dsimp only
          rw [if_neg (fun e => hMA e.symm), if_neg (fun e => hMB e.symm), hQ.out A B hA hB hAB, hQ.out B A hB hA (fun e => hAB e.symm)]
          rfl)
        have HNr : Hid ((near N R M 1).length = 1) := Lib.hid (by
          have := nr_single (N := N) (Q := R) (m := M) (y := 1) (a := A) (fun k hk => by
            by_cases hkM : k = M
            · subst hkM
              rw [hqM]
              constructor
              · intro h; omega
              · intro h; exact absurd h hMA
            · rw [hqR k hk hkM]
              by_cases hkA : k = A
              · rw [if_pos hkA]
                exact ⟨fun _ => hkA, fun _ => by omega⟩
              · rw [if_neg hkA]
                constructor
                · intro h; omega
                · intro h; exact absurd h hkA) N (Nat.le_refl _)
          rw [if_pos hA] at this
          exact this)
        have hRr : Hid (R = fun i j => if i = M then rowR (L1 M A v) 1 j else Qn N N i j) := Lib.hid hR
        clear hR hqR hqM hB0
        have r1 : Row (wr.alloc (.cells #[.int .i64 (M : Int), .int .i64 (A : Int), .int .i64 v, .int .i64 (M : Int), .int .i64 (A : Int), .int .i64 v] 50)) (some ⟨wr.heap.size, 0, none⟩) (2 * 3) (lv (L1 M A v)) := row_new _ _ _ _ (fun i hi => by
          rcases (show i = 0 ∨ i = 1 ∨ i = 2 ∨ i = 3 ∨ i = 4 ∨ i = 5 by omega) with rfl | rfl | rfl | rfl | rfl | rfl <;> rfl)
        have h1 : Gr (wr.alloc (.cells #[.int .i64 (M : Int), .int .i64 (A : Int), .int .i64 v, .int .i64 (M : Int), .int .i64 (A : Int), .int .i64 v] 50)) g 55 N (Qn N N) := Blk.alloc h1 _
        have b1 := b1.alloc b1.size (.cells #[.int .i64 (M : Int), .int .i64 (A : Int), .int .i64 v, .int .i64 (M : Int), .int .i64 (A : Int), .int .i64 v] 50)
        go_wp2_with fail
        refine (report_any g _ N (Qn N N) M _ 2 2 (L1 M A v) _ h1 hN (by decide) (by decide) r1).mono ?_
        rintro r w2 ⟨rfl, h2, j2⟩
        rw [HT.out.1]
        rw [HT.out.2] at h2
        have b2 := j2.below b1 hgw b1.size
        clear h1 r1 b1
        have r2 : Row (w2.alloc (.cells #[.int .i64 (A : Int), .int .i64 (M : Int), .int .i64 v] 50)) (some ⟨w2.heap.size, 0, none⟩) (1 * 3) (lv (L1 A M v)) := row_new _ _ _ _ (fun i hi => by
          rcases (show i = 0 ∨ i = 1 ∨ i = 2 by omega) with rfl | rfl | rfl <;> rfl)
        have h2 : Gr (w2.alloc (.cells #[.int .i64 (A : Int), .int .i64 (M : Int), .int .i64 v] 50)) g 55 N (Qn N N) := Blk.alloc h2 _
        have b2 := b2.alloc b2.size (.cells #[.int .i64 (A : Int), .int .i64 (M : Int), .int .i64 v] 50)
        go_wp2_with fail
        refine (report_any g _ N (Qn N N) M _ 1 1 (L1 A M v) _ h2 hN (by decide) (by decide) r2).mono ?_
        rintro r w3 ⟨rfl, h3, j3⟩
        rw [HO.out.1]
        rw [HO.out.2] at h3
        have b3 := j3.below b2 hgw b2.size
        clear h2 r2 b2
        go_wp2_with fail
        refine (quality_any g _ N (Qn N N) M A _ h3 hN).mono ?_
        rintro r w' ⟨rfl, mm, rfl⟩
        rw [HQ1.out]
        have h3 := Blk.drewN h3 mm
        have b3 := below_drewN b3 mm
        generalize w3.drewN mm = w4 at *
        have r3 : Row (w4.alloc (.cells #[.int .i64 (M : Int), .int .i64 (A : Int), .int .i64 v] 50)) (some ⟨w4.heap.size, 0, none⟩) (1 * 3) (lv (L1 M A v)) := row_new _ _ _ _ (fun i hi => by
          rcases (show i = 0 ∨ i = 1 ∨ i = 2 by omega) with rfl | rfl | rfl <;> rfl)
        have h3 : Gr (w4.alloc (.cells #[.int .i64 (M : Int), .int .i64 (A : Int), .int .i64 v] 50)) g 55 N (Qn N N) := Blk.alloc h3 _
        have b3 := b3.alloc b3.size (.cells #[.int .i64 (M : Int), .int .i64 (A : Int), .int .i64 v] 50)
        go_wp2_with fail
        refine (report_any g _ N (Qn N N) M _ 1 1 (L1 M A v) _ h3 hN (by decide) (by decide) r3).mono ?_
        rintro r w5 ⟨rfl, h5, j5⟩
        rw [HY.out.1]
        rw [HY.out.2, ← hRr.out] at h5
        have b5 := j5.below b3 hgw b3.size
        clear h3 r3 b3
        go_wp2_with fail
        refine (quality_any g _ N R M A _ h5 hN).mono ?_
        rintro r w' ⟨rfl, m6, rfl⟩
        rw [HR1.out]
        have h5 := Blk.drewN h5 m6
        have b5 := below_drewN b5 m6
        generalize w5.drewN m6 = w6 at *
        go_wp2_with fail
        refine (quality_any g _ N R M B _ h5 hN).mono ?_
        rintro r w' ⟨rfl, m7, rfl⟩
        rw [HR2.out]
        have h5 := Blk.drewN h5 m7
        have b5 := below_drewN b5 m7
        generalize w6.drewN m7 = w7 at *
        go_wp2_with fail
        refine (quality_any g _ N R A B _ h5 hN).mono ?_
        rintro r w' ⟨rfl, m8, rfl⟩
        rw [HR3.out]
        have h5 := Blk.drewN h5 m8
        have b5 := below_drewN b5 m8
        generalize w7.drewN m8 = w8 at *
        go_wp2_with fail
        refine (near_any g _ N R M 1 _ h5 hN).mono ?_
        rintro r w9 ⟨v9, rfl, hv9, b9⟩
        rw [HNr.out] at hv9
        obtain ⟨a9, c9, rfl, _, _, _⟩ := hv9.row
        have b9 := b5.trans (b9.mono b5.size)
        clear hv9
        go_wp2_with fail
        refine (awake_any _).mono ?_
        rintro r w10 ⟨rfl, b10⟩
        have bb := b9.trans (b10.mono b9.size)
        go_wp2_with fail
        go_ret
        exact ⟨rfl, bb⟩
  · rcases (show M = A ∨ (M ≠ A ∧ M = B) ∨ (M ≠ A ∧ M ≠ B ∧ A = B) by omega) with rfl | ⟨h1, rfl⟩ | ⟨h1, h2, rfl⟩
    · go_wp2_with fail
      refine (awake_any _).mono ?_
      rintro r w9 ⟨rfl, b9⟩
      have bb := b0.trans (b9.mono b0.size)
      go_wp2_with fail
      go_ret
      exact ⟨rfl, bb⟩
    · have f1 : ((M : Int) == (A : Int)) = false := by simp; omega
      go_wp2_with fail
      refine (awake_any _).mono ?_
      rintro r w9 ⟨rfl, b9⟩
      have bb := b0.trans (b9.mono b0.size)
      go_wp2_with fail
      go_ret
      exact ⟨rfl, bb⟩
    · have f1 : ((M : Int) == (A : Int)) = false := by simp; omega
      go_wp2_with fail
      refine (awake_any _).mono ?_
      rintro r w9 ⟨rfl, b9⟩
      have bb := b0.trans (b9.mono b0.size)
      go_wp2_with fail
      go_ret
      exact ⟨rfl, bb⟩

theorem walk (H : Type) (enc : TypeId × Value → H) : Walk H enc Try.prog 6 Try.f6 := by
  intro W base args ds p hval hA
  rw [Try.params6] at hA hval
  obtain ⟨v0, vs, d0, ds', p0, q0, e0, rfl, rfl, h0, hA⟩ := trodAll_cons hA
  obtain ⟨v1, vs1, d1, ds1, p1, q1, rfl, rfl, rfl, h1, hA⟩ := trodAll_cons hA
  obtain ⟨v2, vs2, d2, ds2, p2, q2, rfl, rfl, rfl, h2, hA⟩ := trodAll_cons hA
  obtain ⟨v3, vs3, d3, ds3, p3, q3, rfl, rfl, rfl, h3, hA⟩ := trodAll_cons hA
  obtain ⟨v4, vs4, d4, ds4, p4, q4, rfl, rfl, rfl, h4, hA⟩ := trodAll_cons hA
  obtain ⟨rfl, rfl, rfl⟩ := trodAll_nil hA
  obtain ⟨l⟩ := args
  dsimp only at e0
  subst e0
  obtain ⟨x, rfl, rfl, rfl, _⟩ := open_int Try.underlying3 (hval 0 _ v0 rfl rfl) h0
  obtain ⟨m, rfl, rfl, rfl, _⟩ := open_int Try.underlying3 (hval 1 _ v1 rfl rfl) h1
  obtain ⟨a, rfl, rfl, rfl, _⟩ := open_int Try.underlying3 (hval 2 _ v2 rfl rfl) h2
  obtain ⟨b, rfl, rfl, rfl, _⟩ := open_int Try.underlying3 (hval 3 _ v3 rfl rfl) h3
  obtain ⟨q, rfl, rfl, rfl, _⟩ := open_int Try.underlying3 (hval 4 _ v4 rfl rfl) h4
  exact body x m a b q W

set_option maxRecDepth 100000 in
theorem lifted (os : Os) (started : os.Started) (H : Type) (enc : TypeId × Value → H) :
    ReturnsInHanded {} Try.checked os 6 .any (Rows.topoNewerSpec.pre6 enc Try.prog Try.f6 Rows.topoNewerRow.domain false) (Rows.topoNewerSpec.post enc Try.prog Try.f6 false true false false) :=
  returnsInHanded_of_change (C := Try.checked) own started (by kernel_rfl) Try.func6
    (ChangeSpec.witness6 (enc := enc) (C := Try.checked) false ⟨#[], #[.int .i64 0, .int .i64 0, .int .i64 0, .int .i64 0, .int .i64 0], []⟩ 8 (by kernel_rfl) (by kernel_rfl) (by kernel_rfl) (by kernel_rfl))
    fun W base args ds gs before hval hW _ _ => step_of_walk laidOut (by rw [Try.params6]; exact of_decide_eq_true (by kernel_rfl)) (by kernel_rfl) Try.underlying4 rfl
      (fun ds h => by
        rw [Try.params6] at h
        match ds, h with
        | [_, _, _, _, _], _ => rfl) (walk H enc) W base args ds gs before hval hW

theorem holds : Rows.TopoNewerSaid :=
  OpenClaim.holds_of_wide 6 Try.f6 rfl rfl rfl rfl rfl rfl rfl ⟨rfl, rfl, rfl, rfl, rfl⟩ rfl rfl rfl rfl rfl (by kernel_rfl) Try.func6 (by kernel_rfl)
    (of_decide_eq_true (by kernel_rfl)) (by unfold Func.isWrapper; first | (rw [if_pos (by decide +kernel)]; kernel_rfl) | (rw [if_neg (by decide +kernel)]; exact ⟨rfl, rfl⟩))
    (fun os started H enc _ => lifted os started H enc)
#print axioms holds
end Go.Proofs.Ytcgnfngbljlgeaa.TopoNewer
