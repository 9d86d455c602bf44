/-
  Package frame (chapter 7): Decode: the frame that bytes are.
-/
import Derived.Test.YtiflmdekcjbmbaaGreatGNodeNil30
set_option maxRecDepth 100000
namespace Go.Proofs.YtiflmdekcjbmbaaGreat.Fm
set_option linter.unusedVariables false
set_option linter.unusedSimpArgs false
open Go.RowKit Lb Bf Ie

def zF : Fp := ⟨0, 0, 0, 0, [], none, 0, [], none, 0⟩
theorem zF_at (w : World) : zF.At w := ⟨⟨Nat.le_refl _, Nat.zero_le _, Row.nil _ _ _, fun k hk => by cases hk⟩, Nat.le_refl _, Nat.zero_le _, Row.nil _ _ _, okD_nil⟩
theorem builtF : Tryz.prog.built 37 [] = some #[.int .i64 0, .int .i64 0, .int .i64 0, .int .i64 0, .slice none 0 0, .slice none 0 0] := by kernel_rfl
theorem cells6 (a b c d : Int) (p q : Option Addr) {n m k l : Nat} : (#[.int .i64 a, .int .i64 b, .int .i64 c, .int .i64 d, .slice p n m, .slice q k l] : Array Value).all (·.oneCell') = true := by
  simp [Value.oneCell']
theorem seven_of {R : List Int} (h : 7 ≤ R.length) : ∃ m k s d q ne R6, R = m :: k :: s :: d :: q :: ne :: R6 := by
  match R, h with
  | m :: k :: s :: d :: q :: ne :: R6, _ => exact ⟨m, k, s, d, q, ne, R6, rfl⟩
theorem okD_tail {x : Int} {l : List Int} (h : okD' (x :: l)) : okD' l := fun y hy => h y (List.mem_cons_of_mem _ hy)
theorem decN_errs : ∀ (n : Nat) (L : List Int) {e : Int}, decN n L = .error e → e = 2 ∨ e = 3 := by
  intro n
  induction n with
  | zero => intro L e h; cases h
  | succ n ih =>
    intro L e h
    rw [decN] at h
    cases h1 : dec1 L with
    | error x =>
      rw [h1] at h
      simp only at h
      injection h with h
      subst h
      exact dec1_err h1
    | ok p =>
      obtain ⟨x, R⟩ := p
      rw [h1] at h
      simp only at h
      cases h2 : decN n R with
      | error y =>
        rw [h2] at h
        simp only at h
        injection h with h
        subst h
        exact ih R h2
      | ok p => obtain ⟨m, S⟩ := p; rw [h2] at h; cases h
theorem may_small {e : El} (h : mayE e = true) : e.list.length ≤ 1000000 := by
  obtain ⟨k, a, r, t, l⟩ := e
  rcases mayE_kind h with h1 | h1 | h1 | h1
  · have h1 : k = 1 := h1
    subst h1
    rw [may1] at h
    simp at h
    simp [h.2.2.2.2]
  · have h1 : k = 2 := h1
    subst h1
    rw [may2] at h
    simp at h
    simp [h.2.2.2.2]
  all_goals
    have h1 : k = _ := h1
    subst h1
    rw [may3 _ _ _ _ _ (by omega)] at h
    simp at h
    show l.length ≤ 1000000
    omega
theorem decI_errs {L : List Int} {e : Int} (h : decI L = .error e) : e = 2 ∨ e = 3 := by
  unfold decI at h
  match L, h with
  | [], h => injection h with h; exact .inl h.symm
  | n :: L1, h =>
    simp only at h
    split at h
    · injection h with h; exact .inr h.symm
    · cases h1 : decN n.toNat L1 with
      | error x =>
        rw [h1] at h
        simp only at h
        injection h with h
        subst h
        exact decN_errs _ _ h1
      | ok p =>
        obtain ⟨m, R⟩ := p
        rw [h1] at h
        simp only at h
        split at h
        · cases h
        · injection h with h; exact .inr h.symm
theorem els_small {L : List Int} {LL : List EP} (hd : okD' L) (h : decI L = .ok (els LL)) : ∀ j, j < LL.length → (LL.getD j ep0).e.list.length ≤ 1000000 := fun j hj => by
  have hm := (decI_back hd h).1
  unfold mayL at hm
  rw [Bool.and_eq_true, List.all_eq_true] at hm
  have h1 := hm.2 _ (List.getElem_mem (by rw [els_len]; exact hj : j < (els LL).length))
  rw [els_at hj rfl] at h1
  exact may_small h1
def DecFPost (L : List Int) (w : World) (r : Ending) (w' : World) : Prop :=
  match decF L with
  | .ok f => ∃ p : Fp, p.fr = f ∧ r = .returned (.tuple #[.agg p.vals, .int .i64 0]) ∧ p.At w' ∧ Below w.heap.size w w'
  | .error e => r = .returned (.tuple #[.agg zF.vals, .int .i64 e]) ∧ Below w.heap.size w w'
theorem Els.same {w w' : World} {L : List EP} {a : Option Addr} {c : Nat} (h : Els w L a c) (h1 : ∀ q, a = some q → w'.heap[q.block]? = w.heap[q.block]?) (h2 : ∀ k, k < L.length → ∀ q, (L.getD k ep0).a = some q → 0 < (L.getD k ep0).e.list.length → w'.heap[q.block]? = w.heap[q.block]?) : Els w' L a c :=
  ⟨h.lc, h.cm, Row.same h.row (fun p e _ => h1 p e), fun k hk => (h.els k hk).same (h2 k hk)⟩
set_option maxHeartbeats 4000000 in
theorem decF_any (a : Option Addr) (c : Nat) (L : List Int) (w : World) (hlc : L.length ≤ c) (hcm : c ≤ maxLen) (h5 : L.length ≤ 100000) (hR : Row w a L.length (bval L)) (hd : okD' L) :
    Calls Tryz.prog 142 #[.slice a L.length c] w (DecFPost L w) := by
  have o0 := Own.new w 37 #[.int .i64 0, .int .i64 0, .int .i64 0, .int .i64 0, .slice none 0 0, .slice none 0 0]
  have b0 := (Below.refl w.heap.size w).alloc (Nat.le_refl _) (.cells #[.int .i64 0, .int .i64 0, .int .i64 0, .int .i64 0, .slice none 0 0, .slice none 0 0] 37)
  have hR1 := hR.below b0
  have hsz : w.heap.size < (w.alloc (.cells #[.int .i64 0, .int .i64 0, .int .i64 0, .int .i64 0, .slice none 0 0, .slice none 0 0] 37)).heap.size := by simp
  unfold maxLen at hcm
  have HDL := Lib.hid hd
  obtain ⟨len, hlen⟩ : ∃ len, L.length = len := ⟨_, rfl⟩
  rw [hlen] at hR1 hlc h5 ⊢
  have HLEN := Lib.hid hlen
  clear hR hlen hd
  go_enter Tryz.func142, Tryz.ntmps142
  go_upto_region 1 with (fail)
  generalize w.alloc (.cells #[.int .i64 0, .int .i64 0, .int .i64 0, .int .i64 0, .slice none 0 0, .slice none 0 0] 37) = w1 at *
  by_cases h9 : len < 9
  · have HD : Hid (decF L = .error 2) := Lib.hid (by unfold decF; rw [if_pos (by rw [HLEN.out]; exact h9)])
    have g1 : decide (len < 9) = true := by simpa using h9
    have g2 : decide ((len : Int) < 9) = true := by simp; omega
    clear h9
    go_wp2_with (first | (refine wpList_build_store #[.int .i64 0, .int .i64 0, .int .i64 0, .int .i64 0, .slice none 0 0, .slice none 0 0] rfl rfl rfl rfl builtF rfl rfl o0 (by kernel_rfl) rfl (cells6 _ _ _ _ _ _) ?_))
    refine bodyPost_ret (results_row_tmp rfl _ _ w.heap.size 37 _ (0, 0) _ rfl (o0.setRow _) Tryz.underlying37 rfl (by kernel_rfl)) rfl ?_
    unfold DecFPost
    rw [HD.out]
    exact ⟨rfl, (Just.setRow _ _ _).below b0 (Nat.le_refl _) b0.size⟩
  have g1 : decide (len < 9) = false := by simpa using h9
  have g2 : decide ((len : Int) < 9) = false := by simp; omega
  have hG := Cr.good_any a len c (fn L) w1 hlc (by unfold maxLen; omega) (row_ext hR1 (fun i _ => rfl)) (fn_byte HDL.out)
  have HG := Lib.hid hG
  clear hG
  have hgl : goodL L = Cr.goodb (fn L) len := by unfold goodL; rw [HLEN.out]
  cases hgood : Cr.goodb (fn L) len
  · rw [hgood] at HG
    have HD : Hid (decF L = .error 4) := Lib.hid (by unfold decF; rw [if_neg (by rw [HLEN.out]; exact h9), if_pos (by rw [hgl]; exact hgood)])
    clear h9 hgl hgood
    go_wp2_with fail
    refine HG.out.mono ?_
    rintro r w' ⟨rfl, rfl⟩
    go_wp2_with (first | (refine wpList_build_store #[.int .i64 0, .int .i64 0, .int .i64 0, .int .i64 0, .slice none 0 0, .slice none 0 0] rfl rfl rfl rfl builtF rfl rfl o0 (by kernel_rfl) rfl (cells6 _ _ _ _ _ _) ?_))
    refine bodyPost_ret (results_row_tmp rfl _ _ w.heap.size 37 _ (0, 0) _ rfl (o0.setRow _) Tryz.underlying37 rfl (by kernel_rfl)) rfl ?_
    unfold DecFPost
    rw [HD.out]
    exact ⟨rfl, (Just.setRow _ _ _).below b0 (Nat.le_refl _) b0.size⟩
  rw [hgood] at HG
  have HD : Hid (decF L = decR (L.take (L.length - 2))) := Lib.hid (by unfold decF; rw [if_neg (by rw [HLEN.out]; exact h9), if_neg (by rw [hgl, hgood]; simp)])
  rw [HLEN.out] at HD
  obtain ⟨n2, hn2⟩ : ∃ n2 : Nat, len - 2 = n2 := ⟨_, rfl⟩
  rw [hn2] at HD
  have hn2i : (len : Int) - 2 = (n2 : Int) := by omega
  have hn2c : n2 ≤ c := by omega
  have hRl : (L.take n2).length = n2 := by rw [List.length_take, HLEN.out]; omega
  have hRo : okD' (L.take n2) := okD_take' HDL.out
  have hRr : Row w1 a (L.take n2).length (bval (L.take n2)) := by
    rw [hRl]
    exact row_ext (hR1.cut (by omega)) (fun i hi => by unfold bval; rw [tk_get hi])
  obtain ⟨m, k, s, d, q, ne, R6, hR⟩ := seven_of (R := L.take n2) (by omega)
  have hN := newb_any a c (L.take n2) w1 (by omega) hRr hRo (row_none hRr)
  rw [hRl, hR] at hN
  rw [hR] at HD hRo
  have HN := Lib.hid hN
  have HRO := Lib.hid hRo
  have hR6l : R6.length ≤ 100000 := by rw [hR] at hRl; simp at hRl; omega
  have HR6L := Lib.hid hR6l
  clear hN hRr hRl hR hn2 hgl hgood h9 hRo hR6l hR1
  go_wp2_with fail
  refine HG.out.mono ?_
  rintro r w' ⟨rfl, rfl⟩
  go_wp2_with fail
  refine HN.out.mono ?_
  rintro r w2 ⟨b, rfl, hr2', b2, hb1, hb2⟩
  have hr2 := hr2'.hold
  obtain ⟨H, hH⟩ : ∃ H, w2.heap.size = H := ⟨_, rfl⟩
  rw [hH] at hr2
  have hHle : H ≤ w2.heap.size := by omega
  have hbH : b < H := hr2.lt
  clear hr2' hH
  have z2 := below_own b2 o0 o0.lt
  have b3 := b0.trans (b2.mono b0.size)
  have hzb : w.heap.size < b := by have := o0.lt; omega
  clear HG HN g1 g2 hn2i
  go_wp2_with fail
  refine (take8_cons _ H b m (k :: s :: d :: q :: ne :: R6) w2 hr2).mono ?_
  rintro r w3 ⟨rfl, hr3, j3⟩
  have ok3 := HRO.out m (by simp)
  have z3 := j3.own z2 (by omega)
  have b4 := j3.below b3 (by omega) b3.size
  have hs3 : H ≤ w3.heap.size := Nat.le_trans hHle j3.size
  have HO4 := Lib.hid (okD_tail HRO.out)
  have HO5 := Lib.hid (okD_tail HO4.out)
  have HO6 := Lib.hid (okD_tail HO5.out)
  have HO7 := Lib.hid (okD_tail HO6.out)
  have HO8 := Lib.hid (okD_tail HO7.out)
  have HO9 := Lib.hid (okD_tail HO8.out)
  have hk0 := HO4.out k (by simp)
  have hs0 := HO5.out s (by simp)
  have hd0 := HO6.out d (by simp)
  have hq0 := HO7.out q (by simp)
  have hne0 := HO8.out ne (by simp)
  obtain ⟨mk, hmk⟩ : ∃ e, (m == 197) = e := ⟨_, rfl⟩
  clear hr2 b2 j3 z2 b3 o0 b0 hb2
  go_wp2_with fail
  refine (ftake_cons _ H b k _ w3 hr3 HO4.out).mono ?_
  rintro r w4 ⟨rfl, hr4, j4⟩
  have z4 := j4.own z3 (by omega)
  have b5 := j4.below b4 (by omega) b4.size
  have hs4 := Nat.le_trans hs3 j4.size
  clear hr3 z3 b4 j4 hs3
  go_wp2_with fail
  refine (ftake_cons _ H b s _ w4 hr4 HO5.out).mono ?_
  rintro r w5 ⟨rfl, hr5, j5⟩
  have z5 := j5.own z4 (by omega)
  have b6 := j5.below b5 (by omega) b5.size
  have hs5 := Nat.le_trans hs4 j5.size
  clear hr4 z4 b5 j5 hs4
  go_wp2_with fail
  refine (ftake_cons _ H b d _ w5 hr5 HO6.out).mono ?_
  rintro r w6 ⟨rfl, hr6, j6⟩
  have z6 := j6.own z5 (by omega)
  have b7 := j6.below b6 (by omega) b6.size
  have hs6 := Nat.le_trans hs5 j6.size
  clear hr5 z5 b6 j6 hs5
  go_wp2_with fail
  refine (ftake_cons _ H b q _ w6 hr6 HO7.out).mono ?_
  rintro r w7 ⟨rfl, hr7, j7⟩
  have z7 := j7.own z6 (by omega)
  have b8 := j7.below b7 (by omega) b7.size
  have hs7 := Nat.le_trans hs6 j7.size
  have oF := Own.new w7 37 #[.int .i64 k, .int .i64 s, .int .i64 d, .int .i64 q, .slice none 0 0, .slice none 0 0]
  have bF := (Below.refl w7.heap.size w7).alloc (Nat.le_refl _) (.cells #[.int .i64 k, .int .i64 s, .int .i64 d, .int .i64 q, .slice none 0 0, .slice none 0 0] 37)
  have z8 := below_own bF z7 z7.lt
  have b9 := b8.alloc b8.size (.cells #[.int .i64 k, .int .i64 s, .int .i64 d, .int .i64 q, .slice none 0 0, .slice none 0 0] 37)
  have hr8 := hr7.kept (bF.mono (by omega))
  have hs8 : w7.heap.size < (w7.alloc (.cells #[.int .i64 k, .int .i64 s, .int .i64 d, .int .i64 q, .slice none 0 0, .slice none 0 0] 37)).heap.size := by simp
  clear hr6 z6 b7 j7 hs6 hr7 z7 b8
  go_upto_region 8 with (fail)
  generalize w7.alloc (.cells #[.int .i64 k, .int .i64 s, .int .i64 d, .int .i64 q, .slice none 0 0, .slice none 0 0] 37) = w8 at *
  obtain ⟨gf, hgf⟩ : ∃ g, w7.heap.size = g := ⟨_, rfl⟩
  rw [hgf] at oF hs7 hs8 ⊢
  clear hgf bF
  go_wp2_with fail
  refine (ftake_cons _ H b ne R6 w8 hr8 HO8.out).mono ?_
  rintro r w9 ⟨rfl, hr9, j9⟩
  have z9 := j9.own z8 (by omega)
  have b10 := j9.below b9 (by omega) b9.size
  have o9 := j9.own oF (by omega)
  have hs9 := Nat.lt_of_lt_of_le hs8 j9.size
  obtain ⟨nn, rfl⟩ : ∃ n : Nat, ne = (n : Int) := ⟨ne.toNat, by omega⟩
  clear hr8 z8 b9 j9 hs8 oF
  go_wp2_with fail
  refine (textf_any _ H b R6 0 nn w9 hr9).mono ?_
  rintro r w10 ⟨aE, cE, rfl, hE1, hE2, RE, loE, hr10, j10⟩
  have z10 := j10.own z9 (by omega)
  have b11 := j10.below b10 (by omega) b10.size
  have o10 := j10.own o9 (by omega)
  have hs10 := Nat.lt_of_lt_of_le hs9 j10.size
  have hEo : okD' (txt R6 nn) := txt_ok HO9.out
  have hEl : (txt R6 nn).length ≤ 100000 := Nat.le_trans (txt_len _ _) HR6L.out
  have hloE : ∀ q, aE = some q → gf < q.block ∧ q.block < w10.heap.size := fun q e => by have := loE q e; omega
  clear hr9 z9 b10 o9 loE
  go_wp2_with fail
  refine (ftake_any _ H b (l1 R6 nn) (e1 R6 nn) w10 hr10 (lft_ok HO9.out)).mono ?_
  rintro r w11 ⟨rfl, hr11, j11⟩
  have z11 := j11.own z10 (by omega)
  have b12 := j11.below b11 (by omega) b11.size
  have o11 := j11.own o10 (by omega)
  have hs11 := Nat.lt_of_lt_of_le hs10 j11.size
  have RE11 := Row.just RE j11 (fun p e => by have := hloE p e; omega)
  have hx0 := get0_ok (lft_ok (n := nn) HO9.out)
  have hnd : (l1 R6 nn).getD 0 0 = ((nd R6 nn : Nat) : Int) := by unfold nd l1; omega
  rw [hnd]
  clear hr10 z10 b11 o10 RE hx0 hnd j10
  go_wp2_with fail
  refine (textf_any _ H b (l2 R6 nn) (e2 R6 nn) (nd R6 nn) w11 hr11).mono ?_
  rintro r w12 ⟨aD, cD, rfl, hD1, hD2, RD, loD, hr12, j12⟩
  have z12 := j12.own z11 (by omega)
  have b13 := j12.below b12 (by omega) b12.size
  have o12 := j12.own o11 (by omega)
  have hs12 := Nat.lt_of_lt_of_le hs11 j12.size
  have RE12 := Row.just RE11 j12 (fun p e => by have := hloE p e; omega)
  have hDo : okD' (dat R6 nn) := txt_ok (lft_ok (lft_ok HO9.out))
  have hloD : ∀ q, aD = some q → gf < q.block ∧ q.block < w12.heap.size := fun q e => by have := loD q e; omega
  have hloE : ∀ q, aE = some q → gf < q.block ∧ q.block < w12.heap.size := fun q e => by have := hloE q e; have := j11.size; have := j12.size; omega
  clear hr11 z11 b12 o11 RE11 loD j11
  obtain ⟨D, hDD⟩ : ∃ D, dat R6 nn = D := ⟨_, rfl⟩
  have hDD' : txt (l2 R6 nn) (nd R6 nn) = D := hDD
  rw [hDD'] at hD1 RD ⊢
  rw [hDD] at hDo
  obtain ⟨E, hEE⟩ : ∃ E, txt R6 nn = E := ⟨_, rfl⟩
  rw [hEE] at hE1 RE12 hEo hEl ⊢
  have HDD := Lib.hid hDD
  have HEE := Lib.hid hEE
  clear hDD hDD' hEE
  -- the data goes into the frame
  have y5 : w12.cell? ⟨gf, 5, none⟩ = some (.slice none 0 0) := o12.cell 5
  have f5 := o12.free 5
  have oG : Lb.Own (w12.setCell ⟨gf, 5, none⟩ (.slice aD D.length cD)) gf 37 #[.int .i64 k, .int .i64 s, .int .i64 d, .int .i64 q, .slice none 0 0, .slice aD D.length cD] := o12.put 5 _
  have jG := Just.set gf w12 5 (.slice aD D.length cD)
  have zG := jG.own z12 (by omega)
  have bG := jG.below b13 (by omega) b13.size
  have REG := Row.just RE12 jG (fun p e => by have := hloE p e; omega)
  have RDG := Row.just RD jG (fun p e => by have := hloD p e; omega)
  have hsG : (w12.setCell ⟨gf, 5, none⟩ (.slice aD D.length cD)).heap.size = w12.heap.size := by simp [World.setCell]
  have hrG : Rh (w12.setCell ⟨gf, 5, none⟩ (.slice aD D.length cD)) w1.heap.size H b (l3 R6 nn) (e3 R6 nn) := hr12.kept (jG.below (Below.refl H w12) (by omega) (by omega))
  clear hr12 z12 o12 b13 RE12 RD jG
  go_upto_region 10 with (fail)
  generalize w12.setCell ⟨gf, 5, none⟩ (.slice aD D.length cD) = w13 at *
  clear y5 f5
  have hend := endb_any _ b (l3 R6 nn) (e3 R6 nn) w13 hrG.rb
  have hpar := parse (n := nn) HO9.out
  obtain ⟨ev, hev⟩ : ∃ x, endE (l3 R6 nn) (e3 R6 nn) = x := ⟨_, rfl⟩
  rw [hev] at hend hpar
  have HEND := Lib.hid hend
  have HPAR := Lib.hid hpar
  clear hend hpar hev hrG
  by_cases hm : ¬ m = 197
  · have HDX := Lib.hid (decR_mark (k := k) (s := s) (d := d) (q := q) (n := nn) (R := R6) hm)
    have hmf : mk = false := by rw [← hmk]; simpa using hm
    subst hmf
    clear hm hmk
    go_wp2_with (first | (refine wpList_build_store #[.int .i64 0, .int .i64 0, .int .i64 0, .int .i64 0, .slice none 0 0, .slice none 0 0] rfl rfl rfl rfl builtF rfl rfl zG (by kernel_rfl) rfl (cells6 _ _ _ _ _ _) ?_))
    refine bodyPost_ret (results_row_tmp rfl _ _ w.heap.size 37 _ (0, 0) _ rfl (zG.setRow _) Tryz.underlying37 rfl (by kernel_rfl)) rfl ?_
    unfold DecFPost
    rw [HD.out, HDX.out]
    exact ⟨rfl, (Just.setRow _ _ _).below bG (Nat.le_refl _) bG.size⟩
  have hm : m = 197 := by omega
  have hmt : mk = true := by rw [← hmk, hm]; rfl
  subst hm hmt
  clear hmk
  by_cases hev : ¬ ev = 0
  · have HDX := Lib.hid (decR_no (m := 197) (k := k) (s := s) (d := d) (q := q) (n := nn) (R := R6) (by
      rcases HPAR.out with h | h
      · exact absurd h.1 hev
      · exact h.2))
    have g3 : (ev != 0) = true := by simpa using hev
    clear hev
    go_wp2_with fail
    refine HEND.out.mono ?_
    rintro r w14 ⟨rfl, mm, rfl⟩
    have zH := zG.drewN mm
    have bH := below_drewN bG mm
    go_wp2_with (first | (refine wpList_build_store #[.int .i64 0, .int .i64 0, .int .i64 0, .int .i64 0, .slice none 0 0, .slice none 0 0] rfl rfl rfl rfl builtF rfl rfl zH (by kernel_rfl) rfl (cells6 _ _ _ _ _ _) ?_))
    refine bodyPost_ret (results_row_tmp rfl _ _ w.heap.size 37 _ (0, 0) _ rfl (zH.setRow _) Tryz.underlying37 rfl (by kernel_rfl)) rfl ?_
    unfold DecFPost
    rw [HD.out, HDX.out]
    exact ⟨rfl, (Just.setRow _ _ _).below bH (Nat.le_refl _) bH.size⟩
  have hev0 : ev = 0 := by omega
  subst hev0
  obtain ⟨x, R8, p1, p2, p3, p4, p5⟩ : ∃ x R8, nn ≤ R6.length ∧ R6.drop nn = x :: R8 ∧ R8.length = x.toNat ∧ txt R6 nn = R6.take nn ∧ dat R6 nn = R8 := by
    rcases HPAR.out with h | h
    · exact h.2
    · exact absurd rfl h.1
  rw [HEE.out] at p4
  rw [HDD.out] at p5
  subst p5
  have P2 := Lib.hid p2
  have P3 := Lib.hid p3
  have P4 := Lib.hid p4
  clear hev HPAR p2 p3 p4
  go_wp2_with fail
  refine HEND.out.mono ?_
  rintro r w14 ⟨rfl, mm, rfl⟩
  have zH := zG.drewN mm
  have bH := below_drewN bG mm
  have oH := oG.drewN mm
  have REH := REG.drewN mm
  have RDH := RDG.drewN mm
  have hsH : w12.heap.size ≤ (w13.drewN mm).heap.size := by show w12.heap.size ≤ w13.heap.size; omega
  clear zG bG oG REG RDG HEND
  generalize w13.drewN mm = w15 at *
  have hDC := decode_any aE cE E w15 hEl REH hEo
  have HDC := Lib.hid hDC
  obtain ⟨nE, hnE⟩ : ∃ n, E.length = n := ⟨_, rfl⟩
  rw [hnE] at HDC ⊢
  clear hDC hnE REH hEo hEl hE1 hsG
  go_wp2_with fail
  refine HDC.out.mono ?_
  intro r w16 hp
  unfold DecPost at hp
  cases hI : decI E with
  | error e =>
    rw [hI] at hp
    simp only at hp
    obtain ⟨rfl, b16⟩ := hp
    have he := decI_errs hI
    have HDX := Lib.hid (decR_e (k := k) (s := s) (d := d) (q := q) p1 P2.out P3.out (by rw [← P4.out]; exact hI))
    have oI := below_own b16 oH oH.lt
    have zI := below_own b16 zH zH.lt
    have bI := bH.trans (b16.mono bH.size)
    have y4 : w16.cell? ⟨gf, 4, none⟩ = some (.slice none 0 0) := oI.cell 4
    have f4 := oI.free 4
    have jJ := Just.set gf w16 4 (.slice none 0 0)
    have zJ := jJ.own zI (by omega)
    have bJ := jJ.below bI (by omega) bI.size
    have g3 : (e != 0) = true := by simp; omega
    clear hI he HDC oI zI bI
    go_upto_region 14 with (fail)
    generalize w16.setCell ⟨gf, 4, none⟩ (.slice none 0 0) = w17 at *
    go_wp2_with (first | (refine wpList_built #[.int .i64 0, .int .i64 0, .int .i64 0, .int .i64 0, .slice none 0 0, .slice none 0 0] rfl rfl builtF ?_) | (refine wpList_store_row rfl _ _ _ rfl w.heap.size #[.int .i64 0, .int .i64 0, .int .i64 0, .int .i64 0, .slice none 0 0, .slice none 0 0] rfl rfl 37 _ zJ (by kernel_rfl) rfl (cells6 _ _ _ _ _ _) ?_))
    refine bodyPost_ret (results_row_tmp rfl _ _ w.heap.size 37 _ (0, 0) _ rfl (zJ.setRow _) Tryz.underlying37 rfl (by kernel_rfl)) rfl ?_
    unfold DecFPost
    rw [HD.out, HDX.out]
    exact ⟨rfl, (Just.setRow _ _ _).below bJ (Nat.le_refl _) bJ.size⟩
  | ok l =>
    rw [hI] at hp
    simp only at hp
    obtain ⟨LL, aL, cL, hLL, rfl, hels, hLa, hLe, b16⟩ := hp
    have oI := below_own b16 oH oH.lt
    have zI := below_own b16 zH zH.lt
    have bI := bH.trans (b16.mono bH.size)
    have RDI := RDH.below b16
    have y4 : w16.cell? ⟨gf, 4, none⟩ = some (.slice none 0 0) := oI.cell 4
    have f4 := oI.free 4
    have hg15 := oH.lt
    have jJ := Just.set gf w16 4 (.slice aL LL.length cL)
    have zJ := jJ.own zI (by omega)
    have bJ := jJ.below bI (by omega) bI.size
    have oJ : Lb.Own (w16.setCell ⟨gf, 4, none⟩ (.slice aL LL.length cL)) gf 37 #[.int .i64 k, .int .i64 s, .int .i64 d, .int .i64 q, .slice aL LL.length cL, .slice aD D.length cD] := oI.put 4 _
    have RDJ := Row.just RDI jJ (fun p e => by have := hloD p e; omega)
    have helsJ : Els (w16.setCell ⟨gf, 4, none⟩ (.slice aL LL.length cL)) LL aL cL := ⟨hels.lc, hels.cm, Row.just hels.row jJ (fun q e => by have := hLa q e; omega), fun j hj => El.At.same (hels.els j hj) (fun q e1 e2 => jJ.block _ ((hels.els j hj).lt q e1 e2) (by have := hLe j hj q e1 e2; omega))⟩
    have hIT : decI (R6.take nn) = .ok l := by rw [← P4.out]; exact hI
    have hat : (⟨k, s, d, q, LL, aL, cL, D, aD, cD⟩ : Fp).At (w16.setCell ⟨gf, 4, none⟩ (.slice aL LL.length cL)) := ⟨helsJ, hD1, hD2, RDJ, hDo⟩
    have hfr : (⟨k, s, d, q, LL, aL, cL, D, aD, cD⟩ : Fp).fr = ⟨k, s, d, q, l, D⟩ := by rw [← hLL]; rfl
    have hll : ∀ j, j < LL.length → (LL.getD j ep0).e.list.length ≤ 1000000 := els_small (okD_take' HO9.out) (by rw [hLL]; exact hIT)
    have HIT := Lib.hid hIT
    have HLA := Lib.hid hLa
    have HLE := Lib.hid hLe
    clear hI hIT HDC oI zI bI RDI hels RDJ helsJ hLa hLe oH zH bH RDH
    go_upto_region 14 with (fail)
    generalize w16.setCell ⟨gf, 4, none⟩ (.slice aL LL.length cL) = w17 at *
    clear y4 f4
    have hM := mayF_any _ w17 hat hll
    rw [hfr] at hM
    unfold Fp.vals at hM
    simp only at hM
    have HM := Lib.hid hM
    obtain ⟨nD, hnD⟩ : ∃ n, D.length = n := ⟨_, rfl⟩
    obtain ⟨nL, hnL⟩ : ∃ n, LL.length = n := ⟨_, rfl⟩
    have HND := Lib.hid hnD
    have HNL := Lib.hid hnL
    rw [hnD, hnL] at HM oJ
    rw [hnL]
    have y0 : w17.cell? ⟨gf, 0, none⟩ = some (.int .i64 k) := oJ.cell 0
    have y1 : w17.cell? ⟨gf, 1, none⟩ = some (.int .i64 s) := oJ.cell 1
    have y2 : w17.cell? ⟨gf, 2, none⟩ = some (.int .i64 d) := oJ.cell 2
    have y3 : w17.cell? ⟨gf, 3, none⟩ = some (.int .i64 q) := oJ.cell 3
    have y4 : w17.cell? ⟨gf, 4, none⟩ = some (.slice aL nL cL) := oJ.cell 4
    have y5 : w17.cell? ⟨gf, 5, none⟩ = some (.slice aD nD cD) := oJ.cell 5
    have HFR := Lib.hid hfr
    have hs17 := zJ.lt
    clear hM hnD hnL jJ hfr
    cases hmay : mayF ⟨k, s, d, q, l, D⟩
    · rw [hmay] at HM
      have HDX := Lib.hid (decR_nm (k := k) (s := s) (d := d) (q := q) p1 P2.out P3.out HIT.out hmay)
      clear hmay
      go_wp2_with fail
      refine HM.out.mono ?_
      rintro r w18 ⟨rfl, b18⟩
      have zK := below_own b18 zJ zJ.lt
      have bK := bJ.trans (b18.mono bJ.size)
      go_wp2_with (first | (refine wpList_build_store #[.int .i64 0, .int .i64 0, .int .i64 0, .int .i64 0, .slice none 0 0, .slice none 0 0] rfl rfl rfl rfl builtF rfl rfl zK (by kernel_rfl) rfl (cells6 _ _ _ _ _ _) ?_))
      refine bodyPost_ret (results_row_tmp rfl _ _ w.heap.size 37 _ (0, 0) _ rfl (zK.setRow _) Tryz.underlying37 rfl (by kernel_rfl)) rfl ?_
      unfold DecFPost
      rw [HD.out, HDX.out]
      exact ⟨rfl, (Just.setRow _ _ _).below bK (Nat.le_refl _) bK.size⟩
    · rw [hmay] at HM
      have HDX := Lib.hid (decR_ok (k := k) (s := s) (d := d) (q := q) p1 P2.out P3.out HIT.out hmay)
      clear hmay
      go_wp2_with fail
      refine HM.out.mono ?_
      rintro r w18 ⟨rfl, b18⟩
      have zK := below_own b18 zJ zJ.lt
      have oK := below_own b18 oJ oJ.lt
      have bK := bJ.trans (b18.mono bJ.size)
      have hatK := hat.below b18
      go_wp2_with (first | (refine wpList_load_row rfl _ _ rfl gf rfl 37 #[.int .i64 k, .int .i64 s, .int .i64 d, .int .i64 q, .slice aL nL cL, .slice aD nD cD] (0, 0) _ oK Tryz.underlying37 rfl (by kernel_rfl) ?_) | (refine wpList_store_row rfl _ _ _ rfl w.heap.size #[.int .i64 k, .int .i64 s, .int .i64 d, .int .i64 q, .slice aL nL cL, .slice aD nD cD] rfl rfl 37 _ zK (by kernel_rfl) rfl (cells6 _ _ _ _ _ _) ?_))
      refine bodyPost_ret (results_row_tmp rfl _ _ w.heap.size 37 _ (0, 0) _ rfl (zK.setRow _) Tryz.underlying37 rfl (by kernel_rfl)) rfl ?_
      unfold DecFPost
      rw [HD.out, HDX.out]
      have jK := Just.setRow w.heap.size w18 #[.int .i64 k, .int .i64 s, .int .i64 d, .int .i64 q, .slice aL nL cL, .slice aD nD cD]
      refine ⟨⟨k, s, d, q, LL, aL, cL, D, aD, cD⟩, HFR.out, ?_, ?_, jK.below bK (Nat.le_refl _) bK.size⟩
      · unfold Fp.vals
        simp only
        rw [HND.out, HNL.out]
        rfl
      · refine ⟨⟨hatK.els.lc, hatK.els.cm, Row.just hatK.els.row jK (fun q e => by have := HLA.out q e; omega), fun j hj => El.At.same (hatK.els.els j hj) (fun q e1 e2 => jK.block _ ((hatK.els.els j hj).lt q e1 e2) (by have := HLE.out j hj q e1 e2; omega))⟩, hatK.dc, hatK.dm, Row.just hatK.row jK (fun q e => by have := hloD q e; omega), hatK.ok⟩
end Go.Proofs.YtiflmdekcjbmbaaGreat.Fm
