/-
  Law RouteLife: each hop takes one of its life; without any it goes nowhere; all else stays; the call returns true. No condition.
-/
import Derived.Test.YtcpmnfoenpdaeaaRtUp
import Derived.Test.YtcpmnfoenpdaeaaRtAwake
import Derived.Test.YtcpmnfoenpdaeaaRtSame
set_option maxRecDepth 100000
namespace Go.Proofs.Ytcpmnfoenpdaeaa.RouteLife
set_option linter.unusedVariables false
open Go.RowKit Go.ChangeShapes Go.WideShapes Go.ChangeAt Go.Deep Lb Rt
set_option linter.unusedVariables false
theorem own : ownKnob Try.prog.godebug = none := by kernel_rfl
theorem laidOut : laidOutB Try.prog = true := by kernel_rfl
theorem snoc_at (l : List Int) (x : Int) : 0 ≤ atI (l ++ [x]) x := by
  unfold atI
  rw [if_pos]
  · omega
  · exact List.idxOf_lt_length_iff.2 (by simp)
/-- The three packets, where they lie. -/
structure Three (w w' : World) (g h : Nat) (p u d : Pk) (a : Option Addr) (c : Nat) (b : Option Addr) (e : Nat) (ua : Option Addr) (uc : Nat) (ub : Option Addr) (ue : Nat) (da : Option Addr) (dc : Nat) (db : Option Addr) (de : Nat) : Prop where
  op : Lb.Own w' w.heap.size 25 (p.vals a c b e)
  ou : Lb.Own w' g 25 (u.vals ua uc ub ue)
  od : Lb.Own w' h 25 (d.vals da dc db de)
  ap : p.At w' a c b e
  au : u.At w' ua uc ub ue
  ad : d.At w' da dc db de
  bb : Below w.heap.size w w'
/-- What Up made of it. -/
structure UpOk (p U : Pk) (me : Int) : Prop where
  life : U.life = p.life - 1
  f : U.f = p.f
  t : U.t = p.t
  n : U.n = p.n
  data : U.data = p.data
  has : 0 ≤ atI U.path me
  len : U.path.length ≤ p.path.length + 1
theorem up_case {p U : Pk} {me E : Int} (hm : mayK p = true) (hn : ndB me = true) (hl : p.life ≠ 0) (h : upR p me = (U, E)) :
    (E = 0 ∧ UpOk p U me ∧ (0 ≤ atI p.path me ∨ p.path.length < 16)) ∨ (E = 5 ∧ atI p.path me < 0 ∧ 16 ≤ p.path.length) := by
  unfold upR at h
  rw [if_neg (by rw [hm, hn]; simp), if_neg hl] at h
  by_cases h1 : 0 ≤ atI p.path me
  · rw [if_pos h1] at h
    injection h with h2 h3
    subst h2 h3
    exact .inl ⟨rfl, ⟨rfl, rfl, rfl, rfl, rfl, h1, Nat.le_succ _⟩, .inl h1⟩
  · rw [if_neg h1] at h
    by_cases h2 : 16 ≤ p.path.length
    · rw [if_pos h2] at h
      injection h with h3 h4
      exact .inr ⟨h4.symm, by omega, h2⟩
    · rw [if_neg h2] at h
      injection h with h3 h4
      subst h3 h4
      exact .inl ⟨rfl, ⟨rfl, rfl, rfl, rfl, rfl, snoc_at _ _, by simp [moreP]⟩, .inr (by omega)⟩
theorem down_case {p D : Pk} {me T G : Int} (hm : mayK p = true) (hn : ndB me = true) (hl : p.life ≠ 0) (h : downR p me = (D, T, G)) :
    (G = 0 ∧ D = lessP p ∧ 0 ≤ atI p.path me ∧ atI p.path me + 1 < p.path.length ∧ atI p.path T = atI p.path me + 1) ∨ (G = 6 ∧ ¬ (0 ≤ atI p.path me ∧ atI p.path me + 1 < p.path.length)) := by
  unfold downR at h
  rw [if_neg (by rw [hm, hn]; simp), if_neg hl] at h
  have hb := atI_bd p.path me
  by_cases h1 : atI p.path me < 0 ∨ atI p.path me = (p.path.length : Int) - 1
  · rw [if_pos h1] at h
    injection h with h2 h3
    injection h3 with h3 h4
    exact .inr ⟨h4.symm, by omega⟩
  · rw [if_neg h1] at h
    injection h with h2 h3
    injection h3 with h3 h4
    obtain ⟨k, hk, hzk, hg, _⟩ := atI_get (l := p.path) (x := me) (by omega)
    have hp : Pfx p.path p.path.length := by
      unfold mayK at hm
      simp only [Bool.and_eq_true] at hm
      exact (okP_out hm.2.2.2.2.2.2.2.1).2
    have hk2 : k + 1 < p.path.length := by omega
    refine .inl ⟨h4.symm, h2.symm, by omega, by omega, ?_⟩
    rw [hzk] at h3 ⊢
    have e : ((k : Int).toNat + 1) = k + 1 := by omega
    rw [e] at h3
    exact atI_is hk2 h3 (fun j hj e' => (hp (k + 1) hk2).2 j hj (by rw [e', h3]))
set_option maxHeartbeats 4000000 in
theorem body (p : Pk) (a : Option Addr) (c : Nat) (b : Option Addr) (d : Nat) (me : Int) (w : World) (h : p.At w a c b d) :
    Calls Try.prog 6 #[.agg (p.vals a c b d), .int .i64 me] w fun q w' => q = .returned (.bool true) ∧ Below w.heap.size w w' := by
  have o1 := Own.new w 25 (p.vals a c b d)
  have b0 := (Below.refl w.heap.size w).alloc (Nat.le_refl _) (.cells (p.vals a c b d) 25)
  have h1 := h.below b0
  have hsz : (w.alloc (.cells (p.vals a c b d) 25)).heap.size = w.heap.size + 1 := by simp
  go_enter Try.func6, Try.ntmps6
  go_upto_region 1 with (fail)
  generalize w.alloc (.cells (p.vals a c b d) 25) = w1 at *
  have c0 : w1.cell? ⟨w.heap.size, 0, none⟩ = some (.int .i64 p.f) := o1.cell 0
  have c1 : w1.cell? ⟨w.heap.size, 1, none⟩ = some (.int .i64 p.t) := o1.cell 1
  have c2 : w1.cell? ⟨w.heap.size, 2, none⟩ = some (.int .i64 p.n) := o1.cell 2
  have c3 : w1.cell? ⟨w.heap.size, 3, none⟩ = some (.int .i64 p.life) := o1.cell 3
  have c4 : w1.cell? ⟨w.heap.size, 4, none⟩ = some (.slice a p.path.length c) := o1.cell 4
  have c5 : w1.cell? ⟨w.heap.size, 5, none⟩ = some (.slice b p.data.length d) := o1.cell 5
  have hs1 : w.heap.size < w1.heap.size := by omega
  clear hsz
  go_wp2_with fail
  refine (light_any p a c b d w1).mono ?_
  rintro r w2 ⟨rfl, b2⟩
  have q2 := below_own b2 o1 hs1
  have b3 := b0.trans (b2.mono b0.size)
  have h2 := h.below b3
  have hs2 : w.heap.size < w2.heap.size := by have := b2.size; omega
  clear c0 c1 c2 c3 c4 c5 o1 h1 b0 b2 hs1
  cases hlg : lightB p
  · go_wp2_with fail
    refine (awake_any _).mono ?_
    rintro r w9 ⟨rfl, b9⟩
    go_wp2_with fail
    go_ret
    exact ⟨rfl, b3.trans (b9.mono b3.size)⟩
  have c0 : w2.cell? ⟨w.heap.size, 0, none⟩ = some (.int .i64 p.f) := q2.cell 0
  have c1 : w2.cell? ⟨w.heap.size, 1, none⟩ = some (.int .i64 p.t) := q2.cell 1
  have c2 : w2.cell? ⟨w.heap.size, 2, none⟩ = some (.int .i64 p.n) := q2.cell 2
  have c3 : w2.cell? ⟨w.heap.size, 3, none⟩ = some (.int .i64 p.life) := q2.cell 3
  have c4 : w2.cell? ⟨w.heap.size, 4, none⟩ = some (.slice a p.path.length c) := q2.cell 4
  have c5 : w2.cell? ⟨w.heap.size, 5, none⟩ = some (.slice b p.data.length d) := q2.cell 5
  have HLG := Lib.hid hlg
  clear hlg
  cases hm : mayK p
  · have HM := Lib.hid hm
    clear hm
    go_wp2_with fail
    refine (may_any p a c b d w2 h2).mono ?_
    rintro r w3 ⟨rfl, b4⟩
    rw [HM.out]
    have b5 := b3.trans (b4.mono b3.size)
    go_wp2_with fail
    refine (awake_any _).mono ?_
    rintro r w9 ⟨rfl, b9⟩
    go_wp2_with fail
    go_ret
    exact ⟨rfl, b5.trans (b9.mono b5.size)⟩
  have HM := Lib.hid hm
  have hlf := mayK_life hm
  clear hm
  by_cases hme : 0 ≤ me ∧ me ≤ 15
  case neg =>
    by_cases hm0 : me < 0
    · have g0 : decide (me < 0) = true := by simpa using hm0
      clear hme hm0
      go_wp2_with fail
      refine (may_any p a c b d w2 h2).mono ?_
      rintro r w3 ⟨rfl, b4⟩
      rw [HM.out]
      have b5 := b3.trans (b4.mono b3.size)
      go_wp2_with fail
      refine (awake_any _).mono ?_
      rintro r w9 ⟨rfl, b9⟩
      go_wp2_with fail
      go_ret
      exact ⟨rfl, b5.trans (b9.mono b5.size)⟩
    · have g0 : decide (me < 0) = false := by simpa using hm0
      have g1 : decide (15 < me) = true := by simp; omega
      clear hme hm0
      go_wp2_with fail
      refine (may_any p a c b d w2 h2).mono ?_
      rintro r w3 ⟨rfl, b4⟩
      rw [HM.out]
      have b5 := b3.trans (b4.mono b3.size)
      go_wp2_with fail
      refine (awake_any _).mono ?_
      rintro r w9 ⟨rfl, b9⟩
      go_wp2_with fail
      go_ret
      exact ⟨rfl, b5.trans (b9.mono b5.size)⟩
  have HND : Hid (ndB me = true) := Lib.hid (by simp [ndB]; omega)
  have g0 : decide (me < 0) = false := by simp; omega
  have g1 : decide (15 < me) = false := by simp; omega
  clear hme
  go_wp2_with fail
  refine (may_any p a c b d w2 h2).mono ?_
  rintro r w3 ⟨rfl, b4⟩
  rw [HM.out]
  have q3 := below_own b4 q2 hs2
  have b5 := b3.trans (b4.mono b3.size)
  have h3 := h.below b5
  have hs3 : w.heap.size < w3.heap.size := by have := b4.size; omega
  clear c0 c1 c2 c3 c4 c5 q2 h2 b3 b4 hs2
  have c0 : w3.cell? ⟨w.heap.size, 0, none⟩ = some (.int .i64 p.f) := q3.cell 0
  have c1 : w3.cell? ⟨w.heap.size, 1, none⟩ = some (.int .i64 p.t) := q3.cell 1
  have c2 : w3.cell? ⟨w.heap.size, 2, none⟩ = some (.int .i64 p.n) := q3.cell 2
  have c3 : w3.cell? ⟨w.heap.size, 3, none⟩ = some (.int .i64 p.life) := q3.cell 3
  have c4 : w3.cell? ⟨w.heap.size, 4, none⟩ = some (.slice a p.path.length c) := q3.cell 4
  have c5 : w3.cell? ⟨w.heap.size, 5, none⟩ = some (.slice b p.data.length d) := q3.cell 5
  go_wp2_with fail
  refine (up_any p a c b d me w3 h3).mono ?_
  rintro r w4 ⟨ua, uc, ub, ue, rfl, uo, b6⟩
  obtain ⟨⟨U, E⟩, hUE⟩ : ∃ q, upR p me = q := ⟨_, rfl⟩
  rw [hUE] at uo ⊢
  simp only at uo ⊢
  have ou := Own.new w4 25 (U.vals ua uc ub ue)
  have j7 := (Below.refl _ w4).alloc (Nat.le_refl _) (.cells (U.vals ua uc ub ue) 25)
  have q4 := below_own b6 q3 hs3
  have q5 := q4.alloc (.cells (U.vals ua uc ub ue) 25)
  have b7 := b5.trans (b6.mono b5.size)
  have b8 := b7.alloc b7.size (.cells (U.vals ua uc ub ue) 25)
  have au := uo.at_.below j7
  have hs5 : w4.heap.size < (w4.alloc (.cells (U.vals ua uc ub ue) 25)).heap.size := by simp
  have hs6 := b7.size
  clear c0 c1 c2 c3 c4 c5 q3 q4 h3 b5 b6 b7 j7 uo
  go_upto_region 4 with (refine wpList_alloc_store (U.vals ua uc ub ue) rfl rfl rfl rfl infoP rfl rfl (by kernel_rfl) rfl (cells6 _ _ _ _ _) ?_)
  generalize w4.alloc (.cells (U.vals ua uc ub ue) 25) = w5 at *
  generalize w4.heap.size = g at *
  have c0 : w5.cell? ⟨w.heap.size, 0, none⟩ = some (.int .i64 p.f) := q5.cell 0
  have c1 : w5.cell? ⟨w.heap.size, 1, none⟩ = some (.int .i64 p.t) := q5.cell 1
  have c2 : w5.cell? ⟨w.heap.size, 2, none⟩ = some (.int .i64 p.n) := q5.cell 2
  have c3 : w5.cell? ⟨w.heap.size, 3, none⟩ = some (.int .i64 p.life) := q5.cell 3
  have c4 : w5.cell? ⟨w.heap.size, 4, none⟩ = some (.slice a p.path.length c) := q5.cell 4
  have c5 : w5.cell? ⟨w.heap.size, 5, none⟩ = some (.slice b p.data.length d) := q5.cell 5
  go_wp2_with fail
  refine (down_any p a c b d me w5 (h.below b8)).mono ?_
  rintro r w6 ⟨da, dc, db, de, rfl, dq, b9⟩
  obtain ⟨⟨D, T, G⟩, hDG⟩ : ∃ q, downR p me = q := ⟨_, rfl⟩
  rw [hDG] at dq ⊢
  simp only at dq ⊢
  have od := Own.new w6 25 (D.vals da dc db de)
  have j9 := (Below.refl _ w6).alloc (Nat.le_refl _) (.cells (D.vals da dc db de) 25)
  have b10 := b8.trans (b9.mono b8.size)
  have b11 := b10.alloc b10.size (.cells (D.vals da dc db de) 25)
  have q7 := (below_own b9 q5 q5.lt).alloc (.cells (D.vals da dc db de) 25)
  have u7 := (below_own b9 ou hs5).alloc (.cells (D.vals da dc db de) 25)
  have au7 := (au.below b9).below j9
  have ad7 := dq.at_.below j9
  have K : Three w (w6.alloc (.cells (D.vals da dc db de) 25)) g w6.heap.size p U D a c b d ua uc ub ue da dc db de := ⟨q7, u7, od, h.below b11, au7, ad7, b11⟩
  clear c0 c1 c2 c3 c4 c5 q5 ou od j9 b10 b11 q7 u7 au7 ad7 au dq b8 b9 hs3 hs5
  go_upto_region 5 with (refine wpList_alloc_store (D.vals da dc db de) rfl rfl rfl rfl infoP rfl rfl (by kernel_rfl) rfl (cells6 _ _ _ _ _) ?_)
  generalize w6.alloc (.cells (D.vals da dc db de) 25) = w7 at *
  generalize w6.heap.size = k at *
  obtain ⟨m, hm⟩ : ∃ m, p.path.length = m := ⟨_, rfl⟩
  have c2 : w7.cell? ⟨w.heap.size, 2, none⟩ = some (.int .i64 p.n) := K.op.cell 2
  have c0 : w7.cell? ⟨w.heap.size, 0, none⟩ = some (.int .i64 p.f) := K.op.cell 0
  have c1 : w7.cell? ⟨w.heap.size, 1, none⟩ = some (.int .i64 p.t) := K.op.cell 1
  have c4 : w7.cell? ⟨w.heap.size, 4, none⟩ = some (.slice a m c) := (K.op.cell 4).trans (by rw [← hm]; rfl)
  have c5 : w7.cell? ⟨w.heap.size, 5, none⟩ = some (.slice b p.data.length d) := K.op.cell 5
  have c3 : w7.cell? ⟨w.heap.size, 3, none⟩ = some (.int .i64 p.life) := K.op.cell 3
  by_cases hl0 : p.life = 0
  · have hu : upR p me = (noP, 11) := by unfold upR; rw [if_neg (by rw [HM.out, HND.out]; simp), if_pos hl0]
    have hd : downR p me = (noP, 0, 11) := by unfold downR; rw [if_neg (by rw [HM.out, HND.out]; simp), if_pos hl0]
    rw [hu] at hUE
    rw [hd] at hDG
    injection hUE with _ e1
    injection hDG with _ e2
    injection e2 with _ e2
    subst e1 e2
    have e0 : (p.life == 0) = true := by simpa using hl0
    have bb := K.bb
    clear hl0 hu hd K
    go_wp2_with fail
    refine (awake_any _).mono ?_
    rintro r w9 ⟨rfl, b9⟩
    go_wp2_with fail
    go_ret
    exact ⟨rfl, bb.trans (b9.mono bb.size)⟩
  · have hcu := up_case HM.out HND.out hl0 hUE
    have hcd := down_case HM.out HND.out hl0 hDG
    obtain ⟨zz, hzz⟩ : ∃ zz, atI p.path me = zz := ⟨_, rfl⟩
    have hzb := atI_bd p.path me
    rw [hzz, hm] at hcu hcd hzb
    have s3 : ∀ z, Calls Try.prog 27 #[.slice a m c, .int .i64 me] (w7.drewN z) fun r w' => r = .returned (.int .i64 zz) ∧ w7.drewN z = w' := fun z => by
      have hcon := rat_any a c p.path me (w7.drewN z) (Nat.le_trans K.ap.pc K.ap.pm) (K.ap.prow.drewN z)
      rw [hm, hzz] at hcon
      exact hcon
    have S3 := Lib.hid s3
    have e0 : (p.life == 0) = false := by simpa using hl0
    have hm16 : m ≤ 16 := by omega
    have hlv : 1 ≤ p.life ∧ p.life ≤ 15 := by omega
    have bb := K.bb
    clear s3 hl0 hUE hDG
    rcases hcu with ⟨rfl, hok, hzu0⟩ | ⟨rfl, hzn, hfull⟩
    · rcases hcd with ⟨rfl, rfl, hz0, hz1, hT⟩ | ⟨rfl, hno⟩
      · have x0 : w7.cell? ⟨g, 0, none⟩ = some (.int .i64 p.f) := (K.ou.cell 0).trans (by rw [← hok.f]; rfl)
        have x1 : w7.cell? ⟨g, 1, none⟩ = some (.int .i64 p.t) := (K.ou.cell 1).trans (by rw [← hok.t]; rfl)
        have x2 : w7.cell? ⟨g, 2, none⟩ = some (.int .i64 p.n) := (K.ou.cell 2).trans (by rw [← hok.n]; rfl)
        have x3 : w7.cell? ⟨g, 3, none⟩ = some (.int .i64 (p.life - 1)) := (K.ou.cell 3).trans (by rw [← hok.life]; rfl)
        obtain ⟨m2, hm2⟩ : ∃ m2, U.path.length = m2 := ⟨_, rfl⟩
        have x4 : w7.cell? ⟨g, 4, none⟩ = some (.slice ua m2 uc) := (K.ou.cell 4).trans (by rw [← hm2]; rfl)
        have x5 : w7.cell? ⟨g, 5, none⟩ = some (.slice ub p.data.length ue) := (K.ou.cell 5).trans (by rw [← hok.data]; rfl)
        have v1 : (convert 23 9 (.slice ub p.data.length ue)).run Try.prog w7 = .ok (.string (bstr p.data)) w7 := by
          have := conv_b ue K.au.drow
          rwa [hok.data] at this
        have v2 : (convert 23 9 (.slice b p.data.length d)).run Try.prog w7 = .ok (.string (bstr p.data)) w7 := conv_b d K.ap.drow
        generalize bstr p.data = tx at *
        have hra := rat_any ua uc U.path me w7 (Nat.le_trans K.au.pc K.au.pm) K.au.prow
        obtain ⟨zu, hzu⟩ : ∃ zu, atI U.path me = zu := ⟨_, rfl⟩
        have hhas := hok.has
        have hlen := hok.len
        rw [hzu, hm2] at hra
        rw [hzu] at hhas
        rw [hm2, hm] at hlen
        have HRA := Lib.hid hra
        have y1 : decide (zu < 0) = false := by simp; omega
        have y2 : decide ((m : Int) + 1 < (m2 : Int)) = false := by simp; omega
        have y3 : decide (m + 1 < m2) = false := by simp; omega
        clear hra hzu hm2 hhas hlen
        go_upto_region 9 with (go_at_call 27; refine HRA.out.mono ?_; rintro r w' ⟨rfl, rfl⟩)
        clear x0 x1 x2 x3 x4 x5 v1 v2 y1 y2 y3 c0 c1 c5
        have x2 : w7.cell? ⟨k, 2, none⟩ = some (.int .i64 p.n) := K.od.cell 2
        have x3 : w7.cell? ⟨k, 3, none⟩ = some (.int .i64 (p.life - 1)) := K.od.cell 3
        have x4 : w7.cell? ⟨k, 4, none⟩ = some (.slice da m dc) := (K.od.cell 4).trans (by rw [← hm]; rfl)
        have s1 : ∀ z, Calls Try.prog 21 #[.slice da m dc, .slice a m c] (w7.drewN z) fun r w' => r = .returned (.bool true) ∧ ∃ y, (w7.drewN z).drewN y = w' := fun z => by
          have h1 := K.ad.pc
          have h2 := K.ad.prow
          have h3 := K.ap.prow
          have h4 := K.ap.pc
          have hcon := same_any da a dc c p.path p.path (w7.drewN z) h1 h4 K.ad.pm K.ap.pm (h2.drewN z) (h3.drewN z)
          rw [hm, decide_eq_true (rfl : p.path = p.path)] at hcon
          exact hcon
        obtain ⟨Q, hQ⟩ : ∃ Q : Int → Int, atI p.path = Q := ⟨_, rfl⟩
        have s2 : ∀ x z, Calls Try.prog 27 #[.slice a m c, .int .i64 x] (w7.drewN z) fun r w' => r = .returned (.int .i64 (Q x)) ∧ w7.drewN z = w' := fun x z => by
          have hcon := rat_any a c p.path x (w7.drewN z) (Nat.le_trans K.ap.pc K.ap.pm) (K.ap.prow.drewN z)
          rw [hm, hQ] at hcon
          exact hcon
        rw [hQ] at hT hzz
        have S1 := Lib.hid s1
        have S2 := Lib.hid s2
        have t1 : IntKind.i64.wrap (p.life - 1) = p.life - 1 := IntWalk.i64_in _ (by omega)
        have t2 : (p.life - 1 != p.life - 1) = false := by simp
        have t3 : (p.n != p.n) = false := by simp
        have t4 : IntKind.i64.wrap (Q me + 1) = Q me + 1 := IntWalk.i64_in _ (by omega)
        have t5 : (Q T != Q me + 1) = false := by rw [hT, hzz]; simp
        clear s1 s2 hT hzz hm hQ
        go_quiet (first | (go_at_call 21; exact quiet_some (S1.out _)) | (go_at_call 27; exact quiet_left (S2.out _ _)))
        clear t1 t2 t3 t4 t5 x2 x3 x4
        have f4 := c4
        clear c2 c3 K
        go_wp2_with fail
        refine (S3.out _).mono ?_
        rintro r w' ⟨rfl, rfl⟩
        have y1 : decide (0 ≤ zz) = true := by simpa using hz0
        have y2 : decide (zz + 1 < (m : Int)) = true := by simpa using hz1
        go_wp2_with fail
        refine (awake_any _).mono ?_
        rintro r w9 ⟨rfl, b9⟩
        go_wp2_with fail
        go_ret
        exact ⟨rfl, (below_drewN bb _).trans (b9.mono bb.size)⟩
      · have x0 : w7.cell? ⟨g, 0, none⟩ = some (.int .i64 p.f) := (K.ou.cell 0).trans (by rw [← hok.f]; rfl)
        have x1 : w7.cell? ⟨g, 1, none⟩ = some (.int .i64 p.t) := (K.ou.cell 1).trans (by rw [← hok.t]; rfl)
        have x2 : w7.cell? ⟨g, 2, none⟩ = some (.int .i64 p.n) := (K.ou.cell 2).trans (by rw [← hok.n]; rfl)
        have x3 : w7.cell? ⟨g, 3, none⟩ = some (.int .i64 (p.life - 1)) := (K.ou.cell 3).trans (by rw [← hok.life]; rfl)
        obtain ⟨m2, hm2⟩ : ∃ m2, U.path.length = m2 := ⟨_, rfl⟩
        have x4 : w7.cell? ⟨g, 4, none⟩ = some (.slice ua m2 uc) := (K.ou.cell 4).trans (by rw [← hm2]; rfl)
        have x5 : w7.cell? ⟨g, 5, none⟩ = some (.slice ub p.data.length ue) := (K.ou.cell 5).trans (by rw [← hok.data]; rfl)
        have v1 : (convert 23 9 (.slice ub p.data.length ue)).run Try.prog w7 = .ok (.string (bstr p.data)) w7 := by
          have := conv_b ue K.au.drow
          rwa [hok.data] at this
        have v2 : (convert 23 9 (.slice b p.data.length d)).run Try.prog w7 = .ok (.string (bstr p.data)) w7 := conv_b d K.ap.drow
        generalize bstr p.data = tx at *
        have hra := rat_any ua uc U.path me w7 (Nat.le_trans K.au.pc K.au.pm) K.au.prow
        obtain ⟨zu, hzu⟩ : ∃ zu, atI U.path me = zu := ⟨_, rfl⟩
        have hhas := hok.has
        have hlen := hok.len
        rw [hzu, hm2] at hra
        rw [hzu] at hhas
        rw [hm2, hm] at hlen
        have HRA := Lib.hid hra
        have y1 : decide (zu < 0) = false := by simp; omega
        have y2 : decide ((m : Int) + 1 < (m2 : Int)) = false := by simp; omega
        have y3 : decide (m + 1 < m2) = false := by simp; omega
        clear hra hzu hm2 hhas hlen
        go_upto_region 9 with (go_at_call 27; refine HRA.out.mono ?_; rintro r w' ⟨rfl, rfl⟩)
        clear x0 x1 x2 x3 x4 x5 v1 v2 y1 y2 y3 c0 c1 c5
        clear hzz hm
        go_quiet (fail)
        have f4 := c4
        clear c2 c3 K
        go_wp2_with fail
        refine (S3.out _).mono ?_
        rintro r w' ⟨rfl, rfl⟩
        by_cases hz0 : 0 ≤ zz
        · have y1 : decide (0 ≤ zz) = true := by simpa using hz0
          have y2 : decide (zz + 1 < (m : Int)) = false := by simp; omega
          clear hno hzu0 hz0
          go_wp2_with fail
          refine (awake_any _).mono ?_
          rintro r w9 ⟨rfl, b9⟩
          go_wp2_with fail
          go_ret
          exact ⟨rfl, (below_drewN bb _).trans (b9.mono bb.size)⟩
        · have y1 : decide (0 ≤ zz) = false := by simpa using hz0
          have y2 : decide (m < 16) = true := by simp; omega
          have y3 : decide ((m : Int) < 16) = true := by simp; omega
          clear hno hzu0 hz0
          go_wp2_with fail
          refine (awake_any _).mono ?_
          rintro r w9 ⟨rfl, b9⟩
          go_wp2_with fail
          go_ret
          exact ⟨rfl, (below_drewN bb _).trans (b9.mono bb.size)⟩
    · rcases hcd with ⟨rfl, rfl, hz0, hz1, hT⟩ | ⟨rfl, hno⟩
      · omega
      · go_upto_region 9 with (fail)
        clear c0 c1 c5
        clear hzz hm
        go_quiet (fail)
        have f4 := c4
        clear c2 c3 K
        go_wp2_with fail
        refine (S3.out _).mono ?_
        rintro r w' ⟨rfl, rfl⟩
        have y1 : decide (0 ≤ zz) = false := by simp; omega
        have y2 : decide (m < 16) = false := by simp; omega
        have y3 : decide ((m : Int) < 16) = false := by simp; omega
        go_wp2_with fail
        refine (awake_any _).mono ?_
        rintro r w9 ⟨rfl, b9⟩
        go_wp2_with fail
        go_ret
        exact ⟨rfl, (below_drewN bb _).trans (b9.mono bb.size)⟩

theorem walk (H : Type) (enc : TypeId × Value → H) : Walk H enc Try.prog 6 Try.f6 := by
  intro W base args ds p hval hA
  rw [Try.params6] at hA hval
  obtain ⟨v0, v1, d0, d1, p0, p1, rfl, rfl, rfl, h0, h1⟩ := trodAll_two hA
  obtain ⟨q, a, c, b, d, rfl, hat, _⟩ := open_packet (hval 0 _ v0 rfl rfl) h0
  obtain ⟨me, rfl, rfl, rfl, _⟩ := open_int Try.underlying3 (hval 1 _ v1 rfl rfl) h1
  exact body q a c b d me W hat

set_option maxRecDepth 100000 in
theorem lifted (os : Os) (started : os.Started) (H : Type) (enc : TypeId × Value → H) :
    ReturnsInHanded {} Try.checked os 6 .any (Rows.routeLifeSpec.pre6 enc Try.prog Try.f6 Rows.routeLifeRow.domain false) (Rows.routeLifeSpec.post enc Try.prog Try.f6 false true false false) :=
  returnsInHanded_of_change (C := Try.checked) own started (by kernel_rfl) Try.func6
    (ChangeSpec.witness6 (enc := enc) (C := Try.checked) false ⟨#[], #[.agg #[.int .i64 0, .int .i64 0, .int .i64 0, .int .i64 0, .slice none 0 0, .slice none 0 0], .int .i64 0], []⟩ 8 (by kernel_rfl) (by kernel_rfl) (by kernel_rfl) (by kernel_rfl))
    fun W base args ds gs before hval hW _ _ => step_of_walk laidOut (by rw [Try.params6]; exact of_decide_eq_true (by kernel_rfl)) (by kernel_rfl) Try.underlying4 rfl
      (fun ds h => by
        rw [Try.params6] at h
        match ds, h with
        | [_, _], _ => rfl) (walk H enc) W base args ds gs before hval hW

theorem holds : Rows.RouteLifeSaid :=
  OpenClaim.holds_of_wide 6 Try.f6 rfl rfl rfl rfl rfl rfl rfl ⟨rfl, rfl, rfl, rfl, rfl⟩ rfl rfl rfl rfl rfl (by kernel_rfl) Try.func6 (by kernel_rfl)
    (of_decide_eq_true (by kernel_rfl)) (by unfold Func.isWrapper; first | (rw [if_pos (by decide +kernel)]; kernel_rfl) | (rw [if_neg (by decide +kernel)]; exact ⟨rfl, rfl⟩))
    (fun os started H enc _ => lifted os started H enc)
#print axioms holds
end Go.Proofs.Ytcpmnfoenpdaeaa.RouteLife
