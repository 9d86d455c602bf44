/-
  Package ie (chapter 6) and the reference: two rows of numbers, two elements: alike or not.
-/
import Derived.Test.YtoconkgemakboaaIeWalks
set_option maxRecDepth 100000
namespace Go.Proofs.Ytoconkgemakboaa.Ie
set_option linter.unusedVariables false
open Go.RowKit Lb Go.Shelf Bf

theorem list_eq {l m : List Int} (h : l.length = m.length) (hk : ∀ j, j < l.length → l.getD j 0 = m.getD j 0) : l = m := by
  apply List.ext_getElem h
  intro i h1 h2
  have := hk i h1
  rw [List.getD_eq_getElem?_getD, List.getD_eq_getElem?_getD, List.getElem?_eq_getElem h1, List.getElem?_eq_getElem h2] at this
  exact this
theorem eqi_any (a b : Option Addr) (c d : Nat) (l m : List Int) (w : World) (h1 : l.length ≤ c) (h2 : m.length ≤ d) (hc : c ≤ maxLen) (hd : d ≤ maxLen) (hX : Row w a l.length (zval l)) (hY : Row w b m.length (zval m)) :
    Calls Try.prog 59 #[.slice a l.length c, .slice b m.length d] w fun r w' => r = .returned (.bool (decide (l = m))) ∧ ∃ z, w.drewN z = w' := by
  unfold maxLen at hc hd
  by_cases hlm : l.length = m.length
  · have HLM := Lib.hid hlm
    obtain ⟨n, hn⟩ : ∃ n, l.length = n := ⟨_, rfl⟩
    have HN := Lib.hid hn
    have hm : m.length = n := by omega
    rw [hn] at hX h1 ⊢
    rw [hm] at hY h2 ⊢
    clear hn hm hlm
    go_enter Try.func59, Try.ntmps59
    go_wp2_with fail
    go_loopw [13] (fun i wr => ∃ (k z : Nat), i = .int .i64 k ∧ k ≤ n ∧ Hid (∀ j, j < k → l.getD j 0 = m.getD j 0) ∧ w.drewN z = wr) (fun i _ => n - (intOf i).toNat)
    case atStart => exact ⟨0, 0, rfl, by omega, Lib.hid (fun j hj => by omega), rfl⟩
    case round =>
      obtain ⟨k, z, rfl, hk, HE, rfl⟩ := hrel
      by_cases hlt : k < n
      · obtain ⟨p, o, rfl, _, x1⟩ := hX.at_ hlt
        obtain ⟨q, s, rfl, _, x2⟩ := hY.at_ hlt
        unfold zval at x1 x2
        obtain ⟨x, hx⟩ : ∃ x, l.getD k 0 = x := ⟨_, rfl⟩
        obtain ⟨y, hy⟩ : ∃ y, m.getD k 0 = y := ⟨_, rfl⟩
        rw [hx] at x1
        rw [hy] at x2
        have HX := Lib.hid hx
        have HY := Lib.hid hy
        clear hx hy
        by_cases hxy : x = y
        · have HE2 : Hid (∀ j, j < k + 1 → l.getD j 0 = m.getD j 0) := Lib.hid (fun j hj => by
            by_cases e : j = k
            · subst e; rw [HX.out, HY.out, hxy]
            · exact HE.out j (by omega))
          have g1 : (x != y) = false := by simpa using hxy
          have g2 : (x == y) = true := by simpa using hxy
          clear hxy
          go_wp2_with fail
          go_quiet (fail)
          go_wp2_with fail
          exact ⟨⟨k + 1, _, by go_num, by omega, HE2, rfl⟩, by simp [intOf]; omega⟩
        · have HD : Hid (decide (l = m) = false) := Lib.hid (by
            rw [decide_eq_false_iff_not]
            intro e
            exact hxy (by rw [← HX.out, ← HY.out, e]))
          have g1 : (x != y) = true := by simpa using hxy
          have g2 : (x == y) = false := by simpa using hxy
          clear hxy
          go_wp2_with fail
          go_quiet (fail)
          go_wp2_with fail
          go_ret
          exact ⟨by rw [HD.out]; rfl, _, (World.drewN_drewN _ _ _).symm⟩
      · obtain rfl : n = k := by omega
        have HD : Hid (decide (l = m) = true) := Lib.hid (by
          rw [decide_eq_true_eq]
          exact list_eq HLM.out (by rw [HN.out]; exact HE.out))
        go_wp2_with fail
        go_ret
        exact ⟨by rw [HD.out]; rfl, z, rfl⟩
  · have HD : Hid (decide (l = m) = false) := Lib.hid (by
      rw [decide_eq_false_iff_not]
      intro e
      exact hlm (by rw [e]))
    obtain ⟨n, hn⟩ : ∃ n, l.length = n := ⟨_, rfl⟩
    obtain ⟨k, hk⟩ : ∃ k, m.length = k := ⟨_, rfl⟩
    rw [hn, hk] at hlm ⊢
    have g1 : ((n : Int) == (k : Int)) = false := by simp; omega
    have g2 : ((n : Int) != (k : Int)) = true := by simp; omega
    clear hn hk hlm
    go_enter Try.func59, Try.ntmps59
    go_wp2_with fail
    go_ret
    exact ⟨by rw [HD.out]; rfl, 0, rfl⟩
theorem same_any (a b : Option Addr) (c d : Nat) (l m : List Int) (w : World) (h1 : l.length ≤ c) (h2 : m.length ≤ d) (hc : c ≤ maxLen) (hd : d ≤ maxLen) (hX : Row w a l.length (zval l)) (hY : Row w b m.length (zval m)) :
    Calls Try.prog 68 #[.slice a l.length c, .slice b m.length d] w fun r w' => r = .returned (.bool (decide (l = m))) ∧ ∃ z, w.drewN z = w' := by
  unfold maxLen at hc hd
  by_cases hlm : l.length = m.length
  · have HLM := Lib.hid hlm
    obtain ⟨n, hn⟩ : ∃ n, l.length = n := ⟨_, rfl⟩
    have HN := Lib.hid hn
    have hm : m.length = n := by omega
    rw [hn] at hX h1 ⊢
    rw [hm] at hY h2 ⊢
    clear hn hm hlm
    go_enter Try.func68, Try.ntmps68
    go_wp2_with fail
    go_loopw [13] (fun i wr => ∃ (k z : Nat), i = .int .i64 k ∧ k ≤ n ∧ Hid (∀ j, j < k → l.getD j 0 = m.getD j 0) ∧ w.drewN z = wr) (fun i _ => n - (intOf i).toNat)
    case atStart => exact ⟨0, 0, rfl, by omega, Lib.hid (fun j hj => by omega), rfl⟩
    case round =>
      obtain ⟨k, z, rfl, hk, HE, rfl⟩ := hrel
      by_cases hlt : k < n
      · obtain ⟨p, o, rfl, _, x1⟩ := hX.at_ hlt
        obtain ⟨q, s, rfl, _, x2⟩ := hY.at_ hlt
        unfold zval at x1 x2
        obtain ⟨x, hx⟩ : ∃ x, l.getD k 0 = x := ⟨_, rfl⟩
        obtain ⟨y, hy⟩ : ∃ y, m.getD k 0 = y := ⟨_, rfl⟩
        rw [hx] at x1
        rw [hy] at x2
        have HX := Lib.hid hx
        have HY := Lib.hid hy
        clear hx hy
        by_cases hxy : x = y
        · have HE2 : Hid (∀ j, j < k + 1 → l.getD j 0 = m.getD j 0) := Lib.hid (fun j hj => by
            by_cases e : j = k
            · subst e; rw [HX.out, HY.out, hxy]
            · exact HE.out j (by omega))
          have g1 : (x != y) = false := by simpa using hxy
          have g2 : (x == y) = true := by simpa using hxy
          clear hxy
          go_wp2_with fail
          go_quiet (fail)
          go_wp2_with fail
          exact ⟨⟨k + 1, _, by go_num, by omega, HE2, rfl⟩, by simp [intOf]; omega⟩
        · have HD : Hid (decide (l = m) = false) := Lib.hid (by
            rw [decide_eq_false_iff_not]
            intro e
            exact hxy (by rw [← HX.out, ← HY.out, e]))
          have g1 : (x != y) = true := by simpa using hxy
          have g2 : (x == y) = false := by simpa using hxy
          clear hxy
          go_wp2_with fail
          go_quiet (fail)
          go_wp2_with fail
          go_ret
          exact ⟨by rw [HD.out]; rfl, _, (World.drewN_drewN _ _ _).symm⟩
      · obtain rfl : n = k := by omega
        have HD : Hid (decide (l = m) = true) := Lib.hid (by
          rw [decide_eq_true_eq]
          exact list_eq HLM.out (by rw [HN.out]; exact HE.out))
        go_wp2_with fail
        go_ret
        exact ⟨by rw [HD.out]; rfl, z, rfl⟩
  · have HD : Hid (decide (l = m) = false) := Lib.hid (by
      rw [decide_eq_false_iff_not]
      intro e
      exact hlm (by rw [e]))
    obtain ⟨n, hn⟩ : ∃ n, l.length = n := ⟨_, rfl⟩
    obtain ⟨k, hk⟩ : ∃ k, m.length = k := ⟨_, rfl⟩
    rw [hn, hk] at hlm ⊢
    have g1 : ((n : Int) == (k : Int)) = false := by simp; omega
    have g2 : ((n : Int) != (k : Int)) = true := by simp; omega
    clear hn hk hlm
    go_enter Try.func68, Try.ntmps68
    go_wp2_with fail
    go_ret
    exact ⟨by rw [HD.out]; rfl, 0, rfl⟩
set_option maxHeartbeats 4000000 in
theorem sameE_any (p q : El) (a : Option Addr) (c : Nat) (a2 : Option Addr) (c2 : Nat) (w : World) (h : p.At w a c) (k : q.At w a2 c2) :
    Calls Try.prog 34 #[.agg (p.vals a c), .agg (q.vals a2 c2)] w fun r w' => r = .returned (.bool (sameE p q)) ∧ Below w.heap.size w w' := by
  have o1 : Lb.Own ((w.alloc (.cells (p.vals a c) 52)).alloc (.cells (q.vals a2 c2) 52)) w.heap.size 52 (p.vals a c) := (Own.new w _ _).alloc _
  have o2 : Lb.Own ((w.alloc (.cells (p.vals a c) 52)).alloc (.cells (q.vals a2 c2) 52)) (w.heap.size + 1) 52 (q.vals a2 c2) := by
    have := Own.new (w.alloc (.cells (p.vals a c) 52)) 52 (q.vals a2 c2)
    rwa [show (w.alloc (.cells (p.vals a c) 52)).heap.size = w.heap.size + 1 by simp] at this
  have b0 := ((Below.refl w.heap.size w).alloc (Nat.le_refl _) (.cells (p.vals a c) 52)).alloc (by simp) (.cells (q.vals a2 c2) 52)
  have h1 := h.below b0
  have k1 := k.below b0
  obtain ⟨pk, pa, pr, pt, pl⟩ := p
  obtain ⟨qk, qa, qr, qt, ql⟩ := q
  have hD : sameE ⟨pk, pa, pr, pt, pl⟩ ⟨qk, qa, qr, qt, ql⟩ = ((pk == qk) && ((pa == qa) && ((pr == qr) && ((pt == qt) && decide (pl = ql))))) := rfl
  obtain ⟨e1, he1⟩ : ∃ e, (pk == qk) = e := ⟨_, rfl⟩
  obtain ⟨e2, he2⟩ : ∃ e, (pa == qa) = e := ⟨_, rfl⟩
  obtain ⟨e3, he3⟩ : ∃ e, (pr == qr) = e := ⟨_, rfl⟩
  obtain ⟨e4, he4⟩ : ∃ e, (pt == qt) = e := ⟨_, rfl⟩
  obtain ⟨e5, he5⟩ : ∃ e, decide (pl = ql) = e := ⟨_, rfl⟩
  rw [he1, he2, he3, he4, he5] at hD
  have HD := Lib.hid hD
  unfold El.vals at *
  simp only at *
  go_enter Try.func34, Try.ntmps34
  go_upto_region 1 with (fail)
  generalize (w.alloc (.cells #[.int .i64 pk, .int .i64 pa, .int .i64 pr, .int .i64 pt, .slice a pl.length c] 52)).alloc (.cells #[.int .i64 qk, .int .i64 qa, .int .i64 qr, .int .i64 qt, .slice a2 ql.length c2] 52) = w1 at *
  have c0 := o1.cell 0
  have c1 := o1.cell 1
  have x2 := o1.cell 2
  have c3 := o1.cell 3
  have c4 := o1.cell 4
  have y0 := o2.cell 0
  have y1 := o2.cell 1
  have y2 := o2.cell 2
  have y3 := o2.cell 3
  have y4 := o2.cell 4
  simp at c0 c1 x2 c3 c4 y0 y1 y2 y3 y4
  have hI := eqi_any a a2 c c2 pl ql w1 h1.lc k1.lc h1.cm k1.cm h1.row k1.row
  rw [he5] at hI
  have HI := Lib.hid hI
  clear o1 o2 hI hD h k h1 k1 he5
  cases e1
  case' true => cases e2
  case' true.true => cases e3
  case' true.true.true => cases e4
  all_goals
    go_wp2_with (refine HI.out.mono ?_; rintro r w' ⟨rfl, zz, rfl⟩)
    all_goals
      go_ret
      exact ⟨by rw [HD.out]; rfl, by first | exact b0 | exact below_drewN b0 _⟩
set_option maxHeartbeats 4000000 in
theorem rsameE_any (p q : El) (a : Option Addr) (c : Nat) (a2 : Option Addr) (c2 : Nat) (w : World) (h : p.At w a c) (k : q.At w a2 c2) :
    Calls Try.prog 60 #[.agg (p.vals a c), .agg (q.vals a2 c2)] w fun r w' => r = .returned (.bool (sameE p q)) ∧ Below w.heap.size w w' := by
  have o1 : Lb.Own ((w.alloc (.cells (p.vals a c) 52)).alloc (.cells (q.vals a2 c2) 52)) w.heap.size 52 (p.vals a c) := (Own.new w _ _).alloc _
  have o2 : Lb.Own ((w.alloc (.cells (p.vals a c) 52)).alloc (.cells (q.vals a2 c2) 52)) (w.heap.size + 1) 52 (q.vals a2 c2) := by
    have := Own.new (w.alloc (.cells (p.vals a c) 52)) 52 (q.vals a2 c2)
    rwa [show (w.alloc (.cells (p.vals a c) 52)).heap.size = w.heap.size + 1 by simp] at this
  have b0 := ((Below.refl w.heap.size w).alloc (Nat.le_refl _) (.cells (p.vals a c) 52)).alloc (by simp) (.cells (q.vals a2 c2) 52)
  have h1 := h.below b0
  have k1 := k.below b0
  obtain ⟨pk, pa, pr, pt, pl⟩ := p
  obtain ⟨qk, qa, qr, qt, ql⟩ := q
  have hD : sameE ⟨pk, pa, pr, pt, pl⟩ ⟨qk, qa, qr, qt, ql⟩ = ((pk == qk) && ((pa == qa) && ((pr == qr) && ((pt == qt) && decide (pl = ql))))) := rfl
  obtain ⟨e1, he1⟩ : ∃ e, (pk == qk) = e := ⟨_, rfl⟩
  obtain ⟨e2, he2⟩ : ∃ e, (pa == qa) = e := ⟨_, rfl⟩
  obtain ⟨e3, he3⟩ : ∃ e, (pr == qr) = e := ⟨_, rfl⟩
  obtain ⟨e4, he4⟩ : ∃ e, (pt == qt) = e := ⟨_, rfl⟩
  obtain ⟨e5, he5⟩ : ∃ e, decide (pl = ql) = e := ⟨_, rfl⟩
  rw [he1, he2, he3, he4, he5] at hD
  have HD := Lib.hid hD
  unfold El.vals at *
  simp only at *
  go_enter Try.func60, Try.ntmps60
  go_upto_region 1 with (fail)
  generalize (w.alloc (.cells #[.int .i64 pk, .int .i64 pa, .int .i64 pr, .int .i64 pt, .slice a pl.length c] 52)).alloc (.cells #[.int .i64 qk, .int .i64 qa, .int .i64 qr, .int .i64 qt, .slice a2 ql.length c2] 52) = w1 at *
  have c0 := o1.cell 0
  have c1 := o1.cell 1
  have x2 := o1.cell 2
  have c3 := o1.cell 3
  have c4 := o1.cell 4
  have y0 := o2.cell 0
  have y1 := o2.cell 1
  have y2 := o2.cell 2
  have y3 := o2.cell 3
  have y4 := o2.cell 4
  simp at c0 c1 x2 c3 c4 y0 y1 y2 y3 y4
  have hI := same_any a a2 c c2 pl ql w1 h1.lc k1.lc h1.cm k1.cm h1.row k1.row
  rw [he5] at hI
  have HI := Lib.hid hI
  clear o1 o2 hI hD h k h1 k1 he5
  cases e1
  case' true => cases e2
  case' true.true => cases e3
  case' true.true.true => cases e4
  all_goals
    go_wp2_with (refine HI.out.mono ?_; rintro r w' ⟨rfl, zz, rfl⟩)
    all_goals
      go_ret
      exact ⟨by rw [HD.out]; rfl, by first | exact b0 | exact below_drewN b0 _⟩
end Go.Proofs.Ytoconkgemakboaa.Ie
