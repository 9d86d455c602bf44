/-
  The reference's graph: what each method answers, and what the graph is then.
-/
import Derived.Test.YtahcplddonipcaaGreatTopoWalks
import Derived.Test.YtahcplddonipcaaGreatVar
set_option maxRecDepth 100000
namespace Go.Proofs.YtahcplddonipcaaGreat.Tp
set_option linter.unusedVariables false
set_option linter.unusedSimpArgs false
open Go.RowKit Lb

theorem rhas (g : Nat) (t : TypeId) (N : Nat) (Q : Nat → Nat → Int) (x : Int) (w : World) (h : Gr w g t N Q) :
    Calls Tryz.prog 46 #[.pointer (some ⟨g, 0, none⟩), .int .i64 x] w fun r w' => r = .returned (.bool (hasB N x)) ∧ w = w' := by
  have c0 := h.n
  by_cases h0 : x < 0
  · have HD : Hid (hasB N x = false) := Lib.hid (by unfold hasB; simp; omega)
    go_enter Tryz.func46, Tryz.ntmps46
    go_wp2_with fail
    go_ret
    exact ⟨by rw [HD.out]; rfl, rfl⟩
  · have h0 : 0 ≤ x := by omega
    by_cases h1 : x < (N : Int)
    · have HD : Hid (hasB N x = true) := Lib.hid (by unfold hasB; simp; omega)
      go_enter Tryz.func46, Tryz.ntmps46
      go_wp2_with fail
      go_ret
      exact ⟨by rw [HD.out]; rfl, rfl⟩
    · have HD : Hid (hasB N x = false) := Lib.hid (by unfold hasB; simp; omega)
      have h2 : decide (x < (N : Int)) = false := by simp; omega
      clear h1
      go_enter Tryz.func46, Tryz.ntmps46
      go_wp2_with fail
      go_ret
      exact ⟨by rw [HD.out]; rfl, rfl⟩
set_option maxHeartbeats 1000000 in
theorem rquality (g : Nat) (t : TypeId) (N : Nat) (Q : Nat → Nat → Int) (x y : Int) (w : World) (h : Gr w g t N Q) (hN : N ≤ 16) :
    Calls Tryz.prog 58 #[.pointer (some ⟨g, 0, none⟩), .int .i64 x, .int .i64 y] w fun r w' => r = .returned (.int .i64 (qual N Q x y)) ∧ ∃ m, w.drewN m = w' := by
  cases hx : hasB N x
  · have HX := Lib.hid hx
    have HD : Hid (qual N Q x y = 0) := Lib.hid (by unfold qual; rw [hx]; simp)
    clear hx
    go_enter Tryz.func58, Tryz.ntmps58
    go_wp2_with fail
    refine (rhas g t N Q x _ h).mono ?_
    rintro r w' ⟨rfl, rfl⟩
    rw [HX.out]
    go_wp2_with fail
    go_ret
    exact ⟨by rw [HD.out]; rfl, 0, rfl⟩
  · cases hy : hasB N y
    · have HX := Lib.hid hx
      have HY := Lib.hid hy
      have HD : Hid (qual N Q x y = 0) := Lib.hid (by unfold qual; rw [hy]; simp)
      clear hx hy
      go_enter Tryz.func58, Tryz.ntmps58
      go_wp2_with fail
      refine (rhas g t N Q x _ h).mono ?_
      rintro r w' ⟨rfl, rfl⟩
      rw [HX.out]
      go_wp2_with fail
      refine (rhas g t N Q y _ h).mono ?_
      rintro r w' ⟨rfl, rfl⟩
      rw [HY.out]
      go_wp2_with fail
      go_ret
      exact ⟨by rw [HD.out]; rfl, 0, rfl⟩
    · have HX := Lib.hid hx
      have HY := Lib.hid hy
      unfold hasB at hx hy
      simp only [decide_eq_true_eq] at hx hy
      obtain ⟨a, rfl⟩ := Int.eq_ofNat_of_zero_le hx.1
      obtain ⟨b, rfl⟩ := Int.eq_ofNat_of_zero_le hy.1
      have ha : a < 16 := by omega
      have hb : b < 16 := by omega
      have HD : Hid (qual N Q a b = min (Q a b) (Q b a)) := Lib.hid (by unfold qual; rw [HX.out, HY.out]; simp)
      have g1 : (a : Int) < 16 := by omega
      have g2 : (b : Int) < 16 := by omega
      clear hx hy
      go_enter Tryz.func58, Tryz.ntmps58
      go_wp2_with fail
      refine (rhas g t N Q a _ h).mono ?_
      rintro r w' ⟨rfl, rfl⟩
      rw [HX.out]
      go_wp2_with fail
      refine (rhas g t N Q b _ h).mono ?_
      rintro r w' ⟨rfl, rfl⟩
      rw [HY.out]
      have c1 : w.drew.cell? ⟨g, 1 + a * 16 + b, none⟩ = some (.int .i64 (Q a b)) := h.q ha hb
      have c2 : w.drew.cell? ⟨g, 1 + b * 16 + a, none⟩ = some (.int .i64 (Q b a)) := h.q hb ha
      go_wp2_with fail
      go_region
      all_goals
        go_wp2_with fail
        go_ret
        exact ⟨by rw [HD.out]; rfl, 1, rfl⟩
theorem rbuilt (v : Int) : Tryz.prog.built 87 [(0, .int .i64 v)] = some ((.int .i64 v :: List.replicate 256 (.int .i64 0)).toArray) := by kernel_rfl
theorem rnew (x : Int) (w : World) :
    Calls Tryz.prog 18 #[.int .i64 x] w fun r w' => r = .returned (.pointer (some ⟨w.heap.size, 0, none⟩)) ∧ Gr w' w.heap.size 87 (min (max x 1) 16).toNat (fun _ _ => 0) ∧ Below w.heap.size w w' ∧ w.heap.size < w'.heap.size := by
  obtain ⟨N, hN, hN1⟩ : ∃ N : Nat, max 1 (min x 16) = (N : Int) ∧ (min (max x 1) 16).toNat = N := ⟨_, by omega, rfl⟩
  rw [hN1]
  clear hN1
  obtain ⟨cs, hcs⟩ : ∃ cs : Array Value, cs = (Value.int .i64 (N : Int) :: List.replicate 256 (Value.int .i64 0)).toArray := ⟨_, rfl⟩
  have HB := Lib.hid (rbuilt (N : Int))
  rw [← hcs] at HB
  have ho : Gr (w.alloc (.cells cs 87)) w.heap.size 87 N (fun _ _ => 0) := Blk.of (Own.new w _ cs) (by rw [hcs]; simp) (fun i hi => by
    rw [hcs]
    unfold gv
    rcases i with _ | i
    · rfl
    · rw [if_neg (by omega), List.getElem?_toArray, List.getElem?_cons_succ, List.getElem?_replicate, if_pos (by omega)])
  have hb := (Below.refl w.heap.size w).alloc (Nat.le_refl _) (.cells cs 87)
  have hs : w.heap.size < (w.alloc (.cells cs 87)).heap.size := by simp
  clear hcs
  go_enter Tryz.func18, Tryz.ntmps18
  go_wp2_with (refine wpList_built cs rfl rfl HB.out ?_)
  go_ret
  exact ⟨rfl, ho, hb, hs⟩
set_option maxHeartbeats 1000000 in
theorem rnear (g : Nat) (t : TypeId) (N : Nat) (Q : Nat → Nat → Int) (x y : Int) (w : World) (h : Gr w g t N Q) (hN : N ≤ 16) :
    Calls Tryz.prog 33 #[.pointer (some ⟨g, 0, none⟩), .int .i64 x, .int .i64 y] w fun r w' => ∃ v, r = .returned v ∧ Mine w' w.heap.size 3 v (near N Q x y).length (ln (near N Q x y)) ∧ Below w.heap.size w w' := by
  · obtain ⟨i0, hi0, hz0, hz1, hz2⟩ := info_parts infoI
    have c0 := h.n
    go_enter Tryz.func33, Tryz.ntmps33
    go_wp2_with fail
    have hg := h.lt
    go_loopw [14, 7] (fun i v wr => ∃ k : Nat, i = .int .i64 k ∧ k ≤ N ∧ Mine wr w.heap.size 3 v (nr N Q x y k).length (ln (nr N Q x y k)) ∧ Gr wr g t N Q ∧ Below w.heap.size w wr) (fun i _ _ => N - (intOf i).toNat)
    case atStart => exact ⟨0, rfl, by omega, Mine.nil _ _ _ _, h, Below.refl _ _⟩
    case round =>
      clear h c0
      obtain ⟨k, rfl, hk, hv, h, bb⟩ := hrel
      by_cases hlt : k < N
      · have g1 : (k : Int) < (N : Int) := by omega
        have hl := nr_len N Q x y k
        obtain ⟨q, hq⟩ : ∃ q, qual N Q x k = q := ⟨_, rfl⟩
        have HQ := Lib.hid hq
        clear hq
        go_wp2_with fail
        refine (rquality g t N Q x k _ h hN).mono ?_
        rintro r w' ⟨rfl, m, rfl⟩
        rw [HQ.out]
        have hv := hv.drewN m
        have h := Blk.drewN h m
        have bb := below_drewN bb m
        generalize wr.drewN m = w1 at *
        by_cases h1 : 0 < q
        · by_cases h2 : y ≤ q
          · have HF := Lib.hid (nr_yes (N := N) (Q := Q) (a := x) (least := y) (k := k) (by rw [HQ.out]; exact ⟨h1, h2⟩))
            have hm : (nr N Q x y k).length + 1 ≤ maxLen := by unfold maxLen; omega
            have Hm := Lib.hid hm
            clear hm
            go_wp2_with (at_builtin; go_must (refine wp_app rfl (.tmp 28) (.tmp 30) _ rfl w.heap.size 3 i0 _ 8 Tryz.underlying29 hi0 hz0 hz1 hz2 rfl _ (nr N Q x y k).length (ln (nr N Q x y k)) rfl (hv.alloc _) _ 1 _ (fun _ => .int .i64 (k : Int)) rfl (row_new _ _ _ _ (fun i hi => by obtain rfl : i = 0 := (by omega); rfl)) (fun _ _ => rfl) Hm.out ?c2 ?c3 ?_))
            case c2 => omega
            case c3 => have := bb.size; first | omega | (simp; omega)
            intro v' w2 hv2 hg2
            have b2 : Below w.heap.size w w2 := (bb.alloc bb.size _).grown hg2 (by have := bb.size; simp; omega) (fun q hq => (hv.lt q hq).1)
            have hh2 := grown_own hg2 (Own.alloc h _) (by
              intro e
              have := (hv.lt _ e).1
              omega)
            have hv3 : Mine w2 w.heap.size 3 v' (nr N Q x y (k + 1)).length (ln (nr N Q x y (k + 1))) := by
              rw [HF.out, List.length_append]
              exact hv2.ext (fun q hq => ln_snoc _ _ _ hq)
            clear hv hv2 h
            go_wp2_with fail
            exact ⟨⟨k + 1, by simp [intOf], by omega, hv3, hh2, b2⟩, by simp [intOf]; omega⟩
          · have HF := Lib.hid (nr_not (N := N) (Q := Q) (a := x) (least := y) (k := k) (by rw [HQ.out]; omega))
            have h3 : decide (y ≤ q) = false := by simp; omega
            clear h2
            go_wp2_with fail
            exact ⟨⟨k + 1, by simp [intOf], by omega, by rw [HF.out]; exact hv, h, bb⟩, by simp [intOf]; omega⟩
        · have HF := Lib.hid (nr_not (N := N) (Q := Q) (a := x) (least := y) (k := k) (by rw [HQ.out]; omega))
          have h3 : q ≤ 0 := by omega
          clear h1
          go_wp2_with fail
          exact ⟨⟨k + 1, by simp [intOf], by omega, by rw [HF.out]; exact hv, h, bb⟩, by simp [intOf]; omega⟩
      · obtain rfl : N = k := by omega
        go_wp2_with fail
        go_ret
        exact ⟨_, rfl, hv, bb⟩
set_option maxHeartbeats 1000000 in
theorem rforget (g : Nat) (t : TypeId) (N : Nat) (Q : Nat → Nat → Int) (x : Int) (w : World) (h : Gr w g t N Q) (hN : N ≤ 16) :
    Calls Tryz.prog 20 #[.pointer (some ⟨g, 0, none⟩), .int .i64 x] w fun r w' => r = .returned (.tuple #[]) ∧ Gr w' g t N (goneTo N Q x) ∧ Just g w w' := by
  cases hx : hasB N x
  · have HX := Lib.hid hx
    have HD : Hid (goneTo N Q x = Q) := Lib.hid (by unfold goneTo; rw [hx]; rfl)
    clear hx
    go_enter Tryz.func20, Tryz.ntmps20
    go_wp2_with fail
    refine (rhas g t N Q x _ h).mono ?_
    rintro r w' ⟨rfl, rfl⟩
    rw [HX.out]
    go_wp2_with fail
    refine bodyPost_ret (results_none rfl _ _ _) rfl ⟨rfl, by rw [HD.out]; exact h, Just.refl _ _⟩
  · have HX := Lib.hid hx
    have HD : Hid (goneTo N Q x = gone Q x.toNat) := Lib.hid (by unfold goneTo; rw [hx]; rfl)
    unfold hasB at hx
    simp only [decide_eq_true_eq] at hx
    obtain ⟨a, rfl⟩ := Int.eq_ofNat_of_zero_le hx.1
    have ha : a < 16 := by omega
    have g1 : (a : Int) < 16 := by omega
    clear hx
    obtain ⟨zs, hzs⟩ : ∃ zs : Array Value, zs = (List.replicate 16 (.int .i64 0)).toArray := ⟨_, rfl⟩
    have HZ := Lib.hid zrow
    rw [← hzs] at HZ
    have hz16 : Hid (zs.size = 16) := Lib.hid (by rw [hzs]; rfl)
    have hzc : Hid (zs.all (·.oneCell') = true) := Lib.hid (by rw [hzs]; kernel_rfl)
    have hth : Hid (w.there g (1 + a * 16) zs.size) := Lib.hid (by rw [hz16.out]; exact Blk.there h (by omega))
    have h1 : Gr (w.setCells g (1 + a * 16) zs.toList) g t N (fun i j => if i = a then 0 else Q i j) := Gr.row h ha (fun _ => 0) zs.toList (by rw [Array.length_toList, hz16.out]) (fun j hj => by
      rw [hzs]
      show (List.replicate 16 (Value.int .i64 0)).getD j undef = _
      rw [List.getD_eq_getElem?_getD, List.getElem?_replicate, if_pos hj]
      rfl)
    have j1 := Just.puts g zs.toList w (1 + a * 16)
    clear hzs
    go_enter Tryz.func20, Tryz.ntmps20
    go_wp2_with fail
    refine (rhas g t N Q a _ h).mono ?_
    rintro r w' ⟨rfl, rfl⟩
    rw [HX.out]
    go_wp2_with (first | (refine wpList_built zs rfl rfl HZ.out ?_) | (refine wpList_store_mid rfl 79 _ _ rfl g (1 + a * 16) zs rfl rfl hth.out (by rw [hz16.out]; kernel_rfl) hzc.out ?_))
    go_wp2_with fail
    generalize w.setCells g (1 + a * 16) zs.toList = w1 at *
    clear h hth
    have h2 : Gr w1 g t N (fun i j => if i = a ∨ (j = a ∧ i < 0) then 0 else Q i j) := h1.ext fun i j _ _ => by
      by_cases hi : i = a
      · rw [if_pos hi, if_pos (.inl hi)]
      · rw [if_neg hi, if_neg (by omega)]
    clear h1
    go_loopw [15] (fun i wr => ∃ k : Nat, i = .int .i64 k ∧ k ≤ 16 ∧ Gr wr g t N (fun i j => if i = a ∨ (j = a ∧ i < k) then 0 else Q i j) ∧ Just g w wr) (fun i _ => 16 - (intOf i).toNat)
    case atStart => exact ⟨0, rfl, by omega, h2, j1⟩
    case round =>
      clear h2 j1
      obtain ⟨k, rfl, hk, h, jj⟩ := hrel
      by_cases hlt : k < 16
      · have g2 : (k : Int) < 16 := by omega
        have c0 := h.q hlt ha
        have f0 := h.f (1 + k * 16 + a)
        have h3 := Lib.hid ((h.put hlt ha 0).ext (R := fun i j => if i = a ∨ (j = a ∧ i < k + 1) then 0 else Q i j) fun i j _ _ => by
          by_cases e1 : i = k ∧ j = a
          · rw [if_pos e1, if_pos (by omega)]
          · rw [if_neg e1]
            by_cases e2 : i = a ∨ (j = a ∧ i < k)
            · rw [if_pos e2, if_pos (by omega)]
            · rw [if_neg e2, if_neg (by omega)])
        go_wp2_with fail
        exact ⟨⟨k + 1, by simp [intOf], by omega, h3.out, jj.put _ _⟩, by simp [intOf]; omega⟩
      · obtain rfl : 16 = k := by omega
        have h3 : Gr wr g t N (gone Q a) := h.ext fun i j hi _ => by
          unfold gone
          by_cases e1 : i = a ∨ j = a
          · rw [if_pos e1, if_pos (by omega)]
          · rw [if_neg e1, if_neg (by omega)]
        go_wp2_with fail
        go_end0
        exact ⟨rfl, by rw [HD.out]; exact h3, jj⟩
theorem good_cases2 (N : Nat) (me : Int) (L : Nat → Lk) (k : Nat) (hN : N ≤ 16) :
    (good1 N me L k = false ∧ ((L k).a == me) = false) ∨ (good1 N me L k = false ∧ (L k).a = me ∧ hasB N (L k).b = false) ∨
    (∃ b : Nat, b < N ∧ (L k).b = (b : Int) ∧ (L k).a = me ∧ hasB N (L k).b = true ∧ ((good1 N me L k = false ∧ (L k).b = me) ∨ (((L k).b == me) = false ∧
      ((good1 N me L k = false ∧ (L k).q < 0) ∨ (good1 N me L k = false ∧ 0 ≤ (L k).q ∧ 255 < (L k).q) ∨ (good1 N me L k = false ∧ 0 ≤ (L k).q ∧ (L k).q ≤ 255 ∧ seenR L k b = true) ∨
        (good1 N me L k = true ∧ 0 ≤ (L k).q ∧ (L k).q ≤ 255 ∧ seenR L k b = false))))) := by
  rcases good_cases N me L k hN with h | ⟨h, h1, h2⟩ | ⟨h, h1, _, h2⟩ | ⟨b, hb, h1, h2, h3, h4, h5⟩
  · exact .inl h
  · cases h3 : hasB N (L k).b
    · exact .inr (.inl ⟨h, h1, rfl⟩)
    · have h3' := h3
      unfold hasB at h3'
      simp only [decide_eq_true_eq] at h3'
      obtain ⟨b, hb⟩ := Int.eq_ofNat_of_zero_le h3'.1
      exact .inr (.inr ⟨b, by omega, hb, h1, rfl, .inl ⟨h, h2⟩⟩)
  · exact .inr (.inl ⟨h, h1, h2⟩)
  · exact .inr (.inr ⟨b, hb, h1, h2, h4, .inr ⟨h3, h5⟩⟩)
set_option maxHeartbeats 4000000 in
theorem rreport (g : Nat) (t : TypeId) (N : Nat) (Q : Nat → Nat → Int) (me : Int) (a : Option Addr) (n c : Nat) (L : Nat → Lk) (w : World) (h : Gr w g t N Q) (hN : N ≤ 16) (hn : n ≤ c) (hc : c ≤ maxLen) (hL : Row w a (n * 3) (lv L)) :
    Calls Tryz.prog 22 #[.pointer (some ⟨g, 0, none⟩), .int .i64 me, .slice a n c] w fun r w' => r = .returned (.int .i64 (repN N me L n)) ∧ Gr w' g t N (repTo N Q me L n) ∧ Just g w w' := by
  cases hx : hasB N me
  · have HX := Lib.hid hx
    have HR : Hid (repN N me L n = 1 ∧ repTo N Q me L n = Q) := Lib.hid (rep_no (by unfold repB; rw [hx]; rfl))
    clear hx
    go_enter Tryz.func22, Tryz.ntmps22
    go_wp2_with fail
    refine (rhas g t N Q me _ h).mono ?_
    rintro r w' ⟨rfl, rfl⟩
    rw [HX.out]
    go_wp2_with fail
    go_ret
    exact ⟨by rw [HR.out.1]; rfl, by rw [HR.out.2]; exact h, Just.refl _ _⟩
  · have HX := Lib.hid hx
    unfold hasB at hx
    simp only [decide_eq_true_eq] at hx
    obtain ⟨m, rfl⟩ := Int.eq_ofNat_of_zero_le hx.1
    have hm : m < 16 := by omega
    have g0 : (m : Int) < 16 := by omega
    clear hx
    by_cases h16 : 16 < n
    · have g1 : (16 : Int) < (n : Int) := by omega
      have HR : Hid (repN N m L n = 1 ∧ repTo N Q m L n = Q) := Lib.hid (rep_no (by unfold repB; rw [decide_eq_false (by omega)]; simp))
      go_enter Tryz.func22, Tryz.ntmps22
      go_wp2_with fail
      refine (rhas g t N Q m _ h).mono ?_
      rintro r w' ⟨rfl, rfl⟩
      rw [HX.out]
      go_wp2_with fail
      go_ret
      exact ⟨by rw [HR.out.1]; rfl, by rw [HR.out.2]; exact h, Just.refl _ _⟩
    · have g1 : decide ((16 : Int) < (n : Int)) = false := by simp; omega
      have hn16 : n ≤ 16 := by omega
      have HR : Hid (repB N m L n = okR N m L n) := Lib.hid (by unfold repB; rw [HX.out, decide_eq_true (by omega)]; simp)
      clear h16
      have k1 := (zero16 w (rowR L 0) (fun _ => rfl)).alloc (.cells #[.bool false, .bool false, .bool false, .bool false, .bool false, .bool false, .bool false, .bool false, .bool false, .bool false, .bool false, .bool false, .bool false, .bool false, .bool false, .bool false] 78)
      have s1 : (w.alloc (.cells #[.int .i64 0, .int .i64 0, .int .i64 0, .int .i64 0, .int .i64 0, .int .i64 0, .int .i64 0, .int .i64 0, .int .i64 0, .int .i64 0, .int .i64 0, .int .i64 0, .int .i64 0, .int .i64 0, .int .i64 0, .int .i64 0] 79)).heap.size = w.heap.size + 1 := by simp
      have k2 := false16 (w.alloc (.cells #[.int .i64 0, .int .i64 0, .int .i64 0, .int .i64 0, .int .i64 0, .int .i64 0, .int .i64 0, .int .i64 0, .int .i64 0, .int .i64 0, .int .i64 0, .int .i64 0, .int .i64 0, .int .i64 0, .int .i64 0, .int .i64 0] 79)) (seenR L 0) (fun _ => rfl)
      rw [s1] at k2
      have h0 : Gr ((w.alloc (.cells #[.int .i64 0, .int .i64 0, .int .i64 0, .int .i64 0, .int .i64 0, .int .i64 0, .int .i64 0, .int .i64 0, .int .i64 0, .int .i64 0, .int .i64 0, .int .i64 0, .int .i64 0, .int .i64 0, .int .i64 0, .int .i64 0] 79)).alloc (.cells #[.bool false, .bool false, .bool false, .bool false, .bool false, .bool false, .bool false, .bool false, .bool false, .bool false, .bool false, .bool false, .bool false, .bool false, .bool false, .bool false] 78)) g t N Q := Blk.alloc (Blk.alloc h _) _
      have j0 : Just g w ((w.alloc (.cells #[.int .i64 0, .int .i64 0, .int .i64 0, .int .i64 0, .int .i64 0, .int .i64 0, .int .i64 0, .int .i64 0, .int .i64 0, .int .i64 0, .int .i64 0, .int .i64 0, .int .i64 0, .int .i64 0, .int .i64 0, .int .i64 0] 79)).alloc (.cells #[.bool false, .bool false, .bool false, .bool false, .bool false, .bool false, .bool false, .bool false, .bool false, .bool false, .bool false, .bool false, .bool false, .bool false, .bool false, .bool false] 78)) := ((Just.refl g w).alloc _).alloc _
      have b0 : Below w.heap.size w ((w.alloc (.cells #[.int .i64 0, .int .i64 0, .int .i64 0, .int .i64 0, .int .i64 0, .int .i64 0, .int .i64 0, .int .i64 0, .int .i64 0, .int .i64 0, .int .i64 0, .int .i64 0, .int .i64 0, .int .i64 0, .int .i64 0, .int .i64 0] 79)).alloc (.cells #[.bool false, .bool false, .bool false, .bool false, .bool false, .bool false, .bool false, .bool false, .bool false, .bool false, .bool false, .bool false, .bool false, .bool false, .bool false, .bool false] 78)) := ((Below.refl w.heap.size w).alloc (Nat.le_refl _) _).alloc (by simp) _
      have hgl : g < w.heap.size := h.lt
      clear s1
      go_enter Tryz.func22, Tryz.ntmps22
      go_wp2_with fail
      refine (rhas g t N Q m _ h).mono ?_
      rintro r w' ⟨rfl, rfl⟩
      rw [HX.out]
      go_upto_region 4 with (fail)
      refine wp_zero_var (z := #[.bool false, .bool false, .bool false, .bool false, .bool false, .bool false, .bool false, .bool false, .bool false, .bool false, .bool false, .bool false, .bool false, .bool false, .bool false, .bool false]) rfl rfl rfl rfl rfl rfl rfl (by kernel_rfl) (by kernel_rfl) (by kernel_rfl) rfl rfl ?_
      go_wp2_with fail
      clear h
      generalize (w.alloc (.cells #[.int .i64 0, .int .i64 0, .int .i64 0, .int .i64 0, .int .i64 0, .int .i64 0, .int .i64 0, .int .i64 0, .int .i64 0, .int .i64 0, .int .i64 0, .int .i64 0, .int .i64 0, .int .i64 0, .int .i64 0, .int .i64 0] 79)).alloc (.cells #[.bool false, .bool false, .bool false, .bool false, .bool false, .bool false, .bool false, .bool false, .bool false, .bool false, .bool false, .bool false, .bool false, .bool false, .bool false, .bool false] 78) = w1 at *
      have hz : Hid (okR N m L 0 = true) := Lib.hid rfl
      go_loopw [23] (fun i wr => ∃ k : Nat, i = .int .i64 k ∧ k ≤ n ∧ Hid (okR N m L k = true) ∧ Blk wr w.heap.size 79 16 (fun i => .int .i64 (rowR L k i)) ∧ Blk wr (w.heap.size + 1) 78 16 (fun i => .bool (seenR L k i)) ∧ Gr wr g t N Q ∧ Below w.heap.size w wr) (fun i _ => n - (intOf i).toNat)
      case atStart => exact ⟨0, rfl, by omega, hz, k1, k2, h0, b0⟩
      case round =>
        clear hz k1 k2 h0 j0 b0
        obtain ⟨k, rfl, hk, HO, k1, k2, h, bb⟩ := hrel
        have s2 : w.heap.size + 1 < wr.heap.size := k2.lt
        by_cases hlt : k < n
        · obtain ⟨ba, off, rfl, hba, c0, c1, c2⟩ := lrow hL bb hlt
          have hbad : good1 N m L k = false → Hid (repN N m L n = 1 ∧ repTo N Q m L n = Q) := fun hg => Lib.hid (rep_no (by rw [HR.out]; exact okR_false hg hlt))
          have hgd : good1 N m L k = true → Hid (okR N m L (k + 1) = true) := fun hg => Lib.hid (by
            show (okR N m L k && good1 N m L k) = true
            rw [HO.out, hg]; rfl)
          have hrow : ∀ j, rowR L (k + 1) j = if j = (L k).b.toNat then (L k).q else rowR L k j := fun _ => rfl
          have hseen : ∀ j, seenR L (k + 1) j = if j = (L k).b.toNat then true else seenR L k j := fun _ => rfl
          have hgc := good_cases2 N m L k hN
          have hsz : (16 : Int) ≤ 16 := by decide
          generalize hLk : L k = lk at *
          obtain ⟨la, lb, lq⟩ := lk
          dsimp only at *
          rcases hgc with ⟨hb, e1⟩ | ⟨hb, rfl, e3⟩ | ⟨b, hbN, rfl, rfl, e3, hq⟩
          · have hx : Gr (wr.alloc (.cells #[.int .i64 la, .int .i64 lb, .int .i64 lq] 103)) g t N Q := Blk.alloc h _
            have bx := bb.alloc (by omega) (.cells #[.int .i64 la, .int .i64 lb, .int .i64 lq] 103)
            have e1' : (la != (m : Int)) = true := by simp only [bne, e1]; rfl
            go_wp2_with fail
            go_ret
            exact ⟨by rw [(hbad hb).out.1]; rfl, by rw [(hbad hb).out.2]; exact hx, just_of bx⟩
          · have hx : Gr (wr.alloc (.cells #[.int .i64 (m : Int), .int .i64 lb, .int .i64 lq] 103)) g t N Q := Blk.alloc h _
            have bx := bb.alloc (by omega) (.cells #[.int .i64 (m : Int), .int .i64 lb, .int .i64 lq] 103)
            have E3 := Lib.hid e3
            clear e3
            go_wp2_with fail
            refine (rhas g t N Q lb _ hx).mono ?_
            rintro r w' ⟨rfl, rfl⟩
            rw [E3.out]
            go_wp2_with fail
            go_ret
            exact ⟨by rw [(hbad hb).out.1]; rfl, by rw [(hbad hb).out.2]; exact hx, just_of bx⟩
          · have hx : Gr (wr.alloc (.cells #[.int .i64 (m : Int), .int .i64 (b : Int), .int .i64 lq] 103)) g t N Q := Blk.alloc h _
            have bx := bb.alloc (by omega) (.cells #[.int .i64 (m : Int), .int .i64 (b : Int), .int .i64 lq] 103)
            have E3 := Lib.hid e3
            have hb16 : b < 16 := by omega
            have g3 : (b : Int) < 16 := by omega
            clear e3
            go_wp2_with fail
            refine (rhas g t N Q b _ hx).mono ?_
            rintro r w' ⟨rfl, rfl⟩
            rw [E3.out]
            have kx1 := k1.alloc (.cells #[.int .i64 (m : Int), .int .i64 (b : Int), .int .i64 lq] 103)
            have kx2 := k2.alloc (.cells #[.int .i64 (m : Int), .int .i64 (b : Int), .int .i64 lq] 103)
            have ox := Own.new wr 103 #[.int .i64 (m : Int), .int .i64 (b : Int), .int .i64 lq]
            have sx : wr.heap.size < (wr.alloc (.cells #[.int .i64 (m : Int), .int .i64 (b : Int), .int .i64 lq] 103)).heap.size := by simp
            clear k1 k2 h c0 c1 c2 bb
            obtain ⟨r, hr⟩ : ∃ r, r = wr.heap.size := ⟨_, rfl⟩
            rw [← hr] at ox sx s2 ⊢
            generalize wr.alloc (.cells #[.int .i64 (m : Int), .int .i64 (b : Int), .int .i64 lq] 103) = wx at *
            clear hr
            have x0 : wx.cell? ⟨r, 0, none⟩ = some (.int .i64 m) := ox.cell 0
            have x1 : wx.cell? ⟨r, 1, none⟩ = some (.int .i64 b) := ox.cell 1
            have x2 : wx.cell? ⟨r, 2, none⟩ = some (.int .i64 lq) := ox.cell 2
            rcases hq with ⟨hb, e4⟩ | ⟨e4, ⟨hb, q1⟩ | ⟨hb, q1, q2⟩ | ⟨hb, q1, q2, q3⟩ | ⟨hb, q1, q2, q3⟩⟩
            · obtain rfl : b = m := by omega
              go_wp2_with fail
              go_ret
              exact ⟨by rw [(hbad hb).out.1]; rfl, by rw [(hbad hb).out.2]; exact hx, just_of bx⟩
            · go_wp2_with fail
              go_ret
              exact ⟨by rw [(hbad hb).out.1]; rfl, by rw [(hbad hb).out.2]; exact hx, just_of bx⟩
            · go_wp2_with fail
              go_ret
              exact ⟨by rw [(hbad hb).out.1]; rfl, by rw [(hbad hb).out.2]; exact hx, just_of bx⟩
            · have q4 : decide ((255 : Int) < lq) = false := by simp; omega
              have cs := kx2.cell (i := b) hb16
              rw [q3] at cs
              clear q3
              go_wp2_with fail
              go_ret
              exact ⟨by rw [(hbad hb).out.1]; rfl, by rw [(hbad hb).out.2]; exact hx, just_of bx⟩
            · have q4 : decide ((255 : Int) < lq) = false := by simp; omega
              have cs := kx2.cell (i := b) hb16
              rw [q3] at cs
              clear q3
              go_wp2_with fail
              have cr : wx.cell? ⟨w.heap.size, b, none⟩ = some (.int .i64 (rowR L k b)) := kx1.cell (i := b) hb16
              have fr : wx.frozen? ⟨w.heap.size, b, none⟩ = false := kx1.free b
              have fs : wx.frozen? ⟨w.heap.size + 1, b, none⟩ = false := kx2.free b
              clear x0
              generalize rowR L k b = rb at *
              go_region
              have kk1 := Lib.hid ((((Blk.apart kx1 (p := ⟨w.heap.size + 1, b, none⟩) (by simp) (.bool true)).put b (.int .i64 lq)).drewN 1).ext (U := fun i => .int .i64 (rowR L (k + 1) i)) fun i _ => by
                rw [hrow]
                by_cases e : i = b
                · rw [if_pos e, if_pos (by omega)]
                · rw [if_neg e, if_neg (by omega)])
              have kk2 := Lib.hid (((Blk.apart (kx2.put b (.bool true)) (p := ⟨w.heap.size, b, none⟩) (by simp) (.int .i64 lq)).drewN 1).ext (U := fun i => .bool (seenR L (k + 1) i)) fun i _ => by
                rw [hseen]
                by_cases e : i = b
                · rw [if_pos e, if_pos (by omega)]
                · rw [if_neg e, if_neg (by omega)])
              have hh := ((Blk.apart (Blk.apart hx (p := ⟨w.heap.size + 1, b, none⟩) (by simp; omega) (.bool true)) (p := ⟨w.heap.size, b, none⟩) (by simp; omega) (.int .i64 lq)).drewN 1)
              have b2 := below_drewN ((Just.set w.heap.size _ b (.int .i64 lq)).below ((Just.set (w.heap.size + 1) wx b (.bool true)).below bx (by omega) bx.size) (Nat.le_refl _) (by simp; exact bx.size)) 1
              have ho2 := hgd hb
              go_wp2_with fail
              exact ⟨⟨k + 1, by simp [intOf], by omega, ho2, kk1.out, kk2.out, hh, b2⟩, by simp [intOf]; omega⟩
        · obtain rfl : n = k := by omega
          have HP := Lib.hid (rep_yes (Q := Q) (HR.out.trans HO.out))
          obtain ⟨fs, hfs⟩ : ∃ fs : Array Value, fs = Array.ofFn (n := 16) fun i => .int .i64 (rowR L n i) := ⟨_, rfl⟩
          have hf16 : fs.size = 16 := by rw [hfs]; simp
          have hfc : fs.all (·.oneCell') = true := by rw [hfs]; exact ofn_cells (fun i => .int .i64 (rowR L n i)) 16 (fun _ => rfl)
          have hfl : fs.toList.length = 16 := by rw [Array.length_toList, hf16]
          have o1 : Own wr w.heap.size 79 fs := by rw [hfs]; exact k1
          have hth : wr.drew.there g (1 + m * 16) fs.size := by rw [hf16]; exact Blk.there (Blk.drewN h 1) (by omega)
          have hh := Lib.hid (Gr.row (Blk.drewN h 1) hm (rowR L n) fs.toList hfl (fun j hj => by
            rw [hfs, List.getD_eq_getElem?_getD, Array.getElem?_toList]
            simp [hj]))
          have jj := (just_of bb (b := g)).drewN 1 |>.trans (Just.puts g fs.toList _ (1 + m * 16))
          clear hlt hk k1 k2 HO hfs h
          go_upto_region 12 with (fail)
          refine wp_region_still_tail 6 (by kernel_rfl) (by kernel_rfl) ?_
          simp only [List.take_succ_cons, List.take_zero, List.drop_succ_cons, List.drop_zero]
          still_step
          still_step
          refine still_load rfl rfl rfl o1 Tryz.underlying79 rfl (by rw [hf16]; kernel_rfl) ?_
          repeat still_step
          refine wpStill_nil ?_
          change wpList _ _ _ _ _ wr.drew
          refine wpList_store_mid rfl 79 _ _ rfl g (1 + m * 16) fs rfl rfl hth (by rw [hf16]; kernel_rfl) hfc ?_
          go_wp2_with fail
          go_ret
          exact ⟨by rw [HP.out.1]; rfl, by rw [HP.out.2]; exact hh.out, jj⟩
end Go.Proofs.YtahcplddonipcaaGreat.Tp
