/-
  Law DupOnce: no number of a node is new twice, whatever order they come in; what is greater than all is new; the call returns true. No condition.
-/
import Derived.Test.YtbogpnfjlmhhhaaDupSeen
import Derived.Test.YtbogpnfjlmhhhaaDupBoth
import Derived.Test.YtbogpnfjlmhhhaaVar
import Derived.Deep.RegionHeld3
set_option maxRecDepth 100000
namespace Go.Proofs.Ytbogpnfjlmhhhaa.DupOnce
set_option linter.unusedVariables false
open Go.RowKit Go.ChangeShapes Go.WideShapes Go.ChangeAt Go.Deep Lb Dp Go.Maps
set_option linter.unusedVariables false
theorem own : ownKnob Try.prog.godebug = none := by kernel_rfl
theorem laidOut : laidOutB Try.prog = true := by kernel_rfl
/-- The greatest that came of node j. -/
def tp (L : Nat → Int) (S : Nat → Nat) (j : Nat) : Int := if S j = 0 then -1 else L j
def tv (X : Nat → Int) (j : Nat) : Value := .int .i64 (X j)
abbrev OwnS (w : World) (m k : Nat) (D : Dt) : Prop := w.ownsMap Try.prog 43 (plainElem Try.prog 3) m k D
theorem ownS_same {w w' : World} {m k : Nat} {D : Dt} (h : OwnS w m k D) (he : w'.heap[m]? = w.heap[m]?) : OwnS w' m k D := by
  obtain ⟨es, clock, hb, r⟩ := h
  exact ⟨es, clock, he.trans hb, r⟩
def Seen (L : Nat → Int) (S : Nat → Nat) (D : Dt) : Prop := ∀ (i : Nat) (n : Int), i < 16 → 0 ≤ n → n < 9223372036854775808 → D.atKey (pk i n) n0 = n0 ∨ (D.atKey (pk i n) n0 = n1 ∧ isN (L i) (S i) n = false)

theorem seen_new {L : Nat → Int} {S : Nat → Nat} {D : Dt} (h : Seen L S D) (hd : IsMap D) {i : Nat} {m : Int} (hi : i < 16) (h0 : 0 ≤ m) (h1 : m < 9223372036854775808) : Seen (upd L i (nL (L i) (S i) m)) (upd S i (nS (L i) (S i) m)) (D.put (pk i m) n1) := by
  intro j n hj g0 g1
  by_cases e : pk (j : Int) n = pk (i : Int) m
  · obtain ⟨e1, rfl⟩ := pk_inj (wf_of (by omega) (by omega)) (wf_of g0 g1) (wf_of (by omega) (by omega)) (wf_of h0 h1) e
    obtain rfl : j = i := by omega
    rw [atKey_put_same hd (pk_key _ _), upd_same, upd_same]
    exact .inr ⟨rfl, kn_new _ _ _⟩
  · rw [atKey_put_other e]
    by_cases hji : j = i
    · subst hji
      rw [upd_same, upd_same]
      rcases h j n hj g0 g1 with h2 | ⟨h2, h3⟩
      · exact .inl h2
      · exact .inr ⟨h2, kn_step m h3⟩
    · rw [upd_other _ _ hji, upd_other _ _ hji]
      exact h j n hj g0 g1
theorem tp_put {L : Nat → Int} {S : Nat → Nat} {i : Nat} {m t : Int} (h : tp (upd L i (nL (L i) (S i) m)) (upd S i (nS (L i) (S i) m)) i = t) (j : Nat) : (if j = i then Value.int .i64 t else tv (tp L S) j) = tv (tp (upd L i (nL (L i) (S i) m)) (upd S i (nS (L i) (S i) m))) j := by
  by_cases hj : j = i
  · subst hj
    rw [if_pos rfl, ← h]
    rfl
  · rw [if_neg hj]
    unfold tv tp
    rw [upd_other _ _ hj, upd_other _ _ hj]
theorem tp_next {L : Nat → Int} {S : Nat → Nat} {i : Nat} {m : Int} (hg : DGood (L i) (S i)) (h0 : 0 ≤ m) : tp (upd L i (nL (L i) (S i) m)) (upd S i (nS (L i) (S i) m)) i = max (tp L S i) m := by
  unfold tp
  rw [upd_same, upd_same, if_neg (nS_ne _ _ _)]
  unfold nL
  have := hg.2
  rw [Int.max_def]
  by_cases h : S i = 0
  · rw [if_pos (.inl h), if_pos h, if_pos (by omega)]
  · have := this h
    rw [if_neg h]
    split <;> split <;> omega
set_option maxHeartbeats 8000000 in
theorem body (a : Option Addr) (n c : Nat) (V : Nat → Value) (X0 : Nat → Bool) (X1 X2 : Nat → Int) (w : World) (hn : n ≤ c) (hc : c ≤ maxLen) (hV : Row w a (n * 3) V)
    (hC : ∀ i, i < n → V (i * 3) = .bool (X0 i) ∧ V (i * 3 + 1) = .int .i64 (X1 i) ∧ V (i * 3 + 2) = .int .i64 (X2 i) ∧ X2 i < 9223372036854775808) :
    Calls Try.prog 5 #[.slice a n c] w fun r w' => r = .returned (.bool true) ∧ Below w.heap.size w w' := by
  have hcap : (n : Int) ≤ 9223372036854775807 := by unfold maxLen at hc; omega
  have HC := Lib.hid hC
  have hmm := @run_makeMap Try.prog
  clear hC
  go_enter Try.func5, Try.ntmps5
  go_wp2_with fail
  refine (new_any _).mono ?_
  rintro r w1 ⟨rfl, h1, b1, s1⟩
  go_upto_region 3 with (fail)
  have hm1 := World.ownsMap_made (H := Unit) w1 Try.prog 43 (plainElem Try.prog 3)
  have h2 : Win (w1.alloc (.map #[] 0)) w.heap.size (fun _ => 0) (fun _ => 0) := Blk.alloc h1 _
  have b2 := b1.alloc (Nat.le_of_lt s1) (.map #[] 0)
  have s2 : w1.heap.size < (w1.alloc (.map #[] 0)).heap.size := by simp
  have hg : Hid (AllG (fun _ => 0) (fun _ => 0)) := Lib.hid (fun _ => good_zero 0)
  generalize w1.alloc (.map #[] 0) = w2 at *
  refine wp_zero_var (z := #[.int .i64 0, .int .i64 0, .int .i64 0, .int .i64 0, .int .i64 0, .int .i64 0, .int .i64 0, .int .i64 0, .int .i64 0, .int .i64 0, .int .i64 0, .int .i64 0, .int .i64 0, .int .i64 0, .int .i64 0, .int .i64 0]) rfl rfl rfl rfl rfl rfl rfl (by kernel_rfl) (by kernel_rfl) (by kernel_rfl) rfl rfl ?_
  have hm2 := World.ownsMap.alloc hm1 (.cells #[.int .i64 0, .int .i64 0, .int .i64 0, .int .i64 0, .int .i64 0, .int .i64 0, .int .i64 0, .int .i64 0, .int .i64 0, .int .i64 0, .int .i64 0, .int .i64 0, .int .i64 0, .int .i64 0, .int .i64 0, .int .i64 0] 42)
  have h3 : Win (w2.alloc (.cells #[.int .i64 0, .int .i64 0, .int .i64 0, .int .i64 0, .int .i64 0, .int .i64 0, .int .i64 0, .int .i64 0, .int .i64 0, .int .i64 0, .int .i64 0, .int .i64 0, .int .i64 0, .int .i64 0, .int .i64 0, .int .i64 0] 42)) w.heap.size (fun _ => 0) (fun _ => 0) := Blk.alloc h2 _
  have b3 := b2.alloc b2.size (.cells #[.int .i64 0, .int .i64 0, .int .i64 0, .int .i64 0, .int .i64 0, .int .i64 0, .int .i64 0, .int .i64 0, .int .i64 0, .int .i64 0, .int .i64 0, .int .i64 0, .int .i64 0, .int .i64 0, .int .i64 0, .int .i64 0] 42)
  have o3 := Own.new w2 42 #[.int .i64 0, .int .i64 0, .int .i64 0, .int .i64 0, .int .i64 0, .int .i64 0, .int .i64 0, .int .i64 0, .int .i64 0, .int .i64 0, .int .i64 0, .int .i64 0, .int .i64 0, .int .i64 0, .int .i64 0, .int .i64 0]
  have t3 : Blk (w2.alloc (.cells #[.int .i64 0, .int .i64 0, .int .i64 0, .int .i64 0, .int .i64 0, .int .i64 0, .int .i64 0, .int .i64 0, .int .i64 0, .int .i64 0, .int .i64 0, .int .i64 0, .int .i64 0, .int .i64 0, .int .i64 0, .int .i64 0] 42)) w2.heap.size 42 16 (tv (fun j => if j < 0 then -1 else 0)) := Blk.of o3 (by simp) (fun i hi => by
    unfold tv
    rcases (show i = 0 ∨ i = 1 ∨ i = 2 ∨ i = 3 ∨ i = 4 ∨ i = 5 ∨ i = 6 ∨ i = 7 ∨ i = 8 ∨ i = 9 ∨ i = 10 ∨ i = 11 ∨ i = 12 ∨ i = 13 ∨ i = 14 ∨ i = 15 by omega) with rfl | rfl | rfl | rfl | rfl | rfl | rfl | rfl | rfl | rfl | rfl | rfl | rfl | rfl | rfl | rfl <;> rfl)
  have s3 : w2.heap.size < (w2.alloc (.cells #[.int .i64 0, .int .i64 0, .int .i64 0, .int .i64 0, .int .i64 0, .int .i64 0, .int .i64 0, .int .i64 0, .int .i64 0, .int .i64 0, .int .i64 0, .int .i64 0, .int .i64 0, .int .i64 0, .int .i64 0, .int .i64 0] 42)).heap.size := by simp
  generalize w2.alloc (.cells #[.int .i64 0, .int .i64 0, .int .i64 0, .int .i64 0, .int .i64 0, .int .i64 0, .int .i64 0, .int .i64 0, .int .i64 0, .int .i64 0, .int .i64 0, .int .i64 0, .int .i64 0, .int .i64 0, .int .i64 0, .int .i64 0] 42) = w3 at *
  generalize hgm : w1.heap.size = gm at *
  generalize hgt : w2.heap.size = gt at *
  clear h1 b1 hm1 h2 b2 o3 hmm
  go_wp2_with fail
  go_loopw [14] (fun i wr => ∃ k : Nat, i = .int .i64 k ∧ k ≤ 16 ∧ Blk wr gt 42 16 (tv (fun j => if j < k then -1 else 0)) ∧ Just gt w3 wr) (fun i _ => 16 - (intOf i).toNat)
  case atStart => exact ⟨0, rfl, by omega, t3, Just.refl _ _⟩
  case round =>
    clear t3
    obtain ⟨k, rfl, hk, t4, j4⟩ := hrel
    by_cases hlt : k < 16
    · have g1 : (k : Int) < 16 := by omega
      have c0 := t4.cell hlt
      have f0 := t4.free k
      have c0 : wr.cell? ⟨gt, k, none⟩ = some (.int .i64 0) := by rw [c0]; unfold tv; dsimp only; rw [if_neg (Nat.lt_irrefl k)]
      have HP := Lib.hid ((t4.put k (.int .i64 (-1))).ext (U := tv (fun j => if j < k + 1 then -1 else 0)) (fun j hj => by
        unfold tv
        dsimp only
        by_cases h : j = k
        · rw [if_pos h, if_pos (by omega)]
        · rw [if_neg h]
          by_cases h2 : j < k
          · rw [if_pos h2, if_pos (by omega)]
          · rw [if_neg h2, if_neg (by omega)]))
      go_wp2_with fail
      exact ⟨⟨k + 1, by simp [intOf], by omega, HP.out, j4.put _ _⟩, by simp [intOf]; omega⟩
    · have hk16 : k = 16 := by omega
      have g16 : decide ((k : Int) < 16) = false := by simp; omega
      have t5 : Blk wr gt 42 16 (tv (tp (fun _ => 0) (fun _ => 0))) := t4.ext (fun j hj => by
        unfold tv tp
        dsimp only
        rw [if_pos (by omega), if_pos rfl])
      have h5 : Win wr w.heap.size (fun _ => 0) (fun _ => 0) := j4.blk h3 (by omega)
      have b5 := j4.below b3 (by omega) b3.size
      have m5 : OwnS wr gm 0 (.map []) := by
        exact ownS_same hm2 (j4.block gm (by omega) (by omega))
      have q5 : Hid (Seen (fun _ => 0) (fun _ => 0) (.map [])) := Lib.hid (fun _ _ _ _ _ => .inl rfl)
      have d5 : IsMap (DataW.map [] : Dt) := isMap_empty
      have HK16 := Lib.hid hk16
      clear t4 j4 h3 b3 hm2 hk16 hk hlt
      go_wp2_with fail
      go_loopw [22] (fun i wr => ∃ (k : Nat) (L : Nat → Int) (S : Nat → Nat) (D : Dt), i = .int .i64 k ∧ k ≤ n ∧ k ≤ 300 ∧ Win wr w.heap.size L S ∧ OwnS wr gm k D ∧ IsMap D ∧ Blk wr gt 42 16 (tv (tp L S)) ∧ Hid (AllG L S) ∧ Hid (Seen L S D) ∧ Below w.heap.size w wr) (fun i _ => n - (intOf i).toNat)
      case atStart => exact ⟨0, _, _, _, rfl, by omega, by omega, h5, m5, d5, t5, hg, q5, b5⟩
      case round =>
        clear h5 m5 d5 t5 hg q5 b5
        obtain ⟨k, L, S, D, rfl, hk, hk3, h1, m1, d1, t1, hg, hq, bb⟩ := hrel
        by_cases hlt : k < n ∧ k < 300
        · obtain ⟨hlt, h300⟩ := hlt
          have e300 : decide ((300 : Int) ≤ (k : Int)) = false := by simp; omega
          obtain ⟨bo, off, rfl, hbo, hcs⟩ := hV.at_struct bb hlt (by decide)
          obtain ⟨e0, e1, e2, e3⟩ := HC.out k hlt
          have c0 := (hcs 0 (by decide)).trans (congrArg some e0)
          have c1 := (hcs 1 (by decide)).trans (congrArg some e1)
          have c2 := (hcs 2 (by decide)).trans (congrArg some e2)
          rw [Nat.add_zero] at c0
          clear hcs e0 e1 e2
          generalize X0 k = f at *
          generalize X1 k = x at *
          generalize X2 k = m at *
          have h2 : Win (wr.alloc (.cells #[.bool f, .int .i64 x, .int .i64 m] 33)) w.heap.size L S := Blk.alloc h1 _
          have m2 : OwnS (wr.alloc (.cells #[.bool f, .int .i64 x, .int .i64 m] 33)) gm k D := World.ownsMap.alloc m1 (.cells #[.bool f, .int .i64 x, .int .i64 m] 33)
          have t2 : Blk (wr.alloc (.cells #[.bool f, .int .i64 x, .int .i64 m] 33)) gt 42 16 (tv (tp L S)) := Blk.alloc t1 _
          have bx := bb.alloc bb.size (.cells #[.bool f, .int .i64 x, .int .i64 m] 33)
          have ox := Own.new wr 33 #[.bool f, .int .i64 x, .int .i64 m]
          have zt := t1.lt
          obtain ⟨er, her⟩ : ∃ er, ansN L S x m = er := ⟨_, rfl⟩
          have HE := Lib.hid her
          clear her
          go_wp2_with fail
          generalize hrr : wr.heap.size = r at *
          generalize wr.alloc (.cells #[.bool f, .int .i64 x, .int .i64 m] 33) = wx at *
          clear c0 c1 c2 h1 m1 t1 bb
          have x1 : wx.cell? ⟨r, 1, none⟩ = some (.int .i64 x) := ox.cell 1
          have x2 : wx.cell? ⟨r, 2, none⟩ = some (.int .i64 m) := ox.cell 2
          refine (wnew_any w.heap.size L S x m _ h2 e3 hg.out).mono ?_
          rintro q w5 ⟨rfl, h6, j6⟩
          rw [HE.out]
          have t6 := j6.blk t2 (by omega)
          have o6 := j6.own ox (by omega)
          have b6 := j6.below bx (Nat.le_refl _) bx.size
          have m6 : OwnS w5 gm k D := by
            have hlt2 := World.ownsMap.lt m2
            exact ownS_same m2 (j6.block gm hlt2 (by omega))
          have y1 : w5.cell? ⟨r, 1, none⟩ = some (.int .i64 x) := o6.cell 1
          have y2 : w5.cell? ⟨r, 2, none⟩ = some (.int .i64 m) := o6.cell 2
          clear x1 x2 h2 t2 ox bx
          by_cases hin : 0 ≤ x ∧ x < 16 ∧ 0 ≤ m
          · obtain ⟨i, rfl⟩ := Int.eq_ofNat_of_zero_le hin.1
            have hi : i < 16 := by omega
            have hm0 := hin.2.2
            have nn1 : decide ((i : Int) < 0) = false := by simp
            have nn2 : decide ((15 : Int) < (i : Int)) = false := by simp; omega
            have nn3 : decide (m < 0) = false := by simp; omega
            clear hin
            have hwi : (Lit.int .i64 (i : Int)).wf = true := wf_of (by omega) (by omega)
            have hwm : (Lit.int .i64 m).wf = true := wf_of hm0 e3
            have HE2 : Hid (isN (L i) (S i) m = er) := Lib.hid (by
              have := HE.out
              unfold ansN inB at this
              rwa [decide_eq_true ⟨by omega, by omega, hm0⟩, Int.toNat_natCast, Bool.true_and] at this)
            have hL : stepL L S (i : Int) m = upd L i (nL (L i) (S i) m) := by
              unfold stepL inB
              rw [if_pos (decide_eq_true ⟨by omega, by omega, hm0⟩), Int.toNat_natCast]
            have hS : stepS L S (i : Int) m = upd S i (nS (L i) (S i) m) := by
              unfold stepS inB
              rw [if_pos (decide_eq_true ⟨by omega, by omega, hm0⟩), Int.toNat_natCast]
            have hg2 := Lib.hid (allG_step (x := (i : Int)) hg.out e3)
            rw [hL, hS] at h6 hg2
            clear hL hS HE
            have k7 : Win (w5.alloc (.cells #[.int .i64 (i : Int), .int .i64 m] 43)) w.heap.size (upd L i (nL (L i) (S i) m)) (upd S i (nS (L i) (S i) m)) := Blk.alloc h6 _
            have m7 : OwnS (w5.alloc (.cells #[.int .i64 (i : Int), .int .i64 m] 43)) gm k D := World.ownsMap.alloc m6 _
            have t7 : Blk (w5.alloc (.cells #[.int .i64 (i : Int), .int .i64 m] 43)) gt 42 16 (tv (tp L S)) := Blk.alloc t6 _
            have o7 : Own (w5.alloc (.cells #[.int .i64 (i : Int), .int .i64 m] 43)) r 33 #[.bool f, .int .i64 (i : Int), .int .i64 m] := Own.alloc o6 _
            have p7 := Own.new w5 43 #[.int .i64 (i : Int), .int .i64 m]
            have b7 := b6.alloc b6.size (.cells #[.int .i64 (i : Int), .int .i64 m] 43)
            have sr := o6.lt
            cases er
            · go_wp2_with fail
              generalize hkb : w5.heap.size = kb at *
              generalize w5.alloc (.cells #[.int .i64 (i : Int), .int .i64 m] 43) = wz at *
              clear h6 m6 t6 o6 b6 y1 y2
              obtain ⟨hn1, hn2, _⟩ := kn_iff.1 HE2.out
              obtain ⟨eL, eS⟩ := isN_false HE2.out
              obtain ⟨cc, hcc, hcc2⟩ : ∃ cc : Int, D.atKey (pk i m) n0 = .lit (.int .i64 cc) ∧ (cc = 0 ∨ cc = 1) := by
                rcases hq.out i m hi hm0 e3 with h | ⟨h, _⟩
                · exact ⟨0, h, .inl rfl⟩
                · exact ⟨1, h, .inr rfl⟩
              have g1 : decide ((1 : Int) < cc) = false := by simp only [decide_eq_false_iff_not]; omega
              have l8 : ∀ z : Nat, (Instr.lookup 41 (.map (some gm)) (.agg #[.int .i64 (i : Int), .int .i64 m]) false).run Try.prog (wz.drewN z) = .ok (.int .i64 cc) (wz.drewN z) := fun z => by
                obtain ⟨c2, r1, r2, _⟩ := World.ownsMap.lookup_int (w := wz.drewN z) (m7 : OwnS (wz.drewN z) gm k _) law2 Try.underlying41 Try.underlying3 (zeroJ _) (key2 hwi hwm)
                have e := r2.symm.trans hcc
                rw [(Lit.int.inj (DataW.lit.inj e)).2] at r1
                exact r1
              have l9 := l8 1
              have u0 : wz.cell? ⟨kb, 0, none⟩ = some (.int .i64 (i : Int)) := p7.cell 0
              have u1 : wz.cell? ⟨kb, 1, none⟩ = some (.int .i64 m) := p7.cell 1
              have v1 : wz.cell? ⟨r, 1, none⟩ = some (.int .i64 (i : Int)) := o7.cell 1
              have v2 : wz.cell? ⟨r, 2, none⟩ = some (.int .i64 m) := o7.cell 2
              obtain ⟨t0, ht0⟩ : ∃ t0, tp L S i = t0 := ⟨_, rfl⟩
              have v3 : wz.cell? ⟨gt, i, none⟩ = some (.int .i64 t0) := by rw [t7.cell hi, ← ht0]; rfl
              have h1 : decide (t0 < m) = false := by
                rw [← ht0]; unfold tp
                rw [if_neg hn1, decide_eq_false_iff_not]
                omega
              have hmx : Hid (tp (upd L i (nL (L i) (S i) m)) (upd S i (nS (L i) (S i) m)) i = max t0 m) := Lib.hid (by rw [tp_next (hg.out i) hm0, ht0])
              have hqs : Hid (Seen (upd L i (nL (L i) (S i) m)) (upd S i (nS (L i) (S i) m)) D) := Lib.hid (by
                rw [eL, eS, upd_self, upd_self]
                exact hq.out)
              have hT0 := Lib.hid ht0
              clear ht0 hn1 hn2 eL eS hcc hcc2
              go_wp2_with fail
              go_quiet (fail)
              go_wp2_with fail
              clear l8 l9
              generalize hwC : wz.drewN _ = wC at *
              have kC : Win wC w.heap.size (upd L i (nL (L i) (S i) m)) (upd S i (nS (L i) (S i) m)) := by rw [← hwC]; exact Blk.drewN k7 _
              have mC : OwnS wC gm (k + 1) D := by rw [← hwC]; exact World.ownsMap.mono m7 (Nat.le_succ k)
              have tC : Blk wC gt 42 16 (tv (tp L S)) := by rw [← hwC]; exact Blk.drewN t7 _
              have oC : Own wC r 33 #[.bool f, .int .i64 (i : Int), .int .i64 m] := by rw [← hwC]; exact o7
              have bC : Below w.heap.size w wC := by rw [← hwC]; exact below_drewN b7 _
              clear hwC
              have v1 : wC.cell? ⟨r, 1, none⟩ = some (.int .i64 (i : Int)) := oC.cell 1
              have v2 : wC.cell? ⟨r, 2, none⟩ = some (.int .i64 m) := oC.cell 2
              have v3 : wC.cell? ⟨gt, i, none⟩ = some (.int .i64 t0) := by rw [tC.cell hi, ← hT0.out]; rfl
              have v4 : wC.frozen? ⟨gt, i, none⟩ = false := tC.free i
              have jC := (Just.set gt wC i (.int .i64 (max t0 m))).drewN 1
              have HT := Lib.hid ((tC.put i (.int .i64 (max t0 m))).ext (fun j _ => tp_put hmx.out j))
              have HM := Lib.hid (ownS_same mC (jC.block gm (World.ownsMap.lt mC) (by omega)))
              go_region
              all_goals
                go_wp2_with fail
                exact ⟨⟨k + 1, _, _, _, by simp [intOf], by omega, by omega, jC.blk kC (by omega), HM.out, d1, HT.out, hg2, hqs, jC.below bC (by omega) bC.size⟩, by simp [intOf]; omega⟩
            · go_wp2_with fail
              generalize hkb : w5.heap.size = kb at *
              generalize w5.alloc (.cells #[.int .i64 (i : Int), .int .i64 m] 43) = wz at *
              clear h6 m6 t6 o6 b6 y1 y2
              obtain ⟨cc, v0, st, wA, q1, q2, q3, q4, q5⟩ := entry_own klaw2 Try.underlying41 Try.underlying3 zeroJ (w := wz.drew) m7 (by unfold maxLen; omega) (key2 hwi hwm)
              have hcc : cc = 0 := by
                rcases hq.out i m hi hm0 e3 with h | ⟨_, h⟩
                · exact (Lit.int.inj (DataW.lit.inj (q2.symm.trans h))).2
                · rw [HE2.out] at h
                  cases h
              subst hcc
              obtain ⟨wB, q6, q7, q8⟩ := q5 1 (by decide)
              clear q5 q2
              unfold goInt at q3 q6
              have k0 : wz.cell? ⟨kb, 0, none⟩ = some (.int .i64 (i : Int)) := p7.cell 0
              have k1 : wz.cell? ⟨kb, 1, none⟩ = some (.int .i64 m) := p7.cell 1
              go_region
              all_goals
                have hk8 : ∀ q, q < wz.heap.size → q ≠ gm → wB.heap[q]? = wz.heap[q]? := fun q hq hne => q8.block q hq (fun e => hne (by injection e))
                have sz : r < wz.heap.size := o7.lt
                have k8 : Win wB w.heap.size (upd L i (nL (L i) (S i) m)) (upd S i (nS (L i) (S i) m)) := (hk8 _ k7.lt (by omega)).trans k7
                have t8 : Blk wB gt 42 16 (tv (tp L S)) := (hk8 _ t7.lt (by omega)).trans t7
                have o8 : Own wB r 33 #[.bool f, .int .i64 (i : Int), .int .i64 m] := (hk8 _ o7.lt (by omega)).trans o7
                have p8 : Own wB kb 43 #[.int .i64 (i : Int), .int .i64 m] := (hk8 _ p7.lt (by omega)).trans p7
                have b8 : Below w.heap.size w wB := (below_drewN b7 1).grown q8 b7.size (fun q hq => by injection hq with hq; omega)
                have l8 : ∀ z : Nat, (Instr.lookup 41 (.map (some gm)) (.agg #[.int .i64 (i : Int), .int .i64 m]) false).run Try.prog (wB.drewN z) = .ok (.int .i64 1) (wB.drewN z) := fun z => by
                  obtain ⟨c2, r1, r2, _⟩ := World.ownsMap.lookup_int (w := wB.drewN z) (q7 : OwnS (wB.drewN z) gm (k + 1) _) law2 Try.underlying41 Try.underlying3 (zeroJ _) (key2 hwi hwm)
                  have e := r2.symm.trans (atKey_put_same d1 (pk_key i m) _ _)
                  rw [(Lit.int.inj (DataW.lit.inj e)).2] at r1
                  exact r1
                have l9 := l8 1
                have u0 : wB.cell? ⟨kb, 0, none⟩ = some (.int .i64 (i : Int)) := p8.cell 0
                have u1 : wB.cell? ⟨kb, 1, none⟩ = some (.int .i64 m) := p8.cell 1
                have v1 : wB.cell? ⟨r, 1, none⟩ = some (.int .i64 (i : Int)) := o8.cell 1
                have v2 : wB.cell? ⟨r, 2, none⟩ = some (.int .i64 m) := o8.cell 2
                have hT := HE2.out
                obtain ⟨t0, ht0⟩ : ∃ t0, tp L S i = t0 := ⟨_, rfl⟩
                have v3 : wB.cell? ⟨gt, i, none⟩ = some (.int .i64 t0) := by rw [t8.cell hi, ← ht0]; rfl
                have v4 : wB.frozen? ⟨gt, i, none⟩ = false := t8.free i
                have hbd : -1 ≤ t0 ∧ t0 < 9223372036854775808 := by
                  rw [← ht0]; unfold tp
                  have := (hg.out i).2
                  split
                  · omega
                  · have := this (by assumption); omega
                have hnew : t0 < m ∨ (decide (t0 < m) = false ∧ t0 - m < 64) := by
                  unfold isN at hT
                  rw [decide_eq_true_eq] at hT
                  rw [← ht0]; unfold tp
                  split
                  · omega
                  · simp only [decide_eq_false_iff_not]; omega
                have hmx : Hid (tp (upd L i (nL (L i) (S i) m)) (upd S i (nS (L i) (S i) m)) i = max t0 m) := Lib.hid (by rw [tp_next (hg.out i) hm0, ht0])
                have hT0 := Lib.hid ht0
                clear hT ht0 q1 q3 q4 q6 k0 k1 k7 t7 o7 p7 b7 hk8
                have hfour : (t0 < m ∧ 64 ≤ t0 ∧ decide (m ≤ t0 - 64) = false) ∨ (t0 < m ∧ decide ((64 : Int) ≤ t0) = false) ∨ (decide (t0 < m) = false ∧ 64 ≤ t0 ∧ decide (m ≤ t0 - 64) = false) ∨ (decide (t0 < m) = false ∧ decide ((64 : Int) ≤ t0) = false) := by
                  simp only [decide_eq_false_iff_not] at *
                  omega
                clear hnew
                rcases hfour with ⟨h1, h4, h5⟩ | ⟨h1, h4⟩ | ⟨h1, h4, h5⟩ | ⟨h1, h4⟩
                all_goals
                  go_wp2_with fail
                  go_quiet (fail)
                  go_wp2_with fail
                  clear l8 l9
                  generalize hwC : wB.drewN _ = wC at *
                  have kC : Win wC w.heap.size (upd L i (nL (L i) (S i) m)) (upd S i (nS (L i) (S i) m)) := by rw [← hwC]; exact Blk.drewN k8 _
                  have mC : OwnS wC gm (k + 1) (D.put (pk i m) n1) := by rw [← hwC]; exact q7
                  have tC : Blk wC gt 42 16 (tv (tp L S)) := by rw [← hwC]; exact Blk.drewN t8 _
                  have oC : Own wC r 33 #[.bool f, .int .i64 (i : Int), .int .i64 m] := by rw [← hwC]; exact o8
                  have bC : Below w.heap.size w wC := by rw [← hwC]; exact below_drewN b8 _
                  clear hwC
                  have v1 : wC.cell? ⟨r, 1, none⟩ = some (.int .i64 (i : Int)) := oC.cell 1
                  have v2 : wC.cell? ⟨r, 2, none⟩ = some (.int .i64 m) := oC.cell 2
                  have v3 : wC.cell? ⟨gt, i, none⟩ = some (.int .i64 t0) := by rw [tC.cell hi, ← hT0.out]; rfl
                  have v4 : wC.frozen? ⟨gt, i, none⟩ = false := tC.free i
                  have jC := (Just.set gt wC i (.int .i64 (max t0 m))).drewN 1
                  have HT := Lib.hid ((tC.put i (.int .i64 (max t0 m))).ext (fun j _ => tp_put hmx.out j))
                  have HM := Lib.hid (ownS_same mC (jC.block gm (World.ownsMap.lt mC) (by omega)))
                  go_region
                  all_goals
                    go_wp2_with fail
                    exact ⟨⟨k + 1, _, _, _, by simp [intOf], by omega, by omega, jC.blk kC (by omega), HM.out, d1.put _ _, HT.out, hg2, Lib.hid (seen_new hq.out d1 hi hm0 e3), jC.below bC (by omega) bC.size⟩, by simp [intOf]; omega⟩
          · have hB : Hid (ansN L S x m = false) := Lib.hid (by
              unfold ansN inB
              rw [decide_eq_false hin]
              rfl)
            have hL : stepL L S x m = L := by
              unfold stepL inB
              rw [if_neg (by rw [decide_eq_true_eq]; exact hin)]
            have hS : stepS L S x m = S := by
              unfold stepS inB
              rw [if_neg (by rw [decide_eq_true_eq]; exact hin)]
            have he : er = false := by rw [← HE.out, hB.out]
            subst he
            rw [hL, hS] at h6
            clear hL hS hB HE
            have hcs : x < 0 ∨ (decide (x < 0) = false ∧ 15 < x) ∨ (decide (x < 0) = false ∧ decide (15 < x) = false ∧ m < 0) := by
              simp only [decide_eq_false_iff_not]
              omega
            clear hin
            rcases hcs with g1 | ⟨g1, g2⟩ | ⟨g1, g2, g3⟩
            all_goals
              go_wp2_with fail
              exact ⟨⟨k + 1, _, _, _, by simp [intOf], by omega, by omega, h6, World.ownsMap.mono m6 (Nat.le_succ k), d1, t6, hg, hq, b6⟩, by simp [intOf]; omega⟩
        · have hx : (k < n ∧ decide ((300 : Int) ≤ (k : Int)) = true) ∨ ¬ k < n := by
            by_cases h1 : k < n
            · exact .inl ⟨h1, by simp; omega⟩
            · exact .inr h1
          clear hlt
          rcases hx with ⟨hlt, e300⟩ | hlt
          · obtain ⟨bo, off, rfl, hbo, hcs⟩ := hV.at_struct bb hlt (by decide)
            obtain ⟨e0, e1, e2, e3⟩ := HC.out k hlt
            have c0 := (hcs 0 (by decide)).trans (congrArg some e0)
            have c1 := (hcs 1 (by decide)).trans (congrArg some e1)
            have c2 := (hcs 2 (by decide)).trans (congrArg some e2)
            rw [Nat.add_zero] at c0
            clear hcs e0 e1 e2
            have bx := bb.alloc bb.size (.cells #[.bool (X0 k), .int .i64 (X1 k), .int .i64 (X2 k)] 33)
            go_wp2_with fail
            refine (awake_any _).mono ?_
            rintro r w9 ⟨rfl, b9⟩
            have bb := bx.trans (b9.mono bx.size)
            go_wp2_with fail
            go_ret
            exact ⟨rfl, bb⟩
          · go_wp2_with fail
            refine (awake_any _).mono ?_
            rintro r w9 ⟨rfl, b9⟩
            have bb := bb.trans (b9.mono bb.size)
            go_wp2_with fail
            go_ret
            exact ⟨rfl, bb⟩

theorem walk (H : Type) (enc : TypeId × Value → H) : Walk H enc Try.prog 5 Try.f5 := by
  intro W base args ds p hval hA
  rw [Try.params5] at hA hval
  obtain ⟨v0, d0, rfl, rfl, h0⟩ := trodAll_one hA
  obtain ⟨a, n, c, V, rfl, hn, hm, hV, hf⟩ := open_row_struct Try.underlying22 Try.underlying33 (by kernel_rfl) (by kernel_rfl) (by decide) (hval 0 _ v0 rfl rfl) h0
  obtain ⟨X0, e0⟩ := field_bool (n := n) (m := 3) (j := 0) Try.underlying4 (fun i hi => hf i hi 0 _ rfl)
  obtain ⟨X1, e1⟩ := field_int (n := n) (m := 3) (j := 1) Try.underlying3 (fun i hi => hf i hi 1 _ rfl)
  obtain ⟨X2, e2⟩ := field_int (n := n) (m := 3) (j := 2) Try.underlying3 (fun i hi => hf i hi 2 _ rfl)
  exact body a n c V X0 X1 X2 W hn hm hV (fun i hi => ⟨e0 i hi, (e1 i hi).1, (e2 i hi).1, by have := i64_bd (e2 i hi).2; omega⟩)

set_option maxRecDepth 100000 in
theorem lifted (os : Os) (started : os.Started) (H : Type) (enc : TypeId × Value → H) :
    ReturnsInHanded {} Try.checked os 5 .any (Rows.dupOnceSpec.pre6 enc Try.prog Try.f5 Rows.dupOnceRow.domain false) (Rows.dupOnceSpec.post enc Try.prog Try.f5 false true false false) :=
  returnsInHanded_of_change (C := Try.checked) own started (by kernel_rfl) Try.func5
    (ChangeSpec.witness6 (enc := enc) (C := Try.checked) false ⟨#[], #[.slice none 0 0], []⟩ 8 (by kernel_rfl) (by kernel_rfl) (by kernel_rfl) (by kernel_rfl))
    fun W base args ds gs before hval hW _ _ => step_of_walk laidOut (by rw [Try.params5]; exact of_decide_eq_true (by kernel_rfl)) (by kernel_rfl) Try.underlying4 rfl
      (fun ds h => by
        rw [Try.params5] at h
        match ds, h with
        | [_], _ => rfl) (walk H enc) W base args ds gs before hval hW

theorem holds : Rows.DupOnceSaid :=
  OpenClaim.holds_of_wide 5 Try.f5 rfl rfl rfl rfl rfl rfl rfl ⟨rfl, rfl, rfl, rfl, rfl⟩ rfl rfl rfl rfl rfl (by kernel_rfl) Try.func5 (by kernel_rfl)
    (of_decide_eq_true (by kernel_rfl)) (by unfold Func.isWrapper; first | (rw [if_pos (by decide +kernel)]; kernel_rfl) | (rw [if_neg (by decide +kernel)]; exact ⟨rfl, rfl⟩))
    (fun os started H enc _ => lifted os started H enc)
#print axioms holds
end Go.Proofs.Ytbogpnfjlmhhhaa.DupOnce
