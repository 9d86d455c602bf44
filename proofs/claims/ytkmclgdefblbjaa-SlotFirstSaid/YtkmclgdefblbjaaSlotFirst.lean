/-
  Law SlotFirst: what sends goes ahead of all that listens, and what stands ahead goes first; what stands behind changes nothing; the call returns true. No condition.
-/
import Derived.Test.YtkmclgdefblbjaaSlotLaws
import Derived.Test.YtkmclgdefblbjaaSlotStep
import Derived.Test.YtkmclgdefblbjaaCellArg
import Derived.Test.YtkmclgdefblbjaaOwnK
import Derived.Deep.Cut
import Derived.Deep.RegionHeld3
import Derived.StillTactics
set_option maxRecDepth 100000
namespace Go.Proofs.Ytkmclgdefblbjaa.SlotFirst
set_option linter.unusedVariables false
open Go.RowKit Go.ChangeShapes Go.WideShapes Go.ChangeAt Go.Deep Lb Cl Sl
set_option linter.unusedVariables false
theorem own : ownKnob Try.prog.godebug = none := by kernel_rfl
theorem laidOut : laidOutB Try.prog = true := by kernel_rfl
theorem infoC : (Try.prog.info? 26).map (fun i => (i.zero, i.size, i.bytes)) = some (some (.agg #[.int .i64 0, .int .i64 0, .int .i64 0, .int .i64 0, .int .i64 0]), 5, 40) := by kernel_rfl
def both (L M : Nat → C) (n k : Nat) : C := if k < n then L k else M (k - n)
theorem both_cv (L M : Nat → C) (n i : Nat) : (if i < n * 5 then cv L i else cv M (i - n * 5)) = cv (both L M n) i := by
  unfold cv both
  by_cases h : i < n * 5
  · rw [if_pos h, if_pos (by omega)]
  · rw [if_neg h, if_neg (by omega), show (i - n * 5) / 5 = i / 5 - n by omega, show (i - n * 5) % 5 = i % 5 by omega]
theorem cv_one (L : Nat → C) (i : Nat) : (cv L i).oneCell' = true := by
  unfold cv
  rcases (show i % 5 = 0 ∨ i % 5 = 1 ∨ i % 5 = 2 ∨ i % 5 = 3 ∨ i % 5 = 4 by omega) with h | h | h | h | h <;> rw [h] <;> rfl
theorem MineK.first {w : World} {b s n : Nat} {e : TypeId} {v : Value} {U V : Nat → Value} (h : MineK w b e s v (0 + n) (fun i => if i < 0 * s then U i else V (i - 0 * s))) : MineK w b e s v n V := by
  rw [Nat.zero_add] at h
  exact h.ext fun i hi => by rw [Nat.zero_mul, if_neg (by omega), Nat.sub_zero]

set_option maxHeartbeats 8000000 in
theorem body (a a2 b : Option Addr) (n c n2 c2 m e : Nat) (L M : Nat → C) (W : Nat → Int) (free : Bool) (w : World) (hn : n ≤ c) (hc : c ≤ maxLen) (hn2 : n2 ≤ c2) (hc2 : c2 ≤ maxLen) (hm : m ≤ e) (he : e ≤ maxLen)
    (hL : Row w a (n * 5) (cv L)) (hM : Row w a2 (n2 * 5) (cv M)) (hW : Row w b m (fun i => .int .i64 (W i))) :
    Calls Try.prog 4 #[.slice a n c, .slice a2 n2 c2, .slice b m e, .bool free] w fun r w' => r = .returned (.bool true) ∧ Below w.heap.size w w' := by
  by_cases h1 : 100 < n
  · have g1 : (100 : Int) < (n : Int) := by omega
    go_enter Try.func4, Try.ntmps4
    go_wp2_with fail
    all_goals
      refine (awake_any _).mono ?_
      rintro r w9 ⟨rfl, b9⟩
      go_wp2_with fail
      go_ret
      exact ⟨rfl, b9⟩
  · have g1 : decide ((100 : Int) < (n : Int)) = false := by simp; omega
    by_cases h2 : 100 < m
    · have g2 : (100 : Int) < (m : Int) := by omega
      clear h1
      go_enter Try.func4, Try.ntmps4
      go_wp2_with fail
      all_goals
        refine (awake_any _).mono ?_
        rintro r w9 ⟨rfl, b9⟩
        go_wp2_with fail
        go_ret
        exact ⟨rfl, b9⟩
    · have g2 : decide ((100 : Int) < (m : Int)) = false := by simp; omega
      by_cases h3 : 100 < n2
      · have g3 : (100 : Int) < (n2 : Int) := by omega
        clear h1 h2
        go_enter Try.func4, Try.ntmps4
        go_wp2_with fail
        refine (awake_any _).mono ?_
        rintro r w9 ⟨rfl, b9⟩
        go_wp2_with fail
        go_ret
        exact ⟨rfl, b9⟩
      · have g3 : decide ((100 : Int) < (n2 : Int)) = false := by simp; omega
        have hs : n ≤ 100 ∧ n2 ≤ 100 ∧ m ≤ 100 := by omega
        clear h1 h2 h3
        rcases first_cases (L := L) (n := n) (m := m) (W := W) (free := free) with ⟨k, i, hk, hi, hd, htx, hsh, hp, hmore⟩ | ⟨k, hd, hrx, hno⟩ | hd
        · have hE : dec (both L M n) (n + n2) W m free = ⟨1, L k, i⟩ := hmore (both L M n) (n + n2) (by omega) (fun q hq => by unfold both; rw [if_pos hq])
          clear hmore
          generalize L k = xk at *
          obtain ⟨fx, sx, cx, ox, px⟩ := xk
          dsimp only at *
          have HD := Lib.hid hd
          have HE := Lib.hid hE
          have t1 := (tx_is _ _ htx).2
          have t4 : (bits .and .i64 ox 4 != 0) = shB ox := rfl
          clear hd hE htx
          obtain ⟨i0, hi0, hz0, hz1, hz2⟩ := info_parts infoC
          go_enter Try.func4, Try.ntmps4
          go_wp2_with fail
          refine (decide_any a b n c m e L W free _ hn hc hm he hL hW).mono ?_
          rintro r w1 ⟨rfl, b1⟩
          rw [HD.out]
          simp only [A.vals]
          have o1 := Own.new w1 28 #[.int .i64 1, .int .i64 fx, .int .i64 sx, .int .i64 cx, .int .i64 ox, .int .i64 px, .int .i64 (i : Int)]
          have b1 := b1.alloc b1.size (.cells #[.int .i64 1, .int .i64 fx, .int .i64 sx, .int .i64 cx, .int .i64 ox, .int .i64 px, .int .i64 (i : Int)] 28)
          go_upto_region 4 with (fail)
          have z1 : w1.heap.size < (w1.alloc (.cells #[.int .i64 1, .int .i64 fx, .int .i64 sx, .int .i64 cx, .int .i64 ox, .int .i64 px, .int .i64 (i : Int)] 28)).heap.size := o1.lt
          generalize w1.alloc (.cells #[.int .i64 1, .int .i64 fx, .int .i64 sx, .int .i64 cx, .int .i64 ox, .int .i64 px, .int .i64 (i : Int)] 28) = w2 at *
          generalize w1.heap.size = r1 at *
          have k0 : w2.cell? ⟨r1, 0, none⟩ = some (.int .i64 1) := o1.cell 0
          have k4 : w2.cell? ⟨r1, 4, none⟩ = some (.int .i64 ox) := o1.cell 4
          have k5 : w2.cell? ⟨r1, 5, none⟩ = some (.int .i64 px) := o1.cell 5
          have k6 : w2.cell? ⟨r1, 6, none⟩ = some (.int .i64 (i : Int)) := o1.cell 6
          obtain ⟨bw, ow, rfl, hbw, cw⟩ := hW.at_old b1 hi
          have hW := hW
          have e1 : decide (m ≤ i) = false := by simp; omega
          have e0 : decide ((i : Int) < 0) = false := by simp
          have e2 : (i : Int) < (m : Int) := by omega
          have hall : ∀ w' : World, Own w' r1 28 #[.int .i64 1, .int .i64 fx, .int .i64 sx, .int .i64 cx, .int .i64 ox, .int .i64 px, .int .i64 (i : Int)] → (fun w' => w'.cell? ⟨r1, 0, none⟩ = some (.int .i64 1) ∧ w'.cell? ⟨r1, 1, none⟩ = some (.int .i64 fx) ∧ w'.cell? ⟨r1, 2, none⟩ = some (.int .i64 sx) ∧ w'.cell? ⟨r1, 3, none⟩ = some (.int .i64 cx) ∧ w'.cell? ⟨r1, 4, none⟩ = some (.int .i64 ox) ∧ w'.cell? ⟨r1, 5, none⟩ = some (.int .i64 px) ∧ w'.cell? ⟨r1, 6, none⟩ = some (.int .i64 (i : Int))) w' := fun _ o => ⟨o.cell 0, o.cell 1, o.cell 2, o.cell 3, o.cell 4, o.cell 5, o.cell 6⟩
          have HALL := Lib.hid hall
          clear hall
          rcases (show (shB ox = false ∧ (px == 64) = true) ∨ (shB ox = false ∧ (px == 64) = false ∧ px = W i) ∨ (shB ox = true ∧ free = true ∧ (px == 64) = true) ∨ (shB ox = true ∧ free = true ∧ (px == 64) = false ∧ px = W i) by
            have hp' : (px == 64) = true ∨ ((px == 64) = false ∧ px = W i) := by
              cases hx : (px == 64)
              · rw [hx] at hp; exact .inr ⟨rfl, by simpa using hp⟩
              · exact .inl rfl
            cases hsb : shB ox
            · rcases hp' with h | ⟨h, h'⟩
              · exact .inl ⟨rfl, h⟩
              · exact .inr (.inl ⟨rfl, h, h'⟩)
            · have hf : free = true := by
                rcases hsh with h | h
                · rw [hsb] at h; cases h
                · exact h
              rcases hp' with h | ⟨h, h'⟩
              · exact .inr (.inr (.inl ⟨rfl, hf, h⟩))
              · exact .inr (.inr (.inr ⟨rfl, hf, h, h'⟩))) with ⟨f1, f2⟩ | ⟨f1, f2, f3⟩ | ⟨f1, rfl, f2⟩ | ⟨f1, rfl, f2, f3⟩
          all_goals
            rw [f1] at t4
            try rw [← f3] at cw
            have f4 : (px != 64) = !(px == 64) := rfl
            rw [f2] at f4
            simp only [Bool.not_true, Bool.not_false] at f4 t1
            clear hsh hp f1
            try clear f3
            go_wp2_with fail
            go_quiet (fail)
            clear k0 k4 k5 k6 cw e0 e1 e2 t1 t4 f2 f4
            generalize hw3 : w2.drewN _ = w3 at *
            have o2 : Own w3 r1 28 #[.int .i64 1, .int .i64 fx, .int .i64 sx, .int .i64 cx, .int .i64 ox, .int .i64 px, .int .i64 (i : Int)] := by rw [← hw3]; exact o1.drewN _
            have b2 : Below w.heap.size w w3 := by rw [← hw3]; exact below_drewN b1 _
            clear o1 b1 hw3
            go_wp2_with fail
            have hw3 : w.heap.size ≤ w3.heap.size := b2.size
            have hr3 : r1 < w3.heap.size := o2.lt
            have oE : Own (w3.drew.alloc (.cells #[] 26)) w3.heap.size 26 #[] := Own.new w3.drew 26 #[]
            have mE : MineK (w3.drew.alloc (.cells #[] 26)) w.heap.size 26 5 (.slice (some ⟨w3.heap.size, 0, none⟩) 0 0) 0 (fun _ => undef) :=
              MineK.made oE hw3 rfl (Nat.zero_le _) (Nat.le_refl 0) (fun i hi => absurd hi (by omega))
            have oA := (o2.drewN 1).alloc (.cells #[] 26)
            have bE := (below_drewN b2 1).alloc hw3 (.cells #[] 26)
            have s0 := HALL.out _ (o2.drewN 1)
            have s1 := HALL.out _ oA
            have H0 : Hid (0 + n ≤ maxLen) := Lib.hid (by unfold maxLen; omega)
            have H1 : Hid (n + n2 ≤ maxLen) := Lib.hid (by unfold maxLen; omega)
            have h0b : (0 + n) * 40 ≤ 140737488355328 := by omega
            have h1b : (n + n2) * 40 ≤ 140737488355328 := by omega
            go_region_held3 (fun w' => w'.cell? ⟨r1, 0, none⟩ = some (.int .i64 1) ∧ w'.cell? ⟨r1, 1, none⟩ = some (.int .i64 fx) ∧ w'.cell? ⟨r1, 2, none⟩ = some (.int .i64 sx) ∧ w'.cell? ⟨r1, 3, none⟩ = some (.int .i64 cx) ∧ w'.cell? ⟨r1, 4, none⟩ = some (.int .i64 ox) ∧ w'.cell? ⟨r1, 5, none⟩ = some (.int .i64 px) ∧ w'.cell? ⟨r1, 6, none⟩ = some (.int .i64 (i : Int))) (first | exact s0 | exact s1 | exact s2 | exact s3 | exact s4 | exact s5) (first
              | (refine step_appK rfl (.tmp 81) (.tmp 82) 22 rfl w.heap.size 26 i0 _ 5 40 Try.underlying22 hi0 hz0 hz1 hz2 rfl (by decide) (.slice (some ⟨w3.heap.size, 0, none⟩) 0 0) 0 (fun _ => undef) ?_ mE a n c (cv L) ?_ (hL.below bE) ?_ H0.out h0b bE.size ?_; (rfl); (rfl); (intro i _; exact cv_one L i); intro v5 w5 m5 g5 l5; have m5 := MineK.first m5; have o5 := grown_own g5 oA (by intro h; simp [Value.ownBlock] at h; omega); have s2 := HALL.out _ o5; have b5 := bE.grown g5 bE.size (fun q hq => (mE.lt q hq).1); have n5 : ∀ q, v5.ownBlock = some q → r1 < q := (fun q hq => by
                    rcases l5 with h | h
                    · rw [hq] at h; simp [Value.ownBlock] at h; omega
                    · rw [hq] at h; simp at h; omega))
              | (refine step_appK rfl (.tmp 83) (.tmp 84) 22 rfl w.heap.size 26 i0 _ 5 40 Try.underlying22 hi0 hz0 hz1 hz2 rfl (by decide) v5 n (cv L) ?_ m5 a2 n2 c2 (cv M) ?_ (hM.below b5) ?_ H1.out h1b b5.size ?_; (rfl); (rfl); (intro i _; exact cv_one M i); intro v6 w6 m6 g6 l6; have m6 := m6.ext (U := cv (both L M n)) (fun i _ => both_cv L M n i); have o6 := grown_own g6 o5 (by intro h; have := n5 _ h; omega); have s3 := HALL.out _ o6; have b6 := b5.grown g6 b5.size (fun q hq => (m5.lt q hq).1); obtain ⟨a6, c6, hv6, hc6, hm6, hR6⟩ := m6.row; subst hv6)
              | (go_at_call 7; refine (decide_any a6 _ (n + n2) c6 m e (both L M n) W _ _ hc6 hm6 hm he ?_ ?_).mono ?_; (exact hR6); (exact hW.below b6); rintro q w7 ⟨rfl, b7⟩; rw [HE.out]; simp only [A.vals]; have o7 := below_own b7 o6 o6.lt; have s4 := HALL.out _ o7; have b7 := b6.trans (b7.mono b6.size))
              | (go_at_call 6; refine (awake_any _).mono ?_; rintro q w9 ⟨rfl, b9⟩; have o9 := below_own b9 o7 o7.lt; have s5 := HALL.out _ o9; have bb := b7.trans (b9.mono b7.size)))
            all_goals
              go_wp2_with fail
              go_ret
              exact ⟨rfl, bb⟩
        · generalize hxk : L k = xk at *
          obtain ⟨fx, sx, cx, ox, px⟩ := xk
          dsimp only at *
          have HD := Lib.hid hd
          have HN := Lib.hid hno
          have t2 : (bits .and .i64 ox 2 == 0) = false := by
            have : (bits .and .i64 ox 2 != 0) = true := hrx
            simpa [bne] using this
          have hcap : (n : Int) ≤ 100 ∧ (m : Int) ≤ 100 := by omega
          clear hd hno hrx hxk
          go_enter Try.func4, Try.ntmps4
          go_wp2_with fail
          refine (decide_any a b n c m e L W free _ hn hc hm he hL hW).mono ?_
          rintro r w1 ⟨rfl, b1⟩
          rw [HD.out]
          simp only [A.vals]
          have b1 := b1.alloc b1.size (.cells #[.int .i64 2, .int .i64 fx, .int .i64 sx, .int .i64 cx, .int .i64 ox, .int .i64 px, .int .i64 0] 28)
          go_wp2_with fail
          generalize w1.alloc (.cells #[.int .i64 2, .int .i64 fx, .int .i64 sx, .int .i64 cx, .int .i64 ox, .int .i64 px, .int .i64 0] 28) = w2 at *
          generalize w1.heap.size = r1 at *
          clear t2
          go_loopw [108] (fun i wr => ∃ k : Nat, i = .int .i64 k ∧ k ≤ n ∧ Below w.heap.size w wr) (fun i _ => n - (intOf i).toNat)
          case atStart => exact ⟨0, rfl, by omega, b1⟩
          case round =>
            clear b1
            obtain ⟨k, rfl, hk, bb⟩ := hrel
            by_cases hlt : k < n
            · obtain ⟨ba, off, rfl, hba, c0, c1, c2, c3, c4⟩ := crow hL bb hlt
              go_wp2_with fail
              have ox2 := Own.new wr 26 #[.int .i64 (L k).f, .int .i64 (L k).s, .int .i64 (L k).c, .int .i64 (L k).o, .int .i64 (L k).p]
              have bx := bb.alloc bb.size (.cells #[.int .i64 (L k).f, .int .i64 (L k).s, .int .i64 (L k).c, .int .i64 (L k).o, .int .i64 (L k).p] 26)
              have sx2 := ox2.lt
              generalize wr.alloc (.cells #[.int .i64 (L k).f, .int .i64 (L k).s, .int .i64 (L k).c, .int .i64 (L k).o, .int .i64 (L k).p] 26) = wx at *
              generalize wr.heap.size = r2 at *
              clear c0 c1 c2 c3 c4 bb
              go_loopw [114] (fun i w5 => ∃ j : Nat, i = .int .i64 j ∧ j ≤ m ∧ Own w5 r2 26 #[.int .i64 (L k).f, .int .i64 (L k).s, .int .i64 (L k).c, .int .i64 (L k).o, .int .i64 (L k).p] ∧ Below w.heap.size w w5) (fun i _ => m - (intOf i).toNat)
              case atStart => exact ⟨0, rfl, by omega, ox2, bx⟩
              case round =>
                clear ox2 bx sx2
                obtain ⟨j, rfl, hj, o5, b5⟩ := hrel
                by_cases hjt : j < m
                · obtain ⟨bw, offw, rfl, hbw, cw⟩ := hW.at_old b5 hjt
                  have y0 : wr.cell? ⟨r2, 0, none⟩ = some (.int .i64 (L k).f) := o5.cell 0
                  have y1 : wr.cell? ⟨r2, 1, none⟩ = some (.int .i64 (L k).s) := o5.cell 1
                  have y2 : wr.cell? ⟨r2, 2, none⟩ = some (.int .i64 (L k).c) := o5.cell 2
                  have y3 : wr.cell? ⟨r2, 3, none⟩ = some (.int .i64 (L k).o) := o5.cell 3
                  have y4 : wr.cell? ⟨r2, 4, none⟩ = some (.int .i64 (L k).p) := o5.cell 4
                  obtain ⟨Mm, hMm⟩ : ∃ Mm, mayC (L k).f (L k).s (L k).c (L k).o (L k).p = Mm := ⟨_, rfl⟩
                  obtain ⟨X, hX⟩ : ∃ X, txB (L k).o = X := ⟨_, rfl⟩
                  obtain ⟨S, hS⟩ : ∃ S, shB (L k).o = S := ⟨_, rfl⟩
                  have hq : Hid (Mm = true → (X && (free || !S)) = true → ((L k).p == 64 || (L k).p == W j) = false) := Lib.hid (fun h1 h2 => HN.out k hlt j hjt (hMm.trans h1) (by unfold goB; rw [hX, hS]; exact h2))
                  have HM := Lib.hid hMm
                  have t1 := (tx_is _ _ hX).1
                  have t4 : (bits .and .i64 (L k).o 4 == 0) = !S := by rw [← hS]; simp [shB, bne]
                  clear hMm hX hS
                  go_wp2_with fail
                  refine (ref_may _ _ _ _ _ _).mono ?_
                  rintro q w6 ⟨rfl, b6⟩
                  rw [HM.out]
                  have o6 := below_own b6 o5 o5.lt
                  have b7 := b5.trans (b6.mono b5.size)
                  have u3 : w6.cell? ⟨r2, 3, none⟩ = some (.int .i64 (L k).o) := o6.cell 3
                  have u4 : w6.cell? ⟨r2, 4, none⟩ = some (.int .i64 (L k).p) := o6.cell 4
                  clear y0 y1 y2 y3 y4 b6
                  cases Mm
                  · go_wp2_with fail
                    exact ⟨⟨j + 1, by simp [intOf], by omega, o6, b7⟩, by simp [intOf]; omega⟩
                  · cases X
                    · go_wp2_with fail
                      exact ⟨⟨j + 1, by simp [intOf], by omega, o6, b7⟩, by simp [intOf]; omega⟩
                    · rcases (show (S = true ∧ free = false) ∨ (S = false ∧ free = false) ∨ (S = false ∧ free = true) ∨ (S = true ∧ free = true) by cases S <;> cases free <;> simp) with ⟨rfl, rfl⟩ | ⟨rfl, rfl⟩ | ⟨rfl, rfl⟩ | ⟨rfl, rfl⟩
                      · simp only [Bool.not_true, Bool.not_false] at t4
                        go_wp2_with fail
                        exact ⟨⟨j + 1, by simp [intOf], by omega, o6, b7⟩, by simp [intOf]; omega⟩
                      all_goals
                        simp only [Bool.not_true, Bool.not_false] at t4
                        have hq2 := hq.out rfl rfl
                        have p1 : ((L k).p == 64) = false := by
                          revert hq2
                          cases ((L k).p == 64) <;> simp
                        have p2 : ((L k).p == W j) = false := by
                          revert hq2
                          cases ((L k).p == W j) <;> simp
                        clear hq2
                        go_wp2_with fail
                        exact ⟨⟨j + 1, by simp [intOf], by omega, o6, b7⟩, by simp [intOf]; omega⟩
                · obtain rfl : m = j := by omega
                  go_wp2_with fail
                  exact ⟨⟨k + 1, by simp [intOf], by omega, b5⟩, by simp [intOf]; omega⟩
            · obtain rfl : n = k := by omega
              go_wp2_with fail
              refine (awake_any _).mono ?_
              rintro r w9 ⟨rfl, b9⟩
              have bb := bb.trans (b9.mono bb.size)
              go_wp2_with fail
              go_ret
              exact ⟨rfl, bb⟩
        · have HD := Lib.hid hd
          clear hd
          go_enter Try.func4, Try.ntmps4
          go_wp2_with fail
          refine (decide_any a b n c m e L W free _ hn hc hm he hL hW).mono ?_
          rintro r w1 ⟨rfl, b1⟩
          rw [HD.out]
          simp only [A.vals, zeroC]
          have b1 := b1.alloc b1.size (.cells #[.int .i64 0, .int .i64 0, .int .i64 0, .int .i64 0, .int .i64 0, .int .i64 0, .int .i64 0] 28)
          go_wp2_with fail
          refine (awake_any _).mono ?_
          rintro r w9 ⟨rfl, b9⟩
          have bb := b1.trans (b9.mono b1.size)
          go_wp2_with fail
          go_ret
          exact ⟨rfl, bb⟩

theorem walk (H : Type) (enc : TypeId × Value → H) : Walk H enc Try.prog 4 Try.f4 := by
  intro W base args ds p hval hA
  rw [Try.params4] at hA hval
  obtain ⟨v0, v1, v2, v3, d0, d1, d2, d3, p0, p1, p2, p3, rfl, rfl, rfl, h0, h1, h2, h3⟩ := trodAll_four hA
  obtain ⟨a, n, c, L, rfl, hn, hm, hL, _⟩ := open_cells (hval 0 _ v0 rfl rfl) h0
  obtain ⟨a2, n2, c2, M, rfl, hn2, hm2, hM, _⟩ := open_cells (hval 1 _ v1 rfl rfl) h1
  obtain ⟨b, m, e, Z, rfl, hm3, he, hW, hz⟩ := open_row_int Try.underlying23 Try.underlying3 (by kernel_rfl) (hval 2 _ v2 rfl rfl) h2
  obtain ⟨free, rfl, rfl, rfl⟩ := open_bool Try.underlying4 (hval 3 _ v3 rfl rfl) h3
  exact body a a2 b n c n2 c2 m e L M Z free W hn hm hn2 hm2 hm3 he hL hM hW

set_option maxRecDepth 100000 in
theorem lifted (os : Os) (started : os.Started) (H : Type) (enc : TypeId × Value → H) :
    ReturnsInHanded {} Try.checked os 4 .any (Rows.slotFirstSpec.pre6 enc Try.prog Try.f4 Rows.slotFirstRow.domain false) (Rows.slotFirstSpec.post enc Try.prog Try.f4 false true false false) :=
  returnsInHanded_of_change (C := Try.checked) own started (by kernel_rfl) Try.func4
    (ChangeSpec.witness6 (enc := enc) (C := Try.checked) false ⟨#[], #[.slice none 0 0, .slice none 0 0, .slice none 0 0, .bool true], []⟩ 8 (by kernel_rfl) (by kernel_rfl) (by kernel_rfl) (by kernel_rfl))
    fun W base args ds gs before hval hW _ _ => step_of_walk laidOut (by rw [Try.params4]; exact of_decide_eq_true (by kernel_rfl)) (by kernel_rfl) Try.underlying4 rfl
      (fun ds h => by
        rw [Try.params4] at h
        match ds, h with
        | [_, _, _, _], _ => rfl) (walk H enc) W base args ds gs before hval hW

theorem holds : Rows.SlotFirstSaid :=
  OpenClaim.holds_of_wide 4 Try.f4 rfl rfl rfl rfl rfl rfl rfl ⟨rfl, rfl, rfl, rfl, rfl⟩ rfl rfl rfl rfl rfl (by kernel_rfl) Try.func4 (by kernel_rfl)
    (of_decide_eq_true (by kernel_rfl)) (by unfold Func.isWrapper; first | (rw [if_pos (by decide +kernel)]; kernel_rfl) | (rw [if_neg (by decide +kernel)]; exact ⟨rfl, rfl⟩))
    (fun os started H enc _ => lifted os started H enc)
#print axioms holds
end Go.Proofs.Ytkmclgdefblbjaa.SlotFirst
