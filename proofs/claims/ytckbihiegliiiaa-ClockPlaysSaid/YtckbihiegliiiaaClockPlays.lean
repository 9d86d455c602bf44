/-
  Law ClockPlays: for every row of calls a clock tells what the reference tells; the call returns true. No condition.
-/
import Derived.Test.YtckbihiegliiiaaClockLaws
import Derived.Test.YtckbihiegliiiaaClockRef
set_option maxRecDepth 100000
namespace Go.Proofs.Ytckbihiegliiiaa.ClockPlays
open Go.RowKit Go.ChangeShapes Go.WideShapes Go.ChangeAt Go.Deep Lb Ck
set_option linter.unusedVariables false
theorem own : ownKnob Try.prog.godebug = none := by kernel_rfl
theorem laidOut : laidOutB Try.prog = true := by kernel_rfl

set_option maxHeartbeats 2000000 in
theorem body (a : Option Addr) (n c : Nat) (X Y : Nat → Int) (w : World) (hn : n ≤ c) (hm : c ≤ maxLen) (hZ : Row w a (n * 2) (fun i => if i % 2 = 0 then .int .i64 (X (i / 2)) else .int .i64 (Y (i / 2)))) :
    Calls Try.prog 3 #[.slice a n c] w fun e w' => e = .returned (.bool true) ∧ Below w.heap.size w w' := by
  unfold maxLen at hm
  go_enter Try.func3, Try.ntmps3
  go_wp2_with fail
  refine (new_any _).mono ?_
  rintro r w1 ⟨rfl, k1, b1, z1⟩
  go_wp2_with fail
  have k2 : Ref (w1.alloc (.cells #[.int .i64 0, .int .i64 0, .int .i64 0] 27)) w1.heap.size 0 0 0 := Own.new _ _ _
  have k1' : Clk (w1.alloc (.cells #[.int .i64 0, .int .i64 0, .int .i64 0] 27)) w.heap.size 0 0 0 := Own.alloc k1 _
  have b2 := b1.alloc (Nat.le_of_lt z1) (.cells #[.int .i64 0, .int .i64 0, .int .i64 0] 27)
  have z2 : w1.heap.size < (w1.alloc (.cells #[.int .i64 0, .int .i64 0, .int .i64 0] 27)).heap.size := by simp
  obtain ⟨g, hg⟩ : ∃ g, g = w1.heap.size := ⟨_, rfl⟩
  generalize w1.alloc (.cells #[.int .i64 0, .int .i64 0, .int .i64 0] 27) = w2 at *
  rw [← hg] at k2 z1 z2 ⊢
  clear hg k1 b1
  go_loopw [12] (fun i wr => ∃ (k : Nat) (p d s : Int), i = .int .i64 k ∧ k ≤ n ∧ k ≤ 300 ∧ 0 ≤ s ∧ s ≤ k ∧ -1000000000000 ≤ p ∧ p ≤ 1000000000000 ∧ -1000000 * (k : Int) ≤ d ∧ d ≤ 1000000 * (k : Int) ∧
      Clk wr w.heap.size p d s ∧ Ref wr g p d s ∧ Below w.heap.size w wr ∧ g < wr.heap.size) (fun i _ => n - (intOf i).toNat)
  case atStart => exact ⟨0, 0, 0, 0, rfl, by omega, by omega, by omega, by omega, by omega, by omega, by omega, by omega, k1', k2, b2, z2⟩
  case round =>
    obtain ⟨k, p, d, s, rfl, hk, hk3, hs0, hs1, hp0, hp1, hd0, hd1, kk, rr, bb, zz⟩ := hrel
    by_cases hlt : k < n ∧ k < 300
    · obtain ⟨hlt, h300⟩ := hlt
      have hck : ∃ b o, a = some ⟨b, o, none⟩ ∧ b < w.heap.size ∧ wr.cell? ⟨b, o + k * 2, none⟩ = some (.int .i64 (X k)) ∧ wr.cell? ⟨b, o + k * 2 + 1, none⟩ = some (.int .i64 (Y k)) := by
        obtain ⟨b, o, h1, h2, h3⟩ := hZ (by omega)
        have e1 := h3 (k * 2) (by omega)
        have e2 := h3 (k * 2 + 1) (by omega)
        dsimp only at e1 e2
        rw [if_pos (by omega), show k * 2 / 2 = k from by omega] at e1
        rw [if_neg (by omega), show (k * 2 + 1) / 2 = k from by omega] at e2
        exact ⟨b, o, h1, h2, (bb.cell (p := ⟨b, o + k * 2, none⟩) h2).trans e1, (bb.cell (p := ⟨b, o + k * 2 + 1, none⟩) h2).trans e2⟩
      obtain ⟨b, o, rfl, hb, hc, hc'⟩ := hck
      clear hZ
      by_cases hx0 : X k = 0
      · rw [hx0] at hc
        clear hx0
        have l0 := lim_low (Y k) 1000000000000 (by omega)
        have l1 := lim_high (Y k) 1000000000000
        go_wp2_with fail
        have ox : Own (wr.alloc (.cells #[.int .i64 0, .int .i64 (Y k)] 29)) wr.heap.size 29 #[.int .i64 0, .int .i64 (Y k)] := Own.new _ _ _
        have kx : Clk (wr.alloc (.cells #[.int .i64 0, .int .i64 (Y k)] 29)) w.heap.size p d s := Own.alloc kk _
        have rx : Ref (wr.alloc (.cells #[.int .i64 0, .int .i64 (Y k)] 29)) g p d s := Own.alloc rr _
        have bx := bb.alloc (by omega) (.cells #[.int .i64 0, .int .i64 (Y k)] 29)
        have zx : g < (wr.alloc (.cells #[.int .i64 0, .int .i64 (Y k)] 29)).heap.size := by simp; omega
        generalize wr.alloc (.cells #[.int .i64 0, .int .i64 (Y k)] 29) = wx at *
        refine (put_any _ _ _ _ _ _ kx).mono ?_
        rintro r w4 ⟨rfl, k4, j4⟩
        have r4 := j4.own rx (by omega)
        have o4 := j4.own ox (by omega)
        have o4c : w4.cell? ⟨wr.heap.size, 1, none⟩ = some (.int .i64 (Y k)) := Own.cell o4 1
        have b4 := j4.below bx (Nat.le_refl _) (by omega)
        have z4 := Nat.lt_of_lt_of_le zx j4.size
        go_wp2_with fail
        refine (rput_any _ _ _ _ _ _ r4).mono ?_
        rintro r w5 ⟨rfl, r5, j5⟩
        have k5 := j5.own k4 (by omega)
        have b5 := j5.below b4 (by omega) (by omega)
        have z5 := Nat.lt_of_lt_of_le z4 j5.size
        have r5c : w5.cell? ⟨g, 2, none⟩ = some (.int .i64 _) := Own.cell r5 2
        go_wp2_with fail
        go_quiet ((first
          | (go_at_call 16; first | exact quiet_some (off_any _ _ _ _ _ (Own.drewN k5 _) (by omega) (by omega) (by omega) (by omega)) | exact quiet_some_add (off_any _ _ _ _ _ (Own.drewN k5 _) (by omega) (by omega) (by omega) (by omega)))
          | (go_at_call 17; first | exact quiet_some (roff_any _ _ _ _ _ (Own.drewN r5 _) (by omega) (by omega) (by omega) (by omega)) | exact quiet_some_add (roff_any _ _ _ _ _ (Own.drewN r5 _) (by omega) (by omega) (by omega) (by omega)))
          | (go_at_call 18; first | exact quiet_left (slots_any _ _ _ _ _ (Own.drewN k5 _)) | exact quiet_left_add (slots_any _ _ _ _ _ (Own.drewN k5 _)))))
        go_wp2_with fail
        refine ⟨⟨k + 1, lim (Y k) 1000000000000, 0, s, by go_num, by omega, by omega, by omega, by omega, by omega, by omega, by omega, by omega, k5, r5, below_drewN b5 _, z5⟩, by simp [intOf]; omega⟩
      · by_cases hx1 : X k = 1
        · rw [hx1] at hc
          clear hx0 hx1
          have l0 := lim_low (p + lim (Y k) 1000000) 1000000000000 (by omega)
          have l1 := lim_high (p + lim (Y k) 1000000) 1000000000000
          go_wp2_with fail
          have ox : Own (wr.alloc (.cells #[.int .i64 1, .int .i64 (Y k)] 29)) wr.heap.size 29 #[.int .i64 1, .int .i64 (Y k)] := Own.new _ _ _
          have kx : Clk (wr.alloc (.cells #[.int .i64 1, .int .i64 (Y k)] 29)) w.heap.size p d s := Own.alloc kk _
          have rx : Ref (wr.alloc (.cells #[.int .i64 1, .int .i64 (Y k)] 29)) g p d s := Own.alloc rr _
          have bx := bb.alloc (by omega) (.cells #[.int .i64 1, .int .i64 (Y k)] 29)
          have zx : g < (wr.alloc (.cells #[.int .i64 1, .int .i64 (Y k)] 29)).heap.size := by simp; omega
          generalize wr.alloc (.cells #[.int .i64 1, .int .i64 (Y k)] 29) = wx at *
          refine (move_any _ _ _ _ _ _ kx (by omega) (by omega)).mono ?_
          rintro r w4 ⟨rfl, k4, j4⟩
          have r4 := j4.own rx (by omega)
          have o4 := j4.own ox (by omega)
          have o4c : w4.cell? ⟨wr.heap.size, 1, none⟩ = some (.int .i64 (Y k)) := Own.cell o4 1
          have b4 := j4.below bx (Nat.le_refl _) (by omega)
          have z4 := Nat.lt_of_lt_of_le zx j4.size
          go_wp2_with fail
          refine (rmove_any _ _ _ _ _ _ r4 (by omega) (by omega)).mono ?_
          rintro r w5 ⟨rfl, r5, j5⟩
          have k5 := j5.own k4 (by omega)
          have b5 := j5.below b4 (by omega) (by omega)
          have z5 := Nat.lt_of_lt_of_le z4 j5.size
          have r5c : w5.cell? ⟨g, 2, none⟩ = some (.int .i64 _) := Own.cell r5 2
          go_wp2_with fail
          go_quiet ((first
            | (go_at_call 16; first | exact quiet_some (off_any _ _ _ _ _ (Own.drewN k5 _) (by omega) (by omega) (by omega) (by omega)) | exact quiet_some_add (off_any _ _ _ _ _ (Own.drewN k5 _) (by omega) (by omega) (by omega) (by omega)))
            | (go_at_call 17; first | exact quiet_some (roff_any _ _ _ _ _ (Own.drewN r5 _) (by omega) (by omega) (by omega) (by omega)) | exact quiet_some_add (roff_any _ _ _ _ _ (Own.drewN r5 _) (by omega) (by omega) (by omega) (by omega)))
            | (go_at_call 18; first | exact quiet_left (slots_any _ _ _ _ _ (Own.drewN k5 _)) | exact quiet_left_add (slots_any _ _ _ _ _ (Own.drewN k5 _)))))
          go_wp2_with fail
          refine ⟨⟨k + 1, lim (p + lim (Y k) 1000000) 1000000000000, d, s, by go_num, by omega, by omega, by omega, by omega, by omega, by omega, by omega, by omega, k5, r5, below_drewN b5 _, z5⟩, by simp [intOf]; omega⟩
        · have hx0' : (X k == 0) = false := by simpa using hx0
          have hx1' : (X k == 1) = false := by simpa using hx1
          clear hx0 hx1
          have l0 := lim_low (Y k) 100 (by omega)
          have l1 := lim_high (Y k) 100
          go_wp2_with fail
          have ox : Own (wr.alloc (.cells #[.int .i64 (X k), .int .i64 (Y k)] 29)) wr.heap.size 29 #[.int .i64 (X k), .int .i64 (Y k)] := Own.new _ _ _
          have kx : Clk (wr.alloc (.cells #[.int .i64 (X k), .int .i64 (Y k)] 29)) w.heap.size p d s := Own.alloc kk _
          have rx : Ref (wr.alloc (.cells #[.int .i64 (X k), .int .i64 (Y k)] 29)) g p d s := Own.alloc rr _
          have bx := bb.alloc (by omega) (.cells #[.int .i64 (X k), .int .i64 (Y k)] 29)
          have zx : g < (wr.alloc (.cells #[.int .i64 (X k), .int .i64 (Y k)] 29)).heap.size := by simp; omega
          generalize wr.alloc (.cells #[.int .i64 (X k), .int .i64 (Y k)] 29) = wx at *
          refine (slot_any _ _ _ _ _ _ kx (by omega) (by omega) (by omega) (by omega)).mono ?_
          rintro r w4 ⟨rfl, k4, j4⟩
          have r4 := j4.own rx (by omega)
          have o4 := j4.own ox (by omega)
          have o4c : w4.cell? ⟨wr.heap.size, 1, none⟩ = some (.int .i64 (Y k)) := Own.cell o4 1
          have b4 := j4.below bx (Nat.le_refl _) (by omega)
          have z4 := Nat.lt_of_lt_of_le zx j4.size
          go_wp2_with fail
          refine (rslot_any _ _ _ _ _ _ r4 (by omega) (by omega) (by omega) (by omega)).mono ?_
          rintro r w5 ⟨rfl, r5, j5⟩
          have k5 := j5.own k4 (by omega)
          have b5 := j5.below b4 (by omega) (by omega)
          have z5 := Nat.lt_of_lt_of_le z4 j5.size
          have r5c : w5.cell? ⟨g, 2, none⟩ = some (.int .i64 _) := Own.cell r5 2
          go_wp2_with fail
          go_quiet ((first
            | (go_at_call 16; first | exact quiet_some (off_any _ _ _ _ _ (Own.drewN k5 _) (by omega) (by omega) (by omega) (by omega)) | exact quiet_some_add (off_any _ _ _ _ _ (Own.drewN k5 _) (by omega) (by omega) (by omega) (by omega)))
            | (go_at_call 17; first | exact quiet_some (roff_any _ _ _ _ _ (Own.drewN r5 _) (by omega) (by omega) (by omega) (by omega)) | exact quiet_some_add (roff_any _ _ _ _ _ (Own.drewN r5 _) (by omega) (by omega) (by omega) (by omega)))
            | (go_at_call 18; first | exact quiet_left (slots_any _ _ _ _ _ (Own.drewN k5 _)) | exact quiet_left_add (slots_any _ _ _ _ _ (Own.drewN k5 _)))))
          go_wp2_with fail
          refine ⟨⟨k + 1, p, d + lim (Y k) 100 * 10000, s + 1, by go_num, by omega, by omega, by omega, by omega, by omega, by omega, by omega, by omega, k5, r5, below_drewN b5 _, z5⟩, by simp [intOf]; omega⟩
    · by_cases hlt2 : k < n
      · have h300 : ¬ k < 300 := fun h => hlt ⟨hlt2, h⟩
        have hck : ∃ b o, a = some ⟨b, o, none⟩ ∧ b < w.heap.size ∧ wr.cell? ⟨b, o + k * 2, none⟩ = some (.int .i64 (X k)) ∧ wr.cell? ⟨b, o + k * 2 + 1, none⟩ = some (.int .i64 (Y k)) := by
          obtain ⟨b, o, h1, h2, h3⟩ := hZ (by omega)
          have e1 := h3 (k * 2) (by omega)
          have e2 := h3 (k * 2 + 1) (by omega)
          dsimp only at e1 e2
          rw [if_pos (by omega), show k * 2 / 2 = k from by omega] at e1
          rw [if_neg (by omega), show (k * 2 + 1) / 2 = k from by omega] at e2
          exact ⟨b, o, h1, h2, (bb.cell (p := ⟨b, o + k * 2, none⟩) h2).trans e1, (bb.cell (p := ⟨b, o + k * 2 + 1, none⟩) h2).trans e2⟩
        obtain ⟨b, o, rfl, hb, hc, hc'⟩ := hck
        clear hlt hZ
        go_wp2_with fail
        refine (awake_behind (bb.alloc (by omega) _)).mono ?_
        rintro r w9 ⟨rfl, b9⟩
        go_wp2_with fail
        go_ret
        exact ⟨rfl, b9⟩
      · clear hlt hZ
        go_wp2_with fail
        refine (awake_behind bb).mono ?_
        rintro r w9 ⟨rfl, b9⟩
        go_wp2_with fail
        go_ret
        exact ⟨rfl, b9⟩

theorem walk (H : Type) (enc : TypeId × Value → H) : Walk H enc Try.prog 3 Try.f3 := by
  intro W base args ds p hval hA
  rw [Try.params3] at hA hval
  obtain ⟨v0, d0, rfl, rfl, h0⟩ := trodAll_one hA
  obtain ⟨a, n, c, V, rfl, hn, hm, hV, hf⟩ := open_row_struct Try.underlying22 Try.underlying29 (by kernel_rfl) (by kernel_rfl) (by decide) (hval 0 _ v0 rfl rfl) h0
  obtain ⟨X, hX⟩ := choose_fn (n := n) (q := fun i z => V (i * 2 + 0) = .int .i64 z) (0 : Int) (fun i hi => by
    obtain ⟨f, y, hy⟩ := hf i hi 0 _ rfl
    obtain ⟨z, hz, _⟩ := DataW.trod_int Try.underlying3 hy
    exact ⟨z, by simpa using hz⟩)
  obtain ⟨Y, hY⟩ := choose_fn (n := n) (q := fun i z => V (i * 2 + 1) = .int .i64 z) (0 : Int) (fun i hi => by
    obtain ⟨f, y, hy⟩ := hf i hi 1 _ rfl
    obtain ⟨z, hz, _⟩ := DataW.trod_int Try.underlying2 hy
    exact ⟨z, by simpa using hz⟩)
  have hV2 : Row W a (n * 2) (fun i => if i % 2 = 0 then .int .i64 (X (i / 2)) else .int .i64 (Y (i / 2))) := by
    intro h
    obtain ⟨b, o, e1, e2, e3⟩ := hV h
    refine ⟨b, o, e1, e2, fun i hi => ?_⟩
    rw [e3 i hi]
    by_cases h2 : i % 2 = 0
    · have := hX (i / 2) (by omega)
      rw [show i / 2 * 2 + 0 = i from by omega] at this
      simp only [h2, if_true, this]
    · have := hY (i / 2) (by omega)
      rw [show i / 2 * 2 + 1 = i from by omega] at this
      simp only [h2, if_false, this]
  exact body a n c X Y W hn hm hV2

set_option maxRecDepth 100000 in
theorem lifted (os : Os) (started : os.Started) (H : Type) (enc : TypeId × Value → H) :
    ReturnsInHanded {} Try.checked os 3 .any (Rows.clockPlaysSpec.pre6 enc Try.prog Try.f3 Rows.clockPlaysRow.domain false) (Rows.clockPlaysSpec.post enc Try.prog Try.f3 false true false false) :=
  returnsInHanded_of_change (C := Try.checked) own started (by kernel_rfl) Try.func3
    (ChangeSpec.witness6 (enc := enc) (C := Try.checked) false ⟨#[], #[.slice none 0 0], []⟩ 8 (by kernel_rfl) (by kernel_rfl) (by kernel_rfl) (by kernel_rfl))
    fun W base args ds gs before hval hW _ _ => step_of_walk laidOut (by rw [Try.params3]; exact of_decide_eq_true (by kernel_rfl)) (by kernel_rfl) Try.underlying4 rfl
      (fun ds h => by
        rw [Try.params3] at h
        match ds, h with
        | [_], _ => rfl) (walk H enc) W base args ds gs before hval hW

theorem holds : Rows.ClockPlaysSaid :=
  OpenClaim.holds_of_wide 3 Try.f3 rfl rfl rfl rfl rfl rfl rfl ⟨rfl, rfl, rfl, rfl, rfl⟩ rfl rfl rfl rfl rfl (by kernel_rfl) Try.func3 (by kernel_rfl)
    (of_decide_eq_true (by kernel_rfl)) (by unfold Func.isWrapper; first | (rw [if_pos (by decide +kernel)]; kernel_rfl) | (rw [if_neg (by decide +kernel)]; exact ⟨rfl, rfl⟩))
    (fun os started H enc _ => lifted os started H enc)
#print axioms holds
end Go.Proofs.Ytckbihiegliiiaa.ClockPlays
