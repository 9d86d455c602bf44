/-
  The reference's table: Frame, Add, Remove, Active.
-/
import Derived.Test.YtdknacbdkekfnaaCeRem
import Derived.Test.YtdknacbdkekfnaaCeSort
import Derived.Test.YtdknacbdkekfnaaCeEq
import Derived.Test.YtdknacbdkekfnaaCeRMay
set_option maxRecDepth 100000
namespace Go.Proofs.Ytdknacbdkekfnaa.Ce
set_option linter.unusedVariables false
open Go.RowKit Lb Cl
/-- The reference's table in block b. -/
structure Rtb (w : World) (base b : Nat) (N : Nat → Int) (l : List C) (v : Value) : Prop where
  blk : Blk w b 29 5 (tv N v)
  row : MineK w base 31 5 v l.length (lv l)
  good : Good N l
  low : base ≤ b
theorem Rtb.n {w : World} {base b : Nat} {N : Nat → Int} {l : List C} {v : Value} (h : Rtb w base b N l v) {i : Nat} (hi : i < 4) : w.cell? ⟨b, i, none⟩ = some (.int .i64 (N i)) := by
  rw [h.blk.cell (show i < 5 by omega)]
  unfold tv
  rw [if_pos hi]
theorem Rtb.v4 {w : World} {base b : Nat} {N : Nat → Int} {l : List C} {v : Value} (h : Rtb w base b N l v) : w.cell? ⟨b, 4, none⟩ = some v := by
  rw [h.blk.cell (show 4 < 5 by omega)]
  rfl
theorem Rtb.below {w w' : World} {base b : Nat} {N : Nat → Int} {l : List C} {v : Value} (h : Rtb w base b N l v) (j : Below w.heap.size w w') : Rtb w' base b N l v :=
  ⟨below_blk j h.blk h.blk.lt, h.row.below j, h.good, h.low⟩
theorem Rtb.ne {w : World} {base b : Nat} {N : Nat → Int} {l : List C} {v : Value} (h : Rtb w base b N l v) : v.ownBlock ≠ some b := fun e => by
  obtain ⟨cs, hc⟩ := mineK_own h.row e
  exact absurd (Lb.own_ty hc h.blk) (by decide)
def RFrmPost (base b : Nat) (N : Nat → Int) (l : List C) (v : Value) (h n : Int) (w : World) (r : Ending) (w' : World) : Prop :=
  r = .returned (.int .i64 (frE l h n)) ∧ Rtb w' base b (frN N l h n) l v ∧ Turn w w' b v v
set_option maxHeartbeats 1000000 in
theorem rfrm_any (base b : Nat) (N : Nat → Int) (l : List C) (v : Value) (h n : Int) (w : World) (t : Rtb w base b N l v) :
    Calls Try.prog 11 #[.pointer (some ⟨b, 0, none⟩), .int .i64 h, .int .i64 n] w (RFrmPost base b N l v h n w) := by
  rcases (show frB h = false ∨ (frB h = true ∧ n < 0) ∨ (frB h = true ∧ 0 ≤ n ∧ 200 < n) ∨ (frB h = true ∧ 0 ≤ n ∧ n ≤ 200) by
    cases frB h
    · exact .inl rfl
    · simp; omega) with hf | ⟨hf, hn⟩ | ⟨hf, hn0, hn⟩ | ⟨hf, hn0, hn⟩
  · have HF := Lib.hid hf
    have hE : frE l h n = 1 := by unfold frE; rw [hf]; rfl
    have HD : Hid (RFrmPost base b N l v h n w (.returned (.int .i64 1)) w) := Lib.hid (by
      refine ⟨by rw [hE], ?_, Turn.of_below (Below.refl _ _) _ _⟩
      unfold frN; rw [hE, if_neg (by decide)]; exact t)
    have hh : h < 0 ∨ 4 ≤ h := by unfold frB at hf; simp at hf; omega
    by_cases h0 : h < 0
    · have g0 : decide (h < 0) = true := by simpa using h0
      clear hf hE hh h0
      go_enter Try.func11, Try.ntmps11
      go_wp2_with fail
      go_ret
      exact HD.out
    · have g0 : decide (h < 0) = false := by simpa using h0
      have g1 : decide (4 ≤ h) = true := by simp; omega
      clear hf hE hh h0
      go_enter Try.func11, Try.ntmps11
      go_wp2_with fail
      go_ret
      exact HD.out
  · have HF := Lib.hid hf
    have hh : 0 ≤ h ∧ h < 4 := by unfold frB at hf; simpa using hf
    have gh0 : decide (h < 0) = false := by simp; omega
    have gh1 : decide (4 ≤ h) = false := by simp; omega
    have hE : frE l h n = 1 := by unfold frE; rw [hf]; simp; omega
    have HD : Hid (RFrmPost base b N l v h n w (.returned (.int .i64 1)) w) := Lib.hid (by
      refine ⟨by rw [hE], ?_, Turn.of_below (Below.refl _ _) _ _⟩
      unfold frN; rw [hE, if_neg (by decide)]; exact t)
    clear hf hE hh
    go_enter Try.func11, Try.ntmps11
    go_wp2_with fail
    go_ret
    exact HD.out
  · have HF := Lib.hid hf
    have hh : 0 ≤ h ∧ h < 4 := by unfold frB at hf; simpa using hf
    have gh0 : decide (h < 0) = false := by simp; omega
    have gh1 : decide (4 ≤ h) = false := by simp; omega
    have hE : frE l h n = 1 := by unfold frE; rw [hf]; simp; omega
    have HD : Hid (RFrmPost base b N l v h n w (.returned (.int .i64 1)) w) := Lib.hid (by
      refine ⟨by rw [hE], ?_, Turn.of_below (Below.refl _ _) _ _⟩
      unfold frN; rw [hE, if_neg (by decide)]; exact t)
    have g0 : decide (n < 0) = false := by simp; omega
    clear hf hE hh
    go_enter Try.func11, Try.ntmps11
    go_wp2_with fail
    go_ret
    exact HD.out
  · have HF := Lib.hid hf
    have hE : frE l h n = if longB l h n = true then 9 else 0 := by unfold frE; rw [hf]; simp [hn0, hn]
    have HE := Lib.hid hE
    have hf2 := hf
    unfold frB at hf2
    simp only [decide_eq_true_eq] at hf2
    obtain ⟨a, rfl⟩ := Int.eq_ofNat_of_zero_le hf2.1
    have ha : a < 4 := by omega
    have g1 : (a : Int) < 4 := by omega
    have g2 : decide (n < 0) = false := by simp; omega
    have g3 : decide (200 < n) = false := by simp; omega
    have HT := Lib.hid t
    have c4 := t.v4
    have hbl := t.blk.lt
    obtain ⟨A, c, rfl, hc1, hc2, hR⟩ := t.row.row
    unfold maxLen at hc2
    have HR := Lib.hid hR
    have hfew := t.good.few
    obtain ⟨m, hm⟩ : ∃ m, l.length = m := ⟨_, rfl⟩
    have HL := Lib.hid hm
    rw [hm] at c4 HT HR hfew hc1 ⊢
    have gh0 : decide ((a : Int) < 0) = false := by simp
    have gh1 : decide ((4 : Int) ≤ (a : Int)) = false := by simp; omega
    clear hf hf2 hE t hR hm
    go_enter Try.func11, Try.ntmps11
    go_wp2_with fail
    go_loopw [28] (fun i wr => ∃ k : Nat, i = .int .i64 k ∧ k ≤ m ∧ Hid (∀ j, j < k → ((at_ l j).f == (a : Int) && decide (n ≤ (at_ l j).s)) = false) ∧ Below w.heap.size w wr) (fun i _ => m - (intOf i).toNat)
    case atStart => exact ⟨0, rfl, by omega, Lib.hid (fun j hj => by omega), Below.refl _ _⟩
    case round =>
      obtain ⟨k, rfl, hk, HN, b1⟩ := hrel
      by_cases hlt : k < m
      · obtain ⟨bo, off, rfl, hbo, d0, d1, d2, d3, d4⟩ := row_c HR.out b1 hlt
        obtain ⟨x, hx⟩ : ∃ x, at_ l k = x := ⟨_, rfl⟩
        have HX := Lib.hid hx
        rw [hx] at d0 d1 d2 d3 d4
        clear hx
        have b2 := b1.alloc b1.size (.cells #[.int .i64 x.f, .int .i64 x.s, .int .i64 x.c, .int .i64 x.o, .int .i64 x.p] 31)
        obtain ⟨e1, he1⟩ : ∃ e, (x.f == (a : Int)) = e := ⟨_, rfl⟩
        obtain ⟨e2, he2⟩ : ∃ e, decide (n ≤ x.s) = e := ⟨_, rfl⟩
        have HS : Hid (((at_ l k).f == (a : Int) && decide (n ≤ (at_ l k).s)) = (e1 && e2)) := Lib.hid (by rw [HX.out, he1, he2])
        have hno : (e1 && e2) = false → Hid (∀ j, j < k + 1 → ((at_ l j).f == (a : Int) && decide (n ≤ (at_ l j).s)) = false) := fun he => Lib.hid (fun j hj => by
          by_cases e : j = k
          · subst e; rw [HS.out]; exact he
          · exact HN.out j (by omega))
        cases e1
        · have HN2 := hno rfl
          clear hno he2
          go_wp2_with fail
          exact ⟨⟨k + 1, by simp, by omega, HN2, b2⟩, by simp [intOf]; omega⟩
        · cases e2
          · have HN2 := hno rfl
            clear hno
            go_wp2_with fail
            exact ⟨⟨k + 1, by simp, by omega, HN2, b2⟩, by simp [intOf]; omega⟩
          · have hl : longB l (a : Int) n = true := by
              unfold longB
              rw [List.any_eq_true]
              exact ⟨at_ l k, at_mem (by rw [HL.out]; exact hlt), by rw [HS.out]; rfl⟩
            have HD : Hid (∀ w', Below w.heap.size w w' → RFrmPost base b N l (.slice (some ⟨bo, off, none⟩) m c) (a : Int) n w (.returned (.int .i64 9)) w') := Lib.hid (fun w' hb => by
              have h9 : frE l (a : Int) n = 9 := by rw [HE.out, hl]; rfl
              refine ⟨by rw [h9], ?_, Turn.of_below hb _ _⟩
              unfold frN; rw [h9, if_neg (by decide)]; exact HT.out.below hb)
            clear hno hl
            go_wp2_with fail
            go_ret
            exact HD.out _ b2
      · have hl : longB l (a : Int) n = false := by
          unfold longB
          rw [List.any_eq_false]
          intro x hx
          obtain ⟨j, hj, rfl⟩ := mem_at hx
          rw [HN.out j (by rw [HL.out] at hj; omega)]
          decide
        have h0 : frE l (a : Int) n = 0 := by rw [HE.out, hl]; rfl
        have t1 := HT.out.below b1
        have c0 := t1.n ha
        have f0 : wr.frozen? ⟨b, a, none⟩ = false := t1.blk.free a
        have HD : Hid (RFrmPost base b N l (.slice A m c) (a : Int) n w (.returned (.int .i64 0)) (wr.setCell ⟨b, a, none⟩ (.int .i64 n))) := Lib.hid (by
          have hg := good_fr t1.good (a : Int) n
          refine ⟨by rw [h0], ?_, (Turn.of_below b1 _ _).put a _⟩
          refine ⟨?_, ?_, hg, t1.low⟩
          · unfold frN
            rw [h0, if_pos rfl]
            exact (t1.blk.put a (.int .i64 n)).ext (fun j _ => tv_put N _ a n ha j)
          · exact t1.row.kept (fun q _ => by
              by_cases e : q = b
              · exact .inr (fun e' => t1.ne (e ▸ e'))
              · exact .inl (Below.heap_setCell _ _ _ _ e)))
        clear hl h0 t1
        go_wp2_with fail
        go_ret
        exact HD.out
end Go.Proofs.Ytdknacbdkekfnaa.Ce
