/-
  Package bits (chapter 3): a reader's Text at any bit: each byte is the number of its eight bits.
-/
import Derived.Test.YtamooehncjceiaaBfMore
import Derived.Deep.CutBlock
set_option maxRecDepth 100000
namespace Go.Proofs.Ytamooehncjceiaa.Bf
set_option linter.unusedVariables false
open Go.RowKit Go.ChangeShapes Go.WideShapes Go.ChangeAt Go.Deep Lb

/-- The number that k bits of B are, from bit p on. -/
def num (B : Nat → Bool) (p : Nat) : Nat → Nat
  | 0 => 0
  | k + 1 => 2 * num B p k + (if B (p + k) then 1 else 0)
theorem num_num (B : Nat → Bool) (p : Nat) : ∀ k, Num (num B p k) k B p
  | 0 => Num.zero B p
  | k + 1 => by
    have h := num_num B p k
    have hl := h.lt
    refine ⟨?_, fun j hj => ?_⟩
    · rw [num, Nat.pow_succ]
      split <;> omega
    · rw [num]
      cases j with
      | zero =>
        rw [Nat.testBit_zero, show p + (k + 1 - 1 - 0) = p + k by omega]
        cases B (p + k) <;> simp <;> omega
      | succ j =>
        rw [Nat.testBit_succ, show (2 * num B p k + (if B (p + k) then 1 else 0)) / 2 = num B p k by split <;> omega, h.bit j (by omega), show p + (k + 1 - 1 - (j + 1)) = p + (k - 1 - j) by omega]
theorem num_lt8 (B : Nat → Bool) (p : Nat) : num B p 8 < 256 := (num_num B p 8).lt
/-- A whole byte is its eight bits. -/
theorem num_byte (Z : Nat → Nat) (q : Nat) (hz : Z q < 256) : num (bt Z) (8 * q) 8 = Z q := by
  refine (num_num (bt Z) (8 * q) 8).uniq ⟨hz, fun j hj => ?_⟩
  unfold bt
  rw [show (8 * q + (8 - 1 - j)) / 8 = q by omega, show 7 - (8 * q + (8 - 1 - j)) % 8 = j by omega]
/-- Only the bits count. -/
theorem num_ext {B C : Nat → Bool} {p q : Nat} : ∀ {k : Nat}, (∀ i, i < k → B (p + i) = C (q + i)) → num B p k = num C q k
  | 0, _ => rfl
  | k + 1, h => by rw [num, num, num_ext (fun i hi => h i (by omega)), h k (by omega)]
theorem just_away {b g : Nat} {w w' : World} (h : Just b w w') (hg : w.heap.size ≤ g) (i : Nat) (u : Value) : Just b w (w'.setCell ⟨g, i, none⟩ u) :=
  have j := Just.set g w' i u
  ⟨j.os.trans h.os, j.tape.trans h.tape, j.output.trans h.output, Nat.le_trans h.size j.size, fun k hk hb => (j.block k (Nat.lt_of_lt_of_le hk h.size) (fun e => by omega)).trans (h.block k hk hb)⟩
set_option maxHeartbeats 4000000 in
theorem rtext_any (base b at_ n x : Nat) (Z : Nat → Nat) (err : Int) (v : Value) (w : World) (h : Rd w base b at_ n Z err v) (hx : 0 < x) (hl : at_ + 8 * x ≤ 8 * n) (hn : n ≤ 100000) :
    Calls Try.prog 12 #[.pointer (some ⟨b, 0, none⟩), .int .i64 (x : Nat)] w fun r w' => r = .returned (.slice (some ⟨w.heap.size, 0, none⟩) x x) ∧ Blk w' w.heap.size 5 x (fun i => .int .u8 (num (bt Z) (at_ + 8 * i) 8 : Nat)) ∧ Rd w' base b (at_ + 8 * x) n Z err v ∧ Just b w w' := by
  by_cases h8 : at_ % 8 = 0
  · obtain ⟨j, rfl⟩ : ∃ j, at_ = 8 * j := ⟨at_ / 8, by omega⟩
    refine (textJ base b j n x Z err v w h hx (by omega) hn).mono ?_
    rintro r w' ⟨rfl, h1, h2, h3⟩
    refine ⟨rfl, h1.ext (fun i hi => ?_), h2, h3⟩
    rw [show 8 * j + 8 * i = 8 * (j + i) by omega, num_byte Z (j + i) (h.lt _ (by omega))]
  · have g1 : decide ((x : Int) ≤ 0) = false := by simp; omega
    have g1b : decide (x ≤ 0) = false := by simp; omega
    have g1c : decide (x = 0) = false := by simp; omega
    obtain ⟨L, hL⟩ : ∃ L, 8 * n - at_ = L := ⟨_, rfl⟩
    obtain ⟨D, hD⟩ : ∃ D, L / 8 = D := ⟨_, rfl⟩
    have e1 : (L : Int) / 8 = (D : Int) := by omega
    have e1t : (L : Int).tdiv 8 = (D : Int) := by rw [Int.tdiv_eq_ediv_of_nonneg (by omega)]; exact e1
    have e2 : wrap64 (D : Int) = (D : Int) := IntWalk.wrap64_in _ ⟨by omega, by omega⟩
    have e3 : decide ((D : Int) < (x : Int)) = false := decide_eq_false (by omega)
    have e3b : decide (D < x) = false := decide_eq_false (by omega)
    obtain ⟨r8, hr⟩ : ∃ r8, at_ % 8 = r8 := ⟨_, rfl⟩
    have ea : (at_ : Int) % 8 = (r8 : Int) := by omega
    have eb : ((r8 : Int) == 0) = false := by simp; omega
    have ec : (r8 == 0) = false := by simp; omega
    have hn6 : n ≤ 1000000 := by omega
    have ha8 : at_ ≤ 8 * n := by omega
    obtain ⟨i0, hi0, hz0, hz1, hz2⟩ := info_parts infoB
    have hmk : ∀ w : World, (Instr.makeSlice 22 (.int .i64 (x : Int)) (.int .i64 (x : Int))).run Try.prog w = .ok (.slice (some ⟨w.heap.size, 0, none⟩) x x) (w.alloc (.cells (madeCells #[.int .u8 0] x) 5)) := by
      intro w
      have := run_make w 22 5 i0 (.int .u8 0) Try.underlying22 hi0 hz0 .i64 .i64 (x : Int) (x : Int) (by omega) (by omega) (by rw [hz2]; omega) (by omega)
      rw [this, hz1]
      simp [Value.cells]
    have HCS : Hid (madeCells #[Value.int .u8 0] x = (List.replicate x (Value.int .u8 0)).toArray) := Lib.hid (by
      apply Array.toList_inj.1
      simpa using toList_madeCells_one (Value.int .u8 0) x)
    have hxb : (x : Int) ≤ 9223372036854775807 := by omega
    clear h8
    go_enter Try.func12, Try.ntmps12
    go_wp2_with fail
    refine (left_any base b at_ n Z err v _ h ha8 hn6).mono ?_
    rintro r w1 ⟨rfl, m1, hw1⟩
    have h1 : Rd w1 base b at_ n Z err v := by rw [← hw1]; exact h.drewN m1
    have b1 : Just b w w1 := by rw [← hw1]; exact (Just.refl b w).drewN m1
    have hsz : w1.heap.size = w.heap.size := by rw [← hw1]; rfl
    clear hw1 h
    rw [hL]
    have k1 : w1.cell? ⟨b, 1, none⟩ = some (.int .i64 (at_ : Int)) := h1.own.cell 1
    have hbl := h1.own.lt
    have kk1 : (w1.alloc (.cells (madeCells #[.int .u8 0] x) 5)).cell? ⟨b, 1, none⟩ = some (.int .i64 (at_ : Int)) := (h1.alloc _).own.cell 1
    go_upto_block 0 with (fail)
    have o2 : Blk (w1.alloc (.cells (madeCells #[.int .u8 0] x) 5)) w1.heap.size 5 x (fun _ => .int .u8 0) := Blk.same (Own.new _ _ _) HCS.out
    have h2 := h1.alloc (.cells (madeCells #[.int .u8 0] x) 5)
    have J2 := b1.alloc (.cells (madeCells #[.int .u8 0] x) 5)
    obtain ⟨g0, c0, rfl⟩ := mine_form h1.row (by omega)
    have hg0 := (h1.row.lt g0 rfl).2
    clear h1 k1 kk1 hmk HCS b1 e1 e1t e2 e3 e3b ea eb ec
    rw [hsz] at o2 hbl hg0
    generalize hW2 : w1.alloc (.cells (madeCells #[.int .u8 0] x) 5) = w2 at *
    clear hW2 hsz
    obtain ⟨g, hg⟩ : ∃ g, w.heap.size = g := ⟨_, rfl⟩
    rw [hg] at o2 hbl hg0 ⊢
    have HG := Lib.hid hg
    clear hg
    have hgb : g ≠ b := fun e => by rw [e] at hbl; exact Nat.lt_irrefl _ hbl
    have hgg : g ≠ g0 := fun e => by rw [e] at hg0; exact Nat.lt_irrefl _ hg0
    go_wp2_with fail
    go_loopw [51] (fun i wr => ∃ k : Nat, i = .int .i64 k ∧ k ≤ x ∧ Blk wr g 5 x (fun i => if i < k then .int .u8 (num (bt Z) (at_ + 8 * i) 8 : Nat) else .int .u8 0) ∧ Rd wr base b (at_ + 8 * k) n Z err (.slice (some ⟨g0, 0, none⟩) n c0) ∧ Just b w wr) (fun i _ => x - (intOf i).toNat)
    case atStart => exact ⟨0, rfl, by omega, o2.ext (fun i hi => by simp), h2, J2⟩
    case round =>
      clear o2 h2 J2
      obtain ⟨k, rfl, hk, o3, h3, J3⟩ := hrel
      by_cases hlt : k < x
      · go_wp2_with fail
        refine (takeJ base b (at_ + 8 * k) n Z err _ 8 _ h3 (by omega) (by omega) hn).mono ?_
        rintro r w4 ⟨y, rfl, hy, h4, J4⟩
        have o4 := J4.blk o3 hgb
        have hyv := hy.uniq (num_num (bt Z) (at_ + 8 * k) 8)
        have hy8 : y < 256 := hy.lt
        have e5 : IntKind.u8.wrap (y : Int) = (y : Int) := by rw [IntKind.wrap_u8']; omega
        have e5' : (y : Int) % 256 = (y : Int) := by omega
        have q0 : w4.cell? ⟨g, k, none⟩ = some (.int .u8 0) := by rw [o4.cell hlt, if_neg (Nat.lt_irrefl _)]
        have q1 : w4.frozen? ⟨g, k, none⟩ = false := o4.free k
        have hkx : (k : Int) < (x : Int) := by omega
        have hk0 : (0 : Int) ≤ (k : Int) := by omega
        clear o3 h3
        go_wp2_with fail
        refine ⟨⟨k + 1, by simp, by omega, (o4.put k _).ext (fun i hi => ?_), (by rw [show at_ + 8 * (k + 1) = at_ + 8 * k + 8 by omega]; exact h4.just (Just.set g _ k _) hgb (fun e => by injection e with e; exact hgg e.symm)), just_away (J3.trans J4) (by rw [HG.out]; exact Nat.le_refl _) k _⟩, by simp [intOf]; omega⟩
        by_cases e : i = k
        · rw [if_pos e, if_pos (by omega), e, ← hyv]
        · rw [if_neg e]
          by_cases e2 : i < k
          · rw [if_pos e2, if_pos (by omega)]
          · rw [if_neg e2, if_neg (by omega)]
      · have hkm : k = x := by omega
        subst hkm
        have g4 : decide ((k : Int) < (k : Int)) = false := by simp
        go_wp2_with fail
        go_ret
        rw [HG.out]
        exact ⟨rfl, o3.ext (fun i hi => by rw [if_pos hi]), h3, J3⟩
theorem Blk.row_of {w : World} {b n : Nat} {V : Nat → Value} (h : Blk w b 5 n V) : Row w (some ⟨b, 0, none⟩) n V := fun hn => ⟨b, 0, rfl, h.lt, fun i hi => by rw [Nat.zero_add]; exact h.cell hi⟩
/-- So many bytes, none among them. -/
theorem rtext_all (base b at_ n x : Nat) (Z : Nat → Nat) (err : Int) (v : Value) (w : World) (h : Rd w base b at_ n Z err v) (hl : at_ + 8 * x ≤ 8 * n) (hn : n ≤ 100000) :
    Calls Try.prog 12 #[.pointer (some ⟨b, 0, none⟩), .int .i64 (x : Nat)] w fun r w' => ∃ a c, r = .returned (.slice a x c) ∧ Row w' a x (fun i => .int .u8 (num (bt Z) (at_ + 8 * i) 8 : Nat)) ∧ Rd w' base b (at_ + 8 * x) n Z err v ∧ Just b w w' := by
  by_cases hx : 0 < x
  · refine (rtext_any base b at_ n x Z err v w h hx hl hn).mono ?_
    rintro r w' ⟨rfl, h1, h2, h3⟩
    exact ⟨_, _, rfl, Blk.row_of h1, h2, h3⟩
  · obtain rfl : x = 0 := by omega
    refine (text_neg b ((0 : Nat) : Int) w (by decide)).mono ?_
    rintro r w' ⟨rfl, rfl⟩
    exact ⟨none, 0, rfl, Row.nil _ _ _, h, Just.refl _ _⟩
end Go.Proofs.Ytamooehncjceiaa.Bf
