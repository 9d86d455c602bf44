/-
  The reference's row of bits, read: fails, Ends, Take, TextOf, Over.
-/
import Derived.Test.YtamooehncjceiaaBfRow
import Derived.Test.YtamooehncjceiaaBfTx
import Derived.Test.YtamooehncjceiaaCut
set_option maxRecDepth 100000
namespace Go.Proofs.Ytamooehncjceiaa.Bf
set_option linter.unusedVariables false
open Go.RowKit Lb

/-- What is left of a row of bits: n bits of B from p on, and an error. -/
structure Ro (w : World) (b : Nat) (a : Option Addr) (n c : Nat) (B : Nat → Bool) (p : Nat) (E : Int) : Prop where
  own : Own w b 38 #[.slice a n c, .int .i64 E]
  le : n ≤ c
  cap : c ≤ maxLen
  row : Row w a n (fun i => one (B (p + i)))
  ty : 0 < n → ∀ q, a.map Addr.block = some q → ∃ cs, Own w q 5 cs
theorem row_just {w w' : World} {a : Option Addr} {n g : Nat} {V : Nat → Value} (h : Row w a n V) (j : Just g w w') (hne : 0 < n → ∀ q, a.map Addr.block = some q → q ≠ g) : Row w' a n V := fun hn => by
  obtain ⟨b, off, h1, h2, h3⟩ := h hn
  refine ⟨b, off, h1, Nat.lt_of_lt_of_le h2 j.size, fun i hi => ?_⟩
  have := j.block b h2 (hne hn b (by rw [h1]; rfl))
  have h4 := h3 i hi
  unfold World.cell? at h4 ⊢
  rw [← h4, this]
theorem Ro.just {w w' : World} {b g n c p : Nat} {a : Option Addr} {B : Nat → Bool} {E : Int} {t : TypeId} {cs : Array Value} (h : Ro w b a n c B p E) (j : Just g w w') (o : Own w g t cs) (h1 : t ≠ 38) (h2 : t ≠ 5) : Ro w' b a n c B p E :=
  have hn : ∀ q, 0 < n → a.map Addr.block = some q → q ≠ g := fun q hn e f => by
    subst f
    obtain ⟨ds, hd⟩ := h.ty hn _ e
    exact h2 (own_type o hd)
  ⟨j.own h.own (fun e => by subst e; exact h1 (own_type o h.own)), h.le, h.cap, row_just h.row j (fun h0 q e => hn q h0 e), fun h0 q e => by
    obtain ⟨ds, hd⟩ := h.ty h0 q e
    exact ⟨ds, j.own hd (hn q h0 e)⟩⟩
theorem Ro.self {w w' : World} {b n c p : Nat} {a : Option Addr} {B : Nat → Bool} {E : Int} (h : Ro w b a n c B p E) (j : Just b w w') : Row w' a n (fun i => one (B (p + i))) ∧ (0 < n → ∀ q, a.map Addr.block = some q → ∃ cs, Own w' q 5 cs) :=
  have hn : ∀ q, 0 < n → a.map Addr.block = some q → q ≠ b := fun q hn e f => by
    subst f
    obtain ⟨ds, hd⟩ := h.ty hn _ e
    exact absurd (own_type h.own hd) (by decide)
  ⟨row_just h.row j (fun h0 q e => hn q h0 e), fun h0 q e => by
    obtain ⟨ds, hd⟩ := h.ty h0 q e
    exact ⟨ds, j.own hd (hn q h0 e)⟩⟩
theorem rfails_any (b n c p : Nat) (a : Option Addr) (B : Nat → Bool) (E e : Int) (w : World) (h : Ro w b a n c B p E) :
    Calls Try.prog 29 #[.pointer (some ⟨b, 0, none⟩), .int .i64 e] w fun r w' => r = .returned (.tuple #[]) ∧ Ro w' b none 0 0 B 0 e ∧ Just b w w' := by
  have f0 : w.frozen? ⟨b, 0, none⟩ = false := h.own.free 0
  have f1 : w.frozen? ⟨b, 1, none⟩ = false := h.own.free 1
  have k0 : w.cell? ⟨b, 0, none⟩ = some (.slice a n c) := h.own.cell 0
  have k1 : w.cell? ⟨b, 1, none⟩ = some (.int .i64 E) := h.own.cell 1
  go_enter Try.func29, Try.ntmps29
  go_wp2_with fail
  go_end0
  exact ⟨rfl, ⟨(h.own.put 0 _).put 1 _, by omega, by decide, Row.nil _ _ _, fun h0 => by omega⟩, (Just.set b w 0 _).put 1 _⟩
theorem rends_any (b n c p : Nat) (a : Option Addr) (B : Nat → Bool) (E : Int) (w : World) (h : Ro w b a n c B p E) :
    Calls Try.prog 20 #[.pointer (some ⟨b, 0, none⟩)] w fun r w' => r = .returned (.int .i64 (if E = 0 ∧ 0 < n then 3 else E)) ∧ w = w' := by
  have k0 : w.cell? ⟨b, 0, none⟩ = some (.slice a n c) := h.own.cell 0
  have k1 : w.cell? ⟨b, 1, none⟩ = some (.int .i64 E) := h.own.cell 1
  by_cases h0 : E = 0
  · subst h0
    by_cases h1 : 0 < n
    · have g1 : decide ((0 : Int) < (n : Int)) = true := by simp; omega
      rw [if_pos ⟨rfl, h1⟩]
      go_enter Try.func20, Try.ntmps20
      go_wp2_with fail
      go_ret
      exact ⟨rfl, rfl⟩
    · have g1 : decide ((0 : Int) < (n : Int)) = false := by simp; omega
      rw [if_neg (fun h => h1 h.2)]
      go_enter Try.func20, Try.ntmps20
      go_wp2_with fail
      go_ret
      exact ⟨rfl, rfl⟩
  · have g1 : (E == 0) = false := by simpa using h0
    rw [if_neg (fun h => h0 h.1)]
    clear h0
    go_enter Try.func20, Try.ntmps20
    go_wp2_with fail
    go_ret
    exact ⟨rfl, rfl⟩
theorem size_b : ∀ w : World, (Go.sizeOf 5).run Try.prog w = .ok 1 w := fun _ => rfl
theorem rtake_out (b n c p : Nat) (a : Option Addr) (B : Nat → Bool) (E x : Int) (w : World) (h : Ro w b a n c B p E) (hx : x < 0 ∨ 64 < x ∨ E ≠ 0) :
    Calls Try.prog 17 #[.pointer (some ⟨b, 0, none⟩), .int .i64 x] w fun r w' => r = .returned (.int .u64 0) ∧ w = w' := by
  have k1 : w.cell? ⟨b, 1, none⟩ = some (.int .i64 E) := h.own.cell 1
  by_cases h0 : x < 0
  · go_enter Try.func17, Try.ntmps17
    go_wp2_with fail
    go_ret
    exact ⟨rfl, rfl⟩
  · have g0 : decide (x < 0) = false := by simp; omega
    by_cases h1 : 64 < x
    · have g1 : decide (64 < x) = true := by simp; omega
      clear hx h0 h1
      go_enter Try.func17, Try.ntmps17
      go_wp2_with fail
      go_ret
      exact ⟨rfl, rfl⟩
    · have g1 : decide (64 < x) = false := by simp; omega
      have g2 : (E != 0) = true := by
        rcases hx with h | h | h
        · exact absurd h h0
        · exact absurd h h1
        · simpa using h
      have g3 : (E == 0) = false := by simpa using g2
      clear hx h0 h1
      go_enter Try.func17, Try.ntmps17
      go_wp2_with fail
      go_ret
      exact ⟨rfl, rfl⟩
theorem rtake_short (b n c p : Nat) (a : Option Addr) (B : Nat → Bool) (width : Nat) (w : World) (h : Ro w b a n c B p 0) (hw : width ≤ 64) (hl : n < width) :
    Calls Try.prog 17 #[.pointer (some ⟨b, 0, none⟩), .int .i64 (width : Nat)] w fun r w' => r = .returned (.int .u64 0) ∧ Ro w' b none 0 0 B 0 2 ∧ Just b w w' := by
  have k0 : w.cell? ⟨b, 0, none⟩ = some (.slice a n c) := h.own.cell 0
  have k1 : w.cell? ⟨b, 1, none⟩ = some (.int .i64 0) := h.own.cell 1
  have g1 : decide ((width : Int) < 0) = false := by simp
  have g2 : decide ((64 : Int) < (width : Int)) = false := by simp; omega
  have g3 : decide (64 < width) = false := by simp; omega
  have g4 : decide ((n : Int) < (width : Int)) = true := by simp; omega
  go_enter Try.func17, Try.ntmps17
  go_wp2_with fail
  refine (rfails_any b n c p a B 0 2 w h).mono ?_
  rintro r w2 ⟨rfl, h2, j2⟩
  go_wp2_with fail
  go_ret
  exact ⟨rfl, h2, j2⟩
theorem rtake_any (b n c p : Nat) (a : Option Addr) (B : Nat → Bool) (width : Nat) (w : World) (h : Ro w b a n c B p 0) (hw : width ≤ 64) (hl : width ≤ n) :
    Calls Try.prog 17 #[.pointer (some ⟨b, 0, none⟩), .int .i64 (width : Nat)] w fun r w' => r = .returned (.int .u64 (num B p width : Nat)) ∧ Ro w' b (cutA a c width 1) (n - width) (c - width) B (p + width) 0 ∧ Just b w w' := by
  have k0 : w.cell? ⟨b, 0, none⟩ = some (.slice a n c) := h.own.cell 0
  have k1 : w.cell? ⟨b, 1, none⟩ = some (.int .i64 0) := h.own.cell 1
  have f0 : w.frozen? ⟨b, 0, none⟩ = false := h.own.free 0
  have g1 : decide ((width : Int) < 0) = false := by simp
  have g2 : decide ((64 : Int) < (width : Int)) = false := by simp; omega
  have g3 : decide (64 < width) = false := by simp; omega
  have g4 : decide ((n : Int) < (width : Int)) = false := by simp; omega
  have g5 : decide (n < width) = false := by simp; omega
  have q1 : ∀ wq : World, (Instr.slice 22 (.slice a n c) none (some (.int .i64 (width : Int))) none).run Try.prog wq = .ok (.slice a width c) wq := cut_to 22 5 1 Try.underlying22 size_b a n c width (by have := h.le; omega)
  have q2 : ∀ wq : World, (Instr.slice 22 (.slice a n c) (some (.int .i64 (width : Int))) none none).run Try.prog wq = .ok (.slice (cutA a c width 1) (n - width) (c - width)) wq := cut_from 22 5 1 Try.underlying22 size_b a n c width hl
  have H := Lib.hid h
  have hrow := h.row.cut hl
  clear h
  go_enter Try.func17, Try.ntmps17
  go_wp2_with fail
  go_loopw [5, 37] (fun s i wr => ∃ k : Nat, i = .int .i64 k ∧ s = .int .u64 (num B p k : Nat) ∧ k ≤ width ∧ wr = w) (fun _ i _ => width - (intOf i).toNat)
  case atStart => exact ⟨0, rfl, rfl, by omega, rfl⟩
  case round =>
    obtain ⟨k, rfl, rfl, hk, rfl⟩ := hrel
    by_cases hlt : k < width
    · obtain ⟨g, off, rfl, hg, c0⟩ := hrow.at_ hlt
      have hnl := (num_num B p k).lt
      have hns : num B p (k + 1) = 2 * num B p k + (if B (p + k) then 1 else 0) := rfl
      have hn2 := (num_num B p (k + 1)).lt
      have hp2 : 2 ^ (k + 1) ≤ 2 ^ 64 := Nat.pow_le_pow_right (by decide) (by omega)
      have h64 : (2 : Nat) ^ 64 = 18446744073709551616 := rfl
      obtain ⟨X, hX⟩ : ∃ X, num B p k = X := ⟨_, rfl⟩
      obtain ⟨M, hM⟩ : ∃ M, num B p (k + 1) = M := ⟨_, rfl⟩
      obtain ⟨Y, hY⟩ : ∃ Y : Nat, (if B (p + k) then 1 else 0 : Nat) = Y := ⟨_, rfl⟩
      have hY1 : Y ≤ 1 := by rw [← hY]; split <;> decide
      have c1 : wr.cell? ⟨g, off + k, none⟩ = some (.int .u8 (Y : Nat)) := by
        rw [c0, ← hY]
        unfold one
        cases B (p + k) <;> rfl
      rw [hX] at hns ⊢
      rw [hX] at hnl
      rw [hM, hY] at hns
      rw [hM] at hn2
      have e1 : IntKind.u64.wrap (Y : Int) = (Y : Int) := by rw [IntKind.wrap_u64]; omega
      have e2 : IntKind.u64.wrap ((X : Int) * 2) = 2 * (X : Int) := by rw [IntKind.wrap_u64]; omega
      have e3 : Go.bits .or .u64 (2 * (X : Int)) (Y : Int) = (M : Int) := by
        rw [show 2 * (X : Int) = ((2 * X : Nat) : Int) from by omega, u64_or_nat (2 * X) Y (by omega) (by omega), hns]
        congr 1
        rw [Nat.mul_comm, ← Nat.shiftLeft_eq X 1, Nat.shiftLeft_add_eq_or_of_lt (by omega)]
      have HM := Lib.hid hM
      have HNS := Lib.hid hns
      clear hX hM hY hn2 hnl hp2 h64 c0
      go_wp2_with fail
      exact ⟨⟨k + 1, by simp, by rw [HM.out]; have := HNS.out; first | rfl | (congr 1; omega), by omega, trivial⟩, by simp [intOf]; omega⟩
    · obtain rfl : k = width := by omega
      have g6 : decide ((k : Int) < (k : Int)) = false := by simp
      obtain ⟨X, hX⟩ : ∃ X, num B p k = X := ⟨_, rfl⟩
      rw [hX]
      have HX := Lib.hid hX
      clear hX
      go_wp2_with fail
      go_ret
      have h := H.out
      have j := Just.set b wr 0 (.slice (cutA a c k 1) (n - k) (c - k))
      obtain ⟨h1, h2⟩ := h.self j
      refine ⟨by rw [HX.out]; rfl, ⟨h.own.put 0 _, by have := h.le; omega, by have := h.cap; omega, ?_, ?_⟩, j⟩
      · have h3 := cut_row (s := 1) (K := k) (by rw [Nat.mul_one]; exact h1) h.le
        simp only [Nat.mul_one] at h3
        intro h0
        obtain ⟨q, off, e1, e2, e3⟩ := h3 h0
        exact ⟨q, off, e1, e2, fun i hi => by
          rw [e3 i hi]
          show some (one _) = some (one _)
          rw [Nat.add_assoc]⟩
      · intro h0 q e
        refine h2 (by omega) q ?_
        unfold cutA at e
        have := h.le
        rw [if_neg (by omega)] at e
        rw [← e]
        cases a with
        | none => rfl
        | some x =>
          simp only [Option.map_some, Addr.add]
          split <;> rfl
theorem num_none {B : Nat → Bool} {p : Nat} : ∀ {k : Nat}, num B p k = 0 → ∀ i, i < k → B (p + i) = false
  | 0, _ => fun i hi => absurd hi (by omega)
  | k + 1, h => fun i hi => by
    rw [num] at h
    by_cases e : i = k
    · subst e
      cases hb : B (p + i)
      · rfl
      · rw [hb, if_pos rfl] at h
        omega
    · exact num_none (k := k) (by omega) i (by omega)
/-- How long the row's slice is. -/
def lenOf (b : Nat) (w : World) : Nat := match w.cell? ⟨b, 0, none⟩ with
  | some (.slice _ n _) => n
  | _ => 0
set_option maxHeartbeats 2000000 in
theorem rover_any (b n c p : Nat) (a : Option Addr) (B : Nat → Bool) (E : Int) (w : World) (h : Ro w b a n c B p E) (hE : E = 0 ∨ n = 0) (hn : n ≤ 1000000) :
    Calls Try.prog 15 #[.pointer (some ⟨b, 0, none⟩)] w fun r w' => r = .returned (.tuple #[]) ∧ Just b w w' ∧ ((num B p (n % 8) = 0 ∧ ∃ a' c', Ro w' b a' (n - n % 8) c' B (p + n % 8) E) ∨ (num B p (n % 8) ≠ 0 ∧ Ro w' b none 0 0 B 0 3)) := by
  have h0 : Ro w b a (n - 0) c B (p + 0) E := h
  obtain ⟨K, hK⟩ : ∃ K, n % 8 = K := ⟨_, rfl⟩
  rw [hK]
  have hK8 : K < 8 := by omega
  have hKn : K ≤ n := by omega
  have HD := Lib.hid (show ∀ k, k ≤ K → ((n - k) % 8 = K - k) by intro k hk; omega)
  clear h
  go_enter Try.func15, Try.ntmps15
  go_wp2_with fail
  go_loopw [] (fun wr => ∃ k a' c', k ≤ K ∧ num B p k = 0 ∧ Ro wr b a' (n - k) c' B (p + k) E ∧ Just b w wr) (fun wr => lenOf b wr)
  case atStart => exact ⟨0, a, c, by omega, rfl, h0, Just.refl _ _⟩
  case round =>
    clear h0
    obtain ⟨k, a1, c1, hk, hz, h1, j1⟩ := hrel
    have hD := HD.out k hk
    have k0 : wr.cell? ⟨b, 0, none⟩ = some (.slice a1 (n - k) c1) := h1.own.cell 0
    have HL : Hid (lenOf b wr = n - k) := Lib.hid (by unfold lenOf; rw [k0])
    obtain ⟨L, hL⟩ : ∃ L, n - k = L := ⟨_, rfl⟩
    rw [hL] at hD h1 k0 HL
    by_cases hlt : k < K
    · have e1 : (L : Int) % 8 = ((K - k : Nat) : Int) := by omega
      have e1t : (L : Int).tmod 8 = ((K - k : Nat) : Int) := by rw [Int.tmod_eq_emod_of_nonneg (by omega)]; exact e1
      obtain ⟨D, hDD⟩ : ∃ D, K - k = D := ⟨_, rfl⟩
      rw [hDD] at e1 e1t
      have e2 : ((D : Int) == 0) = false := by simp; omega
      have e2b : (D == 0) = false := by simp; omega
      obtain rfl : E = 0 := by omega
      have hL1 : 1 ≤ L := by omega
      have HZ := Lib.hid hz
      have HL2 := Lib.hid hL
      clear hD hDD hz hL
      go_wp2_with fail
      refine (rtake_any b L c1 (p + k) a1 B 1 _ h1 (by decide) hL1).mono ?_
      rintro r w2 ⟨rfl, h2, j2⟩
      have hn1 : num B (p + k) 1 = if B (p + k) then 1 else 0 := by unfold num; simp [num]
      have HS : Hid (num B p (k + 1) = 2 * num B p k + (if B (p + k) then 1 else 0)) := Lib.hid rfl
      cases hb : B (p + k)
      · rw [hb, if_neg (by decide)] at hn1
        rw [hn1]
        have hs := HS.out
        rw [hb, HZ.out, if_neg (by decide)] at hs
        have HS2 := Lib.hid hs
        have k2 : w2.cell? ⟨b, 0, none⟩ = some (.slice (cutA a1 c1 1 1) (L - 1) (c1 - 1)) := h2.own.cell 0
        have HLE : Hid (lenOf b w2 < lenOf b wr) := Lib.hid (by rw [HL.out]; unfold lenOf; rw [k2]; show L - 1 < L; omega)
        clear hn1 hs hb k2
        go_wp2_with fail
        exact ⟨⟨k + 1, _, _, by omega, HS2.out, by rw [show n - (k + 1) = L - 1 by have := HL2.out; omega]; exact h2, j1.trans j2⟩, HLE.out⟩
      · rw [hb, if_pos rfl] at hn1
        rw [hn1]
        have HB : Hid (num B p K ≠ 0) := Lib.hid (fun e => by
          have := num_none e k hlt
          rw [hb] at this
          cases this)
        clear hn1 hb
        go_wp2_with fail
        refine (rfails_any b _ _ _ _ B 0 3 w2 h2).mono ?_
        rintro r w3 ⟨rfl, h3, j3⟩
        go_wp2_with fail
        refine bodyPost_ret (results_none rfl _ _ _) rfl ?_
        exact ⟨rfl, (j1.trans j2).trans j3, .inr ⟨HB.out, h3⟩⟩
    · obtain rfl : k = K := by omega
      have e1 : (L : Int) % 8 = 0 := by omega
      have e1t : (L : Int).tmod 8 = 0 := by rw [Int.tmod_eq_emod_of_nonneg (by omega)]; exact e1
      have HL2 := Lib.hid hL
      have HZ := Lib.hid hz
      clear hL hD hz
      go_wp2_with fail
      go_end0
      exact ⟨rfl, j1, .inl ⟨HZ.out, a1, c1, by rw [HL2.out]; exact h1⟩⟩
theorem rover_zero (b n c p : Nat) (a : Option Addr) (B : Nat → Bool) (E : Int) (w : World) (h : Ro w b a n c B p E) (h8 : n % 8 = 0) (hn : n ≤ 1000000) :
    Calls Try.prog 15 #[.pointer (some ⟨b, 0, none⟩)] w fun r w' => r = .returned (.tuple #[]) ∧ w = w' := by
  have k0 : w.cell? ⟨b, 0, none⟩ = some (.slice a n c) := h.own.cell 0
  have e1 : (n : Int) % 8 = 0 := by omega
  have e1t : (n : Int).tmod 8 = 0 := by rw [Int.tmod_eq_emod_of_nonneg (by omega)]; exact e1
  clear h8
  go_enter Try.func15, Try.ntmps15
  go_wp2_with fail
  go_loopw [] (fun wr => wr = w) (fun _ => 0)
  case atStart => rfl
  case round =>
    subst hrel
    go_wp2_with fail
    go_end0
    exact ⟨rfl, rfl⟩
theorem just_grown {b : Nat} {w w1 w2 : World} {row : Option Nat} (h : Just b w w1) (g : w1.grownBy w2 row) (hr : ∀ q, row = some q → w.heap.size ≤ q) : Just b w w2 :=
  ⟨g.os.trans h.os, g.tape.trans h.tape, g.output.trans h.output, Nat.le_trans h.size g.size, fun k hk hb => (g.block k (Nat.lt_of_lt_of_le hk h.size) (fun e => by have := hr k e.symm; omega)).trans (h.block k hk hb)⟩
theorem cutA_block (a : Option Addr) (c K s : Nat) : (cutA a c K s).map Addr.block = a.map Addr.block := by
  unfold cutA
  split
  · rfl
  · cases a with
    | none => rfl
    | some x =>
      simp only [Option.map_some, Addr.add]
      split <;> rfl
theorem Ro.lo {w w' : World} {base b n c p : Nat} {a : Option Addr} {B : Nat → Bool} {E : Int} (h : Ro w b a n c B p E) (hb : Below base w w') (h1 : b < base) (h2 : ∀ q, a.map Addr.block = some q → q < base) : Ro w' b a n c B p E :=
  ⟨(hb.block b h1).trans h.own, h.le, h.cap, fun hn => by
    obtain ⟨q, off, e1, e2, e3⟩ := h.row hn
    have hq := h2 q (by rw [e1]; rfl)
    exact ⟨q, off, e1, Nat.lt_of_lt_of_le e2 hb.size, fun i hi => by
      have h4 := e3 i hi
      unfold World.cell? at h4 ⊢
      rw [← h4, hb.block q hq]⟩, fun h0 q e => by
    obtain ⟨cs, hc⟩ := h.ty h0 q e
    exact ⟨cs, (hb.block q (h2 q e)).trans hc⟩⟩
theorem rtextof_out (b n c p : Nat) (a : Option Addr) (B : Nat → Bool) (E x : Int) (w : World) (h : Ro w b a n c B p E) (hx : x ≤ 0 ∨ E ≠ 0) :
    Calls Try.prog 13 #[.pointer (some ⟨b, 0, none⟩), .int .i64 x] w fun r w' => r = .returned (.slice none 0 0) ∧ w = w' := by
  have k1 : w.cell? ⟨b, 1, none⟩ = some (.int .i64 E) := h.own.cell 1
  by_cases h0 : x ≤ 0
  · go_enter Try.func13, Try.ntmps13
    go_wp2_with fail
    go_ret
    exact ⟨rfl, rfl⟩
  · have g0 : decide (x ≤ 0) = false := by simp; omega
    have g2 : (E != 0) = true := by
      rcases hx with h | h
      · exact absurd h h0
      · simpa using h
    have g3 : (E == 0) = false := by simpa using g2
    clear hx h0
    go_enter Try.func13, Try.ntmps13
    go_wp2_with fail
    go_ret
    exact ⟨rfl, rfl⟩
theorem rtextof_short (b n c p : Nat) (a : Option Addr) (B : Nat → Bool) (x : Int) (w : World) (h : Ro w b a n c B p 0) (hx : 0 < x) (hl : n / 8 < x.toNat) (hn : n ≤ 1000000) :
    Calls Try.prog 13 #[.pointer (some ⟨b, 0, none⟩), .int .i64 x] w fun r w' => r = .returned (.slice none 0 0) ∧ Ro w' b none 0 0 B 0 2 ∧ Just b w w' := by
  have k0 : w.cell? ⟨b, 0, none⟩ = some (.slice a n c) := h.own.cell 0
  have k1 : w.cell? ⟨b, 1, none⟩ = some (.int .i64 0) := h.own.cell 1
  have g0 : decide (x ≤ 0) = false := by simp; omega
  obtain ⟨D, hD⟩ : ∃ D, n / 8 = D := ⟨_, rfl⟩
  have e1 : (n : Int) / 8 = (D : Int) := by omega
  have e1t : (n : Int).tdiv 8 = (D : Int) := by rw [Int.tdiv_eq_ediv_of_nonneg (by omega)]; exact e1
  have e2 : wrap64 (D : Int) = (D : Int) := IntWalk.wrap64_in _ ⟨by omega, by omega⟩
  have g1 : decide ((D : Int) < x) = true := by simp; omega
  clear hx hl hD
  go_enter Try.func13, Try.ntmps13
  go_wp2_with fail
  refine (rfails_any b n c p a B 0 2 w h).mono ?_
  rintro r w2 ⟨rfl, h2, j2⟩
  go_wp2_with fail
  go_ret
  exact ⟨rfl, h2, j2⟩
set_option maxHeartbeats 4000000 in
theorem rtextof_any (b n c p x : Nat) (a : Option Addr) (B : Nat → Bool) (w : World) (h : Ro w b a n c B p 0) (hx : 0 < x) (hl : 8 * x ≤ n) (hn : n ≤ 1000000) :
    Calls Try.prog 13 #[.pointer (some ⟨b, 0, none⟩), .int .i64 (x : Nat)] w fun r w' => ∃ a1 c1 a2 c2, r = .returned (.slice a1 x c1) ∧ Row w' a1 x (fun i => .int .u8 (num B (p + 8 * i) 8 : Nat)) ∧ (∀ q, a1.map Addr.block = some q → ∃ cs, Own w' q 5 cs) ∧ Ro w' b a2 (n - 8 * x) c2 B (p + 8 * x) 0 ∧ Just b w w' := by
  obtain ⟨i0, hi0, hz0, hz1, hz2⟩ := info_parts infoB
  have k0 : w.cell? ⟨b, 0, none⟩ = some (.slice a n c) := h.own.cell 0
  have k1 : w.cell? ⟨b, 1, none⟩ = some (.int .i64 0) := h.own.cell 1
  have g0 : decide ((x : Int) ≤ 0) = false := by simp; omega
  have g0b : decide (x ≤ 0) = false := by simp; omega
  have g0c : decide (x = 0) = false := by simp; omega
  obtain ⟨D, hD⟩ : ∃ D, n / 8 = D := ⟨_, rfl⟩
  have e1 : (n : Int) / 8 = (D : Int) := by omega
  have e1t : (n : Int).tdiv 8 = (D : Int) := by rw [Int.tdiv_eq_ediv_of_nonneg (by omega)]; exact e1
  have e2 : wrap64 (D : Int) = (D : Int) := IntWalk.wrap64_in _ ⟨by omega, by omega⟩
  have g1 : decide ((D : Int) < (x : Int)) = false := by simp; omega
  have g1b : decide (D < x) = false := by simp; omega
  have hxi : (x : Int) ≤ 9223372036854775807 := by omega
  have hbs := h.own.lt
  clear hD
  have HBL : Hid (∀ q, a.map Addr.block = some q → q < w.heap.size) := Lib.hid (fun q e => by
    obtain ⟨q', off, e1, e2, _⟩ := h.row (by omega)
    rw [e1] at e
    injection e with e
    subst e
    exact e2)
  have h0 : Ro w b a (n - 8 * 0) c B (p + 8 * 0) 0 := h
  clear h
  go_enter Try.func13, Try.ntmps13
  go_wp2_with fail
  go_loopw [5, 26] (fun s i wr => ∃ k a2 c2, i = .int .i64 (k : Nat) ∧ k ≤ x ∧ Mine wr w.heap.size 5 s k (fun i => .int .u8 (num B (p + 8 * i) 8 : Nat)) ∧ Ro wr b a2 (n - 8 * k) c2 B (p + 8 * k) 0 ∧ Just b w wr ∧ Hid (a2.map Addr.block = a.map Addr.block)) (fun _ i _ => x - (intOf i).toNat)
  case atStart => exact ⟨0, a, c, rfl, by omega, Mine.nil _ _ _ _, h0, Just.refl _ _, Lib.hid rfl⟩
  case round =>
    clear h0 k0 k1 e1 e1t e2 g1 g1b
    obtain ⟨k, a2, c2, rfl, hk, m1, h1, j1, HA⟩ := hrel
    obtain ⟨a1, c1, rfl, hc1, hd1, hR1⟩ := m1.row
    unfold maxLen at hd1
    by_cases hlt : k < x
    · have hw8 : 8 ≤ n - 8 * k := by omega
      have hk63 : k + 1 ≤ maxLen := by unfold maxLen; omega
      have HK := Lib.hid hk63
      have HW := Lib.hid hw8
      clear hk63 hw8 hR1
      go_wp2_with fail
      refine (rtake_any b (n - 8 * k) c2 (p + 8 * k) a2 B 8 _ h1 (by decide) HW.out).mono ?_
      rintro r w2 ⟨rfl, h2, j2⟩
      have hN := num_lt8 B (p + 8 * k)
      obtain ⟨Y, hY⟩ : ∃ Y, num B (p + 8 * k) 8 = Y := ⟨_, rfl⟩
      rw [hY] at hN ⊢
      have e5 : IntKind.u8.wrap (Y : Int) = (Y : Int) := by rw [IntKind.wrap_u8']; omega
      have e5' : (Y : Int) % 256 = (Y : Int) := by omega
      have m2 := (m1.just j2 hbs).alloc (.cells #[.int .u8 (Y : Nat)] 5)
      have hr2 := row_new (n := 1) (V := fun _ => .int .u8 (Y : Nat)) w2 #[.int .u8 (Y : Nat)] 5 (0, 0) (fun i hi => by obtain rfl : i = 0 := (by omega); rfl)
      have jj := j1.trans j2
      have bsz := jj.size
      have HGE : Hid (∀ q', (Value.slice a1 k c1).ownBlock = some q' → w.heap.size ≤ q') := Lib.hid (fun q' e => (m1.lt q' e).1)
      have HY := Lib.hid hY
      clear hY m1 h1 j1 j2
      go_wp2_with (at_builtin; go_must (refine wp_app_at rfl (.tmp 28) (.tmp 32) _ rfl w.heap.size 5 i0 _ 1 Try.underlying22 hi0 hz0 hz1 hz2 rfl _ k _ rfl m2 _ 1 _ (fun _ => .int .u8 (Y : Nat)) rfl hr2 (fun _ _ => rfl) HK.out ?c2 ?c3 ?_))
      case c2 => omega
      case c3 => simp; omega
      intro v6 w6 m6 g6 q6
      have o6 := grown_own g6 (h2.own.alloc (.cells #[.int .u8 (Y : Nat)] 5)) (fun e => by have := HGE.out b e; omega)
      have j6 : Just b w w6 := just_grown (jj.alloc (.cells #[.int .u8 (Y : Nat)] 5)) g6 (fun q e => HGE.out q e)
      have b6 : Below w.heap.size w2 w6 := ((Below.refl w.heap.size w2).alloc bsz (.cells #[.int .u8 (Y : Nat)] 5)).grown g6 (by simp; omega) (fun q e => HGE.out q e)
      have h6 := h2.lo b6 hbs (fun q e => HBL.out q (by rw [← HA.out, ← cutA_block a2 c2 8 1]; exact e))
      clear hr2 m2 h2 g6 q6 jj o6 b6
      obtain ⟨a6, c6, rfl, _, _, _⟩ := m6.row
      go_wp2_with fail
      refine ⟨⟨k + 1, _, _, by simp, by omega, m6.ext (fun i hi => ?_), (by rw [show n - 8 * (k + 1) = n - 8 * k - 8 by omega, show p + 8 * (k + 1) = p + 8 * k + 8 by omega]; exact h6), j6, Lib.hid (by rw [cutA_block]; exact HA.out)⟩, by simp [intOf]; omega⟩
      by_cases e : i < k
      · rw [if_pos e]
      · obtain rfl : i = k := by omega
        rw [if_neg e, HY.out]
    · obtain rfl : k = x := by omega
      have g6 : decide ((k : Int) < (k : Int)) = false := by simp
      go_wp2_with fail
      go_ret
      exact ⟨a1, c1, a2, c2, rfl, hR1, mine_ty m1, h1, j1⟩
end Go.Proofs.Ytamooehncjceiaa.Bf
