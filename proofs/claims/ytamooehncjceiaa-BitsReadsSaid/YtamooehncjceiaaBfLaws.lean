/-
  Package bits: Bits, Bytes; a writer, a reader that there is not; bits that every program must know.
-/
import Derived.Test.YtamooehncjceiaaBfWalks
import Derived.Shelf.Bytes.SlClone
import Derived.Ground.SlbCloneProg
set_option maxRecDepth 100000
namespace Go.Proofs.Ytamooehncjceiaa.Bf
set_option linter.unusedVariables false
open Go.RowKit Lb Go.Shelf

theorem Wr.below {w w' : World} {base b bits n : Nat} {Z : Nat → Nat} {B : Nat → Bool} {v : Value} (h : Wr w base b bits n Z B v) (j : Below w.heap.size w w') : Wr w' base b bits n Z B v :=
  ⟨⟨below_own j h.own h.own.lt, h.row.kept (fun q hq => by
    by_cases hl : q < w.heap.size
    · exact .inl (j.block q hl)
    · exact .inr fun e => hl (h.row.lt q e).2), h.str, h.low⟩, h.le, h.lt⟩
theorem bits_any (base b bits n : Nat) (Z : Nat → Nat) (B : Nat → Bool) (v : Value) (w : World) (h : Wr w base b bits n Z B v) :
    Calls Try.prog 24 #[.pointer (some ⟨b, 0, none⟩)] w fun r w' => r = .returned (.int .i64 (bits : Nat)) ∧ w = w' := by
  have k1 : w.cell? ⟨b, 1, none⟩ = some (.int .i64 (bits : Int)) := h.own.cell 1
  go_enter Try.func24, Try.ntmps24
  go_wp2_with fail
  go_ret
  exact ⟨rfl, rfl⟩
theorem bits_nil (w : World) : Calls Try.prog 24 #[.pointer none] w fun r w' => r = .returned (.int .i64 0) ∧ w = w' := by
  go_enter Try.func24, Try.ntmps24
  go_wp2_with fail
  go_ret
  exact ⟨rfl, rfl⟩
def cloneL_ren : Go.Shelf.Ren := ⟨fun | 4 => 26 | n => n, fun | 22 => 22 | 4 => 4 | 5 => 5 | n => n, fun | n => n⟩
theorem cloneL : Go.Proofs.SlLaysK.n4 Try.prog cloneL_ren := {
  mixed := by kernel_rfl
  f4 := Try.func26.trans (congrArg some (by kernel_rfl))
  t4 := Try.underlying4
  a4 := Try.isAgg4
  z4 := Try.sizeOf4
  v4 := Try.zeroValue4
  t22 := Try.underlying22
  a22 := Try.isAgg22
  z22 := Try.sizeOf22
  v22 := Try.zeroValue22
  t5 := Try.underlying5
  i5 := by kernel_rfl }
/-- A copy: the same bytes, in a new block or none. -/
theorem clone_mine (a : Option Addr) (n c : Nat) (Z : Nat → Int) (w : World) (hc : n ≤ 140737488355328) (hR : Row w a n (fun i => .int .u8 (Z i))) (ha : a = none → n = 0) :
    Calls Try.prog 26 #[.slice a n c] w fun r w' => ∃ v, r = .returned v ∧ Mine w' w.heap.size 5 v n (fun i => .int .u8 (Z i)) ∧ Below w.heap.size w w' := by
  have hmap : ((List.range n).map Z).map (Value.int .u8) = (List.range n).map (fun i => .int .u8 (Z i)) := by rw [List.map_map]; rfl
  cases a with
  | none =>
    have hcon := Any.bytes_Clone_nil cloneL n c w
    refine Calls.mono hcon ?_
    rintro r w' ⟨rfl, rfl⟩
    obtain rfl := ha rfl
    exact ⟨.slice none 0 0, rfl, Mine.nil _ _ _ _, Below.refl _ _⟩
  | some p =>
    have hcon := Any.bytes_Clone_at cloneL p n c ((List.range n).map Z) w (by simp) hc (fun i hi => by
      obtain ⟨b, off, hp, _, h3⟩ := hR.at_ hi
      injection hp with hp
      subst hp
      rw [Addr.add_lit, h3]
      simp [hi])
    refine Calls.mono hcon ?_
    rintro r w' ⟨v, rfl, hown, hne, hb⟩
    rw [hmap] at hown
    exact ⟨v, rfl, hown, hb⟩
theorem clone_any (a : Option Addr) (n c : Nat) (Z : Nat → Int) (w : World) (hc : n ≤ 140737488355328) (hR : Row w a n (fun i => .int .u8 (Z i))) (ha : a = none → n = 0) :
    Calls Try.prog 26 #[.slice a n c] w fun r w' => ∃ a' c', r = .returned (.slice a' n c') ∧ n ≤ c' ∧ c' ≤ maxLen ∧ Row w' a' n (fun i => .int .u8 (Z i)) ∧ Below w.heap.size w w' := by
  refine (clone_mine a n c Z w hc hR ha).mono ?_
  rintro r w' ⟨v, rfl, hm, hb⟩
  obtain ⟨a', c', rfl, h1, h2, h3⟩ := Mine.row hm
  exact ⟨a', c', rfl, h1, h2, h3, hb⟩
theorem bytes_any (base b bits n : Nat) (Z : Nat → Nat) (B : Nat → Bool) (v : Value) (w : World) (h : Wr w base b bits n Z B v) (hb : bits ≤ 1000000) :
    Calls Try.prog 25 #[.pointer (some ⟨b, 0, none⟩)] w fun r w' => ∃ a c, r = .returned (.slice a n c) ∧ n ≤ c ∧ c ≤ maxLen ∧ Row w' a n (fun i => .int .u8 (Z i : Nat)) ∧ Below w.heap.size w w' := by
  have hlt := h.lt
  have hrow := h.row
  obtain ⟨a, c, rfl, h1, h2, hR⟩ := h.row.row
  have hn : a = none → n = 0 := fun e => by
    obtain ⟨_, h9⟩ := hrow
    rcases h9 with ⟨_, h0⟩ | ⟨g, cap, cur, hv, _⟩
    · exact h0
    · subst e
      cases hv
  have k0 : w.cell? ⟨b, 0, none⟩ = some (.slice a n c) := h.own.cell 0
  clear hrow h
  go_enter Try.func25, Try.ntmps25
  go_wp2_with fail
  refine (clone_any a n c (fun i => (Z i : Int)) _ (by omega) hR hn).mono ?_
  rintro r w4 ⟨a', c', rfl, h3, h4, hR4, b4⟩
  go_wp2_with fail
  go_ret
  exact ⟨a', c', rfl, h3, h4, hR4, b4⟩
theorem bytes_nil (w : World) : Calls Try.prog 25 #[.pointer none] w fun r w' => r = .returned (.slice none 0 0) ∧ w = w' := by
  go_enter Try.func25, Try.ntmps25
  go_wp2_with fail
  go_ret
  exact ⟨rfl, rfl⟩
theorem put_nil (x y : Int) (w : World) : Calls Try.prog 21 #[.pointer none, .int .u64 x, .int .i64 y] w fun r w' => r = .returned (.tuple #[]) ∧ w = w' := by
  go_enter Try.func21, Try.ntmps21
  go_wp2_with fail
  refine bodyPost_ret (results_none rfl _ _ _) rfl ?_
  exact ⟨rfl, rfl⟩
theorem text_nil (v : Value) (w : World) : Calls Try.prog 22 #[.pointer none, v] w fun r w' => r = .returned (.tuple #[]) ∧ w = w' := by
  go_enter Try.func22, Try.ntmps22
  go_wp2_with fail
  refine bodyPost_ret (results_none rfl _ _ _) rfl ?_
  exact ⟨rfl, rfl⟩
theorem even_nil (w : World) : Calls Try.prog 23 #[.pointer none] w fun r w' => r = .returned (.tuple #[]) ∧ w = w' := by
  go_enter Try.func23, Try.ntmps23
  go_wp2_with fail
  go_end0
  exact ⟨rfl, rfl⟩
theorem reven_nil (w : World) : Calls Try.prog 14 #[.pointer none] w fun r w' => r = .returned (.tuple #[]) ∧ w = w' := by
  go_enter Try.func14, Try.ntmps14
  go_wp2_with fail
  refine bodyPost_ret (results_none rfl _ _ _) rfl ?_
  exact ⟨rfl, rfl⟩
theorem take_nil (x : Int) (w : World) : Calls Try.prog 16 #[.pointer none, .int .i64 x] w fun r w' => r = .returned (.int .u64 0) ∧ w = w' := by
  go_enter Try.func16, Try.ntmps16
  go_wp2_with fail
  go_ret
  exact ⟨rfl, rfl⟩
theorem rtext_nil (x : Int) (w : World) : Calls Try.prog 12 #[.pointer none, .int .i64 x] w fun r w' => r = .returned (.slice none 0 0) ∧ w = w' := by
  go_enter Try.func12, Try.ntmps12
  go_wp2_with fail
  go_ret
  exact ⟨rfl, rfl⟩
theorem left_nil (w : World) : Calls Try.prog 18 #[.pointer none] w fun r w' => r = .returned (.int .i64 0) ∧ w = w' := by
  go_enter Try.func18, Try.ntmps18
  go_wp2_with fail
  go_ret
  exact ⟨rfl, rfl⟩
theorem end_nil (w : World) : Calls Try.prog 19 #[.pointer none] w fun r w' => r = .returned (.int .i64 1) ∧ w = w' := by
  go_enter Try.func19, Try.ntmps19
  go_wp2_with fail
  go_ret
  exact ⟨rfl, rfl⟩
def awB : Nat → Bool := app (app (app (fun _ => false) 0 5 3) 3 1 2) 5 258 40
def awZ (k : Nat) : Nat := [168, 0, 0, 0, 8, 16].getD k 0
theorem aw_bits : ∀ k, k < 6 → ∀ i, i < 8 → (decide (8 * k + i < 45) && awB (8 * k + i)) = (awZ k).testBit (7 - i) := by decide +kernel
theorem aw_lt : ∀ k, k < 6 → awZ k < 256 := by decide +kernel
theorem aw_z {n : Nat} {Z : Nat → Nat} (h : Str n 45 Z awB) (hn : n = 6) : ∀ k, k < 6 → Z k = awZ k := fun k hk => by
  subst hn
  exact eq_byte (h.lt k hk) (aw_lt k hk) (fun i hi => by rw [h.bit k hk i hi, aw_bits k hk i hi])
set_option maxHeartbeats 2000000 in
theorem awake_any (w : World) :
    Calls Try.prog 9 #[] w fun r w' => r = .returned (.bool true) ∧ Below w.heap.size w w' := by
  have HX : Hid (str (fun k => (awZ k : Int)) 6 = ⟨#[168, 0, 0, 0, 8, 16]⟩) := Lib.hid (by decide +kernel)
  have b0 := (Below.refl w.heap.size w).alloc (Nat.le_refl _) (.cells #[.slice none 0 0, .int .i64 0] 47)
  have h0 : Wr (w.alloc (.cells #[.slice none 0 0, .int .i64 0] 47)) w.heap.size w.heap.size 0 0 (fun _ => 0) (fun _ => false) (.slice none 0 0) := ⟨⟨Own.new w 47 _, Mine.nil _ _ _ _, ⟨fun k hk => by omega, fun k hk => by omega⟩, Nat.le_refl _⟩, by decide, by decide⟩
  go_enter Try.func9, Try.ntmps9
  go_wp2_with fail
  refine (put_any w.heap.size w.heap.size 0 0 _ _ _ 5 3 _ h0 (by decide) (by decide) (by decide)).mono ?_
  rintro r w1 ⟨rfl, n1, Z1, v1, h1, b1, _⟩
  have b1 := b0.trans b1
  clear h0 b0
  go_wp2_with fail
  refine (put_any w.heap.size w.heap.size _ n1 _ _ _ 1 2 _ h1 (by decide) (by decide) (by decide)).mono ?_
  rintro r w2 ⟨rfl, n2, Z2, v2, h2, b2, _⟩
  have b2 := b1.trans b2
  clear h1 b1
  go_wp2_with fail
  refine (put_any w.heap.size w.heap.size _ n2 _ _ _ 258 40 _ h2 (by decide) (by decide) (by decide)).mono ?_
  rintro r w3 ⟨rfl, n3, Z3, v3, h3, b3, _⟩
  have b3 := b2.trans b3
  have h3 : Wr w3 w.heap.size w.heap.size 45 n3 Z3 awB v3 := h3
  clear h2 b2
  have hn : n3 = 6 := by have := h3.le; have := h3.lt; omega
  subst hn
  have HZ := Lib.hid (aw_z h3.str rfl)
  go_wp2_with fail
  refine (bytes_any w.heap.size w.heap.size _ _ _ _ _ _ h3 (by decide)).mono ?_
  rintro r w4 ⟨a4, c4, rfl, hc4, hd4, hR4, b4⟩
  have h4 := h3.below b4
  have b4 := b3.trans (b4.mono b3.size)
  clear h3 b3
  have hconv : (convert 22 9 (.slice a4 6 c4)).run Try.prog w4 = .ok (.string ⟨#[168, 0, 0, 0, 8, 16]⟩) w4 := by
    rw [← HX.out, ← str_congr (Z := fun k => (Z3 k : Int)) (Y := fun k => (awZ k : Int)) (n := 6) (fun i hi => by show (Z3 i : Int) = (awZ i : Int); rw [HZ.out i hi])]
    exact conv_string (P := Try.prog) Try.underlying22 Try.underlying5 Try.underlying9 hR4
  go_wp2_with fail
  refine (bits_any w.heap.size w.heap.size _ _ _ _ _ _ h4).mono ?_
  rintro r w' ⟨rfl, rfl⟩
  go_wp2_with fail
  go_ret
  exact ⟨rfl, b4⟩
end Go.Proofs.Ytamooehncjceiaa.Bf
