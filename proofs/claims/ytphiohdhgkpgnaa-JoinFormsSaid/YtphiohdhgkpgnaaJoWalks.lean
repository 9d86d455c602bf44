/-
  Package join (chapter 18): requests and grants as bytes.
-/
import Derived.Test.YtphiohdhgkpgnaaJoM
set_option maxRecDepth 100000
namespace Go.Proofs.Ytphiohdhgkpgnaa.Jo
set_option linter.unusedVariables false
open Go.RowKit Lb Go.Shelf Bf Se Cl

/-- A row of bytes, as it is. -/
structure Bs (w : World) (a : Option Addr) (c : Nat) (l : List Int) : Prop where
  le : l.length ≤ c
  cap : c ≤ maxLen
  row : Row w a l.length (bval l)
theorem Bs.below {w w' : World} {a : Option Addr} {c : Nat} {l : List Int} (h : Bs w a c l) (j : Below w.heap.size w w') : Bs w' a c l := ⟨h.le, h.cap, h.row.below j⟩
theorem put1_any (base b : Nat) (l : List Int) (v : Value) (x : Int) (w : World) (h : Wb w base b l v) (hx : 0 ≤ x ∧ x < 256) (hl : l.length ≤ 100000) :
    Calls Try.prog 48 #[.pointer (some ⟨b, 0, none⟩), .int .u64 x, .int .i64 8] w fun r w' => r = .returned (.tuple #[]) ∧ ∃ v', Wb w' base b (l ++ [x]) v' ∧ Below base w w' ∧ Lone w w' b v v' := by
  obtain ⟨N, rfl⟩ : ∃ N : Nat, x = (N : Int) := ⟨x.toNat, by omega⟩
  have := putk_any base b l v N 1 w h (by omega) (by omega) hl
  rw [bytesK_one N (by omega)] at this
  exact this
theorem put4_any (base b : Nat) (l : List Int) (v : Value) (x : Int) (w : World) (h : Wb w base b l v) (hx : In32 x) (hl : l.length ≤ 100000) :
    Calls Try.prog 48 #[.pointer (some ⟨b, 0, none⟩), .int .u64 x, .int .i64 32] w fun r w' => r = .returned (.tuple #[]) ∧ ∃ v', Wb w' base b (l ++ b4 x) v' ∧ Below base w w' ∧ Lone w w' b v v' := by
  obtain ⟨h0, h1⟩ := hx
  obtain ⟨N, rfl⟩ : ∃ N : Nat, x = (N : Int) := ⟨x.toNat, by omega⟩
  exact putk_any base b l v N 4 w h (by omega) (by omega) hl
theorem u64_id {x : Int} (h : 0 ≤ x ∧ x < 18446744073709551616) : IntKind.u64.wrap x = x := by
  rw [IntKind.wrap_u64]
  omega
theorem wb_start (w : World) : Wb (w.alloc (.cells #[.slice none 0 0, .int .i64 0] 99)) w.heap.size w.heap.size [] (.slice none 0 0) :=
  ⟨fun _ => 0, fun _ => false, ⟨⟨Own.new w 99 #[.slice none 0 0, .int .i64 0], Mine.nil _ _ _ _, ⟨fun k hk => by simp at hk, fun k hk => by simp at hk⟩, Nat.le_refl _⟩, by simp, by simp⟩, fun k hk => by simp at hk⟩
theorem wb_lt {w : World} {base b : Nat} {l : List Int} {v : Value} (h : Wb w base b l v) : base ≤ b ∧ b < w.heap.size := by
  obtain ⟨Z, B, h1, h2⟩ := h
  exact ⟨h1.low, h1.own.lt⟩
/-- A row of bytes is not the writer's own block: what a writer does leaves it. -/
theorem row_lone {w w' : World} {base b : Nat} {a : Option Addr} {l dl : List Int} {v' : Value} (h : Row w a l.length (bval l)) (hW : Wb w base b dl (.slice none 0 0)) (lo : Lone w w' b (.slice none 0 0) v') (hs : w.heap.size ≤ w'.heap.size) : Row w' a l.length (bval l) := by
  intro hn
  obtain ⟨q, off, h1, h2, h3⟩ := h hn
  obtain ⟨Z, B, hw, _⟩ := hW
  have hq : q ≠ b := fun e => by
    subst e
    have h4 := h3 0 hn
    rw [hw.own.cell] at h4
    unfold bval at h4
    rcases off with _ | _ | off
    · cases h4
    · simp at h4
    · simp at h4
  refine ⟨q, off, h1, Nat.lt_of_lt_of_le h2 hs, fun i hi => ?_⟩
  have := lo.keep q h2 hq (fun e => by cases e)
  rw [← h3 i hi]
  unfold World.cell?
  rw [this]
/-- A row of bytes in memory of its own. -/
structure BsN (lo : Nat) (w : World) (a : Option Addr) (c : Nat) (l : List Int) : Prop extends Bs w a c l where
  low : ∀ p, a = some p → lo ≤ p.block
theorem BsN.lower {lo lo' : Nat} {w : World} {a : Option Addr} {c : Nat} {l : List Int} (h : BsN lo w a c l) (hl : lo' ≤ lo) : BsN lo' w a c l := ⟨h.toBs, fun p hp => Nat.le_trans hl (h.low p hp)⟩
theorem bytes_mine (base b bits n : Nat) (Z : Nat → Nat) (B : Nat → Bool) (v : Value) (w : World) (h : Wr w base b bits n Z B v) (hb : bits ≤ 1000000) :
    Calls Try.prog 49 #[.pointer (some ⟨b, 0, none⟩)] w fun r w' => ∃ v', r = .returned v' ∧ Mine w' w.heap.size 5 v' n (fun i => .int .u8 (Z i : Nat)) ∧ Below w.heap.size w w' := by
  have hlt := h.lt
  have hrow := h.row
  obtain ⟨a, c, rfl, h1, h2, hR⟩ := h.row.row
  have hn : a = none → n = 0 := fun e => by
    obtain ⟨_, h9⟩ := hrow
    rcases h9 with ⟨_, h0⟩ | ⟨g, cap, cur, hv, _⟩
    · exact h0
    · subst e
      cases hv
  have k0 : w.cell? ⟨b, 0, none⟩ = some (.slice a n c) := h.own.cell 0
  clear hrow h
  go_enter Try.func49, Try.ntmps49
  go_wp2_with fail
  refine (clone_mine a n c (fun i => (Z i : Int)) _ (by omega) hR hn).mono ?_
  rintro r w4 ⟨v', rfl, hm, b4⟩
  go_wp2_with fail
  go_ret
  exact ⟨v', rfl, hm, b4⟩
/-- The bytes that a writer has. -/
theorem wbytes_any (base b : Nat) (l : List Int) (v : Value) (w : World) (h : Wb w base b l v) (hl : l.length ≤ 100000) :
    Calls Try.prog 49 #[.pointer (some ⟨b, 0, none⟩)] w fun r w' => ∃ a c, r = .returned (.slice a l.length c) ∧ BsN w.heap.size w' a c l ∧ Below w.heap.size w w' := by
  obtain ⟨Z, B, h1, h2⟩ := h
  refine (bytes_mine base b _ _ Z B v w h1 (by omega)).mono ?_
  rintro r w' ⟨v', rfl, hm, bb⟩
  have hlt := hm.lt
  obtain ⟨a, c, rfl, hc, hd, hR⟩ := hm.row
  exact ⟨a, c, rfl, ⟨⟨hc, hd, row_ext hR (fun i hi => by unfold bval; rw [← h2 i hi])⟩, fun p hp => by subst hp; exact (hlt p.block rfl).1⟩, bb⟩
set_option maxHeartbeats 2000000 in
theorem abody_any (r : Rq) (w : World) (h1 : nodeB r.nd = true) (h2 : nodeB r.pa = true) (hno : In32 r.no) (hco : In32 r.co) :
    Calls Try.prog 85 #[.agg r.vals] w fun e w' => ∃ a c, e = .returned (.slice a (askB r).length c) ∧ Bs w' a c (askB r) ∧ Below w.heap.size w w' := by
  rw [nodeB_iff] at h1 h2
  unfold In32 at hno hco
  have q1 := Own.new w 67 r.vals
  have b0 := (Below.refl w.heap.size w).alloc (Nat.le_refl _) (.cells r.vals 67)
  have hs1 : w.heap.size < (w.alloc (.cells r.vals 67)).heap.size := by simp
  go_enter Try.func85, Try.ntmps85
  go_upto_region 1 with (fail)
  generalize w.alloc (.cells r.vals 67) = w1 at *
  have hW := wb_start w1
  have b4 := b0.alloc b0.size (.cells #[.slice none 0 0, .int .i64 0] 99)
  have q3 := q1.alloc (.cells #[.slice none 0 0, .int .i64 0] 99)
  go_upto_region 2 with (fail)
  generalize w1.alloc (.cells #[.slice none 0 0, .int .i64 0] 99) = w3 at *
  obtain ⟨g, hg⟩ : ∃ g, w1.heap.size = g := ⟨_, rfl⟩
  rw [hg] at hW hs1 ⊢
  clear hg b0 q1
  have c0 : w3.cell? ⟨w.heap.size, 0, none⟩ = some (.int .i64 r.nd) := q3.cell 0
  have c1 : w3.cell? ⟨w.heap.size, 1, none⟩ = some (.int .i64 r.pa) := q3.cell 1
  have c2 : w3.cell? ⟨w.heap.size, 2, none⟩ = some (.int .u32 r.no) := q3.cell 2
  have c3 : w3.cell? ⟨w.heap.size, 3, none⟩ = some (.int .u32 r.co) := q3.cell 3
  have c4 : w3.cell? ⟨w.heap.size, 4, none⟩ = some (.int .u32 r.tg) := q3.cell 4
  go_wp2_with fail
  refine (put1_any g g ([]) (.slice none 0 0) 74 w3 hW (by omega) (by simp)).mono ?_
  rintro r x1 ⟨rfl, v1, hW, bb, lo⟩
  have b4 := b4.trans (bb.mono (by omega))
  have q3 := below_own bb q3 hs1
  clear c0 c1 c2 c3 c4 bb lo
  have c0 : x1.cell? ⟨w.heap.size, 0, none⟩ = some (.int .i64 r.nd) := q3.cell 0
  have c1 : x1.cell? ⟨w.heap.size, 1, none⟩ = some (.int .i64 r.pa) := q3.cell 1
  have c2 : x1.cell? ⟨w.heap.size, 2, none⟩ = some (.int .u32 r.no) := q3.cell 2
  have c3 : x1.cell? ⟨w.heap.size, 3, none⟩ = some (.int .u32 r.co) := q3.cell 3
  have c4 : x1.cell? ⟨w.heap.size, 4, none⟩ = some (.int .u32 r.tg) := q3.cell 4
  have u1 : IntKind.u64.wrap r.nd = r.nd := u64_id (by omega)
  go_wp2_with fail
  refine (put1_any g g ([] ++ [74]) v1 r.nd x1 hW (by omega) (by simp)).mono ?_
  rintro r x2 ⟨rfl, v2, hW, bb, lo⟩
  have b4 := b4.trans (bb.mono (by omega))
  have q3 := below_own bb q3 hs1
  clear c0 c1 c2 c3 c4 u1 bb lo
  have c0 : x2.cell? ⟨w.heap.size, 0, none⟩ = some (.int .i64 r.nd) := q3.cell 0
  have c1 : x2.cell? ⟨w.heap.size, 1, none⟩ = some (.int .i64 r.pa) := q3.cell 1
  have c2 : x2.cell? ⟨w.heap.size, 2, none⟩ = some (.int .u32 r.no) := q3.cell 2
  have c3 : x2.cell? ⟨w.heap.size, 3, none⟩ = some (.int .u32 r.co) := q3.cell 3
  have c4 : x2.cell? ⟨w.heap.size, 4, none⟩ = some (.int .u32 r.tg) := q3.cell 4
  have u2 : IntKind.u64.wrap r.pa = r.pa := u64_id (by omega)
  go_wp2_with fail
  refine (put1_any g g ([] ++ [74] ++ [r.nd]) v2 r.pa x2 hW (by omega) (by simp)).mono ?_
  rintro r x3 ⟨rfl, v3, hW, bb, lo⟩
  have b4 := b4.trans (bb.mono (by omega))
  have q3 := below_own bb q3 hs1
  clear c0 c1 c2 c3 c4 u2 bb lo
  have c0 : x3.cell? ⟨w.heap.size, 0, none⟩ = some (.int .i64 r.nd) := q3.cell 0
  have c1 : x3.cell? ⟨w.heap.size, 1, none⟩ = some (.int .i64 r.pa) := q3.cell 1
  have c2 : x3.cell? ⟨w.heap.size, 2, none⟩ = some (.int .u32 r.no) := q3.cell 2
  have c3 : x3.cell? ⟨w.heap.size, 3, none⟩ = some (.int .u32 r.co) := q3.cell 3
  have c4 : x3.cell? ⟨w.heap.size, 4, none⟩ = some (.int .u32 r.tg) := q3.cell 4
  have u3 : IntKind.u64.wrap r.no = r.no := u64_id (by omega)
  go_wp2_with fail
  refine (put4_any g g ([] ++ [74] ++ [r.nd] ++ [r.pa]) v3 r.no x3 hW (by unfold In32; omega) (by simp)).mono ?_
  rintro r x4 ⟨rfl, v4, hW, bb, lo⟩
  have b4 := b4.trans (bb.mono (by omega))
  have q3 := below_own bb q3 hs1
  clear c0 c1 c2 c3 c4 u3 bb lo
  have c0 : x4.cell? ⟨w.heap.size, 0, none⟩ = some (.int .i64 r.nd) := q3.cell 0
  have c1 : x4.cell? ⟨w.heap.size, 1, none⟩ = some (.int .i64 r.pa) := q3.cell 1
  have c2 : x4.cell? ⟨w.heap.size, 2, none⟩ = some (.int .u32 r.no) := q3.cell 2
  have c3 : x4.cell? ⟨w.heap.size, 3, none⟩ = some (.int .u32 r.co) := q3.cell 3
  have c4 : x4.cell? ⟨w.heap.size, 4, none⟩ = some (.int .u32 r.tg) := q3.cell 4
  have u4 : IntKind.u64.wrap r.co = r.co := u64_id (by omega)
  go_wp2_with fail
  refine (put4_any g g ([] ++ [74] ++ [r.nd] ++ [r.pa] ++ Jo.b4 r.no) v4 r.co x4 hW (by unfold In32; omega) (by simp [b4_len])).mono ?_
  rintro r x5 ⟨rfl, v5, hW, bb, lo⟩
  have b4 := b4.trans (bb.mono (by omega))
  have q3 := below_own bb q3 hs1
  clear c0 c1 c2 c3 c4 u4 bb lo
  have c0 : x5.cell? ⟨w.heap.size, 0, none⟩ = some (.int .i64 r.nd) := q3.cell 0
  have c1 : x5.cell? ⟨w.heap.size, 1, none⟩ = some (.int .i64 r.pa) := q3.cell 1
  have c2 : x5.cell? ⟨w.heap.size, 2, none⟩ = some (.int .u32 r.no) := q3.cell 2
  have c3 : x5.cell? ⟨w.heap.size, 3, none⟩ = some (.int .u32 r.co) := q3.cell 3
  have c4 : x5.cell? ⟨w.heap.size, 4, none⟩ = some (.int .u32 r.tg) := q3.cell 4
  have hW : Wb x5 g g (askB r) v5 := hW
  go_wp2_with fail
  refine (wbytes_any g g (askB r) v5 x5 hW (by rw [askB_len]; decide)).mono ?_
  rintro e w9 ⟨a, c, rfl, hB, bb⟩
  go_wp2_with fail
  go_ret
  exact ⟨a, c, rfl, hB.toBs, b4.trans (bb.mono b4.size)⟩
theorem index5 (x0 x1 x2 x3 x4 : Int) (k : Nat) (hk : k < 5) (w : World) : (Instr.index 110 (.agg #[.int .i64 x0, .int .i64 x1, .int .i64 x2, .int .i64 x3, .int .i64 x4]) (.int .i64 (k : Int))).run Try.prog w = .ok (.int .i64 (([x0, x1, x2, x3, x4] : List Int).getD k 0)) w := by
  rcases (show k = 0 ∨ k = 1 ∨ k = 2 ∨ k = 3 ∨ k = 4 by omega) with rfl | rfl | rfl | rfl | rfl <;> kernel_rfl
theorem tk_snoc {l : List Int} {k : Nat} (hk : k < l.length) : l.take (k + 1) = l.take k ++ [l.getD k 0] := by
  rw [List.take_succ_eq_append_getElem hk, List.getD_eq_getElem?_getD, List.getElem?_eq_getElem hk]
  rfl
theorem may_bytes {x : C} (h : x.may = true) : okB (cellB x) := by
  unfold C.may mayC at h
  rw [Bool.and_eq_true, Bool.and_eq_true] at h
  obtain ⟨⟨h1, h2⟩, h3⟩ := h
  unfold inB at h1
  unfold peB at h2
  unfold opB at h3
  simp only [decide_eq_true_eq] at h1 h2 h3
  unfold cellB
  exact okB_app (okB_app (okB_app (okB_app (okB_one (by omega)) (okB_one (by omega))) (okB_one (by omega))) (okB_one (by omega))) (okB_one (by omega))
theorem cells_ok (L : Nat → C) : ∀ n, (∀ k, k < n → (L k).may = true) → okB (cellsB L n)
  | 0, _ => okB_nil
  | n + 1, h => okB_app (cells_ok L n (fun k hk => h k (by omega))) (may_bytes (h n (by omega)))
theorem giveB_ok {p : Gt} (h1 : nodeB p.nd = true) (h2 : 0 ≤ p.cd ∧ p.cd < 256) (h3 : p.n ≤ 8) (h4 : ∀ k, k < p.n → (p.L k).may = true) : okB (giveB p) := by
  rw [nodeB_iff] at h1
  exact okB_app (okB_app (okB_app (okB_app (okB_app (okB_one (by decide)) (okB_one (by omega))) (okB_one (by omega))) (okB_b4 _)) (okB_one (by omega))) (cells_ok _ _ h4)
set_option maxHeartbeats 4000000 in
theorem gbody_any (p : Gt) (a : Option Addr) (c : Nat) (w : World) (h1 : nodeB p.nd = true) (h2 : 0 ≤ p.cd ∧ p.cd < 256) (hno : In32 p.no) (h3 : p.n ≤ 8) (h4 : ∀ k, k < p.n → (p.L k).may = true) (hc : p.n ≤ c) (hm : c ≤ maxLen) (hR : Row w a (p.n * 5) (cv p.L)) :
    Calls Try.prog 46 #[.agg (p.vals a c)] w fun e w' => ∃ a c, e = .returned (.slice a (giveB p).length c) ∧ Bs w' a c (giveB p) ∧ Below w.heap.size w w' := by
  rw [nodeB_iff] at h1
  unfold In32 at hno
  unfold maxLen at hm
  have q1 := Own.new w 73 (p.vals a c)
  have b0 := (Below.refl w.heap.size w).alloc (Nat.le_refl _) (.cells (p.vals a c) 73)
  have hs1 : w.heap.size < (w.alloc (.cells (p.vals a c) 73)).heap.size := by simp
  have HM := Lib.hid h4
  have hn63 : (p.n : Int) ≤ 9223372036854775807 := by omega
  have hc63 : (c : Int) ≤ 9223372036854775807 := by omega
  clear h4
  go_enter Try.func46, Try.ntmps46
  go_upto_region 1 with (fail)
  generalize w.alloc (.cells (p.vals a c) 73) = w1 at *
  have hW := wb_start w1
  have b4 := b0.alloc b0.size (.cells #[.slice none 0 0, .int .i64 0] 99)
  have q3 := q1.alloc (.cells #[.slice none 0 0, .int .i64 0] 99)
  go_upto_region 2 with (fail)
  generalize w1.alloc (.cells #[.slice none 0 0, .int .i64 0] 99) = w3 at *
  obtain ⟨g, hg⟩ : ∃ g, w1.heap.size = g := ⟨_, rfl⟩
  rw [hg] at hW hs1 ⊢
  clear hg b0 q1
  have c0 : w3.cell? ⟨w.heap.size, 0, none⟩ = some (.int .i64 p.nd) := q3.cell 0
  have c1 : w3.cell? ⟨w.heap.size, 1, none⟩ = some (.int .i64 p.cd) := q3.cell 1
  have c2 : w3.cell? ⟨w.heap.size, 2, none⟩ = some (.int .u32 p.no) := q3.cell 2
  have c3 : w3.cell? ⟨w.heap.size, 3, none⟩ = some (.slice a p.n c) := q3.cell 3
  have c4 : w3.cell? ⟨w.heap.size, 4, none⟩ = some (.int .u32 p.tg) := q3.cell 4
  go_wp2_with fail
  refine (put1_any g g ([]) (.slice none 0 0) 71 w3 hW (by omega) (by simp)).mono ?_
  rintro r x1 ⟨rfl, v1, hW, bb, lo⟩
  have b4 := b4.trans (bb.mono (by omega))
  have q3 := below_own bb q3 hs1
  clear c0 c1 c2 c3 c4 bb lo
  have c0 : x1.cell? ⟨w.heap.size, 0, none⟩ = some (.int .i64 p.nd) := q3.cell 0
  have c1 : x1.cell? ⟨w.heap.size, 1, none⟩ = some (.int .i64 p.cd) := q3.cell 1
  have c2 : x1.cell? ⟨w.heap.size, 2, none⟩ = some (.int .u32 p.no) := q3.cell 2
  have c3 : x1.cell? ⟨w.heap.size, 3, none⟩ = some (.slice a p.n c) := q3.cell 3
  have c4 : x1.cell? ⟨w.heap.size, 4, none⟩ = some (.int .u32 p.tg) := q3.cell 4
  have u1 : IntKind.u64.wrap p.nd = p.nd := u64_id (by omega)
  go_wp2_with fail
  refine (put1_any g g ([] ++ [71]) v1 p.nd x1 hW (by omega) (by simp)).mono ?_
  rintro r x2 ⟨rfl, v2, hW, bb, lo⟩
  have b4 := b4.trans (bb.mono (by omega))
  have q3 := below_own bb q3 hs1
  clear c0 c1 c2 c3 c4 u1 bb lo
  have c0 : x2.cell? ⟨w.heap.size, 0, none⟩ = some (.int .i64 p.nd) := q3.cell 0
  have c1 : x2.cell? ⟨w.heap.size, 1, none⟩ = some (.int .i64 p.cd) := q3.cell 1
  have c2 : x2.cell? ⟨w.heap.size, 2, none⟩ = some (.int .u32 p.no) := q3.cell 2
  have c3 : x2.cell? ⟨w.heap.size, 3, none⟩ = some (.slice a p.n c) := q3.cell 3
  have c4 : x2.cell? ⟨w.heap.size, 4, none⟩ = some (.int .u32 p.tg) := q3.cell 4
  have u2 : IntKind.u64.wrap p.cd = p.cd := u64_id (by omega)
  go_wp2_with fail
  refine (put1_any g g ([] ++ [71] ++ [p.nd]) v2 p.cd x2 hW (by omega) (by simp)).mono ?_
  rintro r x3 ⟨rfl, v3, hW, bb, lo⟩
  have b4 := b4.trans (bb.mono (by omega))
  have q3 := below_own bb q3 hs1
  clear c0 c1 c2 c3 c4 u2 bb lo
  have c0 : x3.cell? ⟨w.heap.size, 0, none⟩ = some (.int .i64 p.nd) := q3.cell 0
  have c1 : x3.cell? ⟨w.heap.size, 1, none⟩ = some (.int .i64 p.cd) := q3.cell 1
  have c2 : x3.cell? ⟨w.heap.size, 2, none⟩ = some (.int .u32 p.no) := q3.cell 2
  have c3 : x3.cell? ⟨w.heap.size, 3, none⟩ = some (.slice a p.n c) := q3.cell 3
  have c4 : x3.cell? ⟨w.heap.size, 4, none⟩ = some (.int .u32 p.tg) := q3.cell 4
  have u3 : IntKind.u64.wrap p.no = p.no := u64_id (by omega)
  go_wp2_with fail
  refine (put4_any g g ([] ++ [71] ++ [p.nd] ++ [p.cd]) v3 p.no x3 hW (by unfold In32; omega) (by simp)).mono ?_
  rintro r x4 ⟨rfl, v4, hW, bb, lo⟩
  have b4 := b4.trans (bb.mono (by omega))
  have q3 := below_own bb q3 hs1
  clear c0 c1 c2 c3 c4 u3 bb lo
  have c0 : x4.cell? ⟨w.heap.size, 0, none⟩ = some (.int .i64 p.nd) := q3.cell 0
  have c1 : x4.cell? ⟨w.heap.size, 1, none⟩ = some (.int .i64 p.cd) := q3.cell 1
  have c2 : x4.cell? ⟨w.heap.size, 2, none⟩ = some (.int .u32 p.no) := q3.cell 2
  have c3 : x4.cell? ⟨w.heap.size, 3, none⟩ = some (.slice a p.n c) := q3.cell 3
  have c4 : x4.cell? ⟨w.heap.size, 4, none⟩ = some (.int .u32 p.tg) := q3.cell 4
  have u4 : IntKind.u64.wrap (p.n : Int) = (p.n : Int) := u64_id (by omega)
  go_wp2_with fail
  refine (put1_any g g ([] ++ [71] ++ [p.nd] ++ [p.cd] ++ Jo.b4 p.no) v4 (p.n : Int) x4 hW (by omega) (by simp [b4_len])).mono ?_
  rintro r x5 ⟨rfl, v5, hW, bb, lo⟩
  have b4 := b4.trans (bb.mono (by omega))
  have q3 := below_own bb q3 hs1
  clear c0 c1 c2 c3 c4 u4 bb lo
  have c0 : x5.cell? ⟨w.heap.size, 0, none⟩ = some (.int .i64 p.nd) := q3.cell 0
  have c1 : x5.cell? ⟨w.heap.size, 1, none⟩ = some (.int .i64 p.cd) := q3.cell 1
  have c2 : x5.cell? ⟨w.heap.size, 2, none⟩ = some (.int .u32 p.no) := q3.cell 2
  have c3 : x5.cell? ⟨w.heap.size, 3, none⟩ = some (.slice a p.n c) := q3.cell 3
  have c4 : x5.cell? ⟨w.heap.size, 4, none⟩ = some (.int .u32 p.tg) := q3.cell 4
  have hW : Wb x5 g g ([71] ++ [p.nd] ++ [p.cd] ++ Jo.b4 p.no ++ [(p.n : Int)] ++ cellsB p.L 0) v5 := by
    rw [cellsB, List.append_nil]
    exact hW
  obtain ⟨H, hH⟩ : ∃ H, [71] ++ [p.nd] ++ [p.cd] ++ Jo.b4 p.no ++ [(p.n : Int)] = H := ⟨_, rfl⟩
  have hHl : H.length = 8 := by rw [← hH]; simp [b4_len]
  have HG : Hid (giveB p = H ++ cellsB p.L p.n) := Lib.hid (by unfold giveB; rw [hH])
  rw [hH] at hW
  have HR := Lib.hid hR
  clear hH hR
  go_wp2_with fail
  clear c0 c1 c2 c3 c4
  go_loopw [34] (fun i wr => ∃ (j : Nat) (v : Value), i = .int .i64 j ∧ j ≤ p.n ∧ Wb wr g g (H ++ cellsB p.L j) v ∧ Below w.heap.size w wr) (fun i _ => p.n - (intOf i).toNat)
  case atStart => exact ⟨0, v5, rfl, by omega, hW, b4⟩
  case round =>
    clear hW q3 b4
    obtain ⟨j, v, rfl, hj, hW, bb⟩ := hrel
    by_cases hlt : j < p.n
    · obtain ⟨bo, off, rfl, hbo, k0, k1, k2, k3, k4⟩ := crow HR.out bb hlt
      have hmy := may_bytes (HM.out j hlt)
      obtain ⟨x, hx⟩ : ∃ x, p.L j = x := ⟨_, rfl⟩
      rw [hx] at k0 k1 k2 k3 k4 hmy
      have HX := Lib.hid hx
      have hlen := cellsB_len p.L j
      obtain ⟨f, s, ch, o, pe⟩ := x
      dsimp only at k0 k1 k2 k3 k4
      have hgw := wb_lt hW
      have ba := (Below.refl wr.heap.size wr).alloc (Nat.le_refl _) (.cells #[.int .i64 f, .int .i64 s, .int .i64 ch, .int .i64 o, .int .i64 pe] 62)
      have hW := hW.below ba
      have bx := bb.trans (ba.mono bb.size)
      have hob := Own.new wr 62 #[.int .i64 f, .int .i64 s, .int .i64 ch, .int .i64 o, .int .i64 pe]
      have j0 := hob.cell 0
      have j1 := hob.cell 1
      have j2 := hob.cell 2
      have j3 := hob.cell 3
      have j4 := hob.cell 4
      have HI := Lib.hid (index5 f s ch o pe)
      have HY : Hid (∀ k, k < 5 → (0 ≤ ([f, s, ch, o, pe] : List Int).getD k 0 ∧ ([f, s, ch, o, pe] : List Int).getD k 0 < 256)) := Lib.hid (fun k _ => okB_at hmy k)
      have hW : Wb (wr.alloc (.cells #[.int .i64 f, .int .i64 s, .int .i64 ch, .int .i64 o, .int .i64 pe] 62)) g g (H ++ cellsB p.L j ++ ([f, s, ch, o, pe] : List Int).take 0) v := by
        rw [List.take_zero, List.append_nil]
        exact hW
      have HLE : Hid ((H ++ cellsB p.L j).length ≤ 1000) := Lib.hid (by rw [List.length_append, hHl, hlen]; omega)
      have HE : Hid (H ++ cellsB p.L (j + 1) = H ++ cellsB p.L j ++ [f, s, ch, o, pe]) := Lib.hid (by rw [cellsB, HX.out, ← List.append_assoc]; rfl)
      clear hx hmy hlen ba bb
      go_wp2_with fail
      clear j0 j1 j2 j3 j4 k0 k1 k2 k3 k4 hob
      generalize wr.alloc (.cells #[.int .i64 f, .int .i64 s, .int .i64 ch, .int .i64 o, .int .i64 pe] 62) = wx at *
      go_loopw [49] (fun i wz => ∃ (k : Nat) (v : Value), i = .int .i64 k ∧ k ≤ 5 ∧ Wb wz g g (H ++ cellsB p.L j ++ ([f, s, ch, o, pe] : List Int).take k) v ∧ Below w.heap.size w wz) (fun i _ => 5 - (intOf i).toNat)
      case atStart => exact ⟨0, v, rfl, by omega, hW, bx⟩
      case round =>
        clear hW bx
        obtain ⟨k, v, rfl, hk, hW, bb⟩ := hrel
        by_cases hlt : k < 5
        · have hix := HI.out k hlt
          have hy := HY.out k hlt
          have hsn := tk_snoc (l := ([f, s, ch, o, pe] : List Int)) (k := k) (by simpa using hlt)
          have htl : (([f, s, ch, o, pe] : List Int).take k).length ≤ 5 := by rw [List.length_take]; simp; omega
          obtain ⟨y, hyy⟩ : ∃ y, ([f, s, ch, o, pe] : List Int).getD k 0 = y := ⟨_, rfl⟩
          rw [hyy] at hix hy hsn
          have HSN := Lib.hid hsn
          have HTL : Hid ((H ++ cellsB p.L j ++ ([f, s, ch, o, pe] : List Int).take k).length ≤ 100000) := Lib.hid (by have := HLE.out; rw [List.length_append]; omega)
          have u1 : IntKind.u64.wrap y = y := u64_id (by omega)
          clear hsn hyy htl
          go_wp2_with fail
          refine (put1_any g g _ v y wr hW hy HTL.out).mono ?_
          rintro r x6 ⟨rfl, v6, hW6, bz, _⟩
          have b6 := bb.trans (bz.mono (by omega))
          clear u1 bz hix
          go_wp2_with fail
          exact ⟨⟨k + 1, v6, by simp, by omega, by rw [HSN.out, ← List.append_assoc]; exact hW6, b6⟩, by simp [intOf]; omega⟩
        · obtain rfl : k = 5 := by omega
          have hW : Wb wr g g (H ++ cellsB p.L (j + 1)) v := by
            rw [HE.out]
            exact hW
          go_wp2_with fail
          exact ⟨⟨j + 1, v, by simp, by omega, hW, bb⟩, by simp [intOf]; omega⟩
    · obtain rfl : j = p.n := by omega
      rw [← HG.out] at hW
      have HLL : Hid ((giveB p).length ≤ 100000) := Lib.hid (by rw [giveB_len]; omega)
      go_wp2_with fail
      refine (wbytes_any g g (giveB p) v wr hW HLL.out).mono ?_
      rintro e w9 ⟨a9, c9, rfl, hB, b9⟩
      go_wp2_with fail
      go_ret
      exact ⟨a9, c9, rfl, hB.toBs, bb.trans (b9.mono bb.size)⟩

set_option maxHeartbeats 2000000 in
theorem sealed_any_a (key : Int) (v : Value) (l : List Int) (w : World) (hk : 0 ≤ key) (hok : okB l) (hll : l.length ≤ 1000)
    (hm : ∀ W : World, (method 234 67 v "campanile/join.body").run Try.prog W = .ok (85, v) W)
    (hF : ∀ W, Below w.heap.size w W → Calls Try.prog 85 #[v] W fun e w' => ∃ a c, e = .returned (.slice a l.length c) ∧ Bs w' a c l ∧ Below W.heap.size W w') :
    Calls Try.prog 30 #[.int .u64 key, .iface 67 v] w fun e w' => ∃ a c, e = .returned (.slice a (sealL key l).length c) ∧ BsN w.heap.size w' a c (sealL key l) ∧ Below w.heap.size w w' := by
  have hW := wb_start w
  have b4 := (Below.refl w.heap.size w).alloc (Nat.le_refl _) (.cells #[.slice none 0 0, .int .i64 0] 99)
  go_enter Try.func30, Try.ntmps30
  go_upto_region 2 with (fail)
  have PF := hF _ b4
  generalize w.alloc (.cells #[.slice none 0 0, .int .i64 0] 99) = w3 at *
  clear hF
  obtain ⟨g, hg⟩ : ∃ g, w.heap.size = g := ⟨_, rfl⟩
  rw [hg] at hW b4 ⊢
  have HG := Lib.hid hg
  clear hg
  go_wp2_with fail
  refine PF.mono ?_
  rintro e w5 ⟨a, c, rfl, hB, bb⟩
  clear hm PF
  have b4 := b4.trans (bb.mono (Nat.le_of_lt (wb_lt hW).2))
  have hW := hW.below bb
  clear bb
  have hcap := hB.cap
  have hle := hB.le
  have hrow := hB.row
  have hrow0 := hB.row
  unfold maxLen at hcap
  obtain ⟨n, hn⟩ : ∃ n, l.length = n := ⟨_, rfl⟩
  have HN := Lib.hid hn
  have hT := textb_any g g [] l (.slice none 0 0) a c w5 hW (by simp) (by omega) hrow hok
  rw [hn] at hT hle hll ⊢
  have hn63 : (n : Int) ≤ 9223372036854775807 := by omega
  have hc63 : (c : Int) ≤ 9223372036854775807 := by omega
  clear hn
  go_wp2_with fail
  refine hT.mono ?_
  rintro e w6 ⟨rfl, v6, hW6, bb, lo⟩
  have hrow6 : Row w6 a l.length (bval l) := row_lone hrow0 hW lo bb.size
  have b4 := b4.trans bb
  have hRT := tag_any key a l.length c (fun i => l.getD i 0) w6 hk (by have := hB.le; have := hB.cap; omega) hrow6 (fun i => okB_at hok i)
  have htg := tagL_in key l
  have HTG : Hid (tag key (fun i => l.getD i 0) l.length = tagL key l) := Lib.hid rfl
  rw [HTG.out] at hRT
  obtain ⟨tg, htgg⟩ : ∃ t, tagL key l = t := ⟨_, rfl⟩
  rw [htgg] at hRT htg
  have HTT := Lib.hid htgg
  rw [HN.out] at hRT
  have u1 : IntKind.u64.wrap tg = tg := u64_id (by unfold In32 at htg; omega)
  clear htgg
  go_wp2_with fail
  refine hRT.mono ?_
  rintro e w7 ⟨rfl, rfl⟩
  go_wp2_with fail
  refine (put4_any g g ([] ++ l) v6 tg w6 hW6 htg (by rw [List.nil_append, HN.out]; omega)).mono ?_
  rintro e w8 ⟨rfl, v8, hW8, bb8, _⟩
  have b5 := b4.trans bb8
  have hW8 : Wb w8 g g (sealL key l) v8 := by
    have : sealL key l = [] ++ l ++ Jo.b4 tg := by unfold sealL; rw [HTT.out]; rfl
    rw [this]
    exact hW8
  have hsl := sealL_len key l
  rw [HN.out] at hsl
  have HSL := Lib.hid hsl
  clear hsl u1
  go_wp2_with fail
  refine (wbytes_any g g (sealL key l) v8 w8 hW8 (by rw [HSL.out]; omega)).mono ?_
  rintro e w9 ⟨a9, c9, rfl, hB9, b9⟩
  go_wp2_with fail
  go_ret
  exact ⟨a9, c9, rfl, hB9.lower b5.size, by rw [HG.out]; exact b5.trans (b9.mono (by have := b5.size; rw [HG.out] at this; exact this))⟩
set_option maxHeartbeats 2000000 in
theorem sealed_any_g (key : Int) (v : Value) (l : List Int) (w : World) (hk : 0 ≤ key) (hok : okB l) (hll : l.length ≤ 1000)
    (hm : ∀ W : World, (method 234 73 v "campanile/join.body").run Try.prog W = .ok (46, v) W)
    (hF : ∀ W, Below w.heap.size w W → Calls Try.prog 46 #[v] W fun e w' => ∃ a c, e = .returned (.slice a l.length c) ∧ Bs w' a c l ∧ Below W.heap.size W w') :
    Calls Try.prog 30 #[.int .u64 key, .iface 73 v] w fun e w' => ∃ a c, e = .returned (.slice a (sealL key l).length c) ∧ BsN w.heap.size w' a c (sealL key l) ∧ Below w.heap.size w w' := by
  have hW := wb_start w
  have b4 := (Below.refl w.heap.size w).alloc (Nat.le_refl _) (.cells #[.slice none 0 0, .int .i64 0] 99)
  go_enter Try.func30, Try.ntmps30
  go_upto_region 2 with (fail)
  have PF := hF _ b4
  generalize w.alloc (.cells #[.slice none 0 0, .int .i64 0] 99) = w3 at *
  clear hF
  obtain ⟨g, hg⟩ : ∃ g, w.heap.size = g := ⟨_, rfl⟩
  rw [hg] at hW b4 ⊢
  have HG := Lib.hid hg
  clear hg
  go_wp2_with fail
  refine PF.mono ?_
  rintro e w5 ⟨a, c, rfl, hB, bb⟩
  clear hm PF
  have b4 := b4.trans (bb.mono (Nat.le_of_lt (wb_lt hW).2))
  have hW := hW.below bb
  clear bb
  have hcap := hB.cap
  have hle := hB.le
  have hrow := hB.row
  have hrow0 := hB.row
  unfold maxLen at hcap
  obtain ⟨n, hn⟩ : ∃ n, l.length = n := ⟨_, rfl⟩
  have HN := Lib.hid hn
  have hT := textb_any g g [] l (.slice none 0 0) a c w5 hW (by simp) (by omega) hrow hok
  rw [hn] at hT hle hll ⊢
  have hn63 : (n : Int) ≤ 9223372036854775807 := by omega
  have hc63 : (c : Int) ≤ 9223372036854775807 := by omega
  clear hn
  go_wp2_with fail
  refine hT.mono ?_
  rintro e w6 ⟨rfl, v6, hW6, bb, lo⟩
  have hrow6 : Row w6 a l.length (bval l) := row_lone hrow0 hW lo bb.size
  have b4 := b4.trans bb
  have hRT := tag_any key a l.length c (fun i => l.getD i 0) w6 hk (by have := hB.le; have := hB.cap; omega) hrow6 (fun i => okB_at hok i)
  have htg := tagL_in key l
  have HTG : Hid (tag key (fun i => l.getD i 0) l.length = tagL key l) := Lib.hid rfl
  rw [HTG.out] at hRT
  obtain ⟨tg, htgg⟩ : ∃ t, tagL key l = t := ⟨_, rfl⟩
  rw [htgg] at hRT htg
  have HTT := Lib.hid htgg
  rw [HN.out] at hRT
  have u1 : IntKind.u64.wrap tg = tg := u64_id (by unfold In32 at htg; omega)
  clear htgg
  go_wp2_with fail
  refine hRT.mono ?_
  rintro e w7 ⟨rfl, rfl⟩
  go_wp2_with fail
  refine (put4_any g g ([] ++ l) v6 tg w6 hW6 htg (by rw [List.nil_append, HN.out]; omega)).mono ?_
  rintro e w8 ⟨rfl, v8, hW8, bb8, _⟩
  have b5 := b4.trans bb8
  have hW8 : Wb w8 g g (sealL key l) v8 := by
    have : sealL key l = [] ++ l ++ Jo.b4 tg := by unfold sealL; rw [HTT.out]; rfl
    rw [this]
    exact hW8
  have hsl := sealL_len key l
  rw [HN.out] at hsl
  have HSL := Lib.hid hsl
  clear hsl u1
  go_wp2_with fail
  refine (wbytes_any g g (sealL key l) v8 w8 hW8 (by rw [HSL.out]; omega)).mono ?_
  rintro e w9 ⟨a9, c9, rfl, hB9, b9⟩
  go_wp2_with fail
  go_ret
  exact ⟨a9, c9, rfl, hB9.lower b5.size, by rw [HG.out]; exact b5.trans (b9.mono (by have := b5.size; rw [HG.out] at this; exact this))⟩
end Go.Proofs.Ytphiohdhgkpgnaa.Jo
