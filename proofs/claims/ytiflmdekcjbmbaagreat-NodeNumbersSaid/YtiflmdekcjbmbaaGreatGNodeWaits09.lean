/-
  Package parents: the place of one in a row that stands in order. Package parents: a set as a value; drop, New, Rank, First, RankOf, All. Package parents: Hear.
-/
import Derived.Test.YtiflmdekcjbmbaaGreatGNodeWaits08
import Derived.Laws.MakeOwn
import Derived.Deep.RegionLaw
import Derived.BigRegion
set_option maxRecDepth 100000
namespace Go.Proofs.YtiflmdekcjbmbaaGreat.Pa
set_option linter.unusedVariables false
set_option linter.unusedSimpArgs false
open Go.RowKit Lb

def fndB (l : List P) (x : P) : Bool := decide (pos l x < l.length) && decide (cf (at_ l (pos l x)) x = 0)
set_option maxHeartbeats 400000 in
theorem bsf_any (a : Option Addr) (n m : Nat) (l : List P) (x : P) (w : World) (hR : Row w a (n * 3) (pv l)) (hl : l.length = n) (hn : n ≤ 100000) (hs : Srt l) :
    Calls Tryz.prog 194 #[.slice a n m, .agg #[.int .i64 x.n, .int .i64 x.r, .int .i64 x.h], .func (.func 195) #[] #[]] w fun r w' => r = .returned (.tuple #[.int .i64 (pos l x : Nat), .bool (fndB l x)]) ∧ Below w.heap.size w w' := by
  have HR := Lib.hid hR
  have HL := Lib.hid hl
  have HS := Lib.hid hs
  have o0 : Own (w.alloc (.cells #[.int .i64 x.n, .int .i64 x.r, .int .i64 x.h] 211)) w.heap.size 211 x.vals := Own.new w _ _
  have b0 := (Below.refl w.heap.size w).alloc (Nat.le_refl _) (.cells #[.int .i64 x.n, .int .i64 x.r, .int .i64 x.h] 211)
  have hz0 : w.heap.size < (w.alloc (.cells #[.int .i64 x.n, .int .i64 x.r, .int .i64 x.h] 211)).heap.size := by simp
  clear hR hl hs
  go_enter Tryz.func194, Tryz.ntmps194
  go_wp2_with fail
  generalize w.alloc (.cells #[.int .i64 x.n, .int .i64 x.r, .int .i64 x.h] 211) = w1 at *
  go_loopw [9, 10] (fun i j wr => ∃ lo hi : Nat, i = .int .i64 lo ∧ j = .int .i64 hi ∧ lo ≤ hi ∧ hi ≤ n ∧ Hid (∀ t, t < lo → cf (at_ l t) x < 0) ∧ Hid (∀ t, hi ≤ t → t < n → 0 ≤ cf (at_ l t) x) ∧ Own wr w.heap.size 211 x.vals ∧ Below w.heap.size w wr) (fun i j _ => (intOf j).toNat - (intOf i).toNat)
  case atStart => exact ⟨0, n, rfl, rfl, by omega, by omega, Lib.hid (fun t ht => by omega), Lib.hid (fun t h1 h2 => by omega), o0, b0⟩
  case round =>
    clear o0 b0 hz0
    obtain ⟨lo, hi, rfl, rfl, hlh, hin, HA, HB, o1, b1⟩ := hrel
    have hol := o1.lt
    have d0 : wr.cell? ⟨w.heap.size, 0, none⟩ = some (.int .i64 x.n) := o1.cell 0
    have d1 : wr.cell? ⟨w.heap.size, 1, none⟩ = some (.int .i64 x.r) := o1.cell 1
    have d2 : wr.cell? ⟨w.heap.size, 2, none⟩ = some (.int .i64 x.h) := o1.cell 2
    by_cases hlt : lo < hi
    · have hM : (lo + hi) / 2 < n := by omega
      obtain ⟨b, off, rfl, hbl, c0, c1, c2⟩ := prow HR.out b1 hM
      obtain ⟨y, hy⟩ : ∃ y, at_ l ((lo + hi) / 2) = y := ⟨_, rfl⟩
      have HY := Lib.hid hy
      rw [hy] at c0 c1 c2
      have hcom := fun w => com_any y x w
      obtain ⟨z, hz⟩ : ∃ z, cf y x = z := ⟨_, rfl⟩
      have HZ := Lib.hid hz
      rw [hz] at hcom
      clear hy hz
      by_cases hz0 : z < 0
      · have HA2 : Hid (∀ t, t < (lo + hi) / 2 + 1 → cf (at_ l t) x < 0) := Lib.hid (fun t ht => srt_mono HS.out x t ((lo + hi) / 2) (by omega) (by rw [HL.out]; exact hM) (by rw [HY.out, HZ.out]; exact hz0))
        have m1 : (0 : Int) ≤ ((lo : Int) + (hi : Int)) / 2 := by omega
        have m2 : ((lo : Int) + (hi : Int)) / 2 < (n : Int) := by omega
        have m3 : (((lo : Int) + (hi : Int)) / 2).toNat = (lo + hi) / 2 := by omega
        go_wp2_with fail
        have s0 : (fun w' : World => w'.cell? ⟨b, off + ((lo + hi) / 2) * 3, none⟩ = some (.int .i64 y.n) ∧ w'.cell? ⟨b, off + ((lo + hi) / 2) * 3 + 1, none⟩ = some (.int .i64 y.r) ∧ w'.cell? ⟨b, off + ((lo + hi) / 2) * 3 + 2, none⟩ = some (.int .i64 y.h) ∧ w'.cell? ⟨w.heap.size, 0, none⟩ = some (.int .i64 x.n) ∧ w'.cell? ⟨w.heap.size, 1, none⟩ = some (.int .i64 x.r) ∧ w'.cell? ⟨w.heap.size, 2, none⟩ = some (.int .i64 x.h)) wr.drew := ⟨c0, c1, c2, d0, d1, d2⟩
        go_region_held3 (fun w' : World => w'.cell? ⟨b, off + ((lo + hi) / 2) * 3, none⟩ = some (.int .i64 y.n) ∧ w'.cell? ⟨b, off + ((lo + hi) / 2) * 3 + 1, none⟩ = some (.int .i64 y.r) ∧ w'.cell? ⟨b, off + ((lo + hi) / 2) * 3 + 2, none⟩ = some (.int .i64 y.h) ∧ w'.cell? ⟨w.heap.size, 0, none⟩ = some (.int .i64 x.n) ∧ w'.cell? ⟨w.heap.size, 1, none⟩ = some (.int .i64 x.r) ∧ w'.cell? ⟨w.heap.size, 2, none⟩ = some (.int .i64 x.h)) (first | exact s0 | exact s2) ((go_at_call 195; refine (hcom _).mono ?_; rintro r w5 ⟨rfl, b5⟩; have s2 : (fun w' : World => w'.cell? ⟨b, off + ((lo + hi) / 2) * 3, none⟩ = some (.int .i64 y.n) ∧ w'.cell? ⟨b, off + ((lo + hi) / 2) * 3 + 1, none⟩ = some (.int .i64 y.r) ∧ w'.cell? ⟨b, off + ((lo + hi) / 2) * 3 + 2, none⟩ = some (.int .i64 y.h) ∧ w'.cell? ⟨w.heap.size, 0, none⟩ = some (.int .i64 x.n) ∧ w'.cell? ⟨w.heap.size, 1, none⟩ = some (.int .i64 x.r) ∧ w'.cell? ⟨w.heap.size, 2, none⟩ = some (.int .i64 x.h)) w5 := ⟨keep_cell b5 c0, keep_cell b5 c1, keep_cell b5 c2, keep_cell b5 d0, keep_cell b5 d1, keep_cell b5 d2⟩))
        all_goals
          go_wp2_with fail
          have b6 := (below_drewN b1 1).trans (b5.mono b1.size)
          have o6 := below_own b5 (o1.drewN 1) hol
          exact ⟨⟨(lo + hi) / 2 + 1, hi, by simp, rfl, by omega, hin, HA2, HB, o6, b6⟩, by simp [intOf]; omega⟩
      · have g1 : decide (z < 0) = false := by simpa using hz0
        have HB2 : Hid (∀ t, (lo + hi) / 2 ≤ t → t < n → 0 ≤ cf (at_ l t) x) := Lib.hid (fun t h1 h2 => by
          by_cases h3 : cf (at_ l t) x < 0
          · refine absurd ?_ hz0
            rw [← HZ.out, ← HY.out]
            exact srt_mono HS.out x ((lo + hi) / 2) t h1 (by rw [HL.out]; exact h2) h3
          · omega)
        clear hz0
        have m1 : (0 : Int) ≤ ((lo : Int) + (hi : Int)) / 2 := by omega
        have m2 : ((lo : Int) + (hi : Int)) / 2 < (n : Int) := by omega
        have m3 : (((lo : Int) + (hi : Int)) / 2).toNat = (lo + hi) / 2 := by omega
        go_wp2_with fail
        have s0 : (fun w' : World => w'.cell? ⟨b, off + ((lo + hi) / 2) * 3, none⟩ = some (.int .i64 y.n) ∧ w'.cell? ⟨b, off + ((lo + hi) / 2) * 3 + 1, none⟩ = some (.int .i64 y.r) ∧ w'.cell? ⟨b, off + ((lo + hi) / 2) * 3 + 2, none⟩ = some (.int .i64 y.h) ∧ w'.cell? ⟨w.heap.size, 0, none⟩ = some (.int .i64 x.n) ∧ w'.cell? ⟨w.heap.size, 1, none⟩ = some (.int .i64 x.r) ∧ w'.cell? ⟨w.heap.size, 2, none⟩ = some (.int .i64 x.h)) wr.drew := ⟨c0, c1, c2, d0, d1, d2⟩
        go_region_held3 (fun w' : World => w'.cell? ⟨b, off + ((lo + hi) / 2) * 3, none⟩ = some (.int .i64 y.n) ∧ w'.cell? ⟨b, off + ((lo + hi) / 2) * 3 + 1, none⟩ = some (.int .i64 y.r) ∧ w'.cell? ⟨b, off + ((lo + hi) / 2) * 3 + 2, none⟩ = some (.int .i64 y.h) ∧ w'.cell? ⟨w.heap.size, 0, none⟩ = some (.int .i64 x.n) ∧ w'.cell? ⟨w.heap.size, 1, none⟩ = some (.int .i64 x.r) ∧ w'.cell? ⟨w.heap.size, 2, none⟩ = some (.int .i64 x.h)) (first | exact s0 | exact s2) ((go_at_call 195; refine (hcom _).mono ?_; rintro r w5 ⟨rfl, b5⟩; have s2 : (fun w' : World => w'.cell? ⟨b, off + ((lo + hi) / 2) * 3, none⟩ = some (.int .i64 y.n) ∧ w'.cell? ⟨b, off + ((lo + hi) / 2) * 3 + 1, none⟩ = some (.int .i64 y.r) ∧ w'.cell? ⟨b, off + ((lo + hi) / 2) * 3 + 2, none⟩ = some (.int .i64 y.h) ∧ w'.cell? ⟨w.heap.size, 0, none⟩ = some (.int .i64 x.n) ∧ w'.cell? ⟨w.heap.size, 1, none⟩ = some (.int .i64 x.r) ∧ w'.cell? ⟨w.heap.size, 2, none⟩ = some (.int .i64 x.h)) w5 := ⟨keep_cell b5 c0, keep_cell b5 c1, keep_cell b5 c2, keep_cell b5 d0, keep_cell b5 d1, keep_cell b5 d2⟩))
        all_goals
          go_wp2_with fail
          have b6 := (below_drewN b1 1).trans (b5.mono b1.size)
          have o6 := below_own b5 (o1.drewN 1) hol
          exact ⟨⟨lo, (lo + hi) / 2, rfl, by simp, by omega, by omega, HA, HB2, o6, b6⟩, by simp [intOf]; omega⟩
    · obtain rfl : lo = hi := by omega
      have hP : pos l x = lo := pos_is l lo (by rw [HL.out]; exact hin) HA.out (fun h => by have := HB.out lo (by omega) (by rw [HL.out] at h; exact h); omega)
      have HP := Lib.hid hP
      clear hP
      by_cases hln : lo < n
      · obtain ⟨b, off, rfl, hbl, c0, c1, c2⟩ := prow HR.out b1 hln
        have hcom := fun w => com_any (at_ l lo) x w
        obtain ⟨z, hz⟩ : ∃ z, cf (at_ l lo) x = z := ⟨_, rfl⟩
        have HF : Hid (fndB l x = (z == 0)) := Lib.hid (by
          unfold fndB
          rw [HP.out, HL.out, hz, Bool.eq_iff_iff]
          simp [hln])
        rw [hz] at hcom
        generalize at_ l lo = y at *
        clear hz
        have m1 : (0 : Int) ≤ (lo : Int) := by omega
        have m2 : (lo : Int) < (n : Int) := by omega
        go_wp2_with fail
        have s0 : (fun w' : World => w'.cell? ⟨b, off + lo * 3, none⟩ = some (.int .i64 y.n) ∧ w'.cell? ⟨b, off + lo * 3 + 1, none⟩ = some (.int .i64 y.r) ∧ w'.cell? ⟨b, off + lo * 3 + 2, none⟩ = some (.int .i64 y.h) ∧ w'.cell? ⟨w.heap.size, 0, none⟩ = some (.int .i64 x.n) ∧ w'.cell? ⟨w.heap.size, 1, none⟩ = some (.int .i64 x.r) ∧ w'.cell? ⟨w.heap.size, 2, none⟩ = some (.int .i64 x.h)) wr.drew := ⟨c0, c1, c2, d0, d1, d2⟩
        go_region_held3 (fun w' : World => w'.cell? ⟨b, off + lo * 3, none⟩ = some (.int .i64 y.n) ∧ w'.cell? ⟨b, off + lo * 3 + 1, none⟩ = some (.int .i64 y.r) ∧ w'.cell? ⟨b, off + lo * 3 + 2, none⟩ = some (.int .i64 y.h) ∧ w'.cell? ⟨w.heap.size, 0, none⟩ = some (.int .i64 x.n) ∧ w'.cell? ⟨w.heap.size, 1, none⟩ = some (.int .i64 x.r) ∧ w'.cell? ⟨w.heap.size, 2, none⟩ = some (.int .i64 x.h)) (first | exact s0 | exact s2) ((go_at_call 195; refine (hcom _).mono ?_; rintro r w5 ⟨rfl, b5⟩; have s2 : (fun w' : World => w'.cell? ⟨b, off + lo * 3, none⟩ = some (.int .i64 y.n) ∧ w'.cell? ⟨b, off + lo * 3 + 1, none⟩ = some (.int .i64 y.r) ∧ w'.cell? ⟨b, off + lo * 3 + 2, none⟩ = some (.int .i64 y.h) ∧ w'.cell? ⟨w.heap.size, 0, none⟩ = some (.int .i64 x.n) ∧ w'.cell? ⟨w.heap.size, 1, none⟩ = some (.int .i64 x.r) ∧ w'.cell? ⟨w.heap.size, 2, none⟩ = some (.int .i64 x.h)) w5 := ⟨keep_cell b5 c0, keep_cell b5 c1, keep_cell b5 c2, keep_cell b5 d0, keep_cell b5 d1, keep_cell b5 d2⟩))
        all_goals
          go_wp2_with fail
          go_ret2
          have b6 := (below_drewN b1 1).trans (b5.mono b1.size)
          exact ⟨by rw [HF.out, HP.out]; rfl, b6⟩
      · have HF : Hid (fndB l x = false) := Lib.hid (by
          unfold fndB
          rw [HP.out, HL.out]
          simp
          omega)
        have g1 : decide ((lo : Int) < (n : Int)) = false := by simp; omega
        have g2 : decide (lo < n) = false := by simp; omega
        clear hln hlt
        go_wp2_with fail
        go_quiet (fail)
        go_wp2_with fail
        go_ret2
        exact ⟨by rw [HF.out, HP.out]; rfl, below_drewN b1 _⟩
end Go.Proofs.YtiflmdekcjbmbaaGreat.Pa
set_option maxRecDepth 100000
namespace Go.Proofs.YtiflmdekcjbmbaaGreat.Pa
set_option linter.unusedVariables false
set_option linter.unusedSimpArgs false
open Go.RowKit Lb

theorem srt_iff (l : List P) : Srt l ↔ l.Pairwise fun a b => cf a b < 0 := by
  rw [List.pairwise_iff_getElem]
  have e : ∀ k (h : k < l.length), at_ l k = l[k] := fun k h => by
    unfold at_
    rw [List.getD_eq_getElem?_getD, List.getElem?_eq_getElem h]
    rfl
  constructor
  · intro h i j hi hj hij
    have := h i j hij hj
    rwa [e i hi, e j hj] at this
  · intro h i j hij hj
    rw [e i (by omega), e j hj]
    exact h i j (by omega) hj hij
theorem srt_kept {l : List P} (h : Srt l) (p : P → Bool) (k : Nat) : Srt (kept p l k) := by
  rw [srt_iff] at *
  exact (h.sublist (List.take_sublist k l)).filter _
/-- From w to w' nothing has turned but block b, the block of v, and what is new; v' lies there. -/
structure Turn (w w' : World) (b : Nat) (v v' : Value) : Prop where
  os : w'.os = w.os
  tape : w'.tape = w.tape
  output : w'.output = w.output
  size : w.heap.size ≤ w'.heap.size
  keep : ∀ q, q < w.heap.size → q ≠ b → v.ownBlock ≠ some q → w'.heap[q]? = w.heap[q]?
  own : ∀ q, v'.ownBlock = some q → v.ownBlock = some q ∨ w.heap.size ≤ q
theorem Turn.of_below {w w' : World} (h : Below w.heap.size w w') (b : Nat) (v : Value) : Turn w w' b v v := ⟨h.os, h.tape, h.output, h.size, fun q hq _ _ => h.block q hq, fun _ e => .inl e⟩
theorem Turn.of_grown {w w' : World} {v v' : Value} (h : w.grownBy w' v.ownBlock) (ho : ∀ q, v'.ownBlock = some q → v.ownBlock = some q ∨ w.heap.size ≤ q) (b : Nat) : Turn w w' b v v' := ⟨h.os, h.tape, h.output, h.size, fun q hq _ hv => h.block q hq (fun e => hv e.symm), ho⟩
theorem Turn.of_just {w w' : World} {b : Nat} (h : Just b w w') (v : Value) : Turn w w' b v v := ⟨h.os, h.tape, h.output, h.size, fun q hq hb _ => h.block q hq hb, fun _ e => .inl e⟩
theorem Turn.trans {u v w : World} {b : Nat} {x y z : Value} (h : Turn u v b x y) (k : Turn v w b y z) : Turn u w b x z :=
  ⟨k.os.trans h.os, k.tape.trans h.tape, k.output.trans h.output, Nat.le_trans h.size k.size, fun q hq hb hx => (k.keep q (Nat.lt_of_lt_of_le hq h.size) hb (fun e => (h.own q e).elim hx (fun h' => by omega))).trans (h.keep q hq hb hx),
    fun q e => (k.own q e).elim (fun e' => h.own q e') (fun h' => .inr (Nat.le_trans h.size h'))⟩
theorem Turn.put {w w1 : World} {b : Nat} {v v1 : Value} (h : Turn w w1 b v v1) (i : Nat) (u : Value) : Turn w (w1.setCell ⟨b, i, none⟩ u) b v v1 := h.trans (Turn.of_just (Just.set b w1 i u) v1)
theorem Turn.below {w w' : World} {b base : Nat} {v v' : Value} (h : Turn w w' b v v') (hb : base ≤ b) (hv : ∀ q, v.ownBlock = some q → base ≤ q) (hs : base ≤ w.heap.size) : Below base w w' :=
  ⟨h.os, h.tape, h.output, h.size, fun q hq => h.keep q (by omega) (by omega) (fun e => by have := hv q e; omega)⟩
/-- The set in block b: who it is, its rank, whom it may follow, in order. -/
structure St (w : World) (base b : Nat) (me rk : Int) (l : List P) (v : Value) : Prop where
  own : Own w b 209 #[.int .i64 me, .int .i64 rk, v]
  row : MineK w base 211 3 v l.length (pv l)
  srt : Srt l
  few : l.length ≤ 100
  low : base ≤ b
theorem own_ty {w : World} {b : Nat} {s t : TypeId} {cs ds : Array Value} (h : Own w b s cs) (g : Own w b t ds) : s = t := by
  unfold Own at h g
  rw [g] at h
  injection h with h
  injection h with _ h _
  exact h.symm
theorem mine_ne {w : World} {base n b : Nat} {v : Value} {V : Nat → Value} {cs : Array Value} (h : MineK w base 211 3 v n V) (ho : Own w b 209 cs) : v.ownBlock ≠ some b := fun e => by
  obtain ⟨_, h2⟩ := h
  rcases h2 with ⟨hv, _⟩ | ⟨g, cap, cur, hv, hg, hh, _⟩
  · subst hv
    cases e
  · subst hv
    have e : some g = some b := e
    injection e with e
    subst e
    exact absurd (own_ty hh ho) (by decide)
theorem St.ne {w : World} {base b : Nat} {me rk : Int} {l : List P} {v : Value} (h : St w base b me rk l v) : v.ownBlock ≠ some b := mine_ne h.row h.own
theorem St.below {w w' : World} {base b : Nat} {me rk : Int} {l : List P} {v : Value} (h : St w base b me rk l v) (j : Below w.heap.size w w') : St w' base b me rk l v :=
  ⟨below_own j h.own h.own.lt, h.row.below j, h.srt, h.few, h.low⟩
theorem St.blk {w : World} {base b : Nat} {me rk : Int} {l : List P} {v : Value} (h : St w base b me rk l v) (q : Nat) (e : v.ownBlock = some q) : base ≤ q ∧ q < w.heap.size := h.row.lt q e
theorem Turn.old {w w' : World} {base b : Nat} {me rk : Int} {l : List P} {v v' : Value} (j : Turn w w' b v v') (t : St w base b me rk l v) : Below base w w' :=
  j.below t.low (fun q e => (t.blk q e).1) (by have := t.own.lt; have := t.low; omega)
theorem row_put {w : World} {base b n : Nat} {v : Value} {V : Nat → Value} (h : MineK w base 211 3 v n V) (hne : v.ownBlock ≠ some b) (i : Nat) (u : Value) : MineK (w.setCell ⟨b, i, none⟩ u) base 211 3 v n V :=
  h.kept (fun q _ => by
    by_cases e : q = b
    · exact .inr (fun e' => hne (e ▸ e'))
    · exact .inl (Below.heap_setCell _ _ _ _ e))
def DrpPost (base b : Nat) (me rk : Int) (l : List P) (p : P → Bool) (v : Value) (w : World) (r : Ending) (w' : World) : Prop :=
  r = .returned (.tuple #[]) ∧ ∃ v', St w' base b me rk (kept p l l.length) v' ∧ Turn w w' b v v' ∧ v'.ownBlock = v.ownBlock
theorem drp_any (base b : Nat) (me rk : Int) (l : List P) (v : Value) (g : FuncId) (lb : Value) (p : P → Bool) (OK : World → Prop) (w : World) (eg : ∀ args w, (callFunc g args).run Tryz.prog w = .ok (.enter g args) w) (hg : Says g lb p OK) (hO : OK w) (hok : ∀ W W', W.grownBy W' v.ownBlock → OK W → OK W') (t : St w base b me rk l v) :
    Calls Tryz.prog 168 #[.pointer (some ⟨b, 0, none⟩), .func (.func g) #[] #[lb]] w (DrpPost base b me rk l p v w) := by
  have hdl := dlf_any base v l g lb p OK w eg hg hO hok t.row (by have := t.few; omega)
  have c2 : w.cell? ⟨b, 2, none⟩ = some v := t.own.cell 2
  have HT := Lib.hid t
  clear hg hO hok eg t
  go_enter Tryz.func168, Tryz.ntmps168
  go_wp2_with (go_at_call 207; refine hdl.mono ?_; rintro r w5 ⟨v5, rfl, m5, g5, e5⟩; obtain ⟨a5, c5, rfl, hc5, hd5, hR5⟩ := m5.row; have o5 : Own w5 b 209 #[.int .i64 me, .int .i64 rk, v] := grown_own g5 HT.out.own HT.out.ne; have k5 : w5.cell? ⟨b, 2, none⟩ = some v := o5.cell 2; have f5 : w5.frozen? ⟨b, 2, none⟩ = false := o5.free 2)
  go_end0
  have hne : (Value.slice a5 (kept p l l.length).length c5).ownBlock ≠ some b := by rw [e5]; exact HT.out.ne
  exact ⟨rfl, .slice a5 (kept p l l.length).length c5, ⟨o5.put 2 _, row_put m5 hne 2 _, srt_kept HT.out.srt p _, Nat.le_trans (kept_len p l _) HT.out.few, HT.out.low⟩, (Turn.of_grown g5 (fun q e => .inl (e5 ▸ e)) b).put 2 _, e5⟩
theorem rnk_any (base b : Nat) (me rk : Int) (l : List P) (v : Value) (w : World) (t : St w base b me rk l v) :
    Calls Tryz.prog 116 #[.pointer (some ⟨b, 0, none⟩)] w fun r w' => r = .returned (.int .i64 rk) ∧ w = w' := by
  have c1 : w.cell? ⟨b, 1, none⟩ = some (.int .i64 rk) := t.own.cell 1
  go_enter Tryz.func116, Tryz.ntmps116
  go_wp2_with fail
  go_ret
  exact ⟨rfl, rfl⟩
theorem rnk_nil (w : World) : Calls Tryz.prog 116 #[.pointer none] w fun r w' => r = .returned (.int .i64 0) ∧ w = w' := by
  go_enter Tryz.func116, Tryz.ntmps116
  go_wp2_with fail
  go_ret
  exact ⟨rfl, rfl⟩
def fstN (l : List P) : Int := if l.length = 0 then 0 else (at_ l 0).n
theorem fst_any (base b : Nat) (me rk : Int) (l : List P) (v : Value) (w : World) (t : St w base b me rk l v) :
    Calls Tryz.prog 92 #[.pointer (some ⟨b, 0, none⟩)] w fun r w' => r = .returned (.tuple #[.int .i64 (fstN l), .bool (decide (0 < l.length))]) ∧ w = w' := by
  have c2 : w.cell? ⟨b, 2, none⟩ = some v := t.own.cell 2
  obtain ⟨A, c, rfl, hc1, hc2, hR⟩ := t.row.row
  by_cases h0 : l.length = 0
  · have HD : Hid (fstN l = 0) := Lib.hid (by unfold fstN; rw [if_pos h0])
    have HE : Hid (decide (0 < l.length) = false) := Lib.hid (by rw [h0]; rfl)
    rw [h0] at c2
    clear hR hc1 hc2 t
    go_enter Tryz.func92, Tryz.ntmps92
    go_wp2_with fail
    go_ret2
    exact ⟨by rw [HD.out, HE.out]; rfl, rfl⟩
  · obtain ⟨bo, off, rfl, hbo, d0, d1, d2⟩ := prow hR (Below.refl _ _) (show 0 < l.length by omega)
    have d0 : w.cell? ⟨bo, off, none⟩ = some (.int .i64 (at_ l 0).n) := by rw [Nat.zero_mul, Nat.add_zero] at d0; exact d0
    have HD : Hid (fstN l = (at_ l 0).n) := Lib.hid (by unfold fstN; rw [if_neg h0])
    have HE : Hid (decide (0 < l.length) = true) := Lib.hid (by simp; omega)
    obtain ⟨n, hn⟩ : ∃ n, l.length = n := ⟨_, rfl⟩
    rw [hn] at h0 c2 hc1 HE ⊢
    have g1 : ((n : Int) == 0) = false := by simp; omega
    have g2 : 0 < n := by omega
    generalize (at_ l 0).n = x at *
    clear hR hc2 t d1 d2 hn h0
    go_enter Tryz.func92, Tryz.ntmps92
    go_wp2_with fail
    go_ret2
    exact ⟨by rw [HD.out, HE.out]; rfl, rfl⟩
theorem fst_nil (w : World) : Calls Tryz.prog 92 #[.pointer none] w fun r w' => r = .returned (.tuple #[.int .i64 0, .bool false]) ∧ w = w' := by
  go_enter Tryz.func92, Tryz.ntmps92
  go_wp2_with fail
  go_ret2
  exact ⟨rfl, rfl⟩
def rkoP (l : List P) (x : Int) : Int × Bool := match l.find? (fun p => p.n == x) with | some p => (p.r, true) | none => (0, false)
theorem rko_at {l : List P} {x : Int} {k : Nat} (hk : k < l.length) (h : ∀ j, j < k → ((at_ l j).n == x) = false) (hx : ((at_ l k).n == x) = true) : rkoP l x = ((at_ l k).r, true) := by
  have e : l.find? (fun p => p.n == x) = some (at_ l k) := by
    rw [List.find?_eq_some_iff_getElem]
    refine ⟨hx, k, hk, ?_, fun j hj => ?_⟩
    · unfold at_
      rw [List.getD_eq_getElem?_getD, List.getElem?_eq_getElem hk]
      rfl
    · have := h j hj
      unfold at_ at this
      rw [List.getD_eq_getElem?_getD, List.getElem?_eq_getElem (by omega)] at this
      simp only [Option.getD_some] at this
      simp [this]
  unfold rkoP
  rw [e]
theorem rko_no {l : List P} {x : Int} (h : ∀ j, j < l.length → ((at_ l j).n == x) = false) : rkoP l x = (0, false) := by
  have e : l.find? (fun p => p.n == x) = none := by
    rw [List.find?_eq_none]
    intro p hp
    obtain ⟨j, hj, rfl⟩ := mem_at hp
    rw [h j hj]
    decide
  unfold rkoP
  rw [e]
theorem rko_nil (x : Int) (w : World) : Calls Tryz.prog 198 #[.pointer none, .int .i64 x] w fun r w' => r = .returned (.tuple #[.int .i64 0, .bool false]) ∧ w = w' := by
  go_enter Tryz.func198, Tryz.ntmps198
  go_wp2_with fail
  go_ret2
  exact ⟨rfl, rfl⟩
theorem rko_any (base b : Nat) (me rk : Int) (l : List P) (v : Value) (x : Int) (w : World) (t : St w base b me rk l v) :
    Calls Tryz.prog 198 #[.pointer (some ⟨b, 0, none⟩), .int .i64 x] w fun r w' => r = .returned (.tuple #[.int .i64 (rkoP l x).1, .bool (rkoP l x).2]) ∧ Below w.heap.size w w' := by
  have c2 : w.cell? ⟨b, 2, none⟩ = some v := t.own.cell 2
  obtain ⟨A, c, rfl, hc1, hc2, hR⟩ := t.row.row
  unfold maxLen at hc2
  have hfew := t.few
  have HR := Lib.hid hR
  obtain ⟨m, hm⟩ : ∃ m, l.length = m := ⟨_, rfl⟩
  have HL := Lib.hid hm
  rw [hm] at c2 hc1 hfew HR
  clear t hR hm
  go_enter Tryz.func198, Tryz.ntmps198
  go_wp2_with fail
  go_loopw [15] (fun i wr => ∃ k : Nat, i = .int .i64 k ∧ k ≤ m ∧ Hid (∀ j, j < k → ((at_ l j).n == x) = false) ∧ Below w.heap.size w wr) (fun i _ => m - (intOf i).toNat)
  case atStart => exact ⟨0, rfl, by omega, Lib.hid (fun j hj => by omega), Below.refl _ _⟩
  case round =>
    obtain ⟨k, rfl, hk, HN, b1⟩ := hrel
    by_cases hlt : k < m
    · obtain ⟨bo, off, rfl, hbo, d0, d1, d2⟩ := prow HR.out b1 hlt
      obtain ⟨y, hy⟩ : ∃ y, at_ l k = y := ⟨_, rfl⟩
      have HY := Lib.hid hy
      rw [hy] at d0 d1 d2
      clear hy
      have b2 := b1.alloc b1.size (.cells #[.int .i64 y.n, .int .i64 y.r, .int .i64 y.h] 211)
      obtain ⟨e, he⟩ : ∃ e, (y.n == x) = e := ⟨_, rfl⟩
      have HE := Lib.hid he
      cases e
      · have HN2 : Hid (∀ j, j < k + 1 → ((at_ l j).n == x) = false) := Lib.hid (fun j hj => by
          by_cases e : j = k
          · subst e; rw [HY.out]; exact HE.out
          · exact HN.out j (by omega))
        go_wp2_with fail
        exact ⟨⟨k + 1, by simp, by omega, HN2, b2⟩, by simp [intOf]; omega⟩
      · have HD : Hid (rkoP l x = (y.r, true)) := Lib.hid (by
          rw [rko_at (by rw [HL.out]; exact hlt) HN.out (by rw [HY.out]; exact HE.out), HY.out])
        go_wp2_with fail
        go_ret2
        exact ⟨by rw [HD.out]; rfl, b2⟩
    · have HD : Hid (rkoP l x = (0, false)) := Lib.hid (rko_no (fun j hj => HN.out j (by rw [HL.out] at hj; omega)))
      go_wp2_with fail
      go_ret2
      exact ⟨by rw [HD.out]; rfl, b1⟩
end Go.Proofs.YtiflmdekcjbmbaaGreat.Pa
set_option maxRecDepth 100000
namespace Go.Proofs.YtiflmdekcjbmbaaGreat.Pa
set_option linter.unusedVariables false
set_option linter.unusedSimpArgs false
open Go.RowKit Lb

def ndB (x : Int) : Bool := decide (0 ≤ x ∧ x < 16)
def rkB (x : Int) : Bool := decide (0 ≤ x ∧ x ≤ 255)
theorem isNode_any (x : Int) (w : World) : Calls Tryz.prog 176 #[.int .i64 x] w fun r w' => r = .returned (.bool (ndB x)) ∧ w = w' := by
  by_cases h0 : 0 ≤ x
  · by_cases h1 : x < 16
    · have HD : Hid (ndB x = true) := Lib.hid (by simp [ndB, h0, h1])
      go_enter Tryz.func176, Tryz.ntmps176
      go_wp2_with fail
      go_ret
      exact ⟨by rw [HD.out]; rfl, rfl⟩
    · have HD : Hid (ndB x = false) := Lib.hid (by simp [ndB]; omega)
      have h2 : decide (x < 16) = false := by simp; omega
      clear h1
      go_enter Tryz.func176, Tryz.ntmps176
      go_wp2_with fail
      go_ret
      exact ⟨by rw [HD.out]; rfl, rfl⟩
  · have HD : Hid (ndB x = false) := Lib.hid (by simp [ndB]; omega)
    have h2 : x < 0 := by omega
    clear h0
    go_enter Tryz.func176, Tryz.ntmps176
    go_wp2_with fail
    go_ret
    exact ⟨by rw [HD.out]; rfl, rfl⟩
theorem isRank_any (x : Int) (w : World) : Calls Tryz.prog 177 #[.int .i64 x] w fun r w' => r = .returned (.bool (rkB x)) ∧ w = w' := by
  by_cases h0 : 0 ≤ x
  · by_cases h1 : x ≤ 255
    · have HD : Hid (rkB x = true) := Lib.hid (by simp [rkB, h0, h1])
      go_enter Tryz.func177, Tryz.ntmps177
      go_wp2_with fail
      go_ret
      exact ⟨by rw [HD.out]; rfl, rfl⟩
    · have HD : Hid (rkB x = false) := Lib.hid (by simp [rkB]; omega)
      have h2 : decide (x ≤ 255) = false := by simp; omega
      clear h1
      go_enter Tryz.func177, Tryz.ntmps177
      go_wp2_with fail
      go_ret
      exact ⟨by rw [HD.out]; rfl, rfl⟩
  · have HD : Hid (rkB x = false) := Lib.hid (by simp [rkB]; omega)
    have h2 : x < 0 := by omega
    clear h0
    go_enter Tryz.func177, Tryz.ntmps177
    go_wp2_with fail
    go_ret
    exact ⟨by rw [HD.out]; rfl, rfl⟩
theorem new_yes (me rk : Int) (w : World) (h1 : ndB me = true) (h2 : rkB rk = true) :
    Calls Tryz.prog 121 #[.int .i64 me, .int .i64 rk] w fun r w' => r = .returned (.pointer (some ⟨w.heap.size, 0, none⟩)) ∧ St w' w.heap.size w.heap.size me rk [] (.slice none 0 0) ∧ Below w.heap.size w w' := by
  have ho := Own.new w 209 #[.int .i64 me, .int .i64 rk, .slice none 0 0]
  have hb := (Below.refl w.heap.size w).alloc (Nat.le_refl _) (.cells #[.int .i64 me, .int .i64 rk, .slice none 0 0] 209)
  have H1 := Lib.hid h1
  have H2 := Lib.hid h2
  clear h1 h2
  go_enter Tryz.func121, Tryz.ntmps121
  go_wp2_with (first | ((with_reducible refine (isNode_any _ _).mono ?_); rintro r w' ⟨rfl, rfl⟩; rw [H1.out]) | ((with_reducible refine (isRank_any _ _).mono ?_); rintro r w' ⟨rfl, rfl⟩; rw [H2.out]))
  go_ret
  exact ⟨rfl, ⟨ho, MineK.nil _ _ _ _ _, fun i j _ hj => by simp at hj, by simp, Nat.le_refl _⟩, hb⟩
theorem new_no (me rk : Int) (w : World) (h : ndB me = false ∨ (ndB me = true ∧ rkB rk = false)) :
    Calls Tryz.prog 121 #[.int .i64 me, .int .i64 rk] w fun r w' => r = .returned (.pointer none) ∧ w = w' := by
  rcases h with h1 | ⟨h1, h2⟩
  · have H1 := Lib.hid h1
    clear h1
    go_enter Tryz.func121, Tryz.ntmps121
    go_wp2_with ((with_reducible refine (isNode_any _ _).mono ?_); rintro r w' ⟨rfl, rfl⟩; rw [H1.out])
    go_ret
    exact ⟨rfl, rfl⟩
  · have H1 := Lib.hid h1
    have H2 := Lib.hid h2
    clear h1 h2
    go_enter Tryz.func121, Tryz.ntmps121
    go_wp2_with (first | ((with_reducible refine (isNode_any _ _).mono ?_); rintro r w' ⟨rfl, rfl⟩; rw [H1.out]) | ((with_reducible refine (isRank_any _ _).mono ?_); rintro r w' ⟨rfl, rfl⟩; rw [H2.out]))
    go_ret
    exact ⟨rfl, rfl⟩
theorem says1 (nb : Nat) (node : Int) : Says 193 (.pointer (some ⟨nb, 0, none⟩)) (fun x => x.n == node) (fun W => W.cell? ⟨nb, 0, none⟩ = some (.int .i64 node)) := by
  intro x w h
  have b0 := (Below.refl w.heap.size w).alloc (Nat.le_refl _) (.cells #[.int .i64 x.n, .int .i64 x.r, .int .i64 x.h] 211)
  have c0 := keep_cell b0 h
  obtain ⟨e, he⟩ : ∃ e, (x.n == node) = e := ⟨_, rfl⟩
  have HD : Hid ((fun x : P => x.n == node) x = e) := Lib.hid he
  clear h
  cases e
  all_goals
    go_enter Tryz.func193, Tryz.ntmps193
    go_wp2_with fail
    go_ret
    exact ⟨rfl, b0⟩
theorem says2 (sb b : Nat) (rk : Int) : Says 197 (.pointer (some ⟨sb, 0, none⟩)) (fun x => decide (rk ≤ x.r)) (fun W => W.cell? ⟨sb, 0, none⟩ = some (.pointer (some ⟨b, 0, none⟩)) ∧ W.cell? ⟨b, 1, none⟩ = some (.int .i64 rk)) := by
  intro x w h
  have b0 := (Below.refl w.heap.size w).alloc (Nat.le_refl _) (.cells #[.int .i64 x.n, .int .i64 x.r, .int .i64 x.h] 211)
  have c0 := keep_cell b0 h.1
  have c1 := keep_cell b0 h.2
  have o0 := Own.new w 211 #[.int .i64 x.n, .int .i64 x.r, .int .i64 x.h]
  have d1 : (w.alloc (.cells #[.int .i64 x.n, .int .i64 x.r, .int .i64 x.h] 211)).cell? ⟨w.heap.size, 1, none⟩ = some (.int .i64 x.r) := o0.cell 1
  clear h o0
  go_enter Tryz.func197, Tryz.ntmps197
  go_wp2_with fail
  generalize w.alloc (.cells #[.int .i64 x.n, .int .i64 x.r, .int .i64 x.h] 211) = w1 at *
  go_quiet (fail)
  go_wp2_with fail
  go_ret
  exact ⟨rfl, below_drewN b0 _⟩
theorem Turn.box {w w' : World} {b q : Nat} {v v' : Value} {t : TypeId} {cs : Array Value} (j : Turn w w' b v v') (h : Own w q t cs) (hq : q ≠ b) (hv : v.ownBlock ≠ some q) : Own w' q t cs := (j.keep q h.lt hq hv).trans h
theorem Turn.apart {w w' : World} {b q : Nat} {v v' : Value} (j : Turn w w' b v v') (h : q < w.heap.size) (hv : v.ownBlock ≠ some q) : v'.ownBlock ≠ some q := fun e => (j.own q e).elim hv (fun h' => by omega)
/-- What Hear makes of it: the rank, whom it may follow. -/
def l1 (l : List P) (node : Int) : List P := kept (fun x => x.n == node) l l.length
def l2 (l : List P) (x : P) : List P := ins (l1 l x.n) (pos (l1 l x.n) x) x
def rk3 (rk : Int) (x : P) : Int := if x.r + 1 < rk then x.r + 1 else rk
def l3 (rk : Int) (l : List P) (x : P) : List P := if x.r + 1 < rk then kept (fun y => decide (x.r + 1 ≤ y.r)) (l2 l x) (l2 l x).length else l2 l x
def l4 (rk : Int) (l : List P) (x : P) : List P := (l3 rk l x).take 3
def mayH (me : Int) (x : P) : Bool := ndB x.n && (x.n != me && (rkB x.r && decide (0 ≤ x.h)))
def hearR (me rk : Int) (l : List P) (x : P) : Int := if mayH me x = true then (if rk ≤ x.r then rk else rk3 rk x) else rk
def hearL (me rk : Int) (l : List P) (x : P) : List P := if mayH me x = true then (if rk ≤ x.r then l1 l x.n else l4 rk l x) else l
def hearB (me rk : Int) (l : List P) (x : P) : Bool := if mayH me x = true then (if rk ≤ x.r then false else (rkoP (l4 rk l x) x.n).2) else false
end Go.Proofs.YtiflmdekcjbmbaaGreat.Pa
