/-
  Package bits (chapter 3): fields that come in; which are few; where each begins, and what bits there are.
-/
import Derived.Test.YtamooehncjceiaaBfTx
import Derived.Test.YtamooehncjceiaaReach
set_option maxRecDepth 100000
namespace Go.Proofs.Ytamooehncjceiaa.Bf
set_option linter.unusedVariables false
open Go.RowKit Go.ChangeShapes Go.WideShapes Go.ChangeAt Go.Deep Lb

/-- A field: a number, a width, whether it is a text, whether it is a step; the bytes. -/
structure Fl where
  n : Nat
  w : Int
  t : Bool
  e : Bool
  a : Option Addr
  m : Nat
  c : Nat
  y : Nat → Nat
def Fl.cells (q : Fl) : Array Value := #[.int .u64 (q.n : Nat), .int .i64 q.w, .bool q.t, .bool q.e, .slice q.a q.m q.c]
structure Fl.ok (w : World) (q : Fl) : Prop where
  n : q.n < 18446744073709551616
  le : q.m ≤ q.c
  cap : q.c ≤ 140737488351232
  row : Row w q.a q.m (fun i => .int .u8 (q.y i : Nat))
  none : q.a = none → q.m = 0
  lt : ∀ k, q.y k < 256
/-- The fields of a row. -/
structure Fls (w : World) (a : Option Addr) (n : Nat) (V : Nat → Value) (F : Nat → Fl) : Prop where
  row : Row w a (n * 5) V
  at_ : ∀ i, i < n → (V (i * 5) = .int .u64 ((F i).n : Nat) ∧ V (i * 5 + 1) = .int .i64 (F i).w ∧ V (i * 5 + 2) = .bool (F i).t ∧ V (i * 5 + 3) = .bool (F i).e ∧ V (i * 5 + 4) = .slice (F i).a (F i).m (F i).c) ∧ (F i).ok w
section
variable {H : Type} {enc : TypeId × Value → H} {w : World} {base : Nat}
theorem open_cell {P : Program} {t e : TypeId} {k : IntKind} {v : Value} {fuel : Nat} {y : DataW H × List MemPlace} (ht : P.underlying t = some (.slice e)) (he : P.underlying e = some (.int k)) (hc : P.cellsOf e = 1) (hf : DataW.trod enc P w 0 (fun _ => true) true fuel t [v] = some y) :
    ∃ a n c, ∃ Z : Nat → Int, v = .slice a n c ∧ n ≤ c ∧ c ≤ maxLen ∧ Row w a n (fun i => .int k (Z i)) ∧ ∀ i, (Lit.int k (Z i)).wf = true := by
  obtain ⟨dd, pp⟩ := y
  have key : ∃ a n c V, v = .slice a n c ∧ n ≤ c ∧ c ≤ maxLen ∧ Row w a n V ∧ ∀ i, i < n → ∃ f y, DataW.trod enc P w 0 (fun _ => true) true f e [V i] = some y := by
    rcases open_slice1 ht hc hf with ⟨hcs, _⟩ | ⟨x, l, c, m, n, V, D, Pl, hcs, _, hl, hm, hmm, _, hx⟩
    · simp at hcs
      subst hcs
      exact ⟨none, 0, 0, fun _ => undef, rfl, Nat.le_refl _, Nat.zero_le _, Row.nil _ _ _, fun i hi => absurd hi (by omega)⟩
    · simp at hcs
      subst hcs
      simp only [if_true] at hmm
      subst hmm
      obtain ⟨b, off, spot⟩ := x
      refine ⟨_, _, _, V, rfl, hl, hm, fun hn => ?_, fun i hi => ⟨_, _, (hx i (by omega)).2⟩⟩
      have h0 := (hx 0 (by omega)).1
      have hspot : spot = none := by simpa [Addr.add] using World.cell?_spot h0
      subst hspot
      refine ⟨b, off, rfl, ?_, fun i hi => ?_⟩
      · simpa [Addr.add] using lt_of_cell h0
      · have := (hx i (by omega)).1
        unfold Addr.add at this
        split at this
        · rename_i hi0
          subst hi0
          exact this
        · exact this
  obtain ⟨a, n, c, V, rfl, h1, h2, h3, h4⟩ := key
  obtain ⟨Z, hZ⟩ := choose_fn (q := fun i z => V i = .int k z ∧ (Lit.int k z).wf = true) (0 : Int) (fun i hi => by
    obtain ⟨f, y, hy⟩ := h4 i hi
    obtain ⟨z, hz, _, hw⟩ := DataW.trod_int he hy
    exact ⟨z, by simpa using hz, hw⟩)
  refine ⟨a, n, c, fun i => if i < n then Z i else 0, rfl, h1, h2, fun hn => ?_, fun i => ?_⟩
  · obtain ⟨b, off, e1, e2, e3⟩ := h3 hn
    exact ⟨b, off, e1, e2, fun i hi => by simp only [e3 i hi, (hZ i hi).1, if_pos hi]⟩
  · by_cases hi : i < n
    · simp only [if_pos hi]; exact (hZ i hi).2
    · simp only [if_neg hi]; cases k <;> decide
theorem open_fields {v : Value} {d : DataW H} {p : List MemPlace} (hv : Value.okWide Try.prog w .any base 23 v)
    (h : DataW.Trod enc Try.prog w 0 (fun _ => true) true 23 v d p) (hw : ∀ x ∈ d.weights Try.prog 23, x ≤ 140737488351232) :
    ∃ a n c V F, v = .slice a n c ∧ n ≤ c ∧ c ≤ maxLen ∧ Fls w a n V F := by
  obtain ⟨a, n, c, V, rfl, hn, hm, hV, hf⟩ := open_row_struct Try.underlying23 Try.underlying32 (by kernel_rfl) (by kernel_rfl) (by decide) hv h
  obtain ⟨X0, e0⟩ := field_int (n := n) (m := 5) (j := 0) Try.underlying30 (fun i hi => hf i hi 0 _ rfl)
  obtain ⟨X1, e1⟩ := field_int (n := n) (m := 5) (j := 1) Try.underlying3 (fun i hi => hf i hi 1 _ rfl)
  obtain ⟨X2, e2⟩ := field_bool (n := n) (m := 5) (j := 2) Try.underlying4 (fun i hi => hf i hi 2 _ rfl)
  obtain ⟨X3, e3⟩ := field_bool (n := n) (m := 5) (j := 3) Try.underlying4 (fun i hi => hf i hi 3 _ rfl)
  obtain ⟨X, hX⟩ := choose_fn (n := n) (q := fun i (x : Fl) => V (i * 5 + 4) = .slice x.a x.m x.c ∧ x.m ≤ x.c ∧ x.c ≤ maxLen ∧ Row w x.a x.m (fun i => .int .u8 (x.y i : Nat)) ∧ (x.a = .none → x.m = 0) ∧ ∀ k, x.y k < 256) (⟨0, 0, false, false, .none, 0, 0, fun _ => 0⟩ : Fl) (fun i hi => by
    obtain ⟨f, y, hy⟩ := hf i hi 4 _ rfl
    obtain ⟨a, n, c, Z, hv, h1, h2, h3, h4⟩ := open_cell Try.underlying22 Try.underlying5 (by kernel_rfl) hy
    have hz : ∀ i, ((Z i).toNat : Int) = Z i ∧ (Z i).toNat < 256 := fun i => by have := u8_bd (h4 i); omega
    have hr := row_ext (U := fun i => .int .u8 (((Z i).toNat : Nat) : Int)) h3 (fun i _ => by rw [(hz i).1])
    refine ⟨⟨0, 0, false, false, a, n, c, fun i => (Z i).toNat⟩, hv, h1, h2, hr, fun e => ?_, fun k => (hz k).2⟩
    by_cases h0 : n = 0
    · exact h0
    · obtain ⟨_, _, h5, _⟩ := hr (by omega)
      rw [show a = .none from e] at h5
      cases h5)
  refine ⟨a, n, c, V, fun i => ⟨(X0 i).toNat, X1 i, X2 i, X3 i, (X i).a, (X i).m, (X i).c, (X i).y⟩, rfl, hn, hm, hV, fun i hi => ?_⟩
  have hb := u64_bd (e0 i hi).2
  have h6 := hX i hi
  have hr := field_reach Try.underlying23 Try.underlying32 (by kernel_rfl) (by kernel_rfl) h hw hV hi (j := 4) rfl Try.underlying22 h6.1
  rw [show Try.prog.bytesOf 5 = 1 by kernel_rfl, Nat.mul_one] at hr
  have h := h6
  refine ⟨⟨?_, (e1 i hi).1, (e2 i hi), (e3 i hi), h.1⟩, ⟨by show (X0 i).toNat < _; omega, h.2.1, hr, h.2.2.2.1, h.2.2.2.2.1, h.2.2.2.2.2⟩⟩
  show _ = Value.int .u64 (((X0 i).toNat : Nat) : Int)
  rw [Int.toNat_of_nonneg hb.1]
  exact (e0 i hi).1
end
/-- How many bytes the first k fields have. -/
def sumM (F : Nat → Fl) : Nat → Nat
  | 0 => 0
  | k + 1 => sumM F k + (F k).m
theorem sumM_le (F : Nat → Fl) {k n : Nat} (h : k ≤ n) : sumM F k ≤ sumM F n := by
  induction h with
  | refl => exact Nat.le_refl _
  | step h ih => exact Nat.le_trans ih (Nat.le_add_right _ _)
set_option maxHeartbeats 2000000 in
theorem few_any (a : Option Addr) (n c : Nat) (V : Nat → Value) (F : Nat → Fl) (w : World) (hn : n ≤ c) (hc : c ≤ maxLen) (hF : Fls w a n V F) :
    Calls Try.prog 8 #[.slice a n c] w fun r w' => ∃ q : Bool, r = .returned (.bool q) ∧ (q = true → n ≤ 100 ∧ sumM F n ≤ 1000) ∧ Below w.heap.size w w' := by
  unfold maxLen at hc
  have hcap : (n : Int) ≤ 9223372036854775807 := by omega
  have b0 := Below.refl w.heap.size w
  go_enter Try.func8, Try.ntmps8
  go_wp2_with fail
  go_loopw [8, 3] (fun i s wr => ∃ k : Nat, i = .int .i64 k ∧ s = .int .i64 (sumM F k : Nat) ∧ k ≤ n ∧ k ≤ 100 ∧ sumM F k ≤ 1000 ∧ Below w.heap.size w wr) (fun i _ _ => n - (intOf i).toNat)
  case atStart => exact ⟨0, rfl, rfl, by omega, by omega, by simp [sumM], b0⟩
  case round =>
    clear b0
    obtain ⟨k, rfl, rfl, hk, hk1, hs, b1⟩ := hrel
    by_cases hlt : k < n
    · obtain ⟨bo, off, rfl, hbo, hcs⟩ := hF.row.at_struct b1 hlt (by decide)
      obtain ⟨⟨e0, e1, e2, e3, e4⟩, hok⟩ := hF.at_ k hlt
      have d0 := (hcs 0 (by decide)).trans (congrArg some e0)
      have d1 := (hcs 1 (by decide)).trans (congrArg some e1)
      have d2 := (hcs 2 (by decide)).trans (congrArg some e2)
      have d3 := (hcs 3 (by decide)).trans (congrArg some e3)
      have d4 := (hcs 4 (by decide)).trans (congrArg some e4)
      rw [Nat.add_zero] at d0
      have hm1 := hok.le
      have hm2 := hok.cap
      have hsum : sumM F (k + 1) = sumM F k + (F k).m := rfl
      obtain ⟨q, hq⟩ : ∃ q, F k = q := ⟨_, rfl⟩
      rw [hq] at d0 d1 d2 d3 d4 hm1 hm2 hsum
      obtain ⟨S, hS⟩ : ∃ S, sumM F k = S := ⟨_, rfl⟩
      rw [hS] at hs hsum ⊢
      clear hcs e0 e1 e2 e3 e4 hok hq
      have ba := b1.alloc b1.size (.cells q.cells 32)
      have ox := Own.new wr 32 q.cells
      have c4 : (wr.alloc (.cells q.cells 32)).cell? ⟨wr.heap.size, 4, none⟩ = some (.slice q.a q.m q.c) := ox.cell 4
      unfold Fl.cells at *
      go_upto_region 5 with (fail)
      generalize wr.alloc (.cells #[.int .u64 (q.n : Nat), .int .i64 q.w, .bool q.t, .bool q.e, .slice q.a q.m q.c] 32) = wx at *
      have e1 : IntKind.i64.wrap ((S : Int) + (q.m : Int)) = (S : Int) + (q.m : Int) := IntWalk.i64_in _ (by omega)
      clear d0 d1 d2 d3 d4 b1
      by_cases hg : 100 ≤ k
      · have g1 : decide ((100 : Int) ≤ (k : Int)) = true := by simp; omega
        have g2 : decide (100 ≤ k) = true := by simp; omega
        go_wp2_with fail
        go_ret
        exact ⟨false, rfl, (fun h => by cases h), ba⟩
      · have g1 : decide ((100 : Int) ≤ (k : Int)) = false := by simp; omega
        have g2 : decide (100 ≤ k) = false := by simp; omega
        by_cases hg3 : 1000 < S + q.m
        · have g3 : decide ((1000 : Int) < (S : Int) + (q.m : Int)) = true := by simp; omega
          go_wp2_with fail
          go_ret
          exact ⟨false, rfl, (fun h => by cases h), ba⟩
        · have g3 : decide ((1000 : Int) < (S : Int) + (q.m : Int)) = false := by simp; omega
          go_wp2_with fail
          exact ⟨⟨k + 1, by simp, by rw [hsum]; simp, by omega, by omega, by rw [hsum]; omega, ba⟩, by simp [intOf]; omega⟩
    · have hkn : k = n := by omega
      subst hkn
      have g4 : decide ((k : Int) < (k : Int)) = false := by simp
      go_wp2_with fail
      go_ret
      exact ⟨true, rfl, fun _ => ⟨hk1, hs⟩, b1⟩
/-- A width that may be. -/
def Fl.wd (q : Fl) : Nat := ((q.w % 18446744073709551616) % 65).toNat
theorem Fl.wd_is (q : Fl) : (q.w % 18446744073709551616) % 65 = (q.wd : Int) ∧ q.wd ≤ 64 := by
  unfold Fl.wd
  omega
/-- Where a field ends. -/
def Fl.to (q : Fl) (nb : Nat) : Nat := if q.t = true then nb + 8 * q.m else if q.e = true then (nb + 7) / 8 * 8 else nb + q.wd
/-- What bits there are behind it. -/
def Fl.put (q : Fl) (nb : Nat) (B : Nat → Bool) : Nat → Bool := if q.t = true then txt B nb q.y else if q.e = true then evn B nb else app B nb q.n q.wd
def toF (F : Nat → Fl) : Nat → Nat
  | 0 => 0
  | k + 1 => (F k).to (toF F k)
def putF (F : Nat → Fl) : Nat → Nat → Bool
  | 0 => fun _ => false
  | k + 1 => (F k).put (toF F k) (putF F k)
theorem Fl.to_le (q : Fl) (nb : Nat) : nb ≤ q.to nb ∧ q.to nb ≤ nb + 71 + 8 * q.m := by
  unfold Fl.to
  have := q.wd_is.2
  split
  · omega
  · split <;> omega
theorem toF_le (F : Nat → Fl) : ∀ k, toF F k ≤ 71 * k + 8 * sumM F k
  | 0 => by simp [toF, sumM]
  | k + 1 => by
    have h := toF_le F k
    have := ((F k).to_le (toF F k)).2
    rw [toF, sumM]
    omega
theorem toF_mono (F : Nat → Fl) {k n : Nat} (h : k ≤ n) : toF F k ≤ toF F n := by
  induction h with
  | refl => exact Nat.le_refl _
  | step h ih => exact Nat.le_trans ih ((F _).to_le _).1
theorem Fl.put_old (q : Fl) (nb : Nat) (B : Nat → Bool) {p : Nat} (hp : p < nb) : q.put nb B p = B p := by
  unfold Fl.put
  split
  · unfold txt
    rw [if_pos hp]
  · split
    · unfold evn
      simp [hp]
    · unfold app
      rw [if_pos hp]
/-- What was put stays. -/
theorem putF_old (F : Nat → Fl) {k n p : Nat} (h : k ≤ n) (hp : p < toF F k) : putF F n p = putF F k p := by
  induction h with
  | refl => rfl
  | step h ih => rw [putF, Fl.put_old _ _ _ (Nat.lt_of_lt_of_le hp (toF_mono F h)), ih]
end Go.Proofs.Ytamooehncjceiaa.Bf
