/-
  Package parents: calls that come in: each Old, or Hear.
-/
import Derived.Test.YtjboilkbcajkcaaPaInv
import Derived.Deep.Strs
import Derived.IntWalk
import Derived.Lib.SmallJoins
set_option maxRecDepth 100000
namespace Go.Proofs.Ytjboilkbcajkcaa.Pa
set_option linter.unusedVariables false
open Go.RowKit Go.ChangeShapes Go.WideShapes Go.ChangeAt Go.Deep Lb

structure Cl where
  old : Bool
  n : Int
  r : Int
  now : Int
  loss : Int
def Cl.p (c : Cl) : P := ⟨c.n, c.r, c.now⟩
def Cl.ok (c : Cl) : Prop := c.now ≤ 9223372036854775807 ∧ c.loss ≤ 9223372036854775807
def Cl.cells (c : Cl) : Array Value := #[.bool c.old, .int .i64 c.n, .int .i64 c.r, .int .i64 c.now, .int .i64 c.loss]
section
variable {H : Type} {enc : TypeId × Value → H} {w : World} {base : Nat}
theorem open_calls {v : Value} {d : DataW H} {p : List MemPlace} (hv : Value.okWide Try.prog w .any base 22 v)
    (h : DataW.Trod enc Try.prog w 0 (fun _ => true) true 22 v d p) :
    ∃ a n c V, ∃ C : Nat → Cl, v = .slice a n c ∧ n ≤ c ∧ c ≤ maxLen ∧ Row w a (n * 5) V ∧ ∀ i, i < n → V (i * 5) = .bool (C i).old ∧ V (i * 5 + 1) = .int .i64 (C i).n ∧ V (i * 5 + 2) = .int .i64 (C i).r ∧ V (i * 5 + 3) = .int .i64 (C i).now ∧ V (i * 5 + 4) = .int .i64 (C i).loss ∧ (C i).ok := by
  obtain ⟨a, n, c, V, rfl, hn, hm, hV, hf⟩ := open_row_struct Try.underlying22 Try.underlying29 (by kernel_rfl) (by kernel_rfl) (by decide) hv h
  obtain ⟨X0, e0⟩ := field_bool (n := n) (m := 5) (j := 0) Try.underlying4 (fun i hi => hf i hi 0 _ rfl)
  obtain ⟨X1, e1⟩ := field_int (n := n) (m := 5) (j := 1) Try.underlying3 (fun i hi => hf i hi 1 _ rfl)
  obtain ⟨X2, e2⟩ := field_int (n := n) (m := 5) (j := 2) Try.underlying3 (fun i hi => hf i hi 2 _ rfl)
  obtain ⟨X3, e3⟩ := field_int (n := n) (m := 5) (j := 3) Try.underlying2 (fun i hi => hf i hi 3 _ rfl)
  obtain ⟨X4, e4⟩ := field_int (n := n) (m := 5) (j := 4) Try.underlying3 (fun i hi => hf i hi 4 _ rfl)
  exact ⟨a, n, c, V, fun i => ⟨X0 i, X1 i, X2 i, X3 i, X4 i⟩, rfl, hn, hm, hV, fun i hi => ⟨e0 i hi, (e1 i hi).1, (e2 i hi).1, (e3 i hi).1, (e4 i hi).1, (i64_bd (e3 i hi).2).2, (i64_bd (e4 i hi).2).2⟩⟩
/-- The five cells of call k, in a later world. -/
theorem calls_at {w w' : World} {a : Option Addr} {n k : Nat} {V : Nat → Value} {C : Nat → Cl} (h : Row w a (n * 5) V) (hC : ∀ i, i < n → V (i * 5) = .bool (C i).old ∧ V (i * 5 + 1) = .int .i64 (C i).n ∧ V (i * 5 + 2) = .int .i64 (C i).r ∧ V (i * 5 + 3) = .int .i64 (C i).now ∧ V (i * 5 + 4) = .int .i64 (C i).loss ∧ (C i).ok) (hb : Below w.heap.size w w') (hk : k < n) :
    ∃ b off, a = some ⟨b, off, none⟩ ∧ b < w.heap.size ∧ w'.cell? ⟨b, off + k * 5, none⟩ = some (.bool (C k).old) ∧ w'.cell? ⟨b, off + k * 5 + 1, none⟩ = some (.int .i64 (C k).n) ∧ w'.cell? ⟨b, off + k * 5 + 2, none⟩ = some (.int .i64 (C k).r) ∧ w'.cell? ⟨b, off + k * 5 + 3, none⟩ = some (.int .i64 (C k).now) ∧ w'.cell? ⟨b, off + k * 5 + 4, none⟩ = some (.int .i64 (C k).loss) := by
  obtain ⟨b, off, h1, h2, h3⟩ := h.at_struct hb hk (by decide)
  obtain ⟨e0, e1, e2, e3, e4, _⟩ := hC k hk
  exact ⟨b, off, h1, h2, (h3 0 (by decide)).trans (congrArg some e0), (h3 1 (by decide)).trans (congrArg some e1), (h3 2 (by decide)).trans (congrArg some e2), (h3 3 (by decide)).trans (congrArg some e3), (h3 4 (by decide)).trans (congrArg some e4)⟩
end
/-- What Old leaves. -/
def oldL (c : Cl) (l : List P) : List P := if c.now < 0 then l else Pa.kept (fun x => decide (x.h ≤ c.now - max c.loss 1)) l l.length
def oldN (c : Cl) (l : List P) : List Int := if c.now < 0 then [] else srtd (goN (c.now - max c.loss 1) l)
theorem Inv.old {me rk : Int} {l : List P} (h : Inv me rk l) (c : Cl) : Inv me rk (oldL c l) := by
  unfold oldL
  split
  · exact h
  · exact h.kept _ _
/-- Old, whatever is asked: what goes, in a block of its own, and what stays. -/
def GoPost (base b : Nat) (me rk : Int) (c : Cl) (l : List P) (v : Value) (w : World) (r : Ending) (w' : World) : Prop :=
  ∃ gv v', r = .returned gv ∧ Mine w' (w.heap.size + 1) 3 gv (oldN c l).length (zval (oldN c l)) ∧ St w' base b me rk (oldL c l) v' ∧ Turn w w' b v v'
theorem go_any (base b : Nat) (me rk : Int) (c : Cl) (l : List P) (v : Value) (w : World) (t : St w base b me rk l v) (hc : c.ok) :
    Calls Try.prog 13 #[.pointer (some ⟨b, 0, none⟩), .int .i64 c.now, .int .i64 c.loss] w (GoPost base b me rk c l v w) := by
  by_cases h0 : c.now < 0
  · refine (old_early b c.now c.loss w h0).mono ?_
    rintro r w' ⟨rfl, rfl⟩
    refine ⟨.slice none 0 0, v, rfl, ?_, ?_, Turn.of_below (Below.refl _ _) _ _⟩
    · unfold oldN
      rw [if_pos h0]
      exact Mine.nil _ _ _ _
    · unfold oldL
      rw [if_pos h0]
      exact t
  · refine (old_any sort_ok base b me rk c.now c.loss (c.now - max c.loss 1) l v w t (by omega) hc.1 hc.2 rfl).mono ?_
    rintro r w' ⟨gv, v', rfl, m, t', j⟩
    refine ⟨gv, v', rfl, ?_, ?_, j⟩
    · unfold oldN
      rw [if_neg h0, show (srtd (goN (c.now - max c.loss 1) l)).length = (goN (c.now - max c.loss 1) l).length from List.length_mergeSort _]
      exact m
    · unfold oldL
      rw [if_neg h0]
      exact t'
end Go.Proofs.Ytjboilkbcajkcaa.Pa
