/-
  A region that draws its order, whose operations read and whose calls may make memory but turn nothing that was there: its worlds as a type of their own, so that facts on what is read are rows of the walk.
-/
import Derived.Test.YtdpkiolngglpaaaLib
import Derived.BigQuiet
import Derived.Deep.Quiet
import Derived.Deep.QuietTactic
namespace Go.Proofs.Ytdpkiolngglpaaa.Lb
set_option linter.unusedVariables false
set_option linter.unusedSimpArgs false
open Go.RowKit
structure Ext (v : World) where
  toW : World
  ok : Below v.heap.size v toW
instance (v : World) : Nonempty (Ext v) := ⟨⟨v, Below.refl _ _⟩⟩
theorem wp_region_ext {P : Program} {id : Nat} {Q : Exit → Act → World → Prop} {a : Act} {w : World} {l : List Oper} (v : World) (hm : P.follows .mixedOrders = true) (hB : Region.lexB .any l.toArray = true) (hC : Below v.heap.size v w)
    (h : wpQuiet P l.toArray (fun w' => ∃ x : Ext v, w' = x.toW) (fun a' => ∀ w', (∃ x : Ext v, w' = x.toW) → Q .normal a' w') l a) : (Code.region id l.toArray true).wp P Q a w :=
  wp_region_quiet (C := fun w' => ∃ x : Ext v, w' = x.toW) hm hB ⟨⟨{ w with drawn := w.drawn + 1 }, ⟨hC.os, hC.tape, hC.output, hC.size, hC.block⟩⟩, rfl⟩ (by simpa using h)
theorem ext_same {P : Program} {f : FuncId} {args : Array Value} {v : World} (x : Ext v) {u : Value} (h : Calls P f args x.toW fun e w' => e = .returned u ∧ x.toW = w') : Calls P f args x.toW fun e w' => e = .returned u ∧ ∃ y : Ext v, w' = y.toW :=
  h.mono fun _ _ ⟨h1, h2⟩ => ⟨h1, x, h2.symm⟩
theorem ext_drew {P : Program} {f : FuncId} {args : Array Value} {v : World} (x : Ext v) {u : Value} (h : Calls P f args x.toW fun e w' => e = .returned u ∧ ∃ m, x.toW.drewN m = w') : Calls P f args x.toW fun e w' => e = .returned u ∧ ∃ y : Ext v, w' = y.toW :=
  h.mono fun _ _ ⟨h1, _, h2⟩ => ⟨h1, ⟨_, below_drewN x.ok _⟩, h2.symm⟩
theorem ext_below {P : Program} {f : FuncId} {args : Array Value} {v : World} (x : Ext v) {u : Value} (h : Calls P f args x.toW fun e w' => e = .returned u ∧ Below x.toW.heap.size x.toW w') : Calls P f args x.toW fun e w' => e = .returned u ∧ ∃ y : Ext v, w' = y.toW :=
  h.mono fun _ _ ⟨h1, h2⟩ => ⟨h1, ⟨_, x.ok.trans (h2.mono x.ok.size)⟩, rfl⟩
end Go.Proofs.Ytdpkiolngglpaaa.Lb
