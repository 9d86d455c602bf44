/-
  A region that draws its order, whose operations read and whose calls may make memory but turn nothing that was there: one walk in the order of the text.
-/
import Derived.Test.YtdknacbdkekfnaaLib
namespace Go.Proofs.Ytdknacbdkekfnaa.Lb
set_option linter.unusedVariables false
open Go.RowKit
theorem wp_region_mild {P : Program} {id : Nat} {Q : Exit → Act → World → Prop} {a : Act} {w : World} {l : List Oper} (B : Nat) (v : World) (hm : P.follows .mixedOrders = true) (hB : Region.lexB .any l.toArray = true) (hC : Below B v w)
    (h : wpQuiet P l.toArray (fun w' => Below B v w') (fun a' => ∀ w', Below B v w' → Q .normal a' w') l a) : (Code.region id l.toArray true).wp P Q a w :=
  wp_region_quiet (C := fun w' => Below B v w') hm hB ⟨hC.os, hC.tape, hC.output, hC.size, hC.block⟩ (by simpa using h)
theorem mild_forall (B : Nat) (v : World) (p : Prop) : (∀ w', Below B v w' → p) = p := propext ⟨fun h => h v (Below.refl _ _), fun h _ _ => h⟩
theorem mild_left {P : Program} {f : FuncId} {args : Array Value} {B : Nat} {v W : World} {x : Value} (hC : Below B v W) (h : Calls P f args W fun e w' => e = .returned x ∧ W = w') : Calls P f args W fun e w' => e = .returned x ∧ Below B v w' :=
  h.mono fun _ _ ⟨h1, h2⟩ => ⟨h1, h2 ▸ hC⟩
theorem mild_drew {P : Program} {f : FuncId} {args : Array Value} {B : Nat} {v W : World} {x : Value} (hC : Below B v W) (h : Calls P f args W fun e w' => e = .returned x ∧ ∃ m, W.drewN m = w') : Calls P f args W fun e w' => e = .returned x ∧ Below B v w' :=
  h.mono fun _ _ ⟨h1, _, h2⟩ => ⟨h1, h2 ▸ below_drewN hC _⟩
theorem mild_below {P : Program} {f : FuncId} {args : Array Value} {B : Nat} {v W : World} {x : Value} (hC : Below B v W) (hB : B ≤ v.heap.size) (h : Calls P f args W fun e w' => e = .returned x ∧ Below W.heap.size W w') : Calls P f args W fun e w' => e = .returned x ∧ Below B v w' :=
  h.mono fun _ _ ⟨h1, h2⟩ => ⟨h1, hC.trans (h2.mono (Nat.le_trans hB hC.size))⟩
end Go.Proofs.Ytdknacbdkekfnaa.Lb
