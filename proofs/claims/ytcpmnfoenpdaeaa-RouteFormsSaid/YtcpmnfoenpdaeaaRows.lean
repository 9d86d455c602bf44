/-
  No cell of these rows narrows 'for every input' (looked for: loops, veiled, ifaces, maps, wideKeys, modest, calm, conditions, laid).
  DERIVED. THE GIVEN ROWS OF THIS SEAT. 6 by the template 'for every input the law returns true; each argument reads behind the call as it read before'; 0 by the template 'total and deterministic' (their statements: YtcpmnfoenpdaeaaTotals.lean).
  GIVEN WITH THE SEED: the statements are not yours to turn. If you find one false, say at which input.
  Laid BY PROGRAM, IN A SANDBOX (cutbox-rows.mjs): the forced cells as the released guide's own fill.sh prints them over the translation 5f1b95aff1939f3a… (all of the seat's roots in one cut). By AI agents, Wed Nov 11 2026. No macro, syntax, notation, axiom, sorry.
-/
import Derived.Test.YtcpmnfoenpdaeaaChecked
import GoSem.Claim
import GoSem.ClaimJoined
import GoSem.ClaimMapViews
import Derived.JoinedTies
import Derived.KernelRfl
namespace Go.Proofs.Ytcpmnfoenpdaeaa
/- THE CELL 'sum', in the pinned program and in every row, IS THE sha256 OF THE DUMP (.gsa) THAT YtcpmnfoenpdaeaaProg.lean LOADS. Nothing in Lean hashes anything: it is a label: what it is worth is what the hold of that sum in a sandbox is worth. -/
noncomputable def Try.pinned : Pinned := { name := "ytcpmnfoenpdaeaa", sum := "5f1b95aff1939f3add3cb9133474de4d59071377bc3ac3386cd0ba7f65cfb068", checked := Try.checked }
namespace Rows
def none {H : Type} : Left H := { results := [], args := [] }

/-- 'campanilelaw19.RouteForms': WHATEVER THE INPUT: true; the input reads as it did. -/
def routeFormsSpec : ChangeSpec := { name := "routeForms", fn := fun _ => fun
  | [d1, d2, d3, d4, d5, d6, d7, d8] => { results := [.lit (.bool true)], args := [d1, d2, d3, d4, d5, d6, d7, d8] }
  | _ => none }
def routeFormsRow : OpenClaim := { program := "ytcpmnfoenpdaeaa", sum := "5f1b95aff1939f3add3cb9133474de4d59071377bc3ac3386cd0ba7f65cfb068", func := "campanile/campanilelaw19.RouteForms", spec := "routeForms", apart := false }
def RouteFormsSaid : Prop := routeFormsRow.holds Try.pinned (OpenSpec.ofChange routeFormsSpec)

/-- ITS FALSE NEIGHBOUR: 'it returns false'. Refute it at one input. -/
def routeFormsWrong : ChangeSpec := { name := "routeForms", fn := fun _ => fun
  | [d1, d2, d3, d4, d5, d6, d7, d8] => { results := [.lit (.bool false)], args := [d1, d2, d3, d4, d5, d6, d7, d8] }
  | _ => none }
def RouteFormsWrongFalsely : Prop := routeFormsRow.holds Try.pinned (OpenSpec.ofChange routeFormsWrong)

/-- 'campanilelaw19.RouteBack': WHATEVER THE INPUT: true; the input reads as it did. -/
def routeBackSpec : ChangeSpec := { name := "routeBack", fn := fun _ => fun
  | [d1, d2] => { results := [.lit (.bool true)], args := [d1, d2] }
  | _ => none }
def routeBackRow : OpenClaim := { program := "ytcpmnfoenpdaeaa", sum := "5f1b95aff1939f3add3cb9133474de4d59071377bc3ac3386cd0ba7f65cfb068", func := "campanile/campanilelaw19.RouteBack", spec := "routeBack", apart := false }
def RouteBackSaid : Prop := routeBackRow.holds Try.pinned (OpenSpec.ofChange routeBackSpec)

/-- ITS FALSE NEIGHBOUR: 'it returns false'. Refute it at one input. -/
def routeBackWrong : ChangeSpec := { name := "routeBack", fn := fun _ => fun
  | [d1, d2] => { results := [.lit (.bool false)], args := [d1, d2] }
  | _ => none }
def RouteBackWrongFalsely : Prop := routeBackRow.holds Try.pinned (OpenSpec.ofChange routeBackWrong)

/-- 'campanilelaw19.RouteWays': WHATEVER THE INPUT: true; the input reads as it did. -/
def routeWaysSpec : ChangeSpec := { name := "routeWays", fn := fun _ => fun
  | [d1, d2, d3, d4] => { results := [.lit (.bool true)], args := [d1, d2, d3, d4] }
  | _ => none }
def routeWaysRow : OpenClaim := { program := "ytcpmnfoenpdaeaa", sum := "5f1b95aff1939f3add3cb9133474de4d59071377bc3ac3386cd0ba7f65cfb068", func := "campanile/campanilelaw19.RouteWays", spec := "routeWays", apart := false }
def RouteWaysSaid : Prop := routeWaysRow.holds Try.pinned (OpenSpec.ofChange routeWaysSpec)

/-- ITS FALSE NEIGHBOUR: 'it returns false'. Refute it at one input. -/
def routeWaysWrong : ChangeSpec := { name := "routeWays", fn := fun _ => fun
  | [d1, d2, d3, d4] => { results := [.lit (.bool false)], args := [d1, d2, d3, d4] }
  | _ => none }
def RouteWaysWrongFalsely : Prop := routeWaysRow.holds Try.pinned (OpenSpec.ofChange routeWaysWrong)

/-- 'campanilelaw19.RouteLife': WHATEVER THE INPUT: true; the input reads as it did. -/
def routeLifeSpec : ChangeSpec := { name := "routeLife", fn := fun _ => fun
  | [d1, d2] => { results := [.lit (.bool true)], args := [d1, d2] }
  | _ => none }
def routeLifeRow : OpenClaim := { program := "ytcpmnfoenpdaeaa", sum := "5f1b95aff1939f3add3cb9133474de4d59071377bc3ac3386cd0ba7f65cfb068", func := "campanile/campanilelaw19.RouteLife", spec := "routeLife", apart := false }
def RouteLifeSaid : Prop := routeLifeRow.holds Try.pinned (OpenSpec.ofChange routeLifeSpec)

/-- ITS FALSE NEIGHBOUR: 'it returns false'. Refute it at one input. -/
def routeLifeWrong : ChangeSpec := { name := "routeLife", fn := fun _ => fun
  | [d1, d2] => { results := [.lit (.bool false)], args := [d1, d2] }
  | _ => none }
def RouteLifeWrongFalsely : Prop := routeLifeRow.holds Try.pinned (OpenSpec.ofChange routeLifeWrong)

/-- 'campanilelaw19.RouteTurns': WHATEVER THE INPUT: true; the input reads as it did. -/
def routeTurnsSpec : ChangeSpec := { name := "routeTurns", fn := fun _ => fun
  | [d] => { results := [.lit (.bool true)], args := [d] }
  | _ => none }
def routeTurnsRow : OpenClaim := { program := "ytcpmnfoenpdaeaa", sum := "5f1b95aff1939f3add3cb9133474de4d59071377bc3ac3386cd0ba7f65cfb068", func := "campanile/campanilelaw19.RouteTurns", spec := "routeTurns", apart := false }
def RouteTurnsSaid : Prop := routeTurnsRow.holds Try.pinned (OpenSpec.ofChange routeTurnsSpec)

/-- ITS FALSE NEIGHBOUR: 'it returns false'. Refute it at one input. -/
def routeTurnsWrong : ChangeSpec := { name := "routeTurns", fn := fun _ => fun
  | [d] => { results := [.lit (.bool false)], args := [d] }
  | _ => none }
def RouteTurnsWrongFalsely : Prop := routeTurnsRow.holds Try.pinned (OpenSpec.ofChange routeTurnsWrong)

/-- 'campanilelaw19.RouteOne': WHATEVER THE INPUT: true; the input reads as it did. -/
def routeOneSpec : ChangeSpec := { name := "routeOne", fn := fun _ => fun
  | [d1, d2] => { results := [.lit (.bool true)], args := [d1, d2] }
  | _ => none }
def routeOneRow : OpenClaim := { program := "ytcpmnfoenpdaeaa", sum := "5f1b95aff1939f3add3cb9133474de4d59071377bc3ac3386cd0ba7f65cfb068", func := "campanile/campanilelaw19.RouteOne", spec := "routeOne", apart := false }
def RouteOneSaid : Prop := routeOneRow.holds Try.pinned (OpenSpec.ofChange routeOneSpec)

/-- ITS FALSE NEIGHBOUR: 'it returns false'. Refute it at one input. -/
def routeOneWrong : ChangeSpec := { name := "routeOne", fn := fun _ => fun
  | [d1, d2] => { results := [.lit (.bool false)], args := [d1, d2] }
  | _ => none }
def RouteOneWrongFalsely : Prop := routeOneRow.holds Try.pinned (OpenSpec.ofChange routeOneWrong)

/- THE SECOND FORM. 'bulk': how many values and letters a reading holds, each counted each time it is reached (what is shared counts as often as it is met; a slice's spare places count too). A statement '..UptoSaid' is the law's where the arguments, and the package variables that the reading takes, are together of bulk at most 1048576: NARROWER than '..Said'. Prove '..Said' where nothing that the law and all that it calls make is longer than what came in: it says more and counts as full. Else prove '..UptoSaid'. A law counts once. -/
mutual
def uptoBulk {H : Type} : DataW H → Nat
  | .lit (.string bytes) => bytes.length + 1
  | .lit _ => 1
  | .nil => 1
  | .ptr d => uptoBulk d + 1
  | .slice elems spare => uptoBulkAll elems + uptoBulkAll spare + 1
  | .agg parts => uptoBulkAll parts + 1
  | .iface _ d => uptoBulk d + 1
  | .map entries => uptoBulkEntries entries + 1
  | .held _ => 1
def uptoBulkAll {H : Type} : List (DataW H) → Nat
  | [] => 0
  | d :: r => uptoBulk d + uptoBulkAll r
def uptoBulkEntries {H : Type} : List (Lit × DataW H) → Nat
  | [] => 0
  | x :: r => uptoBulkEntry x + uptoBulkEntries r
def uptoBulkEntry {H : Type} : Lit × DataW H → Nat
  | (.string bytes, d) => bytes.length + uptoBulk d + 1
  | (_, d) => uptoBulk d + 1
 end
def uptoSmall : (H : Type) → List (DataW H) → Bool := fun _ ds => decide (uptoBulkAll ds ≤ 1048576)
def OpenSpec.upto (s : _root_.Go.ChangeSpec) : _root_.Go.OpenSpec := { _root_.Go.OpenSpec.ofChange s with cond := some uptoSmall }

/-- 'campanilelaw19.RouteForms', WHERE WHAT IT READS IS OF BULK AT MOST 1048576: true; the input reads as it did. -/
def routeFormsUptoRow : OpenClaim := { program := "ytcpmnfoenpdaeaa", sum := "5f1b95aff1939f3add3cb9133474de4d59071377bc3ac3386cd0ba7f65cfb068", func := "campanile/campanilelaw19.RouteForms", spec := "routeForms", apart := false, narrowed := true }
def RouteFormsUptoSaid : Prop := routeFormsUptoRow.holds Try.pinned (OpenSpec.upto routeFormsSpec)

/-- 'campanilelaw19.RouteBack', WHERE WHAT IT READS IS OF BULK AT MOST 1048576: true; the input reads as it did. -/
def routeBackUptoRow : OpenClaim := { program := "ytcpmnfoenpdaeaa", sum := "5f1b95aff1939f3add3cb9133474de4d59071377bc3ac3386cd0ba7f65cfb068", func := "campanile/campanilelaw19.RouteBack", spec := "routeBack", apart := false, narrowed := true }
def RouteBackUptoSaid : Prop := routeBackUptoRow.holds Try.pinned (OpenSpec.upto routeBackSpec)

/-- 'campanilelaw19.RouteWays', WHERE WHAT IT READS IS OF BULK AT MOST 1048576: true; the input reads as it did. -/
def routeWaysUptoRow : OpenClaim := { program := "ytcpmnfoenpdaeaa", sum := "5f1b95aff1939f3add3cb9133474de4d59071377bc3ac3386cd0ba7f65cfb068", func := "campanile/campanilelaw19.RouteWays", spec := "routeWays", apart := false, narrowed := true }
def RouteWaysUptoSaid : Prop := routeWaysUptoRow.holds Try.pinned (OpenSpec.upto routeWaysSpec)

/-- 'campanilelaw19.RouteLife', WHERE WHAT IT READS IS OF BULK AT MOST 1048576: true; the input reads as it did. -/
def routeLifeUptoRow : OpenClaim := { program := "ytcpmnfoenpdaeaa", sum := "5f1b95aff1939f3add3cb9133474de4d59071377bc3ac3386cd0ba7f65cfb068", func := "campanile/campanilelaw19.RouteLife", spec := "routeLife", apart := false, narrowed := true }
def RouteLifeUptoSaid : Prop := routeLifeUptoRow.holds Try.pinned (OpenSpec.upto routeLifeSpec)

/-- 'campanilelaw19.RouteTurns', WHERE WHAT IT READS IS OF BULK AT MOST 1048576: true; the input reads as it did. -/
def routeTurnsUptoRow : OpenClaim := { program := "ytcpmnfoenpdaeaa", sum := "5f1b95aff1939f3add3cb9133474de4d59071377bc3ac3386cd0ba7f65cfb068", func := "campanile/campanilelaw19.RouteTurns", spec := "routeTurns", apart := false, narrowed := true }
def RouteTurnsUptoSaid : Prop := routeTurnsUptoRow.holds Try.pinned (OpenSpec.upto routeTurnsSpec)

/-- 'campanilelaw19.RouteOne', WHERE WHAT IT READS IS OF BULK AT MOST 1048576: true; the input reads as it did. -/
def routeOneUptoRow : OpenClaim := { program := "ytcpmnfoenpdaeaa", sum := "5f1b95aff1939f3add3cb9133474de4d59071377bc3ac3386cd0ba7f65cfb068", func := "campanile/campanilelaw19.RouteOne", spec := "routeOne", apart := false, narrowed := true }
def RouteOneUptoSaid : Prop := routeOneUptoRow.holds Try.pinned (OpenSpec.upto routeOneSpec)

end Rows
end Go.Proofs.Ytcpmnfoenpdaeaa
