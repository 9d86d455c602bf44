/-
  No cell of these rows narrows 'for every input' (looked for: loops, veiled, ifaces, maps, wideKeys, modest, calm, conditions, laid).
  DERIVED. THE GIVEN ROWS OF THIS SEAT. 4 by the template 'for every input the law returns true; each argument reads behind the call as it read before'; 0 by the template 'total and deterministic' (their statements: YtfcnjoobigogcaaTotals.lean).
  GIVEN WITH THE SEED: the statements are not yours to turn. If you find one false, say at which input.
  Laid BY PROGRAM, IN A SANDBOX (cutbox-rows.mjs): the forced cells as the released guide's own fill.sh prints them over the translation 63e31b59898932eb… (all of the seat's roots in one cut). By AI agents, Wed Nov 11 2026. No macro, syntax, notation, axiom, sorry.
-/
import Derived.Test.YtfcnjoobigogcaaChecked
import GoSem.Claim
import GoSem.ClaimJoined
import GoSem.ClaimMapViews
import Derived.JoinedTies
import Derived.KernelRfl
namespace Go.Proofs.Ytfcnjoobigogcaa
/- THE CELL 'sum', in the pinned program and in every row, IS THE sha256 OF THE DUMP (.gsa) THAT YtfcnjoobigogcaaProg.lean LOADS. Nothing in Lean hashes anything: it is a label: what it is worth is what the hold of that sum in a sandbox is worth. -/
noncomputable def Try.pinned : Pinned := { name := "ytfcnjoobigogcaa", sum := "63e31b59898932ebfd2aad4f3bc560d3417dd4fb7ea0718d1f9d2741cda8b03a", checked := Try.checked }
namespace Rows
def none {H : Type} : Left H := { results := [], args := [] }

/-- 'campanilelaw5.HopForms': WHATEVER THE INPUT: true; the input reads as it did. -/
def hopFormsSpec : ChangeSpec := { name := "hopForms", fn := fun _ => fun
  | [d1, d2, d3, d4] => { results := [.lit (.bool true)], args := [d1, d2, d3, d4] }
  | _ => none }
def hopFormsRow : OpenClaim := { program := "ytfcnjoobigogcaa", sum := "63e31b59898932ebfd2aad4f3bc560d3417dd4fb7ea0718d1f9d2741cda8b03a", func := "campanile/campanilelaw5.HopForms", spec := "hopForms", apart := false }
def HopFormsSaid : Prop := hopFormsRow.holds Try.pinned (OpenSpec.ofChange hopFormsSpec)

/-- ITS FALSE NEIGHBOUR: 'it returns false'. Refute it at one input. -/
def hopFormsWrong : ChangeSpec := { name := "hopForms", fn := fun _ => fun
  | [d1, d2, d3, d4] => { results := [.lit (.bool false)], args := [d1, d2, d3, d4] }
  | _ => none }
def HopFormsWrongFalsely : Prop := hopFormsRow.holds Try.pinned (OpenSpec.ofChange hopFormsWrong)

/-- 'campanilelaw5.HopApart': WHATEVER THE INPUT: true; the input reads as it did. -/
def hopApartSpec : ChangeSpec := { name := "hopApart", fn := fun _ => fun
  | [d1, d2, d3, d4, d5] => { results := [.lit (.bool true)], args := [d1, d2, d3, d4, d5] }
  | _ => none }
def hopApartRow : OpenClaim := { program := "ytfcnjoobigogcaa", sum := "63e31b59898932ebfd2aad4f3bc560d3417dd4fb7ea0718d1f9d2741cda8b03a", func := "campanile/campanilelaw5.HopApart", spec := "hopApart", apart := false }
def HopApartSaid : Prop := hopApartRow.holds Try.pinned (OpenSpec.ofChange hopApartSpec)

/-- ITS FALSE NEIGHBOUR: 'it returns false'. Refute it at one input. -/
def hopApartWrong : ChangeSpec := { name := "hopApart", fn := fun _ => fun
  | [d1, d2, d3, d4, d5] => { results := [.lit (.bool false)], args := [d1, d2, d3, d4, d5] }
  | _ => none }
def HopApartWrongFalsely : Prop := hopApartRow.holds Try.pinned (OpenSpec.ofChange hopApartWrong)

/-- 'campanilelaw5.HopShift': WHATEVER THE INPUT: true; the input reads as it did. -/
def hopShiftSpec : ChangeSpec := { name := "hopShift", fn := fun _ => fun
  | [d1, d2, d3, d4, d5] => { results := [.lit (.bool true)], args := [d1, d2, d3, d4, d5] }
  | _ => none }
def hopShiftRow : OpenClaim := { program := "ytfcnjoobigogcaa", sum := "63e31b59898932ebfd2aad4f3bc560d3417dd4fb7ea0718d1f9d2741cda8b03a", func := "campanile/campanilelaw5.HopShift", spec := "hopShift", apart := false }
def HopShiftSaid : Prop := hopShiftRow.holds Try.pinned (OpenSpec.ofChange hopShiftSpec)

/-- ITS FALSE NEIGHBOUR: 'it returns false'. Refute it at one input. -/
def hopShiftWrong : ChangeSpec := { name := "hopShift", fn := fun _ => fun
  | [d1, d2, d3, d4, d5] => { results := [.lit (.bool false)], args := [d1, d2, d3, d4, d5] }
  | _ => none }
def HopShiftWrongFalsely : Prop := hopShiftRow.holds Try.pinned (OpenSpec.ofChange hopShiftWrong)

/-- 'campanilelaw5.HopOpen': WHATEVER THE INPUT: true; the input reads as it did. -/
def hopOpenSpec : ChangeSpec := { name := "hopOpen", fn := fun _ => fun
  | [d1, d2] => { results := [.lit (.bool true)], args := [d1, d2] }
  | _ => none }
def hopOpenRow : OpenClaim := { program := "ytfcnjoobigogcaa", sum := "63e31b59898932ebfd2aad4f3bc560d3417dd4fb7ea0718d1f9d2741cda8b03a", func := "campanile/campanilelaw5.HopOpen", spec := "hopOpen", apart := false }
def HopOpenSaid : Prop := hopOpenRow.holds Try.pinned (OpenSpec.ofChange hopOpenSpec)

/-- ITS FALSE NEIGHBOUR: 'it returns false'. Refute it at one input. -/
def hopOpenWrong : ChangeSpec := { name := "hopOpen", fn := fun _ => fun
  | [d1, d2] => { results := [.lit (.bool false)], args := [d1, d2] }
  | _ => none }
def HopOpenWrongFalsely : Prop := hopOpenRow.holds Try.pinned (OpenSpec.ofChange hopOpenWrong)

/- THE SECOND FORM. 'bulk': how many values and letters a reading holds, each counted each time it is reached (what is shared counts as often as it is met; a slice's spare places count too). A statement '..UptoSaid' is the law's where the arguments, and the package variables that the reading takes, are together of bulk at most 1048576: NARROWER than '..Said'. Prove '..Said' where nothing that the law and all that it calls make is longer than what came in: it says more and counts as full. Else prove '..UptoSaid'. A law counts once. -/
mutual
def uptoBulk {H : Type} : DataW H → Nat
  | .lit (.string bytes) => bytes.length + 1
  | .lit _ => 1
  | .nil => 1
  | .ptr d => uptoBulk d + 1
  | .slice elems spare => uptoBulkAll elems + uptoBulkAll spare + 1
  | .agg parts => uptoBulkAll parts + 1
  | .iface _ d => uptoBulk d + 1
  | .map entries => uptoBulkEntries entries + 1
  | .held _ => 1
def uptoBulkAll {H : Type} : List (DataW H) → Nat
  | [] => 0
  | d :: r => uptoBulk d + uptoBulkAll r
def uptoBulkEntries {H : Type} : List (Lit × DataW H) → Nat
  | [] => 0
  | x :: r => uptoBulkEntry x + uptoBulkEntries r
def uptoBulkEntry {H : Type} : Lit × DataW H → Nat
  | (.string bytes, d) => bytes.length + uptoBulk d + 1
  | (_, d) => uptoBulk d + 1
 end
def uptoSmall : (H : Type) → List (DataW H) → Bool := fun _ ds => decide (uptoBulkAll ds ≤ 1048576)
def OpenSpec.upto (s : _root_.Go.ChangeSpec) : _root_.Go.OpenSpec := { _root_.Go.OpenSpec.ofChange s with cond := some uptoSmall }

/-- 'campanilelaw5.HopForms', WHERE WHAT IT READS IS OF BULK AT MOST 1048576: true; the input reads as it did. -/
def hopFormsUptoRow : OpenClaim := { program := "ytfcnjoobigogcaa", sum := "63e31b59898932ebfd2aad4f3bc560d3417dd4fb7ea0718d1f9d2741cda8b03a", func := "campanile/campanilelaw5.HopForms", spec := "hopForms", apart := false, narrowed := true }
def HopFormsUptoSaid : Prop := hopFormsUptoRow.holds Try.pinned (OpenSpec.upto hopFormsSpec)

/-- 'campanilelaw5.HopApart', WHERE WHAT IT READS IS OF BULK AT MOST 1048576: true; the input reads as it did. -/
def hopApartUptoRow : OpenClaim := { program := "ytfcnjoobigogcaa", sum := "63e31b59898932ebfd2aad4f3bc560d3417dd4fb7ea0718d1f9d2741cda8b03a", func := "campanile/campanilelaw5.HopApart", spec := "hopApart", apart := false, narrowed := true }
def HopApartUptoSaid : Prop := hopApartUptoRow.holds Try.pinned (OpenSpec.upto hopApartSpec)

/-- 'campanilelaw5.HopShift', WHERE WHAT IT READS IS OF BULK AT MOST 1048576: true; the input reads as it did. -/
def hopShiftUptoRow : OpenClaim := { program := "ytfcnjoobigogcaa", sum := "63e31b59898932ebfd2aad4f3bc560d3417dd4fb7ea0718d1f9d2741cda8b03a", func := "campanile/campanilelaw5.HopShift", spec := "hopShift", apart := false, narrowed := true }
def HopShiftUptoSaid : Prop := hopShiftUptoRow.holds Try.pinned (OpenSpec.upto hopShiftSpec)

/-- 'campanilelaw5.HopOpen', WHERE WHAT IT READS IS OF BULK AT MOST 1048576: true; the input reads as it did. -/
def hopOpenUptoRow : OpenClaim := { program := "ytfcnjoobigogcaa", sum := "63e31b59898932ebfd2aad4f3bc560d3417dd4fb7ea0718d1f9d2741cda8b03a", func := "campanile/campanilelaw5.HopOpen", spec := "hopOpen", apart := false, narrowed := true }
def HopOpenUptoSaid : Prop := hopOpenUptoRow.holds Try.pinned (OpenSpec.upto hopOpenSpec)

end Rows
end Go.Proofs.Ytfcnjoobigogcaa
