/-
  No cell of these rows narrows 'for every input' (looked for: loops, veiled, ifaces, maps, wideKeys, modest, calm, conditions, laid).
  DERIVED. THE GIVEN ROWS OF THIS SEAT. 6 by the template 'for every input the law returns true; each argument reads behind the call as it read before'; 0 by the template 'total and deterministic' (their statements: YtdknacbdkekfnaaTotals.lean).
  GIVEN WITH THE SEED: the statements are not yours to turn. If you find one false, say at which input.
  Laid BY PROGRAM, IN A SANDBOX (cutbox-rows.mjs): the forced cells as the released guide's own fill.sh prints them over the translation 0e8125b82dc24bbd… (all of the seat's roots in one cut). By AI agents, Wed Nov 11 2026. No macro, syntax, notation, axiom, sorry.
-/
import Derived.Test.YtdknacbdkekfnaaChecked
import GoSem.Claim
import GoSem.ClaimJoined
import GoSem.ClaimMapViews
import Derived.JoinedTies
import Derived.KernelRfl
namespace Go.Proofs.Ytdknacbdkekfnaa
/- THE CELL 'sum', in the pinned program and in every row, IS THE sha256 OF THE DUMP (.gsa) THAT YtdknacbdkekfnaaProg.lean LOADS. Nothing in Lean hashes anything: it is a label: what it is worth is what the hold of that sum in a sandbox is worth. -/
noncomputable def Try.pinned : Pinned := { name := "ytdknacbdkekfnaa", sum := "0e8125b82dc24bbdfab098a2797ff4875d07b2e7e2e9a972d0de80b514244281", checked := Try.checked }
namespace Rows
def none {H : Type} : Left H := { results := [], args := [] }

/-- 'campanilelaw8.CellPlays': WHATEVER THE INPUT: true; the input reads as it did. -/
def cellPlaysSpec : ChangeSpec := { name := "cellPlays", fn := fun _ => fun
  | [d1, d2] => { results := [.lit (.bool true)], args := [d1, d2] }
  | _ => none }
def cellPlaysRow : OpenClaim := { program := "ytdknacbdkekfnaa", sum := "0e8125b82dc24bbdfab098a2797ff4875d07b2e7e2e9a972d0de80b514244281", func := "campanile/campanilelaw8.CellPlays", spec := "cellPlays", inPlace := ["slices.overlaps[campanile/api.Cell]"], unfollowed := true, recurses := true, apart := false }
def CellPlaysSaid : Prop := cellPlaysRow.holds Try.pinned (OpenSpec.ofChange cellPlaysSpec)

/-- ITS FALSE NEIGHBOUR: 'it returns false'. Refute it at one input. -/
def cellPlaysWrong : ChangeSpec := { name := "cellPlays", fn := fun _ => fun
  | [d1, d2] => { results := [.lit (.bool false)], args := [d1, d2] }
  | _ => none }
def CellPlaysWrongFalsely : Prop := cellPlaysRow.holds Try.pinned (OpenSpec.ofChange cellPlaysWrong)

/-- 'campanilelaw8.CellNil': WHATEVER THE INPUT: true; the input reads as it did. -/
def cellNilSpec : ChangeSpec := { name := "cellNil", fn := fun _ => fun
  | [d1, d2] => { results := [.lit (.bool true)], args := [d1, d2] }
  | _ => none }
def cellNilRow : OpenClaim := { program := "ytdknacbdkekfnaa", sum := "0e8125b82dc24bbdfab098a2797ff4875d07b2e7e2e9a972d0de80b514244281", func := "campanile/campanilelaw8.CellNil", spec := "cellNil", inPlace := ["slices.overlaps[campanile/api.Cell]"], unfollowed := true, recurses := true, apart := false }
def CellNilSaid : Prop := cellNilRow.holds Try.pinned (OpenSpec.ofChange cellNilSpec)

/-- ITS FALSE NEIGHBOUR: 'it returns false'. Refute it at one input. -/
def cellNilWrong : ChangeSpec := { name := "cellNil", fn := fun _ => fun
  | [d1, d2] => { results := [.lit (.bool false)], args := [d1, d2] }
  | _ => none }
def CellNilWrongFalsely : Prop := cellNilRow.holds Try.pinned (OpenSpec.ofChange cellNilWrong)

/-- 'campanilelaw8.CellRound': WHATEVER THE INPUT: true; the input reads as it did. -/
def cellRoundSpec : ChangeSpec := { name := "cellRound", fn := fun _ => fun
  | [d1, d2, d3] => { results := [.lit (.bool true)], args := [d1, d2, d3] }
  | _ => none }
def cellRoundRow : OpenClaim := { program := "ytdknacbdkekfnaa", sum := "0e8125b82dc24bbdfab098a2797ff4875d07b2e7e2e9a972d0de80b514244281", func := "campanile/campanilelaw8.CellRound", spec := "cellRound", inPlace := ["slices.overlaps[campanile/api.Cell]"], unfollowed := true, recurses := true, apart := false }
def CellRoundSaid : Prop := cellRoundRow.holds Try.pinned (OpenSpec.ofChange cellRoundSpec)

/-- ITS FALSE NEIGHBOUR: 'it returns false'. Refute it at one input. -/
def cellRoundWrong : ChangeSpec := { name := "cellRound", fn := fun _ => fun
  | [d1, d2, d3] => { results := [.lit (.bool false)], args := [d1, d2, d3] }
  | _ => none }
def CellRoundWrongFalsely : Prop := cellRoundRow.holds Try.pinned (OpenSpec.ofChange cellRoundWrong)

/-- 'campanilelaw8.CellLess': WHATEVER THE INPUT: true; the input reads as it did. -/
def cellLessSpec : ChangeSpec := { name := "cellLess", fn := fun _ => fun
  | [d1, d2, d3] => { results := [.lit (.bool true)], args := [d1, d2, d3] }
  | _ => none }
def cellLessRow : OpenClaim := { program := "ytdknacbdkekfnaa", sum := "0e8125b82dc24bbdfab098a2797ff4875d07b2e7e2e9a972d0de80b514244281", func := "campanile/campanilelaw8.CellLess", spec := "cellLess", inPlace := ["slices.overlaps[campanile/api.Cell]"], unfollowed := true, recurses := true, apart := false }
def CellLessSaid : Prop := cellLessRow.holds Try.pinned (OpenSpec.ofChange cellLessSpec)

/-- ITS FALSE NEIGHBOUR: 'it returns false'. Refute it at one input. -/
def cellLessWrong : ChangeSpec := { name := "cellLess", fn := fun _ => fun
  | [d1, d2, d3] => { results := [.lit (.bool false)], args := [d1, d2, d3] }
  | _ => none }
def CellLessWrongFalsely : Prop := cellLessRow.holds Try.pinned (OpenSpec.ofChange cellLessWrong)

/-- 'campanilelaw8.CellApart': WHATEVER THE INPUT: true; the input reads as it did. -/
def cellApartSpec : ChangeSpec := { name := "cellApart", fn := fun _ => fun
  | [d1, d2] => { results := [.lit (.bool true)], args := [d1, d2] }
  | _ => none }
def cellApartRow : OpenClaim := { program := "ytdknacbdkekfnaa", sum := "0e8125b82dc24bbdfab098a2797ff4875d07b2e7e2e9a972d0de80b514244281", func := "campanile/campanilelaw8.CellApart", spec := "cellApart", inPlace := ["slices.overlaps[campanile/api.Cell]"], unfollowed := true, recurses := true, apart := false }
def CellApartSaid : Prop := cellApartRow.holds Try.pinned (OpenSpec.ofChange cellApartSpec)

/-- ITS FALSE NEIGHBOUR: 'it returns false'. Refute it at one input. -/
def cellApartWrong : ChangeSpec := { name := "cellApart", fn := fun _ => fun
  | [d1, d2] => { results := [.lit (.bool false)], args := [d1, d2] }
  | _ => none }
def CellApartWrongFalsely : Prop := cellApartRow.holds Try.pinned (OpenSpec.ofChange cellApartWrong)

/-- 'campanilelaw8.CellFrames': WHATEVER THE INPUT: true; the input reads as it did. -/
def cellFramesSpec : ChangeSpec := { name := "cellFrames", fn := fun _ => fun
  | [d1, d2] => { results := [.lit (.bool true)], args := [d1, d2] }
  | _ => none }
def cellFramesRow : OpenClaim := { program := "ytdknacbdkekfnaa", sum := "0e8125b82dc24bbdfab098a2797ff4875d07b2e7e2e9a972d0de80b514244281", func := "campanile/campanilelaw8.CellFrames", spec := "cellFrames", inPlace := ["slices.overlaps[campanile/api.Cell]"], unfollowed := true, recurses := true, apart := false }
def CellFramesSaid : Prop := cellFramesRow.holds Try.pinned (OpenSpec.ofChange cellFramesSpec)

/-- ITS FALSE NEIGHBOUR: 'it returns false'. Refute it at one input. -/
def cellFramesWrong : ChangeSpec := { name := "cellFrames", fn := fun _ => fun
  | [d1, d2] => { results := [.lit (.bool false)], args := [d1, d2] }
  | _ => none }
def CellFramesWrongFalsely : Prop := cellFramesRow.holds Try.pinned (OpenSpec.ofChange cellFramesWrong)

/- THE SECOND FORM. 'bulk': how many values and letters a reading holds, each counted each time it is reached (what is shared counts as often as it is met; a slice's spare places count too). A statement '..UptoSaid' is the law's where the arguments, and the package variables that the reading takes, are together of bulk at most 1048576: NARROWER than '..Said'. Prove '..Said' where nothing that the law and all that it calls make is longer than what came in: it says more and counts as full. Else prove '..UptoSaid'. A law counts once. -/
mutual
def uptoBulk {H : Type} : DataW H → Nat
  | .lit (.string bytes) => bytes.length + 1
  | .lit _ => 1
  | .nil => 1
  | .ptr d => uptoBulk d + 1
  | .slice elems spare => uptoBulkAll elems + uptoBulkAll spare + 1
  | .agg parts => uptoBulkAll parts + 1
  | .iface _ d => uptoBulk d + 1
  | .map entries => uptoBulkEntries entries + 1
  | .held _ => 1
def uptoBulkAll {H : Type} : List (DataW H) → Nat
  | [] => 0
  | d :: r => uptoBulk d + uptoBulkAll r
def uptoBulkEntries {H : Type} : List (Lit × DataW H) → Nat
  | [] => 0
  | x :: r => uptoBulkEntry x + uptoBulkEntries r
def uptoBulkEntry {H : Type} : Lit × DataW H → Nat
  | (.string bytes, d) => bytes.length + uptoBulk d + 1
  | (_, d) => uptoBulk d + 1
 end
def uptoSmall : (H : Type) → List (DataW H) → Bool := fun _ ds => decide (uptoBulkAll ds ≤ 1048576)
def OpenSpec.upto (s : _root_.Go.ChangeSpec) : _root_.Go.OpenSpec := { _root_.Go.OpenSpec.ofChange s with cond := some uptoSmall }

/-- 'campanilelaw8.CellPlays', WHERE WHAT IT READS IS OF BULK AT MOST 1048576: true; the input reads as it did. -/
def cellPlaysUptoRow : OpenClaim := { program := "ytdknacbdkekfnaa", sum := "0e8125b82dc24bbdfab098a2797ff4875d07b2e7e2e9a972d0de80b514244281", func := "campanile/campanilelaw8.CellPlays", spec := "cellPlays", inPlace := ["slices.overlaps[campanile/api.Cell]"], unfollowed := true, recurses := true, apart := false, narrowed := true }
def CellPlaysUptoSaid : Prop := cellPlaysUptoRow.holds Try.pinned (OpenSpec.upto cellPlaysSpec)

/-- 'campanilelaw8.CellNil', WHERE WHAT IT READS IS OF BULK AT MOST 1048576: true; the input reads as it did. -/
def cellNilUptoRow : OpenClaim := { program := "ytdknacbdkekfnaa", sum := "0e8125b82dc24bbdfab098a2797ff4875d07b2e7e2e9a972d0de80b514244281", func := "campanile/campanilelaw8.CellNil", spec := "cellNil", inPlace := ["slices.overlaps[campanile/api.Cell]"], unfollowed := true, recurses := true, apart := false, narrowed := true }
def CellNilUptoSaid : Prop := cellNilUptoRow.holds Try.pinned (OpenSpec.upto cellNilSpec)

/-- 'campanilelaw8.CellRound', WHERE WHAT IT READS IS OF BULK AT MOST 1048576: true; the input reads as it did. -/
def cellRoundUptoRow : OpenClaim := { program := "ytdknacbdkekfnaa", sum := "0e8125b82dc24bbdfab098a2797ff4875d07b2e7e2e9a972d0de80b514244281", func := "campanile/campanilelaw8.CellRound", spec := "cellRound", inPlace := ["slices.overlaps[campanile/api.Cell]"], unfollowed := true, recurses := true, apart := false, narrowed := true }
def CellRoundUptoSaid : Prop := cellRoundUptoRow.holds Try.pinned (OpenSpec.upto cellRoundSpec)

/-- 'campanilelaw8.CellLess', WHERE WHAT IT READS IS OF BULK AT MOST 1048576: true; the input reads as it did. -/
def cellLessUptoRow : OpenClaim := { program := "ytdknacbdkekfnaa", sum := "0e8125b82dc24bbdfab098a2797ff4875d07b2e7e2e9a972d0de80b514244281", func := "campanile/campanilelaw8.CellLess", spec := "cellLess", inPlace := ["slices.overlaps[campanile/api.Cell]"], unfollowed := true, recurses := true, apart := false, narrowed := true }
def CellLessUptoSaid : Prop := cellLessUptoRow.holds Try.pinned (OpenSpec.upto cellLessSpec)

/-- 'campanilelaw8.CellApart', WHERE WHAT IT READS IS OF BULK AT MOST 1048576: true; the input reads as it did. -/
def cellApartUptoRow : OpenClaim := { program := "ytdknacbdkekfnaa", sum := "0e8125b82dc24bbdfab098a2797ff4875d07b2e7e2e9a972d0de80b514244281", func := "campanile/campanilelaw8.CellApart", spec := "cellApart", inPlace := ["slices.overlaps[campanile/api.Cell]"], unfollowed := true, recurses := true, apart := false, narrowed := true }
def CellApartUptoSaid : Prop := cellApartUptoRow.holds Try.pinned (OpenSpec.upto cellApartSpec)

/-- 'campanilelaw8.CellFrames', WHERE WHAT IT READS IS OF BULK AT MOST 1048576: true; the input reads as it did. -/
def cellFramesUptoRow : OpenClaim := { program := "ytdknacbdkekfnaa", sum := "0e8125b82dc24bbdfab098a2797ff4875d07b2e7e2e9a972d0de80b514244281", func := "campanile/campanilelaw8.CellFrames", spec := "cellFrames", inPlace := ["slices.overlaps[campanile/api.Cell]"], unfollowed := true, recurses := true, apart := false, narrowed := true }
def CellFramesUptoSaid : Prop := cellFramesUptoRow.holds Try.pinned (OpenSpec.upto cellFramesSpec)

end Rows
end Go.Proofs.Ytdknacbdkekfnaa
