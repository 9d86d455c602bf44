/-
  Package bits (chapter 3): a reader's Text at whole bytes: a row of its own.
-/
import Derived.Test.YtphiohdhgkpgnaaBfRdJ
import Derived.Test.YtphiohdhgkpgnaaSlK
import Derived.Test.YtphiohdhgkpgnaaBlk
import Derived.Test.YtphiohdhgkpgnaaMid
import Derived.Laws.MakeOwn
import Derived.Deep.RegionLaw
import Derived.Deep.Cut
import Derived.Deep.CutRange
set_option maxRecDepth 100000
namespace Go.Proofs.Ytphiohdhgkpgnaa.Bf
set_option linter.unusedVariables false
open Go.RowKit Lb Go.Shelf

end Go.Proofs.Ytphiohdhgkpgnaa.Bf
