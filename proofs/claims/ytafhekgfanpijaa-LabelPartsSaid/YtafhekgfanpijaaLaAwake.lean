/-
  Package label's law package: what every program must know.
-/
import Derived.Test.YtafhekgfanpijaaLaNorm
import Derived.Test.YtafhekgfanpijaaLaTurn2
import Derived.Test.YtafhekgfanpijaaExt
import Derived.Deep.Cut
import Derived.Deep.CutRange
set_option maxRecDepth 100000
namespace Go.Proofs.Ytafhekgfanpijaa.La
set_option linter.unusedVariables false
open Go.RowKit Lb Go.Shelf
set_option linter.unusedVariables false
theorem awake_any (w : World) : Calls Try.prog 9 #[] w fun r w' => r = .returned (.bool true) ∧ Below w.heap.size w w' := by
  have n1 : normB [65, 206, 178] = [97, 206, 178] := by decide
  have t1 : turnB [97, 206, 178] = [206, 178, 97] := by decide
  have s1 : sumJ (ru [97, 98]) (ru [97, 98]).length = 293 := by decide
  have m1 : mayL (ru [97, 206, 178, 49]) = true := by decide
  have N1 := Lib.hid (fun w => n1 ▸ norm_any [65, 206, 178] w (by decide))
  have T1 := Lib.hid (fun w => t1 ▸ turn_any [97, 206, 178] w (by decide))
  have S1 := Lib.hid (fun w => s1 ▸ sum_any [97, 98] w (by decide))
  have M1 := Lib.hid (fun w => m1 ▸ may_any [97, 206, 178, 49] w)
  clear n1 t1 s1 m1
  go_enter Try.func9, Try.ntmps9
  go_wp2_with (go_at_call 12; refine (N1.out _).mono ?_)
  rintro r w1 ⟨rfl, b1⟩
  go_wp2_with (go_at_call 20; refine (T1.out _).mono ?_)
  rintro r w2 ⟨rfl, b2⟩
  go_wp2_with (go_at_call 18; refine (S1.out _).mono ?_)
  rintro r w3 ⟨rfl, b3⟩
  go_wp2_with (go_at_call 10; refine (M1.out _).mono ?_)
  rintro r w4 ⟨rfl, b4⟩
  go_wp2_with fail
  go_ret
  have c2 := b1.trans (b2.mono b1.size)
  have c3 := c2.trans (b3.mono c2.size)
  exact ⟨rfl, c3.trans (b4.mono c3.size)⟩
end Go.Proofs.Ytafhekgfanpijaa.La
