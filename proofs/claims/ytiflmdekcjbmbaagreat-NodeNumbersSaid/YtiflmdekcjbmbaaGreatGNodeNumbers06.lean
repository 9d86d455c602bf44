/-
  Law NodeWaits: its last expression. Law NodeWaits: one slot that goes by.
-/
import Derived.Test.YtiflmdekcjbmbaaGreatGNodeWaits29
import Derived.Test.YtiflmdekcjbmbaaGreatGNodeWaits31
import Derived.Test.YtiflmdekcjbmbaaGreatGNodeWaits30
import Derived.Carry
set_option maxRecDepth 100000
namespace Go.Proofs.YtiflmdekcjbmbaaGreat.NodeWaits
set_option linter.unusedVariables false
set_option linter.unusedSimpArgs false
open Go.RowKit Go.ChangeShapes Go.WideShapes Go.ChangeAt Lb Nd Ie Fm
/-- It comes in time by the first beacon. -/
theorem hear_wait {c : Cfg} {i d src rank asn m : Int} {L : List Int} {b : Nat} {h : Hm} {w w' : World} {r : Ending} (hP : HearOut (waitN c i d) asn L m b h w r w') (hr : readN (waitN c i d) asn L = some (beaF src rank asn, rank)) (hl : c.loss < i) (hk : rank < 254) :
    ∃ a c9 h', r = .returned (.tuple #[.slice none 0 0, .slice a 4 c9]) ∧ Evs w' (begunE (waitN c i d) src) a c9 ∧ Nd w' b (begunN (waitN c i d) src rank asn (limM m)) h' ∧ Mv (h.ex b) (h'.ex b) w w' := by
  unfold HearOut at hP
  rw [hr] at hP
  simp only at hP
  rw [if_pos (wait_yes hl hk)] at hP
  exact hP
theorem hear_first1 {cf : Cfg} {i d : Int} {w : World} {b : Nat} {h : Hm} (n : Nd w b (waitN cf i d) h) (hf : Fit (waitN cf i d)) (src rank asn : Int) (a : Option Addr) (c : Nat) (L : List Int) (m : Int) (hlc : L.length ≤ c) (hcm : c ≤ maxLen) (h5 : L.length ≤ 100000) (hR : Row w a L.length (bval L)) (hd : okD' L)
    (hr : readN (waitN cf i d) asn L = some (beaF src rank asn, rank)) (hl : cf.loss < i) (hk : rank < 254) :
    Calls Tryz.prog 22 #[.pointer (some ⟨b, 0, none⟩), .int .i64 asn, .slice a L.length c, .int .i64 m] w fun r w' => ∃ a c9 h', r = .returned (.tuple #[.slice none 0 0, .slice a 4 c9]) ∧ Evs w' (begunE (waitN cf i d) src) a c9 ∧ Nd w' b (begunN (waitN cf i d) src rank asn (limM m)) h' ∧ Mv (h.ex b) (h'.ex b) w w' :=
  (hear_out n hf rfl asn a c L m hlc hcm h5 hR hd).mono (fun _ _ hP => hear_wait hP hr hl hk)
end Go.Proofs.YtiflmdekcjbmbaaGreat.NodeWaits
