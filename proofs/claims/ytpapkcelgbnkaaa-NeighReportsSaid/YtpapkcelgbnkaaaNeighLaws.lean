/-
  Layer 16: the neighbour that every program must know.
-/
import Derived.Test.YtpapkcelgbnkaaaNeighReport
set_option maxRecDepth 100000
namespace Go.Proofs.Ytpapkcelgbnkaaa.Ng
set_option linter.unusedVariables false
open Go.RowKit Lb Go.Sort

def Q2 : Nat → Int := upTo 3 (upTo 3 (fun _ => 0) 5) 5
theorem good_zero : Good (fun _ => 0) := fun _ => ⟨Int.le_refl _, by show (0 : Int) ≤ 255; decide⟩
set_option maxHeartbeats 1000000 in
theorem awake_any (w : World) :
    Calls Try.prog 10 #[] w fun r w' => r = .returned (.bool true) ∧ Below w.heap.size w w' := by
  have HP : Hid ((pairs Q2 1 16).length = 1) := Lib.hid (by decide +kernel)
  have HS : Hid (srt Q2 1 = [(5, 60)]) := Lib.hid (by decide +kernel)
  have HQ : Hid (qOf 3 Q2 5 = 60) := Lib.hid (by decide +kernel)
  go_enter Try.func10, Try.ntmps10
  go_wp2_with fail
  refine (new_yes 3 _ (by decide)).mono ?_
  rintro r w1 ⟨rfl, h1, b1, s1⟩
  go_wp2_with fail
  refine (heard_any w.heap.size _ 3 _ 5 _ h1 good_zero).mono ?_
  rintro r w2 ⟨rfl, h2, j2⟩
  have b2 := j2.below b1 (Nat.le_refl _) (Nat.le_of_lt s1)
  go_wp2_with fail
  refine (heard_any w.heap.size _ 3 _ 5 _ h2 (good_up good_zero 3 5)).mono ?_
  rintro r w3 ⟨rfl, h3, j3⟩
  have b3 := j3.below b2 (Nat.le_refl _) b2.size
  have h3 : Tb w3 w.heap.size 47 3 Q2 := h3
  go_wp2_with fail
  refine (report_any w.heap.size 3 Q2 1 9 _ h3 (good_up (good_up good_zero 3 5) 3 5) (by decide)).mono ?_
  rintro r w4 ⟨a, m, c, rfl, hm, hmc, hcm, hR, b4⟩
  rw [HP.out] at hm
  rw [HS.out] at hR
  obtain rfl : m = 1 := by omega
  have h4 := below_blk b4 h3 h3.lt
  have b4 := b3.trans (b4.mono b3.size)
  obtain ⟨g, off, rfl, hgl, hc⟩ := hR (by decide)
  have d0 : w4.cell? ⟨g, off, none⟩ = some (.int .i64 3) := hc 0 (by decide)
  have d1 : w4.cell? ⟨g, off + 1, none⟩ = some (.int .i64 5) := hc 1 (by decide)
  have d2 : w4.cell? ⟨g, off + 2, none⟩ = some (.int .i64 60) := hc 2 (by decide)
  clear hR hc hm
  go_wp2_with fail
  refine (quality_any w.heap.size _ 3 Q2 5 _ h4).mono ?_
  rintro r w' ⟨rfl, rfl⟩
  rw [HQ.out]
  go_wp2_with fail
  go_ret
  exact ⟨rfl, b4⟩
end Go.Proofs.Ytpapkcelgbnkaaa.Ng
