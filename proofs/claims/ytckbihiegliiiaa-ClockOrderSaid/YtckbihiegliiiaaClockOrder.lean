/-
  Law ClockOrder: for every row of speeds a clock is off by as much in whatever order they come, and one that is always faster is never behind; the call returns true. No condition.
-/
import Derived.Test.YtckbihiegliiiaaClockLaws
set_option maxRecDepth 100000
namespace Go.Proofs.Ytckbihiegliiiaa.ClockOrder
open Go.RowKit Go.ChangeShapes Go.WideShapes Go.ChangeAt Go.Deep Lb Ck
set_option linter.unusedVariables false
theorem own : ownKnob Try.prog.godebug = none := by kernel_rfl
theorem laidOut : laidOutB Try.prog = true := by kernel_rfl

def fwd (Z : Nat → Int) : Nat → Int
  | 0 => 0
  | k + 1 => fwd Z k + lim (Z k) 100
def bwd (Z : Nat → Int) (n : Nat) : Nat → Int
  | 0 => 0
  | k + 1 => bwd Z n k + lim (Z (n - 1 - k)) 100
theorem bwd_eq (Z : Nat → Int) (n : Nat) : ∀ k, k ≤ n → bwd Z n k = fwd Z n - fwd Z (n - k)
  | 0, _ => by simp [bwd]
  | k + 1, h => by
    have e : n - k = (n - (k + 1)) + 1 := by omega
    rw [bwd, bwd_eq Z n k (by omega), e, fwd, show n - 1 - k = n - (k + 1) from by omega]
    omega
theorem bwd_all (Z : Nat → Int) (n : Nat) : bwd Z n n = fwd Z n := by
  rw [bwd_eq Z n n (Nat.le_refl _), Nat.sub_self]
  simp [fwd]

set_option maxHeartbeats 2000000 in
theorem body (a : Option Addr) (n c : Nat) (Z : Nat → Int) (f : Int) (w : World) (hn : n ≤ c) (hm : c ≤ maxLen) (hZ : Row w a n (fun i => .int .i64 (Z i))) :
    Calls Try.prog 7 #[.slice a n c, .int .i64 f] w fun e w' => e = .returned (.bool true) ∧ Below w.heap.size w w' := by
  unfold maxLen at hm
  have hf := u64_pos f
  by_cases h200 : 200 < n
  · go_enter Try.func7, Try.ntmps7
    go_wp2_with fail
    refine (awake_behind (Below.refl _ _)).mono ?_
    rintro r w9 ⟨rfl, b9⟩
    go_wp2_with fail
    go_ret
    exact ⟨rfl, b9⟩
  have hd : decide ((200 : Int) < (n : Int)) = false := by simp; omega
  have hall := Lib.hid (bwd_all Z n)
  go_enter Try.func7, Try.ntmps7
  go_wp2_with fail
  refine (new_any _).mono ?_
  rintro r w1 ⟨rfl, k1, b1, z1⟩
  go_wp2_with fail
  refine (new_any _).mono ?_
  rintro r w2 ⟨rfl, k2, b2, z2⟩
  go_wp2_with fail
  refine (new_any _).mono ?_
  rintro r w3 ⟨rfl, k3, b3, z3⟩
  have k1' := below_own b2 k1 z1
  have hb2 := b1.trans (b2.mono (Nat.le_of_lt z1))
  have k1'' := below_own b3 k1' (by omega)
  have k2' := below_own b3 k2 z2
  have hb3 := hb2.trans (b3.mono (by omega))
  obtain ⟨g, hg⟩ : ∃ g, g = w1.heap.size := ⟨_, rfl⟩
  obtain ⟨q, hq⟩ : ∃ q, q = w2.heap.size := ⟨_, rfl⟩
  rw [← hg] at k2' z1 z2 ⊢
  rw [← hq] at k3 z2 z3 ⊢
  clear hg hq k1 k1' k2 b1 b2 b3 hb2
  go_wp2_with fail
  go_loopw [18] (fun i wr => ∃ (k : Nat) (F B E : Int), i = .int .i64 k ∧ k ≤ n ∧ Hid (F = fwd Z k) ∧ Hid (B = bwd Z n k) ∧ -100 * (k : Int) ≤ F ∧ F ≤ 100 * (k : Int) ∧ -100 * (k : Int) ≤ B ∧ B ≤ 100 * (k : Int) ∧ F * 10000 ≤ E ∧ E ≤ 1000000 * (k : Int) ∧
      Clk wr w.heap.size 0 (F * 10000) k ∧ Clk wr g 0 (B * 10000) k ∧ Clk wr q 0 E k ∧ Below w.heap.size w wr ∧ q < wr.heap.size) (fun i _ => n - (intOf i).toNat)
  case atStart => exact ⟨0, 0, 0, 0, rfl, by omega, Lib.hid rfl, Lib.hid rfl, by omega, by omega, by omega, by omega, by omega, by omega, k1'', k2', k3, hb3, z3⟩
  case round =>
    obtain ⟨k, F, B, E, rfl, hk, HF, HB, hF0, hF1, hB0, hB1, hE0, hE1, ka, kb, kc, bb, zz⟩ := hrel
    by_cases hlt : k < n
    · have hck : ∃ b o, a = some ⟨b, o, none⟩ ∧ b < w.heap.size ∧ wr.cell? ⟨b, o + k, none⟩ = some (.int .i64 (Z k)) ∧ wr.cell? ⟨b, o + (n - 1 - k), none⟩ = some (.int .i64 (Z (n - 1 - k))) := by
        obtain ⟨b, o, h1, h2, h3⟩ := hZ (by omega)
        exact ⟨b, o, h1, h2, (bb.cell (p := ⟨b, o + k, none⟩) h2).trans (h3 k hlt), (bb.cell (p := ⟨b, o + (n - 1 - k), none⟩) h2).trans (h3 _ (by omega))⟩
      obtain ⟨b, o, rfl, hb, hc, hc'⟩ := hck
      have l0 := lim_low (Z k) 100 (by omega)
      have l1 := lim_high (Z k) 100
      have m0 := lim_low (Z (n - 1 - k)) 100 (by omega)
      have m1 := lim_high (Z (n - 1 - k)) 100
      have hm1 : max (-100) (min (Z k) 100) ≤ lim (Z k) 100 := by unfold lim; omega
      have hm2 : lim (Z k) 100 ≤ max (-100) (min (Z k) 100) := by unfold lim; omega
      have x0 : lim (Z k) 100 ≤ lim (max (-100) (min (Z k) 100) + IntKind.u64.wrap f % 50) 100 := by unfold lim; omega
      have x1 := lim_high (max (-100) (min (Z k) 100) + IntKind.u64.wrap f % 50) 100
      go_wp2_with fail
      refine (slot_any _ _ _ _ _ _ ka (by omega) (by omega) (by omega) (by omega)).mono ?_
      rintro r w3 ⟨rfl, a3, j3⟩
      rw [show F * 10000 + lim (Z k) 100 * 10000 = (F + lim (Z k) 100) * 10000 from by omega] at a3
      have q3 := j3.own kb (by omega)
      have c3 := j3.own kc (by omega)
      have b3 := j3.below bb (Nat.le_refl _) (by omega)
      have z3 := Nat.lt_of_lt_of_le zz j3.size
      have hc3 := (j3.block b (by omega) (by omega))
      have hc3' : w3.cell? ⟨b, o + (n - 1 - k), none⟩ = some (.int .i64 (Z (n - 1 - k))) := (World.cell?_of_block hc3).trans hc'
      have hc3'' : w3.cell? ⟨b, o + k, none⟩ = some (.int .i64 (Z k)) := (World.cell?_of_block hc3).trans hc
      clear hc3 hc hc'
      go_wp2_with fail
      refine (slot_any _ _ _ _ _ _ q3 (by omega) (by omega) (by omega) (by omega)).mono ?_
      rintro r w4 ⟨rfl, q4, j4⟩
      rw [show B * 10000 + lim (Z (n - 1 - k)) 100 * 10000 = (B + lim (Z (n - 1 - k)) 100) * 10000 from by omega] at q4
      have a4 := j4.own a3 (by omega)
      have c4 := j4.own c3 (by omega)
      have b4 := j4.below b3 (by omega) (by omega)
      have z4 := Nat.lt_of_lt_of_le z3 j4.size
      have hc4 : w4.cell? ⟨b, o + k, none⟩ = some (.int .i64 (Z k)) := (World.cell?_of_block (j4.block b (by omega) (by omega))).trans hc3''
      clear hc3' hc3''
      go_wp2_with fail
      refine (slot_any _ _ _ _ _ _ c4 (by omega) (by omega) (by omega) (by omega)).mono ?_
      rintro r w5 ⟨rfl, c5, j5⟩
      have a5 := j5.own a4 (by omega)
      have q5 := j5.own q4 (by omega)
      have b5 := j5.below b4 (by omega) (by omega)
      have z5 := Nat.lt_of_lt_of_le z4 j5.size
      have HF' : Hid (F + lim (Z k) 100 = fwd Z (k + 1)) := Lib.hid (by rw [HF.out]; rfl)
      have HB' : Hid (B + lim (Z (n - 1 - k)) 100 = bwd Z n (k + 1)) := Lib.hid (by rw [HB.out]; rfl)
      have e0 : (F + lim (Z k) 100) * 10000 ≤ E + lim (max (-100) (min (Z k) 100) + IntKind.u64.wrap f % 50) 100 * 10000 := by omega
      have e1 : E + lim (max (-100) (min (Z k) 100) + IntKind.u64.wrap f % 50) 100 * 10000 ≤ 1000000 * ((k + 1 : Nat) : Int) := by omega
      clear HF HB x0 x1 hm1 hm2
      generalize E + lim (max (-100) (min (Z k) 100) + IntKind.u64.wrap f % 50) 100 * 10000 = E' at *
      have hge : off 0 ((F + lim (Z k) 100) * 10000) ≤ off 0 E' := by unfold off; omega
      go_wp2_with fail
      refine (off_any _ _ _ _ _ c5 (by omega) (by omega) (by omega) (by omega)).mono ?_
      rintro r w' ⟨rfl, m1, rfl⟩
      go_wp2_with fail
      refine (off_any _ _ _ _ _ (Own.drewN a5 m1) (by omega) (by omega) (by omega) (by omega)).mono ?_
      rintro r w' ⟨rfl, m2, rfl⟩
      go_wp2_with fail
      exact ⟨⟨k + 1, _, _, E', by go_num, by omega, HF', HB', by omega, by omega, by omega, by omega, by omega, by omega, a5, q5, c5, below_drewN b5 _, z5⟩, by simp [intOf]; omega⟩
    · have hkn : k = n := by omega
      subst hkn
      have HE : Hid (F = B) := Lib.hid (by rw [HF.out, HB.out, hall.out])
      clear HF HB hall
      rw [HE.out] at ka hF0 hF1 hE0
      clear HE
      go_wp2_with fail
      refine (off_any _ _ _ _ _ ka (by omega) (by omega) (by omega) (by omega)).mono ?_
      rintro r w' ⟨rfl, m1, rfl⟩
      go_wp2_with fail
      refine (off_any _ _ _ _ _ (Own.drewN kb m1) (by omega) (by omega) (by omega) (by omega)).mono ?_
      rintro r w' ⟨rfl, m2, rfl⟩
      go_wp2_with fail
      refine (slots_any _ _ _ _ _ (Own.drewN ka (m1 + m2))).mono ?_
      rintro r w' ⟨rfl, rfl⟩
      go_wp2_with fail
      refine (awake_behind (below_drewN bb (m1 + m2))).mono ?_
      rintro r w9 ⟨rfl, b9⟩
      go_wp2_with fail
      go_ret
      exact ⟨rfl, b9⟩

theorem walk (H : Type) (enc : TypeId × Value → H) : Walk H enc Try.prog 7 Try.f7 := by
  intro W base args ds p hval hA
  rw [Try.params7] at hA hval
  obtain ⟨v0, v1, d0, d1, p0, p1, rfl, rfl, rfl, h0, h1⟩ := trodAll_two hA
  obtain ⟨a, n, c, Z, rfl, hn, hm, hZ, hz⟩ := open_row_int Try.underlying36 Try.underlying3 (by kernel_rfl) (hval 0 _ v0 rfl rfl) h0
  obtain ⟨f, rfl, rfl, rfl, w1⟩ := open_int Try.underlying3 (hval 1 _ v1 rfl rfl) h1
  exact body a n c Z f W hn hm hZ

set_option maxRecDepth 100000 in
theorem lifted (os : Os) (started : os.Started) (H : Type) (enc : TypeId × Value → H) :
    ReturnsInHanded {} Try.checked os 7 .any (Rows.clockOrderSpec.pre6 enc Try.prog Try.f7 Rows.clockOrderRow.domain false) (Rows.clockOrderSpec.post enc Try.prog Try.f7 false true false false) :=
  returnsInHanded_of_change (C := Try.checked) own started (by kernel_rfl) Try.func7
    (ChangeSpec.witness6 (enc := enc) (C := Try.checked) false ⟨#[], #[.slice none 0 0, .int .i64 0], []⟩ 8 (by kernel_rfl) (by kernel_rfl) (by kernel_rfl) (by kernel_rfl))
    fun W base args ds gs before hval hW _ _ => step_of_walk laidOut (by rw [Try.params7]; exact of_decide_eq_true (by kernel_rfl)) (by kernel_rfl) Try.underlying4 rfl
      (fun ds h => by
        rw [Try.params7] at h
        match ds, h with
        | [_, _], _ => rfl) (walk H enc) W base args ds gs before hval hW

theorem holds : Rows.ClockOrderSaid :=
  OpenClaim.holds_of_wide 7 Try.f7 rfl rfl rfl rfl rfl rfl rfl ⟨rfl, rfl, rfl, rfl, rfl⟩ rfl rfl rfl rfl rfl (by kernel_rfl) Try.func7 (by kernel_rfl)
    (of_decide_eq_true (by kernel_rfl)) (by unfold Func.isWrapper; first | (rw [if_pos (by decide +kernel)]; kernel_rfl) | (rw [if_neg (by decide +kernel)]; exact ⟨rfl, rfl⟩))
    (fun os started H enc _ => lifted os started H enc)
#print axioms holds
end Go.Proofs.Ytckbihiegliiiaa.ClockOrder
