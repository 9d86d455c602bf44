/-
  Law ParentsFall: whatever is called, the own rank never rises, all whom the node may follow are of lesser ranks, by rank, at most three, the first one ahead; the call returns true. No condition.
-/
import Derived.Test.YtjboilkbcajkcaaPaCalls
set_option maxRecDepth 100000
namespace Go.Proofs.Ytjboilkbcajkcaa.ParentsFall
set_option linter.unusedVariables false
open Go.RowKit Go.ChangeShapes Go.WideShapes Go.ChangeAt Go.Deep Lb Pa
set_option linter.unusedVariables false
theorem own : ownKnob Try.prog.godebug = none := by kernel_rfl
theorem laidOut : laidOutB Try.prog = true := by kernel_rfl
/-- At the head of the inner loop: what was seen last is no greater than what comes. -/
def Upto (l : List P) (k : Nat) (b : Int) : Prop := b < 0 ∨ ∃ j, j < k ∧ b = (at_ l j).r
theorem upto_le {l : List P} {k : Nat} {b : Int} (h : Upto l k b) (hs : Srt l) (hk : k < l.length) (h0 : 0 ≤ (at_ l k).r) : b ≤ (at_ l k).r := by
  rcases h with h | ⟨j, hj, rfl⟩
  · omega
  · exact srt_rank hs (by omega) hk

def Nice (w3 : World) (b : Nat) (M q : Int) (w : World) : Prop := ∃ q2 l2 v3, q2 ≤ q ∧ Hid (Inv M q2 l2) ∧ St w3 b b M q2 l2 v3 ∧ Below b w w3
set_option maxHeartbeats 4000000 in
theorem body (me rk : Int) (a : Option Addr) (n c : Nat) (V : Nat → Value) (C : Nat → Cl) (w : World) (hn : n ≤ c) (hc : c ≤ maxLen) (hV : Row w a (n * 5) V)
    (hC : ∀ i, i < n → V (i * 5) = .bool (C i).old ∧ V (i * 5 + 1) = .int .i64 (C i).n ∧ V (i * 5 + 2) = .int .i64 (C i).r ∧ V (i * 5 + 3) = .int .i64 (C i).now ∧ V (i * 5 + 4) = .int .i64 (C i).loss ∧ (C i).ok) :
    Calls Try.prog 5 #[.int .i64 me, .int .i64 rk, .slice a n c] w fun q w' => q = .returned (.bool true) ∧ Below w.heap.size w w' := by
  have hcap : (n : Int) ≤ 9223372036854775807 := by unfold maxLen at hc; omega
  obtain ⟨M, hM⟩ : ∃ A, me % 18446744073709551616 % 16 = A := ⟨_, rfl⟩
  obtain ⟨R, hR⟩ : ∃ B, rk % 18446744073709551616 % 256 = B := ⟨_, rfl⟩
  have ha : 0 ≤ M ∧ M ≤ 15 := by omega
  have hb : 0 ≤ R ∧ R ≤ 255 := by omega
  have tm : ∀ x m : Int, (IntKind.u64.wrap x).tmod m = (x % 18446744073709551616) % m := fun x m => by rw [IntKind.wrap_u64, Int.tmod_eq_emod_of_nonneg (Int.emod_nonneg _ (by decide))]
  have HA := Lib.hid (show wrap64 ((IntKind.u64.wrap me).tmod 16) = M by rw [tm, hM, IntWalk.wrap64_in _ ⟨by omega, by omega⟩])
  have HB := Lib.hid (show wrap64 ((IntKind.u64.wrap rk).tmod 256) = R by rw [tm, hR, IntWalk.wrap64_in _ ⟨by omega, by omega⟩])
  have HC := Lib.hid hC
  clear hM hR tm hC
  go_enter Try.func5, Try.ntmps5
  go_wp2_with fail
  rw [HA.out, HB.out]
  clear HA HB
  refine (new_yes M R _ (by simp [ndB]; omega) (by simp [rkB]; omega)).mono ?_
  rintro r w1 ⟨rfl, t1, b1⟩
  have i1 : Hid (Inv M R []) := Lib.hid ⟨hb, by simp, fun x h => by simp at h, fun x h => by simp at h, by simp, fun x h => by simp at h⟩
  go_wp2_with fail
  go_loopw [35, 8] (fun i last wr => ∃ (k : Nat) (q : Int) (l : List P) (v : Value), i = .int .i64 k ∧ last = .int .i64 q ∧ k ≤ n ∧ k ≤ 300 ∧ Hid (Inv M q l) ∧ St wr w.heap.size w.heap.size M q l v ∧ Below w.heap.size w wr) (fun i _ _ => n - (intOf i).toNat)
  case atStart => exact ⟨0, R, [], _, rfl, rfl, by omega, by omega, i1, t1, b1⟩
  case round =>
    clear t1 b1 i1 hb
    obtain ⟨k, q, l, v, rfl, rfl, hk, hk3, hI, t, bb⟩ := hrel
    by_cases hlt : k < n ∧ k < 300
    · obtain ⟨hlt, h300⟩ := hlt
      have e300 : decide ((300 : Int) ≤ (k : Int)) = false := by simp; omega
      obtain ⟨bo, off, rfl, hbo, c0, c1, c2, c3, c4⟩ := calls_at hV HC.out bb hlt
      have hok := (HC.out k hlt).2.2.2.2.2
      generalize C k = cl at *
      obtain ⟨old, nn, rr, now, loss⟩ := cl
      have bx := bb.alloc bb.size (.cells #[.bool old, .int .i64 nn, .int .i64 rr, .int .i64 now, .int .i64 loss] 29)
      have t2 := t.below ((Below.refl _ _).alloc (Nat.le_refl _) (.cells #[.bool old, .int .i64 nn, .int .i64 rr, .int .i64 now, .int .i64 loss] 29))
      clear t bb hbo
      have step : ∀ w3 : World, ∀ q2 l2 v3, q2 ≤ q → Hid (Inv M q2 l2) → St w3 w.heap.size w.heap.size M q2 l2 v3 → Below w.heap.size w w3 → Nice w3 w.heap.size M q w := fun w3 q2 l2 v3 h1 h2 h3 h4 => ⟨q2, l2, v3, h1, h2, h3, h4⟩
      cases old
      · go_wp2_with fail
        refine (hear_any w.heap.size w.heap.size M q l v ⟨nn, rr, now⟩ _ t2 (by have := hI.out.three; omega) hI.out.lo).mono ?_
        rintro r w3 ⟨rfl, v3, t3, j3⟩
        have hz := step w3 _ _ _ (hearR_le M q l ⟨nn, rr, now⟩) (Lib.hid (hI.out.hear ⟨nn, rr, now⟩)) t3 (bx.trans (j3.old t2))
        clear t3 j3 t2 bx step
        obtain ⟨q2, l2, v4, hle, hI2, t4, b4⟩ := hz
        go_wp2_with fail
        refine (all_any _ _ M q2 l2 v4 w3 t4).mono ?_
        rintro r w5 ⟨A5, c5, rfl, hc5, hd5, hR5, b5⟩
        have t5 := t4.below b5
        have b6 := b4.trans (b5.mono b4.size)
        have h3 := hI2.out.three
        obtain ⟨m, hm⟩ : ∃ m, l2.length = m := ⟨_, rfl⟩
        have HM := Lib.hid hm
        rw [hm] at hc5 hR5 h3 ⊢
        have g1 : decide (q < q2) = false := by simp; omega
        have g2 : decide (3 < m) = false := by simp; omega
        have g3 : decide ((3 : Int) < (m : Int)) = false := by simp; omega
        clear hm t4 b4
        go_wp2_with fail
        refine (rnk_any _ _ M q2 l2 v4 w5 t5).mono ?_
        rintro r w' ⟨rfl, rfl⟩
        go_wp2_with fail
        refine (rnk_any _ _ M q2 l2 v4 w5 t5).mono ?_
        rintro r w' ⟨rfl, rfl⟩
        have hU : Hid (Upto l2 0 (-1)) := Lib.hid (.inl (by omega))
        clear g1 g2 g3
        go_wp2_with fail
        go_loopw [73, 12] (fun i bf wr => ∃ (j : Nat) (z : Int), i = .int .i64 j ∧ bf = .int .i64 z ∧ j ≤ m ∧ Hid (Upto l2 j z) ∧ St wr w.heap.size w.heap.size M q2 l2 v4 ∧ Below w5.heap.size w5 wr) (fun i _ _ => m - (intOf i).toNat)
        case atStart => exact ⟨0, -1, rfl, rfl, by omega, hU, t5, Below.refl _ _⟩
        case round =>
          clear t5 hU
          obtain ⟨j, z, rfl, rfl, hj, hU, t6, b7⟩ := hrel
          by_cases hjm : j < m
          · obtain ⟨bo, off, rfl, hbo, cj⟩ := hR5.at_old b7 hjm
            have hlen : j < l2.length := by rw [HM.out]; exact hjm
            have HRK := Lib.hid (hI2.out.rank hlen)
            have hfs : Hid (fstN l2 = (at_ l2 0).n) := Lib.hid (by unfold fstN; rw [if_neg (by omega)])
            have hps : decide (0 < l2.length) = true := by simp; omega
            have h0 := hI2.out.pos _ (at_mem hlen)
            have h1 := hI2.out.below _ (at_mem hlen)
            have h2 := hI2.out.other _ (at_mem hlen)
            have h4 := upto_le hU.out t6.srt hlen h0
            have hU2 : Hid (Upto l2 (j + 1) (at_ l2 j).r) := Lib.hid (.inr ⟨j, by omega, rfl⟩)
            have hf : Hid (j = 0 → (at_ l2 0).n = (at_ l2 j).n) := Lib.hid (fun h => by rw [h])
            unfold nov at cj
            generalize (at_ l2 j).n = y at *
            generalize (at_ l2 j).r = x at *
            generalize (at_ l2 0).n = f at *
            go_wp2_with fail
            refine (rko_any _ _ M q2 l2 v4 y _ t6).mono ?_
            rintro r w7 ⟨rfl, b8⟩
            rw [HRK.out]
            have t7 := t6.below b8
            have b9 := b7.trans (b8.mono b7.size)
            clear t6 b8 cj
            go_wp2_with fail
            refine (fst_any _ _ M q2 l2 v4 _ t7).mono ?_
            rintro r w' ⟨rfl, rfl⟩
            rw [hfs.out, hps]
            have g1 : decide (q2 ≤ x) = false := by simp; omega
            have g2 : decide (x < z) = false := by simp; omega
            have g3 : (y == M) = false := by simpa using h2
            clear hps h0 h1 h2 h4 HRK hfs
            by_cases hj0 : j = 0
            · have g4 : ((j : Int) == 0) = true := by simp; omega
              have g5 : (f != y) = false := by simpa using hf.out hj0
              clear hj0
              go_wp2_with fail
              exact ⟨⟨j + 1, x, by simp, rfl, by omega, hU2, t7, b9⟩, by simp [intOf]; omega⟩
            · have g4 : ((j : Int) == 0) = false := by simp; omega
              clear hj0
              go_wp2_with fail
              exact ⟨⟨j + 1, x, by simp, rfl, by omega, hU2, t7, b9⟩, by simp [intOf]; omega⟩
          · obtain rfl : m = j := by omega
            have b10 := b6.trans (b7.mono b6.size)
            clear HM
            go_wp2_with fail
            exact ⟨⟨k + 1, q2, l2, v4, by simp [intOf], rfl, by omega, by omega, hI2, t6, b10⟩, by simp [intOf]; omega⟩
      · go_wp2_with fail
        refine (go_any w.heap.size w.heap.size M q ⟨true, nn, rr, now, loss⟩ l v _ t2 hok).mono ?_
        rintro r w3 ⟨gv, v3, rfl, m3, t3, j3⟩
        have hz := step w3 _ _ _ (Int.le_refl _) (Lib.hid (hI.out.old ⟨true, nn, rr, now, loss⟩)) t3 (bx.trans (j3.old t2))
        clear t3 j3 t2 bx step
        obtain ⟨q2, l2, v4, hle, hI2, t4, b4⟩ := hz
        go_wp2_with fail
        refine (all_any _ _ M q2 l2 v4 w3 t4).mono ?_
        rintro r w5 ⟨A5, c5, rfl, hc5, hd5, hR5, b5⟩
        have t5 := t4.below b5
        have b6 := b4.trans (b5.mono b4.size)
        have h3 := hI2.out.three
        obtain ⟨m, hm⟩ : ∃ m, l2.length = m := ⟨_, rfl⟩
        have HM := Lib.hid hm
        rw [hm] at hc5 hR5 h3 ⊢
        have g1 : decide (q < q2) = false := by simp; omega
        have g2 : decide (3 < m) = false := by simp; omega
        have g3 : decide ((3 : Int) < (m : Int)) = false := by simp; omega
        clear hm t4 b4
        go_wp2_with fail
        refine (rnk_any _ _ M q2 l2 v4 w5 t5).mono ?_
        rintro r w' ⟨rfl, rfl⟩
        go_wp2_with fail
        refine (rnk_any _ _ M q2 l2 v4 w5 t5).mono ?_
        rintro r w' ⟨rfl, rfl⟩
        have hU : Hid (Upto l2 0 (-1)) := Lib.hid (.inl (by omega))
        clear g1 g2 g3
        go_wp2_with fail
        go_loopw [73, 12] (fun i bf wr => ∃ (j : Nat) (z : Int), i = .int .i64 j ∧ bf = .int .i64 z ∧ j ≤ m ∧ Hid (Upto l2 j z) ∧ St wr w.heap.size w.heap.size M q2 l2 v4 ∧ Below w5.heap.size w5 wr) (fun i _ _ => m - (intOf i).toNat)
        case atStart => exact ⟨0, -1, rfl, rfl, by omega, hU, t5, Below.refl _ _⟩
        case round =>
          clear t5 hU
          obtain ⟨j, z, rfl, rfl, hj, hU, t6, b7⟩ := hrel
          by_cases hjm : j < m
          · obtain ⟨bo, off, rfl, hbo, cj⟩ := hR5.at_old b7 hjm
            have hlen : j < l2.length := by rw [HM.out]; exact hjm
            have HRK := Lib.hid (hI2.out.rank hlen)
            have hfs : Hid (fstN l2 = (at_ l2 0).n) := Lib.hid (by unfold fstN; rw [if_neg (by omega)])
            have hps : decide (0 < l2.length) = true := by simp; omega
            have h0 := hI2.out.pos _ (at_mem hlen)
            have h1 := hI2.out.below _ (at_mem hlen)
            have h2 := hI2.out.other _ (at_mem hlen)
            have h4 := upto_le hU.out t6.srt hlen h0
            have hU2 : Hid (Upto l2 (j + 1) (at_ l2 j).r) := Lib.hid (.inr ⟨j, by omega, rfl⟩)
            have hf : Hid (j = 0 → (at_ l2 0).n = (at_ l2 j).n) := Lib.hid (fun h => by rw [h])
            unfold nov at cj
            generalize (at_ l2 j).n = y at *
            generalize (at_ l2 j).r = x at *
            generalize (at_ l2 0).n = f at *
            go_wp2_with fail
            refine (rko_any _ _ M q2 l2 v4 y _ t6).mono ?_
            rintro r w7 ⟨rfl, b8⟩
            rw [HRK.out]
            have t7 := t6.below b8
            have b9 := b7.trans (b8.mono b7.size)
            clear t6 b8 cj
            go_wp2_with fail
            refine (fst_any _ _ M q2 l2 v4 _ t7).mono ?_
            rintro r w' ⟨rfl, rfl⟩
            rw [hfs.out, hps]
            have g1 : decide (q2 ≤ x) = false := by simp; omega
            have g2 : decide (x < z) = false := by simp; omega
            have g3 : (y == M) = false := by simpa using h2
            clear hps h0 h1 h2 h4 HRK hfs
            by_cases hj0 : j = 0
            · have g4 : ((j : Int) == 0) = true := by simp; omega
              have g5 : (f != y) = false := by simpa using hf.out hj0
              clear hj0
              go_wp2_with fail
              exact ⟨⟨j + 1, x, by simp, rfl, by omega, hU2, t7, b9⟩, by simp [intOf]; omega⟩
            · have g4 : ((j : Int) == 0) = false := by simp; omega
              clear hj0
              go_wp2_with fail
              exact ⟨⟨j + 1, x, by simp, rfl, by omega, hU2, t7, b9⟩, by simp [intOf]; omega⟩
          · obtain rfl : m = j := by omega
            have b10 := b6.trans (b7.mono b6.size)
            clear HM
            go_wp2_with fail
            exact ⟨⟨k + 1, q2, l2, v4, by simp [intOf], rfl, by omega, by omega, hI2, t6, b10⟩, by simp [intOf]; omega⟩
    · have hkk : k = n ∨ k = 300 := by omega
      by_cases hlt2 : k < n
      · have e300 : decide ((300 : Int) ≤ (k : Int)) = true := by simp; omega
        obtain ⟨bo, off, rfl, hbo, c0, c1, c2, c3, c4⟩ := calls_at hV HC.out bb hlt2
        generalize C k = cl at *
        obtain ⟨old, nn, rr, now, loss⟩ := cl
        have bx := bb.alloc bb.size (.cells #[.bool old, .int .i64 nn, .int .i64 rr, .int .i64 now, .int .i64 loss] 29)
        clear hkk
        go_wp2_with fail
        refine (awake_any _).mono ?_
        rintro r w9 ⟨rfl, b9⟩
        go_wp2_with fail
        go_ret
        exact ⟨rfl, bx.trans (b9.mono bx.size)⟩
      · obtain rfl : n = k := by omega
        clear hkk
        go_wp2_with fail
        refine (awake_any _).mono ?_
        rintro r w9 ⟨rfl, b9⟩
        go_wp2_with fail
        go_ret
        exact ⟨rfl, bb.trans (b9.mono bb.size)⟩

theorem walk (H : Type) (enc : TypeId × Value → H) : Walk H enc Try.prog 5 Try.f5 := by
  intro W base args ds p hval hA
  rw [Try.params5] at hA hval
  obtain ⟨v0, v1, v2, d0, d1, d2, p0, p1, p2, rfl, rfl, rfl, h0, h1, h2⟩ := trodAll_three hA
  obtain ⟨a, rfl, rfl, rfl, _⟩ := open_int Try.underlying3 (hval 0 _ v0 rfl rfl) h0
  obtain ⟨b, rfl, rfl, rfl, _⟩ := open_int Try.underlying3 (hval 1 _ v1 rfl rfl) h1
  obtain ⟨A, n, c, V, C, rfl, hn, hc, hV, hC⟩ := open_calls (hval 2 _ v2 rfl rfl) h2
  exact body a b A n c V C W hn hc hV hC

set_option maxRecDepth 100000 in
theorem lifted (os : Os) (started : os.Started) (H : Type) (enc : TypeId × Value → H) :
    ReturnsInHanded {} Try.checked os 5 .any (Rows.parentsFallSpec.pre6 enc Try.prog Try.f5 Rows.parentsFallRow.domain false) (Rows.parentsFallSpec.post enc Try.prog Try.f5 false true false false) :=
  returnsInHanded_of_change (C := Try.checked) own started (by kernel_rfl) Try.func5
    (ChangeSpec.witness6 (enc := enc) (C := Try.checked) false ⟨#[], #[.int .i64 0, .int .i64 0, .slice none 0 0], []⟩ 8 (by kernel_rfl) (by kernel_rfl) (by kernel_rfl) (by kernel_rfl))
    fun W base args ds gs before hval hW _ _ => step_of_walk laidOut (by rw [Try.params5]; exact of_decide_eq_true (by kernel_rfl)) (by kernel_rfl) Try.underlying4 rfl
      (fun ds h => by
        rw [Try.params5] at h
        match ds, h with
        | [_, _, _], _ => rfl) (walk H enc) W base args ds gs before hval hW

theorem holds : Rows.ParentsFallSaid :=
  OpenClaim.holds_of_wide 5 Try.f5 rfl rfl rfl rfl rfl rfl rfl ⟨rfl, rfl, rfl, rfl, rfl⟩ rfl rfl rfl rfl rfl (by kernel_rfl) Try.func5 (by kernel_rfl)
    (of_decide_eq_true (by kernel_rfl)) (by unfold Func.isWrapper; first | (rw [if_pos (by decide +kernel)]; kernel_rfl) | (rw [if_neg (by decide +kernel)]; exact ⟨rfl, rfl⟩))
    (fun os started H enc _ => lifted os started H enc)
#print axioms holds
end Go.Proofs.Ytjboilkbcajkcaa.ParentsFall
