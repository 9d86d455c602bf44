/-
  Law QueueOrder: what goes in comes out, in order, once; what finds no room is counted, and changes nothing; the call returns true. No condition.
-/
import Derived.Test.YtmabdegabeopbaaQueueTo
import Derived.Deep.Slices
set_option maxRecDepth 100000
namespace Go.Proofs.Ytmabdegabeopbaa.QueueOrder
set_option linter.unusedVariables false
open Go.RowKit Go.ChangeShapes Go.WideShapes Go.ChangeAt Go.Deep Lb Qu
set_option linter.unusedVariables false
theorem own : ownKnob Try.prog.godebug = none := by kernel_rfl
theorem laidOut : laidOutB Try.prog = true := by kernel_rfl
section
variable {H : Type} {enc : TypeId × Value → H} {P : Program} {w : World}
theorem open_cell_bytes {t e : TypeId} {v : Value} {y : DataW H × List MemPlace} {f : Nat} (ht : P.underlying t = some (.slice e)) (he : P.underlying e = some (.int .u8)) (hc : P.cellsOf e = 1) (hf : DataW.trod enc P w 0 (fun _ => true) true f t [v] = some y) :
    ∃ a n c, ∃ Z : Nat → Int, v = .slice a n c ∧ n ≤ c ∧ c ≤ maxLen ∧ Row w a n (fun i => .int .u8 (Z i)) ∧ (a = none → n = 0) := by
  obtain ⟨d, p⟩ := y
  rcases open_slice1 ht hc hf with ⟨hcs, _⟩ | ⟨x, l, c, m, n, V, D, Pl, hcs, _, hl, hm, hmm, _, hx⟩
  · simp at hcs
    subst hcs
    exact ⟨none, 0, 0, fun _ => 0, rfl, Nat.le_refl _, Nat.zero_le _, Row.nil _ _ _, fun _ => rfl⟩
  · simp at hcs
    subst hcs
    simp only [if_true] at hmm
    subst hmm
    obtain ⟨Z, hZ⟩ := choose_fn (n := l) (q := fun i z => V i = .int .u8 z) (0 : Int) (fun i hi => by
      obtain ⟨z, hz, _⟩ := DataW.trod_int he (hx i (by omega)).2
      exact ⟨z, by simpa using hz⟩)
    obtain ⟨b, off, spot⟩ := x
    refine ⟨_, _, _, Z, rfl, hl, hm, fun hn => ?_, fun e => by cases e⟩
    have h0 := (hx 0 (by omega)).1
    have hspot : spot = none := by simpa [Addr.add] using World.cell?_spot h0
    subst hspot
    refine ⟨b, off, rfl, ?_, fun i hi => ?_⟩
    · simpa [Addr.add] using lt_of_cell h0
    · have := (hx i (by omega)).1
      rw [hZ i hi] at this
      unfold Addr.add at this
      split at this
      · rename_i hi0
        subst hi0
        exact this
      · exact this
end
/-- A text that came in: where it lies, how long it is, its bytes. -/
structure Tx where
  a : Option Addr
  n : Nat
  c : Nat
  Z : Nat → Int
def Tx.ok (w : World) (x : Tx) : Prop := x.n ≤ x.c ∧ x.c ≤ maxLen ∧ Row w x.a x.n (fun i => .int .u8 (x.Z i)) ∧ (x.a = none → x.n = 0)
/-- L is the texts i, i + 1, .. -/
def Is (X : Nat → Tx) (i : Nat) (L : List It) : Prop := ∀ j, j < L.length → (L.getD j default).to = ((i + j : Nat) : Int) ∧ (L.getD j default).n = (X (i + j)).n ∧ (L.getD j default).Z = (X (i + j)).Z
theorem is_snoc {X : Nat → Tx} {L : List It} (h : Is X 0 L) (u : Value) : Is X 0 (L ++ [⟨(L.length : Int), u, (X L.length).n, (X L.length).Z⟩]) := by
  intro j hj
  rw [List.length_append] at hj
  by_cases h1 : j < L.length
  · have := h j h1
    rw [List.getD_eq_getElem?_getD, List.getElem?_append_left h1, ← List.getD_eq_getElem?_getD]
    exact this
  · obtain rfl : j = L.length := by simp at hj; omega
    rw [List.getD_eq_getElem?_getD, List.getElem?_append_right (Nat.le_refl _)]
    simp
theorem is_tail {X : Nat → Tx} {i : Nat} {L : List It} (h : Is X i L) : Is X (i + 1) (L.eraseIdx 0) := by
  intro j hj
  have hl : (L.eraseIdx 0).length = L.length - 1 := by
    cases L <;> simp
  rw [hl] at hj
  have := h (j + 1) (by omega)
  have e : (L.eraseIdx 0).getD j default = L.getD (j + 1) default := by
    rw [List.getD_eq_getElem?_getD, List.getD_eq_getElem?_getD, List.getElem?_eraseIdx, if_neg (by omega)]
  rw [e, show i + 1 + j = i + (j + 1) by omega]
  exact this

set_option maxHeartbeats 8000000 in
theorem body (x : Int) (a : Option Addr) (n c : Nat) (V : Nat → Value) (X : Nat → Tx) (w : World) (hn : n ≤ c) (hc : c ≤ maxLen) (hV : Row w a n V)
    (hX : ∀ i, i < n → V i = .slice (X i).a (X i).n (X i).c ∧ (X i).ok w) :
    Calls Try.prog 5 #[.int .i64 x, .slice a n c] w fun r w' => r = .returned (.bool true) ∧ Below w.heap.size w w' := by
  have HX := Lib.hid hX
  have hcap : (n : Int) ≤ 9223372036854775807 := by unfold maxLen at hc; omega
  have ux := u64_pos x
  clear hX
  go_enter Try.func5, Try.ntmps5
  go_wp2_with fail
  have hp : 1 ≤ 1 + IntKind.u64.wrap x % 32 ∧ 1 + IntKind.u64.wrap x % 32 ≤ 32 := by omega
  generalize 1 + IntKind.u64.wrap x % 32 = P at *
  obtain ⟨M, rfl⟩ := Int.eq_ofNat_of_zero_le (show 0 ≤ P by omega)
  have hM1 : 1 ≤ M := by omega
  have hM2 : M ≤ 32 := by omega
  clear hp ux
  refine (new_any M _).mono ?_
  rintro r w1 ⟨rfl, h1, b1, s1⟩
  rw [show min (max (M : Int) 1) 32 = (M : Int) by omega] at h1
  by_cases h100 : 100 < n
  · have g1 : (100 : Int) < (n : Int) := by omega
    go_wp2_with fail
    refine (awake_any _).mono ?_
    rintro r w9 ⟨rfl, b9⟩
    have bb := b1.trans (b9.mono b1.size)
    go_wp2_with fail
    go_ret
    exact ⟨rfl, bb⟩
  · have g1 : decide ((100 : Int) < (n : Int)) = false := by simp; omega
    have hn100 : n ≤ 100 := by omega
    clear h100
    go_wp2_with fail
    go_loopw [28] (fun i wr => ∃ (k : Nat) (L : List It) (v : Value), i = .int .i64 k ∧ k ≤ n ∧ L.length = min k M ∧ Hid (Is X 0 L) ∧ Que wr w.heap.size w.heap.size M ((k : Int) - (min k M : Nat)) L v ∧ Below w.heap.size w wr) (fun i _ => n - (intOf i).toNat)
    case atStart => exact ⟨0, [], _, rfl, by omega, by simp, Lib.hid (fun j hj => by simp at hj), by simpa using h1, b1⟩
    case round =>
      clear h1 b1 s1
      obtain ⟨k, L, v, rfl, hk, hL, hI, h1, bb⟩ := hrel
      have HL := Lib.hid hL
      have hLM : L.length ≤ 32 := by omega
      clear hL
      by_cases hlt : k < n
      · obtain ⟨bo, off, rfl, hbo, c0⟩ := hV.at_old bb hlt
        obtain ⟨e0, x1, x2, x3, x4⟩ := HX.out k hlt
        rw [e0] at c0
        have x3 := x3.below bb
        unfold maxLen at x2
        by_cases h200 : 200 < (X k).n
        · have g2 : (200 : Int) < ((X k).n : Int) := by omega
          go_wp2_with fail
          refine (awake_any _).mono ?_
          rintro r w9 ⟨rfl, b9⟩
          have bb := bb.trans (b9.mono bb.size)
          go_wp2_with fail
          go_ret
          exact ⟨rfl, bb⟩
        · have g2 : decide ((200 : Int) < ((X k).n : Int)) = false := by simp; omega
          by_cases hkM : k < M
          · have hLk : L.length = k := by rw [HL.out]; omega
            have HLk := Lib.hid hLk
            have g3 : decide ((k : Int) < (M : Int)) = true := by simp; omega
            have g3' : decide (k < M) = true := by simp; omega
            have hmin : ((k : Int) - (min k M : Nat)) = 0 := by omega
            rw [hmin] at h1
            have hIn := is_snoc hI.out
            have hput := fun wz h b0 => put_room w.heap.size w.heap.size M 0 L v k (X k).a (X k).n (X k).c (X k).Z wz h (by rw [hLk]; omega) (by omega) x1 (by omega) b0 x4
            have HP := Lib.hid hput
            clear hput hmin hkM h200 hLk
            go_wp2_with fail
            refine (HP.out _ h1 x3).mono ?_
            rintro r w2 ⟨rfl, v', u, h2, b2⟩
            have b2 := bb.trans b2
            clear h1
            go_wp2_with fail
            refine ⟨⟨k + 1, L ++ [⟨(k : Int), u, (X k).n, (X k).Z⟩], v', by simp [intOf], by omega, ?_, ?_, ?_, b2⟩, by simp [intOf]; omega⟩
            · rw [List.length_append, HLk.out]; simp; have := g3'; simp at this; omega
            · have := hIn u; rw [HLk.out] at this; exact Lib.hid this
            · have e : (((k + 1 : Nat) : Int) - (min (k + 1) M : Nat)) = 0 := by simp at g3'; omega
              rw [e]; exact h2
          · have hLk : L.length = M := by rw [HL.out]; omega
            have g3 : decide ((k : Int) < (M : Int)) = false := by simp; omega
            have g3' : decide (k < M) = false := by simp; omega
            have hput := fun wz h => put_full w.heap.size w.heap.size M ((k : Int) - (min k M : Nat)) L v k (.slice (X k).a (X k).n (X k).c) wz h (by rw [hLk]; omega) (by omega) (by omega)
            have HP := Lib.hid hput
            have HE : Hid (min ((k : Int) - (min k M : Nat) + 1) 1000000 = (((k + 1 : Nat) : Int) - (min (k + 1) M : Nat))) := Lib.hid (by omega)
            have HL2 : Hid (L.length = min (k + 1) M) := Lib.hid (by rw [hLk]; omega)
            clear hput hkM h200 hLk
            go_wp2_with fail
            refine (HP.out _ h1).mono ?_
            rintro r w2 ⟨rfl, h2, j2⟩
            rw [HE.out] at h2
            have b2 := j2.below bb (Nat.le_refl _) bb.size
            clear h1
            go_wp2_with fail
            exact ⟨⟨k + 1, L, v, by simp [intOf], by omega, HL2.out, hI, h2, b2⟩, by simp [intOf]; omega⟩
      · have hkn : k = n := by omega
        have HKN := Lib.hid hkn
        have g4 : decide ((k : Int) < (n : Int)) = false := by simp; omega
        have g4' : decide (k < n) = false := by simp; omega
        rw [hkn] at h1
        obtain ⟨K, hK⟩ : ∃ K : Nat, K = min n M := ⟨_, rfl⟩
        have hLK : L.length = K := by rw [HL.out, hkn, hK]
        have eK : min (M : Int) (n : Int) = (K : Int) := by omega
        rw [← hK] at h1
        have HLK := Lib.hid hLK
        have hK32 : K ≤ 32 := by omega
        have hKn : K ≤ n := by omega
        clear hkn hlt hk hLK hK
        go_wp2_with fail
        refine (len_any w.heap.size w.heap.size _ _ L v _ h1).mono ?_
        rintro r w' ⟨rfl, rfl⟩
        rw [HLK.out]
        go_wp2_with fail
        refine (lost_any w.heap.size w.heap.size _ _ L v _ h1).mono ?_
        rintro r w' ⟨rfl, rfl⟩
        go_wp2_with fail
        go_loopw [64] (fun i wr => ∃ (j : Nat) (L : List It) (v : Value), i = .int .i64 j ∧ j ≤ K ∧ L.length = K - j ∧ Hid (Is X j L) ∧ Que wr w.heap.size w.heap.size M ((n : Int) - (K : Nat)) L v ∧ Below w.heap.size w wr) (fun i _ => K - (intOf i).toNat)
        case atStart => exact ⟨0, L, v, rfl, by omega, by rw [HLK.out]; rfl, hI, h1, bb⟩
        case round =>
          clear h1 bb HLK hI hLM HL
          rename_i w5 _
          obtain ⟨j, L, v, rfl, hj, hL, hI, h1, bb⟩ := hrel
          have HL := Lib.hid hL
          have hLM : L.length ≤ 32 := by omega
          by_cases hjt : j < K
          · have hL0 : 0 < L.length := by omega
            obtain ⟨i0, i1, i2⟩ := hI.out 0 hL0
            rw [Nat.add_zero] at i0 i1 i2
            have HI2 := Lib.hid (is_tail hI.out)
            have HLT : Hid ((L.eraseIdx 0).length = K - (j + 1)) := Lib.hid (by
              rw [List.length_eraseIdx, if_pos hL0]
              omega)
            have g5 : (((L.length : Nat) : Int) != (K : Int) - (j : Int)) = false := by simp; omega
            have HI0 := Lib.hid i0
            have HI1 := Lib.hid i1
            have HI2' := Lib.hid i2
            have hjn : j < n := by omega
            clear hL i0 i1 i2
            go_wp2_with fail
            refine (to_any w.heap.size w.heap.size _ _ L v _ h1 (by omega)).mono ?_
            rintro r w6 ⟨a6, c6, rfl, hc6, hd6, hR6, b6⟩
            have h6 := h1.below b6
            have b6 := bb.trans (b6.mono bb.size)
            obtain ⟨p6, o6, rfl, _, q60⟩ := hR6.at_ hL0
            rw [Nat.add_zero] at q60
            have q6 : w6.cell? ⟨p6, o6, none⟩ = some (.int .i64 (j : Int)) := by rw [q60]; unfold tov; rw [HI0.out]
            clear q60
            unfold maxLen at hd6
            clear h1 bb hR6
            go_wp2_with fail
            refine (take_yes w.heap.size w.heap.size _ _ L v 0 _ h6 hL0 (by omega)).mono ?_
            rintro r w8 ⟨v8, rfl, h8, hB8, b8⟩
            have b8 := b6.trans b8
            rw [HI1.out, HI2'.out] at hB8
            obtain ⟨xv, hxv⟩ : ∃ xv, (L.getD 0 default).v = xv := ⟨_, rfl⟩
            rw [hxv] at hB8 ⊢
            clear hxv q6 h6
            obtain ⟨a8, c8, rfl, hc8, hd8, hR8, _⟩ := hB8.row
            obtain ⟨bo, off, rfl, hbo, c0⟩ := hV.at_old b8 hjn
            obtain ⟨e0, x1, x2, x3, x4⟩ := HX.out j hjn
            rw [e0] at c0
            have x3 := x3.below b8
            obtain ⟨s, hs⟩ : ∃ s, str (X j).Z (X j).n = s := ⟨_, rfl⟩
            have k1 : ∀ z : Nat, (convert 27 9 (.slice a8 (X j).n c8)).run Try.prog (w8.drewN z) = .ok (.string s) (w8.drewN z) := fun z => by
              rw [← hs]
              exact conv_string (P := Try.prog) Try.underlying27 Try.underlying5 Try.underlying9 (hR8.drewN z)
            have k2 : ∀ z : Nat, (convert 27 9 (.slice (X j).a (X j).n (X j).c)).run Try.prog (w8.drewN z) = .ok (.string s) (w8.drewN z) := fun z => by
              rw [← hs]
              exact conv_string (P := Try.prog) Try.underlying27 Try.underlying5 Try.underlying9 (x3.drewN z)
            have k3 := k1 1
            have k4 := k2 1
            clear hs hB8 hR8 x3 e0
            go_wp2_with fail
            go_quiet (fail)
            go_wp2_with fail
            exact ⟨⟨j + 1, L.eraseIdx 0, v8, by simp [intOf], by omega, HLT.out, HI2, h8.below (below_drewN (Below.refl _ _) _), below_drewN b8 _⟩, by simp [intOf]; omega⟩
          · have hjK : j = K := by omega
            have hL0 : L.length = 0 := by rw [HL.out, hjK]; omega
            have HL0 := Lib.hid hL0
            have g6 : decide ((j : Int) < (K : Int)) = false := by simp; omega
            have g6' : decide (j < K) = false := by simp; omega
            clear hL hL0 hjK hjt hj
            go_wp2_with fail
            refine (take_no w.heap.size w.heap.size _ _ L v 0 _ h1 (by rw [HL0.out]; omega)).mono ?_
            rintro r w' ⟨rfl, rfl⟩
            go_wp2_with fail
            refine (len_any w.heap.size w.heap.size _ _ L v _ h1).mono ?_
            rintro r w' ⟨rfl, rfl⟩
            rw [HL0.out]
            go_wp2_with fail
            refine (awake_any _).mono ?_
            rintro r w9 ⟨rfl, b9⟩
            have bb := bb.trans (b9.mono bb.size)
            go_wp2_with fail
            go_ret
            exact ⟨rfl, bb⟩

theorem walk (H : Type) (enc : TypeId × Value → H) : Walk H enc Try.prog 5 Try.f5 := by
  intro W base args ds p hval hA
  rw [Try.params5] at hA hval
  obtain ⟨v0, v1, d0, d1, p0, p1, rfl, rfl, rfl, h0, h1⟩ := trodAll_two hA
  obtain ⟨x, rfl, rfl, rfl, _⟩ := open_int Try.underlying3 (hval 0 _ v0 rfl rfl) h0
  obtain ⟨a, n, c, V, rfl, hn, hm, hV, hf⟩ := open_row Try.underlying46 (by kernel_rfl) (hval 1 _ v1 rfl rfl) h1
  obtain ⟨X, hX⟩ := choose_fn (n := n) (q := fun i (x : Tx) => V i = .slice x.a x.n x.c ∧ x.ok W) (⟨none, 0, 0, fun _ => 0⟩ : Tx) (fun i hi => by
    obtain ⟨f, y, hy⟩ := hf i hi
    obtain ⟨a, n, c, Z, hv, h1, h2, h3, h4⟩ := open_cell_bytes Try.underlying27 Try.underlying5 (by kernel_rfl) hy
    exact ⟨⟨a, n, c, Z⟩, hv, h1, h2, h3, h4⟩)
  exact body x a n c V X W hn hm hV hX

set_option maxRecDepth 100000 in
theorem lifted (os : Os) (started : os.Started) (H : Type) (enc : TypeId × Value → H) :
    ReturnsInHanded {} Try.checked os 5 .any (Rows.queueOrderSpec.pre6 enc Try.prog Try.f5 Rows.queueOrderRow.domain false) (Rows.queueOrderSpec.post enc Try.prog Try.f5 false true false false) :=
  returnsInHanded_of_change (C := Try.checked) own started (by kernel_rfl) Try.func5
    (ChangeSpec.witness6 (enc := enc) (C := Try.checked) false ⟨#[], #[.int .i64 0, .slice none 0 0], []⟩ 8 (by kernel_rfl) (by kernel_rfl) (by kernel_rfl) (by kernel_rfl))
    fun W base args ds gs before hval hW _ _ => step_of_walk laidOut (by rw [Try.params5]; exact of_decide_eq_true (by kernel_rfl)) (by kernel_rfl) Try.underlying4 rfl
      (fun ds h => by
        rw [Try.params5] at h
        match ds, h with
        | [_, _], _ => rfl) (walk H enc) W base args ds gs before hval hW

theorem holds : Rows.QueueOrderSaid :=
  OpenClaim.holds_of_wide 5 Try.f5 rfl rfl rfl rfl rfl rfl rfl ⟨rfl, rfl, rfl, rfl, rfl⟩ rfl rfl rfl rfl rfl (by kernel_rfl) Try.func5 (by kernel_rfl)
    (of_decide_eq_true (by kernel_rfl)) (by unfold Func.isWrapper; first | (rw [if_pos (by decide +kernel)]; kernel_rfl) | (rw [if_neg (by decide +kernel)]; exact ⟨rfl, rfl⟩))
    (fun os started H enc _ => lifted os started H enc)
#print axioms holds
end Go.Proofs.Ytmabdegabeopbaa.QueueOrder
