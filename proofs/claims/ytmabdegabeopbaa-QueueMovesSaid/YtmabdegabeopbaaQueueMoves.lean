/-
  Law QueueMoves: what is moved keeps its place; all of one go to the other one, and just they; the call returns true. No condition.
-/
import Derived.Test.YtmabdegabeopbaaQueueMove
import Derived.IntWalk
set_option maxRecDepth 100000
namespace Go.Proofs.Ytmabdegabeopbaa.QueueMoves
set_option linter.unusedVariables false
open Go.RowKit Go.ChangeShapes Go.WideShapes Go.ChangeAt Go.Deep Lb Qu
set_option linter.unusedVariables false
theorem own : ownKnob Try.prog.godebug = none := by kernel_rfl
theorem laidOut : laidOutB Try.prog = true := by kernel_rfl
/-- L is: to X j the byte j. -/
def Is (X : Nat → Int) (L : List It) : Prop := ∀ j, j < L.length → (L.getD j default).to = X j ∧ (L.getD j default).n = 1 ∧ (L.getD j default).Z = fun _ => (j : Int)
theorem is_snoc {X : Nat → Int} {L : List It} (h : Is X L) (u : Value) : Is X (L ++ [⟨X L.length, u, 1, fun _ => (L.length : Int)⟩]) := by
  intro j hj
  rw [List.length_append] at hj
  by_cases h1 : j < L.length
  · have := h j h1
    rw [List.getD_eq_getElem?_getD, List.getElem?_append_left h1, ← List.getD_eq_getElem?_getD]
    exact this
  · obtain rfl : j = L.length := by simp at hj; omega
    rw [List.getD_eq_getElem?_getD, List.getElem?_append_right (Nat.le_refl _)]
    simp
def cntX (x : Int) (X : Nat → Int) : Nat → Nat
  | 0 => 0
  | k + 1 => cntX x X k + if X k = x then 1 else 0
theorem cntX_le (x : Int) (X : Nat → Int) : ∀ k, cntX x X k ≤ k
  | 0 => Nat.le_refl _
  | k + 1 => by
    have := cntX_le x X k
    unfold cntX
    split <;> omega
theorem cnt_is {x : Int} {X : Nat → Int} {L : List It} (h : Is X L) : ∀ k, k ≤ L.length → cnt x L k = cntX x X k
  | 0, _ => rfl
  | k + 1, hk => by
    unfold cnt cntX
    rw [cnt_is h k (by omega), (h k (by omega)).1]
theorem getD_mv {x y : Int} {L : List It} {j : Nat} (hj : j < L.length) : (L.map (mv x y)).getD j default = mv x y (L.getD j default) := by
  rw [List.getD_eq_getElem?_getD, List.getD_eq_getElem?_getD, List.getElem?_map, List.getElem?_eq_getElem hj]
  rfl

set_option maxHeartbeats 8000000 in
theorem body (a : Option Addr) (n c : Nat) (X : Nat → Int) (x y : Int) (w : World) (hn : n ≤ c) (hc : c ≤ maxLen) (hV : Row w a n (fun i => .int .i64 (X i))) :
    Calls Try.prog 6 #[.slice a n c, .int .i64 x, .int .i64 y] w fun r w' => r = .returned (.bool true) ∧ Below w.heap.size w w' := by
  have hcap : (n : Int) ≤ 9223372036854775807 := by unfold maxLen at hc; omega
  by_cases h100 : 30 < n
  · have g1 : (30 : Int) < (n : Int) := by omega
    go_enter Try.func6, Try.ntmps6
    go_wp2_with fail
    refine (awake_any _).mono ?_
    rintro r w9 ⟨rfl, b9⟩
    go_wp2_with fail
    go_ret
    exact ⟨rfl, b9⟩
  · have g1 : decide ((30 : Int) < (n : Int)) = false := by simp; omega
    have hn100 : n ≤ 30 := by omega
    clear h100
    go_enter Try.func6, Try.ntmps6
    go_wp2_with fail
    refine (new_any 32 _).mono ?_
    rintro r w1 ⟨rfl, h1, b1, s1⟩
    have h1 : Que w1 w.heap.size w.heap.size 32 0 [] (.slice none 0 0) := h1
    go_wp2_with fail
    go_loopw [23, 8] (fun i s wr => ∃ (k : Nat) (L : List It) (v : Value), i = .int .i64 k ∧ s = .int .i64 (cntX x X k : Nat) ∧ k ≤ n ∧ L.length = k ∧ Hid (Is X L) ∧ Que wr w.heap.size w.heap.size 32 0 L v ∧ Below w.heap.size w wr) (fun i _ _ => n - (intOf i).toNat)
    case atStart => exact ⟨0, [], _, rfl, rfl, by omega, rfl, Lib.hid (fun j hj => by simp at hj), h1, b1⟩
    case round =>
      clear h1 b1 s1
      obtain ⟨k, L, v, rfl, rfl, hk, hL, hI, h1, bb⟩ := hrel
      have HL := Lib.hid hL
      have hcl := cntX_le x X k
      by_cases hlt : k < n
      · obtain ⟨bo, off, rfl, hbo, c0⟩ := hV.at_old bb hlt
        have hIn := is_snoc hI.out
        rw [hL] at hIn
        have hw8 : IntKind.u8.wrap (k : Int) = (k : Int) := by
          simp only [IntKind.wrap, IntKind.signed, IntKind.bits]
          simp
          omega
        have hput := fun wz h b0 => put_room w.heap.size w.heap.size 32 0 L v (X k) (some ⟨wr.heap.size, 0, none⟩) 1 1 (fun _ => (k : Int)) wz h (by rw [hL]; omega) (by omega) (Nat.le_refl _) (by omega) b0 (fun e => by cases e)
        have HP := Lib.hid hput
        obtain ⟨t, ht⟩ : ∃ t, X k = t := ⟨_, rfl⟩
        rw [ht] at c0 HP
        rw [ht] at hIn
        have hx2 := h1.below ((Below.refl _ _).alloc (Nat.le_refl _) (.cells #[.int .u8 (k : Int)] 5))
        have bx := bb.alloc bb.size (.cells #[.int .u8 (k : Int)] 5)
        have hr := row_new (n := 1) (V := fun _ => .int .u8 (k : Int)) wr #[.int .u8 (k : Int)] 5 (0, 0) (fun i hi => by obtain rfl : i = 0 := (by omega); rfl)
        clear hput hL
        by_cases htx : t = x
        · have HC : Hid ((cntX x X (k + 1) : Int) = (cntX x X k : Int) + 1) := Lib.hid (by
            show ((cntX x X k + if X k = x then 1 else 0 : Nat) : Int) = _
            rw [if_pos (by rw [ht]; exact htx)]; rfl)
          subst htx
          generalize cntX t X k = N at *
          clear ht
          go_wp2_with fail
          refine (HP.out _ hx2 hr).mono ?_
          rintro r w2 ⟨rfl, v', u, h2, b2⟩
          have b2 := bx.trans b2
          clear h1
          go_wp2_with fail
          exact ⟨⟨k + 1, _, v', by simp, by rw [HC.out], by omega, by rw [List.length_append, HL.out]; rfl, Lib.hid (hIn u), h2, b2⟩, by simp [intOf]; omega⟩
        · have HC : Hid ((cntX x X (k + 1) : Int) = (cntX x X k : Int)) := Lib.hid (by
            show ((cntX x X k + if X k = x then 1 else 0 : Nat) : Int) = _
            rw [if_neg (by rw [ht]; exact htx)]; rfl)
          have g5 : (t == x) = false := by simpa using htx
          generalize cntX x X k = N at *
          clear ht htx
          go_wp2_with fail
          refine (HP.out _ hx2 hr).mono ?_
          rintro r w2 ⟨rfl, v', u, h2, b2⟩
          have b2 := bx.trans b2
          clear h1
          go_wp2_with fail
          exact ⟨⟨k + 1, _, v', by simp, by rw [HC.out], by omega, by rw [List.length_append, HL.out]; rfl, Lib.hid (hIn u), h2, b2⟩, by simp [intOf]; omega⟩
      · have hkn : k = n := by omega
        have g4 : decide ((k : Int) < (n : Int)) = false := by simp; omega
        have g4' : decide (k < n) = false := by simp; omega
        have HCN : Hid (cnt x L L.length = cntX x X k) := Lib.hid (by rw [cnt_is hI.out L.length (Nat.le_refl _), hL])
        have HLn : Hid (L.length = n) := Lib.hid (by rw [hL, hkn])
        have hl1000 : L.length ≤ 1000 := by omega
        have HI := Lib.hid hI.out
        generalize cntX x X k = N at *
        clear hkn hlt hk hL
        go_wp2_with fail
        refine (move_any w.heap.size w.heap.size _ _ L v x y _ h1 hl1000).mono ?_
        rintro r w2 ⟨rfl, h2, b2⟩
        rw [HCN.out]
        have b2 := bb.trans b2
        clear h1 bb
        go_wp2_with fail
        refine (to_any w.heap.size w.heap.size _ _ _ v _ h2 (by rw [List.length_map]; exact hl1000)).mono ?_
        rintro r w3 ⟨a3, c3, rfl, hc3, hd3, hR3, b3⟩
        have h3 := h2.below b3
        have b3 := b2.trans (b3.mono b2.size)
        rw [List.length_map, HLn.out] at hc3 hR3 ⊢
        unfold maxLen at hd3
        clear h2 b2
        go_wp2_with fail
        go_loopw [56] (fun i wr => ∃ j : Nat, i = .int .i64 j ∧ j ≤ n ∧ Que wr w.heap.size w.heap.size 32 0 (L.map (mv x y)) v ∧ Below w3.heap.size w3 wr) (fun i _ => n - (intOf i).toNat)
        case atStart => exact ⟨0, rfl, by omega, h3, Below.refl _ _⟩
        case round =>
          clear h3
          obtain ⟨j, rfl, hj, h1, bb5⟩ := hrel
          have bb := b3.trans (bb5.mono b3.size)
          by_cases hjt : j < n
          · obtain ⟨bo, off, rfl, hbo, c0⟩ := hV.at_old bb hjt
            have hjl : j < (L.map (mv x y)).length := by rw [List.length_map, HLn.out]; exact hjt
            obtain ⟨i0, i1, i2⟩ := HI.out j (by rw [HLn.out]; exact hjt)
            have hat := fun wz h => at_yes w.heap.size w.heap.size 32 0 (L.map (mv x y)) v j wz h hjl (by rw [getD_mv (by rw [HLn.out]; exact hjt), (mv_v x y _).2.1, i1]; omega)
            rw [getD_mv (by rw [HLn.out]; exact hjt), (mv_v x y _).2.1, (mv_v x y _).2.2, i1, i2] at hat
            have HAT := Lib.hid hat
            obtain ⟨p3, q3, rfl, hp3, d3⟩ := hR3.at_old bb5 hjt
            have e3 : tov (L.map (mv x y)) j = .int .i64 (if X j = x then y else X j) := by
              unfold tov
              rw [getD_mv (by rw [HLn.out]; exact hjt), mv_to, i0]
            rw [e3] at d3
            have hw8 : IntKind.u8.wrap (j : Int) = (j : Int) := by
              simp only [IntKind.wrap, IntKind.signed, IntKind.bits]
              simp
              omega
            obtain ⟨t, ht⟩ : ∃ t, X j = t := ⟨_, rfl⟩
            rw [ht] at c0 d3
            have HH1 := Lib.hid h1
            clear hat i0 i1 i2 e3 ht
            by_cases htx : t = x
            · rw [if_pos htx] at d3
              subst htx
              go_wp2_with fail
              refine (HAT.out _ h1).mono ?_
              rintro r w6 ⟨u, rfl, hB, b6⟩
              have h6 := h1.below b6
              have d6 := (b6.cell (p := ⟨p3, q3 + j, none⟩) (lt_of_cell d3)).trans d3
              have c6 := (b6.cell (lt_of_cell c0)).trans c0
              have bb6 := bb5.trans (b6.mono bb5.size)
              obtain ⟨u5, uc, rfl, hu5, hu6, hu7, _⟩ := hB.row
              obtain ⟨pb, ob, rfl, _, k0⟩ := hu7.at_ (k := 0) (by decide)
              rw [Nat.add_zero] at k0
              unfold maxLen at hu6
              clear h1 d3 c0 bb5 hB hu7
              go_wp2_with fail
              exact ⟨⟨j + 1, by simp, by omega, h6, bb6⟩, by simp [intOf]; omega⟩
            · rw [if_neg htx] at d3
              have g5 : (t == x) = false := by simpa using htx
              clear htx
              go_wp2_with fail
              refine (HAT.out _ h1).mono ?_
              rintro r w6 ⟨u, rfl, hB, b6⟩
              have h6 := h1.below b6
              have d6 := (b6.cell (p := ⟨p3, q3 + j, none⟩) (lt_of_cell d3)).trans d3
              have c6 := (b6.cell (lt_of_cell c0)).trans c0
              have bb6 := bb5.trans (b6.mono bb5.size)
              obtain ⟨u5, uc, rfl, hu5, hu6, hu7, _⟩ := hB.row
              obtain ⟨pb, ob, rfl, _, k0⟩ := hu7.at_ (k := 0) (by decide)
              rw [Nat.add_zero] at k0
              unfold maxLen at hu6
              clear h1 d3 c0 bb5 hB hu7
              go_wp2_with fail
              exact ⟨⟨j + 1, by simp, by omega, h6, bb6⟩, by simp [intOf]; omega⟩
          · go_wp2_with fail
            refine (awake_any _).mono ?_
            rintro r w9 ⟨rfl, b9⟩
            have bb := bb.trans (b9.mono bb.size)
            go_wp2_with fail
            go_ret
            exact ⟨rfl, bb⟩

theorem walk (H : Type) (enc : TypeId × Value → H) : Walk H enc Try.prog 6 Try.f6 := by
  intro W base args ds p hval hA
  rw [Try.params6] at hA hval
  obtain ⟨v1, v2, v3, d1, d2, d3, p1, p2, p3, rfl, rfl, rfl, h1, h2, h3⟩ := trodAll_three hA
  obtain ⟨a, n, c, X, rfl, hn, hm, hV, _⟩ := open_row_int Try.underlying39 Try.underlying3 (by kernel_rfl) (hval 0 _ v1 rfl rfl) h1
  obtain ⟨y, rfl, rfl, rfl, _⟩ := open_int Try.underlying3 (hval 1 _ v2 rfl rfl) h2
  obtain ⟨z, rfl, rfl, rfl, _⟩ := open_int Try.underlying3 (hval 2 _ v3 rfl rfl) h3
  exact body a n c X y z W hn hm hV

set_option maxRecDepth 100000 in
theorem lifted (os : Os) (started : os.Started) (H : Type) (enc : TypeId × Value → H) :
    ReturnsInHanded {} Try.checked os 6 .any (Rows.queueMovesSpec.pre6 enc Try.prog Try.f6 Rows.queueMovesRow.domain false) (Rows.queueMovesSpec.post enc Try.prog Try.f6 false true false false) :=
  returnsInHanded_of_change (C := Try.checked) own started (by kernel_rfl) Try.func6
    (ChangeSpec.witness6 (enc := enc) (C := Try.checked) false ⟨#[], #[.slice none 0 0, .int .i64 0, .int .i64 0], []⟩ 8 (by kernel_rfl) (by kernel_rfl) (by kernel_rfl) (by kernel_rfl))
    fun W base args ds gs before hval hW _ _ => step_of_walk laidOut (by rw [Try.params6]; exact of_decide_eq_true (by kernel_rfl)) (by kernel_rfl) Try.underlying4 rfl
      (fun ds h => by
        rw [Try.params6] at h
        match ds, h with
        | [_, _, _], _ => rfl) (walk H enc) W base args ds gs before hval hW

theorem holds : Rows.QueueMovesSaid :=
  OpenClaim.holds_of_wide 6 Try.f6 rfl rfl rfl rfl rfl rfl rfl ⟨rfl, rfl, rfl, rfl, rfl⟩ rfl rfl rfl rfl rfl (by kernel_rfl) Try.func6 (by kernel_rfl)
    (of_decide_eq_true (by kernel_rfl)) (by unfold Func.isWrapper; first | (rw [if_pos (by decide +kernel)]; kernel_rfl) | (rw [if_neg (by decide +kernel)]; exact ⟨rfl, rfl⟩))
    (fun os started H enc _ => lifted os started H enc)
#print axioms holds
end Go.Proofs.Ytmabdegabeopbaa.QueueMoves
