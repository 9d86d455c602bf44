/-
  Package join (chapter 18): isSealed.
-/
import Derived.Test.YtphiohdhgkpgnaaJoGiven
import Derived.Test.YtphiohdhgkpgnaaTyGrow
set_option maxRecDepth 100000
namespace Go.Proofs.Ytphiohdhgkpgnaa.Jo
set_option linter.unusedVariables false
open Go.RowKit Lb Go.Shelf Bf Se Cl

def sealedB (key : Int) (l : List Int) : Bool := tagL key (l.take (l.length - 4)) == n4 l (l.length - 4)
theorem Rb.low {w : World} {base base' b : Nat} {l : List Int} {err : Int} (h : Rb w base b l err) (hb : base' ≤ base) : Rb w base' b l err := by
  obtain ⟨j, n, Z, v, h1, h2⟩ := h
  refine ⟨j, n, Z, v, ⟨h1.own, ?_, h1.lt, Nat.le_trans hb h1.low⟩, h2⟩
  rcases h1.row.2 with ⟨e1, e2⟩ | ⟨g, cap, cur, e1, e2, e3⟩
  · exact ⟨h1.row.1, .inl ⟨e1, e2⟩⟩
  · exact ⟨h1.row.1, .inr ⟨g, cap, cur, e1, Nat.le_trans hb e2, e3⟩⟩
theorem rb_le {w : World} {base b : Nat} {l : List Int} {err : Int} (h : Rb w base b l err) : base ≤ b := by
  obtain ⟨j, n, Z, v, h1, h2⟩ := h
  exact h1.low
/-- A reader of one's own. -/
def rdP (v : World) (l : List Int) (x : Value) (s : Gw v) : Prop := ∃ b, x = .pointer (some ⟨b, 0, none⟩) ∧ Rb s.toW v.heap.size b l 0 ∧ s.loose b
theorem rdP_still (v : World) (l : List Int) (x : Value) (s s' : Gw v) (h : s.still s') (hx : rdP v l x s) : rdP v l x s' := by
  obtain ⟨b, rfl, h1, h2⟩ := hx
  refine ⟨b, rfl, h1.below h.below, (h.loose b ?_).2 h2⟩
  obtain ⟨j, n, Z, v, h3, _⟩ := h1
  exact h3.own.lt
def rdK (v : World) (l : List Int) : Kd v := .grow (rdP v l) (rdP_still v l)
set_option maxHeartbeats 2000000 in
theorem issealed_any (key : Int) (a : Option Addr) (c : Nat) (l : List Int) (w : World) (hk : 0 ≤ key) (hl : l.length ≤ 1000) (h4 : 4 ≤ l.length) (hR : Bs w a c l) (hB : okB l) :
    Calls Try.prog 44 #[.int .u64 key, .slice a l.length c] w fun r w' => r = .returned (.bool (sealedB key l)) ∧ Below w.heap.size w w' := by
  obtain ⟨bo, off, rfl, hbo, hc⟩ := hR.row (by omega)
  obtain ⟨q, hq⟩ : ∃ q, l.length = q + 4 := ⟨l.length - 4, by omega⟩
  have hle := hR.le
  have hcap := hR.cap
  have hd : (l.drop q).length = 4 := by rw [List.length_drop]; omega
  have ht : (l.take q).length = q := by rw [List.length_take]; omega
  have hSB : sealedB key l = (tagL key (l.take q) == n4 l q) := by unfold sealedB; rw [show l.length - 4 = q by omega]
  have hm4 : m4 (l.drop q) = n4 l q := by
    unfold m4
    rw [if_neg (by omega), n4_drop]
    rfl
  have PN : ∀ W, Below w.heap.size w W → Calls Try.prog 52 #[.slice (some ⟨bo, off + q, none⟩) 4 (c - q)] W fun r w' => ∃ b, r = .returned (.pointer (some ⟨b, 0, none⟩)) ∧ Rb w' W.heap.size b (l.drop q) 0 ∧ Below W.heap.size W w' ∧ W.heap.size ≤ b ∧ b < w'.heap.size := fun W hW => by
    have := newb_any (some ⟨bo, off + q, none⟩) (c - q) (l.drop q) W (by omega) (fun _ => ⟨bo, off + q, rfl, Nat.lt_of_lt_of_le hbo hW.size, fun i hi => by
      have h1 := (hW.cell (lt_of_cell (hc (q + i) (by omega)))).trans (hc (q + i) (by omega))
      rw [Nat.add_assoc, h1]
      show some (Value.int .u8 (l.getD (q + i) 0)) = some (Value.int .u8 ((l.drop q).getD i 0))
      rw [getD_drop]⟩) (okB_drop hB q) (fun e => by cases e)
    rw [hd] at this
    exact this
  have PG : ∀ W, Below w.heap.size w W → Calls Try.prog 57 #[.int .u64 key, .slice (some ⟨bo, off, none⟩) q c, .int .u32 (n4 l q)] W fun r w' => r = .returned (.bool (sealedB key l)) ∧ W = w' := fun W hW => by
    have hrow : Row W (some ⟨bo, off, none⟩) q (fun i => .int .u8 ((l.take q).getD i 0)) := fun h0 => ⟨bo, off, rfl, Nat.lt_of_lt_of_le hbo hW.size, fun i hi => by
      have h1 := (hW.cell (lt_of_cell (hc i (by omega)))).trans (hc i (by omega))
      rw [h1]
      show some (Value.int .u8 (l.getD i 0)) = some (Value.int .u8 ((l.take q).getD i 0))
      rw [List.getD_eq_getElem?_getD, List.getD_eq_getElem?_getD, List.getElem?_take, if_pos hi]⟩
    have := good_any key (n4 l q) (some ⟨bo, off, none⟩) q c (fun i => (l.take q).getD i 0) W hk (by omega) hrow (fun i => okB_at (okB_take hB q) i)
    rw [hSB]
    unfold tagL
    rw [ht]
    exact this
  have hn4 := n4_in hB q
  unfold In32 at hn4
  have HOK := Lib.hid (okB_drop hB q)
  have HM4 := Lib.hid hm4
  obtain ⟨t, htt⟩ : ∃ t, n4 l q = t := ⟨_, rfl⟩
  rw [htt] at PG hn4
  have HT := Lib.hid htt
  have u1 : IntKind.u32.wrap t = t := by rw [IntKind.wrap_u32]; omega
  have HPN := Lib.hid PN
  have HPG := Lib.hid PG
  obtain ⟨n, hn⟩ : ∃ n, l.length = n := ⟨_, rfl⟩
  rw [hn] at hle hq ⊢
  subst hq
  unfold maxLen at hcap
  have g1 : IntKind.i64.wrap (((q + 4 : Nat) : Int) - 4) = (q : Int) := by rw [IntWalk.i64_in _ (by omega)]; omega
  have g2 : q ≤ q + 4 := by omega
  have g3 : ¬ q + 4 = q := by omega
  have g5 : q ≤ c := by omega
  have e4 : q + 4 - q = 4 := by omega
  have hn63 : ((q + 4 : Nat) : Int) ≤ 9223372036854775807 := by omega
  have hc63 : (c : Int) ≤ 9223372036854775807 := by omega
  have b0 := (Below.refl w.heap.size w).alloc (Nat.le_refl _) (.cells #[] 0)
  clear htt PN PG hm4 hSB ht hd hn hc hB hR h4 hl b0
  go_enter Try.func44, Try.ntmps44
  go_wp2_with fail
  obtain ⟨sb, hsb⟩ : ∃ b, sealedB key l = b := ⟨_, rfl⟩
  have HSB := Lib.hid hsb
  refine wp_region_grow w (Below.refl _ _) [.is (.int .u64 key), .is (.slice (some ⟨bo, off, none⟩) (q + 4) c), .is (.int .i64 (q : Int)), .is (.slice (some ⟨bo, off, none⟩) q c), .is (.slice (some ⟨bo, off, none⟩) (q + 4) c), .is (.int .i64 (q : Int)), .is (.slice (some ⟨bo, off + q, none⟩) 4 (c - q)), rdK w (l.drop q), .is (.int .u64 t), .is (.int .u32 t), .is (.bool sb), .is (.bool sb)] [8] (by kernel_rfl) (by kernel_rfl) rfl (by kernel_rfl) ?_
  iterate 7
    refine kd_is (by rfl) (fun z hz K Q hK => ?_) ?_
    · go_big_op
      exact hK _ _ rfl rfl
    simp only [Act.put, List.setIfInBounds_toArray, List.set_cons_zero, List.set_cons_succ]
  refine kd_grow (by rfl) (fun z hz K Q hK => ?_) (fun x7 => ?_)
  · go_big_op
    refine (HPN.out _ z.ok).mono ?_
    rintro r w1 ⟨b, rfl, gr, b1, hb1, hb2⟩
    exact hK _ _ ⟨_, z.new w1 b1, rfl, rfl, z.new_still w1 b1, b, rfl, Rb.low gr z.ok.size, .inl hb1⟩
  simp only [Act.put, List.setIfInBounds_toArray, List.set_cons_zero, List.set_cons_succ]
  refine kd_isa (by kernel_rfl) (by rfl) (fun z hz K Q hK => ?_) ?_
  · obtain ⟨b, rfl, gr, hlo⟩ := (fact_at hz 7 (rdP w (l.drop q)) x7 (by kernel_rfl) (by kernel_rfl) (by kernel_rfl))
    have P1 := take4_any w.heap.size b (l.drop q) 0 z.toW gr
    rw [HM4.out, HT.out] at P1
    have hbw : w.heap.size ≤ b := rb_le gr
    go_big_op
    refine P1.mono ?_
    rintro r w2 ⟨rfl, gr2, j2⟩
    exact hK _ _ ⟨⟨w2, j2.below z.ok hbw z.ok.size, z.loose⟩, rfl, rfl, ⟨j2.size, fun k hk hn => j2.block k hk (fun e => hn (by rw [e]; exact hlo)), fun k _ h => h⟩⟩
  simp only [Act.put, List.setIfInBounds_toArray, List.set_cons_zero, List.set_cons_succ]
  refine kd_is (by rfl) (fun z hz K Q hK => ?_) ?_
  · go_big_op
    exact hK _ _ rfl rfl
  simp only [Act.put, List.setIfInBounds_toArray, List.set_cons_zero, List.set_cons_succ]
  refine kd_is (by rfl) (fun z hz K Q hK => ?_) ?_
  · go_big_op
    refine (HPG.out _ z.ok).mono ?_
    rintro r w3 ⟨rfl, rfl⟩
    exact hK _ _ (by rw [HSB.out]; rfl) rfl
  simp only [Act.put, List.setIfInBounds_toArray, List.set_cons_zero, List.set_cons_succ]
  refine kd_is (by rfl) (fun z hz K Q hK => ?_) ?_
  · go_big_op
    exact hK _ _ rfl rfl
  simp only [Act.put, List.setIfInBounds_toArray, List.set_cons_zero, List.set_cons_succ]
  refine kd_nil (fun z hz => ?_)
  go_wp2_with fail
  go_ret
  exact ⟨by rw [HSB.out]; rfl, z.ok⟩
end Go.Proofs.Ytphiohdhgkpgnaa.Jo
