/-
  Package ie (chapter 6) and the reference: the first element of a kind.
-/
import Derived.Test.YtoconkgemakboaaIeLib
set_option maxRecDepth 100000
namespace Go.Proofs.Ytoconkgemakboaa.Ie
set_option linter.unusedVariables false
open Go.RowKit Lb Go.Shelf

def zE : El := ⟨0, 0, 0, 0, []⟩
def fstE (L : List El) (kind : Int) : Option El := L.find? (fun e => e.k == kind)
def foundE (L : List El) (kind : Int) : El := (fstE L kind).getD zE
def FindPost (L : List El) (kind : Int) (w : World) (r : Ending) (w' : World) : Prop :=
  ∃ a c, r = .returned (.tuple #[.agg ((foundE L kind).vals a c), .bool (fstE L kind).isSome]) ∧ (foundE L kind).At w' a c ∧ Below w.heap.size w w'
theorem fst_no {L : List EP} {kind : Int} (h : ∀ j, j < L.length → (L.getD j ep0).e.k ≠ kind) : fstE (els L) kind = none := by
  unfold fstE
  rw [List.find?_eq_none]
  intro x hx
  obtain ⟨i, hi, rfl⟩ := List.getElem_of_mem hx
  rw [els_len] at hi
  rw [els_at hi rfl]
  simpa using h i hi
theorem fst_yes {L : List EP} {kind : Int} {k : Nat} (hk : k < L.length) (h : (L.getD k ep0).e.k = kind) (hno : ∀ j, j < k → (L.getD j ep0).e.k ≠ kind) : fstE (els L) kind = some (L.getD k ep0).e := by
  unfold fstE
  rw [List.find?_eq_some_iff_getElem]
  refine ⟨by simpa using h, k, by rw [els_len]; exact hk, els_at hk rfl, fun j hj => ?_⟩
  rw [els_at (by omega) rfl]
  simpa using hno j hj
theorem row_none' {w : World} {a : Option Addr} {n : Nat} {V : Nat → Value} (h : Row w a n V) : a = none → n = 0 := fun e => by
  by_cases h0 : n = 0
  · exact h0
  · obtain ⟨_, _, h1, _⟩ := h (by omega)
    rw [e] at h1
    cases h1
theorem builtE : Try.prog.built 52 [] = some #[.int .i64 0, .int .i64 0, .int .i64 0, .int .i64 0, .slice none 0 0] := by kernel_rfl
theorem cells5 (a b c d : Int) (p : Option Addr) {n m : Nat} : (#[.int .i64 a, .int .i64 b, .int .i64 c, .int .i64 d, .slice p n m] : Array Value).all (·.oneCell') = true := by
  simp [Value.oneCell']
set_option maxHeartbeats 1000000 in
theorem find_any (L : List EP) (a : Option Addr) (c : Nat) (kind : Int) (w : World) (h : Els w L a c) (hm : ∀ k, k < L.length → (L.getD k ep0).e.list.length ≤ 1000000) :
    Calls Try.prog 29 #[.slice a L.length c, .int .i64 kind] w (FindPost (els L) kind w) := by
  have hlc := h.lc
  have hcm := h.cm
  unfold maxLen at hcm
  have hrow := h.row
  have hels := Lib.hid h.els
  have HM := Lib.hid hm
  clear h hm
  obtain ⟨n, hn⟩ : ∃ n, L.length = n := ⟨_, rfl⟩
  have HN := Lib.hid hn
  rw [hn] at hlc hrow ⊢
  clear hn
  have o0 := Own.new w 52 #[.int .i64 0, .int .i64 0, .int .i64 0, .int .i64 0, .slice none 0 0]
  have b0 := (Below.refl w.heap.size w).alloc (Nat.le_refl _) (.cells #[.int .i64 0, .int .i64 0, .int .i64 0, .int .i64 0, .slice none 0 0] 52)
  go_enter Try.func29, Try.ntmps29
  go_upto_region 1 with (fail)
  generalize w.alloc (.cells #[.int .i64 0, .int .i64 0, .int .i64 0, .int .i64 0, .slice none 0 0] 52) = w1 at *
  obtain ⟨g0, hg0⟩ : ∃ g, w.heap.size = g := ⟨_, rfl⟩
  rw [hg0] at o0 b0 ⊢
  have HG := Lib.hid hg0
  clear hg0
  go_wp2_with fail
  go_loopw [10] (fun i wr => ∃ (k : Nat), i = .int .i64 k ∧ k ≤ n ∧ Hid (∀ j, j < k → (L.getD j ep0).e.k ≠ kind) ∧ Lb.Own wr g0 52 #[.int .i64 0, .int .i64 0, .int .i64 0, .int .i64 0, .slice none 0 0] ∧ Below g0 w wr) (fun i _ => n - (intOf i).toNat)
  case atStart => exact ⟨0, rfl, by omega, Lib.hid (fun j hj => by omega), o0, b0⟩
  case round =>
    clear o0 b0
    obtain ⟨k, rfl, hk, HE, o1, b1⟩ := hrel
    have b1' : Below w.heap.size w wr := by rw [HG.out]; exact b1
    by_cases hlt : k < n
    · obtain ⟨x, hx⟩ : ∃ x, L.getD k ep0 = x := ⟨_, rfl⟩
      obtain ⟨pb, po, rfl, hpb, x0, x1, x2, x3, x4⟩ := erow hrow b1' hlt hx
      have hat := hels.out k (by rw [HN.out]; exact hlt)
      rw [hx] at hat
      have hm := HM.out k (by rw [HN.out]; exact hlt)
      rw [hx] at hm
      have HX := Lib.hid hx
      clear hx
      obtain ⟨⟨ek, easn, erank, et, el⟩, ea, ec⟩ := x
      simp only at x0 x1 x2 x3 x4 hat hm
      have hat1 := hat.below b1'
      have o2 := Own.new wr 52 #[.int .i64 ek, .int .i64 easn, .int .i64 erank, .int .i64 et, .slice ea el.length ec]
      have b2 := (Below.refl wr.heap.size wr).alloc (Nat.le_refl _) (.cells #[.int .i64 ek, .int .i64 easn, .int .i64 erank, .int .i64 et, .slice ea el.length ec] 52)
      have b3 := b1.trans (b2.mono (by have := o1.lt; omega))
      have hat2 := hat1.below b2
      have o3 := below_own b2 o1 o1.lt
      have hgg := o1.lt
      go_upto_region 4 with (fail)
      generalize wr.alloc (.cells #[.int .i64 ek, .int .i64 easn, .int .i64 erank, .int .i64 et, .slice ea el.length ec] 52) = w2 at *
      obtain ⟨g, hg⟩ : ∃ g, wr.heap.size = g := ⟨_, rfl⟩
      rw [hg] at o2 hgg ⊢
      clear hg x0 x1 x2 x3 x4 o1 b1 b1' b2 hat hat1
      have x0 : w2.cell? ⟨g, 0, none⟩ = some (.int .i64 ek) := o2.cell 0
      have x4 : w2.cell? ⟨g, 4, none⟩ = some (.slice ea el.length ec) := o2.cell 4
      have x4f := o2.free 4
      by_cases hkk : ek = kind
      · have g1 : (ek == kind) = true := by simpa using hkk
        have HD : Hid (fstE (els L) kind = some ⟨ek, easn, erank, et, el⟩) := Lib.hid (by
          have := fst_yes (L := L) (kind := kind) (k := k) (by rw [HN.out]; exact hlt) (by rw [HX.out]; exact hkk) HE.out
          rw [HX.out] at this
          exact this)
        clear hkk
        have hsg := o2.lt
        go_wp2_with fail
        refine (cloneI_any ea ec el w2 hm hat2.row hat2.nil).mono ?_
        rintro r w3 ⟨v, rfl, hV, b4⟩
        obtain ⟨a3, c3, rfl, l1, l2, R3⟩ := hV.row
        have p2 := below_own b4 o2 o2.lt
        have p3 := below_own b4 o3 o3.lt
        have b5 := b3.trans (b4.mono (by have := o3.lt; omega))
        have y4 : w3.cell? ⟨g, 4, none⟩ = some (.slice ea el.length ec) := p2.cell 4
        have y4f := p2.free 4
        have q2 : Lb.Own (w3.setCell ⟨g, 4, none⟩ (.slice a3 el.length c3)) g 52 #[.int .i64 ek, .int .i64 easn, .int .i64 erank, .int .i64 et, .slice a3 el.length c3] := p2.put 4 _
        have q3 := p3.apart (p := ⟨g, 4, none⟩) (by simp; omega) (.slice a3 el.length c3)
        have hV2 := hV.just (Just.set g w3 4 (.slice a3 el.length c3)) (by omega)
        have b6 := (Just.set g w3 4 (.slice a3 el.length c3)).below b5 (by omega) (by have := p3.lt; omega)
        clear x0 x4 x4f o2 o3 b3 b4 hV R3 hat2
        go_upto_region 6 with (fail)
        generalize w3.setCell ⟨g, 4, none⟩ (.slice a3 el.length c3) = w4 at *
        clear p2 p3 b5 y4 y4f
        go_wp2_with (first | (refine wpList_load_row rfl _ _ rfl g rfl 52 #[.int .i64 ek, .int .i64 easn, .int .i64 erank, .int .i64 et, .slice a3 el.length c3] (0, 0) _ q2 Try.underlying52 rfl (by kernel_rfl) ?_) | (refine wpList_store_row rfl _ _ _ rfl g0 #[.int .i64 ek, .int .i64 easn, .int .i64 erank, .int .i64 et, .slice a3 el.length c3] rfl rfl 52 _ q3 (by kernel_rfl) rfl (cells5 _ _ _ _ _) ?_))
        refine bodyPost_ret (results_row_tmp rfl _ _ g0 52 _ (0, 0) _ rfl (q3.setRow _) Try.underlying52 rfl (by kernel_rfl)) rfl ?_
        unfold FindPost foundE
        rw [HD.out]
        refine ⟨a3, c3, rfl, ?_, ?_⟩
        · have hV3 := hV2.just (Just.setRow g0 w4 #[.int .i64 ek, .int .i64 easn, .int .i64 erank, .int .i64 et, .slice a3 el.length c3]) (by omega)
          exact ⟨l1, l2, hV3.rowAt, row_none' hV3.rowAt⟩
        · rw [HG.out]
          exact (Just.setRow _ _ _).below b6 (Nat.le_refl _) (Nat.le_of_lt q3.lt)
      · have g1 : (ek == kind) = false := by simpa using hkk
        have HE2 : Hid (∀ j, j < k + 1 → (L.getD j ep0).e.k ≠ kind) := Lib.hid (fun j hj => by
          by_cases e : j = k
          · subst e; rw [HX.out]; exact hkk
          · exact HE.out j (by omega))
        clear hkk
        go_wp2_with fail
        exact ⟨⟨k + 1, by simp, by omega, HE2, o3, b3⟩, by simp [intOf]; omega⟩
    · obtain rfl : n = k := by omega
      have HD : Hid (fstE (els L) kind = none) := Lib.hid (fst_no (by rw [HN.out]; exact HE.out))
      go_wp2_with (first | (refine wpList_build_store #[.int .i64 0, .int .i64 0, .int .i64 0, .int .i64 0, .slice none 0 0] rfl rfl rfl rfl builtE rfl rfl o1 (by kernel_rfl) rfl (cells5 _ _ _ _ _) ?_))
      refine bodyPost_ret (results_row_tmp rfl _ _ g0 52 _ (0, 0) _ rfl (o1.setRow _) Try.underlying52 rfl (by kernel_rfl)) rfl ?_
      unfold FindPost foundE
      rw [HD.out]
      exact ⟨none, 0, rfl, El.At.none _ _ _ _ _, (Just.setRow _ _ _).below b1' (by rw [HG.out]; exact Nat.le_refl _) b1'.size⟩
set_option maxHeartbeats 1000000 in
theorem rfind_any (L : List EP) (a : Option Addr) (c : Nat) (kind : Int) (w : World) (h : Els w L a c) (hm : ∀ k, k < L.length → (L.getD k ep0).e.list.length ≤ 1000000) :
    Calls Try.prog 32 #[.slice a L.length c, .int .i64 kind] w (FindPost (els L) kind w) := by
  have hlc := h.lc
  have hcm := h.cm
  unfold maxLen at hcm
  have hrow := h.row
  have hels := Lib.hid h.els
  have HM := Lib.hid hm
  clear h hm
  obtain ⟨n, hn⟩ : ∃ n, L.length = n := ⟨_, rfl⟩
  have HN := Lib.hid hn
  rw [hn] at hlc hrow ⊢
  clear hn
  have o0 := Own.new w 52 #[.int .i64 0, .int .i64 0, .int .i64 0, .int .i64 0, .slice none 0 0]
  have b0 := (Below.refl w.heap.size w).alloc (Nat.le_refl _) (.cells #[.int .i64 0, .int .i64 0, .int .i64 0, .int .i64 0, .slice none 0 0] 52)
  go_enter Try.func32, Try.ntmps32
  go_upto_region 1 with (fail)
  generalize w.alloc (.cells #[.int .i64 0, .int .i64 0, .int .i64 0, .int .i64 0, .slice none 0 0] 52) = w1 at *
  obtain ⟨g0, hg0⟩ : ∃ g, w.heap.size = g := ⟨_, rfl⟩
  rw [hg0] at o0 b0 ⊢
  have HG := Lib.hid hg0
  clear hg0
  go_wp2_with fail
  go_loopw [10] (fun i wr => ∃ (k : Nat), i = .int .i64 k ∧ k ≤ n ∧ Hid (∀ j, j < k → (L.getD j ep0).e.k ≠ kind) ∧ Lb.Own wr g0 52 #[.int .i64 0, .int .i64 0, .int .i64 0, .int .i64 0, .slice none 0 0] ∧ Below g0 w wr) (fun i _ => n - (intOf i).toNat)
  case atStart => exact ⟨0, rfl, by omega, Lib.hid (fun j hj => by omega), o0, b0⟩
  case round =>
    clear o0 b0
    obtain ⟨k, rfl, hk, HE, o1, b1⟩ := hrel
    have b1' : Below w.heap.size w wr := by rw [HG.out]; exact b1
    by_cases hlt : k < n
    · obtain ⟨x, hx⟩ : ∃ x, L.getD k ep0 = x := ⟨_, rfl⟩
      obtain ⟨pb, po, rfl, hpb, x0, x1, x2, x3, x4⟩ := erow hrow b1' hlt hx
      have hat := hels.out k (by rw [HN.out]; exact hlt)
      rw [hx] at hat
      have hm := HM.out k (by rw [HN.out]; exact hlt)
      rw [hx] at hm
      have HX := Lib.hid hx
      clear hx
      obtain ⟨⟨ek, easn, erank, et, el⟩, ea, ec⟩ := x
      simp only at x0 x1 x2 x3 x4 hat hm
      have hat1 := hat.below b1'
      have o2 := Own.new wr 52 #[.int .i64 ek, .int .i64 easn, .int .i64 erank, .int .i64 et, .slice ea el.length ec]
      have b2 := (Below.refl wr.heap.size wr).alloc (Nat.le_refl _) (.cells #[.int .i64 ek, .int .i64 easn, .int .i64 erank, .int .i64 et, .slice ea el.length ec] 52)
      have b3 := b1.trans (b2.mono (by have := o1.lt; omega))
      have hat2 := hat1.below b2
      have o3 := below_own b2 o1 o1.lt
      have hgg := o1.lt
      go_upto_region 4 with (fail)
      generalize wr.alloc (.cells #[.int .i64 ek, .int .i64 easn, .int .i64 erank, .int .i64 et, .slice ea el.length ec] 52) = w2 at *
      obtain ⟨g, hg⟩ : ∃ g, wr.heap.size = g := ⟨_, rfl⟩
      rw [hg] at o2 hgg ⊢
      clear hg x0 x1 x2 x3 x4 o1 b1 b1' b2 hat1
      have x0 : w2.cell? ⟨g, 0, none⟩ = some (.int .i64 ek) := o2.cell 0
      have x4 : w2.cell? ⟨g, 4, none⟩ = some (.slice ea el.length ec) := o2.cell 4
      have x4f := o2.free 4
      by_cases hkk : ek = kind
      · have g1 : (ek == kind) = true := by simpa using hkk
        have HD : Hid (fstE (els L) kind = some ⟨ek, easn, erank, et, el⟩) := Lib.hid (by
          have := fst_yes (L := L) (kind := kind) (k := k) (by rw [HN.out]; exact hlt) (by rw [HX.out]; exact hkk) HE.out
          rw [HX.out] at this
          exact this)
        clear hkk
        go_wp2_with (first | (refine wpList_load_row rfl _ _ rfl g rfl 52 #[.int .i64 ek, .int .i64 easn, .int .i64 erank, .int .i64 et, .slice ea el.length ec] (0, 0) _ o2 Try.underlying52 rfl (by kernel_rfl) ?_) | (refine wpList_store_row rfl _ _ _ rfl g0 #[.int .i64 ek, .int .i64 easn, .int .i64 erank, .int .i64 et, .slice ea el.length ec] rfl rfl 52 _ o3 (by kernel_rfl) rfl (cells5 _ _ _ _ _) ?_))
        refine bodyPost_ret (results_row_tmp rfl _ _ g0 52 _ (0, 0) _ rfl (o3.setRow _) Try.underlying52 rfl (by kernel_rfl)) rfl ?_
        unfold FindPost foundE
        rw [HD.out]
        have b9 := (Just.setRow g0 w2 #[.int .i64 ek, .int .i64 easn, .int .i64 erank, .int .i64 et, .slice ea el.length ec]).below b3 (Nat.le_refl _) (Nat.le_of_lt o3.lt)
        refine ⟨ea, ec, rfl, hat.below (by rw [HG.out]; exact b9), by rw [HG.out]; exact b9⟩
      · have g1 : (ek == kind) = false := by simpa using hkk
        have HE2 : Hid (∀ j, j < k + 1 → (L.getD j ep0).e.k ≠ kind) := Lib.hid (fun j hj => by
          by_cases e : j = k
          · subst e; rw [HX.out]; exact hkk
          · exact HE.out j (by omega))
        clear hkk
        go_wp2_with fail
        exact ⟨⟨k + 1, by simp, by omega, HE2, o3, b3⟩, by simp [intOf]; omega⟩
    · obtain rfl : n = k := by omega
      have HD : Hid (fstE (els L) kind = none) := Lib.hid (fst_no (by rw [HN.out]; exact HE.out))
      go_wp2_with (first | (refine wpList_build_store #[.int .i64 0, .int .i64 0, .int .i64 0, .int .i64 0, .slice none 0 0] rfl rfl rfl rfl builtE rfl rfl o1 (by kernel_rfl) rfl (cells5 _ _ _ _ _) ?_))
      refine bodyPost_ret (results_row_tmp rfl _ _ g0 52 _ (0, 0) _ rfl (o1.setRow _) Try.underlying52 rfl (by kernel_rfl)) rfl ?_
      unfold FindPost foundE
      rw [HD.out]
      exact ⟨none, 0, rfl, El.At.none _ _ _ _ _, (Just.setRow _ _ _).below b1' (by rw [HG.out]; exact Nat.le_refl _) b1'.size⟩
end Go.Proofs.Ytoconkgemakboaa.Ie
