/-
  Package ie (chapter 6) and the reference: the first element of a kind. Package ie (chapter 6): an element decoded. Package ie (chapter 6): elements that come in; bytes as a text; which are light; an element that every program must know.
-/
import Derived.Test.YtiflmdekcjbmbaaGreatGNodeWaits19
import Derived.Test.YtiflmdekcjbmbaaGreatGNodeWaits17
import Derived.Deep.Strs
import Derived.Lib.SmallJoins
set_option maxRecDepth 100000
namespace Go.Proofs.YtiflmdekcjbmbaaGreat.Ie
set_option linter.unusedVariables false
set_option linter.unusedSimpArgs false
open Go.RowKit Lb Go.Shelf

def zE : El := ⟨0, 0, 0, 0, []⟩
def fstE (L : List El) (kind : Int) : Option El := L.find? (fun e => e.k == kind)
def foundE (L : List El) (kind : Int) : El := (fstE L kind).getD zE
def FindPost (L : List El) (kind : Int) (w : World) (r : Ending) (w' : World) : Prop :=
  ∃ a c, r = .returned (.tuple #[.agg ((foundE L kind).vals a c), .bool (fstE L kind).isSome]) ∧ (foundE L kind).At w' a c ∧ Below w.heap.size w w'
theorem fst_no {L : List EP} {kind : Int} (h : ∀ j, j < L.length → (L.getD j ep0).e.k ≠ kind) : fstE (els L) kind = none := by
  unfold fstE
  rw [List.find?_eq_none]
  intro x hx
  obtain ⟨i, hi, rfl⟩ := List.getElem_of_mem hx
  rw [els_len] at hi
  rw [els_at hi rfl]
  simpa using h i hi
theorem fst_yes {L : List EP} {kind : Int} {k : Nat} (hk : k < L.length) (h : (L.getD k ep0).e.k = kind) (hno : ∀ j, j < k → (L.getD j ep0).e.k ≠ kind) : fstE (els L) kind = some (L.getD k ep0).e := by
  unfold fstE
  rw [List.find?_eq_some_iff_getElem]
  refine ⟨by simpa using h, k, by rw [els_len]; exact hk, els_at hk rfl, fun j hj => ?_⟩
  rw [els_at (by omega) rfl]
  simpa using hno j hj
theorem row_none' {w : World} {a : Option Addr} {n : Nat} {V : Nat → Value} (h : Row w a n V) : a = none → n = 0 := fun e => by
  by_cases h0 : n = 0
  · exact h0
  · obtain ⟨_, _, h1, _⟩ := h (by omega)
    rw [e] at h1
    cases h1
theorem builtE : Tryz.prog.built 59 [] = some #[.int .i64 0, .int .i64 0, .int .i64 0, .int .i64 0, .slice none 0 0] := by kernel_rfl
theorem cells5 (a b c d : Int) (p : Option Addr) {n m : Nat} : (#[.int .i64 a, .int .i64 b, .int .i64 c, .int .i64 d, .slice p n m] : Array Value).all (·.oneCell') = true := by
  simp [Value.oneCell']
set_option maxHeartbeats 1000000 in
theorem find_any (L : List EP) (a : Option Addr) (c : Nat) (kind : Int) (w : World) (h : Els w L a c) (hm : ∀ k, k < L.length → (L.getD k ep0).e.list.length ≤ 1000000) :
    Calls Tryz.prog 93 #[.slice a L.length c, .int .i64 kind] w (FindPost (els L) kind w) := by
  have hlc := h.lc
  have hcm := h.cm
  unfold maxLen at hcm
  have hrow := h.row
  have hels := Lib.hid h.els
  have HM := Lib.hid hm
  clear h hm
  obtain ⟨n, hn⟩ : ∃ n, L.length = n := ⟨_, rfl⟩
  have HN := Lib.hid hn
  rw [hn] at hlc hrow ⊢
  clear hn
  have o0 := Own.new w 59 #[.int .i64 0, .int .i64 0, .int .i64 0, .int .i64 0, .slice none 0 0]
  have b0 := (Below.refl w.heap.size w).alloc (Nat.le_refl _) (.cells #[.int .i64 0, .int .i64 0, .int .i64 0, .int .i64 0, .slice none 0 0] 59)
  go_enter Tryz.func93, Tryz.ntmps93
  go_upto_region 1 with (fail)
  generalize w.alloc (.cells #[.int .i64 0, .int .i64 0, .int .i64 0, .int .i64 0, .slice none 0 0] 59) = w1 at *
  obtain ⟨g0, hg0⟩ : ∃ g, w.heap.size = g := ⟨_, rfl⟩
  rw [hg0] at o0 b0 ⊢
  have HG := Lib.hid hg0
  clear hg0
  go_wp2_with fail
  go_loopw [10] (fun i wr => ∃ (k : Nat), i = .int .i64 k ∧ k ≤ n ∧ Hid (∀ j, j < k → (L.getD j ep0).e.k ≠ kind) ∧ Lb.Own wr g0 59 #[.int .i64 0, .int .i64 0, .int .i64 0, .int .i64 0, .slice none 0 0] ∧ Below g0 w wr) (fun i _ => n - (intOf i).toNat)
  case atStart => exact ⟨0, rfl, by omega, Lib.hid (fun j hj => by omega), o0, b0⟩
  case round =>
    clear o0 b0
    obtain ⟨k, rfl, hk, HE, o1, b1⟩ := hrel
    have b1' : Below w.heap.size w wr := by rw [HG.out]; exact b1
    by_cases hlt : k < n
    · obtain ⟨x, hx⟩ : ∃ x, L.getD k ep0 = x := ⟨_, rfl⟩
      obtain ⟨pb, po, rfl, hpb, x0, x1, x2, x3, x4⟩ := erow hrow b1' hlt hx
      have hat := hels.out k (by rw [HN.out]; exact hlt)
      rw [hx] at hat
      have hm := HM.out k (by rw [HN.out]; exact hlt)
      rw [hx] at hm
      have HX := Lib.hid hx
      clear hx
      obtain ⟨⟨ek, easn, erank, et, el⟩, ea, ec⟩ := x
      simp only at x0 x1 x2 x3 x4 hat hm
      have hat1 := hat.below b1'
      have o2 := Own.new wr 59 #[.int .i64 ek, .int .i64 easn, .int .i64 erank, .int .i64 et, .slice ea el.length ec]
      have b2 := (Below.refl wr.heap.size wr).alloc (Nat.le_refl _) (.cells #[.int .i64 ek, .int .i64 easn, .int .i64 erank, .int .i64 et, .slice ea el.length ec] 59)
      have b3 := b1.trans (b2.mono (by have := o1.lt; omega))
      have hat2 := hat1.below b2
      have o3 := below_own b2 o1 o1.lt
      have hgg := o1.lt
      go_upto_region 4 with (fail)
      generalize wr.alloc (.cells #[.int .i64 ek, .int .i64 easn, .int .i64 erank, .int .i64 et, .slice ea el.length ec] 59) = w2 at *
      obtain ⟨g, hg⟩ : ∃ g, wr.heap.size = g := ⟨_, rfl⟩
      rw [hg] at o2 hgg ⊢
      clear hg x0 x1 x2 x3 x4 o1 b1 b1' b2 hat hat1
      have x0 : w2.cell? ⟨g, 0, none⟩ = some (.int .i64 ek) := o2.cell 0
      have x4 : w2.cell? ⟨g, 4, none⟩ = some (.slice ea el.length ec) := o2.cell 4
      have x4f := o2.free 4
      by_cases hkk : ek = kind
      · have g1 : (ek == kind) = true := by simpa using hkk
        have HD : Hid (fstE (els L) kind = some ⟨ek, easn, erank, et, el⟩) := Lib.hid (by
          have := fst_yes (L := L) (kind := kind) (k := k) (by rw [HN.out]; exact hlt) (by rw [HX.out]; exact hkk) HE.out
          rw [HX.out] at this
          exact this)
        clear hkk
        have hsg := o2.lt
        go_wp2_with fail
        refine (cloneI_any ea ec el w2 hm hat2.row hat2.nil).mono ?_
        rintro r w3 ⟨v, rfl, hV, b4⟩
        obtain ⟨a3, c3, rfl, l1, l2, R3⟩ := hV.row
        have p2 := below_own b4 o2 o2.lt
        have p3 := below_own b4 o3 o3.lt
        have b5 := b3.trans (b4.mono (by have := o3.lt; omega))
        have y4 : w3.cell? ⟨g, 4, none⟩ = some (.slice ea el.length ec) := p2.cell 4
        have y4f := p2.free 4
        have q2 : Lb.Own (w3.setCell ⟨g, 4, none⟩ (.slice a3 el.length c3)) g 59 #[.int .i64 ek, .int .i64 easn, .int .i64 erank, .int .i64 et, .slice a3 el.length c3] := p2.put 4 _
        have q3 := p3.apart (p := ⟨g, 4, none⟩) (by simp; omega) (.slice a3 el.length c3)
        have hV2 := hV.just (Just.set g w3 4 (.slice a3 el.length c3)) (by omega)
        have b6 := (Just.set g w3 4 (.slice a3 el.length c3)).below b5 (by omega) (by have := p3.lt; omega)
        clear x0 x4 x4f o2 o3 b3 b4 hV R3 hat2
        go_upto_region 6 with (fail)
        generalize w3.setCell ⟨g, 4, none⟩ (.slice a3 el.length c3) = w4 at *
        clear p2 p3 b5 y4 y4f
        go_wp2_with (first | (refine wpList_load_row rfl _ _ rfl g rfl 59 #[.int .i64 ek, .int .i64 easn, .int .i64 erank, .int .i64 et, .slice a3 el.length c3] (0, 0) _ q2 Tryz.underlying59 rfl (by kernel_rfl) ?_) | (refine wpList_store_row rfl _ _ _ rfl g0 #[.int .i64 ek, .int .i64 easn, .int .i64 erank, .int .i64 et, .slice a3 el.length c3] rfl rfl 59 _ q3 (by kernel_rfl) rfl (cells5 _ _ _ _ _) ?_))
        refine bodyPost_ret (results_row_tmp rfl _ _ g0 59 _ (0, 0) _ rfl (q3.setRow _) Tryz.underlying59 rfl (by kernel_rfl)) rfl ?_
        unfold FindPost foundE
        rw [HD.out]
        refine ⟨a3, c3, rfl, ?_, ?_⟩
        · have hV3 := hV2.just (Just.setRow g0 w4 #[.int .i64 ek, .int .i64 easn, .int .i64 erank, .int .i64 et, .slice a3 el.length c3]) (by omega)
          exact ⟨l1, l2, hV3.rowAt, row_none' hV3.rowAt⟩
        · rw [HG.out]
          exact (Just.setRow _ _ _).below b6 (Nat.le_refl _) (Nat.le_of_lt q3.lt)
      · have g1 : (ek == kind) = false := by simpa using hkk
        have HE2 : Hid (∀ j, j < k + 1 → (L.getD j ep0).e.k ≠ kind) := Lib.hid (fun j hj => by
          by_cases e : j = k
          · subst e; rw [HX.out]; exact hkk
          · exact HE.out j (by omega))
        clear hkk
        go_wp2_with fail
        exact ⟨⟨k + 1, by simp, by omega, HE2, o3, b3⟩, by simp [intOf]; omega⟩
    · obtain rfl : n = k := by omega
      have HD : Hid (fstE (els L) kind = none) := Lib.hid (fst_no (by rw [HN.out]; exact HE.out))
      go_wp2_with (first | (refine wpList_build_store #[.int .i64 0, .int .i64 0, .int .i64 0, .int .i64 0, .slice none 0 0] rfl rfl rfl rfl builtE rfl rfl o1 (by kernel_rfl) rfl (cells5 _ _ _ _ _) ?_))
      refine bodyPost_ret (results_row_tmp rfl _ _ g0 59 _ (0, 0) _ rfl (o1.setRow _) Tryz.underlying59 rfl (by kernel_rfl)) rfl ?_
      unfold FindPost foundE
      rw [HD.out]
      exact ⟨none, 0, rfl, El.At.none _ _ _ _ _, (Just.setRow _ _ _).below b1' (by rw [HG.out]; exact Nat.le_refl _) b1'.size⟩
set_option maxHeartbeats 1000000 in
theorem rfind_any (L : List EP) (a : Option Addr) (c : Nat) (kind : Int) (w : World) (h : Els w L a c) (hm : ∀ k, k < L.length → (L.getD k ep0).e.list.length ≤ 1000000) :
    Calls Tryz.prog 96 #[.slice a L.length c, .int .i64 kind] w (FindPost (els L) kind w) := by
  have hlc := h.lc
  have hcm := h.cm
  unfold maxLen at hcm
  have hrow := h.row
  have hels := Lib.hid h.els
  have HM := Lib.hid hm
  clear h hm
  obtain ⟨n, hn⟩ : ∃ n, L.length = n := ⟨_, rfl⟩
  have HN := Lib.hid hn
  rw [hn] at hlc hrow ⊢
  clear hn
  have o0 := Own.new w 59 #[.int .i64 0, .int .i64 0, .int .i64 0, .int .i64 0, .slice none 0 0]
  have b0 := (Below.refl w.heap.size w).alloc (Nat.le_refl _) (.cells #[.int .i64 0, .int .i64 0, .int .i64 0, .int .i64 0, .slice none 0 0] 59)
  go_enter Tryz.func96, Tryz.ntmps96
  go_upto_region 1 with (fail)
  generalize w.alloc (.cells #[.int .i64 0, .int .i64 0, .int .i64 0, .int .i64 0, .slice none 0 0] 59) = w1 at *
  obtain ⟨g0, hg0⟩ : ∃ g, w.heap.size = g := ⟨_, rfl⟩
  rw [hg0] at o0 b0 ⊢
  have HG := Lib.hid hg0
  clear hg0
  go_wp2_with fail
  go_loopw [10] (fun i wr => ∃ (k : Nat), i = .int .i64 k ∧ k ≤ n ∧ Hid (∀ j, j < k → (L.getD j ep0).e.k ≠ kind) ∧ Lb.Own wr g0 59 #[.int .i64 0, .int .i64 0, .int .i64 0, .int .i64 0, .slice none 0 0] ∧ Below g0 w wr) (fun i _ => n - (intOf i).toNat)
  case atStart => exact ⟨0, rfl, by omega, Lib.hid (fun j hj => by omega), o0, b0⟩
  case round =>
    clear o0 b0
    obtain ⟨k, rfl, hk, HE, o1, b1⟩ := hrel
    have b1' : Below w.heap.size w wr := by rw [HG.out]; exact b1
    by_cases hlt : k < n
    · obtain ⟨x, hx⟩ : ∃ x, L.getD k ep0 = x := ⟨_, rfl⟩
      obtain ⟨pb, po, rfl, hpb, x0, x1, x2, x3, x4⟩ := erow hrow b1' hlt hx
      have hat := hels.out k (by rw [HN.out]; exact hlt)
      rw [hx] at hat
      have hm := HM.out k (by rw [HN.out]; exact hlt)
      rw [hx] at hm
      have HX := Lib.hid hx
      clear hx
      obtain ⟨⟨ek, easn, erank, et, el⟩, ea, ec⟩ := x
      simp only at x0 x1 x2 x3 x4 hat hm
      have hat1 := hat.below b1'
      have o2 := Own.new wr 59 #[.int .i64 ek, .int .i64 easn, .int .i64 erank, .int .i64 et, .slice ea el.length ec]
      have b2 := (Below.refl wr.heap.size wr).alloc (Nat.le_refl _) (.cells #[.int .i64 ek, .int .i64 easn, .int .i64 erank, .int .i64 et, .slice ea el.length ec] 59)
      have b3 := b1.trans (b2.mono (by have := o1.lt; omega))
      have hat2 := hat1.below b2
      have o3 := below_own b2 o1 o1.lt
      have hgg := o1.lt
      go_upto_region 4 with (fail)
      generalize wr.alloc (.cells #[.int .i64 ek, .int .i64 easn, .int .i64 erank, .int .i64 et, .slice ea el.length ec] 59) = w2 at *
      obtain ⟨g, hg⟩ : ∃ g, wr.heap.size = g := ⟨_, rfl⟩
      rw [hg] at o2 hgg ⊢
      clear hg x0 x1 x2 x3 x4 o1 b1 b1' b2 hat1
      have x0 : w2.cell? ⟨g, 0, none⟩ = some (.int .i64 ek) := o2.cell 0
      have x4 : w2.cell? ⟨g, 4, none⟩ = some (.slice ea el.length ec) := o2.cell 4
      have x4f := o2.free 4
      by_cases hkk : ek = kind
      · have g1 : (ek == kind) = true := by simpa using hkk
        have HD : Hid (fstE (els L) kind = some ⟨ek, easn, erank, et, el⟩) := Lib.hid (by
          have := fst_yes (L := L) (kind := kind) (k := k) (by rw [HN.out]; exact hlt) (by rw [HX.out]; exact hkk) HE.out
          rw [HX.out] at this
          exact this)
        clear hkk
        go_wp2_with (first | (refine wpList_load_row rfl _ _ rfl g rfl 59 #[.int .i64 ek, .int .i64 easn, .int .i64 erank, .int .i64 et, .slice ea el.length ec] (0, 0) _ o2 Tryz.underlying59 rfl (by kernel_rfl) ?_) | (refine wpList_store_row rfl _ _ _ rfl g0 #[.int .i64 ek, .int .i64 easn, .int .i64 erank, .int .i64 et, .slice ea el.length ec] rfl rfl 59 _ o3 (by kernel_rfl) rfl (cells5 _ _ _ _ _) ?_))
        refine bodyPost_ret (results_row_tmp rfl _ _ g0 59 _ (0, 0) _ rfl (o3.setRow _) Tryz.underlying59 rfl (by kernel_rfl)) rfl ?_
        unfold FindPost foundE
        rw [HD.out]
        have b9 := (Just.setRow g0 w2 #[.int .i64 ek, .int .i64 easn, .int .i64 erank, .int .i64 et, .slice ea el.length ec]).below b3 (Nat.le_refl _) (Nat.le_of_lt o3.lt)
        refine ⟨ea, ec, rfl, hat.below (by rw [HG.out]; exact b9), by rw [HG.out]; exact b9⟩
      · have g1 : (ek == kind) = false := by simpa using hkk
        have HE2 : Hid (∀ j, j < k + 1 → (L.getD j ep0).e.k ≠ kind) := Lib.hid (fun j hj => by
          by_cases e : j = k
          · subst e; rw [HX.out]; exact hkk
          · exact HE.out j (by omega))
        clear hkk
        go_wp2_with fail
        exact ⟨⟨k + 1, by simp, by omega, HE2, o3, b3⟩, by simp [intOf]; omega⟩
    · obtain rfl : n = k := by omega
      have HD : Hid (fstE (els L) kind = none) := Lib.hid (fst_no (by rw [HN.out]; exact HE.out))
      go_wp2_with (first | (refine wpList_build_store #[.int .i64 0, .int .i64 0, .int .i64 0, .int .i64 0, .slice none 0 0] rfl rfl rfl rfl builtE rfl rfl o1 (by kernel_rfl) rfl (cells5 _ _ _ _ _) ?_))
      refine bodyPost_ret (results_row_tmp rfl _ _ g0 59 _ (0, 0) _ rfl (o1.setRow _) Tryz.underlying59 rfl (by kernel_rfl)) rfl ?_
      unfold FindPost foundE
      rw [HD.out]
      exact ⟨none, 0, rfl, El.At.none _ _ _ _ _, (Just.setRow _ _ _).below b1' (by rw [HG.out]; exact Nat.le_refl _) b1'.size⟩
end Go.Proofs.YtiflmdekcjbmbaaGreat.Ie
set_option maxRecDepth 100000
namespace Go.Proofs.YtiflmdekcjbmbaaGreat.Ie
set_option linter.unusedVariables false
set_option linter.unusedSimpArgs false
open Go.RowKit Lb Go.Shelf Bf

theorem Row.just {w w' : World} {a : Option Addr} {g n : Nat} {V : Nat → Value} (h : Row w a n V) (j : Just g w w') (hne : ∀ p, a = some p → p.block ≠ g) : Row w' a n V := by
  intro hn
  obtain ⟨b, off, rfl, h1, h2⟩ := h hn
  refine ⟨b, off, rfl, Nat.lt_of_lt_of_le h1 j.size, fun i hi => ?_⟩
  exact (World.cell?_of_block (a := ⟨b, off + i, none⟩) (j.block b h1 (hne _ rfl))).trans (h2 i hi)
theorem Just.more {b g : Nat} {w w1 w2 : World} (h : Just b w w1) (j : Just g w1 w2) (hg : w.heap.size ≤ g) : Just b w w2 :=
  ⟨j.os.trans h.os, j.tape.trans h.tape, j.output.trans h.output, Nat.le_trans h.size j.size, fun k hk hb => (j.block k (Nat.lt_of_lt_of_le hk h.size) (by omega)).trans (h.block k hk hb)⟩
theorem Rh.just {w w' : World} {base H b g : Nat} {l : List Int} {err : Int} (h : Rh w base H b l err) (j : Just g w w') (hg : H ≤ g) (hH : H ≤ w.heap.size) : Rh w' base H b l err := h.kept (j.below (Below.refl _ _) hg hH)
theorem El.At.just {w w' : World} {e : El} {a : Option Addr} {c g : Nat} (h : e.At w a c) (j : Just g w w') (hne : ∀ p, a = some p → p.block ≠ g) : e.At w' a c := ⟨h.lc, h.cm, Row.just h.row j hne, h.nil⟩
theorem itake_nil (base H b : Nat) (err : Int) (w : World) (h : Rh w base H b [] err) :
    Calls Tryz.prog 216 #[.pointer (some ⟨b, 0, none⟩)] w fun r w' => r = .returned (.tuple #[.int .i64 0, .bool false]) ∧ Just b w w' :=
  (itake_any base H b [] err w h (fun x hx => by cases hx)).mono fun _ _ h => ⟨h.1, h.2.2⟩
theorem itake_cons (base H b : Nat) (k : Int) (L : List Int) (err : Int) (w : World) (h : Rh w base H b (k :: L) err) (hd : okD' (k :: L)) :
    Calls Tryz.prog 216 #[.pointer (some ⟨b, 0, none⟩)] w fun r w' => r = .returned (.tuple #[.int .i64 k, .bool true]) ∧ Rh w' base H b L err ∧ Just b w w' := by
  refine (itake_any base H b (k :: L) err w h hd).mono ?_
  rintro r w' ⟨rfl, h1, h2⟩
  unfold lft er at h1
  rw [if_neg (by simp), if_neg (by simp)] at h1
  exact ⟨by simp, h1, h2⟩
theorem plain_of (k : Int) (xs : List Int) (a : Option Addr) (c : Nat) (w : World) (hk : 1 ≤ k ∧ k ≤ 4) (h : (elOf k xs).At w a c) :
    Calls Tryz.prog 212 #[fromV (elOf k xs) a c] w fun r w' => ∃ a' c', r = .returned (.agg ((elOf k xs).vals a' c')) ∧ (elOf k xs).At w' a' c' ∧ (∀ p, a' = some p → a = some p) ∧ Below w.heap.size w w' := by
  rcases (show k = 1 ∨ k = 2 ∨ k = 3 ∨ k = 4 by omega) with rfl | rfl | rfl | rfl
  · refine (plain1 _ _ w).mono ?_
    rintro r w' ⟨rfl, b1⟩
    exact ⟨none, 0, rfl, El.At.none _ _ _ _ _, fun p e => (by cases e), b1⟩
  · refine (plain2 _ w).mono ?_
    rintro r w' ⟨rfl, b1⟩
    exact ⟨none, 0, rfl, El.At.none _ _ _ _ _, fun p e => (by cases e), b1⟩
  · refine (plain3 a xs.length c w).mono ?_
    rintro r w' ⟨rfl, b1⟩
    exact ⟨a, c, rfl, h.below b1, fun p e => e, b1⟩
  · refine (plain4 a xs.length c w).mono ?_
    rintro r w' ⟨rfl, b1⟩
    exact ⟨a, c, rfl, h.below b1, fun p e => e, b1⟩
def OnePost (base H b : Nat) (L : List Int) (err : Int) (w : World) (r : Ending) (w' : World) : Prop :=
  match dec1 L with
  | .ok (e, R) => ∃ a c, r = .returned (.tuple #[.agg (e.vals a c), .int .i64 0]) ∧ e.At w' a c ∧ (∀ p, a = some p → w.heap.size ≤ p.block) ∧ Rh w' base H b R err ∧ Just b w w'
  | .error x => r = .returned (.tuple #[.agg (zE.vals none 0), .int .i64 x]) ∧ Just b w w'
set_option maxHeartbeats 2000000 in
theorem one_any (base H b : Nat) (L : List Int) (err : Int) (w : World) (h : Rh w base H b L err) (hd : okD' L) (hH : H ≤ w.heap.size) :
    Calls Tryz.prog 217 #[.pointer (some ⟨b, 0, none⟩)] w (OnePost base H b L err w) := by
  have o0 := Own.new w 59 #[.int .i64 0, .int .i64 0, .int .i64 0, .int .i64 0, .slice none 0 0]
  have b0 := (Below.refl w.heap.size w).alloc (Nat.le_refl _) (.cells #[.int .i64 0, .int .i64 0, .int .i64 0, .int .i64 0, .slice none 0 0] 59)
  have j0 : Just b w (w.alloc (.cells #[.int .i64 0, .int .i64 0, .int .i64 0, .int .i64 0, .slice none 0 0] 59)) := (Just.refl b w).alloc _
  have h0 := h.kept (b0.mono hH)
  have hbz : b < w.heap.size := Nat.lt_of_lt_of_le h.lt hH
  cases L with
  | nil =>
    have HD : Hid (dec1 [] = .error 2) := Lib.hid rfl
    go_enter Tryz.func217, Tryz.ntmps217
    go_upto_region 1 with (fail)
    generalize w.alloc (.cells #[.int .i64 0, .int .i64 0, .int .i64 0, .int .i64 0, .slice none 0 0] 59) = w1 at *
    go_wp2_with fail
    refine (itake_nil base H b err w1 h0).mono ?_
    rintro r w2 ⟨rfl, j2⟩
    have o2 := j2.own o0 (by omega)
    go_wp2_with (first | (refine wpList_build_store #[.int .i64 0, .int .i64 0, .int .i64 0, .int .i64 0, .slice none 0 0] rfl rfl rfl rfl builtE rfl rfl o2 (by kernel_rfl) rfl (cells5 _ _ _ _ _) ?_))
    refine bodyPost_ret (results_row_tmp rfl _ _ w.heap.size 59 _ (0, 0) _ rfl (o2.setRow _) Tryz.underlying59 rfl (by kernel_rfl)) rfl ?_
    unfold OnePost
    rw [HD.out]
    exact ⟨rfl, Just.more (j0.trans j2) (Just.setRow _ _ _) (Nat.le_refl _)⟩

  | cons k L1 =>
    have hsz : w.heap.size < (w.alloc (.cells #[.int .i64 0, .int .i64 0, .int .i64 0, .int .i64 0, .slice none 0 0] 59)).heap.size := by simp
    have hkb := hd k (by simp)
    have hd1 : okD' L1 := fun x hx => hd x (by simp [hx])
    have HDD := Lib.hid hd
    clear hd
    go_enter Tryz.func217, Tryz.ntmps217
    go_upto_region 1 with (fail)
    generalize w.alloc (.cells #[.int .i64 0, .int .i64 0, .int .i64 0, .int .i64 0, .slice none 0 0] 59) = w1 at *
    go_wp2_with fail
    refine (itake_cons base H b k L1 err w1 h0 HDD.out).mono ?_
    rintro r w2 ⟨rfl, h2, j2⟩
    have o2 := j2.own o0 (by omega)
    have jj2 := j0.trans j2
    have hs2 : w.heap.size < w2.heap.size := Nat.lt_of_lt_of_le hsz j2.size
    clear h0 o0 j0 b0 j2 hsz HDD
    by_cases hk : k < 1 ∨ 4 < k
    · have HD : Hid (dec1 (k :: L1) = .error 3) := Lib.hid (by unfold dec1; simp only; rw [if_pos hk])
      by_cases hk1 : k < 1
      · have g1 : decide (k < 1) = true := by simpa using hk1
        clear hk hk1
        go_wp2_with (first | (refine wpList_build_store #[.int .i64 0, .int .i64 0, .int .i64 0, .int .i64 0, .slice none 0 0] rfl rfl rfl rfl builtE rfl rfl o2 (by kernel_rfl) rfl (cells5 _ _ _ _ _) ?_))
        refine bodyPost_ret (results_row_tmp rfl _ _ w.heap.size 59 _ (0, 0) _ rfl (o2.setRow _) Tryz.underlying59 rfl (by kernel_rfl)) rfl ?_
        unfold OnePost
        rw [HD.out]
        exact ⟨rfl, Just.more jj2 (Just.setRow _ _ _) (Nat.le_refl _)⟩

      · have g1 : decide (k < 1) = false := by simpa using hk1
        have g2 : decide (4 < k) = true := by simp; omega
        clear hk hk1
        go_wp2_with (first | (refine wpList_build_store #[.int .i64 0, .int .i64 0, .int .i64 0, .int .i64 0, .slice none 0 0] rfl rfl rfl rfl builtE rfl rfl o2 (by kernel_rfl) rfl (cells5 _ _ _ _ _) ?_))
        refine bodyPost_ret (results_row_tmp rfl _ _ w.heap.size 59 _ (0, 0) _ rfl (o2.setRow _) Tryz.underlying59 rfl (by kernel_rfl)) rfl ?_
        unfold OnePost
        rw [HD.out]
        exact ⟨rfl, Just.more jj2 (Just.setRow _ _ _) (Nat.le_refl _)⟩

    · have g1 : decide (k < 1) = false := by simp; omega
      have g2 : decide (4 < k) = false := by simp; omega
      have HK := Lib.hid hk
      have hk14 : 1 ≤ k ∧ k ≤ 4 := by omega
      clear hk
      cases L1 with
      | nil =>
        have HD : Hid (dec1 [k] = .error 2) := Lib.hid (by unfold dec1; simp only; rw [if_neg HK.out])
        go_wp2_with fail
        refine (itake_nil base H b err w2 h2).mono ?_
        rintro r w3 ⟨rfl, j3⟩
        have o3 := j3.own o2 (by omega)
        go_wp2_with (first | (refine wpList_build_store #[.int .i64 0, .int .i64 0, .int .i64 0, .int .i64 0, .slice none 0 0] rfl rfl rfl rfl builtE rfl rfl o3 (by kernel_rfl) rfl (cells5 _ _ _ _ _) ?_))
        refine bodyPost_ret (results_row_tmp rfl _ _ w.heap.size 59 _ (0, 0) _ rfl (o3.setRow _) Tryz.underlying59 rfl (by kernel_rfl)) rfl ?_
        unfold OnePost
        rw [HD.out]
        exact ⟨rfl, Just.more (jj2.trans j3) (Just.setRow _ _ _) (Nat.le_refl _)⟩

      | cons s L2 =>
        have hsb := hd1 s (by simp)
        have hd2 : okD' L2 := fun x hx => hd1 x (by simp [hx])
        have HDD := Lib.hid hd1
        clear hd1
        go_wp2_with fail
        refine (itake_cons base H b s L2 err w2 h2 HDD.out).mono ?_
        rintro r w3 ⟨rfl, h3, j3⟩
        have o3 := j3.own o2 (by omega)
        have jj3 := jj2.trans j3
        have hs3 : w.heap.size < w3.heap.size := Nat.lt_of_lt_of_le hs2 j3.size
        clear h2 o2 jj2 j3 hs2 HDD
        obtain ⟨n, rfl⟩ : ∃ n : Nat, s = (n : Int) := ⟨s.toNat, by omega⟩
        cases hsz : sizeB k (n : Int)
        · have HD : Hid (dec1 (k :: (n : Int) :: L2) = .error 3) := Lib.hid (by unfold dec1; simp only; rw [if_neg HK.out, if_pos hsz])
          have HS := Lib.hid hsz
          clear hsz
          go_wp2_with fail
          refine (sizef_any k (n : Int) w3).mono ?_
          rintro r w' ⟨rfl, rfl⟩
          rw [HS.out]
          go_wp2_with (first | (refine wpList_build_store #[.int .i64 0, .int .i64 0, .int .i64 0, .int .i64 0, .slice none 0 0] rfl rfl rfl rfl builtE rfl rfl o3 (by kernel_rfl) rfl (cells5 _ _ _ _ _) ?_))
          refine bodyPost_ret (results_row_tmp rfl _ _ w.heap.size 59 _ (0, 0) _ rfl (o3.setRow _) Tryz.underlying59 rfl (by kernel_rfl)) rfl ?_
          unfold OnePost
          rw [HD.out]
          exact ⟨rfl, Just.more jj3 (Just.setRow _ _ _) (Nat.le_refl _)⟩

        · have HS := Lib.hid hsz
          clear hsz
          have hl := lefth_any base H b L2 err w3 h3
          obtain ⟨m, hm⟩ : ∃ m, L2.length = m := ⟨_, rfl⟩
          rw [hm] at hl
          have HM := Lib.hid hm
          have HL := Lib.hid hl
          clear hl hm
          have hmb : m ≤ 100000 := by
            obtain ⟨_, j, q, Z, v, _, _, h1, h2, _⟩ := h3
            have := HM.out
            omega
          by_cases hlt : m < n
          · have HD : Hid (dec1 (k :: (n : Int) :: L2) = .error 2) := Lib.hid (by
              unfold dec1
              simp only
              rw [if_neg HK.out, if_neg (by rw [HS.out]; simp), if_pos (by rw [HM.out]; simpa using hlt)])
            have g3 : decide (8 * (m : Int) < (n : Int) * 8) = true := by simp; omega
            go_wp2_with fail
            refine (sizef_any k (n : Int) w3).mono ?_
            rintro r w' ⟨rfl, rfl⟩
            rw [HS.out]
            go_wp2_with fail
            refine HL.out.mono ?_
            rintro r w4 ⟨rfl, q, rfl⟩
            have o4 := o3.drewN q
            have jj4 := jj3.drewN q
            go_wp2_with (first | (refine wpList_build_store #[.int .i64 0, .int .i64 0, .int .i64 0, .int .i64 0, .slice none 0 0] rfl rfl rfl rfl builtE rfl rfl o4 (by kernel_rfl) rfl (cells5 _ _ _ _ _) ?_))
            refine bodyPost_ret (results_row_tmp rfl _ _ w.heap.size 59 _ (0, 0) _ rfl (o4.setRow _) Tryz.underlying59 rfl (by kernel_rfl)) rfl ?_
            unfold OnePost
            rw [HD.out]
            exact ⟨rfl, Just.more jj4 (Just.setRow _ _ _) (Nat.le_refl _)⟩

          · have HD : Hid (dec1 (k :: (n : Int) :: L2) = .ok (elOf k (L2.take n), L2.drop n)) := Lib.hid (by
              unfold dec1
              simp only
              rw [if_neg HK.out, if_neg (by rw [HS.out]; simp), if_neg (by rw [HM.out]; simpa using hlt)]
              simp)
            have g3 : decide (8 * (m : Int) < (n : Int) * 8) = false := by simp; omega
            go_wp2_with fail
            refine (sizef_any k (n : Int) w3).mono ?_
            rintro r w' ⟨rfl, rfl⟩
            rw [HS.out]
            go_wp2_with fail
            refine HL.out.mono ?_
            rintro r w4 ⟨rfl, q, rfl⟩
            have o4 := o3.drewN q
            have jj4 := jj3.drewN q
            have h4 := h3.drewN q
            have hH4 : H ≤ (w3.drewN q).heap.size := by show H ≤ w3.heap.size; omega
            have hs4 : w.heap.size < (w3.drewN q).heap.size := hs3
            clear o3 jj3 h3 HL hs3
            go_wp2_with fail
            generalize w3.drewN q = w5 at *
            refine (read_any base H b L2 err k n w5 h4 hd2 hk14 HS.out (by rw [HM.out]; omega) hH4).mono ?_
            rintro r w6 ⟨a, c, rfl, hat, hap, h6, j6⟩
            have o6 := j6.own o4 (by omega)
            have jj6 := jj4.trans j6
            go_wp2_with fail
            refine (plain_of k (L2.take n) a c w6 hk14 hat).mono ?_
            rintro r w7 ⟨a', c', rfl, hat7, hap7, b7⟩
            have o7 := below_own b7 o6 o6.lt
            have h7 := h6.kept (b7.mono (by have := j6.size; omega))
            have jj7 : Just b w w7 := jj6.trans ⟨b7.os, b7.tape, b7.output, b7.size, fun i hi _ => b7.block i hi⟩
            have hap8 : ∀ p, a' = some p → w.heap.size < p.block := fun p e => Nat.lt_of_lt_of_le hs4 (hap p (hap7 p e))
            have hH7 : H ≤ w7.heap.size := by have := j6.size; have := b7.size; omega
            clear hat hap hap7 h4 h6 j6 jj4 jj6 o4 o6 b7
            obtain ⟨e, he⟩ : ∃ e, elOf k (L2.take n) = e := ⟨_, rfl⟩
            rw [he] at hat7 HD
            rw [he]
            obtain ⟨ek, ea, er, et, el⟩ := e
            unfold El.vals
            simp only
            go_wp2_with (first | (refine wpList_store_row rfl _ _ _ rfl w.heap.size #[.int .i64 ek, .int .i64 ea, .int .i64 er, .int .i64 et, .slice a' el.length c'] rfl rfl 59 _ o7 (by kernel_rfl) rfl (cells5 _ _ _ _ _) ?_))
            refine bodyPost_ret (results_row_tmp rfl _ _ w.heap.size 59 _ (0, 0) _ rfl (o7.setRow _) Tryz.underlying59 rfl (by kernel_rfl)) rfl ?_
            unfold OnePost
            rw [HD.out]
            exact ⟨a', c', rfl, El.At.just hat7 (Just.setRow _ _ _) (fun p e => by have := hap8 p e; omega), fun p e => Nat.le_of_lt (hap8 p e), Rh.just h7 (Just.setRow _ _ _) hH hH7, Just.more jj7 (Just.setRow _ _ _) (Nat.le_refl _)⟩
end Go.Proofs.YtiflmdekcjbmbaaGreat.Ie
set_option maxRecDepth 100000
namespace Go.Proofs.YtiflmdekcjbmbaaGreat.Ie
set_option linter.unusedVariables false
set_option linter.unusedSimpArgs false
open Go.RowKit Go.ChangeShapes Go.WideShapes Go.ChangeAt Go.Deep Lb Bf

section
variable {H : Type} {enc : TypeId × Value → H} {w : World} {base : Nat}
theorem list_of (n : Nat) (Z : Nat → Int) : ∃ l : List Int, l.length = n ∧ ∀ i, i < n → l.getD i 0 = Z i :=
  ⟨(List.range n).map Z, by simp, fun i hi => by simp [List.getD, hi]⟩
theorem row_z {w : World} {a : Option Addr} {n : Nat} {Z : Nat → Int} {l : List Int} (h : Row w a n (fun i => .int .i64 (Z i))) (hl : l.length = n) (hz : ∀ i, i < n → l.getD i 0 = Z i) : Row w a l.length (zval l) := by
  intro h0
  rw [hl] at h0 ⊢
  obtain ⟨b, off, h1, h2, h3⟩ := h h0
  exact ⟨b, off, h1, h2, fun i hi => by rw [h3 i hi]; unfold zval; rw [hz i hi]⟩
theorem row_b {w : World} {a : Option Addr} {n : Nat} {Z : Nat → Int} {l : List Int} (h : Row w a n (fun i => .int .u8 (Z i))) (hl : l.length = n) (hz : ∀ i, i < n → l.getD i 0 = Z i) : Row w a l.length (bval l) := by
  intro h0
  rw [hl] at h0 ⊢
  obtain ⟨b, off, h1, h2, h3⟩ := h h0
  exact ⟨b, off, h1, h2, fun i hi => by rw [h3 i hi]; unfold bval; rw [hz i hi]⟩
theorem row_none {w : World} {a : Option Addr} {n : Nat} {V : Nat → Value} (h : Row w a n V) : a = none → n = 0 := fun e => by
  by_cases h0 : n = 0
  · exact h0
  · obtain ⟨_, _, h1, _⟩ := h (by omega)
    rw [e] at h1
    cases h1
theorem open_ints {v : Value} {d : DataW H} {p : List MemPlace} (hv : Value.okWide Tryz.prog w .any base 23 v)
    (h : DataW.Trod enc Tryz.prog w 0 (fun _ => true) true 23 v d p) :
    ∃ a, ∃ l : List Int, ∃ c, v = .slice a l.length c ∧ l.length ≤ c ∧ c ≤ maxLen ∧ Row w a l.length (zval l) ∧ (a = none → l.length = 0) := by
  obtain ⟨a, n, c, Z, rfl, h1, h2, h3, _⟩ := open_row_int Tryz.underlying23 Tryz.underlying3 (by kernel_rfl) hv h
  obtain ⟨l, hl, hz⟩ := list_of n Z
  have hr := row_z h3 hl hz
  exact ⟨a, l, c, by rw [hl], by rw [hl]; exact h1, h2, hr, row_none hr⟩
def okD (l : List Int) : Prop := ∀ x, x ∈ l → 0 ≤ x ∧ x < 256
theorem open_bytes {v : Value} {d : DataW H} {p : List MemPlace} (hv : Value.okWide Tryz.prog w .any base 35 v)
    (h : DataW.Trod enc Tryz.prog w 0 (fun _ => true) true 35 v d p) :
    ∃ a, ∃ l : List Int, ∃ c, v = .slice a l.length c ∧ l.length ≤ c ∧ c ≤ maxLen ∧ Row w a l.length (bval l) ∧ (a = none → l.length = 0) ∧ okD l := by
  obtain ⟨a, n, c, Z, rfl, h1, h2, h3, h4⟩ := open_row_int Tryz.underlying35 Tryz.underlying5 (by kernel_rfl) hv h
  obtain ⟨l, hl, hz⟩ := list_of n Z
  have hr := row_b h3 hl hz
  refine ⟨a, l, c, by rw [hl], by rw [hl]; exact h1, h2, hr, row_none hr, fun x hx => ?_⟩
  obtain ⟨i, hi, e⟩ := List.getElem_of_mem hx
  have := u8_bd (h4 i)
  have e2 := hz i (by omega)
  rw [List.getD_eq_getElem?_getD, List.getElem?_eq_getElem hi] at e2
  simp only [Option.getD_some] at e2
  rw [← e, e2]
  exact this
theorem open_cell {P : Program} {t e : TypeId} {k : IntKind} {v : Value} {fuel : Nat} {y : DataW H × List MemPlace} (ht : P.underlying t = some (.slice e)) (he : P.underlying e = some (.int k)) (hc : P.cellsOf e = 1) (hf : DataW.trod enc P w 0 (fun _ => true) true fuel t [v] = some y) :
    ∃ a n c, ∃ Z : Nat → Int, v = .slice a n c ∧ n ≤ c ∧ c ≤ maxLen ∧ Row w a n (fun i => .int k (Z i)) ∧ ∀ i, (Lit.int k (Z i)).wf = true := by
  obtain ⟨dd, pp⟩ := y
  have key : ∃ a n c V, v = .slice a n c ∧ n ≤ c ∧ c ≤ maxLen ∧ Row w a n V ∧ ∀ i, i < n → ∃ f y, DataW.trod enc P w 0 (fun _ => true) true f e [V i] = some y := by
    rcases open_slice1 ht hc hf with ⟨hcs, _⟩ | ⟨x, l, c, m, n, V, D, Pl, hcs, _, hl, hm, hmm, _, hx⟩
    · simp at hcs
      subst hcs
      exact ⟨none, 0, 0, fun _ => undef, rfl, Nat.le_refl _, Nat.zero_le _, Row.nil _ _ _, fun i hi => absurd hi (by omega)⟩
    · simp at hcs
      subst hcs
      simp only [if_true] at hmm
      subst hmm
      obtain ⟨b, off, spot⟩ := x
      refine ⟨_, _, _, V, rfl, hl, hm, fun hn => ?_, fun i hi => ⟨_, _, (hx i (by omega)).2⟩⟩
      have h0 := (hx 0 (by omega)).1
      have hspot : spot = none := by simpa [Addr.add] using World.cell?_spot h0
      subst hspot
      refine ⟨b, off, rfl, ?_, fun i hi => ?_⟩
      · simpa [Addr.add] using lt_of_cell h0
      · have := (hx i (by omega)).1
        unfold Addr.add at this
        split at this
        · rename_i hi0
          subst hi0
          exact this
        · exact this
  obtain ⟨a, n, c, V, rfl, h1, h2, h3, h4⟩ := key
  obtain ⟨Z, hZ⟩ := choose_fn (q := fun i z => V i = .int k z ∧ (Lit.int k z).wf = true) (0 : Int) (fun i hi => by
    obtain ⟨f, y, hy⟩ := h4 i hi
    obtain ⟨z, hz, _, hw⟩ := DataW.trod_int he hy
    exact ⟨z, by simpa using hz, hw⟩)
  refine ⟨a, n, c, fun i => if i < n then Z i else 0, rfl, h1, h2, fun hn => ?_, fun i => ?_⟩
  · obtain ⟨b, off, e1, e2, e3⟩ := h3 hn
    exact ⟨b, off, e1, e2, fun i hi => by simp only [e3 i hi, (hZ i hi).1, if_pos hi]⟩
  · by_cases hi : i < n
    · simp only [if_pos hi]; exact (hZ i hi).2
    · simp only [if_neg hi]; cases k <;> decide
theorem open_ie {v : Value} {d : DataW H} {pl : List MemPlace} (hv : Value.okWide Tryz.prog w .any base 59 v)
    (h : DataW.Trod enc Tryz.prog w 0 (fun _ => true) true 59 v d pl) :
    ∃ p : El, ∃ a c, v = .agg (p.vals a c) ∧ p.At w a c := by
  have hC : Tryz.prog.cellsOf 59 = 5 := by kernel_rfl
  have hI : Tryz.prog.cellsOf 3 = 1 := by kernel_rfl
  have hJ : Tryz.prog.cellsOf 2 = 1 := by kernel_rfl
  have hS : Tryz.prog.cellsOf 23 = 1 := by kernel_rfl
  obtain ⟨cs, rfl, hsz⟩ := okWide_struct Tryz.underlying59 hv
  rw [hC] at hsz
  obtain ⟨l⟩ := cs
  match l, hsz with
  | [x0, x1, x2, x3, x4], _ =>
  obtain ⟨fuel, hf⟩ := h
  obtain ⟨xs, k, _, _, _, hlen, hfs⟩ := DataW.trod_struct Tryz.underlying59 hf
  match xs, hlen with
  | [y0, y1, y2, y3, y4], _ =>
  obtain ⟨z0, e0, _, _⟩ := DataW.trod_int Tryz.underlying3 (hfs 0 _ rfl)
  obtain ⟨z1, e1, _, _⟩ := DataW.trod_int Tryz.underlying2 (hfs 1 _ rfl)
  obtain ⟨z2, e2, _, _⟩ := DataW.trod_int Tryz.underlying3 (hfs 2 _ rfl)
  obtain ⟨z3, e3, _, _⟩ := DataW.trod_int Tryz.underlying3 (hfs 3 _ rfl)
  have e4 := hfs 4 _ rfl
  simp [Value.cells, hI, hJ, hS] at e0 e1 e2 e3 e4
  subst e0 e1 e2 e3
  obtain ⟨a, n, c, Z, rfl, g1, g2, g3, g4⟩ := open_cell Tryz.underlying23 Tryz.underlying3 (by kernel_rfl) e4
  obtain ⟨l4, hl4, hz4⟩ := list_of n Z
  have r4 := row_z g3 hl4 hz4
  refine ⟨⟨z0, z1, z2, z3, l4⟩, a, c, ?_, ⟨by rw [hl4]; exact g1, g2, r4, row_none r4⟩⟩
  subst hl4
  rfl
theorem open_els {v : Value} {d : DataW H} {pl : List MemPlace} (hv : Value.okWide Tryz.prog w .any base 34 v)
    (h : DataW.Trod enc Tryz.prog w 0 (fun _ => true) true 34 v d pl) :
    ∃ L a c, v = .slice a L.length c ∧ Els w L a c ∧ (a = none → L.length = 0) := by
  obtain ⟨a, n, c, V, rfl, h1, h2, h3, h4⟩ := open_row_struct Tryz.underlying34 Tryz.underlying59 (by kernel_rfl) (by kernel_rfl) (by decide) hv h
  have hn5 : n * (5 : Nat) = n * 5 := rfl
  have key : ∃ f : Nat → EP, ∀ i, i < n → V (i * 5) = .int .i64 (f i).e.k ∧ V (i * 5 + 1) = .int .i64 (f i).e.asn ∧ V (i * 5 + 2) = .int .i64 (f i).e.rank ∧ V (i * 5 + 3) = .int .i64 (f i).e.ticks ∧
      V (i * 5 + 4) = .slice (f i).a (f i).e.list.length (f i).c ∧ (f i).e.At w (f i).a (f i).c := by
    refine choose_fn (q := fun i (x : EP) => V (i * 5) = .int .i64 x.e.k ∧ V (i * 5 + 1) = .int .i64 x.e.asn ∧ V (i * 5 + 2) = .int .i64 x.e.rank ∧ V (i * 5 + 3) = .int .i64 x.e.ticks ∧
      V (i * 5 + 4) = .slice x.a x.e.list.length x.c ∧ x.e.At w x.a x.c) ep0 (fun i hi => ?_)
    obtain ⟨f0, y0, k0⟩ := h4 i hi 0 _ rfl
    obtain ⟨f1, y1, k1⟩ := h4 i hi 1 _ rfl
    obtain ⟨f2, y2, k2⟩ := h4 i hi 2 _ rfl
    obtain ⟨f3, y3, k3⟩ := h4 i hi 3 _ rfl
    obtain ⟨f4, y4, k4⟩ := h4 i hi 4 _ rfl
    obtain ⟨z0, e0, _, _⟩ := DataW.trod_int Tryz.underlying3 k0
    obtain ⟨z1, e1, _, _⟩ := DataW.trod_int Tryz.underlying2 k1
    obtain ⟨z2, e2, _, _⟩ := DataW.trod_int Tryz.underlying3 k2
    obtain ⟨z3, e3, _, _⟩ := DataW.trod_int Tryz.underlying3 k3
    obtain ⟨b, m, e, Z, e4, g1, g2, g3, g4⟩ := open_cell Tryz.underlying23 Tryz.underlying3 (by kernel_rfl) k4
    obtain ⟨l4, hl4, hz4⟩ := list_of m Z
    have r4 := row_z g3 hl4 hz4
    refine ⟨⟨⟨z0, z1, z2, z3, l4⟩, b, e⟩, by simpa using e0, by simpa using e1, by simpa using e2, by simpa using e3, ?_, ⟨by rw [hl4]; exact g1, g2, r4, row_none r4⟩⟩
    simp only [hl4]
    exact e4
  obtain ⟨f, hf⟩ := key
  have hlen : ((List.range n).map f).length = n := by simp
  have hget : ∀ i, i < n → ((List.range n).map f).getD i ep0 = f i := fun i hi => by simp [List.getD, hi]
  have hrow : Row w a (n * 5) (ev ((List.range n).map f)) := by
    intro h0
    obtain ⟨b, off, e1, e2, e3⟩ := h3 h0
    refine ⟨b, off, e1, e2, fun q hq => ?_⟩
    have hq' : q < n * 5 := hq
    rw [e3 q hq]
    have hi : q / 5 < n := by omega
    obtain ⟨g0, g1, g2, g3, g4, _⟩ := hf (q / 5) hi
    have hg := hget (q / 5) hi
    have hm : q % 5 = 0 ∨ q % 5 = 1 ∨ q % 5 = 2 ∨ q % 5 = 3 ∨ q % 5 = 4 := by omega
    rcases hm with hm | hm | hm | hm | hm
    · rw [show q = q / 5 * 5 by omega, ev0, hg, g0]
    · rw [show q = q / 5 * 5 + 1 by omega, ev1, hg, g1]
    · rw [show q = q / 5 * 5 + 2 by omega, ev2, hg, g2]
    · rw [show q = q / 5 * 5 + 3 by omega, ev3, hg, g3]
    · rw [show q = q / 5 * 5 + 4 by omega, ev4, hg, g4]
  refine ⟨(List.range n).map f, a, c, by rw [hlen], ⟨by rw [hlen]; exact h1, h2, by rw [hlen]; exact hrow, fun k hk => ?_⟩, fun e => ?_⟩
  · rw [hlen] at hk
    rw [hget k hk]
    exact (hf k hk).2.2.2.2.2
  · rw [hlen]
    have := row_none hrow e
    omega
end
def bstr (l : List Int) : ByteArray := str (fun i => l.getD i 0) l.length
theorem conv_b {w : World} {a : Option Addr} {l : List Int} (c : Nat) (h : Row w a l.length (bval l)) : (convert 35 9 (.slice a l.length c)).run Tryz.prog w = .ok (.string (bstr l)) w :=
  conv_string Tryz.underlying35 Tryz.underlying5 Tryz.underlying9 h
theorem okD_at {l : List Int} (h : okD l) (i : Nat) : 0 ≤ l.getD i 0 ∧ l.getD i 0 < 256 := by
  by_cases hi : i < l.length
  · rw [List.getD_eq_getElem?_getD, List.getElem?_eq_getElem hi]
    exact h _ (List.getElem_mem hi)
  · rw [List.getD_eq_getElem?_getD, List.getElem?_eq_none (by omega)]
    exact ⟨by decide, by decide⟩
theorem bstr_inj {l m : List Int} (hl : okD l) (hm : okD m) (h : (bstr l).toList = (bstr m).toList) : l = m := by
  obtain ⟨h1, h2⟩ := str_list_inj (fun i => okD_at hl i) (fun i => okD_at hm i) h
  exact list_eq h1 (fun j hj => h2 j hj)
theorem bstr_beq {l m : List Int} (hl : okD l) (hm : okD m) : ((bstr l).toList == (bstr m).toList) = decide (l = m) := by
  by_cases h : l = m
  · rw [decide_eq_true h, h]
    exact beq_self_eq_true _
  · rw [decide_eq_false h]
    exact beq_eq_false_iff_ne.2 fun e => h (bstr_inj hl hm e)
def lightB (L : List EP) : Bool := decide (L.length ≤ 20 ∧ ∀ k, k < L.length → (L.getD k ep0).e.list.length ≤ 100)
end Go.Proofs.YtiflmdekcjbmbaaGreat.Ie
