/-
  Package bits: a reader at whole bytes whose blocks lie below a bound: what is made or turned from there on leaves it alone; numbers of whole bytes taken. Package ie (chapter 6): a byte and whether it is there; which sizes fit; a list read. Package ie (chapter 6): slices.Clone at int, off the shelf. Package ie (chapter 6) and the reference: the first element of a kind.
-/
import Derived.Test.YtiflmdekcjbmbaaGreatGNodeNil24
import Derived.Test.YtiflmdekcjbmbaaGreatGNodeNil23
import Derived.Test.YtiflmdekcjbmbaaGreatGNodeNil22
import Derived.Ground.Names2Prog
import Derived.Shelf.Slices.Clone
import Derived.Lib.OwnBridge
set_option maxRecDepth 100000
namespace Go.Proofs.YtiflmdekcjbmbaaGreat.Bf
set_option linter.unusedVariables false
set_option linter.unusedSimpArgs false
open Go.RowKit Lb Go.Shelf

def Rh (w : World) (base H b : Nat) (l : List Int) (err : Int) : Prop := b < H ∧ ∃ j n Z v, Rd w base b (8 * j) n Z err v ∧ (∀ q, v.ownBlock = some q → q < H) ∧ j + l.length = n ∧ n ≤ 100000 ∧ ∀ k, k < l.length → (Z (j + k) : Int) = l.getD k 0
theorem Rh.rb {w : World} {base H b : Nat} {l : List Int} {err : Int} (h : Rh w base H b l err) : Rb w base b l err := by
  obtain ⟨_, j, n, Z, v, h1, _, h2⟩ := h
  exact ⟨j, n, Z, v, h1, h2⟩
theorem Rb.hold {w : World} {base b : Nat} {l : List Int} {err : Int} (h : Rb w base b l err) : Rh w base w.heap.size b l err := by
  obtain ⟨j, n, Z, v, h1, h2⟩ := h
  exact ⟨h1.own.lt, j, n, Z, v, h1, fun q e => (h1.row.lt q e).2, h2⟩
theorem Rh.kept {w w' : World} {base H b : Nat} {l : List Int} {err : Int} (h : Rh w base H b l err) (k : Below H w w') : Rh w' base H b l err := by
  obtain ⟨hb, j, n, Z, v, h1, h2, h3⟩ := h
  refine ⟨hb, j, n, Z, v, ⟨below_own k h1.own hb, h1.row.kept (fun q _ => ?_), h1.lt, h1.low⟩, h2, h3⟩
  by_cases hq : q < H
  · exact .inl (k.block q hq)
  · exact .inr (fun e => hq (h2 q e))
theorem Rh.drewN {w : World} {base H b : Nat} {l : List Int} {err : Int} (h : Rh w base H b l err) (m : Nat) : Rh (w.drewN m) base H b l err := h.kept (below_drewN (Below.refl _ _) m)
theorem Rh.lt {w : World} {base H b : Nat} {l : List Int} {err : Int} (h : Rh w base H b l err) : b < H := h.1
theorem rh_nil {w : World} {base H b : Nat} {Z : Nat → Nat} {err : Int} (h : Rd w base b 0 0 Z err (.slice none 0 0)) (hb : b < H) : Rh w base H b [] err := ⟨hb, 0, 0, Z, _, h, (fun q e => by cases e), rfl, by omega, (fun k hk => by simp at hk)⟩
theorem Rh.skip {w : World} {base H b j n k : Nat} {Z : Nat → Nat} {v : Value} {l : List Int} {err : Int} (hb : b < H) (h : Rd w base b (8 * j + 8 * k) n Z err v) (hv : ∀ q, v.ownBlock = some q → q < H) (h1 : j + l.length = n) (h2 : n ≤ 100000) (h3 : ∀ q, q < l.length → (Z (j + q) : Int) = l.getD q 0) (hk : k ≤ l.length) : Rh w base H b (l.drop k) err :=
  ⟨hb, j + k, n, Z, v, by rw [show 8 * (j + k) = 8 * j + 8 * k by omega]; exact h, hv, by rw [List.length_drop]; omega, h2, fun q hq => by
    rw [List.length_drop] at hq
    rw [lft_get, ← h3 (k + q) (by omega), Nat.add_assoc]⟩
theorem numK_bytes {Z : Nat → Nat} {x j K : Nat} (h : Num x (8 * K) (bt Z) (8 * j)) (hz : ∀ t, t < K → Z (j + t) < 256) : ∀ t, t < K → (x >>> (8 * (K - 1 - t))) % 256 = Z (j + t) := fun t ht => by
  refine Nat.eq_of_testBit_eq fun i => ?_
  rw [show (256 : Nat) = 2 ^ 8 from rfl, Nat.testBit_mod_two_pow, Nat.testBit_shiftRight]
  by_cases hi : i < 8
  · rw [h.bit _ (by omega)]
    unfold bt
    rw [show (8 * j + (8 * K - 1 - (8 * (K - 1 - t) + i))) / 8 = j + t by omega, show 7 - (8 * j + (8 * K - 1 - (8 * (K - 1 - t) + i))) % 8 = i by omega]
    simp [hi]
  · have : (Z (j + t)).testBit i = false := Nat.testBit_lt_two_pow (Nat.lt_of_lt_of_le (hz t ht) (show 2 ^ 8 ≤ 2 ^ i from Nat.pow_le_pow_right (by decide) (by omega)))
    simp [hi, this]
theorem lefth_any (base H b : Nat) (l : List Int) (err : Int) (w : World) (h : Rh w base H b l err) :
    Calls Tryz.prog 214 #[.pointer (some ⟨b, 0, none⟩)] w fun r w' => r = .returned (.int .i64 ((8 * l.length : Nat) : Int)) ∧ ∃ m, w.drewN m = w' := by
  obtain ⟨hb, j, n, Z, v, h1, h2, h3, h4, h5⟩ := h
  refine (left_any base b (8 * j) n Z err v w h1 (by omega) (by omega)).mono ?_
  rintro r w' ⟨rfl, h⟩
  refine ⟨?_, h⟩
  rw [show 8 * n - 8 * j = 8 * l.length by omega]
theorem take8h_any (base H b : Nat) (l : List Int) (err : Int) (w : World) (h : Rh w base H b l err) :
    Calls Tryz.prog 188 #[.pointer (some ⟨b, 0, none⟩), .int .i64 8] w fun r w' => r = .returned (.int .u64 (l.getD 0 0)) ∧ Rh w' base H b (lft l 1) (er l 1 err) ∧ Just b w w' := by
  obtain ⟨hb, j, n, Z, v, h1, hv, h2, h3, h4⟩ := h
  unfold lft er
  by_cases hl : l.length < 1
  · rw [if_pos hl, if_pos hl]
    refine (shortJ base b (8 * j) n Z err v 8 w h1 (by omega) (by omega) (by omega) h3).mono ?_
    rintro r w' ⟨rfl, h5, b5⟩
    have e0 : l.getD 0 0 = 0 := by rw [List.getD_eq_getElem?_getD, List.getElem?_eq_none (by omega)]; rfl
    rw [e0]
    exact ⟨rfl, rh_nil h5 hb, b5⟩
  · rw [if_neg hl, if_neg hl]
    refine (takeJ base b (8 * j) n Z err v 8 w h1 (by omega) (by omega) h3).mono ?_
    rintro r w' ⟨x, rfl, hx, h5, b5⟩
    have ex := hx.uniq (num_byte (h1.lt j (by omega)))
    have e4 := h4 0 (by omega)
    rw [Nat.add_zero] at e4
    refine ⟨by rw [ex, e4], ?_, b5⟩
    exact Rh.skip (k := 1) hb (by rw [show 8 * j + 8 * 1 = 8 * j + 8 by omega]; exact h5) hv h2 h3 h4 (by omega)
theorem takeh_any (base H b : Nat) (l : List Int) (err : Int) (K : Nat) (w : World) (h : Rh w base H b l err) (hK : K ≤ 8) (hl : K ≤ l.length) :
    Calls Tryz.prog 188 #[.pointer (some ⟨b, 0, none⟩), .int .i64 ((8 * K : Nat) : Int)] w fun r w' => ∃ x : Nat, r = .returned (.int .u64 (x : Nat)) ∧ x < 256 ^ K ∧ bytesK x K = l.take K ∧ Rh w' base H b (l.drop K) err ∧ Just b w w' := by
  obtain ⟨hb, j, n, Z, v, h1, hv, h2, h3, h4⟩ := h
  refine (takeJ base b (8 * j) n Z err v (8 * K) w h1 (by omega) (by omega) h3).mono ?_
  rintro r w' ⟨x, rfl, hx, h5, b5⟩
  have hbk := numK_bytes hx (fun t ht => h1.lt (j + t) (by omega))
  refine ⟨x, rfl, ?_, ?_, ?_, b5⟩
  · have := hx.lt
    rwa [Nat.pow_mul] at this
  · apply List.ext_getElem
    · rw [bytesK_len, List.length_take]; omega
    · intro t ht1 ht2
      rw [bytesK_len] at ht1
      have e1 := bytesK_at x K t ht1
      rw [hbk t ht1, h4 t (by omega), List.getD_eq_getElem?_getD, List.getElem?_eq_getElem (by rw [bytesK_len]; exact ht1)] at e1
      rw [List.getD_eq_getElem?_getD, List.getElem?_eq_getElem (by omega)] at e1
      simp only [Option.getD_some] at e1
      rw [e1, List.getElem_take]
  · exact Rh.skip (k := K) hb h5 hv h2 h3 h4 (by omega)
end Go.Proofs.YtiflmdekcjbmbaaGreat.Bf
set_option maxRecDepth 100000
namespace Go.Proofs.YtiflmdekcjbmbaaGreat.Ie
set_option linter.unusedVariables false
set_option linter.unusedSimpArgs false
open Go.RowKit Lb Go.Shelf Bf

theorem Just.of_drew {b m : Nat} {w w' : World} (h : Just b (w.drewN m) w') : Just b w w' := ⟨h.os, h.tape, h.output, h.size, h.block⟩
theorem Just.far {b g : Nat} {w w' : World} (h : Just b w w') (hg : w.heap.size ≤ g) (i : Nat) (u : Value) : Just b w (w'.setCell ⟨g, i, none⟩ u) :=
  ⟨h.os, h.tape, h.output, by simpa [World.setCell] using h.size, fun k hk hb => (Below.heap_setCell w' _ u k (by show k ≠ g; omega)).trans (h.block k hk hb)⟩
theorem infoI : (Tryz.prog.info? 3).map (fun i => (i.zero, i.size, i.bytes)) = some (some (.int .i64 0), 1, 8) := by kernel_rfl
theorem itake_any (base H b : Nat) (l : List Int) (err : Int) (w : World) (h : Rh w base H b l err) (hd : okD' l) :
    Calls Tryz.prog 216 #[.pointer (some ⟨b, 0, none⟩)] w fun r w' => r = .returned (.tuple #[.int .i64 (l.getD 0 0), .bool (decide (0 < l.length))]) ∧ Rh w' base H b (lft l 1) (er l 1 err) ∧ Just b w w' := by
  have hl := lefth_any base H b l err w h
  have HL := Lib.hid hl
  have hx : 0 ≤ l.getD 0 0 ∧ l.getD 0 0 < 256 := by
    cases l with
    | nil => exact ⟨by decide, by decide⟩
    | cons x m => exact hd x (by simp)
  obtain ⟨x, hxx⟩ : ∃ x, l.getD 0 0 = x := ⟨_, rfl⟩
  have HX := Lib.hid hxx
  rw [hxx] at hx ⊢
  clear hl hxx
  have hn : l.length ≤ 100000 := by
    obtain ⟨_, j, n, Z, v, _, _, h1, h2, _⟩ := h
    omega
  obtain ⟨n, hnn⟩ : ∃ n, l.length = n := ⟨_, rfl⟩
  rw [hnn] at HL hn ⊢
  clear hnn
  have g1 : decide ((8 : Int) ≤ 8 * (n : Int)) = decide (0 < n) := by rw [Bool.eq_iff_iff]; simp; omega
  go_enter Tryz.func216, Tryz.ntmps216
  go_wp2_with fail
  refine HL.out.mono ?_
  rintro r w2 ⟨rfl, m, rfl⟩
  go_wp2_with fail
  refine (take8h_any base H b l err _ (h.drewN m)).mono ?_
  rintro r w3 ⟨rfl, h3, j3⟩
  rw [HX.out]
  go_wp2_with fail
  go_ret2
  exact ⟨rfl, h3, Just.of_drew j3⟩
theorem sizef_any (k s : Int) (w : World) : Calls Tryz.prog 241 #[.int .i64 k, .int .i64 s] w fun r w' => r = .returned (.bool (sizeB k s)) ∧ w = w' := by
  by_cases k1 : k = 1
  · have hD : sizeB k s = (s == 6) := by unfold sizeB; rw [if_pos k1]
    have HD := Lib.hid hD
    have g1 : (k == 1) = true := by simpa using k1
    clear k1 hD
    go_enter Tryz.func241, Tryz.ntmps241
    go_wp2_with fail
    go_ret
    exact ⟨by rw [HD.out]; rfl, rfl⟩
  · have g1 : (k == 1) = false := by simpa using k1
    by_cases k2 : k = 2
    · have hD : sizeB k s = (s == 2) := by unfold sizeB; rw [if_neg k1, if_pos k2]
      have HD := Lib.hid hD
      have g2 : (k == 2) = true := by simpa using k2
      clear k1 k2 hD
      go_enter Tryz.func241, Tryz.ntmps241
      go_wp2_with fail
      go_ret
      exact ⟨by rw [HD.out]; rfl, rfl⟩
    · have hD : sizeB k s = decide (s ≤ 16) := by unfold sizeB; rw [if_neg k1, if_neg k2]
      have HD := Lib.hid hD
      have g2 : (k == 2) = false := by simpa using k2
      clear k1 k2 hD
      go_enter Tryz.func241, Tryz.ntmps241
      go_wp2_with fail
      go_ret
      exact ⟨by rw [HD.out]; rfl, rfl⟩
set_option maxHeartbeats 1000000 in
theorem readl_any (base H b : Nat) (l : List Int) (err : Int) (n : Nat) (w : World) (h : Rh w base H b l err) (hd : okD' l) (hn : n ≤ l.length) (hH : H ≤ w.heap.size) (h16 : n ≤ 255) :
    Calls Tryz.prog 251 #[.pointer (some ⟨b, 0, none⟩), .int .i64 (n : Int)] w fun r w' => r = .returned (.slice (some ⟨w.heap.size, 0, none⟩) n n) ∧ Blk w' w.heap.size 3 n (zval (l.take n)) ∧ Rh w' base H b (l.drop n) err ∧ Just b w w' := by
  obtain ⟨i0, hi0, hz0, hz1, hz2⟩ := info_parts infoI
  have hmk : ∀ w : World, (Instr.makeSlice 23 (.int .i64 (n : Int)) (.int .i64 (n : Int))).run Tryz.prog w = .ok (.slice (some ⟨w.heap.size, 0, none⟩) n n) (w.alloc (.cells (madeCells #[.int .i64 0] n) 3)) := by
    intro w
    have := run_make w 23 3 i0 (.int .i64 0) Tryz.underlying23 hi0 hz0 .i64 .i64 (n : Int) (n : Int) (by omega) (by omega) (by rw [hz2]; omega) (by omega)
    rw [this, hz1]
    simp [Value.cells]
  have HCS : Hid (madeCells #[Value.int .i64 0] n = (List.replicate n (Value.int .i64 0)).toArray) := Lib.hid (by
    apply Array.toList_inj.1
    simpa using toList_madeCells_one (Value.int .i64 0) n)
  have HD := Lib.hid hd
  have HL := Lib.hid hn
  clear hd hn
  go_enter Tryz.func251, Tryz.ntmps251
  go_wp2_with fail
  have o1 : Blk (w.alloc (.cells (madeCells #[.int .i64 0] n) 3)) w.heap.size 3 n (fun j => if j < 0 then .int .i64 (l.getD j 0) else .int .i64 0) := Blk.ext (Blk.same (Own.new _ _ _) HCS.out) (fun i hi => by rw [if_neg (by omega)])
  have b1 := (Below.refl w.heap.size w).alloc (Nat.le_refl _) (.cells (madeCells #[.int .i64 0] n) 3)
  have h1 : Rh (w.alloc (.cells (madeCells #[.int .i64 0] n) 3)) base H b (l.drop 0) err := by rw [List.drop_zero]; exact h.kept (b1.mono hH)
  have j1 : Just b w (w.alloc (.cells (madeCells #[.int .i64 0] n) 3)) := (Just.refl b w).alloc _
  have hbg : b < w.heap.size := Nat.lt_of_lt_of_le h.lt hH
  generalize w.alloc (.cells (madeCells #[.int .i64 0] n) 3) = w1 at *
  obtain ⟨g, hg⟩ : ∃ g, w.heap.size = g := ⟨_, rfl⟩
  have HG := Lib.hid hg
  rw [hg] at o1 hbg hH ⊢
  clear hg h b1 hmk HCS
  go_loopw [11] (fun i wr => ∃ (k : Nat), i = .int .i64 k ∧ k ≤ n ∧ Blk wr g 3 n (fun j => if j < k then .int .i64 (l.getD j 0) else .int .i64 0) ∧ Rh wr base H b (l.drop k) err ∧ Just b w wr) (fun i _ => n - (intOf i).toNat)
  case atStart => exact ⟨0, rfl, by omega, o1, h1, j1⟩
  case round =>
    clear o1 h1 j1
    obtain ⟨k, rfl, hk, o1, h1, j1⟩ := hrel
    by_cases hlt : k < n
    · have hx : 0 ≤ l.getD k 0 ∧ l.getD k 0 < 256 := by
        have := HL.out
        rw [List.getD_eq_getElem?_getD, List.getElem?_eq_getElem (by omega)]
        exact HD.out _ (List.getElem_mem _)
      have h0 : (l.drop k).getD 0 0 = l.getD k 0 := by rw [lft_get, Nat.add_zero]
      have hlf : lft (l.drop k) 1 = l.drop (k + 1) ∧ er (l.drop k) 1 err = err := by
        have := HL.out
        have h2 : ¬ (l.drop k).length < 1 := by rw [List.length_drop]; omega
        unfold lft er
        rw [if_neg h2, if_neg h2, List.drop_drop]
        exact ⟨rfl, rfl⟩
      obtain ⟨x, hxx⟩ : ∃ x, l.getD k 0 = x := ⟨_, rfl⟩
      rw [hxx] at hx h0
      have HX := Lib.hid hxx
      have H0 := Lib.hid h0
      have HLF := Lib.hid hlf
      clear hxx h0 hlf
      go_wp2_with fail
      refine (take8h_any base H b (l.drop k) err _ h1).mono ?_
      rintro r w3 ⟨rfl, h3, j3⟩
      rw [H0.out]
      rw [HLF.out.1, HLF.out.2] at h3
      have o3 := j3.blk o1 (by omega)
      have c3 := o3.cell hlt
      have f3 := o3.free k
      have j4 := Ie.Just.far (j1.trans j3) (g := g) (by rw [HG.out]; exact Nat.le_refl _) k (.int .i64 x)
      have h4 : Rh (w3.setCell ⟨g, k, none⟩ (.int .i64 x)) base H b (l.drop (k + 1)) err := h3.kept ((Below.refl H w3).setCell (p := ⟨g, k, none⟩) hH _)
      have o4 := (o3.put k (.int .i64 x)).ext (U := fun j => if j < k + 1 then .int .i64 (l.getD j 0) else .int .i64 0) (fun i hi => by
        by_cases e : i = k
        · subst e; rw [if_pos rfl, if_pos (by omega), HX.out]
        · rw [if_neg e]
          by_cases e2 : i < k
          · rw [if_pos e2, if_pos (by omega)]
          · rw [if_neg e2, if_neg (by omega)])
      clear h1 h3 j3 o1 j1 o3
      go_wp2_with fail
      exact ⟨⟨k + 1, by simp, by omega, o4, h4, j4⟩, by simp [intOf]; omega⟩
    · obtain rfl : n = k := by omega
      go_wp2_with fail
      go_ret
      rw [HG.out]
      refine ⟨rfl, o1.ext (fun i hi => ?_), h1, j1⟩
      rw [if_pos hi]
      unfold zval
      rw [List.getD_eq_getElem?_getD, List.getD_eq_getElem?_getD, List.getElem?_take_of_lt hi]
def ReadPost (base H b : Nat) (e : El) (R : List Int) (err : Int) (w : World) (r : Ending) (w' : World) : Prop :=
  ∃ a c, r = .returned (fromV e a c) ∧ e.At w' a c ∧ (∀ p, a = some p → w.heap.size ≤ p.block) ∧ Rh w' base H b R err ∧ Just b w w'
theorem tk_tk (l : List Int) : (l.take 6).take 5 = l.take 5 := by rw [List.take_take]; rfl
theorem tk_get {l : List Int} {s i : Nat} (h : i < s) : (l.take s).getD i 0 = l.getD i 0 := by
  rw [List.getD_eq_getElem?_getD, List.getD_eq_getElem?_getD, List.getElem?_take_of_lt h]
set_option maxHeartbeats 1000000 in
theorem read1 (base H b : Nat) (l : List Int) (err : Int) (w : World) (h : Rh w base H b l err) (hd : okD' l) (hl : 6 ≤ l.length) :
    Calls Tryz.prog 242 #[.pointer (some ⟨b, 0, none⟩), .int .i64 1, .int .i64 6] w (ReadPost base H b (elOf 1 (l.take 6)) (l.drop 6) err w) := by
  have hT : Calls Tryz.prog 188 #[.pointer (some ⟨b, 0, none⟩), .int .i64 40] w (fun r w' => ∃ x : Nat, r = .returned (.int .u64 (x : Nat)) ∧ x < 256 ^ 5 ∧ bytesK x 5 = l.take 5 ∧ Rh w' base H b (l.drop 5) err ∧ Just b w w') := takeh_any base H b l err 5 w h (by omega) (by omega)
  have HT := Lib.hid hT
  have h6 : 0 < (l.drop 5).length := by rw [List.length_drop]; omega
  have hlf : lft (l.drop 5) 1 = l.drop 6 ∧ er (l.drop 5) 1 err = err := by
    have h2 : ¬ (l.drop 5).length < 1 := by omega
    unfold lft er
    rw [if_neg h2, if_neg h2, List.drop_drop]
    exact ⟨rfl, rfl⟩
  have hy : (l.drop 5).getD 0 0 = l.getD 5 0 := by rw [lft_get]
  have hyb : 0 ≤ l.getD 5 0 ∧ l.getD 5 0 < 256 := by
    rw [List.getD_eq_getElem?_getD, List.getElem?_eq_getElem (by omega)]
    exact hd _ (List.getElem_mem _)
  have hE : ∀ x : Nat, x < 256 ^ 5 → bytesK x 5 = l.take 5 → elOf 1 (l.take 6) = ⟨1, (x : Int), l.getD 5 0, 0, []⟩ := fun x h1 h2 => by
    unfold elOf
    rw [if_pos rfl, tk_tk, numB_of h1 h2, tk_get (by omega)]
  obtain ⟨y, hyy⟩ : ∃ y, l.getD 5 0 = y := ⟨_, rfl⟩
  rw [hyy] at hy hyb hE
  have HY := Lib.hid hy
  have HE := Lib.hid hE
  have HLF := Lib.hid hlf
  clear hT hlf hy hyy hE hl h6
  go_enter Tryz.func242, Tryz.ntmps242
  go_wp2_with fail
  refine HT.out.mono ?_
  rintro r w2 ⟨x, rfl, hx, hxb, h2, j2⟩
  have hx40 : x < 1099511627776 := hx
  have HX := Lib.hid (HE.out x hx hxb)
  clear hx hxb
  go_wp2_with fail
  refine (take8h_any base H b (l.drop 5) err _ h2).mono ?_
  rintro r w3 ⟨rfl, h3, j3⟩
  rw [HY.out]
  rw [HLF.out.1, HLF.out.2] at h3
  go_wp2_with fail
  go_ret
  unfold ReadPost
  rw [HX.out]
  exact ⟨none, 0, rfl, El.At.none _ _ _ _ _, fun p e => (by cases e), h3, j2.trans j3⟩
set_option maxHeartbeats 1000000 in
theorem read2 (base H b : Nat) (l : List Int) (err : Int) (w : World) (h : Rh w base H b l err) (hl : 2 ≤ l.length) :
    Calls Tryz.prog 242 #[.pointer (some ⟨b, 0, none⟩), .int .i64 2, .int .i64 2] w (ReadPost base H b (elOf 2 (l.take 2)) (l.drop 2) err w) := by
  have hT : Calls Tryz.prog 188 #[.pointer (some ⟨b, 0, none⟩), .int .i64 16] w (fun r w' => ∃ x : Nat, r = .returned (.int .u64 (x : Nat)) ∧ x < 256 ^ 2 ∧ bytesK x 2 = l.take 2 ∧ Rh w' base H b (l.drop 2) err ∧ Just b w w') := takeh_any base H b l err 2 w h (by omega) (by omega)
  have HT := Lib.hid hT
  have hE : ∀ x : Nat, x < 256 ^ 2 → bytesK x 2 = l.take 2 → elOf 2 (l.take 2) = ⟨2, 0, 0, IntKind.i16.wrap (x : Int), []⟩ := fun x h1 h2 => by
    unfold elOf
    rw [if_neg (by decide), if_pos rfl, numB_of h1 h2]
  have HE := Lib.hid hE
  clear hT hE hl
  go_enter Tryz.func242, Tryz.ntmps242
  go_wp2_with fail
  refine HT.out.mono ?_
  rintro r w2 ⟨x, rfl, hx, hxb, h2, j2⟩
  have HX := Lib.hid (HE.out x hx hxb)
  clear hx hxb
  obtain ⟨y, hy⟩ : ∃ y, IntKind.i16.wrap (x : Int) = y := ⟨_, rfl⟩
  have hyb : -32768 ≤ y ∧ y ≤ 32767 := by
    rw [← hy]
    simp only [IntKind.wrap, IntKind.signed, IntKind.bits]
    simp
    omega
  rw [hy] at HX
  go_wp2_with fail
  go_ret
  unfold ReadPost
  rw [HX.out]
  exact ⟨none, 0, rfl, El.At.none _ _ _ _ _, fun p e => (by cases e), h2, j2⟩
theorem blk_at {w : World} {g n : Nat} {l : List Int} {k asn rank t : Int} (h : Blk w g 3 n (zval l)) (hl : l.length = n) (hn : n ≤ 255) : (⟨k, asn, rank, t, l⟩ : El).At w (some ⟨g, 0, none⟩) n := by
  refine ⟨by rw [← hl]; exact Nat.le_refl _, by unfold maxLen; omega, ?_, fun e => by cases e⟩
  show Row w _ l.length _
  rw [hl]
  exact Row.own h (fun i hi => by simp [hi])
set_option maxHeartbeats 1000000 in
theorem read3 (base H b : Nat) (l : List Int) (err : Int) (n : Nat) (w : World) (h : Rh w base H b l err) (hd : okD' l) (hl : n ≤ l.length) (hH : H ≤ w.heap.size) (h16 : n ≤ 16) :
    Calls Tryz.prog 242 #[.pointer (some ⟨b, 0, none⟩), .int .i64 3, .int .i64 (n : Int)] w (ReadPost base H b (elOf 3 (l.take n)) (l.drop n) err w) := by
  have hlen : (l.take n).length = n := by rw [List.length_take]; omega
  go_enter Tryz.func242, Tryz.ntmps242
  go_wp2_with fail
  refine (readl_any base H b l err n w h hd hl hH (by omega)).mono ?_
  rintro r w2 ⟨rfl, o2, h2, j2⟩
  have hat := blk_at (k := 3) (asn := 0) (rank := 0) (t := 0) o2 hlen (by omega)
  have HF : Hid (fromV (⟨3, 0, 0, 0, l.take n⟩ : El) (some ⟨w.heap.size, 0, none⟩) n = .iface 258 (.agg #[.slice (some ⟨w.heap.size, 0, none⟩) n n])) := Lib.hid (by unfold fromV; simp only [hlen]; rfl)
  clear hlen
  go_wp2_with fail
  go_ret
  exact ⟨some ⟨w.heap.size, 0, none⟩, n, congrArg _ HF.out.symm, hat, fun p e => (by injection e with e; subst e; exact Nat.le_refl _), h2, j2⟩
set_option maxHeartbeats 1000000 in
theorem read4 (base H b : Nat) (l : List Int) (err : Int) (n : Nat) (w : World) (h : Rh w base H b l err) (hd : okD' l) (hl : n ≤ l.length) (hH : H ≤ w.heap.size) (h16 : n ≤ 16) :
    Calls Tryz.prog 242 #[.pointer (some ⟨b, 0, none⟩), .int .i64 4, .int .i64 (n : Int)] w (ReadPost base H b (elOf 4 (l.take n)) (l.drop n) err w) := by
  have hlen : (l.take n).length = n := by rw [List.length_take]; omega
  go_enter Tryz.func242, Tryz.ntmps242
  go_wp2_with fail
  refine (readl_any base H b l err n w h hd hl hH (by omega)).mono ?_
  rintro r w2 ⟨rfl, o2, h2, j2⟩
  have hat := blk_at (k := 4) (asn := 0) (rank := 0) (t := 0) o2 hlen (by omega)
  have HF : Hid (fromV (⟨4, 0, 0, 0, l.take n⟩ : El) (some ⟨w.heap.size, 0, none⟩) n = .iface 259 (.agg #[.slice (some ⟨w.heap.size, 0, none⟩) n n])) := Lib.hid (by unfold fromV; simp only [hlen]; rfl)
  clear hlen
  go_wp2_with fail
  go_ret
  exact ⟨some ⟨w.heap.size, 0, none⟩, n, congrArg _ HF.out.symm, hat, fun p e => (by injection e with e; subst e; exact Nat.le_refl _), h2, j2⟩
theorem read_any (base H b : Nat) (l : List Int) (err : Int) (k : Int) (s : Nat) (w : World) (h : Rh w base H b l err) (hd : okD' l) (hk : 1 ≤ k ∧ k ≤ 4) (hs : sizeB k (s : Int) = true) (hl : s ≤ l.length) (hH : H ≤ w.heap.size) :
    Calls Tryz.prog 242 #[.pointer (some ⟨b, 0, none⟩), .int .i64 k, .int .i64 (s : Int)] w (ReadPost base H b (elOf k (l.take s)) (l.drop s) err w) := by
  rcases (show k = 1 ∨ k = 2 ∨ k = 3 ∨ k = 4 by omega) with rfl | rfl | rfl | rfl
  · have : s = 6 := by unfold sizeB at hs; simp at hs; omega
    subst this
    exact read1 base H b l err w h hd hl
  · have : s = 2 := by unfold sizeB at hs; simp at hs; omega
    subst this
    exact read2 base H b l err w h hl
  · have : s ≤ 16 := by unfold sizeB at hs; simp at hs; omega
    exact read3 base H b l err s w h hd hl hH this
  · have : s ≤ 16 := by unfold sizeB at hs; simp at hs; omega
    exact read4 base H b l err s w h hd hl hH this
end Go.Proofs.YtiflmdekcjbmbaaGreat.Ie
set_option maxRecDepth 100000
namespace Go.Proofs
set_option linter.unusedVariables false
set_option linter.unusedSimpArgs false
open Go.Shelf
def Tryz.laysClone_ren : Go.Shelf.Ren := ⟨fun | 15 => 46 | n => n, fun | 22 => 23 | 3 => 3 | 4 => 4 | n => n, fun | n => n⟩
theorem Tryz.laysClone : Go.Proofs.Lays2.n15 Tryz.prog Tryz.laysClone_ren := {
  mixed := by kernel_rfl
  f15 := Tryz.func46.trans (congrArg some (by kernel_rfl))
  t3 := Tryz.underlying3
  a3 := Tryz.isAgg3
  z3 := Tryz.sizeOf3
  v3 := Tryz.zeroValue3
  t4 := Tryz.underlying4
  a4 := Tryz.isAgg4
  z4 := Tryz.sizeOf4
  v4 := Tryz.zeroValue4
  t22 := Tryz.underlying23
  a22 := Tryz.isAgg23
  z22 := Tryz.sizeOf23
  v22 := Tryz.zeroValue23
  i3 := by kernel_rfl }
end Go.Proofs
namespace Go.Proofs.YtiflmdekcjbmbaaGreat.Ie
set_option linter.unusedVariables false
set_option linter.unusedSimpArgs false
open Go.RowKit Lb Go.Shelf Go.Sort

theorem zlist (zs : List Int) : (List.range zs.length).map (zval zs) = zs.map (Value.int .i64) := by
  apply List.ext_getElem
  · simp
  · intro i h1 h2
    simp at h1
    simp [zval, List.getD, h1]
theorem mine_z {w : World} {base : Nat} {v : Value} {zs : List Int} (h : w.ownsRow base 3 1 v zs.length (zs.map (Value.int .i64))) : Mine w base 3 v zs.length (zval zs) := by
  unfold Mine
  rw [zlist]
  exact h
/-- A copy: the same numbers, in a new block or none; nil of nil. -/
theorem cloneI_any (a : Option Addr) (c : Nat) (l : List Int) (w : World) (hc : l.length ≤ 1000000) (hR : Row w a l.length (zval l)) (ha : a = none → l.length = 0) :
    Calls Tryz.prog 46 #[.slice a l.length c] w fun r w' => ∃ v, r = .returned v ∧ Mine w' w.heap.size 3 v l.length (zval l) ∧ Below w.heap.size w w' := by
  cases a with
  | none =>
    refine (Any.slices_Clone_int_nil Tryz.laysClone l.length c w).mono ?_
    rintro r w' ⟨rfl, rfl⟩
    have h0 := ha rfl
    refine ⟨.slice none 0 0, rfl, ?_, Below.refl _ _⟩
    rw [h0]
    exact Mine.nil _ _ _ _
  | some p =>
    by_cases h0 : l.length = 0
    · rw [h0]
      refine (Any.slices_Clone_int_zero Tryz.laysClone p c w).mono ?_
      rintro r w' ⟨v, rfl, hown, hne, hb⟩
      exact ⟨v, rfl, hown, hb⟩
    · obtain ⟨b, off, hp, hbl, hcs⟩ := hR (by omega)
      injection hp with hp
      subst hp
      refine (Any.slices_Clone_int Tryz.laysClone b off l.length c l w (Nat.le_refl _) (by omega) (fun j hj => hcs j hj)).mono ?_
      rintro r w' ⟨v, rfl, hown, hne, hb⟩
      rw [List.take_length] at hown
      exact ⟨v, rfl, mine_z hown, hb⟩
end Go.Proofs.YtiflmdekcjbmbaaGreat.Ie
set_option maxRecDepth 100000
namespace Go.Proofs.YtiflmdekcjbmbaaGreat.Ie
set_option linter.unusedVariables false
set_option linter.unusedSimpArgs false
open Go.RowKit Lb Go.Shelf

def zE : El := ⟨0, 0, 0, 0, []⟩
def fstE (L : List El) (kind : Int) : Option El := L.find? (fun e => e.k == kind)
def foundE (L : List El) (kind : Int) : El := (fstE L kind).getD zE
def FindPost (L : List El) (kind : Int) (w : World) (r : Ending) (w' : World) : Prop :=
  ∃ a c, r = .returned (.tuple #[.agg ((foundE L kind).vals a c), .bool (fstE L kind).isSome]) ∧ (foundE L kind).At w' a c ∧ Below w.heap.size w w'
theorem fst_no {L : List EP} {kind : Int} (h : ∀ j, j < L.length → (L.getD j ep0).e.k ≠ kind) : fstE (els L) kind = none := by
  unfold fstE
  rw [List.find?_eq_none]
  intro x hx
  obtain ⟨i, hi, rfl⟩ := List.getElem_of_mem hx
  rw [els_len] at hi
  rw [els_at hi rfl]
  simpa using h i hi
theorem fst_yes {L : List EP} {kind : Int} {k : Nat} (hk : k < L.length) (h : (L.getD k ep0).e.k = kind) (hno : ∀ j, j < k → (L.getD j ep0).e.k ≠ kind) : fstE (els L) kind = some (L.getD k ep0).e := by
  unfold fstE
  rw [List.find?_eq_some_iff_getElem]
  refine ⟨by simpa using h, k, by rw [els_len]; exact hk, els_at hk rfl, fun j hj => ?_⟩
  rw [els_at (by omega) rfl]
  simpa using hno j hj
theorem row_none' {w : World} {a : Option Addr} {n : Nat} {V : Nat → Value} (h : Row w a n V) : a = none → n = 0 := fun e => by
  by_cases h0 : n = 0
  · exact h0
  · obtain ⟨_, _, h1, _⟩ := h (by omega)
    rw [e] at h1
    cases h1
theorem builtE : Tryz.prog.built 59 [] = some #[.int .i64 0, .int .i64 0, .int .i64 0, .int .i64 0, .slice none 0 0] := by kernel_rfl
theorem cells5 (a b c d : Int) (p : Option Addr) {n m : Nat} : (#[.int .i64 a, .int .i64 b, .int .i64 c, .int .i64 d, .slice p n m] : Array Value).all (·.oneCell') = true := by
  simp [Value.oneCell']
set_option maxHeartbeats 1000000 in
theorem find_any (L : List EP) (a : Option Addr) (c : Nat) (kind : Int) (w : World) (h : Els w L a c) (hm : ∀ k, k < L.length → (L.getD k ep0).e.list.length ≤ 1000000) :
    Calls Tryz.prog 93 #[.slice a L.length c, .int .i64 kind] w (FindPost (els L) kind w) := by
  have hlc := h.lc
  have hcm := h.cm
  unfold maxLen at hcm
  have hrow := h.row
  have hels := Lib.hid h.els
  have HM := Lib.hid hm
  clear h hm
  obtain ⟨n, hn⟩ : ∃ n, L.length = n := ⟨_, rfl⟩
  have HN := Lib.hid hn
  rw [hn] at hlc hrow ⊢
  clear hn
  have o0 := Own.new w 59 #[.int .i64 0, .int .i64 0, .int .i64 0, .int .i64 0, .slice none 0 0]
  have b0 := (Below.refl w.heap.size w).alloc (Nat.le_refl _) (.cells #[.int .i64 0, .int .i64 0, .int .i64 0, .int .i64 0, .slice none 0 0] 59)
  go_enter Tryz.func93, Tryz.ntmps93
  go_upto_region 1 with (fail)
  generalize w.alloc (.cells #[.int .i64 0, .int .i64 0, .int .i64 0, .int .i64 0, .slice none 0 0] 59) = w1 at *
  obtain ⟨g0, hg0⟩ : ∃ g, w.heap.size = g := ⟨_, rfl⟩
  rw [hg0] at o0 b0 ⊢
  have HG := Lib.hid hg0
  clear hg0
  go_wp2_with fail
  go_loopw [10] (fun i wr => ∃ (k : Nat), i = .int .i64 k ∧ k ≤ n ∧ Hid (∀ j, j < k → (L.getD j ep0).e.k ≠ kind) ∧ Lb.Own wr g0 59 #[.int .i64 0, .int .i64 0, .int .i64 0, .int .i64 0, .slice none 0 0] ∧ Below g0 w wr) (fun i _ => n - (intOf i).toNat)
  case atStart => exact ⟨0, rfl, by omega, Lib.hid (fun j hj => by omega), o0, b0⟩
  case round =>
    clear o0 b0
    obtain ⟨k, rfl, hk, HE, o1, b1⟩ := hrel
    have b1' : Below w.heap.size w wr := by rw [HG.out]; exact b1
    by_cases hlt : k < n
    · obtain ⟨x, hx⟩ : ∃ x, L.getD k ep0 = x := ⟨_, rfl⟩
      obtain ⟨pb, po, rfl, hpb, x0, x1, x2, x3, x4⟩ := erow hrow b1' hlt hx
      have hat := hels.out k (by rw [HN.out]; exact hlt)
      rw [hx] at hat
      have hm := HM.out k (by rw [HN.out]; exact hlt)
      rw [hx] at hm
      have HX := Lib.hid hx
      clear hx
      obtain ⟨⟨ek, easn, erank, et, el⟩, ea, ec⟩ := x
      simp only at x0 x1 x2 x3 x4 hat hm
      have hat1 := hat.below b1'
      have o2 := Own.new wr 59 #[.int .i64 ek, .int .i64 easn, .int .i64 erank, .int .i64 et, .slice ea el.length ec]
      have b2 := (Below.refl wr.heap.size wr).alloc (Nat.le_refl _) (.cells #[.int .i64 ek, .int .i64 easn, .int .i64 erank, .int .i64 et, .slice ea el.length ec] 59)
      have b3 := b1.trans (b2.mono (by have := o1.lt; omega))
      have hat2 := hat1.below b2
      have o3 := below_own b2 o1 o1.lt
      have hgg := o1.lt
      go_upto_region 4 with (fail)
      generalize wr.alloc (.cells #[.int .i64 ek, .int .i64 easn, .int .i64 erank, .int .i64 et, .slice ea el.length ec] 59) = w2 at *
      obtain ⟨g, hg⟩ : ∃ g, wr.heap.size = g := ⟨_, rfl⟩
      rw [hg] at o2 hgg ⊢
      clear hg x0 x1 x2 x3 x4 o1 b1 b1' b2 hat hat1
      have x0 : w2.cell? ⟨g, 0, none⟩ = some (.int .i64 ek) := o2.cell 0
      have x4 : w2.cell? ⟨g, 4, none⟩ = some (.slice ea el.length ec) := o2.cell 4
      have x4f := o2.free 4
      by_cases hkk : ek = kind
      · have g1 : (ek == kind) = true := by simpa using hkk
        have HD : Hid (fstE (els L) kind = some ⟨ek, easn, erank, et, el⟩) := Lib.hid (by
          have := fst_yes (L := L) (kind := kind) (k := k) (by rw [HN.out]; exact hlt) (by rw [HX.out]; exact hkk) HE.out
          rw [HX.out] at this
          exact this)
        clear hkk
        have hsg := o2.lt
        go_wp2_with fail
        refine (cloneI_any ea ec el w2 hm hat2.row hat2.nil).mono ?_
        rintro r w3 ⟨v, rfl, hV, b4⟩
        obtain ⟨a3, c3, rfl, l1, l2, R3⟩ := hV.row
        have p2 := below_own b4 o2 o2.lt
        have p3 := below_own b4 o3 o3.lt
        have b5 := b3.trans (b4.mono (by have := o3.lt; omega))
        have y4 : w3.cell? ⟨g, 4, none⟩ = some (.slice ea el.length ec) := p2.cell 4
        have y4f := p2.free 4
        have q2 : Lb.Own (w3.setCell ⟨g, 4, none⟩ (.slice a3 el.length c3)) g 59 #[.int .i64 ek, .int .i64 easn, .int .i64 erank, .int .i64 et, .slice a3 el.length c3] := p2.put 4 _
        have q3 := p3.apart (p := ⟨g, 4, none⟩) (by simp; omega) (.slice a3 el.length c3)
        have hV2 := hV.just (Just.set g w3 4 (.slice a3 el.length c3)) (by omega)
        have b6 := (Just.set g w3 4 (.slice a3 el.length c3)).below b5 (by omega) (by have := p3.lt; omega)
        clear x0 x4 x4f o2 o3 b3 b4 hV R3 hat2
        go_upto_region 6 with (fail)
        generalize w3.setCell ⟨g, 4, none⟩ (.slice a3 el.length c3) = w4 at *
        clear p2 p3 b5 y4 y4f
        go_wp2_with (first | (refine wpList_load_row rfl _ _ rfl g rfl 59 #[.int .i64 ek, .int .i64 easn, .int .i64 erank, .int .i64 et, .slice a3 el.length c3] (0, 0) _ q2 Tryz.underlying59 rfl (by kernel_rfl) ?_) | (refine wpList_store_row rfl _ _ _ rfl g0 #[.int .i64 ek, .int .i64 easn, .int .i64 erank, .int .i64 et, .slice a3 el.length c3] rfl rfl 59 _ q3 (by kernel_rfl) rfl (cells5 _ _ _ _ _) ?_))
        refine bodyPost_ret (results_row_tmp rfl _ _ g0 59 _ (0, 0) _ rfl (q3.setRow _) Tryz.underlying59 rfl (by kernel_rfl)) rfl ?_
        unfold FindPost foundE
        rw [HD.out]
        refine ⟨a3, c3, rfl, ?_, ?_⟩
        · have hV3 := hV2.just (Just.setRow g0 w4 #[.int .i64 ek, .int .i64 easn, .int .i64 erank, .int .i64 et, .slice a3 el.length c3]) (by omega)
          exact ⟨l1, l2, hV3.rowAt, row_none' hV3.rowAt⟩
        · rw [HG.out]
          exact (Just.setRow _ _ _).below b6 (Nat.le_refl _) (Nat.le_of_lt q3.lt)
      · have g1 : (ek == kind) = false := by simpa using hkk
        have HE2 : Hid (∀ j, j < k + 1 → (L.getD j ep0).e.k ≠ kind) := Lib.hid (fun j hj => by
          by_cases e : j = k
          · subst e; rw [HX.out]; exact hkk
          · exact HE.out j (by omega))
        clear hkk
        go_wp2_with fail
        exact ⟨⟨k + 1, by simp, by omega, HE2, o3, b3⟩, by simp [intOf]; omega⟩
    · obtain rfl : n = k := by omega
      have HD : Hid (fstE (els L) kind = none) := Lib.hid (fst_no (by rw [HN.out]; exact HE.out))
      go_wp2_with (first | (refine wpList_build_store #[.int .i64 0, .int .i64 0, .int .i64 0, .int .i64 0, .slice none 0 0] rfl rfl rfl rfl builtE rfl rfl o1 (by kernel_rfl) rfl (cells5 _ _ _ _ _) ?_))
      refine bodyPost_ret (results_row_tmp rfl _ _ g0 59 _ (0, 0) _ rfl (o1.setRow _) Tryz.underlying59 rfl (by kernel_rfl)) rfl ?_
      unfold FindPost foundE
      rw [HD.out]
      exact ⟨none, 0, rfl, El.At.none _ _ _ _ _, (Just.setRow _ _ _).below b1' (by rw [HG.out]; exact Nat.le_refl _) b1'.size⟩
set_option maxHeartbeats 1000000 in
theorem rfind_any (L : List EP) (a : Option Addr) (c : Nat) (kind : Int) (w : World) (h : Els w L a c) (hm : ∀ k, k < L.length → (L.getD k ep0).e.list.length ≤ 1000000) :
    Calls Tryz.prog 96 #[.slice a L.length c, .int .i64 kind] w (FindPost (els L) kind w) := by
  have hlc := h.lc
  have hcm := h.cm
  unfold maxLen at hcm
  have hrow := h.row
  have hels := Lib.hid h.els
  have HM := Lib.hid hm
  clear h hm
  obtain ⟨n, hn⟩ : ∃ n, L.length = n := ⟨_, rfl⟩
  have HN := Lib.hid hn
  rw [hn] at hlc hrow ⊢
  clear hn
  have o0 := Own.new w 59 #[.int .i64 0, .int .i64 0, .int .i64 0, .int .i64 0, .slice none 0 0]
  have b0 := (Below.refl w.heap.size w).alloc (Nat.le_refl _) (.cells #[.int .i64 0, .int .i64 0, .int .i64 0, .int .i64 0, .slice none 0 0] 59)
  go_enter Tryz.func96, Tryz.ntmps96
  go_upto_region 1 with (fail)
  generalize w.alloc (.cells #[.int .i64 0, .int .i64 0, .int .i64 0, .int .i64 0, .slice none 0 0] 59) = w1 at *
  obtain ⟨g0, hg0⟩ : ∃ g, w.heap.size = g := ⟨_, rfl⟩
  rw [hg0] at o0 b0 ⊢
  have HG := Lib.hid hg0
  clear hg0
  go_wp2_with fail
  go_loopw [10] (fun i wr => ∃ (k : Nat), i = .int .i64 k ∧ k ≤ n ∧ Hid (∀ j, j < k → (L.getD j ep0).e.k ≠ kind) ∧ Lb.Own wr g0 59 #[.int .i64 0, .int .i64 0, .int .i64 0, .int .i64 0, .slice none 0 0] ∧ Below g0 w wr) (fun i _ => n - (intOf i).toNat)
  case atStart => exact ⟨0, rfl, by omega, Lib.hid (fun j hj => by omega), o0, b0⟩
  case round =>
    clear o0 b0
    obtain ⟨k, rfl, hk, HE, o1, b1⟩ := hrel
    have b1' : Below w.heap.size w wr := by rw [HG.out]; exact b1
    by_cases hlt : k < n
    · obtain ⟨x, hx⟩ : ∃ x, L.getD k ep0 = x := ⟨_, rfl⟩
      obtain ⟨pb, po, rfl, hpb, x0, x1, x2, x3, x4⟩ := erow hrow b1' hlt hx
      have hat := hels.out k (by rw [HN.out]; exact hlt)
      rw [hx] at hat
      have hm := HM.out k (by rw [HN.out]; exact hlt)
      rw [hx] at hm
      have HX := Lib.hid hx
      clear hx
      obtain ⟨⟨ek, easn, erank, et, el⟩, ea, ec⟩ := x
      simp only at x0 x1 x2 x3 x4 hat hm
      have hat1 := hat.below b1'
      have o2 := Own.new wr 59 #[.int .i64 ek, .int .i64 easn, .int .i64 erank, .int .i64 et, .slice ea el.length ec]
      have b2 := (Below.refl wr.heap.size wr).alloc (Nat.le_refl _) (.cells #[.int .i64 ek, .int .i64 easn, .int .i64 erank, .int .i64 et, .slice ea el.length ec] 59)
      have b3 := b1.trans (b2.mono (by have := o1.lt; omega))
      have hat2 := hat1.below b2
      have o3 := below_own b2 o1 o1.lt
      have hgg := o1.lt
      go_upto_region 4 with (fail)
      generalize wr.alloc (.cells #[.int .i64 ek, .int .i64 easn, .int .i64 erank, .int .i64 et, .slice ea el.length ec] 59) = w2 at *
      obtain ⟨g, hg⟩ : ∃ g, wr.heap.size = g := ⟨_, rfl⟩
      rw [hg] at o2 hgg ⊢
      clear hg x0 x1 x2 x3 x4 o1 b1 b1' b2 hat1
      have x0 : w2.cell? ⟨g, 0, none⟩ = some (.int .i64 ek) := o2.cell 0
      have x4 : w2.cell? ⟨g, 4, none⟩ = some (.slice ea el.length ec) := o2.cell 4
      have x4f := o2.free 4
      by_cases hkk : ek = kind
      · have g1 : (ek == kind) = true := by simpa using hkk
        have HD : Hid (fstE (els L) kind = some ⟨ek, easn, erank, et, el⟩) := Lib.hid (by
          have := fst_yes (L := L) (kind := kind) (k := k) (by rw [HN.out]; exact hlt) (by rw [HX.out]; exact hkk) HE.out
          rw [HX.out] at this
          exact this)
        clear hkk
        go_wp2_with (first | (refine wpList_load_row rfl _ _ rfl g rfl 59 #[.int .i64 ek, .int .i64 easn, .int .i64 erank, .int .i64 et, .slice ea el.length ec] (0, 0) _ o2 Tryz.underlying59 rfl (by kernel_rfl) ?_) | (refine wpList_store_row rfl _ _ _ rfl g0 #[.int .i64 ek, .int .i64 easn, .int .i64 erank, .int .i64 et, .slice ea el.length ec] rfl rfl 59 _ o3 (by kernel_rfl) rfl (cells5 _ _ _ _ _) ?_))
        refine bodyPost_ret (results_row_tmp rfl _ _ g0 59 _ (0, 0) _ rfl (o3.setRow _) Tryz.underlying59 rfl (by kernel_rfl)) rfl ?_
        unfold FindPost foundE
        rw [HD.out]
        have b9 := (Just.setRow g0 w2 #[.int .i64 ek, .int .i64 easn, .int .i64 erank, .int .i64 et, .slice ea el.length ec]).below b3 (Nat.le_refl _) (Nat.le_of_lt o3.lt)
        refine ⟨ea, ec, rfl, hat.below (by rw [HG.out]; exact b9), by rw [HG.out]; exact b9⟩
      · have g1 : (ek == kind) = false := by simpa using hkk
        have HE2 : Hid (∀ j, j < k + 1 → (L.getD j ep0).e.k ≠ kind) := Lib.hid (fun j hj => by
          by_cases e : j = k
          · subst e; rw [HX.out]; exact hkk
          · exact HE.out j (by omega))
        clear hkk
        go_wp2_with fail
        exact ⟨⟨k + 1, by simp, by omega, HE2, o3, b3⟩, by simp [intOf]; omega⟩
    · obtain rfl : n = k := by omega
      have HD : Hid (fstE (els L) kind = none) := Lib.hid (fst_no (by rw [HN.out]; exact HE.out))
      go_wp2_with (first | (refine wpList_build_store #[.int .i64 0, .int .i64 0, .int .i64 0, .int .i64 0, .slice none 0 0] rfl rfl rfl rfl builtE rfl rfl o1 (by kernel_rfl) rfl (cells5 _ _ _ _ _) ?_))
      refine bodyPost_ret (results_row_tmp rfl _ _ g0 59 _ (0, 0) _ rfl (o1.setRow _) Tryz.underlying59 rfl (by kernel_rfl)) rfl ?_
      unfold FindPost foundE
      rw [HD.out]
      exact ⟨none, 0, rfl, El.At.none _ _ _ _ _, (Just.setRow _ _ _).below b1' (by rw [HG.out]; exact Nat.le_refl _) b1'.size⟩
end Go.Proofs.YtiflmdekcjbmbaaGreat.Ie
