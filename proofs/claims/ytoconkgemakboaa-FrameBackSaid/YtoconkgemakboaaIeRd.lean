/-
  Package ie (chapter 6): a byte and whether it is there; which sizes fit; a list read.
-/
import Derived.Test.YtoconkgemakboaaIeDecM
import Derived.Test.YtoconkgemakboaaBfHold
set_option maxRecDepth 100000
namespace Go.Proofs.Ytoconkgemakboaa.Ie
set_option linter.unusedVariables false
open Go.RowKit Lb Go.Shelf Bf

theorem Just.of_drew {b m : Nat} {w w' : World} (h : Just b (w.drewN m) w') : Just b w w' := ⟨h.os, h.tape, h.output, h.size, h.block⟩
theorem Just.far {b g : Nat} {w w' : World} (h : Just b w w') (hg : w.heap.size ≤ g) (i : Nat) (u : Value) : Just b w (w'.setCell ⟨g, i, none⟩ u) :=
  ⟨h.os, h.tape, h.output, by simpa [World.setCell] using h.size, fun k hk hb => (Below.heap_setCell w' _ u k (by show k ≠ g; omega)).trans (h.block k hk hb)⟩
theorem infoI : (Try.prog.info? 3).map (fun i => (i.zero, i.size, i.bytes)) = some (some (.int .i64 0), 1, 8) := by kernel_rfl
theorem itake_any (base H b : Nat) (l : List Int) (err : Int) (w : World) (h : Rh w base H b l err) (hd : okD' l) :
    Calls Try.prog 63 #[.pointer (some ⟨b, 0, none⟩)] w fun r w' => r = .returned (.tuple #[.int .i64 (l.getD 0 0), .bool (decide (0 < l.length))]) ∧ Rh w' base H b (lft l 1) (er l 1 err) ∧ Just b w w' := by
  have hl := lefth_any base H b l err w h
  have HL := Lib.hid hl
  have hx : 0 ≤ l.getD 0 0 ∧ l.getD 0 0 < 256 := by
    cases l with
    | nil => exact ⟨by decide, by decide⟩
    | cons x m => exact hd x (by simp)
  obtain ⟨x, hxx⟩ : ∃ x, l.getD 0 0 = x := ⟨_, rfl⟩
  have HX := Lib.hid hxx
  rw [hxx] at hx ⊢
  clear hl hxx
  have hn : l.length ≤ 100000 := by
    obtain ⟨_, j, n, Z, v, _, _, h1, h2, _⟩ := h
    omega
  obtain ⟨n, hnn⟩ : ∃ n, l.length = n := ⟨_, rfl⟩
  rw [hnn] at HL hn ⊢
  clear hnn
  have g1 : decide ((8 : Int) ≤ 8 * (n : Int)) = decide (0 < n) := by rw [Bool.eq_iff_iff]; simp; omega
  go_enter Try.func63, Try.ntmps63
  go_wp2_with fail
  refine HL.out.mono ?_
  rintro r w2 ⟨rfl, m, rfl⟩
  go_wp2_with fail
  refine (take8h_any base H b l err _ (h.drewN m)).mono ?_
  rintro r w3 ⟨rfl, h3, j3⟩
  rw [HX.out]
  go_wp2_with fail
  go_ret2
  exact ⟨rfl, h3, Just.of_drew j3⟩
theorem sizef_any (k s : Int) (w : World) : Calls Try.prog 69 #[.int .i64 k, .int .i64 s] w fun r w' => r = .returned (.bool (sizeB k s)) ∧ w = w' := by
  by_cases k1 : k = 1
  · have hD : sizeB k s = (s == 6) := by unfold sizeB; rw [if_pos k1]
    have HD := Lib.hid hD
    have g1 : (k == 1) = true := by simpa using k1
    clear k1 hD
    go_enter Try.func69, Try.ntmps69
    go_wp2_with fail
    go_ret
    exact ⟨by rw [HD.out]; rfl, rfl⟩
  · have g1 : (k == 1) = false := by simpa using k1
    by_cases k2 : k = 2
    · have hD : sizeB k s = (s == 2) := by unfold sizeB; rw [if_neg k1, if_pos k2]
      have HD := Lib.hid hD
      have g2 : (k == 2) = true := by simpa using k2
      clear k1 k2 hD
      go_enter Try.func69, Try.ntmps69
      go_wp2_with fail
      go_ret
      exact ⟨by rw [HD.out]; rfl, rfl⟩
    · have hD : sizeB k s = decide (s ≤ 16) := by unfold sizeB; rw [if_neg k1, if_neg k2]
      have HD := Lib.hid hD
      have g2 : (k == 2) = false := by simpa using k2
      clear k1 k2 hD
      go_enter Try.func69, Try.ntmps69
      go_wp2_with fail
      go_ret
      exact ⟨by rw [HD.out]; rfl, rfl⟩
set_option maxHeartbeats 1000000 in
theorem readl_any (base H b : Nat) (l : List Int) (err : Int) (n : Nat) (w : World) (h : Rh w base H b l err) (hd : okD' l) (hn : n ≤ l.length) (hH : H ≤ w.heap.size) (h16 : n ≤ 255) :
    Calls Try.prog 71 #[.pointer (some ⟨b, 0, none⟩), .int .i64 (n : Int)] w fun r w' => r = .returned (.slice (some ⟨w.heap.size, 0, none⟩) n n) ∧ Blk w' w.heap.size 3 n (zval (l.take n)) ∧ Rh w' base H b (l.drop n) err ∧ Just b w w' := by
  obtain ⟨i0, hi0, hz0, hz1, hz2⟩ := info_parts infoI
  have hmk : ∀ w : World, (Instr.makeSlice 32 (.int .i64 (n : Int)) (.int .i64 (n : Int))).run Try.prog w = .ok (.slice (some ⟨w.heap.size, 0, none⟩) n n) (w.alloc (.cells (madeCells #[.int .i64 0] n) 3)) := by
    intro w
    have := run_make w 32 3 i0 (.int .i64 0) Try.underlying32 hi0 hz0 .i64 .i64 (n : Int) (n : Int) (by omega) (by omega) (by rw [hz2]; omega) (by omega)
    rw [this, hz1]
    simp [Value.cells]
  have HCS : Hid (madeCells #[Value.int .i64 0] n = (List.replicate n (Value.int .i64 0)).toArray) := Lib.hid (by
    apply Array.toList_inj.1
    simpa using toList_madeCells_one (Value.int .i64 0) n)
  have HD := Lib.hid hd
  have HL := Lib.hid hn
  clear hd hn
  go_enter Try.func71, Try.ntmps71
  go_wp2_with fail
  have o1 : Blk (w.alloc (.cells (madeCells #[.int .i64 0] n) 3)) w.heap.size 3 n (fun j => if j < 0 then .int .i64 (l.getD j 0) else .int .i64 0) := Blk.ext (Blk.same (Own.new _ _ _) HCS.out) (fun i hi => by rw [if_neg (by omega)])
  have b1 := (Below.refl w.heap.size w).alloc (Nat.le_refl _) (.cells (madeCells #[.int .i64 0] n) 3)
  have h1 : Rh (w.alloc (.cells (madeCells #[.int .i64 0] n) 3)) base H b (l.drop 0) err := by rw [List.drop_zero]; exact h.kept (b1.mono hH)
  have j1 : Just b w (w.alloc (.cells (madeCells #[.int .i64 0] n) 3)) := (Just.refl b w).alloc _
  have hbg : b < w.heap.size := Nat.lt_of_lt_of_le h.lt hH
  generalize w.alloc (.cells (madeCells #[.int .i64 0] n) 3) = w1 at *
  obtain ⟨g, hg⟩ : ∃ g, w.heap.size = g := ⟨_, rfl⟩
  have HG := Lib.hid hg
  rw [hg] at o1 hbg hH ⊢
  clear hg h b1 hmk HCS
  go_loopw [11] (fun i wr => ∃ (k : Nat), i = .int .i64 k ∧ k ≤ n ∧ Blk wr g 3 n (fun j => if j < k then .int .i64 (l.getD j 0) else .int .i64 0) ∧ Rh wr base H b (l.drop k) err ∧ Just b w wr) (fun i _ => n - (intOf i).toNat)
  case atStart => exact ⟨0, rfl, by omega, o1, h1, j1⟩
  case round =>
    clear o1 h1 j1
    obtain ⟨k, rfl, hk, o1, h1, j1⟩ := hrel
    by_cases hlt : k < n
    · have hx : 0 ≤ l.getD k 0 ∧ l.getD k 0 < 256 := by
        have := HL.out
        rw [List.getD_eq_getElem?_getD, List.getElem?_eq_getElem (by omega)]
        exact HD.out _ (List.getElem_mem _)
      have h0 : (l.drop k).getD 0 0 = l.getD k 0 := by rw [lft_get, Nat.add_zero]
      have hlf : lft (l.drop k) 1 = l.drop (k + 1) ∧ er (l.drop k) 1 err = err := by
        have := HL.out
        have h2 : ¬ (l.drop k).length < 1 := by rw [List.length_drop]; omega
        unfold lft er
        rw [if_neg h2, if_neg h2, List.drop_drop]
        exact ⟨rfl, rfl⟩
      obtain ⟨x, hxx⟩ : ∃ x, l.getD k 0 = x := ⟨_, rfl⟩
      rw [hxx] at hx h0
      have HX := Lib.hid hxx
      have H0 := Lib.hid h0
      have HLF := Lib.hid hlf
      clear hxx h0 hlf
      go_wp2_with fail
      refine (take8h_any base H b (l.drop k) err _ h1).mono ?_
      rintro r w3 ⟨rfl, h3, j3⟩
      rw [H0.out]
      rw [HLF.out.1, HLF.out.2] at h3
      have o3 := j3.blk o1 (by omega)
      have c3 := o3.cell hlt
      have f3 := o3.free k
      have j4 := Ie.Just.far (j1.trans j3) (g := g) (by rw [HG.out]; exact Nat.le_refl _) k (.int .i64 x)
      have h4 : Rh (w3.setCell ⟨g, k, none⟩ (.int .i64 x)) base H b (l.drop (k + 1)) err := h3.kept ((Below.refl H w3).setCell (p := ⟨g, k, none⟩) hH _)
      have o4 := (o3.put k (.int .i64 x)).ext (U := fun j => if j < k + 1 then .int .i64 (l.getD j 0) else .int .i64 0) (fun i hi => by
        by_cases e : i = k
        · subst e; rw [if_pos rfl, if_pos (by omega), HX.out]
        · rw [if_neg e]
          by_cases e2 : i < k
          · rw [if_pos e2, if_pos (by omega)]
          · rw [if_neg e2, if_neg (by omega)])
      clear h1 h3 j3 o1 j1 o3
      go_wp2_with fail
      exact ⟨⟨k + 1, by simp, by omega, o4, h4, j4⟩, by simp [intOf]; omega⟩
    · obtain rfl : n = k := by omega
      go_wp2_with fail
      go_ret
      rw [HG.out]
      refine ⟨rfl, o1.ext (fun i hi => ?_), h1, j1⟩
      rw [if_pos hi]
      unfold zval
      rw [List.getD_eq_getElem?_getD, List.getD_eq_getElem?_getD, List.getElem?_take_of_lt hi]
def ReadPost (base H b : Nat) (e : El) (R : List Int) (err : Int) (w : World) (r : Ending) (w' : World) : Prop :=
  ∃ a c, r = .returned (fromV e a c) ∧ e.At w' a c ∧ (∀ p, a = some p → w.heap.size ≤ p.block) ∧ Rh w' base H b R err ∧ Just b w w'
theorem tk_tk (l : List Int) : (l.take 6).take 5 = l.take 5 := by rw [List.take_take]; rfl
theorem tk_get {l : List Int} {s i : Nat} (h : i < s) : (l.take s).getD i 0 = l.getD i 0 := by
  rw [List.getD_eq_getElem?_getD, List.getD_eq_getElem?_getD, List.getElem?_take_of_lt h]
set_option maxHeartbeats 1000000 in
theorem read1 (base H b : Nat) (l : List Int) (err : Int) (w : World) (h : Rh w base H b l err) (hd : okD' l) (hl : 6 ≤ l.length) :
    Calls Try.prog 70 #[.pointer (some ⟨b, 0, none⟩), .int .i64 1, .int .i64 6] w (ReadPost base H b (elOf 1 (l.take 6)) (l.drop 6) err w) := by
  have hT : Calls Try.prog 40 #[.pointer (some ⟨b, 0, none⟩), .int .i64 40] w (fun r w' => ∃ x : Nat, r = .returned (.int .u64 (x : Nat)) ∧ x < 256 ^ 5 ∧ bytesK x 5 = l.take 5 ∧ Rh w' base H b (l.drop 5) err ∧ Just b w w') := takeh_any base H b l err 5 w h (by omega) (by omega)
  have HT := Lib.hid hT
  have h6 : 0 < (l.drop 5).length := by rw [List.length_drop]; omega
  have hlf : lft (l.drop 5) 1 = l.drop 6 ∧ er (l.drop 5) 1 err = err := by
    have h2 : ¬ (l.drop 5).length < 1 := by omega
    unfold lft er
    rw [if_neg h2, if_neg h2, List.drop_drop]
    exact ⟨rfl, rfl⟩
  have hy : (l.drop 5).getD 0 0 = l.getD 5 0 := by rw [lft_get]
  have hyb : 0 ≤ l.getD 5 0 ∧ l.getD 5 0 < 256 := by
    rw [List.getD_eq_getElem?_getD, List.getElem?_eq_getElem (by omega)]
    exact hd _ (List.getElem_mem _)
  have hE : ∀ x : Nat, x < 256 ^ 5 → bytesK x 5 = l.take 5 → elOf 1 (l.take 6) = ⟨1, (x : Int), l.getD 5 0, 0, []⟩ := fun x h1 h2 => by
    unfold elOf
    rw [if_pos rfl, tk_tk, numB_of h1 h2, tk_get (by omega)]
  obtain ⟨y, hyy⟩ : ∃ y, l.getD 5 0 = y := ⟨_, rfl⟩
  rw [hyy] at hy hyb hE
  have HY := Lib.hid hy
  have HE := Lib.hid hE
  have HLF := Lib.hid hlf
  clear hT hlf hy hyy hE hl h6
  go_enter Try.func70, Try.ntmps70
  go_wp2_with fail
  refine HT.out.mono ?_
  rintro r w2 ⟨x, rfl, hx, hxb, h2, j2⟩
  have hx40 : x < 1099511627776 := hx
  have HX := Lib.hid (HE.out x hx hxb)
  clear hx hxb
  go_wp2_with fail
  refine (take8h_any base H b (l.drop 5) err _ h2).mono ?_
  rintro r w3 ⟨rfl, h3, j3⟩
  rw [HY.out]
  rw [HLF.out.1, HLF.out.2] at h3
  go_wp2_with fail
  go_ret
  unfold ReadPost
  rw [HX.out]
  exact ⟨none, 0, rfl, El.At.none _ _ _ _ _, fun p e => (by cases e), h3, j2.trans j3⟩
set_option maxHeartbeats 1000000 in
theorem read2 (base H b : Nat) (l : List Int) (err : Int) (w : World) (h : Rh w base H b l err) (hl : 2 ≤ l.length) :
    Calls Try.prog 70 #[.pointer (some ⟨b, 0, none⟩), .int .i64 2, .int .i64 2] w (ReadPost base H b (elOf 2 (l.take 2)) (l.drop 2) err w) := by
  have hT : Calls Try.prog 40 #[.pointer (some ⟨b, 0, none⟩), .int .i64 16] w (fun r w' => ∃ x : Nat, r = .returned (.int .u64 (x : Nat)) ∧ x < 256 ^ 2 ∧ bytesK x 2 = l.take 2 ∧ Rh w' base H b (l.drop 2) err ∧ Just b w w') := takeh_any base H b l err 2 w h (by omega) (by omega)
  have HT := Lib.hid hT
  have hE : ∀ x : Nat, x < 256 ^ 2 → bytesK x 2 = l.take 2 → elOf 2 (l.take 2) = ⟨2, 0, 0, IntKind.i16.wrap (x : Int), []⟩ := fun x h1 h2 => by
    unfold elOf
    rw [if_neg (by decide), if_pos rfl, numB_of h1 h2]
  have HE := Lib.hid hE
  clear hT hE hl
  go_enter Try.func70, Try.ntmps70
  go_wp2_with fail
  refine HT.out.mono ?_
  rintro r w2 ⟨x, rfl, hx, hxb, h2, j2⟩
  have HX := Lib.hid (HE.out x hx hxb)
  clear hx hxb
  obtain ⟨y, hy⟩ : ∃ y, IntKind.i16.wrap (x : Int) = y := ⟨_, rfl⟩
  have hyb : -32768 ≤ y ∧ y ≤ 32767 := by
    rw [← hy]
    simp only [IntKind.wrap, IntKind.signed, IntKind.bits]
    simp
    omega
  rw [hy] at HX
  go_wp2_with fail
  go_ret
  unfold ReadPost
  rw [HX.out]
  exact ⟨none, 0, rfl, El.At.none _ _ _ _ _, fun p e => (by cases e), h2, j2⟩
theorem blk_at {w : World} {g n : Nat} {l : List Int} {k asn rank t : Int} (h : Blk w g 3 n (zval l)) (hl : l.length = n) (hn : n ≤ 255) : (⟨k, asn, rank, t, l⟩ : El).At w (some ⟨g, 0, none⟩) n := by
  refine ⟨by rw [← hl]; exact Nat.le_refl _, by unfold maxLen; omega, ?_, fun e => by cases e⟩
  show Row w _ l.length _
  rw [hl]
  exact Row.own h (fun i hi => by simp [hi])
set_option maxHeartbeats 1000000 in
theorem read3 (base H b : Nat) (l : List Int) (err : Int) (n : Nat) (w : World) (h : Rh w base H b l err) (hd : okD' l) (hl : n ≤ l.length) (hH : H ≤ w.heap.size) (h16 : n ≤ 16) :
    Calls Try.prog 70 #[.pointer (some ⟨b, 0, none⟩), .int .i64 3, .int .i64 (n : Int)] w (ReadPost base H b (elOf 3 (l.take n)) (l.drop n) err w) := by
  have hlen : (l.take n).length = n := by rw [List.length_take]; omega
  go_enter Try.func70, Try.ntmps70
  go_wp2_with fail
  refine (readl_any base H b l err n w h hd hl hH (by omega)).mono ?_
  rintro r w2 ⟨rfl, o2, h2, j2⟩
  have hat := blk_at (k := 3) (asn := 0) (rank := 0) (t := 0) o2 hlen (by omega)
  have HF : Hid (fromV (⟨3, 0, 0, 0, l.take n⟩ : El) (some ⟨w.heap.size, 0, none⟩) n = .iface 100 (.agg #[.slice (some ⟨w.heap.size, 0, none⟩) n n])) := Lib.hid (by unfold fromV; simp only [hlen]; rfl)
  clear hlen
  go_wp2_with fail
  go_ret
  exact ⟨some ⟨w.heap.size, 0, none⟩, n, congrArg _ HF.out.symm, hat, fun p e => (by injection e with e; subst e; exact Nat.le_refl _), h2, j2⟩
set_option maxHeartbeats 1000000 in
theorem read4 (base H b : Nat) (l : List Int) (err : Int) (n : Nat) (w : World) (h : Rh w base H b l err) (hd : okD' l) (hl : n ≤ l.length) (hH : H ≤ w.heap.size) (h16 : n ≤ 16) :
    Calls Try.prog 70 #[.pointer (some ⟨b, 0, none⟩), .int .i64 4, .int .i64 (n : Int)] w (ReadPost base H b (elOf 4 (l.take n)) (l.drop n) err w) := by
  have hlen : (l.take n).length = n := by rw [List.length_take]; omega
  go_enter Try.func70, Try.ntmps70
  go_wp2_with fail
  refine (readl_any base H b l err n w h hd hl hH (by omega)).mono ?_
  rintro r w2 ⟨rfl, o2, h2, j2⟩
  have hat := blk_at (k := 4) (asn := 0) (rank := 0) (t := 0) o2 hlen (by omega)
  have HF : Hid (fromV (⟨4, 0, 0, 0, l.take n⟩ : El) (some ⟨w.heap.size, 0, none⟩) n = .iface 101 (.agg #[.slice (some ⟨w.heap.size, 0, none⟩) n n])) := Lib.hid (by unfold fromV; simp only [hlen]; rfl)
  clear hlen
  go_wp2_with fail
  go_ret
  exact ⟨some ⟨w.heap.size, 0, none⟩, n, congrArg _ HF.out.symm, hat, fun p e => (by injection e with e; subst e; exact Nat.le_refl _), h2, j2⟩
theorem read_any (base H b : Nat) (l : List Int) (err : Int) (k : Int) (s : Nat) (w : World) (h : Rh w base H b l err) (hd : okD' l) (hk : 1 ≤ k ∧ k ≤ 4) (hs : sizeB k (s : Int) = true) (hl : s ≤ l.length) (hH : H ≤ w.heap.size) :
    Calls Try.prog 70 #[.pointer (some ⟨b, 0, none⟩), .int .i64 k, .int .i64 (s : Int)] w (ReadPost base H b (elOf k (l.take s)) (l.drop s) err w) := by
  rcases (show k = 1 ∨ k = 2 ∨ k = 3 ∨ k = 4 by omega) with rfl | rfl | rfl | rfl
  · have : s = 6 := by unfold sizeB at hs; simp at hs; omega
    subst this
    exact read1 base H b l err w h hd hl
  · have : s = 2 := by unfold sizeB at hs; simp at hs; omega
    subst this
    exact read2 base H b l err w h hl
  · have : s ≤ 16 := by unfold sizeB at hs; simp at hs; omega
    exact read3 base H b l err s w h hd hl hH this
  · have : s ≤ 16 := by unfold sizeB at hs; simp at hs; omega
    exact read4 base H b l err s w h hd hl hH this
end Go.Proofs.Ytoconkgemakboaa.Ie
