/-
  Package join (chapter 18): desks and seekers: NewDesk, Count, NewSeeker, Seeker.Ask.
-/
import Derived.Test.YtphiohdhgkpgnaaJoSeal
import Derived.Test.YtphiohdhgkpgnaaVar
import Derived.Test.YtphiohdhgkpgnaaSlK
import Derived.Deep.RegionWith
set_option maxRecDepth 100000
namespace Go.Proofs.Ytphiohdhgkpgnaa.Jo
set_option linter.unusedVariables false
open Go.RowKit Lb Go.Shelf Bf Se Cl

def dv (n : Int) (K N : Nat → Int) (j : Nat) : Value := if j = 0 then .int .i64 n else if j < 17 then .int .u64 (K (j - 1)) else .int .u32 (N (j - 17))
/-- A desk. -/
def Dk (w : World) (d : Nat) (n : Int) (K N : Nat → Int) : Prop := Blk w d 92 33 (dv n K N)
theorem Dk.n {w : World} {d : Nat} {n : Int} {K N : Nat → Int} (h : Dk w d n K N) : w.cell? ⟨d, 0, none⟩ = some (.int .i64 n) := Blk.cell h (by decide)
theorem Dk.key {w : World} {d : Nat} {n : Int} {K N : Nat → Int} (h : Dk w d n K N) {i : Nat} (hi : i < 16) : w.cell? ⟨d, 1 + i, none⟩ = some (.int .u64 (K i)) := by
  have := Blk.cell h (i := 1 + i) (by omega)
  unfold dv at this
  rw [if_neg (by omega), if_pos (by omega), show 1 + i - 1 = i by omega] at this
  exact this
theorem Dk.count {w : World} {d : Nat} {n : Int} {K N : Nat → Int} (h : Dk w d n K N) {i : Nat} (hi : i < 16) : w.cell? ⟨d, 17 + i, none⟩ = some (.int .u32 (N i)) := by
  have := Blk.cell h (i := 17 + i) (by omega)
  unfold dv at this
  rw [if_neg (by omega), if_neg (by omega), show 17 + i - 17 = i by omega] at this
  exact this
def setN (N : Nat → Int) (i : Nat) (x : Int) (j : Nat) : Int := if j = i then x else N j
theorem Dk.set {w : World} {d : Nat} {n : Int} {K N : Nat → Int} (h : Dk w d n K N) {i : Nat} (hi : i < 16) (x : Int) : Dk (w.setCell ⟨d, 17 + i, none⟩ (.int .u32 x)) d n K (setN N i x) :=
  (Blk.put h (17 + i) (.int .u32 x)).ext (fun j hj => by
    unfold dv setN
    by_cases e : j = 17 + i
    · rw [if_pos e, if_neg (by omega), if_neg (by omega), if_pos (by omega)]
    · rw [if_neg e]
      by_cases e1 : j = 0
      · rw [if_pos e1, if_pos e1]
      · rw [if_neg e1, if_neg e1]
        by_cases e2 : j < 17
        · rw [if_pos e2, if_pos e2]
        · rw [if_neg e2, if_neg e2, if_neg (by omega)])
/-- A seeker. -/
def Sk (w : World) (s : Nat) (nd key co no : Int) (wt : Bool) : Prop := Own w s 94 #[.int .i64 nd, .int .u64 key, .int .u32 co, .int .u32 no, .bool wt]
theorem u64info : (Try.prog.info? 22).map (·.size) = some 1 := by kernel_rfl
def keysL (K : Nat → Int) (n : Nat) : List Value := (List.range n).map fun i => .int .u64 (K i)
theorem keysL_len (K : Nat → Int) (n : Nat) : (keysL K n).length = n := by simp [keysL]
theorem newdesk_any (a : Option Addr) (n c : Nat) (K : Nat → Int) (w : World) (h1 : 1 ≤ n) (hn : n ≤ 16) (hc : n ≤ c) (hm : c ≤ maxLen) (hR : Row w a n (fun i => .int .u64 (K i))) :
    Calls Try.prog 19 #[.slice a n c] w fun e w' => e = .returned (.pointer (some ⟨w.heap.size, 0, none⟩)) ∧ Dk w' w.heap.size (n : Int) (fun i => if i < n then K i else 0) (fun _ => 0) ∧ Below w.heap.size w w' ∧ w.heap.size < w'.heap.size := by
  unfold maxLen at hm
  have hn63 : (n : Int) ≤ 9223372036854775807 := by omega
  have hc63 : (c : Int) ≤ 9223372036854775807 := by omega
  obtain ⟨bo, off, rfl, hbo, hcs⟩ := hR (by omega)
  go_enter Try.func19, Try.ntmps19
  go_upto_region 2 with (fail)
  have o1 : Blk (w.alloc (.cells #[.int .i64 0, .int .u64 0, .int .u64 0, .int .u64 0, .int .u64 0, .int .u64 0, .int .u64 0, .int .u64 0, .int .u64 0, .int .u64 0, .int .u64 0, .int .u64 0, .int .u64 0, .int .u64 0, .int .u64 0, .int .u64 0, .int .u64 0, .int .u32 0, .int .u32 0, .int .u32 0, .int .u32 0, .int .u32 0, .int .u32 0, .int .u32 0, .int .u32 0, .int .u32 0, .int .u32 0, .int .u32 0, .int .u32 0, .int .u32 0, .int .u32 0, .int .u32 0, .int .u32 0] 92)) w.heap.size 92 33 (dv 0 (fun _ => 0) (fun _ => 0)) := by
    have : (#[.int .i64 0, .int .u64 0, .int .u64 0, .int .u64 0, .int .u64 0, .int .u64 0, .int .u64 0, .int .u64 0, .int .u64 0, .int .u64 0, .int .u64 0, .int .u64 0, .int .u64 0, .int .u64 0, .int .u64 0, .int .u64 0, .int .u64 0, .int .u32 0, .int .u32 0, .int .u32 0, .int .u32 0, .int .u32 0, .int .u32 0, .int .u32 0, .int .u32 0, .int .u32 0, .int .u32 0, .int .u32 0, .int .u32 0, .int .u32 0, .int .u32 0, .int .u32 0, .int .u32 0] : Array Value) = Array.ofFn (n := 33) fun i => dv 0 (fun _ => 0) (fun _ => 0) i := by kernel_rfl
    rw [this]
    exact Own.new w 92 _
  have b1 := (Below.refl w.heap.size w).alloc (Nat.le_refl _) (.cells #[.int .i64 0, .int .u64 0, .int .u64 0, .int .u64 0, .int .u64 0, .int .u64 0, .int .u64 0, .int .u64 0, .int .u64 0, .int .u64 0, .int .u64 0, .int .u64 0, .int .u64 0, .int .u64 0, .int .u64 0, .int .u64 0, .int .u64 0, .int .u32 0, .int .u32 0, .int .u32 0, .int .u32 0, .int .u32 0, .int .u32 0, .int .u32 0, .int .u32 0, .int .u32 0, .int .u32 0, .int .u32 0, .int .u32 0, .int .u32 0, .int .u32 0, .int .u32 0, .int .u32 0] 92)
  have hs1 : w.heap.size < (w.alloc (.cells #[.int .i64 0, .int .u64 0, .int .u64 0, .int .u64 0, .int .u64 0, .int .u64 0, .int .u64 0, .int .u64 0, .int .u64 0, .int .u64 0, .int .u64 0, .int .u64 0, .int .u64 0, .int .u64 0, .int .u64 0, .int .u64 0, .int .u64 0, .int .u32 0, .int .u32 0, .int .u32 0, .int .u32 0, .int .u32 0, .int .u32 0, .int .u32 0, .int .u32 0, .int .u32 0, .int .u32 0, .int .u32 0, .int .u32 0, .int .u32 0, .int .u32 0, .int .u32 0, .int .u32 0] 92)).heap.size := by simp
  generalize w.alloc (.cells #[.int .i64 0, .int .u64 0, .int .u64 0, .int .u64 0, .int .u64 0, .int .u64 0, .int .u64 0, .int .u64 0, .int .u64 0, .int .u64 0, .int .u64 0, .int .u64 0, .int .u64 0, .int .u64 0, .int .u64 0, .int .u64 0, .int .u64 0, .int .u32 0, .int .u32 0, .int .u32 0, .int .u32 0, .int .u32 0, .int .u32 0, .int .u32 0, .int .u32 0, .int .u32 0, .int .u32 0, .int .u32 0, .int .u32 0, .int .u32 0, .int .u32 0, .int .u32 0, .int .u32 0] 92) = w1 at *
  obtain ⟨d, hd⟩ : ∃ d, w.heap.size = d := ⟨_, rfl⟩
  have HDD := Lib.hid hd
  rw [hd] at o1 b1 hs1 hbo ⊢
  clear hd
  have hcp : ∀ ty, (Builtin.copy_ #[45, 45] ty #[.slice (some ⟨d, 1, none⟩) 16 16, .slice (some ⟨bo, off, none⟩) n c]).run Try.prog w1 = .ok (goInt ((n : Nat))) (w1.setCells d 1 (keysL K n)) := fun ty =>
    run_copyK w1 _ _ ty 22 1 d 1 16 16 ⟨bo, off, none⟩ n c n (keysL K n) Try.underlying45 u64info (by simp only [Nat.min_def]; split <;> omega) (by rw [keysL_len, Nat.mul_one])
      (fun j u hj => by
        have hlt : j < n := by
          have := (List.getElem?_eq_some_iff.1 hj).1
          rwa [keysL_len] at this
        have : u = .int .u64 (K j) := by
          simp [keysL, hlt] at hj
          exact hj.symm
        rw [this, Addr.add_lit]
        exact (b1.cell hbo).trans (hcs j hlt)) (Blk.there o1 (by rw [keysL_len]; omega)) (fun u hu => by
          obtain ⟨t, _, rfl⟩ := List.mem_map.1 hu
          rfl)
  have o2 := Blk.puts (keysL K n) 1 o1
  have j2 := Just.puts d (keysL K n) w1 1
  have hs2 : d < (w1.setCells d 1 (keysL K n)).heap.size := Nat.lt_of_lt_of_le hs1 j2.size
  have HO2 := Lib.hid o2
  have b2 := j2.below b1 (Nat.le_refl _) (Nat.le_of_lt hs1)
  obtain ⟨w2, hw2⟩ : ∃ w2, w1.setCells d 1 (keysL K n) = w2 := ⟨_, rfl⟩
  rw [hw2] at hcp hs2 b2 HO2
  have c0 : w2.cell? ⟨d, 0, none⟩ = some (.int .i64 0) := by
    have := Blk.cell HO2.out (i := 0) (by decide)
    rw [putL_at, if_neg (by omega)] at this
    exact this
  have f0 : w2.frozen? ⟨d, 0, none⟩ = false := Blk.free HO2.out 0
  clear o1 o2 j2 hw2 hcs hR
  go_wp2_with (with_reducible refine wp_copy_is w2 rfl (.tmp 10) (.tmp 11) _ _ rfl (.slice (some ⟨d, 1, none⟩) 16 16) (.slice (some ⟨bo, off, none⟩) n c) rfl rfl _ _ (hcp _) ?_)
  go_ret
  have o3 := HO2.out.put 0 (.int .i64 (n : Int))
  have j3 := Just.set d w2 0 (.int .i64 (n : Int))
  refine ⟨by rw [HDD.out]; rfl, ?_, ?_, ?_⟩
  · rw [HDD.out]
    refine o3.ext (fun i hi => ?_)
    by_cases e : i = 0
    · rw [if_pos e, e]
      rfl
    · rw [if_neg e, putL_at, keysL_len]
      unfold dv
      rw [if_neg e, if_neg e]
      by_cases h : i < 17
      · rw [if_pos h, if_pos h]
        by_cases h2 : i - 1 < n
        · rw [if_pos ⟨by omega, by omega⟩]
          simp [keysL, h2]
        · rw [if_neg (by omega)]
          simp [h2]
      · rw [if_neg h, if_neg h, if_neg (by omega)]
  · rw [HDD.out]
    exact j3.below b2 (Nat.le_refl _) (Nat.le_of_lt hs2)
  · rw [HDD.out]
    exact Nat.lt_of_lt_of_le hs2 j3.size
theorem newseeker_any (nd key : Int) (w : World) (h : nodeB nd = true) :
    Calls Try.prog 20 #[.int .i64 nd, .int .u64 key] w fun e w' => e = .returned (.pointer (some ⟨w.heap.size, 0, none⟩)) ∧ Sk w' w.heap.size nd key 0 0 false ∧ Below w.heap.size w w' ∧ w.heap.size < w'.heap.size := by
  have P1 := isnode_any nd w
  rw [h] at P1
  go_enter Try.func20, Try.ntmps20
  go_wp2_with fail
  refine P1.mono ?_
  rintro e w2 ⟨rfl, rfl⟩
  go_wp2_with fail
  go_ret
  exact ⟨rfl, Own.new w 94 #[.int .i64 nd, .int .u64 key, .int .u32 0, .int .u32 0, .bool false], (Below.refl _ _).alloc (Nat.le_refl _) _, by simp⟩
def cntV (n : Nat) (N : Nat → Int) (x : Nat) : Value := if x < n then .tuple #[.int .u32 (N x), .bool true] else .tuple #[.int .u32 0, .bool false]
theorem count_any (d : Nat) (n : Nat) (K N : Nat → Int) (x : Nat) (w : World) (h : Dk w d n K N) (hn : n ≤ 16) :
    Calls Try.prog 27 #[.pointer (some ⟨d, 0, none⟩), .int .i64 (x : Int)] w fun e w' => e = .returned (cntV n N x) ∧ w = w' := by
  have c0 := h.n
  by_cases hx : x < n
  · have c1 := h.count (i := x) (by omega)
    have g1 : (x : Int) < 16 := by omega
    have g2 : decide ((n : Int) ≤ (x : Int)) = false := by simp; omega
    have g3 : decide (n ≤ x) = false := by simp; omega
    have HX : Hid (cntV n N x = .tuple #[.int .u32 (N x), .bool true]) := Lib.hid (if_pos hx)
    clear hx
    go_enter Try.func27, Try.ntmps27
    go_wp2_with fail
    go_ret2
    exact ⟨by rw [HX.out]; rfl, rfl⟩
  · have g2 : decide ((n : Int) ≤ (x : Int)) = true := by simp; omega
    have g3 : decide (n ≤ x) = true := by simp; omega
    have HX : Hid (cntV n N x = .tuple #[.int .u32 0, .bool false]) := Lib.hid (if_neg hx)
    clear hx
    go_enter Try.func27, Try.ntmps27
    go_wp2_with fail
    go_ret2
    exact ⟨by rw [HX.out]; rfl, rfl⟩
/-- What a seeker asks. -/
def skR (nd pa no co : Int) : Rq := ⟨nd, pa, no, co + 1, 0⟩
set_option maxHeartbeats 4000000 in
theorem sask_any (s : Nat) (nd key co no0 : Int) (wt : Bool) (pa no : Int) (w : World) (h : Sk w s nd key co no0 wt) (hk : 0 ≤ key) (hnd : nodeB nd = true) (hpa : otherB pa nd = true) (hno : In32 no) (hco : 0 ≤ co ∧ co < 4294967295) :
    Calls Try.prog 21 #[.pointer (some ⟨s, 0, none⟩), .int .i64 pa, .int .u32 no] w fun e w' => ∃ a c, e = .returned (.tuple #[.slice a (sealL key (askB (skR nd pa no co))).length c, .int .i64 0]) ∧ BsN w.heap.size w' a c (sealL key (askB (skR nd pa no co))) ∧ Sk w' s nd key (co + 1) no true ∧ Just s w w' := by
  have hmr : mayR (skR nd pa no co) = true := by unfold mayR skR; dsimp only; rw [hnd, hpa]; rfl
  have PA : ∀ W, Calls Try.prog 9 #[.int .u64 key, .agg #[.int .i64 nd, .int .i64 pa, .int .u32 no, .int .u32 (co + 1), .int .u32 0]] W fun e w' => ∃ a c, e = .returned (.tuple #[.slice a (sealL key (askB (skR nd pa no co))).length c, .int .i64 0]) ∧ BsN W.heap.size w' a c (sealL key (askB (skR nd pa no co))) ∧ Below W.heap.size W w' := fun W => by
    have := ask_any key (skR nd pa no co) W hk ⟨hno, by unfold skR In32; dsimp only; omega⟩
    unfold askO askC at this
    rw [if_pos hmr, if_pos hmr] at this
    exact this
  have PO := isother_any pa nd w
  rw [hpa] at PO
  have c0 := Own.cell h 0
  have c1 := Own.cell h 1
  have c2 := Own.cell h 2
  have c3 := Own.cell h 3
  have c4 := Own.cell h 4
  have c0 : w.cell? ⟨s, 0, none⟩ = some (.int .i64 nd) := c0
  have c1 : w.cell? ⟨s, 1, none⟩ = some (.int .u64 key) := c1
  have c2 : w.cell? ⟨s, 2, none⟩ = some (.int .u32 co) := c2
  have e1 : IntKind.u32.wrap (co + 1) = co + 1 := by rw [IntKind.wrap_u32]; omega
  have z0 : (co == 4294967295) = false := by simp; omega
  have hlt : s < w.heap.size := Own.lt h
  clear hmr hpa hnd hno hco c3 c4
  go_enter Try.func21, Try.ntmps21
  go_wp2_with fail
  refine PO.mono ?_
  rintro e w2 ⟨rfl, rfl⟩
  go_upto_region 5 with (fail)
  have d0 : ∀ z : Gw w, z.toW.cell? ⟨s, 0, none⟩ = some (.int .i64 nd) := fun z => (z.ok.cell (lt_of_cell c0)).trans c0
  have d1 : ∀ z : Gw w, z.toW.cell? ⟨s, 1, none⟩ = some (.int .u64 key) := fun z => (z.ok.cell (lt_of_cell c1)).trans c1
  have d2 : ∀ z : Gw w, z.toW.cell? ⟨s, 2, none⟩ = some (.int .u32 co) := fun z => (z.ok.cell (lt_of_cell c2)).trans c2
  obtain ⟨n, hn⟩ : ∃ n, (sealL key (askB (skR nd pa no co))).length = n := ⟨_, rfl⟩
  have HN := Lib.hid hn
  have HPA := Lib.hid PA
  clear PA hn c0 c1 c2
  refine wp_region_grow w (Below.refl _ _) [.is (.pointer (some ⟨s, 0, none⟩)), .is (.pointer (some ⟨s, 0, none⟩)), .is (.pointer (some ⟨s, 1, none⟩)), .is (.int .u64 key), .is (.pointer (some ⟨s, 0, none⟩)), .is (.pointer (some ⟨s, 0, none⟩)), .is (.pointer (some ⟨s, 0, none⟩)), .is (.int .i64 nd), .is (.int .i64 pa), .is (.int .u32 no), .is (.pointer (some ⟨s, 0, none⟩)), .is (.pointer (some ⟨s, 0, none⟩)), .is (.pointer (some ⟨s, 2, none⟩)), .is (.int .u32 co), .is (.int .u32 (co + 1)), .is (.agg #[.int .i64 nd, .int .i64 pa, .int .u32 no, .int .u32 (co + 1), .int .u32 0]), .vial w w.heap.size (fun y => .tuple #[y, .int .i64 0]) n (bval (sealL key (askB (skR nd pa no co)))), .vial w w.heap.size (fun y => .tuple #[y, .int .i64 0]) n (bval (sealL key (askB (skR nd pa no co)))), .vial w w.heap.size (fun y => y) n (bval (sealL key (askB (skR nd pa no co)))), .is (.int .i64 0), .vial w w.heap.size (fun y => y) n (bval (sealL key (askB (skR nd pa no co)))), .is (.int .i64 0)] [] (by kernel_rfl) (by kernel_rfl) rfl (by kernel_rfl) ?_
  iterate 16
    refine kd_is (by rfl) (fun z hz K Q hK => ?_) ?_
    · go_big_op
      exact hK _ _ rfl rfl
    simp only [Act.put, List.setIfInBounds_toArray, List.set_cons_zero, List.set_cons_succ]
  refine kd_grow (by rfl) (fun z hz K Q hK => ?_) (fun x16 => ?_)
  · go_big_op
    refine (HPA.out _).mono ?_
    rintro e w3 ⟨a, c, rfl, hB, bb⟩
    exact hK _ _ ⟨_, z.to w3 bb, rfl, rfl, z.to_still w3 bb, a, c, by rw [HN.out], by rw [← HN.out]; exact hB.le, hB.cap, by rw [← HN.out]; exact hB.row, fun p hp => Nat.le_trans z.ok.size (hB.low p hp)⟩
  simp only [Act.put, List.setIfInBounds_toArray, List.set_cons_zero, List.set_cons_succ]
  refine kd_grow (by rfl) (fun z hz K Q hK => ?_) (fun x17 => ?_)
  · obtain ⟨A, c, rfl, hy⟩ := fact_at hz 16 (viaL w w.heap.size (fun y => .tuple #[y, .int .i64 0]) n (bval (sealL key (askB (skR nd pa no co))))) x16 (by kernel_rfl) (by kernel_rfl) (by kernel_rfl)
    go_big_op
    exact hK _ _ ⟨_, z, rfl, rfl, .refl z, A, c, rfl, hy⟩
  simp only [Act.put, List.setIfInBounds_toArray, List.set_cons_zero, List.set_cons_succ]
  refine kd_grow (by rfl) (fun z hz K Q hK => ?_) (fun x18 => ?_)
  · obtain ⟨A, c, rfl, hy⟩ := fact_at hz 17 (viaL w w.heap.size (fun y => .tuple #[y, .int .i64 0]) n (bval (sealL key (askB (skR nd pa no co))))) x17 (by kernel_rfl) (by kernel_rfl) (by kernel_rfl)
    go_big_op
    exact hK _ _ ⟨_, z, rfl, rfl, .refl z, A, c, rfl, hy⟩
  simp only [Act.put, List.setIfInBounds_toArray, List.set_cons_zero, List.set_cons_succ]
  refine kd_is (by rfl) (fun z hz K Q hK => ?_) ?_
  · obtain ⟨A, c, rfl, hy⟩ := fact_at hz 17 (viaL w w.heap.size (fun y => .tuple #[y, .int .i64 0]) n (bval (sealL key (askB (skR nd pa no co))))) x17 (by kernel_rfl) (by kernel_rfl) (by kernel_rfl)
    go_big_op
    exact hK _ _ rfl rfl
  simp only [Act.put, List.setIfInBounds_toArray, List.set_cons_zero, List.set_cons_succ]
  refine kd_grow (by rfl) (fun z hz K Q hK => ?_) (fun x20 => ?_)
  · obtain ⟨A, c, rfl, hy⟩ := fact_at hz 18 (viaL w w.heap.size (fun y => y) n (bval (sealL key (askB (skR nd pa no co))))) x18 (by kernel_rfl) (by kernel_rfl) (by kernel_rfl)
    go_big_op
    exact hK _ _ ⟨_, z, rfl, rfl, .refl z, A, c, rfl, hy⟩
  simp only [Act.put, List.setIfInBounds_toArray, List.set_cons_zero, List.set_cons_succ]
  iterate 1
    refine kd_is (by rfl) (fun z hz K Q hK => ?_) ?_
    · go_big_op
      exact hK _ _ rfl rfl
    simp only [Act.put, List.setIfInBounds_toArray, List.set_cons_zero, List.set_cons_succ]
  refine kd_nil (fun z hz => ?_)
  obtain ⟨A, c, rfl, hA1, hA2, hA3, hA4⟩ := (show viaL w w.heap.size (fun y => y) n (bval (sealL key (askB (skR nd pa no co)))) x20 z from hz 20 (.of (viaL w w.heap.size (fun y => y) n (bval (sealL key (askB (skR nd pa no co)))))) x20 (by kernel_rfl) (fun i hi => by simp [gKill]))
  have o3 := below_own z.ok h hlt
  have j3 : Just s w z.toW := ⟨z.ok.os, z.ok.tape, z.ok.output, z.ok.size, fun k hk _ => z.ok.block k hk⟩
  have hne : ∀ p, A = some p → p.block ≠ s := fun p hp e => by
    subst hp
    obtain ⟨q, off, e1, _, h3⟩ := hA3 (by rw [← HN.out, sealL_len, askB_len]; decide)
    injection e1 with e1
    subst e1
    dsimp only at e
    subst e
    have h4 := h3 0 (by rw [← HN.out, sealL_len, askB_len]; decide)
    rw [Own.cell o3] at h4
    unfold bval at h4
    rcases off with _ | _ | _ | _ | _ | off
    · cases h4
    · simp at h4
    · simp at h4
    · simp at h4
    · simp at h4
    · simp at h4
  generalize hw3 : z.toW = w3 at *
  have k2 : w3.cell? ⟨s, 2, none⟩ = some (.int .u32 co) := Own.cell o3 2
  have k3 : w3.cell? ⟨s, 3, none⟩ = some (.int .u32 no0) := Own.cell o3 3
  have k4 : w3.cell? ⟨s, 4, none⟩ = some (.bool wt) := Own.cell o3 4
  have f2 := Own.free o3 2
  have f3 := Own.free o3 3
  have f4 := Own.free o3 4
  have o4 := ((Own.put o3 2 (.int .u32 (co + 1))).put 3 (.int .u32 no)).put 4 (.bool true)
  have j4 := ((j3.put 2 (.int .u32 (co + 1))).put 3 (.int .u32 no)).put 4 (.bool true)
  have jr := (((Just.refl s w3).put 2 (.int .u32 (co + 1))).put 3 (.int .u32 no)).put 4 (.bool true)
  have HR := Lib.hid (row_just hA3 jr hne)
  have HO := Lib.hid o4
  have HJ := Lib.hid j4
  clear hz hw3 o3 o4 j3 j4 jr hA3 h d0 d1 d2 hne
  go_wp2_with fail
  go_ret2
  exact ⟨A, c, by rw [HN.out]; rfl, ⟨⟨by rw [HN.out]; exact hA1, hA2, by rw [HN.out]; exact HR.out⟩, hA4⟩, HO.out, HJ.out⟩
end Go.Proofs.Ytphiohdhgkpgnaa.Jo
