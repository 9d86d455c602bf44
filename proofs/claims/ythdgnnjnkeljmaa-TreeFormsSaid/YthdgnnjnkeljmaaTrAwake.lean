/-
  Package tree (chapter 21): each with a rank has a first parent; the tree that every program must know.
-/
import Derived.Test.YthdgnnjnkeljmaaTrMore
set_option maxRecDepth 100000
namespace Go.Proofs.Ythdgnnjnkeljmaa.Tr
set_option linter.unusedVariables false
open Go.RowKit Lb Tp Go.Sort Go.Shelf

theorem mem_par {N : Nat} {Q : Nat → Nat → Int} {least : Int} {R : Rk} {n x : Nat} (h : x ∈ par N Q least R n) : x ∈ near N Q n least ∧ isC R n x = true := by
  unfold par at h
  have := List.mem_of_mem_take h
  rw [List.mem_mergeSort, List.mem_filter] at this
  exact this
theorem mem_parT {N : Nat} {Q : Nat → Nat → Int} {least : Int} {R : Rk} (hF : Fin_ N Q least R) {n x : Nat} (h : x ∈ parT N Q least R n) : ∃ r, R n = some (r + 1) ∧ R x = some r ∧ x ∈ near N Q n least ∧ x < N := by
  unfold parT at h
  cases hn : R n with
  | none =>
    rw [hn] at h
    simp at h
  | some r =>
    rw [hn, if_pos (show (some r).isSome = true from rfl)] at h
    obtain ⟨h1, h2⟩ := mem_par h
    obtain ⟨s, hs, hle⟩ := hF.near n r hn x h1
    unfold isC rkI at h2
    rw [hs, hn, decide_eq_true_eq] at h2
    simp only [Option.getD_some] at h2
    refine ⟨s, ?_, hs, h1, hF.inN x s hs⟩
    congr 1
    omega
theorem par_len (N : Nat) (Q : Nat → Nat → Int) (least : Int) (R : Rk) (n : Nat) : (parT N Q least R n).length ≤ 2 := by
  unfold parT
  split
  · unfold par
    exact List.length_take_le _ _
  · simp
theorem firsts_of {N : Nat} {Q : Nat → Nat → Int} {least : Int} {R : Rk} (hN : N ≤ 16) (h : Fin_ N Q least R) (hs : ∀ x s, R x = some s → s ≤ 15) : Firsts R (parT N Q least R) := by
  refine ⟨h.only, fun n r hr => ?_, hs⟩
  obtain ⟨y, hy, hRy⟩ := h.up n r hr
  have hm : y ∈ (near N Q n least).filter (isC R n) := List.mem_filter.2 ⟨hy, by
    unfold isC rkI
    rw [hRy, hr, decide_eq_true_eq]
    simp⟩
  cases hp : parT N Q least R n with
  | nil =>
    unfold parT at hp
    rw [hr, if_pos (show (some (r + 1)).isSome = true from rfl)] at hp
    unfold par at hp
    have hl := congrArg List.length hp
    rw [List.length_take, List.length_mergeSort, List.length_nil] at hl
    have := List.length_pos_of_mem hm
    omega
  | cons p l =>
    obtain ⟨s, h1, h2, h3, h4⟩ := mem_parT h (x := p) (n := n) (by rw [hp]; simp)
    rw [hr] at h1
    injection h1 with h1
    obtain rfl : r = s := by omega
    exact ⟨p, l, rfl, h2, by omega⟩
def LkX (i : Nat) : Lk := if i = 0 then ⟨0, 1, 9⟩ else ⟨0, 0, 0⟩
def LkY (i : Nat) : Lk := if i = 0 then ⟨1, 0, 9⟩ else if i = 1 then ⟨1, 2, 9⟩ else ⟨0, 0, 0⟩
def LkZ (i : Nat) : Lk := if i = 0 then ⟨2, 1, 9⟩ else ⟨0, 0, 0⟩
def QX : Nat → Nat → Int := repTo 3 (fun _ _ => 0) 0 LkX 1
def QY : Nat → Nat → Int := repTo 3 QX 1 LkY 2
def QZ : Nat → Nat → Int := repTo 3 QY 2 LkZ 1
theorem fine_z : Fine 3 QZ := fine_rep (fine_rep (fine_rep ⟨by decide, by decide, fun a b => ⟨Int.le_refl _, by show (0 : Int) ≤ 255; decide, rfl, fun _ => rfl⟩⟩ 0 LkX 1) 1 LkY 2) 2 LkZ 1
theorem tree_z {R : Rk} (h : Fin_ 3 QZ 1 R) (hs : ∀ x s, R x = some s → s ≤ 15) : R 2 = some 2 ∧ pathsT R (parT 3 QZ 1 R) 2 = [0, 1, 2] := by
  have n0 : near 3 QZ 0 1 = [1] := by decide +kernel
  have n1 : near 3 QZ 1 1 = [0, 2] := by decide +kernel
  have n2 : near 3 QZ 2 1 = [1] := by decide +kernel
  have r1 : R 1 = some 1 := by
    obtain ⟨s, h1, h2⟩ := h.near 0 0 h.root 1 (by show 1 ∈ near 3 QZ 0 1; rw [n0]; simp)
    rcases (show s = 0 ∨ s = 1 by omega) with rfl | rfl
    · exact absurd (h.only 1 h1) (by decide)
    · exact h1
  have r2 : R 2 = some 2 := by
    obtain ⟨s, h1, h2⟩ := h.near 1 1 r1 2 (by show 2 ∈ near 3 QZ 1 1; rw [n1]; simp)
    rcases (show s = 0 ∨ s = 1 ∨ s = 2 by omega) with rfl | rfl | rfl
    · exact absurd (h.only 2 h1) (by decide)
    · obtain ⟨y, h3, h4⟩ := h.up 2 0 h1
      have h3 : y ∈ near 3 QZ 2 1 := h3
      rw [n2, List.mem_singleton] at h3
      subst h3
      rw [r1] at h4
      injection h4 with h4
      omega
    · exact h1
  have hF := firsts_of (by decide) h hs
  have a1 := anc_rank hF (n := 2) (r := 2) (by decide) r2 1 (by decide)
  have a2 := anc_rank hF (n := 2) (r := 2) (by decide) r2 2 (by decide)
  have e2 : anc (parT 3 QZ 1 R) 2 2 = 0 := h.only _ a2.1
  have e1 : anc (parT 3 QZ 1 R) 2 1 = 1 := by
    have h5 := h.inN _ _ a1.1
    obtain ⟨y, hy⟩ : ∃ y, anc (parT 3 QZ 1 R) 2 1 = y := ⟨_, rfl⟩
    rw [hy] at a1 h5 ⊢
    rcases (show y = 0 ∨ y = 1 ∨ y = 2 by omega) with rfl | rfl | rfl
    · have := a1.1
      rw [h.root] at this
      cases this
    · rfl
    · have := a1.1
      rw [r2] at this
      cases this
  refine ⟨r2, ?_⟩
  unfold pathsT hasT pathT
  rw [show ((2 : Int)).toNat = 2 from rfl, r2, if_pos (by rfl)]
  show [anc _ 2 2, anc _ 2 1, anc _ 2 0] = _
  rw [e2, e1]
  rfl
set_option maxHeartbeats 4000000 in
theorem awake_tree (w : World) :
    Calls Try.prog 22 #[] w fun r w' => r = .returned (.bool true) ∧ RowKit.Below w.heap.size w w' := by
  have HA : Hid (repN 3 0 LkX 1 = 0) := Lib.hid (by decide +kernel)
  have HB : Hid (repN 3 1 LkY 2 = 0) := Lib.hid (by decide +kernel)
  have HC : Hid (repN 3 2 LkZ 1 = 0) := Lib.hid (by decide +kernel)
  go_enter Try.func22, Try.ntmps22
  go_wp2_with fail
  refine (new_any 3 _).mono ?_
  rintro r w1 ⟨rfl, h1, b1, s1⟩
  have h1 : Gr w1 w.heap.size 73 3 (fun _ _ => 0) := h1
  have r1 : Row (w1.alloc (.cells #[.int .i64 0, .int .i64 1, .int .i64 9] 71)) (some ⟨w1.heap.size, 0, none⟩) (1 * 3) (lv LkX) := row_new _ _ _ _ (fun i hi => by
    rcases (show i = 0 ∨ i = 1 ∨ i = 2 by omega) with rfl | rfl | rfl <;> rfl)
  have h1 : Gr (w1.alloc (.cells #[.int .i64 0, .int .i64 1, .int .i64 9] 71)) w.heap.size 73 3 (fun _ _ => 0) := Blk.alloc h1 _
  have b1 := b1.alloc (Nat.le_of_lt s1) (.cells #[.int .i64 0, .int .i64 1, .int .i64 9] 71)
  go_wp2_with fail
  refine (report_any w.heap.size _ 3 _ 0 _ 1 1 LkX _ h1 (by decide) (by decide) (by decide) r1).mono ?_
  rintro r w2 ⟨rfl, h2, j2⟩
  rw [HA.out]
  have h2 : Gr w2 w.heap.size 73 3 QX := h2
  have b2 := j2.below b1 (Nat.le_refl _) (by simp; omega)
  have r2 : Row (w2.alloc (.cells #[.int .i64 1, .int .i64 0, .int .i64 9, .int .i64 1, .int .i64 2, .int .i64 9] 71)) (some ⟨w2.heap.size, 0, none⟩) (2 * 3) (lv LkY) := row_new _ _ _ _ (fun i hi => by
    rcases (show i = 0 ∨ i = 1 ∨ i = 2 ∨ i = 3 ∨ i = 4 ∨ i = 5 by omega) with rfl | rfl | rfl | rfl | rfl | rfl <;> rfl)
  have h2 : Gr (w2.alloc (.cells #[.int .i64 1, .int .i64 0, .int .i64 9, .int .i64 1, .int .i64 2, .int .i64 9] 71)) w.heap.size 73 3 QX := Blk.alloc h2 _
  have b2 := b2.alloc b2.size (.cells #[.int .i64 1, .int .i64 0, .int .i64 9, .int .i64 1, .int .i64 2, .int .i64 9] 71)
  go_wp2_with fail
  refine (report_any w.heap.size _ 3 _ 1 _ 2 2 LkY _ h2 (by decide) (by decide) (by decide) r2).mono ?_
  rintro r w3 ⟨rfl, h3, j3⟩
  rw [HB.out]
  have h3 : Gr w3 w.heap.size 73 3 QY := h3
  have b3 := j3.below b2 (Nat.le_refl _) b2.size
  have r3 : Row (w3.alloc (.cells #[.int .i64 2, .int .i64 1, .int .i64 9] 71)) (some ⟨w3.heap.size, 0, none⟩) (1 * 3) (lv LkZ) := row_new _ _ _ _ (fun i hi => by
    rcases (show i = 0 ∨ i = 1 ∨ i = 2 by omega) with rfl | rfl | rfl <;> rfl)
  have h3 : Gr (w3.alloc (.cells #[.int .i64 2, .int .i64 1, .int .i64 9] 71)) w.heap.size 73 3 QY := Blk.alloc h3 _
  have b3 := b3.alloc b3.size (.cells #[.int .i64 2, .int .i64 1, .int .i64 9] 71)
  go_wp2_with fail
  refine (report_any w.heap.size _ 3 _ 2 _ 1 1 LkZ _ h3 (by decide) (by decide) (by decide) r3).mono ?_
  rintro r w4 ⟨rfl, h4, j4⟩
  rw [HC.out]
  have h4 : Gr w4 w.heap.size 73 3 QZ := h4
  have b4 := j4.below b3 (Nat.le_refl _) b3.size
  clear h1 h2 h3 r1 r2 r3 b1 b2 b3 j2 j3 j4
  go_wp2_with fail
  refine (build_any w.heap.size 3 QZ 1 w4 fine_z h4).mono ?_
  rintro r w5 ⟨t, R, rfl, ht, hT, hFI, hs, b5⟩
  obtain ⟨e2, ep⟩ := tree_z hFI hs
  have hP := fun x => Nat.le_trans (par_len 3 QZ 1 R x) (by decide : 2 ≤ 1000)
  have hF := firsts_of (by decide) hFI hs
  have hr2 : Hid (rankT R 2 = 2) := Lib.hid (by
    unfold rankT rkI hasT
    rw [show ((2 : Int)).toNat = 2 from rfl, e2]
    rfl)
  have hh2 : Hid (hasT R 2 = true) := Lib.hid (by
    unfold hasT
    rw [show ((2 : Int)).toNat = 2 from rfl, e2]
    rfl)
  have b6 := b4.trans (b5.mono b4.size)
  obtain ⟨A, K, hTb, hRl⟩ := id hT
  clear e2 b4 b5
  go_wp2_with fail
  refine (rank_any t R _ 2 w5 hTb).mono ?_
  rintro r w' ⟨rfl, rfl⟩
  rw [hr2.out, hh2.out]
  go_wp2_with fail
  refine (path_any t R _ 2 w5 hT hF).mono ?_
  rintro r w7 ⟨A7, c7, rfl, hR7, b7⟩
  rw [ep] at hR7 ⊢
  have b8 := b6.trans (b7.mono b6.size)
  have r8 : Row (w7.alloc (.cells #[.int .i64 0, .int .i64 1, .int .i64 2] 3)) (some ⟨w7.heap.size, 0, none⟩) 3 (ln [0, 1, 2]) := row_new _ _ _ _ (fun i hi => by
    rcases (show i = 0 ∨ i = 1 ∨ i = 2 by omega) with rfl | rfl | rfl <;> rfl)
  have b9 := b8.alloc b8.size (.cells #[.int .i64 0, .int .i64 1, .int .i64 2] 3)
  have hR8 := hR7.below ((Below.refl w7.heap.size w7).alloc (Nat.le_refl _) (.cells #[.int .i64 0, .int .i64 1, .int .i64 2] 3))
  have hle := hR8.le
  have hcap := hR8.cap
  have hrow := hR8.row
  go_wp2_with fail
  refine (same_ints A7 _ 3 c7 3 (ln [0, 1, 2]) (fun i => ((([0, 1, 2] : List Nat).getD i 0 : Nat) : Int)) _ rfl hle (Nat.le_refl _) hcap (by decide) hrow r8).mono ?_
  rintro r w' ⟨rfl, m, rfl⟩
  have b10 := below_drewN b9 m
  go_wp2_with fail
  go_ret
  exact ⟨rfl, b10⟩
end Go.Proofs.Ythdgnnjnkeljmaa.Tr
