/-
  slices.Delete of one item.
-/
import Derived.Test.YtdknacbdkekfnaaCeFind
import Derived.Deep.RegionLaw
import Derived.Lib.SliceRun
set_option maxRecDepth 100000
namespace Go.Proofs.Ytdknacbdkekfnaa.Ce
set_option linter.unusedVariables false
open Go.RowKit Lb Cl

theorem infoI : (Try.prog.info? 31).map (fun i => (i.zero, i.size, i.bytes)) = some (some (.agg #[.int .i64 0, .int .i64 0, .int .i64 0, .int .i64 0, .int .i64 0]), 5, 40) := by kernel_rfl
theorem zeroI (w : World) : (zeroValue 31).run Try.prog w = .ok (.agg #[.int .i64 0, .int .i64 0, .int .i64 0, .int .i64 0, .int .i64 0]) w := by kernel_rfl
set_option maxHeartbeats 2000000 in
theorem delete_any (base g n c i j0 : Nat) (V : Nat → Value) (w : World) (h : MineK w base 31 5 (.slice (some ⟨g, 0, none⟩) n c) n V) (hi : i < n) (hj0 : j0 = i + 1) (hV1 : ∀ j, (V j).oneCell' = true) :
    Calls Try.prog 32 #[.slice (some ⟨g, 0, none⟩) n c, .int .i64 i, .int .i64 j0] w fun r w' => r = .returned (.slice (some ⟨g, 0, none⟩) (n - 1) c) ∧ MineK w' base 31 5 (.slice (some ⟨g, 0, none⟩) (n - 1) c) (n - 1) (fun j => if j < i * 5 then V j else V (j + 5)) ∧ Just g w w' := by
  obtain ⟨g', c', cs, hv, hgb, ho, hnc, hcm, hsz, hcv⟩ := h.block (by omega)
  injection hv with hv1 _ hv2
  injection hv1 with hv1
  injection hv1 with hv1
  subst hv1 hv2
  unfold maxLen at hcm
  obtain ⟨i0, hi0, hz0, hz1, hz2⟩ := info_parts infoI
  obtain ⟨news, hnews⟩ : ∃ news, news = (List.range ((n - (i + 1)) * 5)).map (fun t => V ((i + 1) * 5 + t)) := ⟨_, rfl⟩
  have hlen : news.length = (n - (i + 1)) * 5 := by rw [hnews]; simp
  have hget : ∀ t, t < (n - (i + 1)) * 5 → news[t]? = some (V ((i + 1) * 5 + t)) := fun t ht => by rw [hnews]; simp [ht]
  obtain ⟨A, hA, hsrc⟩ : ∃ A : Addr, (if c = j0 then some (⟨g, 0, none⟩ : Addr) else some ⟨g, j0 * 5, none⟩) = some A ∧ Hid (∀ t u, news[t]? = some u → w.drew.cell? (A.add t) = some u) := by
    by_cases h : c = j0
    · refine ⟨⟨g, 0, none⟩, by simp [h], Lib.hid fun t u hu => ?_⟩
      have h0 : news.length = 0 := by rw [hlen]; omega
      rw [List.length_eq_zero_iff.1 h0] at hu
      simp at hu
    · subst hj0
      refine ⟨⟨g, (i + 1) * 5, none⟩, by simp [h], Lib.hid fun t u hu => ?_⟩
      have ht : t < (n - (i + 1)) * 5 := by
        have := (List.getElem?_eq_some_iff.1 hu).1
        rwa [hlen] at this
      rw [hget t ht] at hu
      rw [Addr.add_lit]
      exact (ho.cell ((i + 1) * 5 + t)).trans ((hcv _ (by omega)).trans hu)
  have s1 := Lib.hid hlen
  have s2 : Hid (∀ u ∈ news, u.oneCell' = true) := Lib.hid fun u hu => by
    rw [hnews] at hu
    obtain ⟨x, _, rfl⟩ := List.mem_map.1 hu
    exact hV1 _
  have s3 : Hid (∀ t, t < news.length → (w.drew.cell? ⟨g, 0 + i * 5 + t, none⟩).isSome = true ∧ w.drew.frozen? ⟨g, 0 + i * 5 + t, none⟩ = false) := Lib.hid fun t ht => by
    rw [hlen] at ht
    refine ⟨?_, ho.free _⟩
    show (w.cell? _).isSome = true
    rw [ho.cell, hcv _ (by omega)]
    rfl
  have hB : Blk w g 31 (c * 5) (fun j => cs.getD j undef) := Blk.of ho hsz (fun j hj => by
    rw [Array.getElem?_eq_getElem (by omega), Array.getD_eq_getD_getElem?, Array.getElem?_eq_getElem (by omega)]
    rfl)
  have hB1 : Blk (w.drew.setCells g (0 + i * 5) news) g 31 (c * 5) (putL (fun j => cs.getD j undef) (0 + i * 5) news) := Blk.puts news (0 + i * 5) (Blk.drewN hB 1)
  have hJ1 : Just g w (w.drew.setCells g (0 + i * 5) news) := ((Just.refl g w).drewN 1).trans (Just.puts g news _ _)
  have hV2 : Hid (∀ j, j < (n - 1) * 5 → putL (fun j => cs.getD j undef) (0 + i * 5) news j = if j < i * 5 then V j else V (j + 5)) := Lib.hid fun j hj => by
    rw [putL_at, hlen]
    by_cases h1 : j < i * 5
    · rw [if_neg (by omega), if_pos h1, Array.getD_eq_getD_getElem?, hcv j (by omega)]
      rfl
    · rw [if_pos (by omega), if_neg h1, List.getD_eq_getElem?_getD, hget _ (by omega), show (i + 1) * 5 + (j - (0 + i * 5)) = j + 5 by omega]
      rfl
  obtain ⟨W1, hW1⟩ : ∃ W1, W1 = w.drew.setCells g (0 + i * 5) news := ⟨_, rfl⟩
  rw [← hW1] at hB1 hJ1
  have HW := Lib.hid hW1
  have hnq : i + (n - j0) = n - 1 := by omega
  have hn1q : n - (i + (n - j0)) = 1 := by omega
  have hcl : ∀ ty, (Builtin.clear_ #[27] ty #[.slice (some ⟨g, (i + (n - j0)) * 5, none⟩) (n - (i + (n - j0))) (c - (i + (n - j0)))]).run Try.prog W1 = .ok (.tuple #[]) (W1.setCells g ((n - 1) * 5) [.int .i64 0, .int .i64 0, .int .i64 0, .int .i64 0, .int .i64 0]) := fun ty => by
    have hst := run_storeCells_cells (P := Try.prog) g ((n - 1) * 5) [.int .i64 0, .int .i64 0, .int .i64 0, .int .i64 0, .int .i64 0] 0 W1 (fun j hj => by
      rw [Nat.add_zero, Blk.cell hB1 (by simp at hj; omega)]; rfl) (fun j hj => Blk.free hB1 _) (by intro v hv; simp at hv; rcases hv with rfl | rfl | rfl | rfl | rfl <;> rfl)
    rw [hnq, show n - (n - 1) = 1 by omega]
    simp [Builtin.clear_, run_underlying Try.underlying27, zeroI, Value.cells, Builtin.zeroCells]
    rw [Nat.add_zero] at hst
    show ((Sem.run _ (storeCells _ [Value.int .i64 0, Value.int .i64 0, Value.int .i64 0, Value.int .i64 0, Value.int .i64 0]) W1).andThen _) = _
    rw [hst]
    rfl
  have hic : i ≤ c := by omega
  have hjc : j0 ≤ c := by omega
  have hij : i ≤ j0 := by omega
  have hjn : j0 ≤ n := by omega
  have hcx : ¬ c = i + (n - j0) := by omega
  have hne : ((i : Int) == (j0 : Int)) = false := by simp; omega
  have hn1 : i + (n - j0) = n - 1 := by omega
  have HN1 := Lib.hid hn1
  have HJ0 := Lib.hid hj0
  clear hnews hlen hget hB hW1 hcv hV1 hn1 hj0 hnq hn1q
  go_enter Try.func32, Try.ntmps32
  go_wp2_with fail
  go_region_law (refine step_append_room rfl (.tmp 22) (.tmp 25) 27 rfl 31 i0 5 Try.underlying27 hi0 hz1 g 0 i c (by simp [Act.eval, Act.put]) A (n - j0) (c - j0) news (by simp [Act.eval, Act.put]) (by rw [HJ0.out]; exact s1.out) hsrc.out s2.out (by omega) s3.out ?_; rw [← HW.out])
  go_wp2_with fail
  go_ret
  have hB2 := Blk.puts [.int .i64 0, .int .i64 0, .int .i64 0, .int .i64 0, .int .i64 0] ((n - 1) * 5) hB1
  refine ⟨by rw [← HN1.out]; rfl, ?_, hJ1.trans (Just.puts g _ _ _)⟩
  refine MineK.made hB2 hgb (by simp) (by unfold maxLen; omega) (by omega) (fun j hj => ?_)
  have hj2 : j < c * 5 := by omega
  rw [Array.getElem?_eq_getElem (by simpa using hj2), Array.getElem_ofFn]
  exact congrArg some ((putL_at [.int .i64 0, .int .i64 0, .int .i64 0, .int .i64 0, .int .i64 0] _ ((n - 1) * 5) j).trans ((if_neg (by omega)).trans (hV2.out j hj)))
end Go.Proofs.Ytdknacbdkekfnaa.Ce
