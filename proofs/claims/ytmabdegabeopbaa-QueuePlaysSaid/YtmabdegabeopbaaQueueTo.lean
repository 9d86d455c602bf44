/-
  Package queue: To, Move.
-/
import Derived.Test.YtmabdegabeopbaaQueueLaws
set_option maxRecDepth 100000
namespace Go.Proofs.Ytmabdegabeopbaa.Qu
set_option linter.unusedVariables false
open Go.RowKit Lb

theorem infoN : (Try.prog.info? 3).map (fun i => (i.zero, i.size, i.bytes)) = some (some (.int .i64 0), 1, 8) := by kernel_rfl
def tov (l : List It) (j : Nat) : Value := .int .i64 (l.getD j default).to
set_option maxHeartbeats 2000000 in
theorem to_any (base b : Nat) (most lost : Int) (l : List It) (v : Value) (w : World) (h : Que w base b most lost l v) (hl : l.length ≤ 1000) :
    Calls Try.prog 18 #[.pointer (some ⟨b, 0, none⟩)] w fun r w' => ∃ a c, r = .returned (.slice a l.length c) ∧ l.length ≤ c ∧ c ≤ maxLen ∧ Row w' a l.length (tov l) ∧ Below w.heap.size w w' := by
  obtain ⟨a, c, rfl, h1, h2, hR⟩ := h.row.row
  have c2 := h.c2
  have hbl := h.own.lt
  unfold maxLen at h2
  obtain ⟨i0, hi0, hz0, hz1, hz2⟩ := info_parts infoN
  obtain ⟨n, hn⟩ : ∃ n, l.length = n := ⟨_, rfl⟩
  rw [hn] at hR c2 h1 hl ⊢
  have HN := Lib.hid hn
  clear hn
  have hmk : ∀ w : World, (Instr.makeSlice 39 (.int .i64 (n : Int)) (.int .i64 (n : Int))).run Try.prog w = .ok (.slice (some ⟨w.heap.size, 0, none⟩) n n) (w.alloc (.cells (madeCells #[.int .i64 0] n) 3)) := by
    intro w
    have := run_make w 39 3 i0 (.int .i64 0) Try.underlying39 hi0 hz0 .i64 .i64 (n : Int) (n : Int) (by omega) (by omega) (by rw [hz2]; omega) (by omega)
    rw [this, hz1]
    simp [Value.cells]
  have HCS : Hid (madeCells #[Value.int .i64 0] n = (List.replicate n (Value.int .i64 0)).toArray) := Lib.hid (by
    apply Array.toList_inj.1
    simpa using toList_madeCells_one (Value.int .i64 0) n)
  go_enter Try.func18, Try.ntmps18
  go_wp2_with fail
  have o1 : Blk (w.alloc (.cells (madeCells #[.int .i64 0] n) 3)) w.heap.size 3 n (fun j => if j < 0 then tov l j else .int .i64 0) := Blk.ext (Blk.same (Own.new _ _ _) HCS.out) (fun i hi => by rw [if_neg (by omega)])
  have b1 := (Below.refl w.heap.size w).alloc (Nat.le_refl _) (.cells (madeCells #[.int .i64 0] n) 3)
  have c3 : (w.alloc (.cells (madeCells #[.int .i64 0] n) 3)).cell? ⟨b, 2, none⟩ = some (.slice a n c) := by rw [b1.cell (p := ⟨b, 2, none⟩) hbl]; exact c2
  generalize w.alloc (.cells (madeCells #[.int .i64 0] n) 3) = w1 at *
  clear hmk HCS c2
  obtain ⟨g, hg⟩ : ∃ g, g = w.heap.size := ⟨_, rfl⟩
  rw [← hg] at o1 ⊢
  have HG := Lib.hid hg
  clear hg
  go_wp2_with fail
  go_loopw [19] (fun i wr => ∃ k : Nat, i = .int .i64 k ∧ k ≤ n ∧ Blk wr g 3 n (fun j => if j < k then tov l j else .int .i64 0) ∧ Below w.heap.size w wr) (fun i _ => n - (intOf i).toNat)
  case atStart => exact ⟨0, rfl, by omega, o1, b1⟩
  case round =>
    clear o1 b1 c3
    obtain ⟨k, rfl, hk, o1, bb⟩ := hrel
    by_cases hlt : k < n
    · obtain ⟨p, o, rfl, hp, hcs⟩ := hR.at_struct bb hlt (by decide)
      obtain ⟨e0, e1⟩ := iv_at l k
      have a0 := (hcs 0 (by decide)).trans (congrArg some e0)
      have a1 := (hcs 1 (by decide)).trans (congrArg some e1)
      rw [Nat.add_zero] at a0
      have hx := h.bytes _ (getD_mem (l := l) (i := k) (by rw [HN.out]; exact hlt))
      obtain ⟨t, ht⟩ : ∃ t, (l.getD k default).to = t := ⟨_, rfl⟩
      obtain ⟨xv, hxv⟩ : ∃ xv, (l.getD k default).v = xv := ⟨_, rfl⟩
      rw [ht] at a0
      rw [hxv] at a1 hx
      have HT := Lib.hid ht
      obtain ⟨a5, c5, rfl, hc5, hd5, hR5, hn5⟩ := hx.row
      generalize (l.getD k default).n = xn at *
      clear hcs e0 e1 ht hxv hx hR5 hn5
      have g0 := o1.cell hlt
      have g0 : wr.cell? ⟨g, k, none⟩ = some (.int .i64 0) := by rw [g0, if_neg (by omega)]
      have gf := o1.free k
      have HP := Lib.hid ((o1.put k (.int .i64 t)).ext (U := fun j => if j < k + 1 then tov l j else .int .i64 0) (fun j hj => by
        by_cases h : j = k
        · subst h
          rw [if_pos rfl, if_pos (by omega)]
          unfold tov
          rw [HT.out]
        · rw [if_neg h]
          by_cases h2 : j < k
          · rw [if_pos h2, if_pos (by omega)]
          · rw [if_neg h2, if_neg (by omega)]))
      have hne : g < wr.heap.size := o1.lt
      have HB := Lib.hid ((Just.set g wr k (.int .i64 t)).below bb (by rw [HG.out]; exact Nat.le_refl _) bb.size)
      go_wp2_with fail
      exact ⟨⟨k + 1, by simp [intOf], by omega, Blk.alloc HP.out _, HB.out.alloc HB.out.size _⟩, by simp [intOf]; omega⟩
    · obtain rfl : k = n := by omega
      go_wp2_with fail
      go_ret
      exact ⟨some ⟨g, 0, none⟩, k, rfl, Nat.le_refl _, by unfold maxLen; omega, fun hn => ⟨g, 0, rfl, o1.lt, fun i hi => by rw [Nat.zero_add, o1.cell hi, if_pos hi]⟩, bb⟩
end Go.Proofs.Ytmabdegabeopbaa.Qu
