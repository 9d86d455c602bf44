/-
  Package queue: At, Take, Move, To.
-/
import Derived.Test.YtmabdegabeopbaaQueuePut
set_option maxRecDepth 100000
namespace Go.Proofs.Ytmabdegabeopbaa.Qu
set_option linter.unusedVariables false
open Go.RowKit Lb

theorem iv_del (l : List It) {i j : Nat} (hi : i < l.length) (hj : j < (l.length - 1) * 2) : (if j < i * 2 then iv l j else iv l (j + 2)) = iv (l.eraseIdx i) j := by
  unfold iv
  have e : ∀ k, k < l.length - 1 → (l.eraseIdx i).getD k default = if k < i then l.getD k default else l.getD (k + 1) default := fun k hk => by
    simp only [List.getD_eq_getElem?_getD, List.getElem?_eraseIdx]
    split <;> rfl
  rw [e _ (by omega)]
  by_cases h : j < i * 2
  · simp only [if_pos h, if_pos (show j / 2 < i by omega)]
  · simp only [if_neg h, if_neg (show ¬ j / 2 < i by omega), show (j + 2) / 2 = j / 2 + 1 by omega, show (j + 2) % 2 = j % 2 by omega]
theorem Que.at_ {w : World} {base b : Nat} {most lost : Int} {l : List It} {v : Value} (h : Que w base b most lost l v) {i : Nat} (hi : i < l.length) :
    ∃ g c, v = .slice (some ⟨g, 0, none⟩) l.length c ∧ l.length ≤ c ∧ c ≤ maxLen ∧ w.cell? ⟨g, i * 2, none⟩ = some (.int .i64 (l.getD i default).to) ∧ w.cell? ⟨g, i * 2 + 1, none⟩ = some (l.getD i default).v ∧ w.frozen? ⟨g, i * 2, none⟩ = false := by
  obtain ⟨g, c, cs, rfl, hgb, ho, hnc, hcm, hsz, hcv⟩ := h.row.block (by omega)
  obtain ⟨e1, e2⟩ := iv_at l i
  exact ⟨g, c, rfl, hnc, hcm, (ho.cell _).trans ((hcv _ (by omega)).trans (congrArg some e1)), (ho.cell _).trans ((hcv _ (by omega)).trans (congrArg some e2)), ho.free _⟩
theorem getD_mem {l : List It} {i : Nat} (hi : i < l.length) : l.getD i default ∈ l := by
  rw [List.getD_eq_getElem?_getD, List.getElem?_eq_getElem hi]
  exact List.getElem_mem hi
theorem at_no (base b : Nat) (most lost : Int) (l : List It) (v : Value) (i : Int) (w : World) (h : Que w base b most lost l v) (hi : ¬ (0 ≤ i ∧ i < (l.length : Int))) :
    Calls Try.prog 12 #[.pointer (some ⟨b, 0, none⟩), .int .i64 i] w fun r w' => r = .returned (.tuple #[.slice none 0 0, .bool false]) ∧ w = w' := by
  have HD : Hid (hasB l.length i = false) := Lib.hid (by unfold hasB; exact decide_eq_false hi)
  go_enter Try.func12, Try.ntmps12
  go_wp2_with fail
  refine (has_any base b most lost l v i _ h).mono ?_
  rintro r w' ⟨rfl, rfl⟩
  rw [HD.out]
  go_wp2_with fail
  refine bodyPost_ret (results_tmp2 rfl _ _ _) rfl ?_
  exact ⟨rfl, rfl⟩
theorem at_nil (i : Int) (w : World) : Calls Try.prog 12 #[.pointer none, .int .i64 i] w fun r w' => r = .returned (.tuple #[.slice none 0 0, .bool false]) ∧ w = w' := by
  go_enter Try.func12, Try.ntmps12
  go_wp2_with fail
  refine (has_nil i _).mono ?_
  rintro r w' ⟨rfl, rfl⟩
  go_wp2_with fail
  refine bodyPost_ret (results_tmp2 rfl _ _ _) rfl ?_
  exact ⟨rfl, rfl⟩
theorem at_yes (base b : Nat) (most lost : Int) (l : List It) (v : Value) (i : Nat) (w : World) (h : Que w base b most lost l v) (hi : i < l.length) (hn : (l.getD i default).n ≤ 100000) :
    Calls Try.prog 12 #[.pointer (some ⟨b, 0, none⟩), .int .i64 i] w fun r w' => ∃ u, r = .returned (.tuple #[u, .bool true]) ∧ Bs w' u (l.getD i default).n (l.getD i default).Z ∧ Below w.heap.size w w' := by
  have HD : Hid (hasB l.length i = true) := Lib.hid (by unfold hasB; rw [decide_eq_true_eq]; omega)
  obtain ⟨g, c, rfl, h1, h2, k0, k1, _⟩ := h.at_ hi
  have c2 := h.c2
  have hb := h.bytes _ (getD_mem hi)
  unfold maxLen at h2
  generalize l.getD i default = x at *
  obtain ⟨to, xv, xn, Z⟩ := x
  dsimp only at *
  obtain ⟨a5, c5, rfl, hc5, hd5, hR5, hn5⟩ := hb.row
  go_enter Try.func12, Try.ntmps12
  go_wp2_with fail
  refine (has_any base b most lost l _ i _ h).mono ?_
  rintro r w' ⟨rfl, rfl⟩
  rw [HD.out]
  go_wp2_with fail
  refine (clone_any a5 xn c5 Z _ hc5 (by omega) hR5 (fun e => (hn5 e).1)).mono ?_
  rintro r w4 ⟨v4, rfl, hB, b4⟩
  go_wp2_with fail
  refine bodyPost_ret (results_tmp2 rfl _ _ _) rfl ?_
  exact ⟨v4, rfl, hB, b4⟩
theorem take_no (base b : Nat) (most lost : Int) (l : List It) (v : Value) (i : Int) (w : World) (h : Que w base b most lost l v) (hi : ¬ (0 ≤ i ∧ i < (l.length : Int))) :
    Calls Try.prog 13 #[.pointer (some ⟨b, 0, none⟩), .int .i64 i] w fun r w' => r = .returned (.tuple #[.slice none 0 0, .bool false]) ∧ w = w' := by
  have HD : Hid (hasB l.length i = false) := Lib.hid (by unfold hasB; exact decide_eq_false hi)
  go_enter Try.func13, Try.ntmps13
  go_wp2_with fail
  refine (has_any base b most lost l v i _ h).mono ?_
  rintro r w' ⟨rfl, rfl⟩
  rw [HD.out]
  go_wp2_with fail
  refine bodyPost_ret (results_tmp2 rfl _ _ _) rfl ?_
  exact ⟨rfl, rfl⟩
theorem take_nil (i : Int) (w : World) : Calls Try.prog 13 #[.pointer none, .int .i64 i] w fun r w' => r = .returned (.tuple #[.slice none 0 0, .bool false]) ∧ w = w' := by
  go_enter Try.func13, Try.ntmps13
  go_wp2_with fail
  refine (has_nil i _).mono ?_
  rintro r w' ⟨rfl, rfl⟩
  go_wp2_with fail
  refine bodyPost_ret (results_tmp2 rfl _ _ _) rfl ?_
  exact ⟨rfl, rfl⟩
/-- From w to w' the blocks of the queue and of its row alone have turned. -/
theorem take_yes (base b : Nat) (most lost : Int) (l : List It) (v : Value) (i : Nat) (w : World) (h : Que w base b most lost l v) (hi : i < l.length) (hl : l.length ≤ 1000) :
    Calls Try.prog 13 #[.pointer (some ⟨b, 0, none⟩), .int .i64 i] w fun r w' => ∃ v', r = .returned (.tuple #[(l.getD i default).v, .bool true]) ∧ Que w' base b most lost (l.eraseIdx i) v' ∧ Bs w' (l.getD i default).v (l.getD i default).n (l.getD i default).Z ∧ Below base w w' := by
  have HD : Hid (hasB l.length i = true) := Lib.hid (by unfold hasB; rw [decide_eq_true_eq]; omega)
  obtain ⟨g, c, rfl, h1, h2, k0, k1, _⟩ := h.at_ hi
  have c2 := h.c2
  have hok := h.ok
  have hx := h.bytes _ (getD_mem hi)
  unfold maxLen at h2
  generalize l.getD i default = x at *
  obtain ⟨to, xv, xn, Z⟩ := x
  dsimp only at *
  have hlow := h.low
  have hbase : base ≤ w.heap.size := by have := h.own.lt; omega
  have hgm := mine_at h.row rfl
  have hgb := mine_ne h.row h.own rfl
  obtain ⟨a5, c5, rfl, hc5, hd5, hR5, hn5⟩ := hx.row
  go_enter Try.func13, Try.ntmps13
  go_wp2_with fail
  refine (has_any base b most lost l _ i _ h).mono ?_
  rintro r w' ⟨rfl, rfl⟩
  rw [HD.out]
  go_wp2_with fail
  refine (delete_any base g l.length c i (i + 1) (iv l) _ h.row hi rfl (iv_one hok)).mono ?_
  rintro r w4 ⟨rfl, m4, j4⟩
  have o4 := j4.own h.own hgb.symm
  obtain ⟨_, gcs, hgo⟩ := hgm
  have hb4 : Hid (∀ x ∈ l, Bs w4 x.v x.n x.Z) := Lib.hid fun x hx => (h.bytes x hx).just j4 hgo (by decide)
  have hx4 := hx.just j4 hgo (by decide)
  have b4 := j4.below (Below.refl base w) (by assumption) hbase
  have f2 : w4.frozen? ⟨b, 2, none⟩ = false := o4.free 2
  have c4 : w4.cell? ⟨b, 2, none⟩ = some (.slice (some ⟨g, 0, none⟩) l.length c) := o4.cell 2
  clear c2 k0 k1
  go_wp2_with fail
  refine bodyPost_ret (results_tmp2 rfl _ _ _) rfl ?_
  have m5 : MineK w4 base 56 2 (.slice (some ⟨g, 0, none⟩) (l.length - 1) c) (l.eraseIdx i).length (iv (l.eraseIdx i)) := by
    rw [List.length_eraseIdx, if_pos hi]
    exact m4.ext (fun j hj => iv_del l hi hj)
  refine ⟨_, rfl, ⟨o4.put 2 _, mine_set m5 o4 2 _, fun x hx => ?_, hlow⟩, hx4.just (Just.set b w4 2 _) o4 (by decide), (Just.set b w4 2 _).below b4 hlow (by have := b4.size; omega)⟩
  exact (hb4.out x (List.mem_of_mem_eraseIdx hx)).just (Just.set b w4 2 _) o4 (by decide)
end Go.Proofs.Ytmabdegabeopbaa.Qu
