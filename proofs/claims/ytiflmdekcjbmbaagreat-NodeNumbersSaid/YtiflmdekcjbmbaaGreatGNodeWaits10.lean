/-
  Package parents: Hear. Package parents: All. Package parents: Old; slices.Sort by a contract that is handed in.
-/
import Derived.Test.YtiflmdekcjbmbaaGreatGNodeWaits09
import Derived.Deep.CutRange
set_option maxRecDepth 100000
namespace Go.Proofs.YtiflmdekcjbmbaaGreat.Pa
set_option linter.unusedVariables false
set_option linter.unusedSimpArgs false
open Go.RowKit Lb Go.Shelf

theorem cf_total {a b : P} (h : ¬ cf a b < 0) (k : ¬ cf b a < 0) : a.n = b.n := by
  rw [cf_lt] at h k
  omega
theorem pos_lt {x : P} : ∀ (l : List P) (t : Nat), t < pos l x → cf (at_ l t) x < 0
  | [], t, h => by simp [pos] at h
  | c :: r, 0, h => by
    unfold pos at h
    split at h
    · assumption
    · omega
  | c :: r, t + 1, h => by
    unfold pos at h
    split at h
    · exact pos_lt r t (by omega)
    · omega
theorem pos_ge {x : P} : ∀ (l : List P), pos l x < l.length → ¬ cf (at_ l (pos l x)) x < 0
  | [], h => by simp at h
  | c :: r, h => by
    by_cases h0 : cf c x < 0
    · have e : pos (c :: r) x = pos r x + 1 := by simp [pos, h0]
      rw [e] at h ⊢
      exact pos_ge r (by simpa using h)
    · have e : pos (c :: r) x = 0 := by simp [pos, h0]
      rw [e]
      exact h0
theorem srt_ins {l : List P} (h : Srt l) {x : P} (hne : ∀ t, t < l.length → (at_ l t).n ≠ x.n) : Srt (ins l (pos l x) x) := by
  have above : ∀ t, pos l x ≤ t → t < l.length → cf x (at_ l t) < 0 := fun t h1 h2 => by
    by_cases hx : cf x (at_ l t) < 0
    · exact hx
    · have hp := pos_ge l (x := x) (by omega)
      have h3 : ¬ cf (at_ l t) x < 0 := fun h3 => hp (srt_mono h x _ _ h1 h2 h3)
      exact absurd (cf_total h3 hx) (hne t h2)
  intro i j hij hj
  rw [ins_len x (pos_le l x)] at hj
  rw [at_ins x (pos_le l x), at_ins x (pos_le l x)]
  by_cases a1 : j < pos l x
  · rw [if_pos (by omega), if_pos a1]
    exact h i j hij (by have := pos_le l x; omega)
  · rw [if_neg a1]
    by_cases a2 : j = pos l x
    · rw [if_pos a2, if_pos (by omega)]
      exact pos_lt l i (by omega)
    · rw [if_neg a2]
      by_cases b1 : i < pos l x
      · rw [if_pos b1]
        exact h i (j - 1) (by omega) (by omega)
      · rw [if_neg b1]
        by_cases b2 : i = pos l x
        · rw [if_pos b2]
          exact above _ (by omega) (by omega)
        · rw [if_neg b2]
          exact h (i - 1) (j - 1) (by omega) (by omega)
theorem l1_ne (l : List P) (node : Int) : ∀ t, t < (l1 l node).length → (at_ (l1 l node) t).n ≠ node := fun t ht e => by
  have hm := at_mem ht
  generalize at_ (l1 l node) t = y at hm e
  unfold l1 kept at hm
  have h2 := (List.mem_filter.mp hm).2
  simp [e] at h2
theorem l2_srt {l : List P} (h : Srt l) (x : P) : Srt (l2 l x) := srt_ins (srt_kept h _ _) (l1_ne l x.n)
theorem l2_len (l : List P) (x : P) : (l2 l x).length = (l1 l x.n).length + 1 := ins_len x (pos_le _ _)
theorem l1_len (l : List P) (node : Int) : (l1 l node).length ≤ l.length := kept_len _ _ _
theorem x_vals (x : P) : ∀ q, q < 3 → x.vals[q]? = some (pv [x] q) := fun q hq => by
  rcases (show q = 0 ∨ q = 1 ∨ q = 2 by omega) with rfl | rfl | rfl <;> rfl
theorem ins_any (base n i gb : Nat) (v : Value) (V U : Nat → Value) (us : Array Value) (w : World) (h : MineK w base 211 3 v n V) (hi : i ≤ n) (hn : n ≤ 100000) (hb : base ≤ w.heap.size) (hu : Own w gb 211 us) (hus : us.size = 3) (hU : ∀ q, q < 3 → us[q]? = some (U q)) (h1 : ∀ q, (U q).oneCell' = true) (hV1 : ∀ q, (V q).oneCell' = true) (hg : v.ownBlock ≠ some gb) :
    Calls Tryz.prog 196 #[v, .int .i64 (i : Nat), .slice (some ⟨gb, 0, none⟩) 1 1] w fun r w' => ∃ v', r = .returned v' ∧ MineK w' base 211 3 v' (n + 1) (insK 3 i V U) ∧ w.grownBy w' v.ownBlock ∧ (∀ q, v'.ownBlock = some q → v.ownBlock = some q ∨ w.heap.size ≤ q) := by
  by_cases e : i = n
  · subst e
    refine (ins_end base i gb v V U us w h hn hb hu hU h1).mono ?_
    rintro r w' ⟨v', rfl, m, g, q⟩
    refine ⟨v', rfl, m, g, fun q' e' => ?_⟩
    rcases q with q | q
    · exact .inl (q ▸ e')
    · rw [q] at e'
      injection e' with e'
      exact .inr (by omega)
  · obtain ⟨g, c, cs, rfl, _, _, _, _, _, _⟩ := h.block (by omega)
    have hne : gb ≠ g := fun e' => hg (by subst e'; rfl)
    by_cases hr : n + 1 ≤ c
    · refine (ins_shift base n i c g gb V U us w h (by omega) hn hr hu hus hU h1 hV1 hne).mono ?_
      rintro r w' ⟨rfl, m, g'⟩
      exact ⟨_, rfl, m, g', fun q e' => .inl e'⟩
    · refine (ins_grow base n i c g gb V U us w h (by omega) hn (by omega) hb hu hU h1 hV1).mono ?_
      rintro r w' ⟨v', rfl, m, g', q⟩
      refine ⟨v', rfl, m, g', fun q' e' => ?_⟩
      rw [q] at e'
      injection e' with e'
      exact .inr (by omega)
def HearPost (base b : Nat) (me rk : Int) (l : List P) (v : Value) (x : P) (w : World) (r : Ending) (w' : World) : Prop :=
  r = .returned (.bool (hearB me rk l x)) ∧ ∃ v', St w' base b me (hearR me rk l x) (hearL me rk l x) v' ∧ Turn w w' b v v'
theorem hear_no {base b : Nat} {me rk : Int} {l : List P} {v : Value} {x : P} {w w' : World} (t : St w base b me rk l v) (hm : mayH me x = false) (hb : Below w.heap.size w w') : HearPost base b me rk l v x w (.returned (.bool false)) w' := by
  have h1 : hearB me rk l x = false := by unfold hearB; rw [hm]; rfl
  have h2 : hearR me rk l x = rk := by unfold hearR; rw [hm]; rfl
  have h3 : hearL me rk l x = l := by unfold hearL; rw [hm]; rfl
  refine ⟨by rw [h1], v, ?_, Turn.of_below hb _ _⟩
  rw [h2, h3]
  exact t.below hb
theorem grown_cell {W W' : World} {row : Option Nat} {a : Addr} {u : Value} (g : W.grownBy W' row) (h : W.cell? a = some u) (hr : row ≠ some a.block) : W'.cell? a = some u :=
  (World.cell?_of_block (g.block a.block (lt_of_cell h) (fun e => hr e.symm))).trans h
/-- Midway: the set, the receiver's and the node's boxes. -/
def Hs (base b sb : Nat) (me rk n : Int) (l : List P) (v : Value) (w wx : World) : Prop :=
  ∃ v', St wx base b me rk l v' ∧ Turn w wx b v v' ∧ Own wx sb 89 #[.pointer (some ⟨b, 0, none⟩)] ∧ Own wx (sb + 1) 3 #[.int .i64 n] ∧ v'.ownBlock ≠ some sb ∧ v'.ownBlock ≠ some (sb + 1)
theorem Hs.go {base b sb : Nat} {me rk rk' n : Int} {l l' : List P} {v v' v'' : Value} {w wx wy : World} (t : St wx base b me rk l v') (j : Turn w wx b v v') (o1 : Own wx sb 89 #[.pointer (some ⟨b, 0, none⟩)]) (o2 : Own wx (sb + 1) 3 #[.int .i64 n]) (n1 : v'.ownBlock ≠ some sb) (n2 : v'.ownBlock ≠ some (sb + 1)) (hb : b < sb)
    (t' : St wy base b me rk' l' v'') (k : Turn wx wy b v' v'') : Hs base b sb me rk' n l' v w wy :=
  ⟨v'', t', j.trans k, k.box o1 (by omega) n1, k.box o2 (by omega) n2, k.apart o1.lt n1, k.apart o2.lt n2⟩
theorem MineK.pre {w : World} {base s : Nat} {e : TypeId} {a : Option Addr} {n c k : Nat} {V : Nat → Value} (h : MineK w base e s (.slice a n c) n V) (hn : 0 < n) (hk : k ≤ n) : MineK w base e s (.slice a k c) k V := by
  obtain ⟨g, c', cs, e1, h1, h2, h3, h4, h5, h6⟩ := h.block hn
  injection e1 with e1 _ e3
  subst e1 e3
  exact MineK.made h2 h1 h5 h4 (by omega) (fun i hi => h6 i (Nat.lt_of_lt_of_le hi (Nat.mul_le_mul_right s hk)))
theorem at_take {l : List P} {k m : Nat} (h : k < m) : at_ (l.take m) k = at_ l k := by
  unfold at_
  rw [List.getD_eq_getElem?_getD, List.getD_eq_getElem?_getD, List.getElem?_take, if_pos h]
theorem pv_take {l : List P} {m q : Nat} (h : q < m * 3) : pv l q = pv (l.take m) q := pv_congr (at_take (by omega)).symm
theorem srt_take {l : List P} (h : Srt l) (m : Nat) : Srt (l.take m) := by
  rw [srt_iff] at *
  exact h.sublist (List.take_sublist m l)
set_option maxHeartbeats 4000000 in
theorem hear_any (base b : Nat) (me rk : Int) (l : List P) (v : Value) (x : P) (w : World) (t : St w base b me rk l v) (hl : l.length ≤ 90) (hrk : 0 ≤ rk ∧ rk ≤ 255) :
    Calls Tryz.prog 144 #[.pointer (some ⟨b, 0, none⟩), .int .i64 x.n, .int .i64 x.r, .int .i64 x.h] w (HearPost base b me rk l v x w) := by
  have o1 : Own ((w.alloc (.cells #[.pointer (some ⟨b, 0, none⟩)] 89)).alloc (.cells #[.int .i64 x.n] 3)) w.heap.size 89 #[.pointer (some ⟨b, 0, none⟩)] := (Own.new w _ _).alloc _
  have o2 : Own ((w.alloc (.cells #[.pointer (some ⟨b, 0, none⟩)] 89)).alloc (.cells #[.int .i64 x.n] 3)) (w.heap.size + 1) 3 #[.int .i64 x.n] := by
    have := Own.new (w.alloc (.cells #[.pointer (some ⟨b, 0, none⟩)] 89)) 3 #[.int .i64 x.n]
    rwa [show (w.alloc (.cells #[.pointer (some ⟨b, 0, none⟩)] 89)).heap.size = w.heap.size + 1 by simp] at this
  have b0 := ((Below.refl w.heap.size w).alloc (Nat.le_refl _) (.cells #[.pointer (some ⟨b, 0, none⟩)] 89)).alloc (by simp) (.cells #[.int .i64 x.n] 3)
  have hz0 : ((w.alloc (.cells #[.pointer (some ⟨b, 0, none⟩)] 89)).alloc (.cells #[.int .i64 x.n] 3)).heap.size = w.heap.size + 1 + 1 := by simp
  have t0 := t.below b0
  cases hm : mayH me x
  · have HD := fun w' hb => Lib.hid (hear_no (w' := w') t hm hb)
    have hm' := hm
    unfold mayH at hm'
    obtain ⟨e1, he1⟩ : ∃ e, ndB x.n = e := ⟨_, rfl⟩
    obtain ⟨e2, he2⟩ : ∃ e, (x.n != me) = e := ⟨_, rfl⟩
    obtain ⟨e3, he3⟩ : ∃ e, rkB x.r = e := ⟨_, rfl⟩
    obtain ⟨e4, he4⟩ : ∃ e, decide (0 ≤ x.h) = e := ⟨_, rfl⟩
    rw [he1, he2, he3, he4] at hm'
    have hN : ∀ w, Calls Tryz.prog 176 #[.int .i64 x.n] w fun r w' => r = .returned (.bool e1) ∧ w = w' := fun w => by rw [← he1]; exact isNode_any x.n w
    have hR : ∀ w, Calls Tryz.prog 177 #[.int .i64 x.r] w fun r w' => r = .returned (.bool e3) ∧ w = w' := fun w => by rw [← he3]; exact isRank_any x.r w
    have g2 : (x.n == me) = !e2 := by rw [← he2]; simp [bne]
    have c0 : ((w.alloc (.cells #[.pointer (some ⟨b, 0, none⟩)] 89)).alloc (.cells #[.int .i64 x.n] 3)).cell? ⟨w.heap.size, 0, none⟩ = some (.pointer (some ⟨b, 0, none⟩)) := o1.cell 0
    have c1 : ((w.alloc (.cells #[.pointer (some ⟨b, 0, none⟩)] 89)).alloc (.cells #[.int .i64 x.n] 3)).cell? ⟨w.heap.size + 1, 0, none⟩ = some (.int .i64 x.n) := o2.cell 0
    have c2 : ((w.alloc (.cells #[.pointer (some ⟨b, 0, none⟩)] 89)).alloc (.cells #[.int .i64 x.n] 3)).cell? ⟨b, 0, none⟩ = some (.int .i64 me) := t0.own.cell 0
    clear t t0 o1 o2 hm he1 he2 he3
    cases e1
    · clear hm' he4 g2 e2 e4
      go_enter Tryz.func144, Tryz.ntmps144
      go_wp2_with fail
      generalize (w.alloc (.cells #[.pointer (some ⟨b, 0, none⟩)] 89)).alloc (.cells #[.int .i64 x.n] 3) = w1 at *
      go_quiet (first | (go_at_call 176; exact quiet_left (hN _)) | (go_at_call 177; exact quiet_left (hR _)))
      go_wp2_with fail
      go_ret
      exact (HD _ (below_drewN b0 _)).out
    · cases e2
      · clear hm' he4 e4
        have g2 : (x.n == me) = true := g2
        go_enter Tryz.func144, Tryz.ntmps144
        go_wp2_with fail
        generalize (w.alloc (.cells #[.pointer (some ⟨b, 0, none⟩)] 89)).alloc (.cells #[.int .i64 x.n] 3) = w1 at *
        go_quiet (first | (go_at_call 176; exact quiet_left (hN _)) | (go_at_call 177; exact quiet_left (hR _)))
        go_wp2_with fail
        go_ret
        exact (HD _ (below_drewN b0 _)).out
      · have g2 : (x.n == me) = false := g2
        cases e3
        · clear hm' he4 e4
          go_enter Tryz.func144, Tryz.ntmps144
          go_wp2_with fail
          generalize (w.alloc (.cells #[.pointer (some ⟨b, 0, none⟩)] 89)).alloc (.cells #[.int .i64 x.n] 3) = w1 at *
          go_quiet (first | (go_at_call 176; exact quiet_left (hN _)) | (go_at_call 177; exact quiet_left (hR _)))
          go_wp2_with fail
          go_ret
          exact (HD _ (below_drewN b0 _)).out
        · cases e4
          · have g4 : x.h < 0 := by simpa using he4
            clear hm' he4
            go_enter Tryz.func144, Tryz.ntmps144
            go_wp2_with fail
            generalize (w.alloc (.cells #[.pointer (some ⟨b, 0, none⟩)] 89)).alloc (.cells #[.int .i64 x.n] 3) = w1 at *
            go_quiet (first | (go_at_call 176; exact quiet_left (hN _)) | (go_at_call 177; exact quiet_left (hR _)))
            go_wp2_with fail
            go_ret
            exact (HD _ (below_drewN b0 _)).out
          · exact absurd hm' (by decide)
  · have hm' := hm
    unfold mayH at hm'
    simp only [Bool.and_eq_true] at hm'
    obtain ⟨he1, he2, he3, he4⟩ := hm'
    have hN : ∀ w, Calls Tryz.prog 176 #[.int .i64 x.n] w fun r w' => r = .returned (.bool true) ∧ w = w' := fun w => by rw [← he1]; exact isNode_any x.n w
    have hR : ∀ w, Calls Tryz.prog 177 #[.int .i64 x.r] w fun r w' => r = .returned (.bool true) ∧ w = w' := fun w => by rw [← he3]; exact isRank_any x.r w
    have g2 : (x.n == me) = false := by simpa [bne] using he2
    have g4 : decide (x.h < 0) = false := by simp at he4; simp; omega
    have gr : 0 ≤ x.r ∧ x.r ≤ 255 := by unfold rkB at he3; simpa using he3
    have hv0 : ∀ q, v.ownBlock = some q → q < w.heap.size := fun q e => (t.blk q e).2
    have HM := Lib.hid hm
    have HV0 := Lib.hid hv0
    have hbl := t.own.lt
    clear hm he1 he2 he3 he4 hv0 t
    go_enter Tryz.func144, Tryz.ntmps144
    go_wp2_with fail
    generalize (w.alloc (.cells #[.pointer (some ⟨b, 0, none⟩)] 89)).alloc (.cells #[.int .i64 x.n] 3) = w1 at *
    have c0 : w1.cell? ⟨w.heap.size, 0, none⟩ = some (.pointer (some ⟨b, 0, none⟩)) := o1.cell 0
    have c1 : w1.cell? ⟨w.heap.size + 1, 0, none⟩ = some (.int .i64 x.n) := o2.cell 0
    have c2 : w1.cell? ⟨b, 0, none⟩ = some (.int .i64 me) := t0.own.cell 0
    go_quiet (first | (go_at_call 176; exact quiet_left (hN _)) | (go_at_call 177; exact quiet_left (hR _)))
    generalize hw2 : w1.drewN _ = w2 at *
    have t2 : St w2 base b me rk l v := by rw [← hw2]; exact ⟨t0.own.drewN _, t0.row.drewN _, t0.srt, t0.few, t0.low⟩
    have p1 : Own w2 w.heap.size 89 #[.pointer (some ⟨b, 0, none⟩)] := by rw [← hw2]; exact o1.drewN _
    have p2 : Own w2 (w.heap.size + 1) 3 #[.int .i64 x.n] := by rw [← hw2]; exact o2.drewN _
    have b2 : Below w.heap.size w w2 := by rw [← hw2]; exact below_drewN b0 _
    have z2 : w.heap.size + 1 < w2.heap.size := p2.lt
    clear c0 c1 c2 t0 o1 o2 b0 hw2 hz0 hN hR
    have hn1 : v.ownBlock ≠ some w.heap.size := fun e => by have := HV0.out _ e; omega
    have hn2 : v.ownBlock ≠ some (w.heap.size + 1) := fun e => by have := HV0.out _ e; omega
    have hd1 := drp_any base b me rk l v 193 (.pointer (some ⟨w.heap.size + 1, 0, none⟩)) (fun y => y.n == x.n) (fun W => W.cell? ⟨w.heap.size + 1, 0, none⟩ = some (.int .i64 x.n)) w2 (enters_of Tryz.func193 (by kernel_rfl) rfl) (says1 _ _) (p2.cell 0) (fun W W' g h => grown_cell g h hn2) t2
    have c0 : w2.cell? ⟨w.heap.size, 0, none⟩ = some (.pointer (some ⟨b, 0, none⟩)) := p1.cell 0
    have c1 : w2.cell? ⟨w.heap.size + 1, 0, none⟩ = some (.int .i64 x.n) := p2.cell 0
    have HN1 := Lib.hid hn1
    have HN2 := Lib.hid hn2
    have HL1 : Hid (kept (fun y => y.n == x.n) l l.length = l1 l x.n) := Lib.hid rfl
    clear hn1 hn2
    by_cases hrx : rk ≤ x.r
    · go_wp2_with (go_at_call 168; refine hd1.mono ?_; rintro r w3 ⟨rfl, v3, t3, j3, e3⟩; have p1' := j3.box p1 (by omega) HN1.out; have d0 : w3.cell? ⟨w.heap.size, 0, none⟩ = some (.pointer (some ⟨b, 0, none⟩)) := p1'.cell 0; have d1 : w3.cell? ⟨b, 1, none⟩ = some (.int .i64 rk) := t3.own.cell 1)
      go_ret
      have h1 : hearB me rk l x = false := by unfold hearB; rw [HM.out, if_pos rfl, if_pos hrx]
      have h2 : hearR me rk l x = rk := by unfold hearR; rw [HM.out, if_pos rfl, if_pos hrx]
      have h3 : hearL me rk l x = l1 l x.n := by unfold hearL; rw [HM.out, if_pos rfl, if_pos hrx]
      refine ⟨by rw [h1]; rfl, v3, ?_, (Turn.of_below b2 b v).trans j3⟩
      rw [h2, h3]
      exact t3
    · have grx : decide (rk ≤ x.r) = false := by simpa using hrx
      go_wp2_with (go_at_call 168; refine hd1.mono ?_; rintro r w3 ⟨rfl, v3, t3, j3, e3⟩; have p1' := j3.box p1 (by omega) HN1.out; have p2' := j3.box p2 (by omega) HN2.out; have d0 : w3.cell? ⟨w.heap.size, 0, none⟩ = some (.pointer (some ⟨b, 0, none⟩)) := p1'.cell 0; have d1 : w3.cell? ⟨b, 1, none⟩ = some (.int .i64 rk) := t3.own.cell 1; have d2 : w3.cell? ⟨w.heap.size + 1, 0, none⟩ = some (.int .i64 x.n) := p2'.cell 0)
      rw [HL1.out] at t3
      have J3 := (Turn.of_below b2 b v).trans j3
      have z3 : w.heap.size + 1 < w3.heap.size := Nat.lt_of_lt_of_le z2 j3.size
      have m1 : v3.ownBlock ≠ some w.heap.size := by rw [e3]; exact HN1.out
      have m2 : v3.ownBlock ≠ some (w.heap.size + 1) := by rw [e3]; exact HN2.out
      have b4 := (Below.refl w3.heap.size w3).alloc (Nat.le_refl _) (.cells #[.int .i64 x.n, .int .i64 x.r, .int .i64 x.h] 211)
      have t4 := t3.below b4
      have q1 := p1'.alloc (.cells #[.int .i64 x.n, .int .i64 x.r, .int .i64 x.h] 211)
      have q2 := p2'.alloc (.cells #[.int .i64 x.n, .int .i64 x.r, .int .i64 x.h] 211)
      have q3 : Own (w3.alloc (.cells #[.int .i64 x.n, .int .i64 x.r, .int .i64 x.h] 211)) w3.heap.size 211 x.vals := Own.new w3 _ _
      have J4 := J3.trans (Turn.of_below b4 b v3)
      generalize w3.alloc (.cells #[.int .i64 x.n, .int .i64 x.r, .int .i64 x.h] 211) = w4 at *
      obtain ⟨pb, hpb⟩ : ∃ pb, w3.heap.size = pb := ⟨_, rfl⟩
      rw [hpb] at q3 z3 ⊢
      have n1 : v3.ownBlock ≠ some pb := fun e => by have := (t3.blk _ e).2; omega
      clear hpb d0 d1 d2 p1' p2' p1 p2 J3 j3 e3 b2 b4 t3 t2 hd1 c0 c1
      obtain ⟨A, c, rfl, hc1, hc2, hR⟩ := t4.row.row
      unfold maxLen at hc2
      have hlen := l1_len l x.n
      obtain ⟨m, hmm⟩ : ∃ m, (l1 l x.n).length = m := ⟨_, rfl⟩
      have HML := Lib.hid hmm
      rw [hmm] at hc1 hlen t4 J4 m1 m2 n1
      have hr4 : MineK w4 base 211 3 (.slice A m c) m (pv (l1 l x.n)) := by have := t4.row; rwa [HML.out] at this
      have hbs := bsf_any A m c (l1 l x.n) x w4.drew (hr4.drewN 1).rowAt HML.out (by omega) t4.srt
      obtain ⟨p, hp⟩ : ∃ p, pos (l1 l x.n) x = p := ⟨_, rfl⟩
      have HP := Lib.hid hp
      have hple : p ≤ m := by rw [← hp, ← HML.out]; exact pos_le _ x
      rw [hp] at hbs
      clear hp hmm hR
      have d0 : w4.cell? ⟨w.heap.size, 0, none⟩ = some (.pointer (some ⟨b, 0, none⟩)) := q1.cell 0
      have k2 : w4.cell? ⟨b, 2, none⟩ = some (.slice A m c) := t4.own.cell 2
      have e0 : w4.cell? ⟨pb, 0, none⟩ = some (.int .i64 x.n) := q3.cell 0
      have e1 : w4.cell? ⟨pb, 1, none⟩ = some (.int .i64 x.r) := q3.cell 1
      have e2 : w4.cell? ⟨pb, 2, none⟩ = some (.int .i64 x.h) := q3.cell 2
      have s0 : (fun w' : World => w'.cell? ⟨w.heap.size, 0, none⟩ = some (.pointer (some ⟨b, 0, none⟩)) ∧ w'.cell? ⟨b, 2, none⟩ = some (.slice A m c) ∧ w'.cell? ⟨pb, 0, none⟩ = some (.int .i64 x.n) ∧ w'.cell? ⟨pb, 1, none⟩ = some (.int .i64 x.r) ∧ w'.cell? ⟨pb, 2, none⟩ = some (.int .i64 x.h)) w4.drew := ⟨d0, k2, e0, e1, e2⟩
      go_region_held3 (fun w' : World => w'.cell? ⟨w.heap.size, 0, none⟩ = some (.pointer (some ⟨b, 0, none⟩)) ∧ w'.cell? ⟨b, 2, none⟩ = some (.slice A m c) ∧ w'.cell? ⟨pb, 0, none⟩ = some (.int .i64 x.n) ∧ w'.cell? ⟨pb, 1, none⟩ = some (.int .i64 x.r) ∧ w'.cell? ⟨pb, 2, none⟩ = some (.int .i64 x.h)) (first | exact s0 | exact s2) ((go_at_call 194; refine hbs.mono ?_; rintro r w5 ⟨rfl, b5⟩; have s2 : (fun w' : World => w'.cell? ⟨w.heap.size, 0, none⟩ = some (.pointer (some ⟨b, 0, none⟩)) ∧ w'.cell? ⟨b, 2, none⟩ = some (.slice A m c) ∧ w'.cell? ⟨pb, 0, none⟩ = some (.int .i64 x.n) ∧ w'.cell? ⟨pb, 1, none⟩ = some (.int .i64 x.r) ∧ w'.cell? ⟨pb, 2, none⟩ = some (.int .i64 x.h)) w5 := ⟨keep_cell (W := w4.drew) b5 d0, keep_cell (W := w4.drew) b5 k2, keep_cell (W := w4.drew) b5 e0, keep_cell (W := w4.drew) b5 e1, keep_cell (W := w4.drew) b5 e2⟩))
      go_upto_region 8 with (fail)
      have b5' : Below w4.heap.size w4 w5 := (below_drewN (Below.refl w4.heap.size w4) 1).trans b5
      have t5 := t4.below b5'
      have r1 := below_own b5' q1 q1.lt
      have r2 := below_own b5' q2 q2.lt
      have r3 := below_own b5' q3 q3.lt
      have J5 := J4.trans (Turn.of_below b5' b (.slice A m c))
      have hr5 : MineK w5 base 211 3 (.slice A m c) m (pv (l1 l x.n)) := by have := t5.row; rwa [HML.out] at this
      clear d0 k2 e0 e1 e2 s0 s2 hbs t4 q1 q2 q3 J4 hr4 b5 b5'
      have d0 : w5.cell? ⟨w.heap.size, 0, none⟩ = some (.pointer (some ⟨b, 0, none⟩)) := r1.cell 0
      have k2 : w5.cell? ⟨b, 2, none⟩ = some (.slice A m c) := t5.own.cell 2
      have e0 : w5.cell? ⟨pb, 0, none⟩ = some (.int .i64 x.n) := r3.cell 0
      have e1 : w5.cell? ⟨pb, 1, none⟩ = some (.int .i64 x.r) := r3.cell 1
      have e2 : w5.cell? ⟨pb, 2, none⟩ = some (.int .i64 x.h) := r3.cell 2
      have f2 : w5.frozen? ⟨b, 2, none⟩ = false := t5.own.free 2
      have hbase : base ≤ w5.heap.size := by have := t5.own.lt; have := t5.low; omega
      have hins := ins_any base m p w5.heap.size (.slice A m c) (pv (l1 l x.n)) (pv [x]) x.vals (w5.alloc (.cells #[.int .i64 x.n, .int .i64 x.r, .int .i64 x.h] 211)).drew ((hr5.alloc _).drewN 1) hple (by omega) (by simp; exact Nat.le_succ_of_le hbase) ((Own.new w5 211 _).drewN 1) rfl (x_vals x) (pv_one _) (pv_one _) (fun e => by have := (t5.blk _ e).2; omega)
      have kA : (w5.alloc (.cells #[.int .i64 x.n, .int .i64 x.r, .int .i64 x.h] 211)).cell? ⟨b, 2, none⟩ = some (.slice A m c) := (t5.own.alloc _).cell 2
      have kB : (w5.alloc (.cells #[.int .i64 x.n, .int .i64 x.r, .int .i64 x.h] 211)).cell? ⟨w.heap.size, 0, none⟩ = some (.pointer (some ⟨b, 0, none⟩)) := (r1.alloc _).cell 0
      have oA : Own (w5.alloc (.cells #[.int .i64 x.n, .int .i64 x.r, .int .i64 x.h] 211)).drew b 209 #[.int .i64 me, .int .i64 rk, .slice A m c] := (t5.own.alloc _).drewN 1
      have hneA := t5.ne
      have rA1 : Own (w5.alloc (.cells #[.int .i64 x.n, .int .i64 x.r, .int .i64 x.h] 211)).drew w.heap.size 89 #[.pointer (some ⟨b, 0, none⟩)] := (r1.alloc _).drewN 1
      have rA2 : Own (w5.alloc (.cells #[.int .i64 x.n, .int .i64 x.r, .int .i64 x.h] 211)).drew (w.heap.size + 1) 3 #[.int .i64 x.n] := (r2.alloc _).drewN 1
      have JA := J5.trans (Turn.of_below (below_drewN ((Below.refl w5.heap.size w5).alloc (Nat.le_refl _) (.cells #[.int .i64 x.n, .int .i64 x.r, .int .i64 x.h] 211)) 1) b (.slice A m c))
      have HSR := Lib.hid t5.srt
      have HLO := Lib.hid t5.low
      go_cut [70] from 60 to 70 (fun s wx => s = .pointer (some ⟨b, 2, none⟩) ∧ Hs base b w.heap.size me rk x.n (l2 l x) v w wx)
      case first =>
        go_region_law (go_simp; go_at_call 196; refine hins.mono ?_; rintro r w6 ⟨v6, rfl, m6, g6, u6⟩; obtain ⟨a6, c6, rfl, hc6, hd6, hR6⟩ := m6.row; have o6 : Own w6 b 209 #[.int .i64 me, .int .i64 rk, .slice A m c] := grown_own g6 oA hneA; have y2 : w6.cell? ⟨b, 2, none⟩ = some (.slice A m c) := o6.cell 2; have f6 : w6.frozen? ⟨b, 2, none⟩ = false := o6.free 2; have y0 : w6.cell? ⟨w.heap.size, 0, none⟩ = some (.pointer (some ⟨b, 0, none⟩)) := (grown_own g6 rA1 m1).cell 0)
        all_goals
          go_wp2_with fail
          go_meet
          have hL : l2 l x = ins (l1 l x.n) p x := by unfold l2; rw [HP.out]
          have hlen2 : (l2 l x).length = m + 1 := by rw [l2_len, HML.out]
          have T6 := (Turn.of_grown g6 u6 b).put 2 (.slice a6 (m + 1) c6)
          refine ⟨rfl, Hs.go ⟨oA, ?_, HSR.out, ?_, HLO.out⟩ JA rA1 rA2 m1 m2 hbl ⟨o6.put 2 _, ?_, ?_, ?_, HLO.out⟩ T6⟩
          · rw [HML.out]
            exact (hr5.alloc _).drewN 1
          · rw [HML.out]
            omega
          · rw [hlen2]
            exact row_put (m6.ext (fun q _ => by rw [hL]; exact pv_ins x (by rw [HML.out]; exact hple) q)) (mine_ne m6 o6) 2 _
          · exact srt_ins HSR.out (l1_ne l x.n)
          · rw [hlen2]
            omega
      case rest =>
        obtain ⟨rfl, v6, t6, J6, q1, q2, n6, n7⟩ := hcut
        obtain ⟨wa, hwa⟩ : ∃ y, y = wc := ⟨_, rfl⟩
        subst hwa
        clear hc2 n1 m1 m2 hlen hc1 HML HP hple d0 k2 e0 e1 e2 f2 r1 r2 r3 J5 hr5 t5 hbase hins kA kB oA hneA rA1 rA2 JA HSR HLO
        obtain ⟨L2, hL2⟩ : ∃ L, l2 l x = L := ⟨_, rfl⟩
        rw [hL2] at t6
        have HLL := Lib.hid hL2
        have HLN : Hid (L2.length ≤ 91) := Lib.hid (by rw [← hL2, l2_len]; have := l1_len l x.n; omega)
        clear hL2
        obtain ⟨a6, c6, rfl, hc6, hd6, hR6⟩ := t6.row.row
        have HC6 := Lib.hid hc6
        clear hc6 hd6 hR6
        obtain ⟨k6, hk6⟩ : ∃ k, L2.length = k := ⟨_, rfl⟩
        have HK6 := Lib.hid hk6
        have t6r := t6.row
        have t6n := t6.ne
        have J6' := J6
        rw [hk6] at t6 J6 n6 n7 t6n
        clear hk6 t6r J6'
        have d0 : wa.cell? ⟨w.heap.size, 0, none⟩ = some (.pointer (some ⟨b, 0, none⟩)) := q1.cell 0
        have d1 : wa.cell? ⟨b, 1, none⟩ = some (.int .i64 rk) := t6.own.cell 1
        have fz : wa.frozen? ⟨b, 1, none⟩ = false := t6.own.free 1
        have hw1 : IntKind.i64.wrap (x.r + 1) = x.r + 1 := IntWalk.i64_in _ (by omega)
        go_upto_if 77 with (fail)
        go_cut [85] from 77 to 85 (fun _ wx => Hs base b w.heap.size me (rk3 rk x) x.n (l3 rk l x) v w wx)
        case first =>
          by_cases h1 : x.r + 1 < rk
          · have h3 : rk3 rk x = x.r + 1 := by unfold rk3; rw [if_pos h1]
            have h4 : l3 rk l x = kept (fun y => decide (x.r + 1 ≤ y.r)) L2 L2.length := by unfold l3; rw [if_pos h1, HLL.out]
            have H3 := Lib.hid h3
            have H4 := Lib.hid h4
            have g1 : decide (x.r + 1 < rk) = true := by simpa using h1
            have t7 : St (wa.setCell ⟨b, 1, none⟩ (.int .i64 (x.r + 1))) base b me (x.r + 1) L2 (.slice a6 k6 c6) := ⟨t6.own.put 1 _, row_put t6.row t6n 1 _, t6.srt, t6.few, t6.low⟩
            have j7 := (Turn.of_below (Below.refl wa.heap.size wa) b (.slice a6 k6 c6)).put 1 (.int .i64 (x.r + 1))
            have hd2 := drp_any base b me (x.r + 1) L2 (.slice a6 k6 c6) 197 (.pointer (some ⟨w.heap.size, 0, none⟩)) (fun y => decide (x.r + 1 ≤ y.r)) (fun W => W.cell? ⟨w.heap.size, 0, none⟩ = some (.pointer (some ⟨b, 0, none⟩)) ∧ W.cell? ⟨b, 1, none⟩ = some (.int .i64 (x.r + 1))) _ (enters_of Tryz.func197 (by kernel_rfl) rfl) (says2 w.heap.size b (x.r + 1)) ⟨(j7.box q1 (by omega) n6).cell 0, t7.own.cell 1⟩ (fun W W' g h => ⟨grown_cell g h.1 n6, grown_cell g h.2 t6n⟩) t7
            have k0 : (wa.setCell ⟨b, 1, none⟩ (.int .i64 (x.r + 1))).cell? ⟨w.heap.size, 0, none⟩ = some (.pointer (some ⟨b, 0, none⟩)) := (j7.box q1 (by omega) n6).cell 0
            have HT7 := Lib.hid t7
            clear h3 h4 t7
            go_wp2_with (go_at_call 168; refine hd2.mono ?_; rintro r w8 ⟨rfl, v8, t8, j8, e8⟩)
            go_meet
            rw [H3.out, H4.out]
            exact Hs.go t6 J6 q1 q2 n6 n7 hbl t8 (j7.trans j8)
          · have h3 : rk3 rk x = rk := by unfold rk3; rw [if_neg h1]
            have h4 : l3 rk l x = L2 := by unfold l3; rw [if_neg h1, HLL.out]
            have H3 := Lib.hid h3
            have H4 := Lib.hid h4
            have g1 : decide (x.r + 1 < rk) = false := by simpa using h1
            clear h3 h4
            go_wp2_with fail
            go_meet
            rw [H3.out, H4.out]
            exact ⟨_, t6, J6, q1, q2, n6, n7⟩
        case rest =>
          have hl3 : (l3 rk l x).length ≤ 91 := by
            unfold l3
            split
            · exact Nat.le_trans (kept_len _ _ _) (by rw [HLL.out]; exact HLN.out)
            · rw [HLL.out]; exact HLN.out
          have HL3 := Lib.hid hl3
          obtain ⟨v8, t8, J8, p1, p2, n8, n9⟩ := hcut
          obtain ⟨wb, hwb⟩ : ∃ y, y = wc := ⟨_, rfl⟩
          subst hwb
          clear hl3 t6 J6 q1 q2 n6 n7 d0 d1 fz hw1 t6n HC6
          obtain ⟨L3, hL3⟩ : ∃ L, l3 rk l x = L := ⟨_, rfl⟩
          rw [hL3] at t8
          have HLL3 := Lib.hid hL3
          obtain ⟨R3, hR3⟩ : ∃ R, rk3 rk x = R := ⟨_, rfl⟩
          rw [hR3] at t8
          have HRR3 := Lib.hid hR3
          clear hL3 hR3
          obtain ⟨a8, c8, rfl, hc8, hd8, hR8⟩ := t8.row.row
          obtain ⟨k8, hk8⟩ : ∃ k, L3.length = k := ⟨_, rfl⟩
          have HK8 := Lib.hid hk8
          rw [hk8] at t8 J8 n8 n9 hc8
          clear hk8 hR8
          have t8n := t8.ne
          have d0 : wb.cell? ⟨w.heap.size, 0, none⟩ = some (.pointer (some ⟨b, 0, none⟩)) := p1.cell 0
          have d2 : wb.cell? ⟨b, 2, none⟩ = some (.slice a8 k8 c8) := t8.own.cell 2
          have fz : wb.frozen? ⟨b, 2, none⟩ = false := t8.own.free 2
          have hr8 : MineK wb base 211 3 (.slice a8 k8 c8) k8 (pv L3) := by have := t8.row; rwa [HK8.out] at this
          unfold maxLen at hd8
          go_upto_if 91 with (fail)
          go_cut [99] from 91 to 99 (fun _ wx => Hs base b w.heap.size me (rk3 rk x) x.n (l4 rk l x) v w wx)
          case first =>
            by_cases h3 : 3 < k8
            · have h4 : l4 rk l x = L3.take 3 := by unfold l4; rw [HLL3.out]
              have H4 := Lib.hid h4
              clear h4
              have g3 : decide ((3 : Int) < (k8 : Int)) = true := by simp; omega
              have g4 : (3 : Int) ≤ (c8 : Int) := by omega
              go_upto_region 13 with (fail)
              go_region
              all_goals
                go_wp2_with fail
                go_meet
                rw [HRR3.out, H4.out]
                have hlen3 : (L3.take 3).length = 3 := by rw [List.length_take, HK8.out]; omega
                have T9 := ((Turn.of_below (Below.refl wb.heap.size wb) b (.slice a8 k8 c8)).put 2 (.slice a8 3 c8)).trans (Turn.of_below (below_drewN (Below.refl _ _) 1) b _)
                have ob : (Value.slice a8 3 c8).ownBlock = (Value.slice a8 k8 c8).ownBlock := by cases a8 <;> rfl
                have T9' : Turn wb (wb.setCell ⟨b, 2, none⟩ (.slice a8 3 c8)).drew b (.slice a8 k8 c8) (.slice a8 3 c8) := ⟨T9.os, T9.tape, T9.output, T9.size, T9.keep, fun _ e => .inl (ob ▸ e)⟩
                refine Hs.go t8 J8 p1 p2 n8 n9 hbl ⟨(t8.own.put 2 _).drewN 1, ?_, srt_take t8.srt 3, by rw [hlen3]; omega, t8.low⟩ T9'
                rw [hlen3]
                exact (row_put ((MineK.pre (k := 3) hr8 (by omega) (by omega)).ext (fun q hq => pv_take (m := 3) hq)) (ob ▸ t8n) 2 _).drewN 1
            · have h4 : l4 rk l x = L3 := by unfold l4; rw [HLL3.out]; exact List.take_of_length_le (by rw [HK8.out]; omega)
              have H4 := Lib.hid h4
              clear h4
              have g3 : decide ((3 : Int) < (k8 : Int)) = false := by simp; omega
              go_wp2_with fail
              go_meet
              rw [HRR3.out, H4.out]
              exact ⟨_, t8, J8, p1, p2, n8, n9⟩
          case rest =>
            obtain ⟨v9, t9, J9, o1', o2', _, _⟩ := hcut
            obtain ⟨wd, hwd⟩ : ∃ y, y = wc := ⟨_, rfl⟩
            subst hwd
            clear t8 J8 p1 p2 n8 n9 d2 fz hr8 hd8 hc8 t8n d0
            have h1 : hearB me rk l x = (rkoP (l4 rk l x) x.n).2 := by unfold hearB; rw [HM.out, if_pos rfl, if_neg (by omega)]
            have h2 : hearR me rk l x = rk3 rk x := by unfold hearR; rw [HM.out, if_pos rfl, if_neg (by omega)]
            have h3 : hearL me rk l x = l4 rk l x := by unfold hearL; rw [HM.out, if_pos rfl, if_neg (by omega)]
            have H1 := Lib.hid h1
            have H2 := Lib.hid h2
            have H3 := Lib.hid h3
            have d0 : wd.cell? ⟨w.heap.size, 0, none⟩ = some (.pointer (some ⟨b, 0, none⟩)) := o1'.cell 0
            have d1 : wd.cell? ⟨w.heap.size + 1, 0, none⟩ = some (.int .i64 x.n) := o2'.cell 0
            have hrk9 := rko_any base b me (rk3 rk x) (l4 rk l x) v9 x.n wd t9
            clear h1 h2 h3 o1' o2'
            go_wp2_with (go_at_call 198; refine hrk9.mono ?_; rintro r w9 ⟨rfl, b9⟩)
            go_ret
            refine ⟨by rw [H1.out]; rfl, v9, ?_, J9.trans (Turn.of_below b9 b v9)⟩
            rw [H2.out, H3.out]
            exact t9.below b9
end Go.Proofs.YtiflmdekcjbmbaaGreat.Pa
set_option maxRecDepth 100000
namespace Go.Proofs.YtiflmdekcjbmbaaGreat.Pa
set_option linter.unusedVariables false
set_option linter.unusedSimpArgs false
open Go.RowKit Lb

theorem infoI : (Tryz.prog.info? 3).map (fun i => (i.zero, i.size, i.bytes)) = some (some (.int .i64 0), 1, 8) := by kernel_rfl
def nov (l : List P) (j : Nat) : Value := .int .i64 (at_ l j).n
theorem all_nil (w : World) : Calls Tryz.prog 117 #[.pointer none] w fun r w' => r = .returned (.slice none 0 0) ∧ w = w' := by
  go_enter Tryz.func117, Tryz.ntmps117
  go_wp2_with fail
  go_ret
  exact ⟨rfl, rfl⟩
set_option maxHeartbeats 2000000 in
theorem all_any (base b : Nat) (me rk : Int) (l : List P) (v : Value) (w : World) (t : St w base b me rk l v) :
    Calls Tryz.prog 117 #[.pointer (some ⟨b, 0, none⟩)] w fun r w' => ∃ a c, r = .returned (.slice a l.length c) ∧ l.length ≤ c ∧ c ≤ maxLen ∧ Row w' a l.length (nov l) ∧ Below w.heap.size w w' := by
  obtain ⟨a, c, rfl, h1, h2, hR⟩ := t.row.row
  have c2 : w.cell? ⟨b, 2, none⟩ = some (.slice a l.length c) := t.own.cell 2
  have hbl := t.own.lt
  have hl := t.few
  unfold maxLen at h2
  obtain ⟨i0, hi0, hz0, hz1, hz2⟩ := info_parts infoI
  clear t
  obtain ⟨n, hn⟩ : ∃ n, l.length = n := ⟨_, rfl⟩
  rw [hn] at hR c2 h1 hl ⊢
  have HN := Lib.hid hn
  clear hn
  have hmk : ∀ w : World, (Instr.makeSlice 23 (.int .i64 (n : Int)) (.int .i64 (n : Int))).run Tryz.prog w = .ok (.slice (some ⟨w.heap.size, 0, none⟩) n n) (w.alloc (.cells (madeCells #[.int .i64 0] n) 3)) := by
    intro w
    have := run_make w 23 3 i0 (.int .i64 0) Tryz.underlying23 hi0 hz0 .i64 .i64 (n : Int) (n : Int) (by omega) (by omega) (by rw [hz2]; omega) (by omega)
    rw [this, hz1]
    simp [Value.cells]
  have HCS : Hid (madeCells #[Value.int .i64 0] n = (List.replicate n (Value.int .i64 0)).toArray) := Lib.hid (by
    apply Array.toList_inj.1
    simpa using toList_madeCells_one (Value.int .i64 0) n)
  go_enter Tryz.func117, Tryz.ntmps117
  go_wp2_with fail
  have o1 : Blk (w.alloc (.cells (madeCells #[.int .i64 0] n) 3)) w.heap.size 3 n (fun j => if j < 0 then nov l j else .int .i64 0) := Blk.ext (Blk.same (Own.new _ _ _) HCS.out) (fun i hi => by rw [if_neg (by omega)])
  have b1 := (Below.refl w.heap.size w).alloc (Nat.le_refl _) (.cells (madeCells #[.int .i64 0] n) 3)
  have c3 : (w.alloc (.cells (madeCells #[.int .i64 0] n) 3)).cell? ⟨b, 2, none⟩ = some (.slice a n c) := by rw [b1.cell (p := ⟨b, 2, none⟩) hbl]; exact c2
  generalize w.alloc (.cells (madeCells #[.int .i64 0] n) 3) = w1 at *
  clear hmk HCS c2
  obtain ⟨g, hg⟩ : ∃ g, g = w.heap.size := ⟨_, rfl⟩
  rw [← hg] at o1 ⊢
  have HG := Lib.hid hg
  clear hg
  go_wp2_with fail
  go_loopw [19] (fun i wr => ∃ k : Nat, i = .int .i64 k ∧ k ≤ n ∧ Blk wr g 3 n (fun j => if j < k then nov l j else .int .i64 0) ∧ Below w.heap.size w wr) (fun i _ => n - (intOf i).toNat)
  case atStart => exact ⟨0, rfl, by omega, o1, b1⟩
  case round =>
    clear o1 b1 c3
    obtain ⟨k, rfl, hk, o1, bb⟩ := hrel
    by_cases hlt : k < n
    · obtain ⟨bo, off, rfl, hbo, d0, d1, d2⟩ := prow hR bb hlt
      obtain ⟨y, hy⟩ : ∃ y, at_ l k = y := ⟨_, rfl⟩
      have HY := Lib.hid hy
      rw [hy] at d0 d1 d2
      clear hy
      have g0 := o1.cell hlt
      have g0 : wr.cell? ⟨g, k, none⟩ = some (.int .i64 0) := by rw [g0, if_neg (by omega)]
      have gf := o1.free k
      have HP := Lib.hid ((o1.put k (.int .i64 y.n)).ext (U := fun j => if j < k + 1 then nov l j else .int .i64 0) (fun j hj => by
        by_cases h : j = k
        · subst h
          rw [if_pos rfl, if_pos (by omega)]
          unfold nov
          rw [HY.out]
        · rw [if_neg h]
          by_cases h2 : j < k
          · rw [if_pos h2, if_pos (by omega)]
          · rw [if_neg h2, if_neg (by omega)]))
      have hne : g < wr.heap.size := o1.lt
      have HB := Lib.hid ((Just.set g wr k (.int .i64 y.n)).below bb (by rw [HG.out]; exact Nat.le_refl _) bb.size)
      go_wp2_with fail
      exact ⟨⟨k + 1, by simp [intOf], by omega, Blk.alloc HP.out _, HB.out.alloc HB.out.size _⟩, by simp [intOf]; omega⟩
    · obtain rfl : k = n := by omega
      go_wp2_with fail
      go_ret
      exact ⟨some ⟨g, 0, none⟩, k, rfl, Nat.le_refl _, by unfold maxLen; omega, fun hn => ⟨g, 0, rfl, o1.lt, fun i hi => by rw [Nat.zero_add, o1.cell hi, if_pos hi]⟩, bb⟩
end Go.Proofs.YtiflmdekcjbmbaaGreat.Pa
set_option maxRecDepth 100000
namespace Go.Proofs.YtiflmdekcjbmbaaGreat.Pa
set_option linter.unusedVariables false
set_option linter.unusedSimpArgs false
open Go.RowKit Lb Go.Shelf

def srtd (zs : List Int) : List Int := zs.mergeSort fun x y => decide (x ≤ y)
def zval (zs : List Int) (j : Nat) : Value := .int .i64 (zs.getD j 0)
def SortOk : Prop := ∀ (base n : Nat) (v : Value) (zs : List Int) (w : World), Mine w base 3 v n (zval zs) → zs.length = n → n ≤ 1000 →
  Calls Tryz.prog 170 #[v] w fun r w' => r = .returned (.tuple #[]) ∧ Mine w' base 3 v n (zval (srtd zs)) ∧ w.grownBy w' v.ownBlock
def goP (last : Int) (l : List P) (k : Nat) : List P := kept (fun x => decide (last < x.h)) l k
def goN (last : Int) (l : List P) : List Int := (goP last l l.length).map (·.n)
theorem goN_len (last : Int) (l : List P) : (goN last l).length = (goP last l l.length).length := by simp [goN]
theorem goN_val (last : Int) (l : List P) (j : Nat) (hj : j < (goP last l l.length).length) : nov (goP last l l.length) j = zval (goN last l) j := by
  unfold nov zval goN at_
  rw [List.getD_eq_getElem?_getD, List.getD_eq_getElem?_getD, List.getElem?_map, List.getElem?_eq_getElem hj]
  rfl
theorem goP_yes {last : Int} {l : List P} {k : Nat} (hk : k < l.length) (h : decide ((at_ l k).h ≤ last) = true) : goP last l (k + 1) = goP last l k ++ [at_ l k] := by
  unfold goP
  rw [kept_succ _ _ _ hk, if_neg]
  simp at h ⊢
  omega
theorem goP_no {last : Int} {l : List P} {k : Nat} (hk : k < l.length) (h : decide ((at_ l k).h ≤ last) = false) : goP last l (k + 1) = goP last l k := by
  unfold goP
  rw [kept_succ _ _ _ hk, if_pos, List.append_nil]
  simp at h ⊢
  omega
theorem nov_snoc (G : List P) (y : P) (q : Nat) (hq : q < G.length + 1) : (if q < G.length then nov G q else .int .i64 y.n) = nov (G ++ [y]) q := by
  unfold nov at_
  by_cases h : q < G.length
  · rw [if_pos h, List.getD_eq_getElem?_getD, List.getD_eq_getElem?_getD, List.getElem?_append_left h]
  · obtain rfl : q = G.length := by omega
    rw [if_neg h, List.getD_eq_getElem?_getD, List.getElem?_append_right (Nat.le_refl _)]
    simp
theorem saysO (nb : Nat) (last : Int) : Says 169 (.pointer (some ⟨nb, 0, none⟩)) (fun x => decide (x.h ≤ last)) (fun W => W.cell? ⟨nb, 0, none⟩ = some (.int .i64 last)) := by
  intro x w h
  have b0 := (Below.refl w.heap.size w).alloc (Nat.le_refl _) (.cells #[.int .i64 x.n, .int .i64 x.r, .int .i64 x.h] 211)
  have c0 := keep_cell b0 h
  have o0 := Own.new w 211 #[.int .i64 x.n, .int .i64 x.r, .int .i64 x.h]
  have d1 : (w.alloc (.cells #[.int .i64 x.n, .int .i64 x.r, .int .i64 x.h] 211)).cell? ⟨w.heap.size, 2, none⟩ = some (.int .i64 x.h) := o0.cell 2
  clear h o0
  go_enter Tryz.func169, Tryz.ntmps169
  go_wp2_with fail
  go_ret
  exact ⟨rfl, b0⟩
theorem old_nil (now loss : Int) (w : World) : Calls Tryz.prog 98 #[.pointer none, .int .i64 now, .int .i64 loss] w fun r w' => r = .returned (.slice none 0 0) ∧ w = w' := by
  go_enter Tryz.func98, Tryz.ntmps98
  go_wp2_with fail
  go_ret
  exact ⟨rfl, rfl⟩
theorem old_early (b : Nat) (now loss : Int) (w : World) (h : now < 0) : Calls Tryz.prog 98 #[.pointer (some ⟨b, 0, none⟩), .int .i64 now, .int .i64 loss] w fun r w' => r = .returned (.slice none 0 0) ∧ w = w' := by
  have g : decide (now < 0) = true := by simpa using h
  go_enter Tryz.func98, Tryz.ntmps98
  go_wp2_with fail
  go_ret
  exact ⟨rfl, rfl⟩
def OldPost (base b : Nat) (me rk last : Int) (l : List P) (v : Value) (w : World) (r : Ending) (w' : World) : Prop :=
  ∃ gv v', r = .returned gv ∧ Mine w' (w.heap.size + 1) 3 gv (goN last l).length (zval (srtd (goN last l))) ∧ St w' base b me rk (kept (fun x => decide (x.h ≤ last)) l l.length) v' ∧ Turn w w' b v v'
set_option maxHeartbeats 2000000 in
theorem old_any (hS : SortOk) (base b : Nat) (me rk now loss last : Int) (l : List P) (v : Value) (w : World) (t : St w base b me rk l v) (h0 : 0 ≤ now) (hm : now ≤ 9223372036854775807) (hl : loss ≤ 9223372036854775807) (hlast : now - max loss 1 = last) :
    Calls Tryz.prog 98 #[.pointer (some ⟨b, 0, none⟩), .int .i64 now, .int .i64 loss] w (OldPost base b me rk last l v w) := by
  obtain ⟨a, c, rfl, h1, h2, hR⟩ := t.row.row
  have c2 : w.cell? ⟨b, 2, none⟩ = some (.slice a l.length c) := t.own.cell 2
  have HT := Lib.hid t
  have hfew := t.few
  have hbl := t.own.lt
  unfold maxLen at h2
  obtain ⟨i0, hi0, hz0, hz1, hz2⟩ := info_parts infoI
  clear t
  have g0 : decide (now < 0) = false := by simpa using h0
  have HLA := Lib.hid hlast
  obtain ⟨n, hn⟩ : ∃ n, l.length = n := ⟨_, rfl⟩
  rw [hn] at c2 h1 hfew hR
  have HN := Lib.hid hn
  clear hn hlast
  go_enter Tryz.func98, Tryz.ntmps98
  go_wp2_with fail
  rw [HLA.out]
  have o1 : Own (w.alloc (.cells #[.int .i64 last] 2)) w.heap.size 2 #[.int .i64 last] := Own.new w _ _
  have b1 := (Below.refl w.heap.size w).alloc (Nat.le_refl _) (.cells #[.int .i64 last] 2)
  generalize w.alloc (.cells #[.int .i64 last] 2) = w1 at *
  generalize max loss 1 = mx at *
  clear HLA g0 c2
  have HBL := Lib.hid hbl
  go_loopw [8, 26] (fun g i wr => ∃ k : Nat, i = .int .i64 k ∧ k ≤ n ∧ Mine wr (w.heap.size + 1) 3 g (goP last l k).length (nov (goP last l k)) ∧ Below w.heap.size w wr ∧ Own wr w.heap.size 2 #[.int .i64 last]) (fun _ i _ => n - (intOf i).toNat)
  case atStart => exact ⟨0, rfl, by omega, by exact Mine.nil _ _ _ _, b1, o1⟩
  case round =>
    clear o1 b1
    obtain ⟨k, rfl, hk, hG, bb, o1⟩ := hrel
    by_cases hlt : k < n
    · obtain ⟨bo, off, rfl, hbo, d0, d1, d2⟩ := prow hR bb hlt
      obtain ⟨y, hy⟩ : ∃ y, at_ l k = y := ⟨_, rfl⟩
      have HY := Lib.hid hy
      rw [hy] at d0 d1 d2
      clear hy
      have hs := bb.size
      have hos := o1.lt
      have ob := o1.cell 0
      have c0 : wr.cell? ⟨w.heap.size, 0, none⟩ = some (.int .i64 last) := ob
      have b2 := bb.alloc hs (.cells #[.int .i64 y.n, .int .i64 y.r, .int .i64 y.h] 211)
      obtain ⟨e, he⟩ : ∃ e, decide (y.h ≤ last) = e := ⟨_, rfl⟩
      have HE := Lib.hid he
      clear ob
      cases e
      · have HQ : Hid (goP last l (k + 1) = goP last l k) := Lib.hid (goP_no (by rw [HN.out]; exact hlt) (by rw [HY.out]; exact HE.out))
        have HG := Lib.hid (hG.alloc (.cells #[.int .i64 y.n, .int .i64 y.r, .int .i64 y.h] 211))
        have HO := Lib.hid (o1.alloc (.cells #[.int .i64 y.n, .int .i64 y.r, .int .i64 y.h] 211))
        go_wp2_with fail
        exact ⟨⟨k + 1, by simp, by omega, by rw [HQ.out]; exact HG.out, b2, HO.out⟩, by simp [intOf]; omega⟩
      · have HQ : Hid (goP last l (k + 1) = goP last l k ++ [y]) := Lib.hid (by rw [goP_yes (by rw [HN.out]; exact hlt) (by rw [HY.out]; exact HE.out), HY.out])
        have hgl : (goP last l k).length ≤ k := kept_len _ _ _
        obtain ⟨G, hGG⟩ : ∃ G, goP last l k = G := ⟨_, rfl⟩
        rw [hGG] at hG hgl HQ
        obtain ⟨m, hm'⟩ : ∃ m, G.length = m := ⟨_, rfl⟩
        have HM := Lib.hid hm'
        rw [hm'] at hG hgl
        clear hGG hm'
        have hRow : Hid (Row ((wr.alloc (.cells #[.int .i64 y.n, .int .i64 y.r, .int .i64 y.h] 211)).alloc (.cells #[.int .i64 y.n] 3)) (some ⟨wr.heap.size + 1, 0, none⟩) 1 (fun _ => .int .i64 y.n)) := Lib.hid (by
          have h := row_new (n := 1) (V := fun _ => .int .i64 y.n) (wr.alloc (.cells #[.int .i64 y.n, .int .i64 y.r, .int .i64 y.h] 211)) #[.int .i64 y.n] 3 (0, 0) (fun i hi => by obtain rfl : i = 0 := (by omega); rfl)
          rwa [show (wr.alloc (.cells #[.int .i64 y.n, .int .i64 y.r, .int .i64 y.h] 211)).heap.size = wr.heap.size + 1 by simp] at h)
        go_wp2_with (at_builtin; go_must (refine wp_app rfl (.tmp 34) (.tmp 37) _ rfl (w.heap.size + 1) 3 i0 _ 8 Tryz.underlying23 hi0 hz0 hz1 hz2 rfl u8 m (nov G) rfl ((hG.alloc _).alloc _) _ 1 _ (fun _ => .int .i64 y.n) rfl hRow.out (fun _ _ => rfl) ?c1 ?c2 ?c3 ?_))
        case c1 => unfold maxLen; omega
        case c2 => omega
        case c3 => simp; omega
        intro v' w2 hv2 hg
        have b3 : Below w.heap.size w w2 := (b2.alloc (by simp; omega) _).grown hg (by simp; omega) (fun q hq => by have := hG.lt q hq; omega)
        have hv3 := hv2.ext (U := nov (G ++ [y])) (fun q hq => by rw [← HM.out]; exact nov_snoc G y q (by rw [HM.out]; exact hq))
        have o2 : Own w2 w.heap.size 2 #[.int .i64 last] := grown_own hg ((o1.alloc _).alloc _) (fun e => by have := hG.lt _ e; omega)
        have HL2 : Hid ((G ++ [y]).length = m + 1) := Lib.hid (by rw [List.length_append, HM.out]; rfl)
        clear hG hv2 o1 c0 b2 d0 d1 d2 hg
        go_wp2_with fail
        exact ⟨⟨k + 1, by simp, by omega, by rw [HQ.out, HL2.out]; exact hv3, b3, o2⟩, by simp [intOf]; omega⟩
    · obtain rfl : k = n := by omega
      have hT : ∀ q, (Value.slice a l.length c).ownBlock = some q → q < w.heap.size := fun q e => (HT.out.blk q e).2
      have hne : (Value.slice a l.length c).ownBlock ≠ some w.heap.size := fun e => by have := hT _ e; omega
      have hd := drp_any base b me rk l (.slice a l.length c) 169 (.pointer (some ⟨w.heap.size, 0, none⟩)) (fun x => decide (x.h ≤ last)) (fun W => W.cell? ⟨w.heap.size, 0, none⟩ = some (.int .i64 last)) wr (enters_of Tryz.func169 (by kernel_rfl) rfl) (saysO _ _) (o1.cell 0) (fun W W' g h => (World.cell?_of_block (g.block w.heap.size (lt_of_cell h) (fun e => hne e.symm))).trans h) (HT.out.below bb)
      have HTT := Lib.hid hT
      have hG' : Mine wr (w.heap.size + 1) 3 u8 (goN last l).length (zval (goN last l)) := by
        rw [goN_len, HN.out]
        exact hG.ext (fun q hq => by rw [← goN_val last l q (by rw [HN.out]; exact hq), HN.out])
      have hlen : (goN last l).length ≤ 1000 := by rw [goN_len]; have := kept_len (fun x => decide (last < x.h)) l l.length; unfold goP; rw [HN.out] at this ⊢; omega
      have hbw := HBL.out
      have HS := Lib.hid hS
      clear hT hne hS hG
      go_wp2_with (first
        | (go_at_call 168; refine hd.mono ?_; rintro r w3 ⟨rfl, v3, t3, j3, e3⟩; have hG3 : Mine w3 (w.heap.size + 1) 3 u8 (goN last l).length (zval (goN last l)) := hG'.kept (fun q hq => (by
            by_cases e : u8.ownBlock = some q
            · exact .inl (j3.keep q (hG'.lt q e).2 (by omega) (fun e' => by have := HTT.out q e'; omega))
            · exact .inr e)))
        | (go_at_call 170; refine (HS.out (w.heap.size + 1) _ u8 (goN last l) w3 hG3 rfl hlen).mono ?_; rintro r w4 ⟨rfl, m4, g4⟩))
      go_ret
      have T3 := (Turn.of_below bb b (.slice a l.length c)).trans j3
      have hb3 : u8.ownBlock ≠ some b := fun e => by have := (hG'.lt _ e).1; omega
      refine ⟨u8, v3, rfl, m4, ⟨grown_own g4 t3.own hb3, t3.row.kept (fun q _ => ?_), t3.srt, t3.few, t3.low⟩, ⟨g4.os.trans T3.os, g4.tape.trans T3.tape, g4.output.trans T3.output, Nat.le_trans T3.size g4.size, fun q h1 h2 h3 => (g4.block q (Nat.lt_of_lt_of_le h1 T3.size) (fun e => by have := (hG'.lt _ e.symm).1; omega)).trans (T3.keep q h1 h2 h3), T3.own⟩⟩
      by_cases e : v3.ownBlock = some q
      · refine .inl (g4.block q (t3.row.lt q e).2 (fun e' => ?_))
        have := (hG'.lt _ e'.symm).1
        rw [e3] at e
        have := HTT.out q e
        omega
      · exact .inr e
end Go.Proofs.YtiflmdekcjbmbaaGreat.Pa
