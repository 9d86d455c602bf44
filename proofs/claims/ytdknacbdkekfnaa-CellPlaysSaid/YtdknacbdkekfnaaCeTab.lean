/-
  Package cell: a table as a value; New, Length, Frame.
-/
import Derived.Test.YtdknacbdkekfnaaCeBs
import Derived.Test.YtdknacbdkekfnaaCeDel
import Derived.Test.YtdknacbdkekfnaaCelIns
import Derived.Test.YtdknacbdkekfnaaCeMay
set_option maxRecDepth 100000
namespace Go.Proofs.Ytdknacbdkekfnaa.Ce
set_option linter.unusedVariables false
open Go.RowKit Lb Cl

/-- From w to w' nothing has turned but block b, the block of v, and what is new; v' lies there. -/
structure Turn (w w' : World) (b : Nat) (v v' : Value) : Prop where
  os : w'.os = w.os
  tape : w'.tape = w.tape
  output : w'.output = w.output
  size : w.heap.size ≤ w'.heap.size
  keep : ∀ q, q < w.heap.size → q ≠ b → v.ownBlock ≠ some q → w'.heap[q]? = w.heap[q]?
  own : ∀ q, v'.ownBlock = some q → v.ownBlock = some q ∨ w.heap.size ≤ q
theorem Turn.of_below {w w' : World} (h : Below w.heap.size w w') (b : Nat) (v : Value) : Turn w w' b v v := ⟨h.os, h.tape, h.output, h.size, fun q hq _ _ => h.block q hq, fun _ e => .inl e⟩
theorem Turn.of_grown {w w' : World} {v v' : Value} (h : w.grownBy w' v.ownBlock) (ho : ∀ q, v'.ownBlock = some q → v.ownBlock = some q ∨ w.heap.size ≤ q) (b : Nat) : Turn w w' b v v' := ⟨h.os, h.tape, h.output, h.size, fun q hq _ hv => h.block q hq (fun e => hv e.symm), ho⟩
theorem Turn.of_just {w w' : World} {b : Nat} (h : Just b w w') (v : Value) : Turn w w' b v v := ⟨h.os, h.tape, h.output, h.size, fun q hq hb _ => h.block q hq hb, fun _ e => .inl e⟩
theorem Turn.trans {u v w : World} {b : Nat} {x y z : Value} (h : Turn u v b x y) (k : Turn v w b y z) : Turn u w b x z :=
  ⟨k.os.trans h.os, k.tape.trans h.tape, k.output.trans h.output, Nat.le_trans h.size k.size, fun q hq hb hx => (k.keep q (Nat.lt_of_lt_of_le hq h.size) hb (fun e => (h.own q e).elim hx (fun h' => by omega))).trans (h.keep q hq hb hx),
    fun q e => (k.own q e).elim (fun e' => h.own q e') (fun h' => .inr (Nat.le_trans h.size h'))⟩
theorem Turn.put {w w1 : World} {b : Nat} {v v1 : Value} (h : Turn w w1 b v v1) (i : Nat) (u : Value) : Turn w (w1.setCell ⟨b, i, none⟩ u) b v v1 := h.trans (Turn.of_just (Just.set b w1 i u) v1)
theorem Turn.below {w w' : World} {b base : Nat} {v v' : Value} (h : Turn w w' b v v') (hb : base ≤ b) (hv : ∀ q, v.ownBlock = some q → base ≤ q) (hs : base ≤ w.heap.size) : Below base w w' :=
  ⟨h.os, h.tape, h.output, h.size, fun q hq => h.keep q (by omega) (by omega) (fun e => by have := hv q e; omega)⟩
def tv (N : Nat → Int) (v : Value) (j : Nat) : Value := if j < 4 then .int .i64 (N j) else v
/-- The table in block b: how long each slotframe is, the cells, in order. -/
structure Tab (w : World) (base b : Nat) (N : Nat → Int) (l : List C) (v : Value) : Prop where
  blk : Blk w b 51 5 (tv N v)
  row : MineK w base 31 5 v l.length (lv l)
  good : Good N l
  low : base ≤ b
theorem Tab.n {w : World} {base b : Nat} {N : Nat → Int} {l : List C} {v : Value} (h : Tab w base b N l v) {i : Nat} (hi : i < 4) : w.cell? ⟨b, i, none⟩ = some (.int .i64 (N i)) := by
  rw [h.blk.cell (show i < 5 by omega)]
  unfold tv
  rw [if_pos hi]
theorem Tab.v4 {w : World} {base b : Nat} {N : Nat → Int} {l : List C} {v : Value} (h : Tab w base b N l v) : w.cell? ⟨b, 4, none⟩ = some v := by
  rw [h.blk.cell (show 4 < 5 by omega)]
  rfl
theorem Tab.below {w w' : World} {base b : Nat} {N : Nat → Int} {l : List C} {v : Value} (h : Tab w base b N l v) (j : Below w.heap.size w w') : Tab w' base b N l v :=
  ⟨below_blk j h.blk h.blk.lt, h.row.below j, h.good, h.low⟩
theorem Tab.own {w : World} {base b : Nat} {N : Nat → Int} {l : List C} {v : Value} (h : Tab w base b N l v) (q : Nat) (e : v.ownBlock = some q) : base ≤ q ∧ q < w.heap.size := h.row.lt q e
theorem own_ty {w : World} {b : Nat} {s t : TypeId} {cs ds : Array Value} (h : Own w b s cs) (g : Own w b t ds) : s = t := by
  unfold Own at h g
  rw [g] at h
  injection h with h
  injection h with _ h _
  exact h.symm
theorem mine_ne {w : World} {base n b : Nat} {v : Value} {V F : Nat → Value} {m : Nat} (h : MineK w base 31 5 v n V) (ho : Blk w b 51 m F) : v.ownBlock ≠ some b := fun e => by
  obtain ⟨_, h2⟩ := h
  rcases h2 with ⟨hv, _⟩ | ⟨g, cap, cur, hv, hg, hh, _⟩
  · subst hv
    cases e
  · subst hv
    have e : some g = some b := e
    injection e with e
    subst e
    exact absurd (own_ty hh ho) (by decide)
theorem Tab.ne {w : World} {base b : Nat} {N : Nat → Int} {l : List C} {v : Value} (h : Tab w base b N l v) : v.ownBlock ≠ some b := mine_ne h.row h.blk
theorem tv_put (N : Nat → Int) (v : Value) (i : Nat) (x : Int) (hi : i < 4) : ∀ j, (if j = i then .int .i64 x else tv N v j) = tv (fun k => if k = i then x else N k) v j := fun j => by
  unfold tv
  by_cases h : j = i
  · subst h
    rw [if_pos rfl, if_pos hi]
    simp
  · rw [if_neg h]
    by_cases h4 : j < 4
    · rw [if_pos h4, if_pos h4]
      simp [h]
    · rw [if_neg h4, if_neg h4]
theorem tv_row (N : Nat → Int) (v u : Value) : ∀ j, j < 5 → (if j = 4 then u else tv N v j) = tv N u j := fun j hj => by
  unfold tv
  by_cases h : j = 4
  · subst h; rfl
  · rw [if_neg h, if_pos (by omega), if_pos (by omega)]
theorem new_any (w : World) :
    Calls Try.prog 9 #[] w fun r w' => r = .returned (.pointer (some ⟨w.heap.size, 0, none⟩)) ∧ Tab w' w.heap.size w.heap.size (fun _ => 0) [] (.slice none 0 0) ∧ Below w.heap.size w w' := by
  have ho := Own.new w 51 #[.int .i64 0, .int .i64 0, .int .i64 0, .int .i64 0, .slice none 0 0]
  have hb := (Below.refl w.heap.size w).alloc (Nat.le_refl _) (.cells #[.int .i64 0, .int .i64 0, .int .i64 0, .int .i64 0, .slice none 0 0] 51)
  have hB := Blk.of (n := 5) (V := tv (fun _ => 0) (.slice none 0 0)) ho rfl (fun i hi => by
    rcases (show i = 0 ∨ i = 1 ∨ i = 2 ∨ i = 3 ∨ i = 4 by omega) with rfl | rfl | rfl | rfl | rfl <;> rfl)
  clear ho
  go_enter Try.func9, Try.ntmps9
  go_wp2_with fail
  go_ret
  exact ⟨rfl, ⟨hB, MineK.nil _ _ _ _ _, good_nil (fun _ => ⟨by decide, by decide⟩), Nat.le_refl _⟩, hb⟩
def lenOf (N : Nat → Int) (h : Int) : Int := if frB h = true then N h.toNat else 0
theorem len_any (base b : Nat) (N : Nat → Int) (l : List C) (v : Value) (h : Int) (w : World) (t : Tab w base b N l v) :
    Calls Try.prog 22 #[.pointer (some ⟨b, 0, none⟩), .int .i64 h] w fun r w' => r = .returned (.int .i64 (lenOf N h)) ∧ w = w' := by
  cases hf : frB h
  · have HF := Lib.hid hf
    have HD : Hid (lenOf N h = 0) := Lib.hid (by unfold lenOf; rw [hf]; rfl)
    clear hf
    go_enter Try.func22, Try.ntmps22
    go_wp2_with ((with_reducible refine (isFrame_any _ _).mono ?_); rintro r w' ⟨rfl, rfl⟩; rw [HF.out])
    go_ret
    exact ⟨by rw [HD.out]; rfl, rfl⟩
  · have HF := Lib.hid hf
    have HD : Hid (lenOf N h = N h.toNat) := Lib.hid (by unfold lenOf; rw [hf]; rfl)
    unfold frB at hf
    simp only [decide_eq_true_eq] at hf
    obtain ⟨a, rfl⟩ := Int.eq_ofNat_of_zero_le hf.1
    have ha : a < 4 := by omega
    have g1 : (a : Int) < 4 := by omega
    have c1 := t.n ha
    clear hf
    go_enter Try.func22, Try.ntmps22
    go_wp2_with ((with_reducible refine (isFrame_any _ _).mono ?_); rintro r w' ⟨rfl, rfl⟩; rw [HF.out])
    go_ret
    exact ⟨by rw [HD.out]; rfl, rfl⟩
theorem len_nil (h : Int) (w : World) : Calls Try.prog 22 #[.pointer none, .int .i64 h] w fun r w' => r = .returned (.int .i64 0) ∧ w = w' := by
  go_enter Try.func22, Try.ntmps22
  go_wp2_with fail
  go_ret
  exact ⟨rfl, rfl⟩
theorem frm_nil (h n : Int) (w : World) : Calls Try.prog 10 #[.pointer none, .int .i64 h, .int .i64 n] w fun r w' => r = .returned (.int .i64 1) ∧ w = w' := by
  go_enter Try.func10, Try.ntmps10
  go_wp2_with fail
  go_ret
  exact ⟨rfl, rfl⟩
def FrmPost (base b : Nat) (N : Nat → Int) (l : List C) (v : Value) (h n : Int) (w : World) (r : Ending) (w' : World) : Prop :=
  r = .returned (.int .i64 (frE l h n)) ∧ Tab w' base b (frN N l h n) l v ∧ Turn w w' b v v
set_option maxHeartbeats 1000000 in
theorem frm_any (base b : Nat) (N : Nat → Int) (l : List C) (v : Value) (h n : Int) (w : World) (t : Tab w base b N l v) :
    Calls Try.prog 10 #[.pointer (some ⟨b, 0, none⟩), .int .i64 h, .int .i64 n] w (FrmPost base b N l v h n w) := by
  rcases (show frB h = false ∨ (frB h = true ∧ n < 0) ∨ (frB h = true ∧ 0 ≤ n ∧ 200 < n) ∨ (frB h = true ∧ 0 ≤ n ∧ n ≤ 200) by
    cases frB h
    · exact .inl rfl
    · simp; omega) with hf | ⟨hf, hn⟩ | ⟨hf, hn0, hn⟩ | ⟨hf, hn0, hn⟩
  · have HF := Lib.hid hf
    have hE : frE l h n = 1 := by unfold frE; rw [hf]; rfl
    have HD : Hid (FrmPost base b N l v h n w (.returned (.int .i64 1)) w) := Lib.hid (by
      refine ⟨by rw [hE], ?_, Turn.of_below (Below.refl _ _) _ _⟩
      unfold frN; rw [hE, if_neg (by decide)]; exact t)
    clear hf hE
    go_enter Try.func10, Try.ntmps10
    go_wp2_with ((with_reducible refine (isFrame_any _ _).mono ?_); rintro r w' ⟨rfl, rfl⟩; rw [HF.out])
    go_ret
    exact HD.out
  · have HF := Lib.hid hf
    have hE : frE l h n = 1 := by unfold frE; rw [hf]; simp; omega
    have HD : Hid (FrmPost base b N l v h n w (.returned (.int .i64 1)) w) := Lib.hid (by
      refine ⟨by rw [hE], ?_, Turn.of_below (Below.refl _ _) _ _⟩
      unfold frN; rw [hE, if_neg (by decide)]; exact t)
    clear hf hE
    go_enter Try.func10, Try.ntmps10
    go_wp2_with ((with_reducible refine (isFrame_any _ _).mono ?_); rintro r w' ⟨rfl, rfl⟩; rw [HF.out])
    go_ret
    exact HD.out
  · have HF := Lib.hid hf
    have hE : frE l h n = 1 := by unfold frE; rw [hf]; simp; omega
    have HD : Hid (FrmPost base b N l v h n w (.returned (.int .i64 1)) w) := Lib.hid (by
      refine ⟨by rw [hE], ?_, Turn.of_below (Below.refl _ _) _ _⟩
      unfold frN; rw [hE, if_neg (by decide)]; exact t)
    have g0 : decide (n < 0) = false := by simp; omega
    clear hf hE
    go_enter Try.func10, Try.ntmps10
    go_wp2_with ((with_reducible refine (isFrame_any _ _).mono ?_); rintro r w' ⟨rfl, rfl⟩; rw [HF.out])
    go_ret
    exact HD.out
  · have HF := Lib.hid hf
    have hE : frE l h n = if longB l h n = true then 9 else 0 := by unfold frE; rw [hf]; simp [hn0, hn]
    have HE := Lib.hid hE
    have hf2 := hf
    unfold frB at hf2
    simp only [decide_eq_true_eq] at hf2
    obtain ⟨a, rfl⟩ := Int.eq_ofNat_of_zero_le hf2.1
    have ha : a < 4 := by omega
    have g1 : (a : Int) < 4 := by omega
    have g2 : decide (n < 0) = false := by simp; omega
    have g3 : decide (200 < n) = false := by simp; omega
    have HT := Lib.hid t
    have c4 := t.v4
    have hbl := t.blk.lt
    obtain ⟨A, c, rfl, hc1, hc2, hR⟩ := t.row.row
    unfold maxLen at hc2
    have HR := Lib.hid hR
    have hfew := t.good.few
    obtain ⟨m, hm⟩ : ∃ m, l.length = m := ⟨_, rfl⟩
    have HL := Lib.hid hm
    rw [hm] at c4 HT HR hfew hc1 ⊢
    clear hf hf2 hE t hR hm
    go_enter Try.func10, Try.ntmps10
    go_wp2_with ((with_reducible refine (isFrame_any _ _).mono ?_); rintro r w' ⟨rfl, rfl⟩; rw [HF.out])
    go_loopw [29] (fun i wr => ∃ k : Nat, i = .int .i64 k ∧ k ≤ m ∧ Hid (∀ j, j < k → ((at_ l j).f == (a : Int) && decide (n ≤ (at_ l j).s)) = false) ∧ Below w.heap.size w wr) (fun i _ => m - (intOf i).toNat)
    case atStart => exact ⟨0, rfl, by omega, Lib.hid (fun j hj => by omega), Below.refl _ _⟩
    case round =>
      obtain ⟨k, rfl, hk, HN, b1⟩ := hrel
      by_cases hlt : k < m
      · obtain ⟨bo, off, rfl, hbo, d0, d1, d2, d3, d4⟩ := row_c HR.out b1 hlt
        obtain ⟨x, hx⟩ : ∃ x, at_ l k = x := ⟨_, rfl⟩
        have HX := Lib.hid hx
        rw [hx] at d0 d1 d2 d3 d4
        clear hx
        have b2 := b1.alloc b1.size (.cells #[.int .i64 x.f, .int .i64 x.s, .int .i64 x.c, .int .i64 x.o, .int .i64 x.p] 31)
        obtain ⟨e1, he1⟩ : ∃ e, (x.f == (a : Int)) = e := ⟨_, rfl⟩
        obtain ⟨e2, he2⟩ : ∃ e, decide (n ≤ x.s) = e := ⟨_, rfl⟩
        have HS : Hid (((at_ l k).f == (a : Int) && decide (n ≤ (at_ l k).s)) = (e1 && e2)) := Lib.hid (by rw [HX.out, he1, he2])
        have hno : (e1 && e2) = false → Hid (∀ j, j < k + 1 → ((at_ l j).f == (a : Int) && decide (n ≤ (at_ l j).s)) = false) := fun he => Lib.hid (fun j hj => by
          by_cases e : j = k
          · subst e; rw [HS.out]; exact he
          · exact HN.out j (by omega))
        cases e1
        · have HN2 := hno rfl
          clear hno he2
          go_wp2_with fail
          exact ⟨⟨k + 1, by simp, by omega, HN2, b2⟩, by simp [intOf]; omega⟩
        · cases e2
          · have HN2 := hno rfl
            clear hno
            go_wp2_with fail
            exact ⟨⟨k + 1, by simp, by omega, HN2, b2⟩, by simp [intOf]; omega⟩
          · have hl : longB l (a : Int) n = true := by
              unfold longB
              rw [List.any_eq_true]
              exact ⟨at_ l k, at_mem (by rw [HL.out]; exact hlt), by rw [HS.out]; rfl⟩
            have HD : Hid (∀ w', Below w.heap.size w w' → FrmPost base b N l (.slice (some ⟨bo, off, none⟩) m c) (a : Int) n w (.returned (.int .i64 9)) w') := Lib.hid (fun w' hb => by
              have h9 : frE l (a : Int) n = 9 := by rw [HE.out, hl]; rfl
              refine ⟨by rw [h9], ?_, Turn.of_below hb _ _⟩
              unfold frN; rw [h9, if_neg (by decide)]; exact HT.out.below hb)
            clear hno hl
            go_wp2_with fail
            go_ret
            exact HD.out _ b2
      · have hl : longB l (a : Int) n = false := by
          unfold longB
          rw [List.any_eq_false]
          intro x hx
          obtain ⟨j, hj, rfl⟩ := mem_at hx
          rw [HN.out j (by rw [HL.out] at hj; omega)]
          decide
        have h0 : frE l (a : Int) n = 0 := by rw [HE.out, hl]; rfl
        have t1 := HT.out.below b1
        have c0 := t1.n ha
        have f0 : wr.frozen? ⟨b, a, none⟩ = false := t1.blk.free a
        have HD : Hid (FrmPost base b N l (.slice A m c) (a : Int) n w (.returned (.int .i64 0)) (wr.setCell ⟨b, a, none⟩ (.int .i64 n))) := Lib.hid (by
          have hg := good_fr t1.good (a : Int) n
          refine ⟨by rw [h0], ?_, (Turn.of_below b1 _ _).put a _⟩
          refine ⟨?_, ?_, hg, t1.low⟩
          · unfold frN
            rw [h0, if_pos rfl]
            exact (t1.blk.put a (.int .i64 n)).ext (fun j _ => tv_put N _ a n ha j)
          · exact t1.row.kept (fun q _ => by
              by_cases e : q = b
              · exact .inr (fun e' => t1.ne (e ▸ e'))
              · exact .inl (Below.heap_setCell _ _ _ _ e)))
        clear hl h0 t1
        go_wp2_with fail
        go_ret
        exact HD.out
end Go.Proofs.Ytdknacbdkekfnaa.Ce
