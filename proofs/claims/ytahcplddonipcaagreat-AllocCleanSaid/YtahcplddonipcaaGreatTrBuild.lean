/-
  Package tree (chapter 21): Build.
-/
import Derived.Test.YtahcplddonipcaaGreatTrChoose
import Derived.Deep.RegionHeld3
set_option maxRecDepth 100000
namespace Go.Proofs.YtahcplddonipcaaGreat.Tr
set_option linter.unusedVariables false
set_option linter.unusedSimpArgs false
open Go.RowKit Lb Tp

theorem rep3 (a b c : Value) : ∀ (n i : Nat), i < n * 3 → (List.replicate n [a, b, c]).flatten[i]? = some (if i % 3 = 0 then a else if i % 3 = 1 then b else c)
  | 0, i, h => by omega
  | n + 1, 0, _ => rfl
  | n + 1, 1, _ => rfl
  | n + 1, 2, _ => rfl
  | n + 1, i + 3, h => by
    have := rep3 a b c n i (by omega)
    rw [List.replicate_succ, List.flatten_cons, show (i + 3) % 3 = i % 3 by omega, ← this]
    rfl
def tz : Array Value := (List.replicate 16 [Value.bool false, .int .i64 0, .slice none 0 0]).flatten.toArray
theorem tz_built : Tryz.prog.built 73 [] = some tz := by kernel_rfl
theorem tz_tree (w : World) : Tb (w.alloc (.cells tz 73)) w.heap.size (fun _ => none) (fun _ => .slice none 0 0) := Blk.of (Own.new w 73 tz) (by decide) (fun i hi => by
  unfold tz tv
  rw [List.getElem?_toArray, rep3 _ _ _ 16 i (by omega)]
  rfl)
/-- A node gets its rank. -/
theorem Tb.put {w : World} {t b r : Nat} {R : Rk} {P : Nat → Value} (h : Tb w t R P) : Tb ((w.setCell ⟨t, b * 3, none⟩ (.bool true)).setCell ⟨t, b * 3 + 1, none⟩ (.int .i64 ((r : Int) + 1))) t (fun j => if j = b then some (r + 1) else R j) P := by
  unfold Tb at h ⊢
  refine ((Blk.put h (b * 3) (.bool true)).put (b * 3 + 1) (.int .i64 ((r : Int) + 1))).ext (fun i hi => ?_)
  unfold tv
  dsimp only
  by_cases h1 : i = b * 3 + 1
  · subst h1
    rw [if_pos rfl, if_neg (by omega), if_pos (by omega), show (b * 3 + 1) / 3 = b by omega]
    unfold rkI
    dsimp only
    rw [if_pos rfl]
    rfl
  · rw [if_neg h1]
    by_cases h2 : i = b * 3
    · subst h2
      rw [if_pos rfl, if_pos (by omega), show b * 3 / 3 = b by omega, if_pos rfl]
      rfl
    · rw [if_neg h2]
      by_cases h3 : i / 3 = b
      · have e1 : ¬ i % 3 = 0 := by omega
        have e2 : ¬ i % 3 = 1 := by omega
        rw [if_neg e1, if_neg e2, if_neg e1, if_neg e2]
      · unfold rkI
        dsimp only
        rw [if_neg h3]
theorem Tb.putP {w : World} {t b : Nat} {R : Rk} {P : Nat → Value} (h : Tb w t R P) (v : Value) : Tb (w.setCell ⟨t, b * 3 + 2, none⟩ v) t R (fun j => if j = b then v else P j) := by
  unfold Tb at h ⊢
  refine (Blk.put h (b * 3 + 2) v).ext (fun i hi => ?_)
  unfold tv
  dsimp only
  by_cases h1 : i = b * 3 + 2
  · subst h1
    rw [if_pos rfl, if_neg (by omega), if_neg (by omega), show (b * 3 + 2) / 3 = b by omega, if_pos rfl]
  · rw [if_neg h1]
    by_cases h2 : i % 3 = 0
    · rw [if_pos h2, if_pos h2]
    · rw [if_neg h2, if_neg h2]
      by_cases h3 : i % 3 = 1
      · rw [if_pos h3, if_pos h3]
      · rw [if_neg h3, if_neg h3, if_neg (by omega)]
/-- Ranks are small. -/
def Small (R : Rk) : Prop := ∀ x s, R x = some s → s + left R ≤ 15
theorem small_start : Small R0 := fun x s h => by
  have e : left R0 = 15 := by decide
  unfold R0 at h
  split at h
  · injection h with h
    omega
  · cases h
theorem small_visit {r : Nat} {s : Rk × List Nat} {b : Nat} (hb : b < 16) (h : Small s.1) (hr : r + left s.1 ≤ 15) : Small (visit r s b).1 ∧ r + left (visit r s b).1 ≤ 15 := by
  obtain ⟨R, f⟩ := s
  have hl := left_visit r (R, f) b hb
  dsimp only at *
  cases hR : R b with
  | some q =>
    rw [visit_some hR]
    exact ⟨h, hr⟩
  | none =>
    rw [visit_none hR] at hl ⊢
    dsimp only at *
    rw [List.length_append, List.length_singleton] at hl
    refine ⟨fun x t hx => ?_, by omega⟩
    dsimp only at hx
    by_cases hxb : x = b
    · rw [if_pos hxb] at hx
      injection hx with hx
      omega
    · rw [if_neg hxb] at hx
      have := h x t hx
      omega
theorem small_visits {r : Nat} : ∀ (l : List Nat) (s : Rk × List Nat), (∀ b ∈ l, b < 16) → Small s.1 → r + left s.1 ≤ 15 → Small (visits r s l).1 ∧ r + left (visits r s l).1 ≤ 15
  | [], _, _, h, hr => ⟨h, hr⟩
  | b :: l, s, hb, h, hr => by
    have := small_visit (hb b (by simp)) h hr
    exact small_visits l (visit r s b) (fun x hx => hb x (by simp [hx])) this.1 this.2
theorem visits_keep {r : Nat} {R : Rk} {f l : List Nat} {x s : Nat} (h : R x = some s) : (visits r (R, f) l).1 x = some s := by
  obtain ⟨_, _, _, h3⟩ := visits_is r l R f
  rw [h3, h]
  rfl
def lenV : Value → Nat
  | .slice _ n _ => n
  | _ => 0
def isF : Option Value → Bool
  | some (.bool false) => true
  | _ => false
/-- How much is left to do. -/
def muW (t : Nat) (v : Value) (w : World) : Nat := lenV v + (List.range 16).countP fun i => isF (w.cell? ⟨t, i * 3, none⟩)
theorem muW_is {w : World} {t base g : Nat} {R : Rk} {P : Nat → Value} {v : Value} {f : List Nat} (h : Tb w t R P) (hf : Fq w base g v f) : muW t v w = f.length + left R := by
  unfold muW left
  have e : lenV v = f.length := by
    obtain ⟨_, _, _, rfl, _⟩ := hf
    rfl
  rw [e]
  congr 1
  refine List.countP_congr (fun i hi => ?_)
  rw [h.has (List.mem_range.1 hi)]
  cases R i <;> simp [isF]
/-- The parents of all. -/
def parT (N : Nat) (Q : Nat → Nat → Int) (least : Int) (R : Rk) (n : Nat) : List Nat := if (R n).isSome then par N Q least R n else []
def parK (N : Nat) (Q : Nat → Nat → Int) (least : Int) (R : Rk) (k n : Nat) : List Nat := if n < k then parT N Q least R n else []
theorem row_just {w w' : World} {A : Option Addr} {n b : Nat} {V : Nat → Value} (h : Row w A n V) (hb : 0 < n → ∀ q, A.map Addr.block = some q → q ≠ b) (j : Just b w w') : Row w' A n V := by
  intro hn
  obtain ⟨q, off, e1, e2, e3⟩ := h hn
  have hq := hb hn q (by rw [e1]; rfl)
  refine ⟨q, off, e1, Nat.lt_of_lt_of_le e2 j.size, fun i hi => ?_⟩
  have := j.block q e2 hq
  have h6 := e3 i hi
  unfold World.cell? at h6 ⊢
  rw [← h6, this]
theorem row_lt {w : World} {A : Option Addr} {n : Nat} {V : Nat → Value} (h : Row w A n V) : 0 < n → ∀ q, A.map Addr.block = some q → q < w.heap.size := by
  intro hn q hq
  obtain ⟨b, off, e1, e2, _⟩ := h hn
  rw [e1] at hq
  have : b = q := by simpa using hq
  omega
theorem parK_next (N : Nat) (Q : Nat → Nat → Int) (least : Int) (R : Rk) (k x : Nat) : parK N Q least R (k + 1) x = if x = k then parT N Q least R k else parK N Q least R k x := by
  unfold parK
  by_cases h : x = k
  · subst h
    rw [if_pos rfl, if_pos (by omega)]
  · rw [if_neg h]
    by_cases h2 : x < k
    · rw [if_pos h2, if_pos (by omega)]
    · rw [if_neg h2, if_neg (by omega)]
theorem rkI_le {R : Rk} (h : ∀ x s, R x = some s → s ≤ 15) (x : Nat) : rkI R x ≤ 1000 := by
  unfold rkI
  cases hx : R x with
  | none => simp
  | some s => have := h x s hx; simp; omega
theorem keep_cell {W W' : World} {p : Addr} {v : Value} (hb : RowKit.Below W.heap.size W W') (h : W.cell? p = some v) : W'.cell? p = some v := (hb.cell (lt_of_cell h)).trans h
/-- append, as its run equation says. -/
theorem wp_append_run {P : Program} {w w' : World} {ops : Array Oper} {rest : List Oper} {o : Oper} {a : Act} {Q : Exit → Act → World → Prop} (hgd : o.guard = none) (s x : Operand) (t : TypeId)
    (ho : o.op = .call { callee := .builtin .append, args := #[s, x], argTypes := #[t, t] }) {v u v' : Value} (hs : a.eval s = v) (hx : a.eval x = u)
    (hrun : (Builtin.append_ #[t, t] o.type #[v, u]).run P w = .ok v' w') (h : wpList P ops Q rest (a.put o.dst v') w') : wpList P ops Q (o :: rest) a w := by
  refine wpList_plain hgd fun K hK => ?_
  have hK' := hK _ _ h
  unfold Oper.wp
  simp only [execOp, ho, resolve, invoke, builtin, Sem.run_bind, Sem.run_pure, Result.andThen_ok, List.map_toArray, List.map_cons, List.map_nil, hs, hx, hrun]
  exact hK'
set_option maxHeartbeats 8000000 in
theorem build_any (g N : Nat) (Q : Nat → Nat → Int) (least : Int) (w : World) (hF : Fine N Q) (hg : Gr w g 101 N Q) :
    Calls Tryz.prog 8 #[.pointer (some ⟨g, 0, none⟩), .int .i64 least] w fun r w' => ∃ t R, r = .returned (.pointer (some ⟨t, 0, none⟩)) ∧ w.heap.size ≤ t ∧ Tre w' t R (parT N Q least R) ∧ Fin_ N Q least R ∧ (∀ x s, R x = some s → s ≤ 15) ∧ RowKit.Below w.heap.size w w' := by
  obtain ⟨hN1, hN, _⟩ := hF
  have HTZ := Lib.hid tz_built
  have hT0 := tz_tree w
  have b0 := (Below.refl w.heap.size w).alloc (Nat.le_refl _) (.cells tz 73)
  obtain ⟨t, ht⟩ : ∃ q, w.heap.size = q := ⟨_, rfl⟩
  have hsz : (w.alloc (.cells tz 73)).heap.size = t + 1 := by rw [← ht]; simp
  rw [ht] at hT0 b0
  have hgt : g < t := ht ▸ hg.lt
  have HW := Lib.hid ht
  have HG := Lib.hid hg
  clear hg
  go_enter Tryz.func8, Tryz.ntmps8
  go_upto_region 4 with (refine wpList_built tz rfl rfl HTZ.out ?_)
  clear ht HTZ
  generalize w.alloc (.cells tz 73) = w0 at *
  have k0 : w0.cell? ⟨t, 0, none⟩ = some (.bool false) := hT0.has (x := 0) (by decide)
  have k1 : w0.frozen? ⟨t, 0, none⟩ = false := Blk.free hT0 0
  go_upto_region 5 with (fail)
  have hT1 : Tb (w0.setCell ⟨t, 0, none⟩ (.bool true)) t R0 (fun _ => .slice none 0 0) := by
    unfold Tb at hT0 ⊢
    refine (Blk.put hT0 0 (.bool true)).ext (fun i hi => ?_)
    unfold tv rkI R0
    dsimp only
    by_cases h1 : i = 0
    · subst h1; rfl
    · rw [if_neg h1]
      by_cases h2 : i / 3 = 0
      · have e1 : ¬ i % 3 = 0 := by omega
        rw [if_neg e1, if_neg e1, if_pos h2]
        rfl
      · rw [if_neg h2]
  have b1 := (Just.set t w0 0 (.bool true)).below b0 (Nat.le_refl _) (Nat.le_trans (Nat.le_of_lt (Nat.lt_succ_self t)) (Nat.le_of_eq hsz.symm))
  have hs1 : (w0.setCell ⟨t, 0, none⟩ (.bool true)).heap.size = t + 1 := by rw [← hsz]; simp
  clear k0 k1 hT0 b0 hsz
  generalize w0.setCell ⟨t, 0, none⟩ (.bool true) = w1 at *
  clear w0
  have hq2 : Fq (w1.alloc (.cells #[.int .i64 0] 3)) (t + 1) (t + 1) (.slice (some ⟨t + 1, 0, none⟩) 1 1) [0] := by
    have := Own.new w1 3 #[.int .i64 0]
    rw [hs1] at this
    exact ⟨0, 1, _, rfl, Nat.le_refl _, this, by simp, Nat.le_refl _, by unfold maxLen; omega, fun i hi => by
      obtain rfl : i = 0 := by simpa using hi
      rfl⟩
  have hT2 : Tb (w1.alloc (.cells #[.int .i64 0] 3)) t R0 (fun _ => .slice none 0 0) := Blk.alloc hT1 _
  have b2 := b1.alloc (by omega) (.cells #[.int .i64 0] 3)
  go_wp2_with fail
  generalize w1.alloc (.cells #[.int .i64 0] 3) = w2 at *
  clear hT1 b1 hs1
  clear w1
  have HI : Hid (Inv N Q least R0 [0] ∧ Small R0 ∧ [0].length + left R0 ≤ 16) := Lib.hid ⟨inv_start hN1 Q least, small_start, by decide⟩
  go_loopw [6] (fun v wr => ∃ (R : Rk) (f : List Nat) (gq : Nat), Fq wr (t + 1) gq v f ∧ Tb wr t R (fun _ => .slice none 0 0) ∧ RowKit.Below t w wr ∧ Hid (Inv N Q least R f ∧ Small R ∧ f.length + left R ≤ 16)) (fun v wr => muW t v wr)
  case atStart => exact ⟨R0, [0], t + 1, hq2, hT2, b2, HI⟩
  case round =>
    clear hq2 hT2 b2 HI
    obtain ⟨R, f, gq, hq, hT, bb, HI⟩ := hrel
    have hmu := muW_is hT hq
    have HMU := Lib.hid hmu
    clear hmu
    rcases f with _ | ⟨a, f⟩
    · have HQ := Lib.hid hq
      obtain ⟨off, cap, cs, hv, _⟩ := hq
      rw [hv, List.length_nil]
      -- <E
      have hfin := inv_end HI.out.1
      have hsm : ∀ x s, R x = some s → s ≤ 15 := fun x s h => by have := HI.out.2.1 x s h; omega
      have HFIN := Lib.hid (And.intro hfin hsm)
      have hT0 : Tb wr t R (fun x => .slice none (parK N Q least R 0 x).length 0) := hT
      have hR0 : Hid (∀ x, x < 16 → Rl wr (t + 1) none 0 (parK N Q least R 0 x)) := Lib.hid (fun x _ => Rl.nil wr (t + 1))
      clear HI HMU HQ hv hfin hsm hT
      go_wp2_with fail
      go_loopw [68] (fun i wz => ∃ (k : Nat) (A : Nat → Option Addr) (K : Nat → Nat), i = .int .i64 k ∧ k ≤ 16 ∧ Tb wz t R (fun x => .slice (A x) (parK N Q least R k x).length (K x)) ∧ Hid (∀ x, x < 16 → Rl wz (t + 1) (A x) (K x) (parK N Q least R k x)) ∧ RowKit.Below t w wz) (fun i _ => 16 - (intOf i).toNat)
      case atStart => exact ⟨0, fun _ => none, fun _ => 0, rfl, by omega, hT0, hR0, bb⟩
      case round =>
        clear hT0 hR0 bb
        obtain ⟨k, A, K, rfl, hk, hT, HR, bb⟩ := hrel
        by_cases hlt : k < 16
        · have g1 : (k : Int) < 16 := by omega
          have PH := has_any t R _ (k : Int) wr hT
          rw [hasT_nat R hlt] at PH
          cases hRk : R k with
          | none =>
            rw [hRk, Option.isSome_none] at PH
            have HP : Hid (∀ x, parK N Q least R (k + 1) x = parK N Q least R k x) := Lib.hid (fun x => by
              rw [parK_next]
              by_cases h : x = k
              · subst h
                rw [if_pos rfl]
                unfold parT parK
                rw [hRk, if_neg (by decide), if_neg (by omega)]
              · rw [if_neg h])
            have hT2 : Tb wr t R (fun x => .slice (A x) (parK N Q least R (k + 1) x).length (K x)) := by
              simp only [HP.out]
              exact hT
            have HR2 : Hid (∀ x, x < 16 → Rl wr (t + 1) (A x) (K x) (parK N Q least R (k + 1) x)) := Lib.hid (fun x hx => by rw [HP.out]; exact HR.out x hx)
            clear hRk hT
            go_wp2_with (go_at_call 28; refine PH.mono ?_; rintro q5 w5 ⟨rfl, rfl⟩)
            exact ⟨⟨k + 1, A, K, by simp [intOf], by omega, hT2, HR2, bb⟩, by simp [intOf]; omega⟩
          | some r =>
            rw [hRk, Option.isSome_some] at PH
            have hgr : Gr wr.drew g 101 N Q := Blk.drewN (below_blk bb HG.out hgt) 1
            have hTd : Tb wr.drew t R (fun x => .slice (A x) (parK N Q least R k x).length (K x)) := Blk.drewN hT 1
            have PC := choose_any t g N Q R _ k least wr.drew hN hlt (rkI_le HFIN.out.2) hTd hgr
            have hpe : par N Q least R k = parT N Q least R k := by unfold parT; rw [hRk]; rfl
            rw [hpe] at PC
            have c0 := hTd.has hlt
            rw [hRk, Option.isSome_some] at c0
            have hlw := Blk.lt hTd
            have bd : RowKit.Below t w wr.drew := below_drewN bb 1
            obtain ⟨pl, hpl⟩ : ∃ pl, parT N Q least R k = pl := ⟨_, rfl⟩
            rw [hpl] at PC
            have HP : Hid (∀ x, parK N Q least R (k + 1) x = if x = k then pl else parK N Q least R k x) := Lib.hid (fun x => by rw [parK_next, hpl])
            have s0 : (fun w' : World => w'.cell? ⟨t, k * 3, none⟩ = some (.bool true)) wr.drew := c0
            have HTd := Lib.hid hTd
            have HPC := Lib.hid PC
            clear hRk hpe hpl hgr PC hT hTd c0
            go_wp2_with (go_at_call 28; refine PH.mono ?_; rintro q5 w5 ⟨rfl, rfl⟩)
            go_region_held3 (fun w' : World => w'.cell? ⟨t, k * 3, none⟩ = some (.bool true)) (with_reducible first | exact s0 | exact s1 | exact s2) ((go_at_call 29; refine HPC.out.mono ?_; rintro q5 w5 ⟨A5, c5, rfl, hr5, b5⟩; have hT5 : Tb w5 t R _ := below_blk b5 HTd.out hlw; have s1 : (fun w' : World => w'.cell? ⟨t, k * 3, none⟩ = some (.bool true)) w5 := keep_cell b5 s0; have c5' := hT5.par hlt; have f5 := Blk.free hT5 (k * 3 + 2); have s2 : (fun w' : World => w'.cell? ⟨t, k * 3, none⟩ = some (.bool true)) (w5.setCell ⟨t, k * 3 + 2, none⟩ (.slice A5 pl.length c5)) := by (have hq := (hT5.putP (b := k) (.slice A5 pl.length c5)).has hlt; have hz := hT5.has hlt; exact hq.trans (hz.symm.trans s1))))
            all_goals
              have b6 := bd.trans (b5.mono (Nat.le_of_lt hlw))
              have hT6 := hT5.putP (b := k) (.slice A5 pl.length c5)
              have j6 := Just.set t w5 (k * 3 + 2) (.slice A5 pl.length c5)
              have b7 := j6.below b6 (Nat.le_refl t) (Nat.le_of_lt (Blk.lt hT5))
              have hT7 : Tb (w5.setCell ⟨t, k * 3 + 2, none⟩ (.slice A5 pl.length c5)) t R (fun x => .slice (if x = k then A5 else A x) (parK N Q least R (k + 1) x).length (if x = k then c5 else K x)) := by
                refine Blk.ext hT6 (fun i hi => ?_)
                unfold tv
                by_cases h1 : i % 3 = 0
                · rw [if_pos h1, if_pos h1]
                · rw [if_neg h1, if_neg h1]
                  by_cases h2 : i % 3 = 1
                  · rw [if_pos h2, if_pos h2]
                  · rw [if_neg h2, if_neg h2]
                    dsimp only
                    rw [HP.out]
                    by_cases h3 : i / 3 = k
                    · simp only [if_pos h3]
                    · simp only [if_neg h3]
              have HR7 : Hid (∀ x, x < 16 → Rl (w5.setCell ⟨t, k * 3 + 2, none⟩ (.slice A5 pl.length c5)) (t + 1) (if x = k then A5 else A x) (if x = k then c5 else K x) (parK N Q least R (k + 1) x)) := Lib.hid (fun x hx => by
                rw [HP.out]
                by_cases h3 : x = k
                · simp only [if_pos h3]
                  exact (hr5.mono hlw).just j6 (by omega)
                · simp only [if_neg h3]
                  have hold : Rl wr.drew (t + 1) (A x) (K x) (parK N Q least R k x) := by
                    have := HR.out x hx
                    exact ⟨this.le, this.cap, this.row, this.lo⟩
                  exact (hold.below b5).just j6 (by omega))
              clear hT5 hT6 j6 hr5 b5 s1 s2 c5' f5 b6
              go_wp2_with fail
              exact ⟨⟨k + 1, _, _, by simp [intOf], by omega, hT7, HR7, b7⟩, by simp [intOf]; omega⟩
        · obtain rfl : k = 16 := by omega
          have hpk : ∀ x, parK N Q least R 16 x = parT N Q least R x := fun x => by
            unfold parK
            by_cases h : x < 16
            · rw [if_pos h]
            · rw [if_neg h]
              unfold parT
              cases hx : R x with
              | none => rfl
              | some s => have := HFIN.out.1.inN x s hx; omega
          have hT7 : Tb wr t R (fun x => .slice (A x) (parT N Q least R x).length (K x)) := by
            have := hT
            simp only [hpk] at this
            exact this
          have HP := Lib.hid hpk
          clear hpk hT
          go_wp2_with fail
          go_ret
          refine ⟨t, R, rfl, by rw [HW.out]; exact Nat.le_refl _, ⟨A, K, hT7, fun x hx => by rw [← HP.out]; exact HR.out x hx⟩, HFIN.out.1, HFIN.out.2, by rw [HW.out]; exact bb⟩
      -- E>
    · obtain ⟨off, cap, hv, hc0, hl63⟩ := hq.head
      obtain ⟨v2, hcut, hq2⟩ := hq.cut
      obtain ⟨r, hr⟩ := HI.out.1.known a (by simp)
      have haN := HI.out.1.inN a r hr
      have hsm := HI.out.2.1 a r hr
      rw [hv] at hcut ⊢
      obtain ⟨m, hm⟩ : ∃ m, f.length = m := ⟨_, rfl⟩
      rw [hm] at hl63 hcut ⊢
      have HM := Lib.hid hm
      have g1 : (0 : Int) < (m : Int) + 1 := by omega
      have g2 : ((m + 1 : Nat) : Int) = (m : Int) + 1 := by omega
      have hgr := HG.out
      have hgr2 := below_blk bb hgr hgt
      have HR := Lib.hid hr
      have HV := Lib.hid hv
      clear hm hr hgr hq hv
      -- <B
      have hgql := hq2.lt
      have PN := near_any g 101 N Q a least wr hgr2 hN
      have hT0 := hT
      go_wp2_with (go_at_call 27; refine PN.mono ?_; rintro r5 w5 ⟨vn, rfl, hvn, b5⟩; obtain ⟨A, cN, rfl, hl⟩ := Rl.of hvn)
      have hq3 := hq2.below b5 hgql.2
      have hT3 : Tb w5 t R (fun _ => .slice none 0 0) := below_blk b5 hT0 hT0.lt
      have bb3 := bb.trans (b5.mono (Nat.le_of_lt (Blk.lt hT0)))
      have hrow := hl.row
      have hlo := hl.lo
      have hcN := hl.cap
      have hlN := hl.le
      have hlt0 := Blk.lt hT0
      have hnl : ∀ k, k < (near N Q a least).length → (near N Q a least).getD k 0 < N := fun k hk => near_lt hk
      have HNL := Lib.hid hnl
      obtain ⟨L, hL⟩ : ∃ L, (near N Q a least).length = L := ⟨_, rfl⟩
      have HL := Lib.hid hL
      rw [hL] at hrow hlo hlN ⊢
      have HA : Hid (0 < L → ∀ q, A.map Addr.block = some q → t < q ∧ q ≠ gq) := Lib.hid (fun h0 q hq => by
        have := hlo h0 q hq
        omega)
      unfold maxLen at hcN
      have hL63 : (L : Int) ≤ 9223372036854775807 := by omega
      clear hvn hl hnl hL hlo PN hq2 hT hT0 hgr2 bb b5 hcut hc0
      go_loopw [35, 6] (fun i v wz => ∃ (k gz : Nat), i = .int .i64 k ∧ k ≤ L ∧ Fq wz (t + 1) gz v (visits r (R, f) ((near N Q a least).take k)).2 ∧ Tb wz t (visits r (R, f) ((near N Q a least).take k)).1 (fun _ => .slice none 0 0) ∧ RowKit.Below t w wz ∧ Row wz A L (ln (near N Q a least)) ∧ Hid (0 < L → ∀ q, A.map Addr.block = some q → t < q ∧ q ≠ gz)) (fun i _ _ => L - (intOf i).toNat)
      case atStart => exact ⟨0, gq, rfl, by omega, hq3, hT3, bb3, hrow, HA⟩
      case round =>
        clear hq3 hT3 bb3 hrow HA
        obtain ⟨k, gz, rfl, hk, hq, hT, bb, hrow, HA⟩ := hrel
        by_cases hlt : k < L
        · skip
          -- <C
          have hk2 : k < (near N Q a least).length := by rw [HL.out]; exact hlt
          have hrow' : Row wr A (near N Q a least).length (ln (near N Q a least)) := by rw [HL.out]; exact hrow
          obtain ⟨bo, off, hAe, hbo, d0⟩ := row_ln hrow' (Below.refl _ _) hk2
          have hbN := HNL.out k hk2
          have htk : (near N Q a least).take (k + 1) = (near N Q a least).take k ++ [(near N Q a least).getD k 0] := by
            rw [List.take_add_one, List.getD_eq_getElem?_getD, List.getElem?_eq_getElem hk2]
            rfl
          have hsm2 := small_visits (r := r) ((near N Q a least).take k) (R, f) (fun x hx => by
            have := (mem_near.1 (List.mem_of_mem_take hx)).1
            omega) HI.out.2.1 hsm
          have hlv := left_visits r ((near N Q a least).take k) (R, f) (fun x hx => by
            have := (mem_near.1 (List.mem_of_mem_take hx)).1
            omega)
          have hRa : (visits r (R, f) ((near N Q a least).take k)).1 a = some r := visits_keep HR.out
          have hvs := visits_snoc r (R, f) ((near N Q a least).take k) ((near N Q a least).getD k 0)
          rw [← htk] at hvs
          obtain ⟨b, hb⟩ : ∃ b, (near N Q a least).getD k 0 = b := ⟨_, rfl⟩
          rw [hb] at d0 hbN hvs
          obtain ⟨s, hs⟩ : ∃ s, visits r (R, f) ((near N Q a least).take k) = s := ⟨_, rfl⟩
          rw [hs] at hq hT hsm2 hlv hRa hvs
          obtain ⟨R1, f1⟩ := s
          dsimp only at hq hT hsm2 hlv hRa
          have hlen1 : f1.length ≤ 1000 := by have := HI.out.2.2; rw [List.length_cons] at this; omega
          have HVS := Lib.hid hvs
          have hb16 : b < 16 := by omega
          have ha16 : a < 16 := by omega
          have c1 := hT.has hb16
          have c2 := hT.rank ha16
          have hrk : rkI R1 a = (r : Int) := by unfold rkI; rw [hRa]; rfl
          rw [hrk] at c2
          have g3 : (b : Int) < 16 := by omega
          have g4 : (a : Int) < 16 := by omega
          have hr15 : r ≤ 15 := by omega
          have e1 : IntKind.i64.wrap ((r : Int) + 1) = (r : Int) + 1 := IntWalk.i64_in _ (by omega)
          subst hAe
          clear hk2 hrow' htk hb hs hvs hrk hsm2 hlv hRa hbN
          cases hRb : R1 b with
          | some q =>
            rw [hRb] at c1
            rw [Option.isSome_some] at c1
            have hv2 : Hid (visits r (R, f) ((near N Q a least).take (k + 1)) = (R1, f1)) := Lib.hid (by rw [HVS.out, visit_some hRb])
            clear hRb
            go_wp2_with fail
            exact ⟨⟨k + 1, gz, by simp [intOf], by omega, by rw [hv2.out]; exact hq, by rw [hv2.out]; exact hT, bb, hrow, HA⟩, by simp [intOf]; omega⟩
          | none =>
            rw [hRb] at c1
            rw [Option.isSome_none] at c1
            have hv2 : Hid (visits r (R, f) ((near N Q a least).take (k + 1)) = (fun j => if j = b then some (r + 1) else R1 j, f1 ++ [b])) := Lib.hid (by rw [HVS.out, visit_none hRb])
            have f3 : wr.frozen? ⟨t, b * 3, none⟩ = false := Blk.free hT _
            have f4 : wr.frozen? ⟨t, b * 3 + 1, none⟩ = false := Blk.free hT _
            have c3 := hT.rank hb16
            have hq6 := (hq.just (Just.set t wr (b * 3) (.bool true)) (by have := hq.lt; omega)).just (Just.set t _ (b * 3 + 1) (.int .i64 ((r : Int) + 1))) (by have := hq.lt; omega)
            have hT6 := hT.put (b := b) (r := r)
            have j6 := (Just.set t wr (b * 3) (.bool true)).put (b * 3 + 1) (.int .i64 ((r : Int) + 1))
            have b6 := j6.below bb (Nat.le_refl t) (Nat.le_of_lt (Blk.lt hT))
            have hrow6 := row_just hrow (fun h0 q hq => by have := HA.out h0 q hq; omega) j6
            clear hRb
            go_upto_region 15 with (fail)
            generalize (wr.setCell ⟨t, b * 3, none⟩ (.bool true)).setCell ⟨t, b * 3 + 1, none⟩ (.int .i64 ((r : Int) + 1)) = w6 at *
            clear c1 c2 c3 f3 f4 hq hT bb hrow d0 j6 hbo
            clear wr
            have bn := (Below.refl w6.heap.size w6).alloc (Nat.le_refl _) (.cells #[.int .i64 (b : Int)] 3)
            have hq7 := hq6.below bn hq6.lt.2
            have hT7 : Tb (w6.alloc (.cells #[.int .i64 (b : Int)] 3)) t _ _ := below_blk bn hT6 (Blk.lt hT6)
            have hrow7 := hrow6.below bn
            have b7 := b6.alloc (Nat.le_of_lt (Blk.lt hT6)) (.cells #[.int .i64 (b : Int)] 3)
            obtain ⟨v8, g8, w8, hrun, hq8, hg8, j8⟩ := hq7.app b (Own.new w6 3 #[.int .i64 (b : Int)]) hlen1 (by have := hq7.lt; omega)
            have hlt7 := hq7.lt
            have hrl := row_lt hrow7
            have hT8 : Tb w8 t _ _ := j8.blk hT7 (by omega)
            have b8 := j8.below b7 (by omega) (Nat.le_of_lt (Blk.lt hT7))
            have hrow8 := row_just hrow7 (fun h0 q hq => by have := HA.out h0 q hq; omega) j8
            have HA8 : Hid (0 < L → ∀ q, (some (⟨bo, off, none⟩ : Addr)).map Addr.block = some q → t < q ∧ q ≠ g8) := Lib.hid (fun h0 q hq => by
              have h1 := HA.out h0 q hq
              have h2 := hrl h0 q hq
              rcases hg8 with h | h <;> omega)
            clear hq6 hT6 hrow6 b6 bn hq7 hT7 hrow7 b7 hlt7 hrl j8 hg8
            have HRUN := Lib.hid hrun
            clear hrun
            go_wp2_with (at_builtin; go_must (refine wp_append_run rfl (.tmp 63) (.tmp 65) _ rfl rfl rfl HRUN.out ?_))
            exact ⟨⟨k + 1, g8, by simp [intOf], by omega, by rw [hv2.out]; exact hq8, by rw [hv2.out]; exact hT8, b8, hrow8, HA8⟩, by simp [intOf]; omega⟩
          -- C>
        · skip
          -- <D
          obtain rfl : k = L := by omega
          have g5 : decide ((k : Int) < (k : Int)) = false := by simp
          have htk : (near N Q a least).take k = near N Q a least := by rw [← HL.out, List.take_length]
          rw [htk] at hq hT
          have hx := HI.out
          have hsm2 := small_visits (r := r) (near N Q a least) (R, f) (fun x hx => by
            have := (mem_near.1 hx).1
            omega) hx.2.1 hsm
          have hlv := left_visits r (near N Q a least) (R, f) (fun x hx => by
            have := (mem_near.1 hx).1
            omega)
          have hmu2 := muW_is hT hq
          have HI2 : Hid (Inv N Q least (visits r (R, f) (near N Q a least)).1 (visits r (R, f) (near N Q a least)).2 ∧ Small (visits r (R, f) (near N Q a least)).1 ∧ (visits r (R, f) (near N Q a least)).2.length + left (visits r (R, f) (near N Q a least)).1 ≤ 16) := Lib.hid ⟨inv_step hx.1 HR.out, hsm2.1, by
            have := hx.2.2
            rw [List.length_cons] at this
            dsimp only at hlv
            omega⟩
          have HLV : Hid ((visits r (R, f) (near N Q a least)).2.length + left (visits r (R, f) (near N Q a least)).1 < (a :: f).length + left R) := Lib.hid (by
            rw [List.length_cons]
            dsimp only at hlv
            omega)
          have HMU2 := Lib.hid hmu2
          clear hx hsm2 hlv hmu2 htk
          go_wp2_with fail
          exact ⟨⟨_, _, gz, hq, hT, bb, HI2⟩, by rw [HMU2.out]; refine Nat.lt_of_lt_of_le HLV.out (Nat.le_of_eq ?_); rw [← HMU.out, HV.out, HM.out]⟩
          -- D>
      -- B>
end Go.Proofs.YtahcplddonipcaaGreat.Tr
