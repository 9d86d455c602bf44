/-
  Both books side by side (chapter 23): the package's, and the reference's.
-/
import Derived.Test.YtdpkiolngglpaaaVeRBeg
import Derived.Test.YtdpkiolngglpaaaVeAwake
import Derived.Test.YtdpkiolngglpaaaCeSame
set_option maxRecDepth 100000
namespace Go.Proofs.Ytdpkiolngglpaaa.Ve
set_option linter.unusedVariables false
set_option linter.unusedSimpArgs false
open Go.RowKit Lb Cl Ce Mi Al

/-- A block in which no five numbers stand in a row. -/
def No5 (w : World) (r : Nat) : Prop := ∀ off, ∃ j, j < 5 ∧ ∀ z, w.cell? ⟨r, off + j, none⟩ ≠ some (.int .i64 z)
theorem no5_of {w : World} {r : Nat} {t : TypeId} {n : Nat} {V : Nat → Value} (h : Blk w r t n V) (hV : ∀ off, ∃ j, j < 5 ∧ (off + j < n → ∀ z, V (off + j) ≠ .int .i64 z)) : No5 w r := by
  intro off
  obtain ⟨j, hj, hv⟩ := hV off
  refine ⟨j, hj, fun z e => ?_⟩
  by_cases hi : off + j < n
  · rw [h.cell hi] at e
    injection e with e
    exact hv hi z e
  · have := Own.cell h (off + j)
    rw [this, Array.getElem?_eq_none (by simpa using hi)] at e
    cases e
theorem row5_apart {w w' : World} {r : Nat} {a : Option Addr} {l : List C} (h : Row w a (l.length * 5) (lv l)) (hr : No5 w r) (j : Just r w w') : Row w' a (l.length * 5) (lv l) := by
  intro hn
  obtain ⟨q, off, e1, e2, e3⟩ := h hn
  have hq : q ≠ r := fun e => by
    subst e
    obtain ⟨k, hk, hz⟩ := hr off
    have := e3 k (by omega)
    obtain ⟨z, hz2⟩ := lv_int l k
    rw [hz2] at this
    exact hz z this
  refine ⟨q, off, e1, Nat.lt_of_lt_of_le e2 j.size, fun i hi => ?_⟩
  have := j.block q e2 hq
  have h6 := e3 i hi
  unfold World.cell? at h6 ⊢
  rw [← h6, this]
theorem rv5_apart {w w' : World} {lo r : Nat} {v : Value} {l : List C} (h : Rv w lo v l) (hr : No5 w r) (j : Just r w w') : Rv w' lo v l := by
  obtain ⟨a, c, h1, h2, h3, h4, h5⟩ := h
  exact ⟨a, c, h1, h2, h3, row5_apart h4 hr j, h5⟩
theorem not_map {w : World} {r bm : Nat} {t : TypeId} {n : Nat} {V : Nat → Value} {es : Array MapEntry} {c : Nat} (o : Blk w r t n V) (h : w.heap[bm]? = some (.map es c)) : bm ≠ r := fun e => by
  subst e
  have o' : w.heap[bm]? = some _ := o
  rw [h] at o'
  cases o'
theorem mapL5 {w w' : World} {lo bm r : Nat} {t : TypeId} {n : Nat} {V : Nat → Value} {L : List (Int × List C)} (h : MapL w lo bm L) (o : Blk w r t n V) (hr : No5 w r) (j : Just r w w') : MapL w' lo bm L := by
  obtain ⟨h0, vs, h1, h2⟩ := h
  exact ⟨h0, vs, (j.block bm (iter_lt h1) (not_map o h1)).trans h1, fun i hi => rv5_apart (h2 i hi) hr j⟩
theorem mo5 {w w' : World} {lo r : Nat} {m : Option Nat} {t : TypeId} {n : Nat} {V : Nat → Value} {L : List (Int × List C)} (h : Mo w lo m L) (o : Blk w r t n V) (hr : No5 w r) (j : Just r w w') : Mo w' lo m L := by
  rcases h with h | ⟨bm, e, h⟩
  · exact .inl h
  · exact .inr ⟨bm, e, mapL5 h o hr j⟩
theorem Bk.no5 {w : World} {b : Nat} {N v la : Int} {g : Bool} {R : Nat → Bool} {now next : Option Nat} {Ln Lx : List (Int × List C)} (h : Bk w b N v la g R now next Ln Lx) : No5 w b := no5_of h.blk (fun off => by
  refine ⟨3 - off, by omega, fun hi z => ?_⟩
  unfold bkV
  rw [if_neg (by omega), if_neg (by omega), if_neg (by omega)]
  split
  · intro e; cases e
  split
  · intro e; cases e
  split
  · intro e; cases e
  · intro e; cases e)
theorem RBk.no5 {w : World} {b : Nat} {N v bg la : Int} {P X : Nat → Value} {R : Nat → Bool} {Dn Dx : Nat → List C} (h : RBk w b N v bg la P X R Dn Dx) : No5 w b := no5_of h.blk (fun off => by
  refine ⟨4 - off, by omega, fun hi z => ?_⟩
  unfold rbV
  rw [if_neg (by omega), if_neg (by omega), if_neg (by omega), if_neg (by omega)]
  split
  · obtain ⟨a, c, e, _⟩ := h.now (off + (4 - off) - 4) (by omega)
    rw [e]
    intro e; cases e
  split
  · obtain ⟨a, c, e, _⟩ := h.next (off + (4 - off) - 20) (by omega)
    rw [e]
    intro e; cases e
  · intro e; cases e)
/-- What counts is the same: the map's rows, the array's. -/
structure Sm (n : Nat) (L : List (Int × List C)) (D : Nat → List C) : Prop where
  nd : (L.map (·.1)).Nodup
  ok : ∀ e ∈ L, hasB n e.1 = true ∧ e.2.length ≤ 64
  eq : ∀ k : Nat, lk L (k : Int) = D k
def bgI (g : Bool) (la : Int) : Int := if g then la else 0
structure Tw (W w : World) (b rb n : Nat) (v la : Int) (g : Bool) (R R' : Nat → Bool) (now next : Option Nat) (Ln Lx : List (Int × List C)) (P Q : Nat → Value) (D X : Nat → List C) : Prop where
  bk : Bk w b n v la g R now next Ln Lx
  rk : RBk w rb n v (bgI g la) la P Q R' D X
  ne : b < rb
  lb : W.heap.size ≤ b
  bel : Below W.heap.size W w
  la0 : 0 ≤ la
  lag : g = true → 0 < la
  n16 : n ≤ 16
  en : Sm n Ln D
  ex : g = true → Sm n Lx X
def Tws (W w : World) (b rb n : Nat) : Prop := ∃ v la g R now next Ln Lx P Q D X, Tw W w b rb n v la g R R now next Ln Lx P Q D X
section
variable {W w w' : World} {b rb n : Nat} {v la : Int} {g : Bool} {R R' : Nat → Bool} {now next : Option Nat} {Ln Lx : List (Int × List C)} {P Q : Nat → Value} {D X : Nat → List C}
theorem Tw.below (t : Tw W w b rb n v la g R R' now next Ln Lx P Q D X) (j : Below w.heap.size w w') : Tw W w' b rb n v la g R R' now next Ln Lx P Q D X :=
  ⟨t.bk.below j, t.rk.below j, t.ne, t.lb, t.bel.trans (j.mono t.bel.size), t.la0, t.lag, t.n16, t.en, t.ex⟩
theorem Bk.apart {r : Nat} {t : TypeId} {m : Nat} {V : Nat → Value} {N : Int} (h : Bk w b N v la g R now next Ln Lx) (o : Blk w r t m V) (hr : No5 w r) (hb : b ≠ r) (j : Just r w w') : Bk w' b N v la g R now next Ln Lx :=
  ⟨j.blk h.blk hb, mo5 h.now o hr j, mo5 h.next o hr j⟩
end
theorem lk_get : ∀ {L : List (Int × List C)} {k : Int} {j : Nat}, j < L.length → keyN L j = k → (∀ i, i < j → keyN L i ≠ k) → lk L k = rowN L j
  | [], _, _, h, _, _ => absurd h (by simp)
  | x :: L, k, 0, _, h1, _ => by
    have : x.1 = k := h1
    rw [lk, if_pos this]
    rfl
  | x :: L, k, j + 1, hj, h1, h2 => by
    have : ¬ x.1 = k := h2 0 (by omega)
    rw [lk, if_neg this]
    exact lk_get (L := L) (j := j) (by simpa using hj) h1 (fun i hi => h2 (i + 1) (by omega))
theorem look_none {w : World} {lo bm : Nat} {L : List (Int × List C)} {k : Int} (h : MapL w lo bm L) (hn : ∀ e ∈ L, e.1 ≠ k) : (Instr.lookup 32 (.map (some bm)) (.int .i64 k) false).run Try.prog w = .ok (.slice none 0 0) w := by
  obtain ⟨h0, vs, hb, hr⟩ := h
  have hf : Instr.findNow (.int .i64) (.int .i64 k) (ents L vs).toList 0 = some none := find_none k _ 0 (fun x hx => by
    obtain ⟨h1, h2⟩ := ents_mem hx
    refine ⟨_, by rw [h2], fun e => ?_⟩
    refine hn _ (List.getElem_mem h1) ?_
    rw [← keyN_get h1]
    exact e)
  have hc : ∀ e, (Instr.checkKey e 10000 3 (.int .i64 k)).run Try.prog w = .ok () w := fun e => MapKept.run_checkKey und_i (by simp [MapKept.IsKey]) e 9999
  have hz : (zeroValue 33).run Try.prog w = .ok (.slice none 0 0) w := by kernel_rfl
  simp [Instr.lookup, run_underlying und_m, MapKept.run_getObj_map hb, hc, MapKept.run_findKey und_i hf, hz, Result.andThen]
/-- Cells, of whatever node. -/
theorem cells_lk (b : Nat) (N v la : Int) (g : Bool) (R : Nat → Bool) (now next : Option Nat) (Ln Lx : List (Int × List C)) (k : Int) (w : World) (h : Bk w b N v la g R now next Ln Lx) (hl : ∀ e ∈ Ln, e.2.length ≤ 64) :
    Calls Try.prog 25 #[.pointer (some ⟨b, 0, none⟩), .int .i64 k] w fun r w' => ∃ a c, r = .returned (.slice a (lk Ln k).length c) ∧ (lk Ln k).length ≤ c ∧ c ≤ maxLen ∧ Row w' a ((lk Ln k).length * 5) (lv (lk Ln k)) ∧ Below w.heap.size w w' := by
  have c20 := h.cells.2.2.2.2.1
  obtain ⟨rv, hlook, lo, hrv⟩ : ∃ rv, (Instr.lookup 32 (.map now) (.int .i64 k) false).run Try.prog w = .ok rv w ∧ ∃ lo, Rv w lo rv (lk Ln k) := by
    rcases h.now with ⟨rfl, rfl⟩ | ⟨bm, rfl, hm⟩
    · exact ⟨_, look_nil k w, 0, none, 0, rfl, Nat.le_refl _, Nat.zero_le _, Row.nil _ _ _, fun h => absurd h (by simp [lk_nil])⟩
    · by_cases hex : ∃ e ∈ Ln, e.1 = k
      · have hex : ∃ j, j < Ln.length ∧ keyN Ln j = k := by
          obtain ⟨e, he, hk⟩ := hex
          obtain ⟨j, hj, rfl⟩ := List.mem_iff_getElem.1 he
          exact ⟨j, hj, by rw [keyN_get hj]; exact hk⟩
        have : ∃ j, (j < Ln.length ∧ keyN Ln j = k) ∧ ∀ i, i < j → ¬ (i < Ln.length ∧ keyN Ln i = k) := by
          obtain ⟨j, hj⟩ := hex
          induction j using Nat.strongRecOn with
          | _ j ih =>
            by_cases hm : ∃ i, i < j ∧ (i < Ln.length ∧ keyN Ln i = k)
            · obtain ⟨i, h1, h2⟩ := hm
              exact ih i h1 h2
            · exact ⟨j, hj, fun i hi h2 => hm ⟨i, hi, h2⟩⟩
        obtain ⟨j, ⟨hj, hk⟩, hmin⟩ := this
        have hno : ∀ i, i < j → keyN Ln i ≠ k := fun i hi e => hmin i hi ⟨by omega, e⟩
        obtain ⟨rv, h1, h2⟩ := look_at hm hj hk hno
        exact ⟨rv, h1, _, by rw [lk_get hj hk hno]; exact h2⟩
      · have hno : ∀ e ∈ Ln, e.1 ≠ k := fun e he q => hex ⟨e, he, q⟩
        refine ⟨_, look_none hm hno, 0, ?_⟩
        rw [lk_none hno]
        exact ⟨none, 0, rfl, Nat.le_refl _, Nat.zero_le _, Row.nil _ _ _, fun h => absurd h (by simp)⟩
  have hlen : (lk Ln k).length ≤ 64 := by
    by_cases hex : ∃ e ∈ Ln, e.1 = k
    · have : ∀ (L : List (Int × List C)), (∀ e ∈ L, e.2.length ≤ 64) → (lk L k).length ≤ 64 := by
        intro L
        induction L with
        | nil => intro _; simp [lk_nil]
        | cons x L ih =>
          intro hL
          rw [lk]
          split
          · exact hL x (by simp)
          · exact ih (fun e he => hL e (by simp [he]))
      exact this Ln hl
    · rw [lk_none (fun e he q => hex ⟨e, he, q⟩)]
      simp
  obtain ⟨l, hl2⟩ : ∃ l, lk Ln k = l := ⟨_, rfl⟩
  rw [hl2] at hrv hlen ⊢
  obtain ⟨a, c, rfl, h1, h2, hrow⟩ := hrv.row
  clear hl2 hrv hl
  go_enter Try.func25, Try.ntmps25
  go_wp2_with fail
  refine (clo_any a l.length c l w hrow (by omega)).mono ?_
  rintro r w1 ⟨va, rfl, m1, b1⟩
  obtain ⟨a1, c1, rfl, q1, q2, hr1⟩ := m1.row
  go_wp2_with fail
  go_ret
  exact ⟨a1, c1, rfl, q1, q2, hr1, b1⟩
/-- Few keys: few cells. -/
theorem allO_few {n : Nat} {L : List (Int × List C)} (hn : n ≤ 16) (hd : (L.map (·.1)).Nodup) (h : ∀ e ∈ L, hasB n e.1 = true ∧ e.2.length ≤ 64) : (allO L).length ≤ 1000000 := by
  have hk : (L.map (·.1)).Perm (((List.range 16).filter fun k : Nat => decide ((k : Int) ∈ L.map (·.1))).map fun k : Nat => (k : Int)) := by
    refine (List.perm_ext_iff_of_nodup hd (List.Pairwise.map _ (fun a b hab e => hab (by omega)) (List.Pairwise.filter _ List.nodup_range))).2 (fun a => ?_)
    constructor
    · intro ha
      obtain ⟨e, he, rfl⟩ := List.mem_map.1 ha
      have h1 := (h e he).1
      unfold hasB at h1
      rw [decide_eq_true_eq] at h1
      refine List.mem_map.2 ⟨e.1.toNat, List.mem_filter.2 ⟨List.mem_range.2 (by omega), ?_⟩, by omega⟩
      rw [decide_eq_true_eq, show ((e.1.toNat : Nat) : Int) = e.1 by omega]
      exact ha
    · intro ha
      obtain ⟨q, hq, rfl⟩ := List.mem_map.1 ha
      simpa using (List.mem_filter.1 hq).2
  have h16 : L.length ≤ 16 := by
    have := hk.length_eq
    rw [List.length_map, List.length_map] at this
    rw [this]
    exact Nat.le_trans (List.length_filter_le _ _) (by simp)
  have : ∀ (L : List (Int × List C)), (∀ e ∈ L, e.2.length ≤ 64) → (allO L).length ≤ 64 * L.length := by
    intro L
    induction L with
    | nil => intro _; exact Nat.le_refl 0
    | cons x L ih =>
      intro hL
      have h1 := ih (fun e he => hL e (by simp [he]))
      have h2 := hL x (by simp)
      have e : (allO (x :: L)).length = x.2.length + (allO L).length := by simp [allO, ofE]
      rw [e, List.length_cons]
      omega
  have := this L (fun e he => (h e he).2)
  omega
theorem fit_all {n : Nat} {L : List (Int × List C)} (h : fitB n L = true) : ∀ e ∈ L, hasB n e.1 = true ∧ e.2.length ≤ 64 := by
  unfold fitB at h
  rw [List.all_eq_true] at h
  intro e he
  have := h e he
  rw [Bool.and_eq_true, decide_eq_true_eq] at this
  exact this
theorem begE_fit {n : Nat} {la : Int} {L : List (Int × List C)} (h : begE n la L = 0) : fitB n L = true := by
  cases hf : fitB n L
  · unfold begE at h
    rw [if_pos hf] at h
    cases h
  · rfl
theorem MapL.src5 {w : World} {lo bm b : Nat} {t : TypeId} {n : Nat} {V : Nat → Value} {L : List (Int × List C)} (h : MapL w lo bm L) (o : Blk w b t n V) (hr : No5 w b) : Src w b (some bm) L := by
  obtain ⟨h0, vs, h1, h2⟩ := h
  refine .inr ⟨bm, ents L vs, L.length, fun e => L.getD e.born (0, []), rfl, ents_map L vs, fun w' j => ⟨(j.block bm (iter_lt h1) (not_map o h1)).trans h1, fun x hx => (ents_mem hx).1, ents_nd L vs, fun x hx => ?_, fun x hx => ?_⟩⟩
  · obtain ⟨_, e⟩ := ents_mem hx
    have : x.key = .int .i64 (keyN L x.born) := by rw [e]
    exact this
  · obtain ⟨h3, e⟩ := ents_mem hx
    obtain ⟨a, c, h4, h5, h6, h7⟩ := (rv5_apart (h2 x.born h3) hr j).row
    have : x.val = vs x.born := by rw [e]
    exact ⟨a, c, by rw [this]; exact h4, h5, h6, h7⟩
/-- Where the package's next rows and the reference's come from one map. -/
theorem sm_begin {n : Nat} {L M Lx : List (Int × List C)} (hd : (L.map (·.1)).Nodup) (hf : fitB n L = true) (hM : M.Perm L) (hx : Lx.Perm (L.map conv)) : Sm n Lx (fun i => srtU (dealt M i)) := by
  refine ⟨nd_perm hx.symm (conv_nd hd), fun e he => ?_, fun k => ?_⟩
  · obtain ⟨e', he', rfl⟩ := List.mem_map.1 (hx.mem_iff.1 he)
    have := fit_all hf e' he'
    unfold conv
    dsimp only
    rw [(srtC_all _).2.length_eq]
    exact this
  · rw [← lk_perm hx.symm (conv_nd hd), lk_conv, lk_perm hM.symm hd, lk_dealt (nd_perm hM.symm hd), srt_same]
/-- Begin of both. -/
theorem tw_begin {W w : World} {b rb n bm : Nat} {L : List (Int × List C)} (t : Tws W w b rb n) (hm : MapL w 0 bm L) (hd : (L.map (·.1)).Nodup) : ∃ u e : Int,
    Calls Try.prog 12 #[.pointer (some ⟨b, 0, none⟩), .map (some bm)] w fun r w1 => r = .returned (.tuple #[.int .i64 u, .int .i64 e]) ∧
      Calls Try.prog 13 #[.pointer (some ⟨rb, 0, none⟩), .map (some bm)] w1 fun r2 w2 => r2 = .returned (.tuple #[.int .i64 u, .int .i64 e]) ∧ Tws W w2 b rb n := by
  obtain ⟨v, la, g, R, now, next, Ln, Lx, P, Q, D, X, t⟩ := t
  cases g
  · by_cases he : begE n la L = 0
    · have hf := begE_fit he
      have hfa := fit_all hf
      refine ⟨la + 1, 0, (begin_yes b n v la R now next (some bm) Ln Lx L w t.bk (MapL.src5 hm t.bk.blk t.bk.no5) (allO_few t.n16 hd hfa) hd (fun e h => Nat.le_trans (hfa e h).2 (by decide)) t.la0 he).mono ?_⟩
      rintro r w1 ⟨rfl, j1, x, Lx', h1, hp⟩
      refine ⟨rfl, ?_⟩
      have hm1 := mapL5 hm t.bk.blk t.bk.no5 j1
      have r1 := t.rk.just j1 t.ne
      obtain ⟨_, vs, q1, q2⟩ := hm1
      have hM : MapOf w1 bm (ents L vs) L.length (fun e => L.getD e.born (0, [])) := ⟨q1, fun x hx => (ents_mem hx).1, ents_nd L vs, fun x hx => by
        obtain ⟨_, e⟩ := ents_mem hx
        have : x.key = .int .i64 (keyN L x.born) := by rw [e]
        exact this, fun x hx => by
        obtain ⟨h3, e⟩ := ents_mem hx
        obtain ⟨a, c, h4, h5, h6, h7⟩ := (q2 x.born h3).row
        have : x.val = vs x.born := by rw [e]
        exact ⟨a, c, by rw [this]; exact h4, h5, h6, h7⟩⟩
      have b1 := j1.below t.bel t.lb t.bel.size
      refine (rbegin_any rb bm L.length (ents L vs) _ n v la P Q R D X L w1 r1 (by have := t.n16; omega) t.la0 hM (ents_map L vs) hd).mono ?_
      rintro r2 w2 (⟨h, _⟩ | ⟨_, rfl, j2, X', M, hMp, r2⟩)
      · exact absurd he h
      · exact ⟨rfl, v, la + 1, true, fun _ => false, now, x, Ln, Lx', P, X', D, _, h1.apart r1.blk r1.no5 (by have := t.ne; omega) j2, r2, t.ne, t.lb, j2.below b1 (by have := t.ne; have := t.lb; omega) b1.size, by have := t.la0; omega, fun _ => by have := t.la0; omega, t.n16, t.en, fun _ => sm_begin hd hf hMp hp⟩
    · refine ⟨0, begE n la L, (begin_no b n v la R now next (some bm) Ln Lx L w t.bk (MapL.src5 hm t.bk.blk t.bk.no5) (fun hf => allO_few t.n16 hd (fit_all hf)) he).mono ?_⟩
      rintro r w1 ⟨rfl, j1⟩
      refine ⟨rfl, ?_⟩
      have t1 := t.below j1
      obtain ⟨_, vs, q1, q2⟩ := hm.below j1
      have hM : MapOf w1 bm (ents L vs) L.length (fun e => L.getD e.born (0, [])) := ⟨q1, fun x hx => (ents_mem hx).1, ents_nd L vs, fun x hx => by
        obtain ⟨_, e⟩ := ents_mem hx
        have : x.key = .int .i64 (keyN L x.born) := by rw [e]
        exact this, fun x hx => by
        obtain ⟨h3, e⟩ := ents_mem hx
        obtain ⟨a, c, h4, h5, h6, h7⟩ := (q2 x.born h3).row
        have : x.val = vs x.born := by rw [e]
        exact ⟨a, c, by rw [this]; exact h4, h5, h6, h7⟩⟩
      refine (rbegin_any rb bm L.length (ents L vs) _ n v la P Q R D X L w1 t1.rk (by have := t.n16; omega) t.la0 hM (ents_map L vs) hd).mono ?_
      rintro r2 w2 (⟨_, rfl, j2⟩ | ⟨h, _⟩)
      · exact ⟨rfl, v, la, false, R, now, next, Ln, Lx, P, Q, D, X, t1.below j2⟩
      · exact absurd h he
  · refine ⟨0, 7, (begin_begun b n v la R now next (some bm) Ln Lx w t.bk).mono ?_⟩
    rintro r w' ⟨rfl, rfl⟩
    refine ⟨rfl, (rbegin_begun rb n v la la P Q R D X (.map (some bm)) w t.rk (t.lag rfl)).mono ?_⟩
    rintro r2 w2 ⟨rfl, rfl⟩
    exact ⟨rfl, v, la, true, R, now, next, Ln, Lx, P, Q, D, X, t⟩
def readyR (N la : Int) (g : Bool) (R : Nat → Bool) (n v : Int) : Nat → Bool := if readyE N la g R n v = 0 then setR R n.toNat else R
theorem readyE_zero {N la : Int} {g : Bool} {R : Nat → Bool} {u x : Int} (h : readyE N la g R u x = 0) : g = true ∧ x = la ∧ 0 ≤ u ∧ u < N ∧ R u.toNat = false := by
  unfold readyE at h
  split at h
  · cases h
  · rename_i h1
    split at h
    · cases h
    · rename_i h2
      split at h
      · cases h
      · rename_i h3
        have h2 : hasB N u = true := by simpa using h2
        unfold hasB at h2
        rw [decide_eq_true_eq] at h2
        refine ⟨?_, ?_, h2.1, h2.2, by simpa using h3⟩
        · cases g
          · exact absurd (.inl rfl) h1
          · rfl
        · exact Decidable.byContradiction fun q => h1 (.inr q)
theorem rreadyE_same {N la : Int} {g : Bool} {R : Nat → Bool} {u x : Int} (hg : g = true → 0 < la) : rreadyE N (bgI g la) R u x = readyE N la g R u x := by
  unfold rreadyE readyE bgI
  cases g
  · simp
  · have := hg rfl
    have h1 : ¬ la = 0 := by omega
    simp [h1]
theorem tw_ready {W w : World} {b rb n : Nat} {v la : Int} {g : Bool} {R R' : Nat → Bool} {now next : Option Nat} {Ln Lx : List (Int × List C)} {P Q : Nat → Value} {D X : Nat → List C} (u x : Int) (t : Tw W w b rb n v la g R R' now next Ln Lx P Q D X) :
    Calls Try.prog 14 #[.pointer (some ⟨b, 0, none⟩), .int .i64 u, .int .i64 x] w fun r w' => r = .returned (.int .i64 (readyE n la g R u x)) ∧ Tw W w' b rb n v la g (readyR n la g R u x) R' now next Ln Lx P Q D X ∧ Just b w w' := by
  by_cases he : readyE n la g R u x = 0
  · have e1 : readyR n la g R u x = setR R u.toNat := if_pos he
    rw [he, e1]
    obtain ⟨rfl, rfl, h0, h1, h2⟩ := readyE_zero he
    obtain ⟨k, rfl⟩ := Int.eq_ofNat_of_zero_le h0
    refine (ready_yes b n v x R now next Ln Lx k w t.bk (by have := t.n16; omega) h1 h2).mono ?_
    rintro r w' ⟨rfl, h3, j⟩
    exact ⟨rfl, ⟨h3, t.rk.just j t.ne, t.ne, t.lb, j.below t.bel t.lb t.bel.size, t.la0, t.lag, t.n16, t.en, t.ex⟩, j⟩
  · have e1 : readyR n la g R u x = R := if_neg he
    rw [e1]
    refine (ready_no b n v la g R now next Ln Lx u x w t.bk (by have := t.n16; omega) he).mono ?_
    rintro r w' ⟨rfl, rfl⟩
    exact ⟨rfl, t, Just.refl _ _⟩
theorem tw_rready {W w : World} {b rb n : Nat} {v la : Int} {g : Bool} {R R' : Nat → Bool} {now next : Option Nat} {Ln Lx : List (Int × List C)} {P Q : Nat → Value} {D X : Nat → List C} (u x : Int) (t : Tw W w b rb n v la g R R' now next Ln Lx P Q D X) :
    Calls Try.prog 15 #[.pointer (some ⟨rb, 0, none⟩), .int .i64 u, .int .i64 x] w fun r w' => r = .returned (.int .i64 (readyE n la g R' u x)) ∧ Tw W w' b rb n v la g R (readyR n la g R' u x) now next Ln Lx P Q D X ∧ Just rb w w' := by
  have hs := rreadyE_same (N := n) (R := R') (u := u) (x := x) t.lag
  by_cases he : readyE n la g R' u x = 0
  · have e1 : readyR n la g R' u x = setR R' u.toNat := if_pos he
    rw [he, e1]
    obtain ⟨rfl, rfl, h0, h1, h2⟩ := readyE_zero he
    obtain ⟨k, rfl⟩ := Int.eq_ofNat_of_zero_le h0
    refine (rready_yes rb n v x x P Q R' D X k w t.rk (by have := t.n16; omega) (t.lag rfl) h1 h2).mono ?_
    rintro r w' ⟨rfl, h3, j⟩
    exact ⟨rfl, ⟨t.bk.apart t.rk.blk t.rk.no5 (by have := t.ne; omega) j, h3, t.ne, t.lb, j.below t.bel (by have := t.ne; have := t.lb; omega) t.bel.size, t.la0, t.lag, t.n16, t.en, t.ex⟩, j⟩
  · have e1 : readyR n la g R' u x = R' := if_neg he
    rw [e1]
    refine (rready_no rb n v (bgI g la) la P Q R' D X u x w t.rk (by have := t.n16; omega) (by rw [hs]; exact he)).mono ?_
    rintro r w' ⟨rfl, rfl⟩
    exact ⟨by rw [hs], t, Just.refl _ _⟩
theorem tw_commit {W w : World} {b rb n : Nat} (t : Tws W w b rb n) : ∃ e : Int,
    Calls Try.prog 16 #[.pointer (some ⟨b, 0, none⟩)] w fun r w1 => r = .returned (.int .i64 e) ∧
      Calls Try.prog 17 #[.pointer (some ⟨rb, 0, none⟩)] w1 fun r2 w2 => r2 = .returned (.int .i64 e) ∧ Tws W w2 b rb n := by
  obtain ⟨v, la, g, R, now, next, Ln, Lx, P, Q, D, X, t⟩ := t
  cases g
  · refine ⟨7, (commit_none b n v la R now next Ln Lx w t.bk).mono ?_⟩
    rintro r w' ⟨rfl, rfl⟩
    refine ⟨rfl, (rcommit_none rb n v la P Q R D X w t.rk).mono ?_⟩
    rintro r2 w2 ⟨rfl, rfl⟩
    exact ⟨rfl, v, la, false, R, now, next, Ln, Lx, P, Q, D, X, t⟩
  · rcases Nat.eq_zero_or_pos (waitL n R).length with h0 | h0
    · refine ⟨0, (commit_yes b n v la R now next Ln Lx w t.bk t.n16 h0).mono ?_⟩
      rintro r w1 ⟨rfl, h1, j1⟩
      have r1 := t.rk.just j1 t.ne
      have b1 := j1.below t.bel t.lb t.bel.size
      refine ⟨rfl, (rcommit_yes rb n v la la P Q R D X w1 r1 t.n16 (t.lag rfl) h0).mono ?_⟩
      rintro r2 w2 ⟨rfl, r2, j2⟩
      exact ⟨rfl, la, la, false, R, next, none, Lx, [], Q, Q, X, X, h1.apart r1.blk r1.no5 (by have := t.ne; omega) j2, r2, t.ne, t.lb, j2.below b1 (by have := t.ne; have := t.lb; omega) b1.size, t.la0, (fun h => by cases h), t.n16, t.ex rfl, (fun h => by cases h)⟩
    · refine ⟨7, (commit_no b n v la R now next Ln Lx w t.bk t.n16 h0).mono ?_⟩
      rintro r w1 ⟨rfl, j1⟩
      have t1 := t.below j1
      refine ⟨rfl, (rcommit_no rb n v la la P Q R D X w1 t1.rk t.n16 (t.lag rfl) h0).mono ?_⟩
      rintro r2 w2 ⟨rfl, j2⟩
      exact ⟨rfl, v, la, true, R, now, next, Ln, Lx, P, Q, D, X, t1.below j2⟩
theorem tw_abort {W w : World} {b rb n : Nat} (t : Tws W w b rb n) : ∃ e : Int,
    Calls Try.prog 18 #[.pointer (some ⟨b, 0, none⟩)] w fun r w1 => r = .returned (.int .i64 e) ∧
      Calls Try.prog 19 #[.pointer (some ⟨rb, 0, none⟩)] w1 fun r2 w2 => r2 = .returned (.int .i64 e) ∧ Tws W w2 b rb n := by
  obtain ⟨v, la, g, R, now, next, Ln, Lx, P, Q, D, X, t⟩ := t
  cases g
  · refine ⟨7, (abort_no b n v la R now next Ln Lx w t.bk).mono ?_⟩
    rintro r w' ⟨rfl, rfl⟩
    refine ⟨rfl, (rabort_no rb n v la P Q R D X w t.rk).mono ?_⟩
    rintro r2 w2 ⟨rfl, rfl⟩
    exact ⟨rfl, v, la, false, R, now, next, Ln, Lx, P, Q, D, X, t⟩
  · refine ⟨0, (abort_yes b n v la R now next Ln Lx w t.bk).mono ?_⟩
    rintro r w1 ⟨rfl, h1, j1⟩
    have r1 := t.rk.just j1 t.ne
    have b1 := j1.below t.bel t.lb t.bel.size
    refine ⟨rfl, (rabort_yes rb n v la la P Q R D X w1 r1 (t.lag rfl)).mono ?_⟩
    rintro r2 w2 ⟨rfl, r2, j2⟩
    exact ⟨rfl, v, la, false, R, now, none, Ln, [], P, Q, D, X, h1.apart r1.blk r1.no5 (by have := t.ne; omega) j2, r2, t.ne, t.lb, j2.below b1 (by have := t.ne; have := t.lb; omega) b1.size, t.la0, (fun h => by cases h), t.n16, t.en, (fun h => by cases h)⟩
theorem same_nums (a b : Option Addr) (n c d : Nat) (V : Nat → Value) (X : Nat → Int) (w : World) (hV : V = fun i => .int .i64 (X i)) (hn : n ≤ c) (hm : n ≤ d) (hc : c ≤ maxLen) (hd : d ≤ maxLen) (hX : Row w a n V) (hY : Row w b n V) :
    Calls Try.prog 21 #[.slice a n c, .slice b n d] w fun r w' => r = .returned (.bool true) ∧ ∃ m, w.drewN m = w' := by
  subst hV
  unfold maxLen at hc hd
  go_enter Try.func21, Try.ntmps21
  go_wp2_with fail
  go_loopw [13] (fun i wr => ∃ (k m : Nat), i = .int .i64 k ∧ k ≤ n ∧ w.drewN m = wr) (fun i _ => n - (intOf i).toNat)
  case atStart => exact ⟨0, 0, rfl, by omega, rfl⟩
  case round =>
    obtain ⟨k, m, rfl, hk, rfl⟩ := hrel
    by_cases hlt : k < n
    · obtain ⟨p, o, rfl, _, h1⟩ := hX.at_ hlt
      obtain ⟨q, s, rfl, _, h2⟩ := hY.at_ hlt
      go_wp2_with fail
      go_quiet (fail)
      go_wp2_with fail
      exact ⟨⟨k + 1, _, by go_num, by omega, rfl⟩, by simp [intOf]; omega⟩
    · obtain rfl : k = n := by omega
      go_wp2_with fail
      go_ret
      exact ⟨rfl, m, rfl⟩
/-- Who is waited for, of both. -/
theorem tw_waits {W w : World} {b rb n : Nat} {v la : Int} {g : Bool} {R R' : Nat → Bool} {now next : Option Nat} {Ln Lx : List (Int × List C)} {P Q : Nat → Value} {D X : Nat → List C} (t : Tw W w b rb n v la g R R' now next Ln Lx P Q D X) :
    Calls Try.prog 22 #[.pointer (some ⟨b, 0, none⟩)] w fun r w' => ∃ a c, r = .returned (.slice a (rwaitL n (bgI g la) R).length c) ∧ (rwaitL n (bgI g la) R).length ≤ c ∧ c ≤ maxLen ∧ Row w' a (rwaitL n (bgI g la) R).length (wv (rwaitL n (bgI g la) R)) ∧ Below w.heap.size w w' := by
  cases g
  · have e : rwaitL n (bgI false la) R = [] := if_pos rfl
    rw [e]
    refine (waits_no b n v la R now next Ln Lx w t.bk).mono ?_
    rintro r w' ⟨rfl, rfl⟩
    exact ⟨none, 0, rfl, Nat.le_refl _, Nat.zero_le _, Row.nil _ _ _, Below.refl _ _⟩
  · have e : rwaitL n (bgI true la) R = waitL n R := if_neg (by have := t.lag rfl; show ¬ la = 0; omega)
    rw [e]
    exact waits_all b n v la R now next Ln Lx w t.bk t.n16
end Go.Proofs.Ytdpkiolngglpaaa.Ve
