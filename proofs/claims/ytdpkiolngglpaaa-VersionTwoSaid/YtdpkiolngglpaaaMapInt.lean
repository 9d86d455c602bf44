/-
  A map from ints to slices of cells, as the list of its entries; filling it, looking a key up.
-/
import Derived.Test.YtdpkiolngglpaaaMapRange
import Derived.Test.YtdpkiolngglpaaaCeMath
set_option maxRecDepth 100000
namespace Go.Proofs.Ytdpkiolngglpaaa.Mi
set_option linter.unusedVariables false
set_option linter.unusedSimpArgs false
open Go.RowKit Lb Cl Ce Go.ChangeMaps

/-- v is a slice that reads as the cells l, in memory from lo on. -/
def Rv (w : World) (lo : Nat) (v : Value) (l : List C) : Prop := ∃ a c, v = .slice a l.length c ∧ l.length ≤ c ∧ c ≤ maxLen ∧ Row w a (l.length * 5) (lv l) ∧ (0 < l.length → ∀ q, a.map Addr.block = some q → lo ≤ q)
def keyN (L : List (Int × List C)) (i : Nat) : Int := (L.getD i (0, [])).1
def rowN (L : List (Int × List C)) (i : Nat) : List C := (L.getD i (0, [])).2
def ents (L : List (Int × List C)) (vs : Nat → Value) : Array MapEntry := ((List.range L.length).map fun i => (⟨.int .i64 (keyN L i), vs i, i⟩ : MapEntry)).toArray
/-- Block bm is a map with the entries L, one after another. -/
def MapL (w : World) (lo bm : Nat) (L : List (Int × List C)) : Prop := lo ≤ bm ∧ ∃ vs : Nat → Value, w.heap[bm]? = some (.map (ents L vs) L.length) ∧ ∀ i, i < L.length → Rv w lo (vs i) (rowN L i)
theorem ents_mem {L : List (Int × List C)} {vs : Nat → Value} {x : MapEntry} (h : x ∈ (ents L vs).toList) : x.born < L.length ∧ x = ⟨.int .i64 (keyN L x.born), vs x.born, x.born⟩ := by
  unfold ents at h
  rw [List.toList_toArray] at h
  obtain ⟨i, hi, rfl⟩ := List.mem_map.1 h
  exact ⟨List.mem_range.1 hi, rfl⟩
theorem ents_nd (L : List (Int × List C)) (vs : Nat → Value) : ((ents L vs).toList.map (·.born)).Nodup := by
  unfold ents
  rw [List.toList_toArray, List.map_map]
  have : ((fun x : MapEntry => x.born) ∘ fun i => (⟨.int .i64 (keyN L i), vs i, i⟩ : MapEntry)) = id := rfl
  rw [this, List.map_id]
  exact List.nodup_range
theorem ents_map (L : List (Int × List C)) (vs : Nat → Value) : (ents L vs).toList.map (fun x => L.getD x.born (0, [])) = L := by
  unfold ents
  rw [List.toList_toArray, List.map_map]
  refine List.ext_getElem (by simp) (fun i h1 h2 => ?_)
  rw [List.getElem_map, List.getElem_range]
  show L.getD i (0, []) = _
  rw [List.getD_eq_getElem?_getD, List.getElem?_eq_getElem h2]
  rfl
theorem Rv.row {w : World} {lo : Nat} {v : Value} {l : List C} (h : Rv w lo v l) : ∃ a c, v = .slice a l.length c ∧ l.length ≤ c ∧ c ≤ maxLen ∧ Row w a (l.length * 5) (lv l) := by
  obtain ⟨a, c, h1, h2, h3, h4, _⟩ := h
  exact ⟨a, c, h1, h2, h3, h4⟩
theorem Rv.below {w w' : World} {lo : Nat} {v : Value} {l : List C} (h : Rv w lo v l) (j : Below w.heap.size w w') : Rv w' lo v l := by
  obtain ⟨a, c, h1, h2, h3, h4, h5⟩ := h
  exact ⟨a, c, h1, h2, h3, h4.below j, h5⟩
theorem Rv.mono {w : World} {lo lo' : Nat} {v : Value} {l : List C} (h : Rv w lo v l) (hl : lo' ≤ lo) : Rv w lo' v l := by
  obtain ⟨a, c, h1, h2, h3, h4, h5⟩ := h
  exact ⟨a, c, h1, h2, h3, h4, fun h0 q e => Nat.le_trans hl (h5 h0 q e)⟩
theorem Rv.just {w w' : World} {lo g : Nat} {v : Value} {l : List C} (h : Rv w lo v l) (j : Just g w w') (hg : g < lo) : Rv w' lo v l := by
  obtain ⟨a, c, h1, h2, h3, h4, h5⟩ := h
  refine ⟨a, c, h1, h2, h3, fun hn => ?_, h5⟩
  obtain ⟨q, off, e1, e2, e3⟩ := h4 hn
  have hq := h5 (by omega) q (by rw [e1]; rfl)
  refine ⟨q, off, e1, Nat.lt_of_lt_of_le e2 j.size, fun i hi => ?_⟩
  have := j.block q e2 (by omega)
  have h6 := e3 i hi
  unfold World.cell? at h6 ⊢
  rw [← h6, this]
theorem MapL.below {w w' : World} {lo bm : Nat} {L : List (Int × List C)} (h : MapL w lo bm L) (j : Below w.heap.size w w') : MapL w' lo bm L := by
  obtain ⟨h0, vs, h1, h2⟩ := h
  exact ⟨h0, vs, (j.block bm (iter_lt h1)).trans h1, fun i hi => (h2 i hi).below j⟩
theorem MapL.just {w w' : World} {lo g bm : Nat} {L : List (Int × List C)} (h : MapL w lo bm L) (j : Just g w w') (hg : g < lo) : MapL w' lo bm L := by
  obtain ⟨h0, vs, h1, h2⟩ := h
  exact ⟨h0, vs, (j.block bm (iter_lt h1) (by omega)).trans h1, fun i hi => (h2 i hi).just j hg⟩
theorem MapL.mono {w : World} {lo lo' bm : Nat} {L : List (Int × List C)} (h : MapL w lo bm L) (hl : lo' ≤ lo) : MapL w lo' bm L := by
  obtain ⟨h0, vs, h1, h2⟩ := h
  exact ⟨Nat.le_trans hl h0, vs, h1, fun i hi => (h2 i hi).mono hl⟩
theorem keyN_old (L : List (Int × List C)) (e : Int × List C) {i : Nat} (h : i < L.length) : keyN (L ++ [e]) i = keyN L i := by
  unfold keyN
  rw [List.getD_eq_getElem?_getD, List.getD_eq_getElem?_getD, List.getElem?_append_left h]
theorem rowN_old (L : List (Int × List C)) (e : Int × List C) {i : Nat} (h : i < L.length) : rowN (L ++ [e]) i = rowN L i := by
  unfold rowN
  rw [List.getD_eq_getElem?_getD, List.getD_eq_getElem?_getD, List.getElem?_append_left h]
theorem keyN_new (L : List (Int × List C)) (e : Int × List C) : keyN (L ++ [e]) L.length = e.1 := by
  unfold keyN
  rw [List.getD_eq_getElem?_getD, List.getElem?_append_right (Nat.le_refl _)]
  simp
theorem rowN_new (L : List (Int × List C)) (e : Int × List C) : rowN (L ++ [e]) L.length = e.2 := by
  unfold rowN
  rw [List.getD_eq_getElem?_getD, List.getElem?_append_right (Nat.le_refl _)]
  simp
theorem ents_snoc (L : List (Int × List C)) (vs : Nat → Value) (e : Int × List C) (v : Value) : (ents L vs).push ⟨.int .i64 e.1, v, L.length⟩ = ents (L ++ [e]) (fun i => if i = L.length then v else vs i) := by
  unfold ents
  rw [List.push_toArray]
  congr 1
  rw [List.length_append, List.length_singleton, List.range_succ, List.map_append, List.map_singleton, keyN_new]
  have h1 : (if L.length = L.length then v else vs L.length) = v := if_pos rfl
  simp only [h1]
  congr 1
  refine List.map_congr_left (fun i hi => ?_)
  have hi := List.mem_range.1 hi
  have h2 : (if i = L.length then v else vs i) = vs i := if_neg (by omega)
  simp only [h2, keyN_old L e hi]
theorem sameNow_int (a b : Int) : Instr.sameNow (.int .i64) (.int .i64 a) (.int .i64 b) = some (a == b) := rfl
theorem find_none (k : Int) : ∀ (l : List MapEntry) (i : Nat), (∀ x ∈ l, ∃ z, x.key = .int .i64 z ∧ z ≠ k) → Instr.findNow (.int .i64) (.int .i64 k) l i = some none
  | [], _, _ => rfl
  | x :: l, i, h => by
    obtain ⟨z, h1, h2⟩ := h x (by simp)
    unfold Instr.findNow
    rw [h1, sameNow_int, beq_eq_false_iff_ne.2 (fun e => h2 e.symm)]
    exact find_none k l (i + 1) (fun y hy => h y (by simp [hy]))
theorem find_at (k : Int) (v : Value) : ∀ (l : List MapEntry) (i j : Nat), j < l.length → (∀ x ∈ l, ∃ z, x.key = .int .i64 z) → (∀ q, q < j → ∀ x, l[q]? = some x → x.key ≠ .int .i64 k) → (∀ x, l[j]? = some x → x.key = .int .i64 k ∧ x.val = v) → Instr.findNow (.int .i64) (.int .i64 k) l i = some (some (i + j, v))
  | [], _, j, hj, _, _, _ => absurd hj (by simp)
  | x :: l, i, 0, _, h, _, h2 => by
    obtain ⟨h3, h4⟩ := h2 x rfl
    unfold Instr.findNow
    rw [h3, sameNow_int, beq_self_eq_true, h4]
    rfl
  | x :: l, i, j + 1, hj, h, h1, h2 => by
    obtain ⟨z, hz⟩ := h x (by simp)
    have hne := h1 0 (by omega) x rfl
    rw [hz] at hne
    unfold Instr.findNow
    rw [hz, sameNow_int, beq_eq_false_iff_ne.2 (fun e => hne (by rw [e]))]
    have := find_at k v l (i + 1) j (by simpa using hj) (fun y hy => h y (by simp [hy])) (fun q hq y hy => h1 (q + 1) (by omega) y (by simpa using hy)) (fun y hy => h2 y (by simpa using hy))
    rw [this, show i + 1 + j = i + (j + 1) by omega]
theorem und_m : Try.prog.underlying 32 = some (.map 3 33) := by kernel_rfl
theorem und_i : Try.prog.underlying 3 = some (.int .i64) := by kernel_rfl
theorem cell_map {w : World} {bm : Nat} {es : Array MapEntry} {c : Nat} (hb : w.heap[bm]? = some (.map es c)) (i : Nat) : w.cell? ⟨bm, i, none⟩ = none := by
  unfold World.cell?
  rw [hb]
theorem Rv.map {w w' : World} {lo bm : Nat} {v : Value} {l : List C} {es : Array MapEntry} {c : Nat} (h : Rv w lo v l) (hb : w.heap[bm]? = some (.map es c)) (j : Just bm w w') : Rv w' lo v l := by
  obtain ⟨a, c, h1, h2, h3, h4, h5⟩ := h
  refine ⟨a, c, h1, h2, h3, fun hn => ?_, h5⟩
  obtain ⟨q, off, e1, e2, e3⟩ := h4 hn
  have hq : q ≠ bm := fun e => by
    subst e
    have := e3 0 hn
    rw [cell_map hb] at this
    cases this
  refine ⟨q, off, e1, Nat.lt_of_lt_of_le e2 j.size, fun i hi => ?_⟩
  have := j.block q e2 hq
  have h6 := e3 i hi
  unfold World.cell? at h6 ⊢
  rw [← h6, this]
/-- 'm[k] = v' at a key that isn't there. -/
theorem put_new {w : World} {lo bm : Nat} {L : List (Int × List C)} {k : Int} {v : Value} {l : List C} (h : MapL w lo bm L) (hk : ∀ i, i < L.length → keyN L i ≠ k) (hv : Rv w lo v l) :
    ∃ w', (Instr.mapUpdate 32 (.map (some bm)) (.int .i64 k) v).run Try.prog w = .ok () w' ∧ Just bm w w' ∧ w'.heap.size = w.heap.size ∧ MapL w' lo bm (L ++ [(k, l)]) := by
  obtain ⟨h0, vs, hb, hr⟩ := h
  have hf : Instr.findNow (.int .i64) (.int .i64 k) (ents L vs).toList 0 = some none := find_none k _ 0 (fun x hx => by
    obtain ⟨h1, h2⟩ := ents_mem hx
    exact ⟨_, by rw [h2], hk _ h1⟩)
  have hc : (Instr.checkKey false 10000 3 (.int .i64 k)).run Try.prog w = .ok () w := MapKept.run_checkKey und_i (by simp [MapKept.IsKey]) false 9999
  have j := just_setBlock w bm (.map ((ents L vs).push ⟨.int .i64 k, v, L.length⟩) (L.length + 1))
  have h9 := heap_setBlock (iter_lt hb) (.map ((ents L vs).push ⟨.int .i64 k, v, L.length⟩) (L.length + 1))
  refine ⟨setBlock w bm (.map ((ents L vs).push ⟨.int .i64 k, v, L.length⟩) (L.length + 1)), ?_, j, by simp [setBlock], h0, fun i => if i = L.length then v else vs i, ?_, fun i hi => ?_⟩
  · simp [Instr.mapUpdate, run_underlying und_m, MapKept.run_getObj_map hb, hc, MapKept.run_findKey und_i hf, MapKept.run_setObj_map _ hb, Result.andThen, setBlock]
  · rw [h9, ← ents_snoc L vs (k, l) v, List.length_append, List.length_singleton]
  · rw [List.length_append, List.length_singleton] at hi
    by_cases e : i = L.length
    · subst e
      have h1 : (if L.length = L.length then v else vs L.length) = v := if_pos rfl
      simp only [h1]
      rw [rowN_new]
      exact hv.map hb j
    · have h2 : (if i = L.length then v else vs i) = vs i := if_neg e
      simp only [h2]
      rw [rowN_old L _ (by omega)]
      exact (hr i (by omega)).map hb j
/-- 'm[k]': what the first entry with k says; nothing, if there is none. -/
theorem look_at {w : World} {lo bm : Nat} {L : List (Int × List C)} {k : Int} {j : Nat} (h : MapL w lo bm L) (hj : j < L.length) (hk : keyN L j = k) (hn : ∀ i, i < j → keyN L i ≠ k) :
    ∃ v, (Instr.lookup 32 (.map (some bm)) (.int .i64 k) false).run Try.prog w = .ok v w ∧ Rv w lo v (rowN L j) := by
  obtain ⟨h0, vs, hb, hr⟩ := h
  have hg : ∀ q x, (ents L vs).toList[q]? = some x → q < L.length ∧ x = ⟨.int .i64 (keyN L q), vs q, q⟩ := fun q x hx => by
    unfold ents at hx
    rw [List.toList_toArray, List.getElem?_map] at hx
    by_cases hq : q < L.length
    · rw [List.getElem?_range hq] at hx
      injection hx with hx
      exact ⟨hq, hx.symm⟩
    · rw [List.getElem?_eq_none (by simpa using hq)] at hx
      cases hx
  have hf : Instr.findNow (.int .i64) (.int .i64 k) (ents L vs).toList 0 = some (some (0 + j, vs j)) := find_at k (vs j) _ 0 j (by unfold ents; simpa using hj) (fun x hx => by
    obtain ⟨_, h2⟩ := ents_mem hx
    exact ⟨_, by rw [h2]⟩) (fun q hq x hx => by
    obtain ⟨_, h2⟩ := hg q x hx
    rw [h2]
    intro e
    injection e with _ e
    exact hn q hq e) (fun x hx => by
    obtain ⟨_, h2⟩ := hg j x hx
    rw [h2, hk]
    exact ⟨rfl, rfl⟩)
  have hc : ∀ e, (Instr.checkKey e 10000 3 (.int .i64 k)).run Try.prog w = .ok () w := fun e => MapKept.run_checkKey und_i (by simp [MapKept.IsKey]) e 9999
  refine ⟨vs j, ?_, hr j hj⟩
  simp [Instr.lookup, run_underlying und_m, MapKept.run_getObj_map hb, hc, MapKept.run_findKey und_i hf, Result.andThen]
end Go.Proofs.Ytdpkiolngglpaaa.Mi
