/-
  A map from ints to slices of cells: 'm[k] = v' at any key.
-/
import Derived.Test.YtdpkiolngglpaaaMapInt
set_option maxRecDepth 100000
namespace Go.Proofs.Ytdpkiolngglpaaa.Mi
set_option linter.unusedVariables false
set_option linter.unusedSimpArgs false
open Go.RowKit Lb Cl Ce Go.ChangeMaps

/-- The list of entries after 'm[k] = l'. -/
def upd : List (Int × List C) → Int × List C → List (Int × List C)
  | [], e => [e]
  | x :: L, e => if x.1 = e.1 then e :: L else x :: upd L e
theorem upd_new : ∀ (L : List (Int × List C)) (e : Int × List C), (∀ x ∈ L, x.1 ≠ e.1) → upd L e = L ++ [e]
  | [], _, _ => rfl
  | x :: L, e, h => by
    rw [upd, if_neg (h x (by simp)), upd_new L e (fun y hy => h y (by simp [hy]))]
    rfl
theorem upd_old : ∀ (L : List (Int × List C)) (e : Int × List C) (j : Nat) (hj : j < L.length), (∀ i (hi : i < j), (L[i]'(by omega)).1 ≠ e.1) → (L[j]).1 = e.1 → upd L e = L.set j e
  | x :: L, e, 0, _, _, h2 => by
    rw [upd, if_pos (by simpa using h2)]
    rfl
  | x :: L, e, j + 1, hj, h1, h2 => by
    rw [upd, if_neg (by simpa using h1 0 (by omega)), upd_old L e j (by simpa using hj) (fun i hi => by simpa using h1 (i + 1) (by omega)) (by simpa using h2)]
    rfl
theorem upd_keys : ∀ (L : List (Int × List C)) (e : Int × List C), ∀ x ∈ upd L e, x = e ∨ (x ∈ L ∧ x.1 ≠ e.1 ∨ x ∈ L)
  | [], e, x, h => by
    rw [upd, List.mem_singleton] at h
    exact .inl h
  | y :: L, e, x, h => by
    rw [upd] at h
    split at h
    · rcases List.mem_cons.1 h with h | h
      · exact .inl h
      · exact .inr (.inr (by simp [h]))
    · rcases List.mem_cons.1 h with h | h
      · exact .inr (.inr (by simp [h]))
      · rcases upd_keys L e x h with h | h | h
        · exact .inl h
        · exact .inr (.inr (by simp [h.1]))
        · exact .inr (.inr (by simp [h]))
theorem upd_nd : ∀ {L : List (Int × List C)} {e : Int × List C}, (L.map (·.1)).Nodup → ((upd L e).map (·.1)).Nodup
  | [], e, _ => by simp [upd]
  | x :: L, e, h => by
    rw [List.map_cons, List.nodup_cons] at h
    rw [upd]
    split
    · rename_i he
      rw [List.map_cons, List.nodup_cons]
      exact ⟨by rw [← he]; exact h.1, h.2⟩
    · rename_i he
      rw [List.map_cons, List.nodup_cons]
      refine ⟨fun hm => ?_, upd_nd h.2⟩
      obtain ⟨y, hy, hxy⟩ := List.mem_map.1 hm
      rcases upd_keys L e y hy with h1 | h1 | h1
      · subst h1
        exact he hxy.symm
      · exact h.1 (List.mem_map.2 ⟨y, h1.1, hxy⟩)
      · exact h.1 (List.mem_map.2 ⟨y, h1, hxy⟩)
theorem keyN_get {L : List (Int × List C)} {i : Nat} (h : i < L.length) : keyN L i = (L[i]).1 := by
  unfold keyN
  rw [List.getD_eq_getElem?_getD, List.getElem?_eq_getElem h]
  rfl
theorem rowN_get {L : List (Int × List C)} {i : Nat} (h : i < L.length) : rowN L i = (L[i]).2 := by
  unfold rowN
  rw [List.getD_eq_getElem?_getD, List.getElem?_eq_getElem h]
  rfl
theorem ents_set (L : List (Int × List C)) (vs : Nat → Value) (e : Int × List C) (v : Value) (j : Nat) (hj : j < L.length) :
    (ents L vs).modify j (fun x => { x with key := .int .i64 e.1, val := v }) = ents (L.set j e) (fun i => if i = j then v else vs i) := by
  apply Array.toList_inj.1
  rw [Array.toList_modify]
  unfold ents
  rw [List.toList_toArray, List.toList_toArray, List.length_set]
  refine List.ext_getElem (by simp) (fun i h1 h2 => ?_)
  have hi : i < L.length := by simpa using h2
  rw [List.getElem_modify, List.getElem_map, List.getElem_range, List.getElem_map, List.getElem_range]
  have hl : i < (L.set j e).length := by rw [List.length_set]; exact hi
  by_cases h : j = i
  · subst h
    have h3 : (if j = j then v else vs j) = v := if_pos rfl
    simp only [if_true, keyN_get hl, List.getElem_set_self]
  · have h4 : ¬ i = j := fun q => h q.symm
    rw [if_neg h, keyN_get hl, keyN_get hi, List.getElem_set_ne h]
    simp only [if_neg h4]
/-- 'm[k] = v' at a key that is there. -/
theorem put_old {w : World} {lo bm : Nat} {L : List (Int × List C)} {k : Int} {v : Value} {l : List C} {j : Nat} (h : MapL w lo bm L) (hj : j < L.length) (hk : keyN L j = k) (hn : ∀ i, i < j → keyN L i ≠ k) (hv : Rv w lo v l) :
    ∃ w', (Instr.mapUpdate 32 (.map (some bm)) (.int .i64 k) v).run Try.prog w = .ok () w' ∧ Just bm w w' ∧ w'.heap.size = w.heap.size ∧ MapL w' lo bm (L.set j (k, l)) := by
  obtain ⟨h0, vs, hb, hr⟩ := h
  have hg : ∀ q x, (ents L vs).toList[q]? = some x → q < L.length ∧ x = ⟨.int .i64 (keyN L q), vs q, q⟩ := fun q x hx => by
    unfold ents at hx
    rw [List.toList_toArray, List.getElem?_map] at hx
    by_cases hq : q < L.length
    · rw [List.getElem?_range hq] at hx
      injection hx with hx
      exact ⟨hq, hx.symm⟩
    · rw [List.getElem?_eq_none (by simpa using hq)] at hx
      cases hx
  have hf : Instr.findNow (.int .i64) (.int .i64 k) (ents L vs).toList 0 = some (some (0 + j, vs j)) := find_at k (vs j) _ 0 j (by unfold ents; simpa using hj) (fun x hx => by
    obtain ⟨_, h2⟩ := ents_mem hx
    exact ⟨_, by rw [h2]⟩) (fun q hq x hx => by
    obtain ⟨_, h2⟩ := hg q x hx
    rw [h2]
    intro e
    injection e with _ e
    exact hn q hq e) (fun x hx => by
    obtain ⟨_, h2⟩ := hg j x hx
    rw [h2, hk]
    exact ⟨rfl, rfl⟩)
  rw [Nat.zero_add] at hf
  have hc : (Instr.checkKey false 10000 3 (.int .i64 k)).run Try.prog w = .ok () w := MapKept.run_checkKey und_i (by simp [MapKept.IsKey]) false 9999
  have hkey : (((ents L vs)[j]?).map (·.key)).getD (.int .i64 k) = .int .i64 k := by
    unfold ents
    rw [List.getElem?_toArray, List.getElem?_map, List.getElem?_range hj]
    show Value.int .i64 (keyN L j) = _
    rw [hk]
  have hstay : (Instr.keyThatStays (.int .i64 k) (.int .i64 k)).run Try.prog w = .ok (.int .i64 k) w := by
    unfold Instr.keyThatStays
    have : Instr.sameBits 10000 (.int .i64 k) (.int .i64 k) = true := by
      unfold Instr.sameBits
      simp
    rw [if_pos this]
    rfl
  have j' := just_setBlock w bm (.map ((ents L vs).modify j fun x => { x with key := .int .i64 k, val := v }) L.length)
  have h9 := heap_setBlock (iter_lt hb) (.map ((ents L vs).modify j fun x => { x with key := .int .i64 k, val := v }) L.length)
  refine ⟨setBlock w bm (.map ((ents L vs).modify j fun x => { x with key := .int .i64 k, val := v }) L.length), ?_, j', by simp [setBlock], h0, fun i => if i = j then v else vs i, ?_, fun i hi => ?_⟩
  · simp only [Instr.mapUpdate, Sem.run_bind, run_underlying und_m, MapKept.run_getObj_map hb, hc, MapKept.run_findKey und_i hf, Result.andThen_ok, hkey, hstay, MapKept.run_setObj_map _ hb]
    rfl
  · rw [h9, ents_set L vs (k, l) v j hj, List.length_set]
  · rw [List.length_set] at hi
    have hl2 : i < (L.set j (k, l)).length := by rw [List.length_set]; exact hi
    by_cases e : i = j
    · subst e
      have h1 : (if i = i then v else vs i) = v := if_pos rfl
      simp only [h1]
      rw [rowN_get hl2, List.getElem_set_self]
      exact hv.map hb j'
    · have h2 : (if i = j then v else vs i) = vs i := if_neg e
      simp only [h2]
      rw [rowN_get hl2, List.getElem_set_ne (fun q => e q.symm), ← rowN_get hi]
      exact (hr i hi).map hb j'
/-- 'm[k] = v'. -/
theorem put_any {w : World} {lo bm : Nat} {L : List (Int × List C)} {k : Int} {v : Value} {l : List C} (h : MapL w lo bm L) (hv : Rv w lo v l) :
    ∃ w', (Instr.mapUpdate 32 (.map (some bm)) (.int .i64 k) v).run Try.prog w = .ok () w' ∧ Just bm w w' ∧ w'.heap.size = w.heap.size ∧ MapL w' lo bm (upd L (k, l)) := by
  by_cases hex : ∃ j, j < L.length ∧ keyN L j = k
  · have : ∃ j, (j < L.length ∧ keyN L j = k) ∧ ∀ i, i < j → ¬ (i < L.length ∧ keyN L i = k) := by
      obtain ⟨j, hj⟩ := hex
      induction j using Nat.strongRecOn with
      | _ j ih =>
        by_cases hm : ∃ i, i < j ∧ (i < L.length ∧ keyN L i = k)
        · obtain ⟨i, h1, h2⟩ := hm
          exact ih i h1 h2
        · exact ⟨j, hj, fun i hi h2 => hm ⟨i, hi, h2⟩⟩
    obtain ⟨j, ⟨hj, hk⟩, hmin⟩ := this
    have := put_old h hj hk (fun i hi e => hmin i hi ⟨by omega, e⟩) hv
    rw [← upd_old L (k, l) j hj (fun i hi e => hmin i hi ⟨by omega, by rw [keyN_get (by omega)]; exact e⟩) (by rw [← keyN_get hj]; exact hk)] at this
    exact this
  · have hno : ∀ i, i < L.length → keyN L i ≠ k := fun i hi e => hex ⟨i, hi, e⟩
    have := put_new h hno hv
    rw [← upd_new L (k, l) (fun x hx e => by
      obtain ⟨i, hi, rfl⟩ := List.mem_iff_getElem.1 hx
      exact hno i hi (by rw [keyN_get hi]; exact e))] at this
    exact this
end Go.Proofs.Ytdpkiolngglpaaa.Mi
