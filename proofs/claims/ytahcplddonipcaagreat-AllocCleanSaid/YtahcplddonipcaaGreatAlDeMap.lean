/-
  A map from nodes to rows of cells of the call's own (chapter 22): looked up, stored into, deleted from.
-/
import Derived.Test.YtahcplddonipcaaGreatMapInt
import Derived.Test.YtahcplddonipcaaGreatOwnK
set_option maxRecDepth 100000
namespace Go.Proofs.YtahcplddonipcaaGreat.Mi
set_option linter.unusedVariables false
set_option linter.unusedSimpArgs false
open Go.RowKit Lb Cl Ce Go.ChangeMaps

def kv (k : Nat) : Value := .int .i64 (k : Int)
theorem kv_inj {j k : Nat} (h : kv j = kv k) : j = k := by
  unfold kv at h
  injection h with _ h
  omega
/-- The entries es say: the keys in S, with the values vs. -/
structure Es (es : Array MapEntry) (clock : Nat) (S : Nat → Bool) (vs : Nat → Value) : Prop where
  old : ∀ x ∈ es.toList, x.born < clock
  nd : (es.toList.map (·.born)).Nodup
  key : ∀ x ∈ es.toList, ∃ k, k < 16 ∧ S k = true ∧ x.key = kv k ∧ x.val = vs k
  all : ∀ k, k < 16 → S k = true → ∃ x ∈ es.toList, x.key = kv k
  kd : (es.toList.map (·.key)).Nodup
def Ms (w : World) (bm : Nat) (S : Nat → Bool) (vs : Nat → Value) : Prop := ∃ es clock, w.heap[bm]? = some (.map es clock) ∧ Es es clock S vs
theorem Ms.lt {w : World} {bm : Nat} {S : Nat → Bool} {vs : Nat → Value} (h : Ms w bm S vs) : bm < w.heap.size := by
  obtain ⟨_, _, h, _⟩ := h
  exact iter_lt h
theorem Ms.keep {w w' : World} {bm : Nat} {S : Nat → Bool} {vs : Nat → Value} (h : Ms w bm S vs) (e : w'.heap[bm]? = w.heap[bm]?) : Ms w' bm S vs := by
  obtain ⟨es, c, h1, h2⟩ := h
  exact ⟨es, c, e.trans h1, h2⟩
theorem Ms.below {w w' : World} {bm : Nat} {S : Nat → Bool} {vs : Nat → Value} (h : Ms w bm S vs) (j : Below w.heap.size w w') : Ms w' bm S vs := h.keep (j.block bm h.lt)
theorem Ms.just {w w' : World} {bm g : Nat} {S : Nat → Bool} {vs : Nat → Value} (h : Ms w bm S vs) (j : Just g w w') (hg : bm ≠ g) : Ms w' bm S vs := h.keep (j.block bm h.lt hg)
theorem Ms.made (w : World) (vs : Nat → Value) : Ms (w.alloc (.map #[] 0)) w.heap.size (fun _ => false) vs :=
  ⟨#[], 0, heap_alloc_new w _, ⟨fun x hx => (by cases hx), List.nodup_nil, fun x hx => (by cases hx), fun k _ hk => (by cases hk), List.nodup_nil⟩⟩
theorem nodup_at {β : Type} {g : MapEntry → β} {l : List MapEntry} (h : (l.map g).Nodup) {i j : Nat} {x y : MapEntry} (hi : l[i]? = some x) (hj : l[j]? = some y) (e : g x = g y) : i = j := by
  obtain ⟨hi3, hi4⟩ := List.getElem?_eq_some_iff.1 hi
  obtain ⟨hj3, hj4⟩ := List.getElem?_eq_some_iff.1 hj
  have hp := List.pairwise_iff_getElem.1 h
  rcases Nat.lt_trichotomy i j with q | q | q
  · have := hp i j (by simpa using hi3) (by simpa using hj3) q
    rw [List.getElem_map, List.getElem_map, hi4, hj4] at this
    exact absurd e this
  · exact q
  · have := hp j i (by simpa using hj3) (by simpa using hi3) q
    rw [List.getElem_map, List.getElem_map, hi4, hj4] at this
    exact absurd e.symm this
theorem find_mem {k : Nat} {x : MapEntry} : ∀ (l : List MapEntry) (i : Nat), (l.map (·.key)).Nodup → (∀ y ∈ l, ∃ z, y.key = kv z) → x ∈ l → x.key = kv k → ∃ j, Instr.findNow (.int .i64) (kv k) l i = some (some (i + j, x.val)) ∧ l[j]? = some x
  | [], _, _, _, hx, _ => by cases hx
  | y :: l, i, hn, hk, hx, e => by
    rw [List.map_cons, List.nodup_cons] at hn
    obtain ⟨z, hz⟩ := hk y (by simp)
    by_cases hyk : z = k
    · subst hyk
      have hxy : x = y := by
        rcases List.mem_cons.1 hx with h | h
        · exact h
        · exact absurd (List.mem_map.2 ⟨x, h, e.trans hz.symm⟩) hn.1
      subst hxy
      refine ⟨0, ?_, rfl⟩
      unfold Instr.findNow
      rw [hz]
      unfold kv
      rw [sameNow_int, beq_self_eq_true]
      rfl
    · have hx2 : x ∈ l := by
        rcases List.mem_cons.1 hx with h | h
        · subst h
          rw [hz] at e
          exact absurd (kv_inj e) hyk
        · exact h
      obtain ⟨j, h1, h2⟩ := find_mem l (i + 1) hn.2 (fun q hq => hk q (by simp [hq])) hx2 e
      refine ⟨j + 1, ?_, h2⟩
      unfold Instr.findNow
      rw [hz]
      unfold kv at h1 ⊢
      rw [sameNow_int, beq_eq_false_iff_ne.2 (fun q => hyk (by omega))]
      rw [show i + (j + 1) = i + 1 + j by omega]
      exact h1
theorem Es.ints {es : Array MapEntry} {clock : Nat} {S : Nat → Bool} {vs : Nat → Value} (h : Es es clock S vs) : ∀ y ∈ es.toList, ∃ z, y.key = kv z := fun y hy => by
  obtain ⟨k, _, _, e, _⟩ := h.key y hy
  exact ⟨k, e⟩
theorem Es.found {es : Array MapEntry} {clock k : Nat} {S : Nat → Bool} {vs : Nat → Value} (h : Es es clock S vs) (hk : k < 16) (hS : S k = true) : ∃ j x, Instr.findNow (.int .i64) (kv k) es.toList 0 = some (some (j, vs k)) ∧ es.toList[j]? = some x ∧ x.key = kv k := by
  obtain ⟨x, hx, e⟩ := h.all k hk hS
  obtain ⟨j, h1, h2⟩ := find_mem es.toList 0 h.kd h.ints hx e
  obtain ⟨k', _, _, e1, e2⟩ := h.key x hx
  rw [e] at e1
  have := kv_inj e1
  subst this
  rw [e2, Nat.zero_add] at h1
  exact ⟨j, x, h1, h2, e⟩
theorem Es.lost {es : Array MapEntry} {clock k : Nat} {S : Nat → Bool} {vs : Nat → Value} (h : Es es clock S vs) (hS : S k = false) : Instr.findNow (.int .i64) (kv k) es.toList 0 = some none :=
  find_none _ _ 0 (fun x hx => by
    obtain ⟨k', _, h1, e, _⟩ := h.key x hx
    refine ⟨k', e, fun q => ?_⟩
    have : k' = k := by omega
    subst this
    rw [hS] at h1
    cases h1)
theorem zero_cs (w : World) : (zeroValue 34).run Tryz.prog w = .ok (.slice none 0 0) w := by kernel_rfl
theorem key_ok (k : Nat) (w : World) (e : Bool) : (Instr.checkKey e 10000 3 (kv k)).run Tryz.prog w = .ok () w := MapKept.run_checkKey und_i (by simp [MapKept.IsKey, kv]) e 9999
/-- 'm[k]'. -/
theorem Ms.look {w : World} {bm k : Nat} {S : Nat → Bool} {vs : Nat → Value} (h : Ms w bm S vs) (hk : k < 16) (hn : S k = false → vs k = .slice none 0 0) : (Instr.lookup 28 (.map (some bm)) (kv k) false).run Tryz.prog w = .ok (vs k) w := by
  obtain ⟨es, clock, hb, h⟩ := h
  cases hS : S k
  · rw [hn hS]
    simp [Instr.lookup, run_underlying und_m, MapKept.run_getObj_map hb, key_ok, MapKept.run_findKey und_i (h.lost hS), zero_cs, Result.andThen]
  · obtain ⟨j, x, h1, _, _⟩ := h.found hk hS
    simp [Instr.lookup, run_underlying und_m, MapKept.run_getObj_map hb, key_ok, MapKept.run_findKey und_i h1, Result.andThen]
theorem get_modify {l : List MapEntry} {f : MapEntry → MapEntry} {j : Nat} {x : MapEntry} (h : x ∈ l.modify j f) : (∃ y, l[j]? = some y ∧ x = f y) ∨ ∃ i, i ≠ j ∧ l[i]? = some x := by
  obtain ⟨i, hi, rfl⟩ := List.mem_iff_getElem.1 h
  rw [List.length_modify] at hi
  rw [List.getElem_modify]
  split
  · rename_i e
    subst e
    exact .inl ⟨_, List.getElem?_eq_getElem hi, rfl⟩
  · rename_i e
    exact .inr ⟨i, fun q => e q.symm, List.getElem?_eq_getElem hi⟩
theorem map_modify {β : Type} {l : List MapEntry} {f : MapEntry → MapEntry} {j : Nat} (g : MapEntry → β) (h : ∀ y, l[j]? = some y → g (f y) = g y) : (l.modify j f).map g = l.map g := by
  apply List.ext_getElem
  · simp
  · intro i h1 h2
    rw [List.getElem_map, List.getElem_map, List.getElem_modify]
    split
    · rename_i e
      subst e
      exact h _ (List.getElem?_eq_getElem _)
    · rfl
/-- 'm[k] = v'. -/
theorem Ms.put {w : World} {bm k : Nat} {S : Nat → Bool} {vs : Nat → Value} (h : Ms w bm S vs) (hk : k < 16) (v : Value) :
    ∃ w', (Instr.mapUpdate 28 (.map (some bm)) (kv k) v).run Tryz.prog w = .ok () w' ∧ Just bm w w' ∧ w'.heap.size = w.heap.size ∧ Ms w' bm (fun j => j == k || S j) (fun j => if j = k then v else vs j) := by
  obtain ⟨es, clock, hb, h⟩ := h
  cases hS : S k
  · have j := just_setBlock w bm (.map (es.push ⟨kv k, v, clock⟩) (clock + 1))
    have h9 := heap_setBlock (iter_lt hb) (.map (es.push ⟨kv k, v, clock⟩) (clock + 1))
    have hne : ∀ x ∈ es.toList, ∃ q, q < 16 ∧ S q = true ∧ x.key = kv q ∧ x.val = vs q ∧ q ≠ k := fun x hx => by
      obtain ⟨q, h1, h2, h3, h4⟩ := h.key x hx
      exact ⟨q, h1, h2, h3, h4, fun e => by subst e; rw [hS] at h2; cases h2⟩
    refine ⟨setBlock w bm (.map (es.push ⟨kv k, v, clock⟩) (clock + 1)), ?_, j, by simp [setBlock], _, _, h9, ?_, ?_, ?_, ?_, ?_⟩
    · simp [Instr.mapUpdate, run_underlying und_m, MapKept.run_getObj_map hb, key_ok, MapKept.run_findKey und_i (h.lost hS), MapKept.run_setObj_map _ hb, Result.andThen, setBlock]
    · intro x hx
      rw [Array.toList_push, List.mem_append, List.mem_singleton] at hx
      rcases hx with hx | rfl
      · exact Nat.lt_succ_of_lt (h.old x hx)
      · exact Nat.lt_succ_self _
    · rw [Array.toList_push, List.map_append, List.map_singleton, List.nodup_append]
      refine ⟨h.nd, by simp, fun a ha b hb' => ?_⟩
      obtain ⟨x, hx, rfl⟩ := List.mem_map.1 ha
      rw [List.mem_singleton] at hb'
      subst hb'
      have := h.old x hx
      exact Nat.ne_of_lt this
    · intro x hx
      rw [Array.toList_push, List.mem_append, List.mem_singleton] at hx
      rcases hx with hx | rfl
      · obtain ⟨q, h1, h2, h3, h4, h5⟩ := hne x hx
        exact ⟨q, h1, by rw [h2, Bool.or_true], h3, by rw [if_neg h5]; exact h4⟩
      · exact ⟨k, hk, by simp, rfl, by rw [if_pos rfl]⟩
    · intro q hq hSq
      rw [Array.toList_push]
      by_cases e : q = k
      · subst e
        exact ⟨⟨kv q, v, clock⟩, by simp, rfl⟩
      · obtain ⟨x, hx, hx2⟩ := h.all q hq (by simpa [e] using hSq)
        exact ⟨x, by simp [hx], hx2⟩
    · rw [Array.toList_push, List.map_append, List.map_singleton, List.nodup_append]
      refine ⟨h.kd, by simp, fun a ha b hb' => ?_⟩
      obtain ⟨x, hx, rfl⟩ := List.mem_map.1 ha
      rw [List.mem_singleton] at hb'
      subst hb'
      obtain ⟨q, _, _, h3, _, h5⟩ := hne x hx
      show x.key ≠ kv k
      rw [h3]
      exact fun e => h5 (kv_inj e)
  · obtain ⟨j, x0, hf, hj, hx0⟩ := h.found hk hS
    have hkey : ((es[j]?).map (·.key)).getD (kv k) = kv k := by
      rw [← Array.getElem?_toList, hj]
      exact hx0
    have hstay : (Instr.keyThatStays (kv k) (kv k)).run Tryz.prog w = .ok (kv k) w := by
      unfold Instr.keyThatStays
      have : Instr.sameBits 10000 (kv k) (kv k) = true := by
        unfold Instr.sameBits kv
        simp
      rw [if_pos this]
      rfl
    have jj := just_setBlock w bm (.map (es.modify j fun x => { x with key := kv k, val := v }) clock)
    have h9 := heap_setBlock (iter_lt hb) (.map (es.modify j fun x => { x with key := kv k, val := v }) clock)
    refine ⟨setBlock w bm (.map (es.modify j fun x => { x with key := kv k, val := v }) clock), ?_, jj, by simp [setBlock], _, _, h9, ?_, ?_, ?_, ?_, ?_⟩
    · simp only [Instr.mapUpdate, Sem.run_bind, run_underlying und_m, MapKept.run_getObj_map hb, key_ok, MapKept.run_findKey und_i hf, Result.andThen_ok, hkey, hstay, MapKept.run_setObj_map _ hb]
      rfl
    · intro x hx
      rw [Array.toList_modify] at hx
      rcases get_modify hx with ⟨y, hy, rfl⟩ | ⟨i, _, hi⟩
      · exact h.old y (List.mem_of_getElem? hy)
      · exact h.old x (List.mem_of_getElem? hi)
    · have e := map_modify (l := es.toList) (j := j) (f := fun x : MapEntry => { x with key := kv k, val := v }) (fun x : MapEntry => x.born) (fun y _ => rfl)
      rw [Array.toList_modify, e]
      exact h.nd
    · intro x hx
      rw [Array.toList_modify] at hx
      rcases get_modify hx with ⟨y, hy, rfl⟩ | ⟨i, hij, hi⟩
      · exact ⟨k, hk, by simp, rfl, by rw [if_pos rfl]⟩
      · obtain ⟨q, h1, h2, h3, h4⟩ := h.key x (List.mem_of_getElem? hi)
        refine ⟨q, h1, by rw [h2, Bool.or_true], h3, ?_⟩
        rw [if_neg]
        · exact h4
        · intro e
          subst e
          exact hij (nodup_at h.kd hi hj (h3.trans hx0.symm))
    · intro q hq hSq
      rw [Array.toList_modify]
      have hm : ∀ (i : Nat) (y : MapEntry), es.toList[i]? = some y → y.key = kv q → ∃ x ∈ es.toList.modify j (fun x => { x with key := kv k, val := v }), x.key = kv q := fun i y hi hy => by
        have hil := (List.getElem?_eq_some_iff.1 hi).1
        refine ⟨(es.toList.modify j fun x => { x with key := kv k, val := v })[i]'(by simpa using hil), List.getElem_mem _, ?_⟩
        rw [List.getElem_modify]
        split
        · rename_i e
          subst e
          rw [hj] at hi
          injection hi with hi
          subst hi
          show kv k = kv q
          rw [← hx0, hy]
        · rw [(List.getElem?_eq_some_iff.1 hi).2]
          exact hy
      by_cases e : q = k
      · subst e
        exact hm j x0 hj hx0
      · obtain ⟨x, hx, hx2⟩ := h.all q hq (by simpa [e] using hSq)
        obtain ⟨i, hi⟩ := List.mem_iff_getElem?.1 hx
        exact hm i x hi hx2
    · have e := map_modify (l := es.toList) (j := j) (f := fun x : MapEntry => { x with key := kv k, val := v }) (fun x : MapEntry => x.key) (fun y hy => by
        rw [hj] at hy
        injection hy with hy
        subst hy
        exact hx0.symm)
      rw [Array.toList_modify, e]
      exact h.kd
/-- 'delete(m, k)'. -/
theorem Ms.del {w : World} {bm k : Nat} {S : Nat → Bool} {vs : Nat → Value} (h : Ms w bm S vs) (hk : k < 16) (hS : S k = true) (ty : TypeId) :
    ∃ w', (Builtin.delete_ #[28, 3] ty #[.map (some bm), kv k]).run Tryz.prog w = .ok (.tuple #[]) w' ∧ Just bm w w' ∧ w'.heap.size = w.heap.size ∧ Ms w' bm (fun j => !(j == k) && S j) (fun j => if j = k then .slice none 0 0 else vs j) := by
  obtain ⟨es, clock, hb, h⟩ := h
  obtain ⟨j, x0, hf, hj, hx0⟩ := h.found hk hS
  have hjs : j < es.size := by
    have := (List.getElem?_eq_some_iff.1 hj).1
    simpa using this
  have jj := just_setBlock w bm (.map (es.eraseIdxIfInBounds j) clock)
  have h9 := heap_setBlock (iter_lt hb) (.map (es.eraseIdxIfInBounds j) clock)
  have hl : (es.eraseIdxIfInBounds j).toList = es.toList.eraseIdx j := by
    unfold Array.eraseIdxIfInBounds
    rw [dif_pos hjs, Array.toList_eraseIdx]
  have hsub : (es.toList.eraseIdx j).Sublist es.toList := List.eraseIdx_sublist _ _
  refine ⟨setBlock w bm (.map (es.eraseIdxIfInBounds j) clock), ?_, jj, by simp [setBlock], _, _, h9, ?_, ?_, ?_, ?_, ?_⟩
  · simp [Builtin.delete_, run_underlying und_m, MapKept.run_getObj_map hb, key_ok, MapKept.run_findKey und_i hf, MapKept.run_setObj_map _ hb, Result.andThen, setBlock]
  · intro x hx
    rw [hl] at hx
    exact h.old x (hsub.subset hx)
  · rw [hl]
    exact List.Pairwise.sublist (hsub.map _) h.nd
  · intro x hx
    rw [hl] at hx
    obtain ⟨q, h1, h2, h3, h4⟩ := h.key x (hsub.subset hx)
    have hqk : q ≠ k := fun e => by
      subst e
      obtain ⟨i, hij, hi⟩ := List.mem_eraseIdx_iff_getElem?.1 hx
      exact hij (nodup_at h.kd hi hj (h3.trans hx0.symm))
    exact ⟨q, h1, by simp [hqk, h2], h3, by rw [if_neg hqk]; exact h4⟩
  · intro q hq hSq
    rw [Bool.and_eq_true] at hSq
    have hqk : q ≠ k := by simpa using hSq.1
    obtain ⟨x, hx, hx2⟩ := h.all q hq hSq.2
    obtain ⟨i, hi⟩ := List.mem_iff_getElem?.1 hx
    refine ⟨x, ?_, hx2⟩
    rw [hl]
    refine List.mem_eraseIdx_iff_getElem?.2 ⟨i, fun e => ?_, hi⟩
    subst e
    rw [hj] at hi
    injection hi with hi
    subst hi
    rw [hx0] at hx2
    exact hqk (kv_inj hx2).symm
  · rw [hl]
    exact List.Pairwise.sublist (hsub.map _) h.kd
/-- 'len(m)'. -/
theorem Ms.len {w : World} {bm : Nat} {S : Nat → Bool} {vs : Nat → Value} (h : Ms w bm S vs) (ty : TypeId) : (Builtin.len_ #[28] ty #[.map (some bm)]).run Tryz.prog w = .ok (.int .i64 (((List.range 16).filter S).length : Nat)) w := by
  obtain ⟨es, clock, hb, h⟩ := h
  have e1 : es.size = ((List.range 16).filter S).length := by
    have hp : (es.toList.map (·.key)).Perm (((List.range 16).filter S).map kv) := by
      refine (List.perm_ext_iff_of_nodup h.kd ?_).2 (fun a => ?_)
      · exact List.Pairwise.map kv (fun a b hab e => hab (kv_inj e)) (List.Pairwise.filter _ List.nodup_range)
      · constructor
        · intro ha
          obtain ⟨x, hx, rfl⟩ := List.mem_map.1 ha
          obtain ⟨q, h1, h2, h3, _⟩ := h.key x hx
          exact List.mem_map.2 ⟨q, List.mem_filter.2 ⟨List.mem_range.2 h1, h2⟩, h3.symm⟩
        · intro ha
          obtain ⟨q, hq, rfl⟩ := List.mem_map.1 ha
          obtain ⟨h1, h2⟩ := List.mem_filter.1 hq
          obtain ⟨x, hx, hx2⟩ := h.all q (List.mem_range.1 h1) h2
          exact List.mem_map.2 ⟨x, hx, hx2⟩
    have := hp.length_eq
    simpa using this
  rw [← e1]
  simp [Builtin.len_, run_underlying und_m, MapKept.run_getObj_map hb, goInt, Result.andThen]
/-- The rows: each in a block of its own, from lo on. -/
structure Rows16 (w : World) (lo : Nat) (vs : Nat → Value) (F : Nat → List C) : Prop where
  row : ∀ k, k < 16 → MineK w lo 50 5 (vs k) (F k).length (lv (F k))
  apart : ∀ j k, j < 16 → k < 16 → j ≠ k → ∀ q, (vs j).ownBlock = some q → (vs k).ownBlock ≠ some q
theorem mineK_nomap {w : World} {lo : Nat} {e : TypeId} {s n bm : Nat} {v : Value} {V : Nat → Value} {es : Array MapEntry} {clock : Nat} (h : MineK w lo e s v n V) (hb : w.heap[bm]? = some (.map es clock)) : v.ownBlock ≠ some bm := by
  obtain ⟨_, h2⟩ := h
  rcases h2 with ⟨rfl, _⟩ | ⟨g, cap, cur, rfl, _, hh, _⟩
  · intro e
    cases e
  · intro e
    injection e with e
    subst e
    rw [hb] at hh
    cases hh
theorem Rows16.map {w w' : World} {lo bm : Nat} {vs : Nat → Value} {F : Nat → List C} {S : Nat → Bool} {us : Nat → Value} (h : Rows16 w lo vs F) (hb : Ms w bm S us) (j : Just bm w w') : Rows16 w' lo vs F := by
  obtain ⟨es, clock, hb, _⟩ := hb
  refine ⟨fun k hk => (h.row k hk).kept (fun b _ => ?_), h.apart⟩
  by_cases e : b = bm
  · subst e
    exact .inr (mineK_nomap (h.row k hk) hb)
  · by_cases hl : b < w.heap.size
    · exact .inl (j.block b hl e)
    · exact .inr (fun e => by have := ((h.row k hk).lt b e).2; omega)
theorem Rows16.below {w w' : World} {lo : Nat} {vs : Nat → Value} {F : Nat → List C} (h : Rows16 w lo vs F) (j : Below w.heap.size w w') : Rows16 w' lo vs F := ⟨fun k hk => (h.row k hk).below j, h.apart⟩
/-- All of it: the map in block bm says F. -/
structure Dm (w : World) (lo bm : Nat) (vs : Nat → Value) (F : Nat → List C) : Prop where
  ms : Ms w bm (fun k => decide (F k ≠ [])) vs
  rows : Rows16 w lo vs F
  nil : ∀ k, F k = [] → vs k = .slice none 0 0
theorem Dm.below {w w' : World} {lo bm : Nat} {vs : Nat → Value} {F : Nat → List C} (h : Dm w lo bm vs F) (j : Below w.heap.size w w') : Dm w' lo bm vs F := ⟨h.ms.below j, h.rows.below j, h.nil⟩
theorem Dm.look {w : World} {lo bm k : Nat} {vs : Nat → Value} {F : Nat → List C} (h : Dm w lo bm vs F) (hk : k < 16) : (Instr.lookup 28 (.map (some bm)) (kv k) false).run Tryz.prog w = .ok (vs k) w := h.ms.look hk (fun e => h.nil k (by simpa using e))
/-- Row k has been appended to: w1; the new row is stored: w'. -/
theorem Dm.app {w w1 : World} {lo bm k : Nat} {vs : Nat → Value} {F : Nat → List C} {v : Value} {l : List C} (h : Dm w lo bm vs F) (hk : k < 16) (hl : l ≠ []) (hm : MineK w1 lo 50 5 v l.length (lv l)) (hg : w.grownBy w1 (vs k).ownBlock) (hv : v.ownBlock = (vs k).ownBlock ∨ ∃ q, v.ownBlock = some q ∧ w.heap.size ≤ q) :
    ∃ w', (Instr.mapUpdate 28 (.map (some bm)) (kv k) v).run Tryz.prog w1 = .ok () w' ∧ Just bm w1 w' ∧ w'.heap.size = w1.heap.size ∧ Dm w' lo bm (fun j => if j = k then v else vs j) (fun j => if j = k then l else F j) := by
  have hmap : ∀ q, q < 16 → (vs q).ownBlock ≠ some bm := fun q hq => by
    obtain ⟨es, clock, hb, _⟩ := h.ms
    exact mineK_nomap (h.rows.row q hq) hb
  have ms1 : Ms w1 bm (fun k => decide (F k ≠ [])) vs := h.ms.keep (hg.block bm h.ms.lt (fun e => hmap k hk e.symm))
  have rows1 : ∀ j, j < 16 → j ≠ k → MineK w1 lo 50 5 (vs j) (F j).length (lv (F j)) := fun j hj hjk => (h.rows.row j hj).kept (fun b hb => by
    by_cases hlt : b < w.heap.size
    · by_cases e : (vs k).ownBlock = some b
      · exact .inr (h.rows.apart k j hk hj (fun q => hjk q.symm) b e)
      · exact .inl (hg.block b hlt (fun q => e q.symm))
    · exact .inr (fun e => by have := ((h.rows.row j hj).lt b e).2; omega))
  have rows2 : Rows16 w1 lo (fun j => if j = k then v else vs j) (fun j => if j = k then l else F j) := by
    refine ⟨fun j hj => ?_, fun i j hi hj hij q => ?_⟩
    · by_cases e : j = k
      · simp only [if_pos e]
        exact hm
      · simp only [if_neg e]
        exact rows1 j hj e
    · have hnew : ∀ z, z < 16 → z ≠ k → ∀ q, v.ownBlock = some q → (vs z).ownBlock ≠ some q := fun z hz hzk q hq hz2 => by
        rcases hv with e | ⟨q', e, hq'⟩
        · rw [e] at hq
          exact h.rows.apart k z hk hz (fun y => hzk y.symm) q hq hz2
        · rw [e] at hq
          injection hq with hq
          subst hq
          have := ((h.rows.row z hz).lt _ hz2).2
          omega
      by_cases e1 : i = k
      · have e2 : ¬ j = k := fun y => hij (e1.trans y.symm)
        simp only [if_pos e1, if_neg e2]
        exact hnew j hj e2 q
      · by_cases e2 : j = k
        · simp only [if_neg e1, if_pos e2]
          exact fun a b => hnew i hi e1 q b a
        · simp only [if_neg e1, if_neg e2]
          exact h.rows.apart i j hi hj hij q
  obtain ⟨w', h1, h2, h3, h4⟩ := ms1.put hk v
  refine ⟨w', h1, h2, h3, ⟨?_, rows2.map ms1 h2, fun j hj => ?_⟩⟩
  · have e : (fun j => j == k || decide (F j ≠ [])) = fun j => decide ((if j = k then l else F j) ≠ []) := by
      funext j
      by_cases e : j = k
      · simp [e, hl]
      · simp [e]
    rw [← e]
    exact h4
  · by_cases e : j = k
    · simp only [if_pos e] at hj
      exact absurd hj hl
    · simp only [if_neg e] at hj ⊢
      exact h.nil j hj
theorem Dm.drop {w : World} {lo bm k : Nat} {vs : Nat → Value} {F : Nat → List C} (h : Dm w lo bm vs F) (hk : k < 16) (hF : F k ≠ []) (ty : TypeId) :
    ∃ w', (Builtin.delete_ #[28, 3] ty #[.map (some bm), kv k]).run Tryz.prog w = .ok (.tuple #[]) w' ∧ Just bm w w' ∧ w'.heap.size = w.heap.size ∧ Dm w' lo bm (fun j => if j = k then .slice none 0 0 else vs j) (fun j => if j = k then [] else F j) := by
  obtain ⟨w', h1, h2, h3, h4⟩ := h.ms.del hk (by simpa using hF) ty
  refine ⟨w', h1, h2, h3, ⟨?_, ?_, fun j hj => ?_⟩⟩
  · have e : (fun j => !(j == k) && decide (F j ≠ [])) = fun j => decide ((if j = k then [] else F j) ≠ []) := by
      funext j
      by_cases e : j = k
      · simp [e]
      · simp [e]
    rw [← e]
    exact h4
  · have r := h.rows.map h.ms h2
    refine ⟨fun j hj => ?_, fun i j hi hj hij q => ?_⟩
    · by_cases e : j = k
      · simp only [if_pos e]
        exact MineK.nil _ _ _ _ _
      · simp only [if_neg e]
        exact r.row j hj
    · by_cases e1 : i = k
      · simp only [if_pos e1]
        intro a
        cases a
      · by_cases e2 : j = k
        · simp only [if_pos e2]
          intro _ a
          cases a
        · simp only [if_neg e1, if_neg e2]
          exact h.rows.apart i j hi hj hij q
  · by_cases e : j = k
    · simp only [if_pos e]
    · simp only [if_neg e] at hj ⊢
      exact h.nil j hj
end Go.Proofs.YtahcplddonipcaaGreat.Mi
