/-
  A map of pairs: its keys; 'm[k]++'; how often each was counted.
-/
import Derived.Test.YtahcplddonipcaaGreatLib
import Derived.Maps.Range
import Derived.Maps.OwnSet
import Derived.Maps.Views
import Derived.WideKeyEntry
import Derived.WideKeyPair
import Derived.DeepKeys4
set_option linter.unusedSimpArgs false
set_option maxRecDepth 100000
namespace Go.Proofs.YtahcplddonipcaaGreat.Dp
set_option linter.unusedVariables false
set_option linter.unusedSimpArgs false
open Go.RowKit Lb Go.Maps Go.WideMaps
theorem laidB : laidOutB Tryz.prog = true := by kernel_rfl
theorem zeroJ (w : World) : (zeroValue 3).run Tryz.prog w = .ok (.int .i64 0) w := by kernel_rfl
theorem row2 : (51 : TypeId) < Tryz.prog.types.size := of_decide_eq_true (by kernel_rfl)
theorem cells2 : Tryz.prog.cellsOf 51 = 2 := by kernel_rfl
theorem arr2 : ArrKey Tryz.prog 51 3 2 := ⟨Tryz.underlying51, by kernel_rfl, by kernel_rfl, cells2⟩
theorem wide2 : (match Tryz.prog.underlying 51 with | some (.array _ _) | some (.struct _) => true | _ => false) = true := by rw [Tryz.underlying51]
theorem klaw2 : KeyLaw Tryz.prog 51 := deep_law_laid laidB (m := 2) (by omega) row2 (by kernel_rfl) wide2
theorem law2 : Keyed Tryz.prog 51 := Keyed.of_law klaw2
abbrev Dt := DataW Unit
def pk (a b : Int) : Lit := .string (keyBytes [.int .i64 a, .int .i64 b])
theorem pk_key (a b : Int) : WideAt.IsKeyLit (pk a b) := trivial
theorem key2 {a b : Int} (ha : (Lit.int .i64 a).wf = true) (hb : (Lit.int .i64 b).wf = true) : keyOf Tryz.prog 51 (.agg #[.int .i64 a, .int .i64 b]) = some (pk a b) := keyOf_pair arr2 Tryz.underlying3 ⟨_, rfl⟩ ha hb
theorem pk_inj {a b c d : Int} (ha : (Lit.int .i64 a).wf = true) (hb : (Lit.int .i64 b).wf = true) (hc : (Lit.int .i64 c).wf = true) (hd : (Lit.int .i64 d).wf = true) (h : pk a b = pk c d) : a = c ∧ b = d := by
  have h1 := key2 ha hb
  have h2 := key2 hc hd
  rw [← h] at h2
  have := klaw2.inj h1 h2
  injection this with this
  have e0 := congrArg (fun l : Array Value => l[0]?) this
  have e1 := congrArg (fun l : Array Value => l[1]?) this
  simp at e0 e1
  exact ⟨e0, e1⟩
section
open Go.ChangeShapes Go.WideShapes Go.ChangeMaps Go.WideElems
variable {P : Program} {w : World} {t k e : TypeId} {q : IntKind} {b n : Nat} {D : Dt}
/-- 'm[k]++' and its like: the look-up, the entry that is made ready, and what is stored there, the look-up ahead of it or behind. -/
theorem entry_own (K : KeyLaw P k) (ht : P.underlying t = some (.map k e)) (he : P.underlying e = some (.int q)) (hz : ∀ u : World, (zeroValue e).run P u = .ok (.int q 0) u) (hown : w.ownsMap P k (plainElem P e) b n D) (hn : n < maxLen)
    {key : Value} {kl : Lit} (hkey : keyOf P k key = some kl) :
    ∃ (c : Int) (v0 : Value) (st : Nat) (w1 : World), (Instr.lookup t (.map (some b)) key false).run P w = .ok (.int q c) w ∧ D.atKey kl (.lit (.int q 0)) = .lit (.int q c) ∧
      (Instr.mapEntry t (.map (some b)) key).run P w = .ok (.tuple #[v0, goInt st]) w1 ∧ (Instr.lookup t (.map (some b)) key false).run P w1 = .ok (.int q c) w1 ∧
      ∀ z : Int, (Lit.int q z).wf = true → ∃ w2, (Instr.entryStore t (.map (some b)) (goInt st) (.int q z)).run P w1 = .ok () w2 ∧ w2.ownsMap P k (plainElem P e) b (n + 1) (D.put kl (.lit (.int q z))) ∧ w.grownBy w2 (some b) := by
  have K2 := Keyed.of_law K
  obtain ⟨c, hl, hat, hwc⟩ := hown.lookup_int K2 ht he (hz w) hkey
  have hupd := fun (z : Int) (hz : (Lit.int q z).wf = true) => hown.update (t := t) (e := e) K2 ht hn (val := .int q z) hkey (plainElem_int he hz)
  obtain ⟨es, clock, hb, F, hs, hD⟩ := hown
  have hkeys : ∀ x ∈ es.toList, ∃ l, keyOf P k x.key = some l := F.keys
  obtain ⟨v0, st, es1, clock1, hm, hcase, hst⟩ := entry_then_store (P := P) (w := w) K ht hz hb F hkey
  obtain ⟨w1, hw1⟩ : ∃ w1, w1 = setBlock w b (.map es1 clock1) := ⟨_, rfl⟩
  have hb1 : w1.heap[b]? = some (.map es1 clock1) := by rw [hw1]; exact heap_setBlock_same hb _
  refine ⟨c, v0, st, w1, hl, hat, by rw [hw1]; exact hm, ?_, fun z hz => ?_⟩
  · rcases K.find w hkey es.toList F.keys with ⟨h1, h2⟩ | ⟨j, e0, h1, h2, h3⟩
    · have hm' : (Instr.mapEntry t (.map (some b)) key).run P w = .ok (.tuple #[.int q 0, goInt clock]) (setBlock w b (.map (es.push ⟨key, .int q 0, clock⟩) (clock + 1))) := by
        simp [Instr.mapEntry, run_underlying ht, MapKept.run_getObj_map hb, K.check w false hkey, h1, hz, MapKept.run_setObj_map _ hb, Result.andThen, setBlock]
      have e1 : es1 = es.push ⟨key, .int q 0, clock⟩ := by
        rw [hm] at hm'
        injection hm' with _ e
        have e2 : w1.heap[b]? = some (.map (es.push ⟨key, .int q 0, clock⟩) (clock + 1)) := by rw [hw1, e]; exact heap_setBlock_same hb _
        rw [hb1] at e2
        injection e2 with e2
        injection e2
      have hc0 : c = 0 := by
        have : (Instr.lookup t (.map (some b)) key false).run P w = .ok (.int q 0) w := by
          simp [Instr.lookup, run_underlying ht, MapKept.run_getObj_map hb, K.check w _ hkey, h1, hz, Result.andThen]
        rw [hl] at this
        injection this with e _
        injection e
      subst hc0
      rw [e1] at hb1
      rcases K.find w1 hkey (es.push ⟨key, .int q 0, clock⟩).toList (fun x hx => by
        rw [Array.toList_push, List.mem_append, List.mem_singleton] at hx
        rcases hx with hx | rfl
        · exact F.keys x hx
        · exact ⟨_, hkey⟩) with ⟨g1, g2⟩ | ⟨j, e0, g1, g2, g3⟩
      · exact absurd rfl (g2 ⟨key, .int q 0, clock⟩ (by simp))
      · have hv : e0.val = .int q 0 := by
          have hx := List.mem_of_getElem? g2
          rw [Array.toList_push, List.mem_append, List.mem_singleton] at hx
          rcases hx with hx | rfl
          · exact absurd g3 (h2 _ hx)
          · rfl
        rw [hv] at g1
        simp [Instr.lookup, run_underlying ht, MapKept.run_getObj_map hb1, K.check w1 _ hkey, Array.toList_push] at g1 ⊢
        simp [g1, Result.andThen]
    · have hj : es[j]? = some e0 := by simpa using h2
      have hsame : es.modify j (fun e => { e with key := key }) = es := by
        apply Array.ext'
        rw [Array.toList_modify, modify_eq_set _ _ _ _ h2]
        have : ({ e0 with key := key } : MapEntry) = e0 := by rw [← h3]
        rw [this]
        exact set_self _ _ _ h2
      have hm' : (Instr.mapEntry t (.map (some b)) key).run P w = .ok (.tuple #[e0.val, goInt e0.born]) (setBlock w b (.map es clock)) := by
        simp [Instr.mapEntry, run_underlying ht, MapKept.run_getObj_map hb, K.check w false hkey, h1, hj, h3, K.stays w hkey, hsame, MapKept.run_setObj_map _ hb, Result.andThen, setBlock]
      have hb2 : w1.heap[b]? = some (.map es clock) := by
        rw [hm] at hm'
        injection hm' with _ e
        rw [hw1, e]
        exact heap_setBlock_same hb _
      have hown1 : w1.ownsMap P k (plainElem P e) b n D := ⟨es, clock, hb2, F, hs, hD⟩
      obtain ⟨c', hl', hat', _⟩ := hown1.lookup_int K2 ht he (hz w1) hkey
      have e1 := (Lit.int.inj (DataW.lit.inj (hat.symm.trans hat'))).2
      rw [e1]
      exact hl'
  · obtain ⟨es', clock', hst1, hmu⟩ := hst w1 (.int q z) hb1
    obtain ⟨w', hu1, hu2, hu3⟩ := hupd z hz
    have e1 : setBlock w1 b (.map es' clock') = w' := by
      rw [hmu] at hu1
      injection hu1 with _ e
      rw [← e, hw1]
      simp [setBlock]
    exact ⟨w', by rw [hst1, e1], hu2, hu3⟩
end
abbrev OwnS (w : World) (m k : Nat) (D : Dt) : Prop := w.ownsMap Tryz.prog 51 (plainElem Tryz.prog 3) m k D
def In64 (a : Int) : Prop := (Lit.int .i64 a).wf = true
theorem ownS_same {w w' : World} {m k : Nat} {D : Dt} (h : OwnS w m k D) (he : w'.heap[m]? = w.heap[m]?) : OwnS w' m k D := by
  obtain ⟨es, clock, hb, rest⟩ := h
  exact ⟨es, clock, he.trans hb, rest⟩
theorem ownS_made (w : World) : OwnS (w.alloc (.map #[] 0)) w.heap.size 0 (.map []) := World.ownsMap_made (H := Unit) w Tryz.prog 51 (plainElem Tryz.prog 3)
theorem in64 {a : Int} (h0 : 0 ≤ a) (h1 : a < 100000) : In64 a := by
  unfold In64 Lit.wf
  have e1 : IntKind.i64.min = -9223372036854775808 := by decide
  have e2 : IntKind.i64.max = 9223372036854775807 := by decide
  simp [e1, e2]
  omega
/-- D counts what g says. -/
structure Cnt (D : Dt) (g : Int → Int → Nat) : Prop where
  map : IsMap D
  at_ : ∀ a b, In64 a → In64 b → D.atKey (pk a b) (.lit (.int .i64 0)) = .lit (.int .i64 ((g a b : Nat) : Int))
  has : ∀ kl, Go.Maps.has D kl = true → ∃ a b, In64 a ∧ In64 b ∧ kl = pk a b ∧ 0 < g a b
theorem cnt_nil : Cnt (.map []) (fun _ _ => 0) := ⟨isMap_empty, fun a b _ _ => rfl, fun kl h => (by cases h)⟩
theorem cnt_put {D : Dt} {g : Int → Int → Nat} (h : Cnt D g) {a b : Int} (ha : In64 a) (hb : In64 b) : Cnt (D.put (pk a b) (.lit (.int .i64 ((g a b : Nat) + 1 : Int)))) (fun x y => if x = a ∧ y = b then g a b + 1 else g x y) := by
  refine ⟨IsMap.put h.map _ _, fun x y hx hy => ?_, fun kl hk => ?_⟩
  · by_cases e : x = a ∧ y = b
    · obtain ⟨rfl, rfl⟩ := e
      rw [atKey_put_same h.map (pk_key _ _)]
      simp
    · rw [atKey_put_other (fun q => e (pk_inj hx hy ha hb q)), h.at_ x y hx hy]
      simp [e]
  · by_cases e : kl = pk a b
    · exact ⟨a, b, ha, hb, e, by simp⟩
    · rw [has_put_other e] at hk
      obtain ⟨x, y, hx, hy, rfl, h0⟩ := h.has kl hk
      have e2 : ¬ (x = a ∧ y = b) := fun q => e (by rw [q.1, q.2])
      exact ⟨x, y, hx, hy, rfl, by simp only [if_neg e2]; exact h0⟩
/-- 'm[[2]int{a, b}]++'. -/
theorem cnt_entry {w : World} {gm k : Nat} {D : Dt} {g : Int → Int → Nat} {a b : Int} (h : OwnS w gm k D) (hc : Cnt D g) (hk : k < 100000) (hg : g a b < 90000) (ha : In64 a) (hb : In64 b) :
    ∃ (v0 : Value) (st : Nat) (w1 w2 : World) (D2 : Dt), (Instr.lookup 48 (.map (some gm)) (.agg #[.int .i64 a, .int .i64 b]) false).run Tryz.prog w = .ok (.int .i64 ((g a b : Nat) : Int)) w ∧
      (Instr.mapEntry 48 (.map (some gm)) (.agg #[.int .i64 a, .int .i64 b])).run Tryz.prog w = .ok (.tuple #[v0, .int .i64 (st : Int)]) w1 ∧
      (Instr.lookup 48 (.map (some gm)) (.agg #[.int .i64 a, .int .i64 b]) false).run Tryz.prog w1 = .ok (.int .i64 ((g a b : Nat) : Int)) w1 ∧
      (Instr.entryStore 48 (.map (some gm)) (.int .i64 (st : Int)) (.int .i64 ((g a b : Nat) + 1 : Int))).run Tryz.prog w1 = .ok () w2 ∧
      OwnS w2 gm (k + 1) D2 ∧ Cnt D2 (fun x y => if x = a ∧ y = b then g a b + 1 else g x y) ∧ w.grownBy w2 (some gm) := by
  obtain ⟨cc, v0, st, w1, q1, q2, q3, q4, q5⟩ := entry_own klaw2 Tryz.underlying48 Tryz.underlying3 zeroJ h (Nat.lt_of_lt_of_le hk (by decide)) (key2 ha hb)
  have e : cc = ((g a b : Nat) : Int) := (Lit.int.inj (DataW.lit.inj (q2.symm.trans (hc.at_ a b ha hb)))).2
  subst e
  obtain ⟨w2, q6, q7, q8⟩ := q5 ((g a b : Nat) + 1 : Int) (in64 (by omega) (by omega))
  exact ⟨v0, st, w1, w2, _, q1, q3, q4, q6, q7, cnt_put hc ha hb, q8⟩
end Go.Proofs.YtahcplddonipcaaGreat.Dp
