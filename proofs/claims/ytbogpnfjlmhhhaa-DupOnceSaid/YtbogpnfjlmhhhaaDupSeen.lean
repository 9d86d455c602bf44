/-
  A map of pairs: its keys; 'm[k]++'.
-/
import Derived.Test.YtbogpnfjlmhhhaaDupRef
import Derived.Maps.OwnSet
import Derived.Maps.Views
import Derived.WideKeyEntry
import Derived.WideKeyPair
import Derived.DeepKeys4
set_option maxRecDepth 100000
namespace Go.Proofs.Ytbogpnfjlmhhhaa.Dp
set_option linter.unusedVariables false
open Go.RowKit Lb Go.Maps Go.WideMaps
theorem laidB : laidOutB Try.prog = true := by kernel_rfl
theorem zeroJ (w : World) : (zeroValue 3).run Try.prog w = .ok (.int .i64 0) w := by kernel_rfl
theorem row2 : (43 : TypeId) < Try.prog.types.size := of_decide_eq_true (by kernel_rfl)
theorem cells2 : Try.prog.cellsOf 43 = 2 := by kernel_rfl
theorem arr2 : ArrKey Try.prog 43 3 2 := ⟨Try.underlying43, by kernel_rfl, by kernel_rfl, cells2⟩
theorem wide2 : (match Try.prog.underlying 43 with | some (.array _ _) | some (.struct _) => true | _ => false) = true := by rw [Try.underlying43]
theorem klaw2 : KeyLaw Try.prog 43 := deep_law_laid laidB (m := 2) (by omega) row2 (by kernel_rfl) wide2
theorem law2 : Keyed Try.prog 43 := Keyed.of_law klaw2
def pk (a b : Int) : Lit := .string (keyBytes [.int .i64 a, .int .i64 b])
theorem pk_key (a b : Int) : WideAt.IsKeyLit (pk a b) := trivial
theorem key2 {a b : Int} (ha : (Lit.int .i64 a).wf = true) (hb : (Lit.int .i64 b).wf = true) : keyOf Try.prog 43 (.agg #[.int .i64 a, .int .i64 b]) = some (pk a b) := keyOf_pair arr2 Try.underlying3 ⟨_, rfl⟩ ha hb
theorem pk_inj {a b c d : Int} (ha : (Lit.int .i64 a).wf = true) (hb : (Lit.int .i64 b).wf = true) (hc : (Lit.int .i64 c).wf = true) (hd : (Lit.int .i64 d).wf = true) (h : pk a b = pk c d) : a = c ∧ b = d := by
  have h1 := key2 ha hb
  have h2 := key2 hc hd
  rw [← h] at h2
  have := klaw2.inj h1 h2
  injection this with this
  have e0 := congrArg (fun l : Array Value => l[0]?) this
  have e1 := congrArg (fun l : Array Value => l[1]?) this
  simp at e0 e1
  exact ⟨e0, e1⟩
section
open Go.ChangeShapes Go.WideShapes Go.ChangeMaps Go.WideElems
variable {P : Program} {w : World} {t k e : TypeId} {q : IntKind} {b n : Nat} {D : Dt}
/-- 'm[k]++' and its like: the look-up, the entry that is made ready, and what is stored there, the look-up ahead of it or behind. -/
theorem entry_own (K : KeyLaw P k) (ht : P.underlying t = some (.map k e)) (he : P.underlying e = some (.int q)) (hz : ∀ u : World, (zeroValue e).run P u = .ok (.int q 0) u) (hown : w.ownsMap P k (plainElem P e) b n D) (hn : n < maxLen)
    {key : Value} {kl : Lit} (hkey : keyOf P k key = some kl) :
    ∃ (c : Int) (v0 : Value) (st : Nat) (w1 : World), (Instr.lookup t (.map (some b)) key false).run P w = .ok (.int q c) w ∧ D.atKey kl (.lit (.int q 0)) = .lit (.int q c) ∧
      (Instr.mapEntry t (.map (some b)) key).run P w = .ok (.tuple #[v0, goInt st]) w1 ∧ (Instr.lookup t (.map (some b)) key false).run P w1 = .ok (.int q c) w1 ∧
      ∀ z : Int, (Lit.int q z).wf = true → ∃ w2, (Instr.entryStore t (.map (some b)) (goInt st) (.int q z)).run P w1 = .ok () w2 ∧ w2.ownsMap P k (plainElem P e) b (n + 1) (D.put kl (.lit (.int q z))) ∧ w.grownBy w2 (some b) := by
  have K2 := Keyed.of_law K
  obtain ⟨c, hl, hat, hwc⟩ := hown.lookup_int K2 ht he (hz w) hkey
  have hupd := fun (z : Int) (hz : (Lit.int q z).wf = true) => hown.update (t := t) (e := e) K2 ht hn (val := .int q z) hkey (plainElem_int he hz)
  obtain ⟨es, clock, hb, F, hs, hD⟩ := hown
  have hkeys : ∀ x ∈ es.toList, ∃ l, keyOf P k x.key = some l := F.keys
  obtain ⟨v0, st, es1, clock1, hm, hcase, hst⟩ := entry_then_store (P := P) (w := w) K ht hz hb F hkey
  obtain ⟨w1, hw1⟩ : ∃ w1, w1 = setBlock w b (.map es1 clock1) := ⟨_, rfl⟩
  have hb1 : w1.heap[b]? = some (.map es1 clock1) := by rw [hw1]; exact heap_setBlock_same hb _
  refine ⟨c, v0, st, w1, hl, hat, by rw [hw1]; exact hm, ?_, fun z hz => ?_⟩
  · rcases K.find w hkey es.toList F.keys with ⟨h1, h2⟩ | ⟨j, e0, h1, h2, h3⟩
    · have hm' : (Instr.mapEntry t (.map (some b)) key).run P w = .ok (.tuple #[.int q 0, goInt clock]) (setBlock w b (.map (es.push ⟨key, .int q 0, clock⟩) (clock + 1))) := by
        simp [Instr.mapEntry, run_underlying ht, MapKept.run_getObj_map hb, K.check w false hkey, h1, hz, MapKept.run_setObj_map _ hb, Result.andThen, setBlock]
      have e1 : es1 = es.push ⟨key, .int q 0, clock⟩ := by
        rw [hm] at hm'
        injection hm' with _ e
        have e2 : w1.heap[b]? = some (.map (es.push ⟨key, .int q 0, clock⟩) (clock + 1)) := by rw [hw1, e]; exact heap_setBlock_same hb _
        rw [hb1] at e2
        injection e2 with e2
        injection e2
      have hc0 : c = 0 := by
        have : (Instr.lookup t (.map (some b)) key false).run P w = .ok (.int q 0) w := by
          simp [Instr.lookup, run_underlying ht, MapKept.run_getObj_map hb, K.check w _ hkey, h1, hz, Result.andThen]
        rw [hl] at this
        injection this with e _
        injection e
      subst hc0
      rw [e1] at hb1
      rcases K.find w1 hkey (es.push ⟨key, .int q 0, clock⟩).toList (fun x hx => by
        rw [Array.toList_push, List.mem_append, List.mem_singleton] at hx
        rcases hx with hx | rfl
        · exact F.keys x hx
        · exact ⟨_, hkey⟩) with ⟨g1, g2⟩ | ⟨j, e0, g1, g2, g3⟩
      · exact absurd rfl (g2 ⟨key, .int q 0, clock⟩ (by simp))
      · have hv : e0.val = .int q 0 := by
          have hx := List.mem_of_getElem? g2
          rw [Array.toList_push, List.mem_append, List.mem_singleton] at hx
          rcases hx with hx | rfl
          · exact absurd g3 (h2 _ hx)
          · rfl
        rw [hv] at g1
        simp [Instr.lookup, run_underlying ht, MapKept.run_getObj_map hb1, K.check w1 _ hkey, Array.toList_push] at g1 ⊢
        simp [g1, Result.andThen]
    · have hj : es[j]? = some e0 := by simpa using h2
      have hsame : es.modify j (fun e => { e with key := key }) = es := by
        apply Array.ext'
        rw [Array.toList_modify, modify_eq_set _ _ _ _ h2]
        have : ({ e0 with key := key } : MapEntry) = e0 := by rw [← h3]
        rw [this]
        exact set_self _ _ _ h2
      have hm' : (Instr.mapEntry t (.map (some b)) key).run P w = .ok (.tuple #[e0.val, goInt e0.born]) (setBlock w b (.map es clock)) := by
        simp [Instr.mapEntry, run_underlying ht, MapKept.run_getObj_map hb, K.check w false hkey, h1, hj, h3, K.stays w hkey, hsame, MapKept.run_setObj_map _ hb, Result.andThen, setBlock]
      have hb2 : w1.heap[b]? = some (.map es clock) := by
        rw [hm] at hm'
        injection hm' with _ e
        rw [hw1, e]
        exact heap_setBlock_same hb _
      have hown1 : w1.ownsMap P k (plainElem P e) b n D := ⟨es, clock, hb2, F, hs, hD⟩
      obtain ⟨c', hl', hat', _⟩ := hown1.lookup_int K2 ht he (hz w1) hkey
      have e1 := (Lit.int.inj (DataW.lit.inj (hat.symm.trans hat'))).2
      rw [e1]
      exact hl'
  · obtain ⟨es', clock', hst1, hmu⟩ := hst w1 (.int q z) hb1
    obtain ⟨w', hu1, hu2, hu3⟩ := hupd z hz
    have e1 : setBlock w1 b (.map es' clock') = w' := by
      rw [hmu] at hu1
      injection hu1 with _ e
      rw [← e, hw1]
      simp [setBlock]
    exact ⟨w', by rw [hst1, e1], hu2, hu3⟩
end
end Go.Proofs.Ytbogpnfjlmhhhaa.Dp
