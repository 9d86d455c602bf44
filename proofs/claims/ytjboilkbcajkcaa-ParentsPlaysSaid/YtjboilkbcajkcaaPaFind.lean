/-
  Package parents: slices.IndexFunc, slices.DeleteFunc, by whatever test that only makes memory.
-/
import Derived.Test.YtjboilkbcajkcaaPaWalks
import Derived.Shelf.Abstract
set_option maxRecDepth 100000
namespace Go.Proofs.Ytjboilkbcajkcaa.Pa
set_option linter.unusedVariables false
open Go.RowKit Lb

/-- The function g, with what it has captured, says p of each, in whatever world that keeps OK; it only makes memory. -/
def Says (g : FuncId) (lb : Value) (p : P → Bool) (OK : World → Prop) : Prop :=
  ∀ (x : P) (w : World), OK w → Calls Try.prog g #[.agg #[.int .i64 x.n, .int .i64 x.r, .int .i64 x.h], lb] w fun e w' => e = .returned (.bool (p x)) ∧ Below w.heap.size w w'
def IdxOf (p : P → Bool) (l : List P) (z : Int) : Prop := (z = -1 ∧ ∀ j, j < l.length → p (at_ l j) = false) ∨ ∃ k : Nat, k < l.length ∧ z = k ∧ p (at_ l k) = true ∧ ∀ j, j < k → p (at_ l j) = false
def IdxPost (p : P → Bool) (l : List P) (w : World) (r : Ending) (w' : World) : Prop := ∃ z : Int, r = .returned (.int .i64 z) ∧ IdxOf p l z ∧ Below w.heap.size w w'
set_option maxHeartbeats 1000000 in
theorem idx_any (a : Option Addr) (n m : Nat) (l : List P) (g : FuncId) (lb : Value) (p : P → Bool) (OK : World → Prop) (w : World) (eg : ∀ args w, (callFunc g args).run Try.prog w = .ok (.enter g args) w) (hg : Says g lb p OK) (hO : OK w) (hok : ∀ W W', Below W.heap.size W W' → OK W → OK W')
    (hR : Row w a (n * 3) (pv l)) (hl : l.length = n) (hn : n ≤ 100000) :
    Calls Try.prog 44 #[.slice a n m, .func (.func g) #[] #[lb]] w (IdxPost p l w) := by
  have HR := Lib.hid hR
  have HL := Lib.hid hl
  have HG := Lib.hid hg
  have HOK := Lib.hid hok
  have HO := Lib.hid hO
  clear hR hl hg hok hO
  go_enter Try.func44, Try.ntmps44
  go_wp2_with fail
  go_loopw [8] (fun i wr => ∃ k : Nat, i = .int .i64 k ∧ k ≤ n ∧ Hid (∀ j, j < k → p (at_ l j) = false) ∧ Hid (OK wr) ∧ Below w.heap.size w wr) (fun i _ => n - (intOf i).toNat)
  case atStart => exact ⟨0, rfl, by omega, Lib.hid (fun j hj => by omega), HO, Below.refl _ _⟩
  case round =>
    obtain ⟨k, rfl, hk, HN, HO1, b1⟩ := hrel
    by_cases hlt : k < n
    · obtain ⟨b, off, rfl, hbl, c0, c1, c2⟩ := prow HR.out b1 hlt
      have htk := HG.out (at_ l k) wr HO1.out
      obtain ⟨x, hx⟩ : ∃ x, at_ l k = x := ⟨_, rfl⟩
      have HX := Lib.hid hx
      rw [hx] at c0 c1 c2 htk
      clear hx
      cases hs : p x
      · have HN2 : Hid (∀ j, j < k + 1 → p (at_ l j) = false) := Lib.hid (fun j hj => by
          by_cases e : j = k
          · subst e; rw [HX.out]; exact hs
          · exact HN.out j (by omega))
        rw [hs] at htk
        clear hs
        go_wp2_with (go_at_fn g; refine htk.mono ?_; rintro r w5 ⟨rfl, b5⟩)
        exact ⟨⟨k + 1, by simp, by omega, HN2, Lib.hid (HOK.out _ _ b5 HO1.out), b1.trans (b5.mono b1.size)⟩, by simp [intOf]; omega⟩
      · have HT : Hid (IdxOf p l (k : Int)) := Lib.hid (.inr ⟨k, by rw [HL.out]; exact hlt, rfl, by rw [HX.out]; exact hs, HN.out⟩)
        rw [hs] at htk
        clear hs
        go_wp2_with (go_at_fn g; refine htk.mono ?_; rintro r w5 ⟨rfl, b5⟩)
        go_ret
        exact ⟨_, rfl, HT.out, b1.trans (b5.mono b1.size)⟩
    · have HT : Hid (IdxOf p l (-1)) := Lib.hid (.inl ⟨rfl, fun j hj => HN.out j (by rw [HL.out] at hj; omega)⟩)
      go_wp2_with fail
      go_ret
      exact ⟨_, rfl, HT.out, b1⟩
end Go.Proofs.Ytjboilkbcajkcaa.Pa
