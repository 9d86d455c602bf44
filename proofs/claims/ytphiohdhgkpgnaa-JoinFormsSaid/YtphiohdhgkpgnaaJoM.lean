/-
  Joining (chapter 18): requests and grants as bytes, their seals; bytes as these.
-/
import Derived.Test.YtphiohdhgkpgnaaBfDec
import Derived.Test.YtphiohdhgkpgnaaSealWalks
import Derived.Test.YtphiohdhgkpgnaaRowC
set_option maxRecDepth 100000
namespace Go.Proofs.Ytphiohdhgkpgnaa.Jo
set_option linter.unusedVariables false
open Go.RowKit Lb Bf Se Cl

def nodeB (n : Int) : Bool := decide (0 ≤ n ∧ n < 16)
def otherB (n me : Int) : Bool := nodeB n && n != me
theorem nodeB_iff {n : Int} : nodeB n = true ↔ 0 ≤ n ∧ n < 16 := by unfold nodeB; simp
/-- A request. -/
structure Rq where
  nd : Int
  pa : Int
  no : Int
  co : Int
  tg : Int
def Rq.vals (r : Rq) : Array Value := #[.int .i64 r.nd, .int .i64 r.pa, .int .u32 r.no, .int .u32 r.co, .int .u32 r.tg]
def Rq.wide (r : Rq) : Prop := In32 r.no ∧ In32 r.co
def Rq.none : Rq := ⟨0, 0, 0, 0, 0⟩
def b4 (x : Int) : List Int := bytesK x.toNat 4
theorem b4_len (x : Int) : (b4 x).length = 4 := bytesK_len _ _
def bval (l : List Int) (i : Nat) : Value := .int .u8 (l.getD i 0)
def okB (l : List Int) : Prop := ∀ x, x ∈ l → 0 ≤ x ∧ x < 256
theorem okB_nil : okB [] := fun x h => absurd h (by simp)
theorem okB_app {l m : List Int} (h : okB l) (h' : okB m) : okB (l ++ m) := fun x hx => by
  rcases List.mem_append.1 hx with e | e
  · exact h x e
  · exact h' x e
theorem okB_one {x : Int} (h : 0 ≤ x ∧ x < 256) : okB [x] := fun y hy => by rw [List.mem_singleton.1 hy]; exact h
theorem okB_b4 (x : Int) : okB (b4 x) := fun y hy => by
  unfold b4 bytesK at hy
  obtain ⟨t, _, rfl⟩ := List.mem_map.1 hy
  omega
theorem okB_drop {l : List Int} (h : okB l) (k : Nat) : okB (l.drop k) := fun x hx => h x (List.mem_of_mem_drop hx)
theorem okB_take {l : List Int} (h : okB l) (k : Nat) : okB (l.take k) := fun x hx => h x (List.mem_of_mem_take hx)
theorem okB_at {l : List Int} (h : okB l) (i : Nat) : 0 ≤ l.getD i 0 ∧ l.getD i 0 < 256 := by
  rw [List.getD_eq_getElem?_getD]
  by_cases hi : i < l.length
  · rw [List.getElem?_eq_getElem hi]
    exact h _ (List.getElem_mem hi)
  · rw [List.getElem?_eq_none (by omega)]
    exact ⟨Int.le_refl _, by decide⟩
/-- A request's bytes, but the tag. -/
def askB (r : Rq) : List Int := [74] ++ [r.nd] ++ [r.pa] ++ b4 r.no ++ b4 r.co
theorem askB_len (r : Rq) : (askB r).length = 11 := by simp [askB, b4_len]
theorem askB_ok {r : Rq} (h1 : nodeB r.nd = true) (h2 : nodeB r.pa = true) : okB (askB r) := by
  rw [nodeB_iff] at h1 h2
  exact okB_app (okB_app (okB_app (okB_app (okB_one (by decide)) (okB_one (by omega))) (okB_one (by omega))) (okB_b4 _)) (okB_b4 _)
def tagL (key : Int) (l : List Int) : Int := tag key (fun i => l.getD i 0) l.length
theorem tagL_in (key : Int) (l : List Int) : In32 (tagL key l) := tag_in _ _ _
def sealL (key : Int) (l : List Int) : List Int := l ++ b4 (tagL key l)
theorem sealL_len (key : Int) (l : List Int) : (sealL key l).length = l.length + 4 := by unfold sealL; rw [List.length_append, b4_len]
/-- A grant; its cells. -/
def cellB (c : C) : List Int := [c.f] ++ [c.s] ++ [c.c] ++ [c.o] ++ [c.p]
def cellsB (L : Nat → C) : Nat → List Int
  | 0 => []
  | n + 1 => cellsB L n ++ cellB (L n)
theorem cellsB_len (L : Nat → C) : ∀ n, (cellsB L n).length = 5 * n
  | 0 => rfl
  | n + 1 => by
    have : (cellB (L n)).length = 5 := rfl
    rw [cellsB, List.length_append, cellsB_len L n, this]
    omega
structure Gt where
  nd : Int
  cd : Int
  no : Int
  n : Nat
  L : Nat → C
  tg : Int
def Gt.vals (g : Gt) (a : Option Addr) (c : Nat) : Array Value := #[.int .i64 g.nd, .int .i64 g.cd, .int .u32 g.no, .slice a g.n c, .int .u32 g.tg]
def giveB (g : Gt) : List Int := [71] ++ [g.nd] ++ [g.cd] ++ b4 g.no ++ [(g.n : Int)] ++ cellsB g.L g.n
theorem giveB_len (g : Gt) : (giveB g).length = 8 + 5 * g.n := by
  unfold giveB
  simp only [List.length_append, List.length_cons, List.length_nil, b4_len, cellsB_len]
def n4 (l : List Int) (k : Nat) : Int := ((l.getD k 0 * 256 + l.getD (k + 1) 0) * 256 + l.getD (k + 2) 0) * 256 + l.getD (k + 3) 0
theorem n4_in {l : List Int} (h : okB l) (k : Nat) : In32 (n4 l k) := by
  have h0 := okB_at h k
  have h1 := okB_at h (k + 1)
  have h2 := okB_at h (k + 2)
  have h3 := okB_at h (k + 3)
  unfold n4 In32
  omega
theorem b4_get (x : Int) (h : In32 x) : (b4 x).getD 0 0 = x / 16777216 ∧ (b4 x).getD 1 0 = x / 65536 % 256 ∧ (b4 x).getD 2 0 = x / 256 % 256 ∧ (b4 x).getD 3 0 = x % 256 := by
  obtain ⟨h0, h1⟩ := h
  obtain ⟨N, rfl⟩ := Int.eq_ofNat_of_zero_le h0
  unfold b4
  rw [Int.toNat_natCast]
  refine ⟨?_, ?_, ?_, ?_⟩
  · rw [bytesK_at _ _ _ (by decide)]
    simp only [Nat.shiftRight_eq_div_pow]
    omega
  · rw [bytesK_at _ _ _ (by decide)]
    simp only [Nat.shiftRight_eq_div_pow]
    omega
  · rw [bytesK_at _ _ _ (by decide)]
    simp only [Nat.shiftRight_eq_div_pow]
    omega
  · rw [bytesK_at _ _ _ (by decide)]
    simp only [Nat.shiftRight_eq_div_pow]
    omega
theorem n4_b4 (x : Int) (h : In32 x) : n4 (b4 x) 0 = x := by
  obtain ⟨h0, h1, h2, h3⟩ := b4_get x h
  unfold n4
  rw [h0, h1, h2, h3]
  obtain ⟨p, q⟩ := h
  omega
theorem getD_append_right {l m : List Int} {i : Nat} (h : l.length ≤ i) : (l ++ m).getD i 0 = m.getD (i - l.length) 0 := by
  rw [getD_app, if_neg (by omega)]
theorem getD_append_left {l m : List Int} {i : Nat} (h : i < l.length) : (l ++ m).getD i 0 = l.getD i 0 := by
  rw [getD_app, if_pos h]
theorem n4_right {l m : List Int} {k : Nat} (h : l.length ≤ k) : n4 (l ++ m) k = n4 m (k - l.length) := by
  unfold n4
  rw [getD_append_right h, getD_append_right (by omega), getD_append_right (by omega), getD_append_right (by omega), show k + 1 - l.length = k - l.length + 1 by omega, show k + 2 - l.length = k - l.length + 2 by omega, show k + 3 - l.length = k - l.length + 3 by omega]
theorem n4_left {l m : List Int} {k : Nat} (h : k + 3 < l.length) : n4 (l ++ m) k = n4 l k := by
  unfold n4
  rw [getD_append_left (by omega), getD_append_left (by omega), getD_append_left (by omega), getD_append_left (by omega)]
end Go.Proofs.Ytphiohdhgkpgnaa.Jo
