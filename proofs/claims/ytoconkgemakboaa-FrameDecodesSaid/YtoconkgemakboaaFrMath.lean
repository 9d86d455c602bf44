/-
  Package frame (chapter 7): frames as plain data; which may be; their bytes, and back.
-/
import Derived.Test.YtoconkgemakboaaIeBack
import Derived.Test.YtoconkgemakboaaIeSames
import Derived.Test.YtoconkgemakboaaIeFind
import Derived.Test.YtoconkgemakboaaCrcA
set_option maxRecDepth 100000
namespace Go.Proofs.Ytoconkgemakboaa.Fm
set_option linter.unusedVariables false
open Go.RowKit Lb Bf Ie

structure Fr where
  k : Int
  s : Int
  d : Int
  q : Int
  ies : List El
  data : List Int
def ndB (x : Int) : Bool := decide (0 ≤ x ∧ x < 16)
def kindB (f : Fr) : Bool :=
  if f.k = 2 ∨ f.k = 4 then (f.d != 64) && (f.data.length == 0)
  else if f.k = 3 then (f.d == 64) && ((f.data.length == 0) && (fstE f.ies 1).isSome)
  else if f.k = 1 ∨ f.k = 5 then (f.d != 64) && decide (0 < f.data.length)
  else false
def dstB (f : Fr) : Bool := !(f.d == f.s) && ((f.d == 64) || ndB f.d)
def mayF (f : Fr) : Bool := ndB f.s && (decide (0 ≤ f.q) && (decide (f.q ≤ 255) && (decide (f.data.length ≤ 64) && (mayL f.ies && (dstB f && kindB f)))))
theorem mayF_out {f : Fr} (h : mayF f = true) : (0 ≤ f.s ∧ f.s < 16) ∧ (0 ≤ f.q ∧ f.q ≤ 255) ∧ f.data.length ≤ 64 ∧ mayL f.ies = true ∧ (0 ≤ f.d ∧ f.d ≤ 64) ∧ (1 ≤ f.k ∧ f.k ≤ 5) := by
  unfold mayF at h
  simp only [Bool.and_eq_true, decide_eq_true_eq] at h
  obtain ⟨h1, h2, h3, h4, h5, h6, h7⟩ := h
  unfold ndB at h1
  rw [decide_eq_true_eq] at h1
  refine ⟨h1, ⟨h2, h3⟩, h4, h5, ?_, ?_⟩
  · unfold dstB at h6
    rw [Bool.and_eq_true, Bool.or_eq_true] at h6
    rcases h6.2 with h | h
    · rw [beq_iff_eq] at h; omega
    · unfold ndB at h; rw [decide_eq_true_eq] at h; omega
  · unfold kindB at h7
    split at h7
    · omega
    · split at h7
      · omega
      · split at h7
        · omega
        · cases h7
/-- A row as a function of places. -/
def fn (l : List Int) (i : Nat) : Int := l.getD i 0
theorem fn_byte {l : List Int} (h : okD' l) : Cr.Byte (fn l) := fun i => by
  unfold fn
  by_cases hi : i < l.length
  · rw [List.getD_eq_getElem?_getD, List.getElem?_eq_getElem hi]
    exact h _ (List.getElem_mem hi)
  · rw [List.getD_eq_getElem?_getD, List.getElem?_eq_none (by omega)]
    exact ⟨by decide, by decide⟩
def sumL (l : List Int) : Nat := Cr.crc (fn l) l.length
def appL (l : List Int) : List Int := l ++ [((sumL l % 256 : Nat) : Int), ((sumL l / 256 : Nat) : Int)]
def goodL (l : List Int) : Bool := Cr.goodb (fn l) l.length
theorem appL_len (l : List Int) : (appL l).length = l.length + 2 := by simp [appL]
theorem appL_fn (l : List Int) (i : Nat) (h : i < l.length + 2) : fn (appL l) i = Cr.app (fn l) l.length i := by
  unfold fn appL Cr.app
  by_cases h1 : i < l.length
  · rw [if_pos h1, List.getD_eq_getElem?_getD, List.getElem?_append_left h1, ← List.getD_eq_getElem?_getD]
  · rw [if_neg h1, List.getD_eq_getElem?_getD, List.getElem?_append_right (by omega)]
    by_cases h2 : i = l.length
    · rw [if_pos h2, h2, Nat.sub_self]
      rfl
    · rw [if_neg h2, show i - l.length = 1 by omega]
      rfl
theorem sumL_lt {l : List Int} (h : okD' l) : sumL l < 65536 := Cr.crc_lt (fn_byte h) _
theorem appL_ok {l : List Int} (h : okD' l) : okD' (appL l) := fun x hx => by
  have := sumL_lt h
  unfold appL at hx
  rcases List.mem_append.1 hx with h1 | h1
  · exact h x h1
  · simp at h1
    omega
theorem goodL_app {l : List Int} (h : okD' l) : goodL (appL l) = true := by
  unfold goodL Cr.goodb
  rw [appL_len]
  have e : Cr.crc (fn (appL l)) (l.length + 2) = Cr.crc (Cr.app (fn l) l.length) (l.length + 2) := Cr.crc_same _ (fun i hi => appL_fn l i hi)
  simp only [e, Cr.app_zero (fn_byte h)]
  simp
theorem fn_take {l : List Int} {n i : Nat} (h : i < n) : fn (l.take n) i = fn l i := tk_get h
theorem goodL_is {L : List Int} (h : okD' L) (hg : goodL L = true) (hl : 2 ≤ L.length) : appL (L.take (L.length - 2)) = L := by
  obtain ⟨n, hn⟩ : ∃ n, L.length = n + 2 := ⟨L.length - 2, by omega⟩
  unfold goodL at hg
  rw [hn] at hg
  obtain ⟨h1, h2⟩ := (Cr.goodb_iff (fn_byte h) n).1 hg
  have ht : (L.take (L.length - 2)).length = n := by rw [List.length_take]; omega
  have hs : sumL (L.take (L.length - 2)) = Cr.crc (fn L) n := by
    unfold sumL
    rw [ht]
    exact Cr.crc_same n (fun i hi => fn_take (by omega))
  apply list_eq
  · rw [appL_len, ht, hn]
  · intro j hj
    rw [appL_len, ht] at hj
    have e1 := appL_fn (L.take (L.length - 2)) j (by rw [ht]; exact hj)
    unfold fn at e1
    rw [e1]
    unfold Cr.app
    rw [ht]
    have hs2 : Cr.crc (fn (L.take (L.length - 2))) n = Cr.crc (fn L) n := Cr.crc_same n (fun i hi => fn_take (by omega))
    have hs3 : Cr.crc (fun i => (L.take (L.length - 2)).getD i 0) n = Cr.crc (fn L) n := hs2
    by_cases c1 : j < n
    · rw [if_pos c1]
      exact tk_get (by omega)
    · rw [if_neg c1]
      by_cases c2 : j = n
      · rw [if_pos c2, hs3, c2]
        exact h1.symm
      · rw [if_neg c2, hs3, show j = n + 1 by omega]
        exact h2.symm
def encR (f : Fr) : List Int := [197, f.k, f.s, f.d, f.q, ((encI f.ies).length : Int)] ++ encI f.ies ++ [(f.data.length : Int)] ++ f.data
def encF (f : Fr) : List Int := appL (encR f)
theorem encR_len (f : Fr) : (encR f).length = 7 + (encI f.ies).length + f.data.length := by
  unfold encR
  simp only [List.length_append, List.length_cons, List.length_nil]
  omega
theorem encF_len (f : Fr) : (encF f).length = 9 + (encI f.ies).length + f.data.length := by
  unfold encF
  rw [appL_len, encR_len]
  omega
def decR (R : List Int) : Except Int Fr :=
  match R with
  | m :: k :: s :: d :: q :: ne :: R6 =>
    if R6.length < ne.toNat then .error 3
    else match R6.drop ne.toNat with
      | [] => .error 3
      | nd :: R8 =>
        if R8.length ≠ nd.toNat then .error 3
        else if m ≠ 197 then .error 3
        else match decI (R6.take ne.toNat) with
          | .error e => .error e
          | .ok l => if mayF ⟨k, s, d, q, l, R8⟩ = true then .ok ⟨k, s, d, q, l, R8⟩ else .error 3
  | _ => .error 3
def decF (L : List Int) : Except Int Fr :=
  if L.length < 9 then .error 2
  else if goodL L = false then .error 4
  else decR (L.take (L.length - 2))
theorem bytesK_ok (N k : Nat) : okD' (bytesK N k) := fun x hx => by
  unfold bytesK at hx
  rw [List.mem_map] at hx
  obtain ⟨t, _, rfl⟩ := hx
  omega
theorem okD_app {l m : List Int} (h : okD' l) (k : okD' m) : okD' (l ++ m) := fun x hx => (List.mem_append.1 hx).elim (h x) (k x)
theorem okD_one {x : Int} (h : 0 ≤ x ∧ x < 256) : okD' [x] := fun y hy => by rw [List.mem_singleton.1 hy]; exact h
theorem okD_nil : okD' [] := fun x hx => by cases hx
theorem okD_cons {x : Int} {l : List Int} (h : 0 ≤ x ∧ x < 256) (k : okD' l) : okD' (x :: l) := fun y hy => by
  rcases List.mem_cons.1 hy with e | e
  · rw [e]; exact h
  · exact k y e
theorem okD_octs {l : List Int} (h : octsB l = true) : okD' l := fun x hx => by
  unfold octsB at h
  rw [decide_eq_true_eq] at h
  obtain ⟨i, hi, rfl⟩ := List.getElem_of_mem hx
  have := h i hi
  rw [List.getD_eq_getElem?_getD, List.getElem?_eq_getElem hi] at this
  simp only [Option.getD_some] at this
  omega
theorem encOne_ok {e : El} (h : mayE e = true) : okD' (encOne e) := by
  obtain ⟨k, a, r, t, l⟩ := e
  rcases mayE_kind h with h1 | h1 | h1 | h1
  · have h1 : k = 1 := h1
    subst h1
    rw [may1] at h
    simp only [Bool.and_eq_true, decide_eq_true_eq] at h
    unfold encOne
    simp only [if_pos]
    exact okD_app (okD_app (okD_app (okD_one (by omega)) (okD_one (by omega))) (bytesK_ok _ _)) (okD_one (by omega))
  · have h1 : k = 2 := h1
    subst h1
    unfold encOne
    rw [if_neg (by simp), if_pos rfl]
    exact okD_app (okD_app (okD_one (by omega)) (okD_one (by omega))) (bytesK_ok _ _)
  all_goals
    have h1 : k = _ := h1
    subst h1
    rw [may3 _ _ _ _ _ (by omega)] at h
    simp only [Bool.and_eq_true, decide_eq_true_eq] at h
    unfold encOne
    rw [if_neg (by simp), if_neg (by simp)]
    exact okD_app (okD_app (okD_one (by simp)) (okD_one (by simp; omega))) (okD_octs h.1)
theorem encL_ok : ∀ l : List El, (∀ e, e ∈ l → mayE e = true) → okD' (encL l)
  | [], _ => fun x hx => by cases hx
  | e :: l, h => okD_app (encOne_ok (h e (by simp))) (encL_ok l fun x hx => h x (by simp [hx]))
theorem encI_ok {l : List El} (h : mayL l = true) : okD' (encI l) ∧ (encI l).length ≤ 73 := by
  unfold mayL at h
  rw [Bool.and_eq_true, decide_eq_true_eq, List.all_eq_true] at h
  refine ⟨okD_app (okD_one (by omega)) (encL_ok l h.2), ?_⟩
  have := encL_take_len (l := l) (fun k hk => h.2 _ (List.getElem_mem hk)) l.length (Nat.le_refl _)
  rw [List.take_length] at this
  unfold encI
  simp
  omega
theorem encR_ok {f : Fr} (h : mayF f = true) (hd : okD' f.data) : okD' (encR f) := by
  obtain ⟨h1, h2, h3, h4, h5, h6⟩ := mayF_out h
  obtain ⟨h7, h8⟩ := encI_ok h4
  unfold encR
  refine okD_app (okD_app (okD_app ?_ h7) (okD_one (by omega))) hd
  exact okD_cons (by omega) (okD_cons (by omega) (okD_cons (by omega) (okD_cons (by omega) (okD_cons (by omega) (okD_one (by omega))))))
theorem encF_ok {f : Fr} (h : mayF f = true) (hd : okD' f.data) : okD' (encF f) := appL_ok (encR_ok h hd)
theorem decR_enc {f : Fr} (h : mayF f = true) : decR (encR f) = .ok f := by
  obtain ⟨h1, h2, h3, h4, h5, h6⟩ := mayF_out h
  have e : encR f = 197 :: f.k :: f.s :: f.d :: f.q :: ((encI f.ies).length : Int) :: (encI f.ies ++ ((f.data.length : Int) :: f.data)) := by unfold encR; simp
  rw [e]
  unfold decR
  simp only
  rw [Int.toNat_natCast, if_neg (by rw [List.length_append]; omega), List.drop_left, List.take_left]
  simp only
  rw [Int.toNat_natCast, if_neg (by simp), if_neg (by simp), decI_enc h4]
  simp only
  rw [if_pos h]
theorem decF_enc {f : Fr} (h : mayF f = true) (hd : okD' f.data) : decF (encF f) = .ok f := by
  unfold decF
  rw [if_neg (by rw [encF_len]; omega)]
  have hg := goodL_app (encR_ok h hd)
  unfold encF at hg ⊢
  rw [if_neg (by rw [hg]; simp), appL_len, Nat.add_sub_cancel]
  have : (appL (encR f)).take (encR f).length = encR f := by unfold appL; rw [List.take_left]
  rw [this]
  exact decR_enc h
theorem decR_back {R : List Int} {f : Fr} (hd : okD' R) (h : decR R = .ok f) : mayF f = true ∧ encR f = R ∧ okD' f.data := by
  unfold decR at h
  match R, h with
  | m :: k :: s :: d :: q :: ne :: R6, h =>
    simp only at h
    split at h
    · cases h
    · rename_i hl
      cases hR : R6.drop ne.toNat with
      | nil => rw [hR] at h; cases h
      | cons nd R8 =>
        rw [hR] at h
        simp only at h
        split at h
        · cases h
        · rename_i hn
          split at h
          · cases h
          · rename_i hm
            cases hI : decI (R6.take ne.toNat) with
            | error e => rw [hI] at h; cases h
            | ok l =>
              rw [hI] at h
              simp only at h
              split at h
              · rename_i hmay
                injection h with h
                subst h
                have hd6 : okD' R6 := fun x hx => hd x (by simp [hx])
                have hne := hd ne (by simp)
                have hd8 : okD' (nd :: R8) := by rw [← hR]; exact okD_drop' hd6
                have hnd := hd8 nd (by simp)
                obtain ⟨g1, g2⟩ := decI_back (okD_take' hd6) hI
                have hm : m = 197 := by omega
                have hlen : (encI l).length = ne.toNat := by rw [g2, List.length_take]; omega
                refine ⟨hmay, ?_, fun x hx => hd8 x (by simp [hx])⟩
                unfold encR
                simp only
                rw [hlen, g2, hm, Int.toNat_of_nonneg hne.1]
                have h6 : R6 = R6.take ne.toNat ++ (nd :: R8) := by rw [← hR, List.take_append_drop]
                have hnd2 : ((R8.length : Nat) : Int) = nd := by omega
                rw [hnd2]
                conv => rhs; rw [h6]
                simp
              · cases h
  | [], h => cases h
  | [_], h => cases h
  | [_, _], h => cases h
  | [_, _, _], h => cases h
  | [_, _, _, _], h => cases h
  | [_, _, _, _, _], h => cases h
theorem decF_back {L : List Int} {f : Fr} (hd : okD' L) (h : decF L = .ok f) : mayF f = true ∧ encF f = L ∧ okD' f.data := by
  unfold decF at h
  split at h
  · cases h
  · rename_i hl
    split at h
    · cases h
    · rename_i hg
      obtain ⟨h1, h2, h3⟩ := decR_back (okD_take' hd) h
      refine ⟨h1, ?_, h3⟩
      unfold encF
      rw [h2]
      exact goodL_is hd (by simpa using hg) (by omega)
end Go.Proofs.Ytoconkgemakboaa.Fm
