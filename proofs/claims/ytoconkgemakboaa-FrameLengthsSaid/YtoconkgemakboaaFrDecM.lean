/-
  Package frame (chapter 7): a reader's way through a frame's bytes, plain and by contract: texts of any length.
-/
import Derived.Test.YtoconkgemakboaaFrEnc
import Derived.Test.YtoconkgemakboaaBfHold
set_option maxRecDepth 100000
namespace Go.Proofs.Ytoconkgemakboaa.Fm
set_option linter.unusedVariables false
open Go.RowKit Lb Bf Ie

/-- The text that is told. -/
def txt (l : List Int) (n : Nat) : List Int := if l.length < n then [] else l.take n
theorem lft_zero (l : List Int) : lft l 0 = l := by unfold lft; rw [if_neg (by omega), List.drop_zero]
theorem er_zero (l : List Int) (e : Int) : er l 0 e = e := by unfold er; rw [if_neg (by omega)]
theorem txt_zero (l : List Int) : txt l 0 = [] := by unfold txt; rw [if_neg (by omega), List.take_zero]
theorem txt_ok {l : List Int} {n : Nat} (h : okD' l) : okD' (txt l n) := by
  unfold txt
  split
  · exact okD_nil
  · exact okD_take' h
theorem lft_ok {l : List Int} {n : Nat} (h : okD' l) : okD' (lft l n) := by
  unfold lft
  split
  · exact okD_nil
  · exact okD_drop' h
theorem lft_len (l : List Int) (n : Nat) : (lft l n).length ≤ l.length := by
  unfold lft
  split
  · simp
  · rw [List.length_drop]; omega
theorem txt_len (l : List Int) (n : Nat) : (txt l n).length ≤ l.length := by
  unfold txt
  split
  · simp
  · rw [List.length_take]; omega
theorem get0_ok {l : List Int} (h : okD' l) : 0 ≤ l.getD 0 0 ∧ l.getD 0 0 < 256 := by
  cases l with
  | nil => exact ⟨by decide, by decide⟩
  | cons x m => exact h x (by simp)
/-- What is behind the elements' length. -/
def l1 (R : List Int) (n : Nat) : List Int := lft R n
def e1 (R : List Int) (n : Nat) : Int := er R n 0
def nd (R : List Int) (n : Nat) : Nat := ((l1 R n).getD 0 0).toNat
def l2 (R : List Int) (n : Nat) : List Int := lft (l1 R n) 1
def e2 (R : List Int) (n : Nat) : Int := er (l1 R n) 1 (e1 R n)
def l3 (R : List Int) (n : Nat) : List Int := lft (l2 R n) (nd R n)
def e3 (R : List Int) (n : Nat) : Int := er (l2 R n) (nd R n) (e2 R n)
def dat (R : List Int) (n : Nat) : List Int := txt (l2 R n) (nd R n)
theorem er_two {l : List Int} {n : Nat} : er l n 2 = 2 := by unfold er fst_; split <;> simp
theorem end_two (l : List Int) : endE l 2 = 2 := rfl
theorem parse {R : List Int} {n : Nat} (hd : okD' R) : (endE (l3 R n) (e3 R n) = 0 ∧ ∃ x R8, n ≤ R.length ∧ R.drop n = x :: R8 ∧ R8.length = x.toNat ∧ txt R n = R.take n ∧ dat R n = R8) ∨
    (endE (l3 R n) (e3 R n) ≠ 0 ∧ (R.length < n ∨ R.drop n = [] ∨ ∃ x R8, R.drop n = x :: R8 ∧ R8.length ≠ x.toNat)) := by
  by_cases h1 : R.length < n
  · right
    have a1 : e1 R n = 2 := by unfold e1 er fst_; rw [if_pos h1]; rfl
    have a3 : e3 R n = 2 := by unfold e3 e2; rw [a1, er_two, er_two]
    rw [a3]
    exact ⟨by rw [end_two]; decide, .inl h1⟩
  · have hl1 : l1 R n = R.drop n := by unfold l1 lft; rw [if_neg h1]
    have a1 : e1 R n = 0 := by unfold e1 er; rw [if_neg h1]
    cases hR : R.drop n with
    | nil =>
      right
      have a2 : e2 R n = 2 := by unfold e2; rw [hl1, hR, a1]; rfl
      have a3 : e3 R n = 2 := by unfold e3; rw [a2, er_two]
      rw [a3]
      exact ⟨by rw [end_two]; decide, .inr (.inl rfl)⟩
    | cons x R8 =>
      have hx : nd R n = x.toNat := by unfold nd; rw [hl1, hR]; rfl
      have hl2 : l2 R n = R8 := by unfold l2; rw [hl1, hR]; rfl
      have a2 : e2 R n = 0 := by unfold e2; rw [hl1, hR, a1]; rfl
      by_cases h8 : R8.length < x.toNat
      · right
        have a3 : e3 R n = 2 := by unfold e3 er fst_; rw [hl2, hx, a2, if_pos h8]; rfl
        rw [a3]
        exact ⟨by rw [end_two]; decide, .inr (.inr ⟨x, R8, rfl, by omega⟩)⟩
      · have a3 : e3 R n = 0 := by unfold e3 er; rw [hl2, hx, a2, if_neg h8]
        have hl3 : l3 R n = R8.drop x.toNat := by unfold l3 lft; rw [hl2, hx, if_neg h8]
        by_cases h9 : R8.length = x.toNat
        · left
          refine ⟨?_, x, R8, by omega, rfl, h9, ?_, ?_⟩
          · rw [a3, hl3, List.drop_of_length_le (by omega)]
            rfl
          · unfold txt; rw [if_neg h1]
          · unfold dat txt; rw [hl2, hx, if_neg h8, List.take_of_length_le (by omega)]
        · right
          refine ⟨?_, .inr (.inr ⟨x, R8, rfl, h9⟩)⟩
          rw [a3, hl3]
          unfold endE
          rw [if_pos rfl, if_neg (fun h => by have := congrArg List.length h; rw [List.length_drop] at this; simp at this; omega)]
          decide
theorem decR_no {m k s d q : Int} {n : Nat} {R : List Int} (h : R.length < n ∨ R.drop n = [] ∨ ∃ x R8, R.drop n = x :: R8 ∧ R8.length ≠ x.toNat) : decR (m :: k :: s :: d :: q :: (n : Int) :: R) = .error 3 := by
  unfold decR
  simp only
  rw [Int.toNat_natCast]
  by_cases h1 : R.length < n
  · rw [if_pos h1]
  · rw [if_neg h1]
    rcases h with h | h | ⟨x, R8, h, h8⟩
    · exact absurd h h1
    · rw [h]
    · rw [h]
      simp only
      rw [if_pos h8]
theorem decR_mark {m k s d q : Int} {n : Nat} {R : List Int} (hm : m ≠ 197) : decR (m :: k :: s :: d :: q :: (n : Int) :: R) = .error 3 := by
  unfold decR
  simp only
  rw [Int.toNat_natCast]
  split
  · rfl
  · split
    · rfl
    · split
      · rfl
      · first | rfl | rw [if_pos hm]
theorem decR_e {k s d q x e : Int} {n : Nat} {R R8 : List Int} (h1 : n ≤ R.length) (h2 : R.drop n = x :: R8) (h3 : R8.length = x.toNat) (h4 : decI (R.take n) = .error e) :
    decR (197 :: k :: s :: d :: q :: (n : Int) :: R) = .error e := by
  unfold decR
  simp only
  rw [Int.toNat_natCast, if_neg (by omega), h2]
  simp only
  rw [if_neg (by omega), if_neg (by simp), h4]
theorem decR_ok {k s d q x : Int} {n : Nat} {R R8 : List Int} {l : List El} (h1 : n ≤ R.length) (h2 : R.drop n = x :: R8) (h3 : R8.length = x.toNat) (h4 : decI (R.take n) = .ok l) (hm : mayF ⟨k, s, d, q, l, R8⟩ = true) :
    decR (197 :: k :: s :: d :: q :: (n : Int) :: R) = .ok ⟨k, s, d, q, l, R8⟩ := by
  unfold decR
  simp only
  rw [Int.toNat_natCast, if_neg (by omega), h2]
  simp only
  rw [if_neg (by omega), if_neg (by simp), h4]
  simp only
  rw [if_pos hm]
theorem decR_nm {k s d q x : Int} {n : Nat} {R R8 : List Int} {l : List El} (h1 : n ≤ R.length) (h2 : R.drop n = x :: R8) (h3 : R8.length = x.toNat) (h4 : decI (R.take n) = .ok l) (hm : mayF ⟨k, s, d, q, l, R8⟩ = false) :
    decR (197 :: k :: s :: d :: q :: (n : Int) :: R) = .error 3 := by
  unfold decR
  simp only
  rw [Int.toNat_natCast, if_neg (by omega), h2]
  simp only
  rw [if_neg (by omega), if_neg (by simp), h4]
  simp only
  rw [if_neg (by rw [hm]; simp)]
theorem texth_J (base H b : Nat) (l : List Int) (err : Int) (x : Nat) (w : World) (h : Rh w base H b l err) (hx : 0 < x) :
    Calls Try.prog 42 #[.pointer (some ⟨b, 0, none⟩), .int .i64 (x : Nat)] w fun r w' =>
      Rh w' base H b (lft l x) (er l x err) ∧ Just b w w' ∧ ((x ≤ l.length ∧ r = .returned (.slice (some ⟨w.heap.size, 0, none⟩) x x) ∧ Blk w' w.heap.size 5 x (fun i => .int .u8 (l.getD i 0))) ∨ (l.length < x ∧ r = .returned (.slice none 0 0))) := by
  obtain ⟨hb, j, n, Z, v, h1, hv, h2, h3, h4⟩ := h
  unfold lft er
  by_cases hl : l.length < x
  · rw [if_pos hl, if_pos hl]
    refine (textShortJ base b (8 * j) n Z err (x : Int) v w h1 (by omega) (by omega) (by rw [Int.toNat_natCast]; omega) h3).mono ?_
    rintro r w' ⟨rfl, h5, b5⟩
    exact ⟨rh_nil h5 hb, b5, .inr ⟨hl, rfl⟩⟩
  · rw [if_neg hl, if_neg hl]
    refine (textJ base b j n x Z err v w h1 hx (by omega) h3).mono ?_
    rintro r w' ⟨rfl, hB, h5, b5⟩
    refine ⟨Rh.skip (k := x) hb h5 hv h2 h3 h4 (by omega), b5, .inl ⟨by omega, rfl, hB.ext (fun i hi => by rw [h4 i (by omega)])⟩⟩
theorem textf_any (base H b : Nat) (l : List Int) (err : Int) (x : Nat) (w : World) (h : Rh w base H b l err) :
    Calls Try.prog 42 #[.pointer (some ⟨b, 0, none⟩), .int .i64 (x : Nat)] w fun r w' =>
      ∃ a c, r = .returned (.slice a (txt l x).length c) ∧ (txt l x).length ≤ c ∧ c ≤ maxLen ∧ Row w' a (txt l x).length (bval (txt l x)) ∧ (∀ q, a = some q → w.heap.size ≤ q.block ∧ q.block < w'.heap.size) ∧ Rh w' base H b (lft l x) (er l x err) ∧ Just b w w' := by
  by_cases h0 : x = 0
  · subst h0
    rw [txt_zero, lft_zero, er_zero]
    refine (text_neg b ((0 : Nat) : Int) w (by omega)).mono ?_
    rintro r w' ⟨rfl, rfl⟩
    exact ⟨none, 0, rfl, Nat.le_refl _, Nat.zero_le _, Row.nil _ _ _, (fun q e => by cases e), h, Just.refl _ _⟩
  · have hb : l.length ≤ 100000 := by
      obtain ⟨_, j, n, Z, v, _, _, h1, h2, _⟩ := h
      omega
    refine (texth_J base H b l err x w h (by omega)).mono ?_
    rintro r w' ⟨h1, h2, ⟨h3, rfl, h4⟩ | ⟨h3, rfl⟩⟩
    · have ht : txt l x = l.take x := by unfold txt; rw [if_neg (by omega)]
      have hl : (l.take x).length = x := by rw [List.length_take]; omega
      rw [ht]
      refine ⟨some ⟨w.heap.size, 0, none⟩, x, by rw [hl], by rw [hl]; exact Nat.le_refl _, by unfold maxLen; omega, ?_, (fun q e => by injection e with e; subst e; exact ⟨Nat.le_refl _, h4.lt⟩), h1, h2⟩
      rw [hl]
      exact Row.own h4 (fun i hi => by simp [hi, bval])
    · have ht : txt l x = [] := by unfold txt; rw [if_pos h3]
      rw [ht]
      exact ⟨none, 0, rfl, Nat.le_refl _, Nat.zero_le _, Row.nil _ _ _, (fun q e => by cases e), h1, h2⟩
theorem ftake_any (base H b : Nat) (l : List Int) (err : Int) (w : World) (h : Rh w base H b l err) (hd : okD' l) :
    Calls Try.prog 41 #[.pointer (some ⟨b, 0, none⟩)] w fun r w' => r = .returned (.int .i64 (l.getD 0 0)) ∧ Rh w' base H b (lft l 1) (er l 1 err) ∧ Just b w w' := by
  have hx := get0_ok hd
  have ht := take8h_any base H b l err w h
  obtain ⟨x, hxx⟩ : ∃ x, l.getD 0 0 = x := ⟨_, rfl⟩
  rw [hxx] at hx ht ⊢
  have HT := Lib.hid ht
  clear hxx ht
  go_enter Try.func41, Try.ntmps41
  go_wp2_with fail
  refine HT.out.mono ?_
  rintro r w2 ⟨rfl, h2, j2⟩
  go_wp2_with fail
  go_ret
  exact ⟨rfl, h2, j2⟩
theorem ftake_cons (base H b : Nat) (x : Int) (l : List Int) (w : World) (h : Rh w base H b (x :: l) 0) (hd : okD' (x :: l)) :
    Calls Try.prog 41 #[.pointer (some ⟨b, 0, none⟩)] w fun r w' => r = .returned (.int .i64 x) ∧ Rh w' base H b l 0 ∧ Just b w w' := by
  refine (ftake_any base H b (x :: l) 0 w h hd).mono ?_
  rintro r w' ⟨rfl, h1, h2⟩
  unfold lft er at h1
  rw [if_neg (by simp), if_neg (by simp)] at h1
  exact ⟨rfl, h1, h2⟩
theorem take8_cons (base H b : Nat) (x : Int) (l : List Int) (w : World) (h : Rh w base H b (x :: l) 0) :
    Calls Try.prog 40 #[.pointer (some ⟨b, 0, none⟩), .int .i64 8] w fun r w' => r = .returned (.int .u64 x) ∧ Rh w' base H b l 0 ∧ Just b w w' := by
  refine (take8h_any base H b (x :: l) 0 w h).mono ?_
  rintro r w' ⟨rfl, h1, h2⟩
  unfold lft er at h1
  rw [if_neg (by simp), if_neg (by simp)] at h1
  exact ⟨rfl, h1, h2⟩
end Go.Proofs.Ytoconkgemakboaa.Fm
