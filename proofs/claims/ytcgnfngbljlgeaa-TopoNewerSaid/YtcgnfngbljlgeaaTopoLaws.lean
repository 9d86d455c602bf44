/-
  Layer 20: what a graph keeps, whatever is said; lists; the graph that every program must know; graphs that are made of calls.
-/
import Derived.Test.YtcgnfngbljlgeaaTopoRef
import Derived.Test.YtcgnfngbljlgeaaTopoArg
import Derived.Deep.CutRange
set_option maxRecDepth 100000
namespace Go.Proofs.Ytcgnfngbljlgeaa.Tp
set_option linter.unusedVariables false
open Go.RowKit Lb

def Fine (N : Nat) (Q : Nat → Nat → Int) : Prop := 1 ≤ N ∧ N ≤ 16 ∧ ∀ a b, 0 ≤ Q a b ∧ Q a b ≤ 255 ∧ Q a a = 0 ∧ (N ≤ a ∨ N ≤ b → Q a b = 0)
theorem fine_new (x : Int) : Fine (min (max x 1) 16).toNat (fun _ _ => 0) := ⟨by omega, by omega, fun a b => ⟨Int.le_refl _, by show (0 : Int) ≤ 255; decide, rfl, fun _ => rfl⟩⟩
theorem hasB_iff {N : Nat} {x : Int} : hasB N x = true ↔ 0 ≤ x ∧ x < (N : Int) := by unfold hasB; simp
theorem rowR_ok {N m : Nat} {L : Nat → Lk} : ∀ n, okR N m L n = true → ∀ j, 0 ≤ rowR L n j ∧ rowR L n j ≤ 255 ∧ rowR L n m = 0 ∧ (N ≤ j → rowR L n j = 0)
  | 0, _, j => ⟨Int.le_refl _, by show (0 : Int) ≤ 255; decide, rfl, fun _ => rfl⟩
  | n + 1, h, j => by
    unfold okR at h
    simp only [Bool.and_eq_true] at h
    obtain ⟨h1, h2⟩ := h
    obtain ⟨r1, r2, r3, r4⟩ := rowR_ok n h1 j
    unfold good1 at h2
    simp only [Bool.and_eq_true, decide_eq_true_eq, bne_iff_ne] at h2
    obtain ⟨⟨⟨⟨_, hb⟩, hh⟩, hq⟩, _⟩ := h2
    rw [hasB_iff] at hh
    refine ⟨?_, ?_, ?_, ?_⟩
    · unfold rowR; split <;> omega
    · unfold rowR; split <;> omega
    · unfold rowR; rw [if_neg (by omega)]; exact r3
    · intro hj; unfold rowR; rw [if_neg (by omega)]; exact r4 hj
theorem fine_rep {N : Nat} {Q : Nat → Nat → Int} (h : Fine N Q) (me : Int) (L : Nat → Lk) (n : Nat) : Fine N (repTo N Q me L n) := by
  unfold repTo
  split
  · next hr =>
    unfold repB at hr
    simp only [Bool.and_eq_true] at hr
    obtain ⟨⟨h1, _⟩, h3⟩ := hr
    rw [hasB_iff] at h1
    obtain ⟨m, rfl⟩ := Int.eq_ofNat_of_zero_le h1.1
    obtain ⟨f1, f2, f3⟩ := h
    refine ⟨f1, f2, fun a b => ?_⟩
    obtain ⟨q1, q2, q3, q4⟩ := f3 a b
    obtain ⟨r1, r2, r3, r4⟩ := rowR_ok n h3 b
    by_cases ha : a = m
    · subst ha
      simp only [Int.toNat_natCast, if_true]
      exact ⟨r1, r2, r3, fun hx => r4 (by omega)⟩
    · simp only [Int.toNat_natCast, if_neg ha]
      exact ⟨q1, q2, q3, q4⟩
  · exact h
theorem fine_gone {N : Nat} {Q : Nat → Nat → Int} (h : Fine N Q) (x : Int) : Fine N (goneTo N Q x) := by
  unfold goneTo
  split
  · obtain ⟨f1, f2, f3⟩ := h
    refine ⟨f1, f2, fun a b => ?_⟩
    obtain ⟨q1, q2, q3, q4⟩ := f3 a b
    unfold gone
    refine ⟨by split <;> omega, by split <;> omega, by split <;> omega, fun hx => ?_⟩
    split
    · rfl
    · exact q4 hx
  · exact h

def hasL (l : List Nat) (x : Int) : Bool := l.any fun y => (y : Int) == x
theorem hasL_take (l : List Nat) (x : Int) : hasL l x = false ↔ ∀ i, i < l.length → ((l.getD i 0 : Nat) : Int) ≠ x := by
  unfold hasL
  rw [List.any_eq_false]
  constructor
  · intro h i hi
    have := h (l[i]) (List.getElem_mem hi)
    rw [List.getD_eq_getElem?_getD, List.getElem?_eq_getElem hi]
    simpa using this
  · intro h y hy
    obtain ⟨i, hi, rfl⟩ := List.mem_iff_getElem.1 hy
    have := h i hi
    rw [List.getD_eq_getElem?_getD, List.getElem?_eq_getElem hi] at this
    simpa using this
theorem hasL_at {l : List Nat} {x : Int} {i : Nat} (hi : i < l.length) (h : ((l.getD i 0 : Nat) : Int) = x) : hasL l x = true := by
  cases e : hasL l x
  · exact absurd h ((hasL_take l x).1 e i hi)
  · rfl
theorem has_list (a : Option Addr) (c : Nat) (l : List Nat) (x : Int) (w : World) (hn : l.length ≤ c) (hc : c ≤ maxLen) (h : Row w a l.length (ln l)) :
    Calls Try.prog 18 #[.slice a l.length c, .int .i64 x] w fun r w' => r = .returned (.bool (hasL l x)) ∧ w = w' := by
  obtain ⟨n, hl⟩ : ∃ n, l.length = n := ⟨_, rfl⟩
  rw [hl] at h hn ⊢
  have HL := Lib.hid hl
  have hcap : (n : Int) ≤ 9223372036854775807 := by unfold maxLen at hc; omega
  clear hl
  go_enter Try.func18, Try.ntmps18
  go_wp2_with fail
  go_loopw [9] (fun i wr => ∃ k : Nat, i = .int .i64 k ∧ k ≤ n ∧ Hid (∀ j, j < k → ((l.getD j 0 : Nat) : Int) ≠ x) ∧ w = wr) (fun i _ => n - (intOf i).toNat)
  case atStart => exact ⟨0, rfl, by omega, Lib.hid (fun j hj => by omega), rfl⟩
  case round =>
    obtain ⟨k, rfl, hk, HN, rfl⟩ := hrel
    by_cases hlt : k < n
    · obtain ⟨b, o, rfl, hb, c0⟩ := h.at_ hlt
      unfold ln at c0
      obtain ⟨y, hy⟩ : ∃ y : Nat, l.getD k 0 = y := ⟨_, rfl⟩
      have HY := Lib.hid hy
      rw [hy] at c0
      clear hy
      by_cases hxy : (y : Int) = x
      · have HD : Hid (hasL l x = true) := Lib.hid (hasL_at (i := k) (by rw [HL.out]; exact hlt) (by rw [HY.out]; exact hxy))
        have e1 : ((y : Int) == x) = true := by simpa using hxy
        clear hxy
        go_wp2_with fail
        go_ret
        exact ⟨by rw [HD.out]; rfl, rfl⟩
      · have HN2 : Hid (∀ j, j < k + 1 → ((l.getD j 0 : Nat) : Int) ≠ x) := Lib.hid (fun j hj => by
          by_cases e : j = k
          · subst e; rw [HY.out]; exact hxy
          · exact HN.out j (by omega))
        have e1 : ((y : Int) == x) = false := by simpa using hxy
        clear hxy
        go_wp2_with fail
        first
          | exact ⟨⟨k + 1, by simp, by omega, HN2, trivial⟩, by simp [intOf]; omega⟩
          | exact ⟨⟨k + 1, by simp [intOf], by omega, HN2, rfl⟩, by simp [intOf]; omega⟩
          | exact ⟨⟨_, _, ⟨k + 1, by simp, by omega, HN2⟩, rfl, rfl⟩, by simp [intOf]; omega⟩
    · obtain rfl : n = k := by omega
      have HD : Hid (hasL l x = false) := Lib.hid ((hasL_take l x).2 (by rw [HL.out]; exact HN.out))
      go_wp2_with fail
      go_ret
      exact ⟨by rw [HD.out]; rfl, rfl⟩

def LkA (i : Nat) : Lk := if i = 0 then ⟨0, 1, 9⟩ else ⟨0, 0, 0⟩
def LkB (i : Nat) : Lk := if i = 0 then ⟨1, 0, 7⟩ else ⟨0, 0, 0⟩
def QA : Nat → Nat → Int := repTo 3 (fun _ _ => 0) 0 LkA 1
def QB : Nat → Nat → Int := repTo 3 QA 1 LkB 1
set_option maxHeartbeats 1000000 in
theorem awake_any (w : World) :
    Calls Try.prog 15 #[] w fun r w' => r = .returned (.bool true) ∧ Below w.heap.size w w' := by
  have HA : Hid (repN 3 0 LkA 1 = 0) := Lib.hid (by decide +kernel)
  have HB : Hid (repN 3 1 LkB 1 = 0) := Lib.hid (by decide +kernel)
  have HQ : Hid (qual 3 QB 0 1 = 7) := Lib.hid (by decide +kernel)
  have H7 : Hid (near 3 QB 0 7 = [1]) := Lib.hid (by decide +kernel)
  have H8 : Hid (near 3 QB 0 8 = []) := Lib.hid (by decide +kernel)
  go_enter Try.func15, Try.ntmps15
  go_wp2_with fail
  refine (new_any 3 _).mono ?_
  rintro r w1 ⟨rfl, h1, b1, s1⟩
  have h1 : Gr w1 w.heap.size 55 3 (fun _ _ => 0) := h1
  have r1 : Row (w1.alloc (.cells #[.int .i64 0, .int .i64 1, .int .i64 9] 50)) (some ⟨w1.heap.size, 0, none⟩) (1 * 3) (lv LkA) := row_new _ _ _ _ (fun i hi => by
    rcases (show i = 0 ∨ i = 1 ∨ i = 2 by omega) with rfl | rfl | rfl <;> rfl)
  have h1 : Gr (w1.alloc (.cells #[.int .i64 0, .int .i64 1, .int .i64 9] 50)) w.heap.size 55 3 (fun _ _ => 0) := Blk.alloc h1 _
  have b1 := b1.alloc (Nat.le_of_lt s1) (.cells #[.int .i64 0, .int .i64 1, .int .i64 9] 50)
  go_wp2_with fail
  refine (report_any w.heap.size _ 3 _ 0 _ 1 1 LkA _ h1 (by decide) (by decide) (by decide) r1).mono ?_
  rintro r w2 ⟨rfl, h2, j2⟩
  rw [HA.out]
  have h2 : Gr w2 w.heap.size 55 3 QA := h2
  have b2 := j2.below b1 (Nat.le_refl _) (by simp; omega)
  have r2 : Row (w2.alloc (.cells #[.int .i64 1, .int .i64 0, .int .i64 7] 50)) (some ⟨w2.heap.size, 0, none⟩) (1 * 3) (lv LkB) := row_new _ _ _ _ (fun i hi => by
    rcases (show i = 0 ∨ i = 1 ∨ i = 2 by omega) with rfl | rfl | rfl <;> rfl)
  have h2 : Gr (w2.alloc (.cells #[.int .i64 1, .int .i64 0, .int .i64 7] 50)) w.heap.size 55 3 QA := Blk.alloc h2 _
  have b2 := b2.alloc b2.size (.cells #[.int .i64 1, .int .i64 0, .int .i64 7] 50)
  go_wp2_with fail
  refine (report_any w.heap.size _ 3 _ 1 _ 1 1 LkB _ h2 (by decide) (by decide) (by decide) r2).mono ?_
  rintro r w3 ⟨rfl, h3, j3⟩
  rw [HB.out]
  have h3 : Gr w3 w.heap.size 55 3 QB := h3
  have b3 := j3.below b2 (Nat.le_refl _) b2.size
  go_wp2_with fail
  refine (quality_any w.heap.size _ 3 QB 0 1 _ h3 (by decide)).mono ?_
  rintro r w' ⟨rfl, m, rfl⟩
  rw [HQ.out]
  have h3 : Gr (w3.drewN m) w.heap.size 55 3 QB := Blk.drewN h3 m
  have b3 := below_drewN b3 m
  go_wp2_with fail
  refine (near_any w.heap.size _ 3 QB 0 7 _ h3 (by decide)).mono ?_
  rintro r w4 ⟨v, rfl, hv, b4⟩
  rw [H7.out] at hv
  obtain ⟨a4, c4, rfl, _, _, _⟩ := hv.row
  have h4 := below_blk b4 h3 h3.lt
  have b4 := b3.trans (b4.mono b3.size)
  clear hv
  go_wp2_with fail
  refine (near_any w.heap.size _ 3 QB 0 8 _ h4 (by decide)).mono ?_
  rintro r w5 ⟨v, rfl, hv, b5⟩
  rw [H8.out] at hv
  obtain ⟨a5, c5, rfl, _, _, _⟩ := hv.row
  have b5 := b4.trans (b5.mono b4.size)
  clear hv
  go_wp2_with fail
  go_ret
  exact ⟨rfl, b5⟩
end Go.Proofs.Ytcgnfngbljlgeaa.Tp
