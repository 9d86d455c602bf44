/-
  Package ie (chapter 6): an element decoded.
-/
import Derived.Test.YtoconkgemakboaaIeRd
import Derived.Test.YtoconkgemakboaaIeFind
set_option maxRecDepth 100000
namespace Go.Proofs.Ytoconkgemakboaa.Ie
set_option linter.unusedVariables false
open Go.RowKit Lb Go.Shelf Bf

theorem Row.just {w w' : World} {a : Option Addr} {g n : Nat} {V : Nat → Value} (h : Row w a n V) (j : Just g w w') (hne : ∀ p, a = some p → p.block ≠ g) : Row w' a n V := by
  intro hn
  obtain ⟨b, off, rfl, h1, h2⟩ := h hn
  refine ⟨b, off, rfl, Nat.lt_of_lt_of_le h1 j.size, fun i hi => ?_⟩
  exact (World.cell?_of_block (a := ⟨b, off + i, none⟩) (j.block b h1 (hne _ rfl))).trans (h2 i hi)
theorem Just.more {b g : Nat} {w w1 w2 : World} (h : Just b w w1) (j : Just g w1 w2) (hg : w.heap.size ≤ g) : Just b w w2 :=
  ⟨j.os.trans h.os, j.tape.trans h.tape, j.output.trans h.output, Nat.le_trans h.size j.size, fun k hk hb => (j.block k (Nat.lt_of_lt_of_le hk h.size) (by omega)).trans (h.block k hk hb)⟩
theorem Rh.just {w w' : World} {base H b g : Nat} {l : List Int} {err : Int} (h : Rh w base H b l err) (j : Just g w w') (hg : H ≤ g) (hH : H ≤ w.heap.size) : Rh w' base H b l err := h.kept (j.below (Below.refl _ _) hg hH)
theorem El.At.just {w w' : World} {e : El} {a : Option Addr} {c g : Nat} (h : e.At w a c) (j : Just g w w') (hne : ∀ p, a = some p → p.block ≠ g) : e.At w' a c := ⟨h.lc, h.cm, Row.just h.row j hne, h.nil⟩
theorem itake_nil (base H b : Nat) (err : Int) (w : World) (h : Rh w base H b [] err) :
    Calls Try.prog 63 #[.pointer (some ⟨b, 0, none⟩)] w fun r w' => r = .returned (.tuple #[.int .i64 0, .bool false]) ∧ Just b w w' :=
  (itake_any base H b [] err w h (fun x hx => by cases hx)).mono fun _ _ h => ⟨h.1, h.2.2⟩
theorem itake_cons (base H b : Nat) (k : Int) (L : List Int) (err : Int) (w : World) (h : Rh w base H b (k :: L) err) (hd : okD' (k :: L)) :
    Calls Try.prog 63 #[.pointer (some ⟨b, 0, none⟩)] w fun r w' => r = .returned (.tuple #[.int .i64 k, .bool true]) ∧ Rh w' base H b L err ∧ Just b w w' := by
  refine (itake_any base H b (k :: L) err w h hd).mono ?_
  rintro r w' ⟨rfl, h1, h2⟩
  unfold lft er at h1
  rw [if_neg (by simp), if_neg (by simp)] at h1
  exact ⟨by simp, h1, h2⟩
theorem plain_of (k : Int) (xs : List Int) (a : Option Addr) (c : Nat) (w : World) (hk : 1 ≤ k ∧ k ≤ 4) (h : (elOf k xs).At w a c) :
    Calls Try.prog 66 #[fromV (elOf k xs) a c] w fun r w' => ∃ a' c', r = .returned (.agg ((elOf k xs).vals a' c')) ∧ (elOf k xs).At w' a' c' ∧ (∀ p, a' = some p → a = some p) ∧ Below w.heap.size w w' := by
  rcases (show k = 1 ∨ k = 2 ∨ k = 3 ∨ k = 4 by omega) with rfl | rfl | rfl | rfl
  · refine (plain1 _ _ w).mono ?_
    rintro r w' ⟨rfl, b1⟩
    exact ⟨none, 0, rfl, El.At.none _ _ _ _ _, fun p e => (by cases e), b1⟩
  · refine (plain2 _ w).mono ?_
    rintro r w' ⟨rfl, b1⟩
    exact ⟨none, 0, rfl, El.At.none _ _ _ _ _, fun p e => (by cases e), b1⟩
  · refine (plain3 a xs.length c w).mono ?_
    rintro r w' ⟨rfl, b1⟩
    exact ⟨a, c, rfl, h.below b1, fun p e => e, b1⟩
  · refine (plain4 a xs.length c w).mono ?_
    rintro r w' ⟨rfl, b1⟩
    exact ⟨a, c, rfl, h.below b1, fun p e => e, b1⟩
def OnePost (base H b : Nat) (L : List Int) (err : Int) (w : World) (r : Ending) (w' : World) : Prop :=
  match dec1 L with
  | .ok (e, R) => ∃ a c, r = .returned (.tuple #[.agg (e.vals a c), .int .i64 0]) ∧ e.At w' a c ∧ (∀ p, a = some p → w.heap.size ≤ p.block) ∧ Rh w' base H b R err ∧ Just b w w'
  | .error x => r = .returned (.tuple #[.agg (zE.vals none 0), .int .i64 x]) ∧ Just b w w'
set_option maxHeartbeats 2000000 in
theorem one_any (base H b : Nat) (L : List Int) (err : Int) (w : World) (h : Rh w base H b L err) (hd : okD' L) (hH : H ≤ w.heap.size) :
    Calls Try.prog 64 #[.pointer (some ⟨b, 0, none⟩)] w (OnePost base H b L err w) := by
  have o0 := Own.new w 52 #[.int .i64 0, .int .i64 0, .int .i64 0, .int .i64 0, .slice none 0 0]
  have b0 := (Below.refl w.heap.size w).alloc (Nat.le_refl _) (.cells #[.int .i64 0, .int .i64 0, .int .i64 0, .int .i64 0, .slice none 0 0] 52)
  have j0 : Just b w (w.alloc (.cells #[.int .i64 0, .int .i64 0, .int .i64 0, .int .i64 0, .slice none 0 0] 52)) := (Just.refl b w).alloc _
  have h0 := h.kept (b0.mono hH)
  have hbz : b < w.heap.size := Nat.lt_of_lt_of_le h.lt hH
  cases L with
  | nil =>
    have HD : Hid (dec1 [] = .error 2) := Lib.hid rfl
    go_enter Try.func64, Try.ntmps64
    go_upto_region 1 with (fail)
    generalize w.alloc (.cells #[.int .i64 0, .int .i64 0, .int .i64 0, .int .i64 0, .slice none 0 0] 52) = w1 at *
    go_wp2_with fail
    refine (itake_nil base H b err w1 h0).mono ?_
    rintro r w2 ⟨rfl, j2⟩
    have o2 := j2.own o0 (by omega)
    go_wp2_with (first | (refine wpList_build_store #[.int .i64 0, .int .i64 0, .int .i64 0, .int .i64 0, .slice none 0 0] rfl rfl rfl rfl builtE rfl rfl o2 (by kernel_rfl) rfl (cells5 _ _ _ _ _) ?_))
    refine bodyPost_ret (results_row_tmp rfl _ _ w.heap.size 52 _ (0, 0) _ rfl (o2.setRow _) Try.underlying52 rfl (by kernel_rfl)) rfl ?_
    unfold OnePost
    rw [HD.out]
    exact ⟨rfl, Just.more (j0.trans j2) (Just.setRow _ _ _) (Nat.le_refl _)⟩

  | cons k L1 =>
    have hsz : w.heap.size < (w.alloc (.cells #[.int .i64 0, .int .i64 0, .int .i64 0, .int .i64 0, .slice none 0 0] 52)).heap.size := by simp
    have hkb := hd k (by simp)
    have hd1 : okD' L1 := fun x hx => hd x (by simp [hx])
    have HDD := Lib.hid hd
    clear hd
    go_enter Try.func64, Try.ntmps64
    go_upto_region 1 with (fail)
    generalize w.alloc (.cells #[.int .i64 0, .int .i64 0, .int .i64 0, .int .i64 0, .slice none 0 0] 52) = w1 at *
    go_wp2_with fail
    refine (itake_cons base H b k L1 err w1 h0 HDD.out).mono ?_
    rintro r w2 ⟨rfl, h2, j2⟩
    have o2 := j2.own o0 (by omega)
    have jj2 := j0.trans j2
    have hs2 : w.heap.size < w2.heap.size := Nat.lt_of_lt_of_le hsz j2.size
    clear h0 o0 j0 b0 j2 hsz HDD
    by_cases hk : k < 1 ∨ 4 < k
    · have HD : Hid (dec1 (k :: L1) = .error 3) := Lib.hid (by unfold dec1; simp only; rw [if_pos hk])
      by_cases hk1 : k < 1
      · have g1 : decide (k < 1) = true := by simpa using hk1
        clear hk hk1
        go_wp2_with (first | (refine wpList_build_store #[.int .i64 0, .int .i64 0, .int .i64 0, .int .i64 0, .slice none 0 0] rfl rfl rfl rfl builtE rfl rfl o2 (by kernel_rfl) rfl (cells5 _ _ _ _ _) ?_))
        refine bodyPost_ret (results_row_tmp rfl _ _ w.heap.size 52 _ (0, 0) _ rfl (o2.setRow _) Try.underlying52 rfl (by kernel_rfl)) rfl ?_
        unfold OnePost
        rw [HD.out]
        exact ⟨rfl, Just.more jj2 (Just.setRow _ _ _) (Nat.le_refl _)⟩

      · have g1 : decide (k < 1) = false := by simpa using hk1
        have g2 : decide (4 < k) = true := by simp; omega
        clear hk hk1
        go_wp2_with (first | (refine wpList_build_store #[.int .i64 0, .int .i64 0, .int .i64 0, .int .i64 0, .slice none 0 0] rfl rfl rfl rfl builtE rfl rfl o2 (by kernel_rfl) rfl (cells5 _ _ _ _ _) ?_))
        refine bodyPost_ret (results_row_tmp rfl _ _ w.heap.size 52 _ (0, 0) _ rfl (o2.setRow _) Try.underlying52 rfl (by kernel_rfl)) rfl ?_
        unfold OnePost
        rw [HD.out]
        exact ⟨rfl, Just.more jj2 (Just.setRow _ _ _) (Nat.le_refl _)⟩

    · have g1 : decide (k < 1) = false := by simp; omega
      have g2 : decide (4 < k) = false := by simp; omega
      have HK := Lib.hid hk
      have hk14 : 1 ≤ k ∧ k ≤ 4 := by omega
      clear hk
      cases L1 with
      | nil =>
        have HD : Hid (dec1 [k] = .error 2) := Lib.hid (by unfold dec1; simp only; rw [if_neg HK.out])
        go_wp2_with fail
        refine (itake_nil base H b err w2 h2).mono ?_
        rintro r w3 ⟨rfl, j3⟩
        have o3 := j3.own o2 (by omega)
        go_wp2_with (first | (refine wpList_build_store #[.int .i64 0, .int .i64 0, .int .i64 0, .int .i64 0, .slice none 0 0] rfl rfl rfl rfl builtE rfl rfl o3 (by kernel_rfl) rfl (cells5 _ _ _ _ _) ?_))
        refine bodyPost_ret (results_row_tmp rfl _ _ w.heap.size 52 _ (0, 0) _ rfl (o3.setRow _) Try.underlying52 rfl (by kernel_rfl)) rfl ?_
        unfold OnePost
        rw [HD.out]
        exact ⟨rfl, Just.more (jj2.trans j3) (Just.setRow _ _ _) (Nat.le_refl _)⟩

      | cons s L2 =>
        have hsb := hd1 s (by simp)
        have hd2 : okD' L2 := fun x hx => hd1 x (by simp [hx])
        have HDD := Lib.hid hd1
        clear hd1
        go_wp2_with fail
        refine (itake_cons base H b s L2 err w2 h2 HDD.out).mono ?_
        rintro r w3 ⟨rfl, h3, j3⟩
        have o3 := j3.own o2 (by omega)
        have jj3 := jj2.trans j3
        have hs3 : w.heap.size < w3.heap.size := Nat.lt_of_lt_of_le hs2 j3.size
        clear h2 o2 jj2 j3 hs2 HDD
        obtain ⟨n, rfl⟩ : ∃ n : Nat, s = (n : Int) := ⟨s.toNat, by omega⟩
        cases hsz : sizeB k (n : Int)
        · have HD : Hid (dec1 (k :: (n : Int) :: L2) = .error 3) := Lib.hid (by unfold dec1; simp only; rw [if_neg HK.out, if_pos hsz])
          have HS := Lib.hid hsz
          clear hsz
          go_wp2_with fail
          refine (sizef_any k (n : Int) w3).mono ?_
          rintro r w' ⟨rfl, rfl⟩
          rw [HS.out]
          go_wp2_with (first | (refine wpList_build_store #[.int .i64 0, .int .i64 0, .int .i64 0, .int .i64 0, .slice none 0 0] rfl rfl rfl rfl builtE rfl rfl o3 (by kernel_rfl) rfl (cells5 _ _ _ _ _) ?_))
          refine bodyPost_ret (results_row_tmp rfl _ _ w.heap.size 52 _ (0, 0) _ rfl (o3.setRow _) Try.underlying52 rfl (by kernel_rfl)) rfl ?_
          unfold OnePost
          rw [HD.out]
          exact ⟨rfl, Just.more jj3 (Just.setRow _ _ _) (Nat.le_refl _)⟩

        · have HS := Lib.hid hsz
          clear hsz
          have hl := lefth_any base H b L2 err w3 h3
          obtain ⟨m, hm⟩ : ∃ m, L2.length = m := ⟨_, rfl⟩
          rw [hm] at hl
          have HM := Lib.hid hm
          have HL := Lib.hid hl
          clear hl hm
          have hmb : m ≤ 100000 := by
            obtain ⟨_, j, q, Z, v, _, _, h1, h2, _⟩ := h3
            have := HM.out
            omega
          by_cases hlt : m < n
          · have HD : Hid (dec1 (k :: (n : Int) :: L2) = .error 2) := Lib.hid (by
              unfold dec1
              simp only
              rw [if_neg HK.out, if_neg (by rw [HS.out]; simp), if_pos (by rw [HM.out]; simpa using hlt)])
            have g3 : decide (8 * (m : Int) < (n : Int) * 8) = true := by simp; omega
            go_wp2_with fail
            refine (sizef_any k (n : Int) w3).mono ?_
            rintro r w' ⟨rfl, rfl⟩
            rw [HS.out]
            go_wp2_with fail
            refine HL.out.mono ?_
            rintro r w4 ⟨rfl, q, rfl⟩
            have o4 := o3.drewN q
            have jj4 := jj3.drewN q
            go_wp2_with (first | (refine wpList_build_store #[.int .i64 0, .int .i64 0, .int .i64 0, .int .i64 0, .slice none 0 0] rfl rfl rfl rfl builtE rfl rfl o4 (by kernel_rfl) rfl (cells5 _ _ _ _ _) ?_))
            refine bodyPost_ret (results_row_tmp rfl _ _ w.heap.size 52 _ (0, 0) _ rfl (o4.setRow _) Try.underlying52 rfl (by kernel_rfl)) rfl ?_
            unfold OnePost
            rw [HD.out]
            exact ⟨rfl, Just.more jj4 (Just.setRow _ _ _) (Nat.le_refl _)⟩

          · have HD : Hid (dec1 (k :: (n : Int) :: L2) = .ok (elOf k (L2.take n), L2.drop n)) := Lib.hid (by
              unfold dec1
              simp only
              rw [if_neg HK.out, if_neg (by rw [HS.out]; simp), if_neg (by rw [HM.out]; simpa using hlt)]
              simp)
            have g3 : decide (8 * (m : Int) < (n : Int) * 8) = false := by simp; omega
            go_wp2_with fail
            refine (sizef_any k (n : Int) w3).mono ?_
            rintro r w' ⟨rfl, rfl⟩
            rw [HS.out]
            go_wp2_with fail
            refine HL.out.mono ?_
            rintro r w4 ⟨rfl, q, rfl⟩
            have o4 := o3.drewN q
            have jj4 := jj3.drewN q
            have h4 := h3.drewN q
            have hH4 : H ≤ (w3.drewN q).heap.size := by show H ≤ w3.heap.size; omega
            have hs4 : w.heap.size < (w3.drewN q).heap.size := hs3
            clear o3 jj3 h3 HL hs3
            go_wp2_with fail
            generalize w3.drewN q = w5 at *
            refine (read_any base H b L2 err k n w5 h4 hd2 hk14 HS.out (by rw [HM.out]; omega) hH4).mono ?_
            rintro r w6 ⟨a, c, rfl, hat, hap, h6, j6⟩
            have o6 := j6.own o4 (by omega)
            have jj6 := jj4.trans j6
            go_wp2_with fail
            refine (plain_of k (L2.take n) a c w6 hk14 hat).mono ?_
            rintro r w7 ⟨a', c', rfl, hat7, hap7, b7⟩
            have o7 := below_own b7 o6 o6.lt
            have h7 := h6.kept (b7.mono (by have := j6.size; omega))
            have jj7 : Just b w w7 := jj6.trans ⟨b7.os, b7.tape, b7.output, b7.size, fun i hi _ => b7.block i hi⟩
            have hap8 : ∀ p, a' = some p → w.heap.size < p.block := fun p e => Nat.lt_of_lt_of_le hs4 (hap p (hap7 p e))
            have hH7 : H ≤ w7.heap.size := by have := j6.size; have := b7.size; omega
            clear hat hap hap7 h4 h6 j6 jj4 jj6 o4 o6 b7
            obtain ⟨e, he⟩ : ∃ e, elOf k (L2.take n) = e := ⟨_, rfl⟩
            rw [he] at hat7 HD
            rw [he]
            obtain ⟨ek, ea, er, et, el⟩ := e
            unfold El.vals
            simp only
            go_wp2_with (first | (refine wpList_store_row rfl _ _ _ rfl w.heap.size #[.int .i64 ek, .int .i64 ea, .int .i64 er, .int .i64 et, .slice a' el.length c'] rfl rfl 52 _ o7 (by kernel_rfl) rfl (cells5 _ _ _ _ _) ?_))
            refine bodyPost_ret (results_row_tmp rfl _ _ w.heap.size 52 _ (0, 0) _ rfl (o7.setRow _) Try.underlying52 rfl (by kernel_rfl)) rfl ?_
            unfold OnePost
            rw [HD.out]
            exact ⟨a', c', rfl, El.At.just hat7 (Just.setRow _ _ _) (fun p e => by have := hap8 p e; omega), fun p e => Nat.le_of_lt (hap8 p e), Rh.just h7 (Just.setRow _ _ _) hH hH7, Just.more jj7 (Just.setRow _ _ _) (Nat.le_refl _)⟩
end Go.Proofs.Ytoconkgemakboaa.Ie
