/-
  Package ie (chapter 6): what is encoded is decoded as it was; what is decoded is encoded as these; plain.
-/
import Derived.Test.YtoconkgemakboaaIeDec
set_option maxRecDepth 100000
namespace Go.Proofs.Ytoconkgemakboaa.Ie
set_option linter.unusedVariables false
open Go.RowKit Lb Bf

theorem okD_take' {l : List Int} {n : Nat} (h : okD' l) : okD' (l.take n) := fun x hx => h x (List.mem_of_mem_take hx)
theorem okD_drop' {l : List Int} {n : Nat} (h : okD' l) : okD' (l.drop n) := fun x hx => h x (List.mem_of_mem_drop hx)
/-- Bytes out of the number that bytes are. -/
theorem bytes_numB : ∀ (k : Nat) (l : List Int), l.length = k → okD' l → bytesK (numB l).toNat k = l := by
  intro k
  induction k with
  | zero => intro l hl _; rw [List.length_eq_zero_iff.1 hl]; rfl
  | succ k ih =>
    intro l hl hd
    rcases List.eq_nil_or_concat l with rfl | ⟨m, c, rfl⟩
    · simp at hl
    · rw [List.concat_eq_append] at *
      have hml : m.length = k := by simp at hl; omega
      have hdm : okD' m := fun x hx => hd x (List.mem_append_left _ hx)
      have h1 := numB_bd k m hml hdm
      have h2 := hd c (List.mem_append_right _ (by simp))
      rw [numB_snoc, bytesK_snoc, show (numB m * 256 + c).toNat / 256 = (numB m).toNat by omega, ih m hml hdm, show (numB m * 256 + c).toNat % 256 = c.toNat by omega]
      congr 1
      rw [Int.toNat_of_nonneg h2.1]
theorem octsB_of {l : List Int} (h : okD' l) : octsB l = true := by
  unfold octsB
  rw [decide_eq_true_eq]
  intro j hj
  rw [List.getD_eq_getElem?_getD, List.getElem?_eq_getElem hj]
  have := h _ (List.getElem_mem hj)
  simp only [Option.getD_some]
  omega
theorem i16_u64 {x : Int} (h : 0 ≤ x ∧ x < 65536) : bytesK (u64 (IntKind.i16.wrap x)) 2 = bytesK x.toNat 2 := by
  have e : u64 (IntKind.i16.wrap x) % 65536 = x.toNat := by
    unfold u64
    simp only [IntKind.wrap, IntKind.signed, IntKind.bits]
    simp
    omega
  generalize u64 (IntKind.i16.wrap x) = y at e
  rw [bytesK_snoc, bytesK_snoc, bytesK_snoc, bytesK_snoc]
  rw [show y / 256 % 256 = x.toNat / 256 % 256 by omega, show y % 256 = x.toNat % 256 by omega]
  rfl
theorem six_cut {l : List Int} (h : l.length = 6) : l = l.take 5 ++ [l.getD 5 0] := by
  have h1 : l.take 6 = l := List.take_of_length_le (by omega)
  have := tk_snoc (l := l) (k := 5) (by omega)
  rw [← this, h1]
theorem dec1_back {L : List Int} {x : El} {R : List Int} (hd : okD' L) (h : dec1 L = .ok (x, R)) : mayE x = true ∧ L = encOne x ++ R := by
  unfold dec1 at h
  match L, h with
  | [], h => cases h
  | k :: L1, h =>
    simp only at h
    split at h
    · cases h
    · rename_i hk
      match L1, h with
      | [], h => cases h
      | s :: L2, h =>
        simp only at h
        split at h
        · cases h
        · rename_i hs
          split at h
          · cases h
          · rename_i hl
            injection h with h
            injection h with h1 h2
            subst h1 h2
            have hs' : sizeB k s = true := by simpa using hs
            have hs0 := hd s (by simp)
            have hd2 : okD' (L2.take s.toNat) := fun x hx => hd x (by have := List.mem_of_mem_take hx; simp [this])
            have hlen : (L2.take s.toNat).length = s.toNat := by rw [List.length_take]; omega
            have happ : k :: s :: L2 = [k] ++ [s] ++ L2.take s.toNat ++ L2.drop s.toNat := by simp
            rw [happ]
            generalize L2.take s.toNat = X at *
            generalize L2.drop s.toNat = Q at *
            clear happ
            unfold sizeB at hs'
            by_cases k1 : k = 1
            · subst k1
              simp at hs'
              subst hs'
              have h6 : X.length = 6 := hlen
              have hb := numB_bd 5 (X.take 5) (by rw [List.length_take]; omega) (okD_take' hd2)
              have e5 : (256 : Int) ^ 5 = 1099511627776 := by decide
              rw [e5] at hb
              have h5 : 0 ≤ X.getD 5 0 ∧ X.getD 5 0 < 256 := by
                rw [List.getD_eq_getElem?_getD, List.getElem?_eq_getElem (by omega)]
                exact hd2 _ (List.getElem_mem _)
              have hbb := bytes_numB 5 (X.take 5) (by rw [List.length_take]; omega) (okD_take' hd2)
              have hE : elOf 1 X = ⟨1, numB (X.take 5), X.getD 5 0, 0, []⟩ := by unfold elOf; rw [if_pos rfl]
              have h6c := six_cut h6
              rw [hE]
              generalize X.getD 5 0 = z at *
              refine ⟨?_, ?_⟩
              · rw [may1]
                simp [asnB]
                omega
              · congr 1
                unfold encOne
                simp only [if_pos]
                rw [hbb, List.append_assoc ([1] ++ [6]) (X.take 5) [z], ← h6c]
            · by_cases k2 : k = 2
              · subst k2
                simp at hs'
                subst hs'
                have h2 : X.length = 2 := hlen
                have hb := numB_bd 2 X h2 hd2
                have e5 : (256 : Int) ^ 2 = 65536 := by decide
                rw [e5] at hb
                have hbb := bytes_numB 2 X h2 hd2
                have hE : elOf 2 X = ⟨2, 0, 0, IntKind.i16.wrap (numB X), []⟩ := by unfold elOf; rw [if_neg (by decide), if_pos rfl]
                rw [hE]
                have hw : -32768 ≤ IntKind.i16.wrap (numB X) ∧ IntKind.i16.wrap (numB X) ≤ 32767 := by
                  simp only [IntKind.wrap, IntKind.signed, IntKind.bits]
                  simp
                  omega
                refine ⟨?_, ?_⟩
                · rw [may2]
                  simp
                  omega
                · congr 1
                  rw [show encOne ⟨2, 0, 0, IntKind.i16.wrap (numB X), []⟩ = [2] ++ [2] ++ bytesK (u64 (IntKind.i16.wrap (numB X))) 2 from by unfold encOne; rw [if_neg (by simp), if_pos rfl], i16_u64 hb, hbb]
              · have hs'' : s ≤ 16 := by simpa [k1, k2] using hs'
                have hk34 : k = 3 ∨ k = 4 := by omega
                refine ⟨?_, ?_⟩
                · unfold elOf
                  rw [if_neg k1, if_neg k2, may3 _ _ _ _ _ hk34, octsB_of hd2]
                  simp
                  omega
                · congr 1
                  unfold elOf encOne
                  rw [if_neg k1, if_neg k2]
                  simp only
                  rw [if_neg k1, if_neg k2]
                  congr 2
                  rw [hlen]
                  congr 1
                  omega
theorem decN_back : ∀ (n : Nat) (L : List Int) (l : List El) (R : List Int), okD' L → decN n L = .ok (l, R) → l.length = n ∧ (∀ x, x ∈ l → mayE x = true) ∧ L = encL l ++ R := by
  intro n
  induction n with
  | zero =>
    intro L l R hd h
    simp only [decN] at h
    injection h with h
    injection h with h1 h2
    subst h1 h2
    exact ⟨rfl, (fun x hx => by cases hx), rfl⟩
  | succ n ih =>
    intro L l R hd h
    rw [decN] at h
    cases h1 : dec1 L with
    | error e => rw [h1] at h; cases h
    | ok p =>
      obtain ⟨x, Q⟩ := p
      rw [h1] at h
      simp only at h
      cases h2 : decN n Q with
      | error e => rw [h2] at h; cases h
      | ok p =>
        obtain ⟨m, S⟩ := p
        rw [h2] at h
        simp only at h
        injection h with h
        injection h with h3 h4
        subst h3 h4
        obtain ⟨hm, he⟩ := dec1_back hd h1
        have hdQ : okD' Q := fun y hy => hd y (dec1_sub h1 y hy)
        obtain ⟨g1, g2, g3⟩ := ih Q m S hdQ h2
        refine ⟨by simp [g1], fun y hy => ?_, ?_⟩
        · rcases List.mem_cons.1 hy with h | h
          · rw [h]; exact hm
          · exact g2 y h
        · rw [he, g3, encL, List.append_assoc]
theorem decI_back {L : List Int} {l : List El} (hd : okD' L) (h : decI L = .ok l) : mayL l = true ∧ encI l = L := by
  unfold decI at h
  match L, h with
  | [], h => cases h
  | n :: L1, h =>
    simp only at h
    split at h
    · cases h
    · rename_i hn
      have hn0 := hd n (by simp)
      cases h1 : decN n.toNat L1 with
      | error e => rw [h1] at h; cases h
      | ok p =>
        obtain ⟨m, R⟩ := p
        rw [h1] at h
        simp only at h
        split at h
        · rename_i hR
          injection h with h
          subst h hR
          obtain ⟨g1, g2, g3⟩ := decN_back n.toNat L1 m [] (fun y hy => hd y (by simp [hy])) h1
          refine ⟨?_, ?_⟩
          · unfold mayL
            rw [Bool.and_eq_true, decide_eq_true_eq, List.all_eq_true]
            exact ⟨by omega, g2⟩
          · unfold encI
            rw [g3, g1, List.append_nil, Int.toNat_of_nonneg hn0.1]
            rfl
        · cases h
theorem dec1_enc {x : El} (hm : mayE x = true) (R : List Int) : dec1 (encOne x ++ R) = .ok (x, R) := by
  obtain ⟨k, a, r, t, l⟩ := x
  rcases mayE_kind hm with h1 | h1 | h1 | h1
  · have h1 : k = 1 := h1
    subst h1
    rw [may1] at hm
    simp only [Bool.and_eq_true, decide_eq_true_eq, asnB, beq_iff_eq] at hm
    obtain ⟨ha, hr0, hr1, ht, hl⟩ := hm
    have hl := List.length_eq_zero_iff.1 hl
    subst ht hl
    unfold encOne
    simp only [if_pos]
    have e6 : (bytesK a.toNat 5 ++ [r]).length = 6 := by simp [bytesK_len]
    have e5 : (bytesK a.toNat 5).length = 5 := bytesK_len _ _
    have hsh : [1] ++ [6] ++ bytesK a.toNat 5 ++ [r] ++ R = 1 :: 6 :: ((bytesK a.toNat 5 ++ [r]) ++ R) := by simp
    rw [hsh]
    unfold dec1
    simp only
    rw [if_neg (by decide), if_neg (by decide), if_neg (by rw [List.length_append, e6]; show ¬ _ < 6; omega)]
    rw [show (6 : Int).toNat = 6 from rfl, ← e6, List.take_left, List.drop_left]
    congr 2
    unfold elOf
    rw [if_pos rfl]
    have t5 : (bytesK a.toNat 5 ++ [r]).take 5 = bytesK a.toNat 5 := List.take_left' e5
    have g5 : (bytesK a.toNat 5 ++ [r]).getD 5 0 = r := by
      rw [List.getD_eq_getElem?_getD, List.getElem?_append_right (by omega), e5]
      rfl
    rw [t5, g5, numB_bytes 5 a.toNat (by show a.toNat < 1099511627776; omega), Int.toNat_of_nonneg ha.1]
  · have h1 : k = 2 := h1
    subst h1
    rw [may2] at hm
    simp only [Bool.and_eq_true, decide_eq_true_eq, beq_iff_eq] at hm
    obtain ⟨ht0, ht1, ha, hr, hl⟩ := hm
    have hl := List.length_eq_zero_iff.1 hl
    subst ha hr hl
    unfold encOne
    rw [if_neg (by simp), if_pos rfl]
    have e2 : (bytesK (u64 t) 2).length = 2 := bytesK_len _ _
    have hsh : [2] ++ [2] ++ bytesK (u64 t) 2 ++ R = 2 :: 2 :: (bytesK (u64 t) 2 ++ R) := by simp
    simp only at hsh ⊢
    rw [hsh]
    unfold dec1
    simp only
    rw [if_neg (by decide), if_neg (by decide), if_neg (by rw [List.length_append, e2]; show ¬ _ < 2; omega)]
    rw [show (2 : Int).toNat = 2 from rfl]
    have tk : (bytesK (u64 t) 2 ++ R).take 2 = bytesK (u64 t) 2 := List.take_left' e2
    have dr : (bytesK (u64 t) 2 ++ R).drop 2 = R := List.drop_left' e2
    rw [tk, dr]
    congr 2
    unfold elOf
    rw [if_neg (by decide), if_pos rfl]
    have hmod : bytesK (u64 t) 2 = bytesK (u64 t % 65536) 2 := by
      rw [bytesK_snoc, bytesK_snoc, bytesK_snoc, bytesK_snoc]
      rw [show u64 t % 65536 / 256 % 256 = u64 t / 256 % 256 by omega, show u64 t % 65536 % 256 = u64 t % 256 by omega]
      rfl
    rw [hmod, numB_bytes 2 _ (by show _ < 65536; omega)]
    congr 1
    unfold u64
    simp only [IntKind.wrap, IntKind.signed, IntKind.bits]
    simp
    omega
  all_goals
    have h1 : k = _ := h1
    subst h1
    rw [may3 _ _ _ _ _ (by omega)] at hm
    simp only [Bool.and_eq_true, decide_eq_true_eq, beq_iff_eq] at hm
    obtain ⟨ho, h16, ha, hr, ht⟩ := hm
    subst ha hr ht
    unfold encOne
    rw [if_neg (by simp), if_neg (by simp)]
    simp only
    have hsh : ∀ q : Int, [q] ++ [(l.length : Int)] ++ l ++ R = q :: (l.length : Int) :: (l ++ R) := fun q => by simp
    rw [hsh]
    unfold dec1
    simp only
    rw [if_neg (by decide), if_neg (by unfold sizeB; simp; omega), if_neg (by rw [List.length_append]; simp)]
    rw [Int.toNat_natCast, List.take_left, List.drop_left]
    congr 2
theorem decN_enc : ∀ (l : List El) (R : List Int), (∀ x, x ∈ l → mayE x = true) → decN l.length (encL l ++ R) = .ok (l, R) := by
  intro l
  induction l with
  | nil => intro R _; rfl
  | cons x l ih =>
    intro R h
    rw [List.length_cons, decN, encL, List.append_assoc, dec1_enc (h x (by simp))]
    simp only
    rw [ih R (fun y hy => h y (by simp [hy]))]
theorem decI_enc {l : List El} (h : mayL l = true) : decI (encI l) = .ok l := by
  unfold mayL at h
  rw [Bool.and_eq_true, decide_eq_true_eq, List.all_eq_true] at h
  have h1 := decN_enc l [] h.2
  rw [List.append_nil] at h1
  exact decI_ok h.1 h1
end Go.Proofs.Ytoconkgemakboaa.Ie
