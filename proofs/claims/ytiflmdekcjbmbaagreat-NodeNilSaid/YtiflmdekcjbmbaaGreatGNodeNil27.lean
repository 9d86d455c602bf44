/-
  Package ie (chapter 6): Decode: the elements that bytes are. Package ie (chapter 6): what is encoded is decoded as it was; what is decoded is encoded as these; plain. The reference: two rows of elements: alike or not. The sum of chapter 2 as plain mathematics: one bit, one byte, a row; it is linear and loses nothing; what ends with its own sum sums up to 0.
-/
import Derived.Test.YtiflmdekcjbmbaaGreatGNodeNil26
import Derived.Test.YtiflmdekcjbmbaaGreatGNodeNil04
import GoSem.Core.Value
set_option maxRecDepth 100000
namespace Go.Proofs.YtiflmdekcjbmbaaGreat.Ie
set_option linter.unusedVariables false
set_option linter.unusedSimpArgs false
open Go.RowKit Lb Go.Shelf Bf

theorem infoE : (Tryz.prog.info? 59).map (fun i => (i.zero, i.size, i.bytes)) = some (some (.agg #[.int .i64 0, .int .i64 0, .int .i64 0, .int .i64 0, .slice none 0 0]), 5, 56) := by kernel_rfl
theorem ev_one (L : List EP) (q : Nat) : (ev L q).oneCell' = true := by
  have hm : q % 5 = 0 ∨ q % 5 = 1 ∨ q % 5 = 2 ∨ q % 5 = 3 ∨ q % 5 = 4 := by omega
  rcases hm with hm | hm | hm | hm | hm
  · rw [show q = q / 5 * 5 by omega, ev0]; rfl
  · rw [show q = q / 5 * 5 + 1 by omega, ev1]; rfl
  · rw [show q = q / 5 * 5 + 2 by omega, ev2]; rfl
  · rw [show q = q / 5 * 5 + 3 by omega, ev3]; rfl
  · rw [show q = q / 5 * 5 + 4 by omega, ev4]; rfl
theorem ev_app (L M : List EP) (q : Nat) : (if q < L.length * 5 then ev L q else ev M (q - L.length * 5)) = ev (L ++ M) q := by
  unfold ev
  by_cases h : q < L.length * 5
  · rw [if_pos h]
    have : q / 5 < L.length := by omega
    rw [List.getD_eq_getElem?_getD, List.getD_eq_getElem?_getD, List.getElem?_append_left this]
  · rw [if_neg h]
    have h1 : (q - L.length * 5) / 5 = q / 5 - L.length := by omega
    have h2 : (q - L.length * 5) % 5 = q % 5 := by omega
    rw [h1, h2, List.getD_eq_getElem?_getD, List.getD_eq_getElem?_getD, List.getElem?_append_right (by omega)]
theorem els_app (L M : List EP) : els (L ++ M) = els L ++ els M := by simp [els]
theorem Row.same {w w' : World} {a : Option Addr} {n : Nat} {V : Nat → Value} (h : Row w a n V) (hk : ∀ p, a = some p → 0 < n → w'.heap[p.block]? = w.heap[p.block]?) : Row w' a n V := by
  intro hn
  obtain ⟨b, off, rfl, h1, h2⟩ := h hn
  have e := hk _ rfl hn
  refine ⟨b, off, rfl, ?_, fun i hi => (World.cell?_of_block (a := ⟨b, off + i, none⟩) e).trans (h2 i hi)⟩
  by_cases hb : b < w'.heap.size
  · exact hb
  · exfalso
    have e1 : w'.heap[b]? = none := Array.getElem?_eq_none (by omega)
    have e2 : w.heap[b]? = some w.heap[b] := Array.getElem?_eq_getElem h1
    have e : w'.heap[b]? = w.heap[b]? := e
    rw [e1, e2] at e
    cases e
theorem El.At.same {w w' : World} {e : El} {a : Option Addr} {c : Nat} (h : e.At w a c) (hk : ∀ p, a = some p → 0 < e.list.length → w'.heap[p.block]? = w.heap[p.block]?) : e.At w' a c := ⟨h.lc, h.cm, Row.same h.row hk, h.nil⟩
theorem El.At.lt {w : World} {e : El} {a : Option Addr} {c : Nat} (h : e.At w a c) : ∀ p, a = some p → 0 < e.list.length → p.block < w.heap.size := fun p e1 hl => by
  obtain ⟨b, off, h1, h2, _⟩ := h.row hl
  rw [e1] at h1
  injection h1 with h1
  rw [h1]
  exact h2
theorem dec1_sub {L : List Int} {e : El} {R : List Int} (h : dec1 L = .ok (e, R)) : ∀ x, x ∈ R → x ∈ L := by
  unfold dec1 at h
  match L, h with
  | [], h => cases h
  | k :: L1, h =>
    simp only at h
    split at h
    · cases h
    · match L1, h with
      | [], h => cases h
      | s :: L2, h =>
        simp only at h
        split at h
        · cases h
        · split at h
          · cases h
          · injection h with h
            injection h with h1 h2
            subst h2
            intro x hx
            have := List.mem_of_mem_drop hx
            simp [this]
theorem dec1_err {L : List Int} {x : Int} (h : dec1 L = .error x) : x = 2 ∨ x = 3 := by
  unfold dec1 at h
  match L, h with
  | [], h => injection h with h; exact .inl h.symm
  | k :: L1, h =>
    simp only at h
    split at h
    · injection h with h; exact .inr h.symm
    · match L1, h with
      | [], h => injection h with h; exact .inl h.symm
      | s :: L2, h =>
        simp only at h
        split at h
        · injection h with h; exact .inr h.symm
        · split at h
          · injection h with h; exact .inl h.symm
          · cases h
theorem decI_err {n : Nat} {L1 : List Int} {e : Int} (h4 : n ≤ 4) (h : decN n L1 = .error e) : decI ((n : Int) :: L1) = .error e := by
  unfold decI
  simp only
  rw [if_neg (by omega), Int.toNat_natCast, h]
theorem decI_ok {n : Nat} {L1 : List Int} {l : List El} (h4 : n ≤ 4) (h : decN n L1 = .ok (l, [])) : decI ((n : Int) :: L1) = .ok l := by
  unfold decI
  simp only
  rw [if_neg (by omega), Int.toNat_natCast, h]
  simp
theorem decI_more {n : Nat} {L1 R : List Int} {l : List El} (h4 : n ≤ 4) (h : decN n L1 = .ok (l, R)) (hR : R ≠ []) : decI ((n : Int) :: L1) = .error 3 := by
  unfold decI
  simp only
  rw [if_neg (by omega), Int.toNat_natCast, h]
  simp [hR]
def DecPost (L : List Int) (w : World) (r : Ending) (w' : World) : Prop :=
  match decI L with
  | .ok l => ∃ (LL : List EP) (a : Option Addr) (c : Nat), els LL = l ∧ r = .returned (.tuple #[.slice a LL.length c, .int .i64 0]) ∧ Els w' LL a c ∧ (∀ q, a = some q → w.heap.size ≤ q.block) ∧ (∀ k, k < LL.length → ∀ q, (LL.getD k ep0).a = some q → 0 < (LL.getD k ep0).e.list.length → w.heap.size ≤ q.block) ∧ Below w.heap.size w w'
  | .error x => r = .returned (.tuple #[.slice none 0 0, .int .i64 x]) ∧ Below w.heap.size w w'
set_option maxHeartbeats 4000000 in
theorem decode_any (a : Option Addr) (c : Nat) (L : List Int) (w : World) (hc : L.length ≤ 100000) (hR : Row w a L.length (bval L)) (hd : okD' L) :
    Calls Tryz.prog 192 #[.slice a L.length c] w (DecPost L w) := by
  have hN := newb_any a c L w hc hR hd (row_none hR)
  have HN := Lib.hid hN
  have HDI : Hid (okD' L) := Lib.hid hd
  obtain ⟨len, hlen⟩ : ∃ len, L.length = len := ⟨_, rfl⟩
  rw [hlen] at HN ⊢
  have HLEN := Lib.hid hlen
  clear hN hR hlen hc hd
  obtain ⟨i0, hi0, hz0, hz1, hz2⟩ := info_parts infoE
  go_enter Tryz.func192, Tryz.ntmps192
  go_wp2_with fail
  refine HN.out.mono ?_
  rintro r w1 ⟨b, rfl, h1, b1, hb1, hb2⟩
  have hh := h1.hold
  have hbs := b1.size
  obtain ⟨H, hH⟩ : ∃ H, w1.heap.size = H := ⟨_, rfl⟩
  rw [hH] at hh hb2 hbs
  have HH := Lib.hid hH
  clear HN h1 hH
  cases L with
  | nil =>
    have HD : Hid (decI [] = .error 2) := Lib.hid rfl
    go_wp2_with fail
    refine (itake_nil _ H b 0 w1 hh).mono ?_
    rintro r w2 ⟨rfl, j2⟩
    have b2 := j2.below b1 hb1 (by rw [HH.out]; omega)
    go_wp2_with fail
    go_ret2
    unfold DecPost
    rw [HD.out]
    exact ⟨rfl, b2⟩
  | cons n0 L1 =>
    have hn0 := HDI.out n0 (by simp)
    go_wp2_with fail
    refine (itake_cons _ H b n0 L1 0 w1 hh HDI.out).mono ?_
    rintro r w2 ⟨rfl, h2, j2⟩
    have b2 := j2.below b1 hb1 (by rw [HH.out]; omega)
    have hs2 : H ≤ w2.heap.size := by rw [← HH.out]; exact j2.size
    clear hh j2 b1
    obtain ⟨n, rfl⟩ : ∃ n : Nat, n0 = (n : Int) := ⟨n0.toNat, by omega⟩
    by_cases h4 : 4 < n
    · have HD : Hid (decI ((n : Int) :: L1) = .error 3) := Lib.hid (by unfold decI; simp only; rw [if_pos (by omega)])
      have g1 : decide (4 < n) = true := by simpa using h4
      have g2 : decide ((4 : Int) < (n : Int)) = true := by simp; omega
      clear h4
      go_wp2_with fail
      go_ret2
      unfold DecPost
      rw [HD.out]
      exact ⟨rfl, b2⟩
    · have g1 : decide (4 < n) = false := by simpa using h4
      have g2 : decide ((4 : Int) < (n : Int)) = false := by simp; omega
      have hn4 : n ≤ 4 := by omega
      have hmk : ∀ w : World, (Instr.makeSlice 34 (.int .i64 0) (.int .i64 (n : Int))).run Tryz.prog w = .ok (.slice (some ⟨w.heap.size, 0, none⟩) 0 n) (w.alloc (.cells (madeCells #[.int .i64 0, .int .i64 0, .int .i64 0, .int .i64 0, .slice none 0 0] (n * 5)) 59)) := by
        intro w
        have := run_make w 34 59 i0 (.agg #[.int .i64 0, .int .i64 0, .int .i64 0, .int .i64 0, .slice none 0 0]) Tryz.underlying34 hi0 hz0 .i64 .i64 0 (n : Int) (by omega) (by omega) (by rw [hz2]; omega) (by omega)
        rw [this, hz1]
        simp [Value.cells]
      have hW0 : MineK (w2.alloc (.cells (madeCells #[.int .i64 0, .int .i64 0, .int .i64 0, .int .i64 0, .slice none 0 0] (n * 5)) 59)) w2.heap.size 59 5 (.slice (some ⟨w2.heap.size, 0, none⟩) 0 n) 0 (ev []) :=
        MineK.made (Own.new w2 59 _) (Nat.le_refl _) (size_madeCells _ _) (by unfold maxLen; omega) (Nat.zero_le _) (fun i hi => by omega)
      have b3 := b2.alloc b2.size (.cells (madeCells #[.int .i64 0, .int .i64 0, .int .i64 0, .int .i64 0, .slice none 0 0] (n * 5)) 59)
      have h3 := h2.kept (((Below.refl w2.heap.size w2).alloc (Nat.le_refl _) (.cells (madeCells #[.int .i64 0, .int .i64 0, .int .i64 0, .int .i64 0, .slice none 0 0] (n * 5)) 59)).mono hs2)
      have hs3 : w2.heap.size ≤ (w2.alloc (.cells (madeCells #[.int .i64 0, .int .i64 0, .int .i64 0, .int .i64 0, .slice none 0 0] (n * 5)) 59)).heap.size := by simp
      go_upto_region 8 with (fail)
      generalize w2.alloc (.cells (madeCells #[.int .i64 0, .int .i64 0, .int .i64 0, .int .i64 0, .slice none 0 0] (n * 5)) 59) = w3 at *
      obtain ⟨G, hG⟩ : ∃ G, w2.heap.size = G := ⟨_, rfl⟩
      rw [hG] at hW0 hs2 hs3 ⊢
      have hd1 : okD' L1 := fun x hx => HDI.out x (by simp [hx])
      clear h2 b2 hmk hG HDI
      go_wp2_with fail
      go_loopw [7, 25] (fun v i wr => ∃ (k : Nat) (LL : List EP) (R : List Int), i = .int .i64 k ∧ k ≤ n ∧ LL.length = k ∧ MineK wr G 59 5 v k (ev LL) ∧ Hid (∀ j, j < k → (LL.getD j ep0).e.At wr (LL.getD j ep0).a (LL.getD j ep0).c) ∧ Hid (∀ j, j < k → ∀ p, (LL.getD j ep0).a = some p → 0 < (LL.getD j ep0).e.list.length → v.ownBlock ≠ some p.block ∧ G ≤ p.block) ∧ Hid (decN k L1 = .ok (els LL, R)) ∧ Hid (okD' R) ∧ Rh wr w.heap.size H b R 0 ∧ Below w.heap.size w wr ∧ G ≤ wr.heap.size) (fun _ i _ => n - (intOf i).toNat)
      case atStart => exact ⟨0, [], L1, rfl, by omega, rfl, hW0, Lib.hid (fun j hj => by omega), Lib.hid (fun j hj => by omega), Lib.hid rfl, Lib.hid hd1, h3, b3, hs3⟩
      case round =>
        clear hW0 b3 h3 hs3
        obtain ⟨k, LL, R, rfl, hk, hLL, hW, HAT, HAP, HDN, HOD, hR, bb, hG⟩ := hrel
        have HLL := Lib.hid hLL
        clear hLL
        by_cases hlt : k < n
        · have hHr : H ≤ wr.heap.size := Nat.le_trans hs2 hG
          go_wp2_with fail
          refine (one_any _ H b R 0 wr hR HOD.out hHr).mono ?_
          intro r w4 hp
          unfold OnePost at hp
          cases h1 : dec1 R with
          | error x =>
            rw [h1] at hp
            simp only at hp
            obtain ⟨rfl, j4⟩ := hp
            have hx := dec1_err h1
            have e0 : zE.vals none 0 = #[.int .i64 0, .int .i64 0, .int .i64 0, .int .i64 0, .slice none 0 0] := rfl
            rw [e0]
            have HD : Hid (decI ((n : Int) :: L1) = .error x) := Lib.hid (decI_err hn4 (decN_err (n := k + 1) (by rw [decN_snoc, HDN.out]; simp only; rw [h1]) (by omega)))
            have g3 : (x != 0) = true := by simp; omega
            have b4 := j4.below bb hb1 bb.size
            have b5 := b4.alloc b4.size (.cells #[.int .i64 0, .int .i64 0, .int .i64 0, .int .i64 0, .slice none 0 0] 59)
            clear h1 hx e0
            go_wp2_with fail
            go_ret2
            unfold DecPost
            rw [HD.out]
            exact ⟨rfl, b5⟩
          | ok p =>
            obtain ⟨e, Q⟩ := p
            rw [h1] at hp
            simp only at hp
            obtain ⟨ea, ec, rfl, hat, hap, hR4, j4⟩ := hp
            have HD1 : Hid (decN (k + 1) L1 = .ok (els (LL ++ [⟨e, ea, ec⟩]), Q)) := Lib.hid (by rw [decN_snoc, HDN.out]; simp only; rw [h1, els_app]; rfl)
            have HOQ : Hid (okD' Q) := Lib.hid (fun x hx => HOD.out x (dec1_sub h1 x hx))
            clear h1
            obtain ⟨ek, easn, er, et, el⟩ := e
            unfold El.vals
            simp only
            have b4 := j4.below bb hb1 bb.size
            have hG4 : G ≤ w4.heap.size := Nat.le_trans hG j4.size
            have hbG : b < G := by omega
            have hW4 := hW.kept (w' := w4) (fun q hq => by
              by_cases h : q < wr.heap.size
              · exact .inl (j4.block q h (by omega))
              · exact .inr (fun e => h (hW.lt q e).2))
            have HAT4 : Hid (∀ j, j < k → (LL.getD j ep0).e.At w4 (LL.getD j ep0).a (LL.getD j ep0).c) := Lib.hid (fun j hj => (HAT.out j hj).same (fun p e1 e2 => j4.block _ ((HAT.out j hj).lt p e1 e2) (by have := (HAP.out j hj p e1 e2).2; omega)))
            have hnv : ∀ q, u7.ownBlock = some q → q < wr.heap.size := fun q e => (hW.lt q e).2
            have HNV := Lib.hid hnv
            have o8 := Own.new w4 59 #[.int .i64 ek, .int .i64 easn, .int .i64 er, .int .i64 et, .slice ea el.length ec]
            have bb8 := (Below.refl w4.heap.size w4).alloc (Nat.le_refl _) (.cells #[.int .i64 ek, .int .i64 easn, .int .i64 er, .int .i64 et, .slice ea el.length ec] 59)
            have b5 := b4.alloc b4.size (.cells #[.int .i64 ek, .int .i64 easn, .int .i64 er, .int .i64 et, .slice ea el.length ec] 59)
            have hW5 := hW4.below bb8
            have hat5 := hat.below bb8
            have HAT5 : Hid (∀ j, j < k → (LL.getD j ep0).e.At (w4.alloc (.cells #[.int .i64 ek, .int .i64 easn, .int .i64 er, .int .i64 et, .slice ea el.length ec] 59)) (LL.getD j ep0).a (LL.getD j ep0).c) := Lib.hid (fun j hj => (HAT4.out j hj).below bb8)
            have hR5 := hR4.kept (bb8.mono (by omega))
            have hG5 : G ≤ (w4.alloc (.cells #[.int .i64 ek, .int .i64 easn, .int .i64 er, .int .i64 et, .slice ea el.length ec] 59)).heap.size := by simp; omega
            go_upto_region 11 with (fail)
            generalize w4.alloc (.cells #[.int .i64 ek, .int .i64 easn, .int .i64 er, .int .i64 et, .slice ea el.length ec] 59) = w5 at *
            obtain ⟨g8, hg8⟩ : ∃ g, w4.heap.size = g := ⟨_, rfl⟩
            rw [hg8] at o8 ⊢
            clear hg8 bb8 hW hW4 HAT HAT4 hat hR hR4 j4 bb b4 hnv HDN HOD
            have y0 : w5.cell? ⟨g8, 0, none⟩ = some (.int .i64 ek) := o8.cell 0
            have y1 : w5.cell? ⟨g8, 1, none⟩ = some (.int .i64 easn) := o8.cell 1
            have y2 : w5.cell? ⟨g8, 2, none⟩ = some (.int .i64 er) := o8.cell 2
            have y3 : w5.cell? ⟨g8, 3, none⟩ = some (.int .i64 et) := o8.cell 3
            have y4 : w5.cell? ⟨g8, 4, none⟩ = some (.slice ea el.length ec) := o8.cell 4
            have hr1 : Row (w5.alloc (.cells #[.int .i64 ek, .int .i64 easn, .int .i64 er, .int .i64 et, .slice ea el.length ec] 59)) (some ⟨w5.heap.size, 0, none⟩) (1 * 5) (ev [⟨⟨ek, easn, er, et, el⟩, ea, ec⟩]) := row_new _ _ _ _ (fun i hi => by rcases (show i = 0 ∨ i = 1 ∨ i = 2 ∨ i = 3 ∨ i = 4 by omega) with rfl | rfl | rfl | rfl | rfl <;> rfl)
            have HR1 := Lib.hid hr1
            have HNM : Hid (k + 1 ≤ maxLen) := Lib.hid (by unfold maxLen; omega)
            have bbA := (Below.refl w5.heap.size w5).alloc (Nat.le_refl _) (.cells #[.int .i64 ek, .int .i64 easn, .int .i64 er, .int .i64 et, .slice ea el.length ec] 59)
            have hbs5 : G ≤ (w5.alloc (.cells #[.int .i64 ek, .int .i64 easn, .int .i64 er, .int .i64 et, .slice ea el.length ec] 59)).heap.size := by simp; omega
            clear hr1
            go_wp2_with (at_builtin; go_must (refine wp_appK rfl (.tmp 35) (.tmp 37) _ rfl G 59 i0 _ 5 56 Tryz.underlying34 hi0 hz0 hz1 hz2 rfl (by decide) u7 k (ev LL) rfl (hW5.alloc _) _ 1 _ (ev [⟨⟨ek, easn, er, et, el⟩, ea, ec⟩]) rfl HR1.out (fun i _ => ev_one _ i) HNM.out ?c2 hbs5 ?_))
            case c2 => omega
            intro v9 w9 m9 q9 l9
            have hsame : ∀ q, q < w5.heap.size → u7.ownBlock ≠ some q → w9.heap[q]? = w5.heap[q]? := fun q h1 h2 => (q9.block q (by simp; omega) (fun e => h2 e.symm)).trans (bbA.block q h1)
            have hM9 : MineK w9 G 59 5 v9 (k + 1) (ev (LL ++ [(⟨⟨ek, easn, er, et, el⟩, ea, ec⟩ : EP)])) := m9.ext (fun i _ => by rw [← HLL.out]; exact ev_app LL _ i)
            have b9 := (b5.alloc b5.size (.cells #[.int .i64 ek, .int .i64 easn, .int .i64 er, .int .i64 et, .slice ea el.length ec] 59)).grown q9 (by omega) (fun q e => by have := (hW5.lt q e).1; omega)
            have hR9 : Rh w9 w.heap.size H b Q 0 := hR5.kept (((Below.refl H w5).alloc (by omega) (.cells #[.int .i64 ek, .int .i64 easn, .int .i64 er, .int .i64 et, .slice ea el.length ec] 59)).grown q9 (by omega) (fun q e => by have := (hW5.lt q e).1; omega))
            have hget : ∀ j, j < k → (LL ++ [(⟨⟨ek, easn, er, et, el⟩, ea, ec⟩ : EP)]).getD j ep0 = LL.getD j ep0 := fun j hj => by
              rw [List.getD_eq_getElem?_getD, List.getD_eq_getElem?_getD, List.getElem?_append_left (by rw [HLL.out]; exact hj)]
            have hgetk : (LL ++ [(⟨⟨ek, easn, er, et, el⟩, ea, ec⟩ : EP)]).getD k ep0 = ⟨⟨ek, easn, er, et, el⟩, ea, ec⟩ := by
              rw [List.getD_eq_getElem?_getD, List.getElem?_append_right (by rw [HLL.out]; exact Nat.le_refl _), HLL.out, Nat.sub_self]
              rfl
            have hnew : ∀ p, ea = some p → 0 < el.length → u7.ownBlock ≠ some p.block ∧ p.block < w5.heap.size ∧ G ≤ p.block := fun p e1 e2 => by
              have h1 := hap p e1
              refine ⟨fun e => ?_, hat5.lt p e1 e2, by omega⟩
              have := HNV.out _ e
              omega
            have HAT9 : Hid (∀ j, j < k + 1 → ((LL ++ [(⟨⟨ek, easn, er, et, el⟩, ea, ec⟩ : EP)]).getD j ep0).e.At w9 ((LL ++ [(⟨⟨ek, easn, er, et, el⟩, ea, ec⟩ : EP)]).getD j ep0).a ((LL ++ [(⟨⟨ek, easn, er, et, el⟩, ea, ec⟩ : EP)]).getD j ep0).c) := Lib.hid (fun j hj => by
              by_cases e : j = k
              · subst e
                rw [hgetk]
                exact hat5.same (fun p e1 e2 => hsame _ (hnew p e1 e2).2.1 (hnew p e1 e2).1)
              · rw [hget j (by omega)]
                exact (HAT5.out j (by omega)).same (fun p e1 e2 => hsame _ ((HAT5.out j (by omega)).lt p e1 e2) (HAP.out j (by omega) p e1 e2).1))
            have hv9 : ∀ q, q < w5.heap.size → u7.ownBlock ≠ some q → v9.ownBlock ≠ some q := fun q h1 h2 e => by
              rcases l9 with h | h
              · rw [h] at e; exact h2 e
              · rw [h] at e
                injection e with e
                first | omega | (simp at e; omega)
            have HAP9 : Hid (∀ j, j < k + 1 → ∀ p, ((LL ++ [(⟨⟨ek, easn, er, et, el⟩, ea, ec⟩ : EP)]).getD j ep0).a = some p → 0 < ((LL ++ [(⟨⟨ek, easn, er, et, el⟩, ea, ec⟩ : EP)]).getD j ep0).e.list.length → v9.ownBlock ≠ some p.block ∧ G ≤ p.block) := Lib.hid (fun j hj p e1 e2 => by
              by_cases e : j = k
              · subst e
                rw [hgetk] at e1 e2
                exact ⟨hv9 _ (hnew p e1 e2).2.1 (hnew p e1 e2).1, (hnew p e1 e2).2.2⟩
              · rw [hget j (by omega)] at e1 e2
                exact ⟨hv9 _ ((HAT5.out j (by omega)).lt p e1 e2) (HAP.out j (by omega) p e1 e2).1, (HAP.out j (by omega) p e1 e2).2⟩)
            have hG9 : G ≤ w9.heap.size := Nat.le_trans hbs5 q9.size
            have hL9 : (LL ++ [(⟨⟨ek, easn, er, et, el⟩, ea, ec⟩ : EP)]).length = k + 1 := by rw [List.length_append, HLL.out]; rfl
            have HL9 := Lib.hid hL9
            clear hsame m9 q9 l9 hget hgetk hnew hv9 bbA hbs5 hR5 hW5 hat5 HAT5 hap b5 hL9 HR1 HNM
            go_wp2_with fail
            exact ⟨⟨k + 1, LL ++ [(⟨⟨ek, easn, er, et, el⟩, ea, ec⟩ : EP)], Q, by simp, by omega, HL9.out, hM9, HAT9, HAP9, HD1, HOQ, hR9, b9, hG9⟩, by simp [intOf]; omega⟩
        · obtain rfl : n = k := by omega
          obtain ⟨aL, cL, rfl, lc, lm, RL⟩ := hW.row
          have hels : Els wr LL aL cL := ⟨by rw [HLL.out]; exact lc, lm, by rw [HLL.out]; exact RL, fun j hj => HAT.out j (by rw [← HLL.out]; exact hj)⟩
          have hend := endb_any _ b R 0 wr hR.rb
          unfold endE at hend
          rw [if_pos rfl] at hend
          have haq : ∀ q, aL = some q → w.heap.size ≤ q.block := fun q e => by
            subst e
            have := (hW.lt q.block rfl).1
            omega
          have hlq : ∀ j, j < LL.length → ∀ q, (LL.getD j ep0).a = some q → 0 < (LL.getD j ep0).e.list.length → w.heap.size ≤ q.block := fun j hj q e1 e2 => by
            have := (HAP.out j (by rw [← HLL.out]; exact hj) q e1 e2).2
            omega
          by_cases hR0 : R = []
          · subst hR0
            rw [if_pos rfl] at hend
            have HE := Lib.hid hend
            have HD : Hid (decI ((n : Int) :: L1) = .ok (els LL)) := Lib.hid (decI_ok hn4 HDN.out)
            have HELS := Lib.hid hels
            have HAQ := Lib.hid haq
            have HLQ := Lib.hid hlq
            clear hend hW RL hels haq hlq
            go_wp2_with fail
            refine HE.out.mono ?_
            rintro r w' ⟨rfl, m, rfl⟩
            go_wp2_with fail
            go_ret2
            unfold DecPost
            rw [HD.out]
            exact ⟨LL, aL, cL, rfl, by rw [HLL.out]; rfl, HELS.out.below (below_drewN (Below.refl _ _) m), HAQ.out, HLQ.out, below_drewN bb m⟩
          · rw [if_neg hR0] at hend
            have HE := Lib.hid hend
            have HD : Hid (decI ((n : Int) :: L1) = .error 3) := Lib.hid (decI_more hn4 HDN.out hR0)
            clear hend hW RL hels haq hlq hR0
            go_wp2_with fail
            refine HE.out.mono ?_
            rintro r w' ⟨rfl, m, rfl⟩
            go_wp2_with fail
            go_ret2
            unfold DecPost
            rw [HD.out]
            exact ⟨rfl, below_drewN bb m⟩
end Go.Proofs.YtiflmdekcjbmbaaGreat.Ie
set_option maxRecDepth 100000
namespace Go.Proofs.YtiflmdekcjbmbaaGreat.Ie
set_option linter.unusedVariables false
set_option linter.unusedSimpArgs false
open Go.RowKit Lb Bf

theorem okD_take' {l : List Int} {n : Nat} (h : okD' l) : okD' (l.take n) := fun x hx => h x (List.mem_of_mem_take hx)
theorem okD_drop' {l : List Int} {n : Nat} (h : okD' l) : okD' (l.drop n) := fun x hx => h x (List.mem_of_mem_drop hx)
/-- Bytes out of the number that bytes are. -/
theorem bytes_numB : ∀ (k : Nat) (l : List Int), l.length = k → okD' l → bytesK (numB l).toNat k = l := by
  intro k
  induction k with
  | zero => intro l hl _; rw [List.length_eq_zero_iff.1 hl]; rfl
  | succ k ih =>
    intro l hl hd
    rcases List.eq_nil_or_concat l with rfl | ⟨m, c, rfl⟩
    · simp at hl
    · rw [List.concat_eq_append] at *
      have hml : m.length = k := by simp at hl; omega
      have hdm : okD' m := fun x hx => hd x (List.mem_append_left _ hx)
      have h1 := numB_bd k m hml hdm
      have h2 := hd c (List.mem_append_right _ (by simp))
      rw [numB_snoc, bytesK_snoc, show (numB m * 256 + c).toNat / 256 = (numB m).toNat by omega, ih m hml hdm, show (numB m * 256 + c).toNat % 256 = c.toNat by omega]
      congr 1
      rw [Int.toNat_of_nonneg h2.1]
theorem octsB_of {l : List Int} (h : okD' l) : octsB l = true := by
  unfold octsB
  rw [decide_eq_true_eq]
  intro j hj
  rw [List.getD_eq_getElem?_getD, List.getElem?_eq_getElem hj]
  have := h _ (List.getElem_mem hj)
  simp only [Option.getD_some]
  omega
theorem i16_u64 {x : Int} (h : 0 ≤ x ∧ x < 65536) : bytesK (u64 (IntKind.i16.wrap x)) 2 = bytesK x.toNat 2 := by
  have e : u64 (IntKind.i16.wrap x) % 65536 = x.toNat := by
    unfold u64
    simp only [IntKind.wrap, IntKind.signed, IntKind.bits]
    simp
    omega
  generalize u64 (IntKind.i16.wrap x) = y at e
  rw [bytesK_snoc, bytesK_snoc, bytesK_snoc, bytesK_snoc]
  rw [show y / 256 % 256 = x.toNat / 256 % 256 by omega, show y % 256 = x.toNat % 256 by omega]
  rfl
theorem six_cut {l : List Int} (h : l.length = 6) : l = l.take 5 ++ [l.getD 5 0] := by
  have h1 : l.take 6 = l := List.take_of_length_le (by omega)
  have := tk_snoc (l := l) (k := 5) (by omega)
  rw [← this, h1]
theorem dec1_back {L : List Int} {x : El} {R : List Int} (hd : okD' L) (h : dec1 L = .ok (x, R)) : mayE x = true ∧ L = encOne x ++ R := by
  unfold dec1 at h
  match L, h with
  | [], h => cases h
  | k :: L1, h =>
    simp only at h
    split at h
    · cases h
    · rename_i hk
      match L1, h with
      | [], h => cases h
      | s :: L2, h =>
        simp only at h
        split at h
        · cases h
        · rename_i hs
          split at h
          · cases h
          · rename_i hl
            injection h with h
            injection h with h1 h2
            subst h1 h2
            have hs' : sizeB k s = true := by simpa using hs
            have hs0 := hd s (by simp)
            have hd2 : okD' (L2.take s.toNat) := fun x hx => hd x (by have := List.mem_of_mem_take hx; simp [this])
            have hlen : (L2.take s.toNat).length = s.toNat := by rw [List.length_take]; omega
            have happ : k :: s :: L2 = [k] ++ [s] ++ L2.take s.toNat ++ L2.drop s.toNat := by simp
            rw [happ]
            generalize L2.take s.toNat = X at *
            generalize L2.drop s.toNat = Q at *
            clear happ
            unfold sizeB at hs'
            by_cases k1 : k = 1
            · subst k1
              simp at hs'
              subst hs'
              have h6 : X.length = 6 := hlen
              have hb := numB_bd 5 (X.take 5) (by rw [List.length_take]; omega) (okD_take' hd2)
              have e5 : (256 : Int) ^ 5 = 1099511627776 := by decide
              rw [e5] at hb
              have h5 : 0 ≤ X.getD 5 0 ∧ X.getD 5 0 < 256 := by
                rw [List.getD_eq_getElem?_getD, List.getElem?_eq_getElem (by omega)]
                exact hd2 _ (List.getElem_mem _)
              have hbb := bytes_numB 5 (X.take 5) (by rw [List.length_take]; omega) (okD_take' hd2)
              have hE : elOf 1 X = ⟨1, numB (X.take 5), X.getD 5 0, 0, []⟩ := by unfold elOf; rw [if_pos rfl]
              have h6c := six_cut h6
              rw [hE]
              generalize X.getD 5 0 = z at *
              refine ⟨?_, ?_⟩
              · rw [may1]
                simp [asnB]
                omega
              · congr 1
                unfold encOne
                simp only [if_pos]
                rw [hbb, List.append_assoc ([1] ++ [6]) (X.take 5) [z], ← h6c]
            · by_cases k2 : k = 2
              · subst k2
                simp at hs'
                subst hs'
                have h2 : X.length = 2 := hlen
                have hb := numB_bd 2 X h2 hd2
                have e5 : (256 : Int) ^ 2 = 65536 := by decide
                rw [e5] at hb
                have hbb := bytes_numB 2 X h2 hd2
                have hE : elOf 2 X = ⟨2, 0, 0, IntKind.i16.wrap (numB X), []⟩ := by unfold elOf; rw [if_neg (by decide), if_pos rfl]
                rw [hE]
                have hw : -32768 ≤ IntKind.i16.wrap (numB X) ∧ IntKind.i16.wrap (numB X) ≤ 32767 := by
                  simp only [IntKind.wrap, IntKind.signed, IntKind.bits]
                  simp
                  omega
                refine ⟨?_, ?_⟩
                · rw [may2]
                  simp
                  omega
                · congr 1
                  rw [show encOne ⟨2, 0, 0, IntKind.i16.wrap (numB X), []⟩ = [2] ++ [2] ++ bytesK (u64 (IntKind.i16.wrap (numB X))) 2 from by unfold encOne; rw [if_neg (by simp), if_pos rfl], i16_u64 hb, hbb]
              · have hs'' : s ≤ 16 := by simpa [k1, k2] using hs'
                have hk34 : k = 3 ∨ k = 4 := by omega
                refine ⟨?_, ?_⟩
                · unfold elOf
                  rw [if_neg k1, if_neg k2, may3 _ _ _ _ _ hk34, octsB_of hd2]
                  simp
                  omega
                · congr 1
                  unfold elOf encOne
                  rw [if_neg k1, if_neg k2]
                  simp only
                  rw [if_neg k1, if_neg k2]
                  congr 2
                  rw [hlen]
                  congr 1
                  omega
theorem decN_back : ∀ (n : Nat) (L : List Int) (l : List El) (R : List Int), okD' L → decN n L = .ok (l, R) → l.length = n ∧ (∀ x, x ∈ l → mayE x = true) ∧ L = encL l ++ R := by
  intro n
  induction n with
  | zero =>
    intro L l R hd h
    simp only [decN] at h
    injection h with h
    injection h with h1 h2
    subst h1 h2
    exact ⟨rfl, (fun x hx => by cases hx), rfl⟩
  | succ n ih =>
    intro L l R hd h
    rw [decN] at h
    cases h1 : dec1 L with
    | error e => rw [h1] at h; cases h
    | ok p =>
      obtain ⟨x, Q⟩ := p
      rw [h1] at h
      simp only at h
      cases h2 : decN n Q with
      | error e => rw [h2] at h; cases h
      | ok p =>
        obtain ⟨m, S⟩ := p
        rw [h2] at h
        simp only at h
        injection h with h
        injection h with h3 h4
        subst h3 h4
        obtain ⟨hm, he⟩ := dec1_back hd h1
        have hdQ : okD' Q := fun y hy => hd y (dec1_sub h1 y hy)
        obtain ⟨g1, g2, g3⟩ := ih Q m S hdQ h2
        refine ⟨by simp [g1], fun y hy => ?_, ?_⟩
        · rcases List.mem_cons.1 hy with h | h
          · rw [h]; exact hm
          · exact g2 y h
        · rw [he, g3, encL, List.append_assoc]
theorem decI_back {L : List Int} {l : List El} (hd : okD' L) (h : decI L = .ok l) : mayL l = true ∧ encI l = L := by
  unfold decI at h
  match L, h with
  | [], h => cases h
  | n :: L1, h =>
    simp only at h
    split at h
    · cases h
    · rename_i hn
      have hn0 := hd n (by simp)
      cases h1 : decN n.toNat L1 with
      | error e => rw [h1] at h; cases h
      | ok p =>
        obtain ⟨m, R⟩ := p
        rw [h1] at h
        simp only at h
        split at h
        · rename_i hR
          injection h with h
          subst h hR
          obtain ⟨g1, g2, g3⟩ := decN_back n.toNat L1 m [] (fun y hy => hd y (by simp [hy])) h1
          refine ⟨?_, ?_⟩
          · unfold mayL
            rw [Bool.and_eq_true, decide_eq_true_eq, List.all_eq_true]
            exact ⟨by omega, g2⟩
          · unfold encI
            rw [g3, g1, List.append_nil, Int.toNat_of_nonneg hn0.1]
            rfl
        · cases h
theorem dec1_enc {x : El} (hm : mayE x = true) (R : List Int) : dec1 (encOne x ++ R) = .ok (x, R) := by
  obtain ⟨k, a, r, t, l⟩ := x
  rcases mayE_kind hm with h1 | h1 | h1 | h1
  · have h1 : k = 1 := h1
    subst h1
    rw [may1] at hm
    simp only [Bool.and_eq_true, decide_eq_true_eq, asnB, beq_iff_eq] at hm
    obtain ⟨ha, hr0, hr1, ht, hl⟩ := hm
    have hl := List.length_eq_zero_iff.1 hl
    subst ht hl
    unfold encOne
    simp only [if_pos]
    have e6 : (bytesK a.toNat 5 ++ [r]).length = 6 := by simp [bytesK_len]
    have e5 : (bytesK a.toNat 5).length = 5 := bytesK_len _ _
    have hsh : [1] ++ [6] ++ bytesK a.toNat 5 ++ [r] ++ R = 1 :: 6 :: ((bytesK a.toNat 5 ++ [r]) ++ R) := by simp
    rw [hsh]
    unfold dec1
    simp only
    rw [if_neg (by decide), if_neg (by decide), if_neg (by rw [List.length_append, e6]; show ¬ _ < 6; omega)]
    rw [show (6 : Int).toNat = 6 from rfl, ← e6, List.take_left, List.drop_left]
    congr 2
    unfold elOf
    rw [if_pos rfl]
    have t5 : (bytesK a.toNat 5 ++ [r]).take 5 = bytesK a.toNat 5 := List.take_left' e5
    have g5 : (bytesK a.toNat 5 ++ [r]).getD 5 0 = r := by
      rw [List.getD_eq_getElem?_getD, List.getElem?_append_right (by omega), e5]
      rfl
    rw [t5, g5, numB_bytes 5 a.toNat (by show a.toNat < 1099511627776; omega), Int.toNat_of_nonneg ha.1]
  · have h1 : k = 2 := h1
    subst h1
    rw [may2] at hm
    simp only [Bool.and_eq_true, decide_eq_true_eq, beq_iff_eq] at hm
    obtain ⟨ht0, ht1, ha, hr, hl⟩ := hm
    have hl := List.length_eq_zero_iff.1 hl
    subst ha hr hl
    unfold encOne
    rw [if_neg (by simp), if_pos rfl]
    have e2 : (bytesK (u64 t) 2).length = 2 := bytesK_len _ _
    have hsh : [2] ++ [2] ++ bytesK (u64 t) 2 ++ R = 2 :: 2 :: (bytesK (u64 t) 2 ++ R) := by simp
    simp only at hsh ⊢
    rw [hsh]
    unfold dec1
    simp only
    rw [if_neg (by decide), if_neg (by decide), if_neg (by rw [List.length_append, e2]; show ¬ _ < 2; omega)]
    rw [show (2 : Int).toNat = 2 from rfl]
    have tk : (bytesK (u64 t) 2 ++ R).take 2 = bytesK (u64 t) 2 := List.take_left' e2
    have dr : (bytesK (u64 t) 2 ++ R).drop 2 = R := List.drop_left' e2
    rw [tk, dr]
    congr 2
    unfold elOf
    rw [if_neg (by decide), if_pos rfl]
    have hmod : bytesK (u64 t) 2 = bytesK (u64 t % 65536) 2 := by
      rw [bytesK_snoc, bytesK_snoc, bytesK_snoc, bytesK_snoc]
      rw [show u64 t % 65536 / 256 % 256 = u64 t / 256 % 256 by omega, show u64 t % 65536 % 256 = u64 t % 256 by omega]
      rfl
    rw [hmod, numB_bytes 2 _ (by show _ < 65536; omega)]
    congr 1
    unfold u64
    simp only [IntKind.wrap, IntKind.signed, IntKind.bits]
    simp
    omega
  all_goals
    have h1 : k = _ := h1
    subst h1
    rw [may3 _ _ _ _ _ (by omega)] at hm
    simp only [Bool.and_eq_true, decide_eq_true_eq, beq_iff_eq] at hm
    obtain ⟨ho, h16, ha, hr, ht⟩ := hm
    subst ha hr ht
    unfold encOne
    rw [if_neg (by simp), if_neg (by simp)]
    simp only
    have hsh : ∀ q : Int, [q] ++ [(l.length : Int)] ++ l ++ R = q :: (l.length : Int) :: (l ++ R) := fun q => by simp
    rw [hsh]
    unfold dec1
    simp only
    rw [if_neg (by decide), if_neg (by unfold sizeB; simp; omega), if_neg (by rw [List.length_append]; simp)]
    rw [Int.toNat_natCast, List.take_left, List.drop_left]
    congr 2
theorem decN_enc : ∀ (l : List El) (R : List Int), (∀ x, x ∈ l → mayE x = true) → decN l.length (encL l ++ R) = .ok (l, R) := by
  intro l
  induction l with
  | nil => intro R _; rfl
  | cons x l ih =>
    intro R h
    rw [List.length_cons, decN, encL, List.append_assoc, dec1_enc (h x (by simp))]
    simp only
    rw [ih R (fun y hy => h y (by simp [hy]))]
theorem decI_enc {l : List El} (h : mayL l = true) : decI (encI l) = .ok l := by
  unfold mayL at h
  rw [Bool.and_eq_true, decide_eq_true_eq, List.all_eq_true] at h
  have h1 := decN_enc l [] h.2
  rw [List.append_nil] at h1
  exact decI_ok h.1 h1
end Go.Proofs.YtiflmdekcjbmbaaGreat.Ie
set_option maxRecDepth 100000
namespace Go.Proofs.YtiflmdekcjbmbaaGreat.Ie
set_option linter.unusedVariables false
set_option linter.unusedSimpArgs false
open Go.RowKit Lb Go.Shelf

instance : DecidableEq El := fun a b => if h : sameE a b = true then isTrue (sameE_eq h) else isFalse (fun e => h (by rw [e]; exact sameE_self b))
theorem els_ext {L M : List EP} (h : L.length = M.length) (hk : ∀ j, j < L.length → (L.getD j ep0).e = (M.getD j ep0).e) : els L = els M := by
  apply List.ext_getElem (by rw [els_len, els_len, h])
  intro i h1 h2
  rw [els_len] at h1 h2
  rw [els_at h1 rfl, els_at h2 rfl]
  exact hk i h1
theorem els_get {L M : List EP} (h : els L = els M) {j : Nat} (hj : j < L.length) (hm : j < M.length) : (L.getD j ep0).e = (M.getD j ep0).e := by
  rw [← els_at hj rfl, ← els_at hm rfl]
  simp only [h]
end Go.Proofs.YtiflmdekcjbmbaaGreat.Ie
namespace Go.Proofs.YtiflmdekcjbmbaaGreat.Cr
set_option linter.unusedVariables false
set_option linter.unusedSimpArgs false

/-- One bit goes. -/
def bit (s : Nat) : Nat := if s % 2 = 1 then (s / 2) ^^^ 33800 else s / 2
def bits_ : Nat → Nat → Nat
  | 0, s => s
  | k + 1, s => bits_ k (bit s)
/-- Eight bits go. -/
def oct (s : Nat) : Nat := bits_ 8 s
/-- The sum of the first k bytes of Z. -/
def crc (Z : Nat → Int) : Nat → Nat
  | 0 => 0
  | k + 1 => oct (crc Z k ^^^ (Z k).toNat)

theorem bit_lt {s : Nat} (h : s < 65536) : bit s < 65536 := by
  unfold bit
  split
  · exact Nat.xor_lt_two_pow (n := 16) (by omega) (by omega)
  · omega
theorem bits_lt : ∀ (k : Nat) {s : Nat}, s < 65536 → bits_ k s < 65536
  | 0, _, h => h
  | k + 1, _, h => bits_lt k (bit_lt h)
theorem oct_lt {s : Nat} (h : s < 65536) : oct s < 65536 := bits_lt 8 h
theorem xor_lt {a b : Nat} (ha : a < 65536) (hb : b < 65536) : a ^^^ b < 65536 := Nat.xor_lt_two_pow (n := 16) ha hb
def Byte (Z : Nat → Int) : Prop := ∀ i, 0 ≤ Z i ∧ Z i < 256
theorem crc_lt {Z : Nat → Int} (hz : Byte Z) : ∀ k, crc Z k < 65536
  | 0 => by simp [crc]
  | k + 1 => oct_lt (xor_lt (crc_lt hz k) (by have := hz k; omega))

theorem xor_mod2 (a b : Nat) : (a ^^^ b) % 2 = (a % 2) ^^^ (b % 2) := by
  have := Nat.xor_mod_two_pow (a := a) (b := b) (n := 1)
  simpa using this
theorem xor_half (a b : Nat) : (a ^^^ b) / 2 = (a / 2) ^^^ (b / 2) := by
  have := Nat.xor_div_two_pow (a := a) (b := b) (n := 1)
  simpa using this
theorem bit_xor (a b : Nat) : bit (a ^^^ b) = bit a ^^^ bit b := by
  unfold bit
  rw [xor_mod2, xor_half]
  rcases Nat.mod_two_eq_zero_or_one a with ha | ha <;> rcases Nat.mod_two_eq_zero_or_one b with hb | hb <;> simp [ha, hb]
  · ac_rfl
  · ac_rfl
  · rw [show (a / 2 ^^^ 33800 ^^^ (b / 2 ^^^ 33800)) = (a / 2 ^^^ b / 2) ^^^ (33800 ^^^ 33800) by ac_rfl]
    simp
theorem bits_xor : ∀ (k a b : Nat), bits_ k (a ^^^ b) = bits_ k a ^^^ bits_ k b
  | 0, _, _ => rfl
  | k + 1, a, b => by rw [bits_, bits_, bits_, bit_xor, bits_xor k]
theorem oct_xor (a b : Nat) : oct (a ^^^ b) = oct a ^^^ oct b := bits_xor 8 a b
theorem eq_of_xor {a b : Nat} (h : a ^^^ b = 0) : a = b := by
  have := congrArg (· ^^^ b) h
  simpa [Nat.xor_assoc] using this
theorem bit_zero {s : Nat} (h : s < 65536) (h0 : bit s = 0) : s = 0 := by
  unfold bit at h0
  split at h0
  · have := eq_of_xor h0
    omega
  · omega
theorem bits_zero : ∀ (k : Nat) {s : Nat}, s < 65536 → bits_ k s = 0 → s = 0
  | 0, _, _, h => h
  | k + 1, _, hs, h => bit_zero hs (bits_zero k (bit_lt hs) h)
theorem oct_zero {s : Nat} (h : s < 65536) (h0 : oct s = 0) : s = 0 := bits_zero 8 h h0
theorem oct_inj {a b : Nat} (ha : a < 65536) (hb : b < 65536) (h : oct a = oct b) : a = b :=
  eq_of_xor (oct_zero (xor_lt ha hb) (by rw [oct_xor, h, Nat.xor_self]))
theorem oct_none : oct 0 = 0 := by decide
theorem bit_even (m : Nat) : bit (2 * m) = m := by
  unfold bit
  rw [if_neg (by omega)]
  omega
theorem oct_high (h : Nat) : oct (256 * h) = h := by
  have e : 256 * h = 2 * (2 * (2 * (2 * (2 * (2 * (2 * (2 * h))))))) := by omega
  rw [e]
  simp only [oct, bits_, bit_even]
theorem low_gone (s : Nat) : s ^^^ (s % 256) = 256 * (s / 256) := by
  have h1 := Nat.xor_mod_two_pow (a := s) (b := s % 256) (n := 8)
  have h2 := Nat.xor_div_two_pow (a := s) (b := s % 256) (n := 8)
  have e : s % 256 / 256 = 0 := by omega
  simp [e] at h1 h2
  omega
/-- What ends with its own sum, the low byte first, sums up to 0; and nothing else does. -/
theorem sum_zero {s p q : Nat} (hs : s < 65536) (hp : p < 256) (hq : q < 256) : oct (oct (s ^^^ p) ^^^ q) = 0 ↔ p = s % 256 ∧ q = s / 256 := by
  constructor
  · intro h
    have h1 := oct_zero (xor_lt (oct_lt (xor_lt hs (by omega))) (by omega)) h
    have h2 := eq_of_xor h1
    rw [← oct_high q] at h2
    have h3 := oct_inj (xor_lt hs (by omega)) (by omega) h2
    have h4 := congrArg (· % 256) h3
    have h5 := congrArg (· / 256) h3
    have e1 := Nat.xor_mod_two_pow (a := s) (b := p) (n := 8)
    have e2 := Nat.xor_div_two_pow (a := s) (b := p) (n := 8)
    have e3 : p / 256 = 0 := by omega
    have e4 : p % 256 = p := by omega
    simp only [show (2 : Nat) ^ 8 = 256 from rfl, e3, e4, Nat.xor_zero] at e1 e2
    rw [e1] at h4
    rw [e2] at h5
    have h6 := eq_of_xor (show s % 256 ^^^ p = 0 by omega)
    exact ⟨h6.symm, by omega⟩
  · rintro ⟨rfl, rfl⟩
    rw [low_gone, oct_high, Nat.xor_self, oct_none]

theorem crc_same {Z Y : Nat → Int} : ∀ k, (∀ i, i < k → Z i = Y i) → crc Z k = crc Y k
  | 0, _ => rfl
  | k + 1, h => by rw [crc, crc, crc_same k (fun i hi => h i (by omega)), h k (by omega)]
theorem crc_zero {Z : Nat → Int} : ∀ k, (∀ i, i < k → Z i = 0) → crc Z k = 0
  | 0, _ => rfl
  | k + 1, h => by rw [crc, crc_zero k (fun i hi => h i (by omega)), h k (by omega)]; decide
theorem crc_xor3 {A B C D : Nat → Int} : ∀ k, (∀ i, i < k → (D i).toNat = (A i).toNat ^^^ (B i).toNat ^^^ (C i).toNat) → crc D k = crc A k ^^^ crc B k ^^^ crc C k
  | 0, _ => by simp [crc]
  | k + 1, h => by
    rw [crc, crc, crc, crc, crc_xor3 k (fun i hi => h i (by omega)), h k (by omega), ← oct_xor, ← oct_xor]
    congr 1
    ac_rfl
/-- The sum goes on from the sum ahead. -/
def more (s : Nat) (Z : Nat → Int) : Nat → Nat
  | 0 => s
  | k + 1 => oct (more s Z k ^^^ (Z k).toNat)
theorem crc_more {Z : Nat → Int} (n : Nat) : ∀ k, crc Z (n + k) = more (crc Z n) (fun i => Z (n + i)) k
  | 0 => rfl
  | k + 1 => by rw [← Nat.add_assoc, crc, crc_more n k, more]
theorem more_same {Z Y : Nat → Int} (s : Nat) : ∀ k, (∀ i, i < k → Z i = Y i) → more s Z k = more s Y k
  | 0, _ => rfl
  | k + 1, h => by rw [more, more, more_same s k (fun i hi => h i (by omega)), h k (by omega)]
theorem more_lt {Z : Nat → Int} (hz : Byte Z) {s : Nat} (hs : s < 65536) : ∀ k, more s Z k < 65536
  | 0 => hs
  | k + 1 => oct_lt (xor_lt (more_lt hz hs k) (by have := hz k; omega))
theorem more_inj {Z : Nat → Int} (hz : Byte Z) {s t : Nat} (hs : s < 65536) (ht : t < 65536) : ∀ k, more s Z k = more t Z k → s = t
  | 0, h => h
  | k + 1, h => more_inj hz hs ht k (by
    have e := oct_inj (xor_lt (more_lt hz hs k) (by have := hz k; omega)) (xor_lt (more_lt hz ht k) (by have := hz k; omega)) h
    have := congrArg (· ^^^ (Z k).toNat) e
    simpa [Nat.xor_assoc] using this)
theorem more_zero {Z : Nat → Int} : ∀ k, crc Z k = more 0 Z k
  | 0 => rfl
  | k + 1 => by rw [crc, more, more_zero k]
theorem high_of : ∀ x, x < 256 → 0 < x → 256 ≤ oct x := by decide +kernel
/-- A change within two bytes side by side turns the sum. -/
theorem crc_tells {Z Y : Nat → Int} (hz : Byte Z) (hy : Byte Y) (at_ k x y : Nat) (hx : x < 256) (hy2 : y < 256) (hxy : ¬ (x = 0 ∧ y = 0)) (hk : at_ + 2 ≤ k)
    (h0 : (Y at_).toNat = (Z at_).toNat ^^^ x) (h1 : (Y (at_ + 1)).toNat = (Z (at_ + 1)).toNat ^^^ y) (hs : ∀ i, i < k → i ≠ at_ → i ≠ at_ + 1 → Y i = Z i) : crc Y k ≠ crc Z k := by
  intro h
  obtain ⟨m, rfl⟩ := Nat.exists_eq_add_of_le hk
  rw [crc_more (Z := Y) (at_ + 2) m, crc_more (Z := Z) (at_ + 2) m, more_same _ m (fun i hi => hs (at_ + 2 + i) (by omega) (by omega) (by omega))] at h
  have e := more_inj (Z := fun i => Z (at_ + 2 + i)) (fun i => hz _) (crc_lt hy _) (crc_lt hz _) m h
  have e1 : crc Y (at_ + 2) = oct (oct (crc Z at_ ^^^ ((Z at_).toNat ^^^ x)) ^^^ ((Z (at_ + 1)).toNat ^^^ y)) := by
    rw [crc, crc, crc_same at_ (fun i hi => hs i (by omega) (by omega) (by omega)), h0, h1]
  have e2 : crc Z (at_ + 2) = oct (oct (crc Z at_ ^^^ (Z at_).toNat) ^^^ (Z (at_ + 1)).toNat) := by rw [crc, crc]
  rw [e1, e2] at e
  have b0 : (Z at_).toNat < 65536 := by have := hz at_; omega
  have b1 : (Z (at_ + 1)).toNat < 65536 := by have := hz (at_ + 1); omega
  have c0 := crc_lt hz at_
  have i1 := oct_inj (xor_lt (oct_lt (xor_lt c0 (xor_lt b0 (by omega)))) (xor_lt b1 (by omega))) (xor_lt (oct_lt (xor_lt c0 b0)) b1) e
  rw [show crc Z at_ ^^^ ((Z at_).toNat ^^^ x) = (crc Z at_ ^^^ (Z at_).toNat) ^^^ x from (Nat.xor_assoc _ _ _).symm, oct_xor _ x] at i1
  have i2 : oct x ^^^ y = 0 := by
    generalize oct (crc Z at_ ^^^ (Z at_).toNat) = S at *
    generalize (Z (at_ + 1)).toNat = q at *
    have := congrArg (· ^^^ (S ^^^ q)) i1
    rw [Nat.xor_self, show S ^^^ oct x ^^^ (q ^^^ y) ^^^ (S ^^^ q) = (S ^^^ S) ^^^ (q ^^^ q) ^^^ (oct x ^^^ y) by ac_rfl] at this
    simpa using this
  have i3 := eq_of_xor i2
  by_cases hx0 : x = 0
  · subst hx0
    rw [oct_none] at i3
    exact hxy ⟨rfl, i3.symm⟩
  · have := high_of x hx (by omega)
    omega
end Go.Proofs.YtiflmdekcjbmbaaGreat.Cr
