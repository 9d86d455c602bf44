/-
  Package ie (chapter 6): Decode: the elements that bytes are. Package ie (chapter 6): what is encoded is decoded as it was; what is decoded is encoded as these; plain. The reference: two rows of elements: alike or not. The reference's reader: bytes taken apart.
-/
import Derived.Test.YtiflmdekcjbmbaaGreatGNodeWaits20
import Derived.Test.YtiflmdekcjbmbaaGreatGNodeWaits01
set_option maxRecDepth 100000
namespace Go.Proofs.YtiflmdekcjbmbaaGreat.Ie
set_option linter.unusedVariables false
set_option linter.unusedSimpArgs false
open Go.RowKit Lb Go.Shelf Bf

theorem infoE : (Tryz.prog.info? 59).map (fun i => (i.zero, i.size, i.bytes)) = some (some (.agg #[.int .i64 0, .int .i64 0, .int .i64 0, .int .i64 0, .slice none 0 0]), 5, 56) := by kernel_rfl
theorem ev_one (L : List EP) (q : Nat) : (ev L q).oneCell' = true := by
  have hm : q % 5 = 0 ∨ q % 5 = 1 ∨ q % 5 = 2 ∨ q % 5 = 3 ∨ q % 5 = 4 := by omega
  rcases hm with hm | hm | hm | hm | hm
  · rw [show q = q / 5 * 5 by omega, ev0]; rfl
  · rw [show q = q / 5 * 5 + 1 by omega, ev1]; rfl
  · rw [show q = q / 5 * 5 + 2 by omega, ev2]; rfl
  · rw [show q = q / 5 * 5 + 3 by omega, ev3]; rfl
  · rw [show q = q / 5 * 5 + 4 by omega, ev4]; rfl
theorem ev_app (L M : List EP) (q : Nat) : (if q < L.length * 5 then ev L q else ev M (q - L.length * 5)) = ev (L ++ M) q := by
  unfold ev
  by_cases h : q < L.length * 5
  · rw [if_pos h]
    have : q / 5 < L.length := by omega
    rw [List.getD_eq_getElem?_getD, List.getD_eq_getElem?_getD, List.getElem?_append_left this]
  · rw [if_neg h]
    have h1 : (q - L.length * 5) / 5 = q / 5 - L.length := by omega
    have h2 : (q - L.length * 5) % 5 = q % 5 := by omega
    rw [h1, h2, List.getD_eq_getElem?_getD, List.getD_eq_getElem?_getD, List.getElem?_append_right (by omega)]
theorem els_app (L M : List EP) : els (L ++ M) = els L ++ els M := by simp [els]
theorem Row.same {w w' : World} {a : Option Addr} {n : Nat} {V : Nat → Value} (h : Row w a n V) (hk : ∀ p, a = some p → 0 < n → w'.heap[p.block]? = w.heap[p.block]?) : Row w' a n V := by
  intro hn
  obtain ⟨b, off, rfl, h1, h2⟩ := h hn
  have e := hk _ rfl hn
  refine ⟨b, off, rfl, ?_, fun i hi => (World.cell?_of_block (a := ⟨b, off + i, none⟩) e).trans (h2 i hi)⟩
  by_cases hb : b < w'.heap.size
  · exact hb
  · exfalso
    have e1 : w'.heap[b]? = none := Array.getElem?_eq_none (by omega)
    have e2 : w.heap[b]? = some w.heap[b] := Array.getElem?_eq_getElem h1
    have e : w'.heap[b]? = w.heap[b]? := e
    rw [e1, e2] at e
    cases e
theorem El.At.same {w w' : World} {e : El} {a : Option Addr} {c : Nat} (h : e.At w a c) (hk : ∀ p, a = some p → 0 < e.list.length → w'.heap[p.block]? = w.heap[p.block]?) : e.At w' a c := ⟨h.lc, h.cm, Row.same h.row hk, h.nil⟩
theorem El.At.lt {w : World} {e : El} {a : Option Addr} {c : Nat} (h : e.At w a c) : ∀ p, a = some p → 0 < e.list.length → p.block < w.heap.size := fun p e1 hl => by
  obtain ⟨b, off, h1, h2, _⟩ := h.row hl
  rw [e1] at h1
  injection h1 with h1
  rw [h1]
  exact h2
theorem dec1_sub {L : List Int} {e : El} {R : List Int} (h : dec1 L = .ok (e, R)) : ∀ x, x ∈ R → x ∈ L := by
  unfold dec1 at h
  match L, h with
  | [], h => cases h
  | k :: L1, h =>
    simp only at h
    split at h
    · cases h
    · match L1, h with
      | [], h => cases h
      | s :: L2, h =>
        simp only at h
        split at h
        · cases h
        · split at h
          · cases h
          · injection h with h
            injection h with h1 h2
            subst h2
            intro x hx
            have := List.mem_of_mem_drop hx
            simp [this]
theorem dec1_err {L : List Int} {x : Int} (h : dec1 L = .error x) : x = 2 ∨ x = 3 := by
  unfold dec1 at h
  match L, h with
  | [], h => injection h with h; exact .inl h.symm
  | k :: L1, h =>
    simp only at h
    split at h
    · injection h with h; exact .inr h.symm
    · match L1, h with
      | [], h => injection h with h; exact .inl h.symm
      | s :: L2, h =>
        simp only at h
        split at h
        · injection h with h; exact .inr h.symm
        · split at h
          · injection h with h; exact .inl h.symm
          · cases h
theorem decI_err {n : Nat} {L1 : List Int} {e : Int} (h4 : n ≤ 4) (h : decN n L1 = .error e) : decI ((n : Int) :: L1) = .error e := by
  unfold decI
  simp only
  rw [if_neg (by omega), Int.toNat_natCast, h]
theorem decI_ok {n : Nat} {L1 : List Int} {l : List El} (h4 : n ≤ 4) (h : decN n L1 = .ok (l, [])) : decI ((n : Int) :: L1) = .ok l := by
  unfold decI
  simp only
  rw [if_neg (by omega), Int.toNat_natCast, h]
  simp
theorem decI_more {n : Nat} {L1 R : List Int} {l : List El} (h4 : n ≤ 4) (h : decN n L1 = .ok (l, R)) (hR : R ≠ []) : decI ((n : Int) :: L1) = .error 3 := by
  unfold decI
  simp only
  rw [if_neg (by omega), Int.toNat_natCast, h]
  simp [hR]
def DecPost (L : List Int) (w : World) (r : Ending) (w' : World) : Prop :=
  match decI L with
  | .ok l => ∃ (LL : List EP) (a : Option Addr) (c : Nat), els LL = l ∧ r = .returned (.tuple #[.slice a LL.length c, .int .i64 0]) ∧ Els w' LL a c ∧ (∀ q, a = some q → w.heap.size ≤ q.block) ∧ (∀ k, k < LL.length → ∀ q, (LL.getD k ep0).a = some q → 0 < (LL.getD k ep0).e.list.length → w.heap.size ≤ q.block) ∧ Below w.heap.size w w'
  | .error x => r = .returned (.tuple #[.slice none 0 0, .int .i64 x]) ∧ Below w.heap.size w w'
set_option maxHeartbeats 4000000 in
theorem decode_any (a : Option Addr) (c : Nat) (L : List Int) (w : World) (hc : L.length ≤ 100000) (hR : Row w a L.length (bval L)) (hd : okD' L) :
    Calls Tryz.prog 192 #[.slice a L.length c] w (DecPost L w) := by
  have hN := newb_any a c L w hc hR hd (row_none hR)
  have HN := Lib.hid hN
  have HDI : Hid (okD' L) := Lib.hid hd
  obtain ⟨len, hlen⟩ : ∃ len, L.length = len := ⟨_, rfl⟩
  rw [hlen] at HN ⊢
  have HLEN := Lib.hid hlen
  clear hN hR hlen hc hd
  obtain ⟨i0, hi0, hz0, hz1, hz2⟩ := info_parts infoE
  go_enter Tryz.func192, Tryz.ntmps192
  go_wp2_with fail
  refine HN.out.mono ?_
  rintro r w1 ⟨b, rfl, h1, b1, hb1, hb2⟩
  have hh := h1.hold
  have hbs := b1.size
  obtain ⟨H, hH⟩ : ∃ H, w1.heap.size = H := ⟨_, rfl⟩
  rw [hH] at hh hb2 hbs
  have HH := Lib.hid hH
  clear HN h1 hH
  cases L with
  | nil =>
    have HD : Hid (decI [] = .error 2) := Lib.hid rfl
    go_wp2_with fail
    refine (itake_nil _ H b 0 w1 hh).mono ?_
    rintro r w2 ⟨rfl, j2⟩
    have b2 := j2.below b1 hb1 (by rw [HH.out]; omega)
    go_wp2_with fail
    go_ret2
    unfold DecPost
    rw [HD.out]
    exact ⟨rfl, b2⟩
  | cons n0 L1 =>
    have hn0 := HDI.out n0 (by simp)
    go_wp2_with fail
    refine (itake_cons _ H b n0 L1 0 w1 hh HDI.out).mono ?_
    rintro r w2 ⟨rfl, h2, j2⟩
    have b2 := j2.below b1 hb1 (by rw [HH.out]; omega)
    have hs2 : H ≤ w2.heap.size := by rw [← HH.out]; exact j2.size
    clear hh j2 b1
    obtain ⟨n, rfl⟩ : ∃ n : Nat, n0 = (n : Int) := ⟨n0.toNat, by omega⟩
    by_cases h4 : 4 < n
    · have HD : Hid (decI ((n : Int) :: L1) = .error 3) := Lib.hid (by unfold decI; simp only; rw [if_pos (by omega)])
      have g1 : decide (4 < n) = true := by simpa using h4
      have g2 : decide ((4 : Int) < (n : Int)) = true := by simp; omega
      clear h4
      go_wp2_with fail
      go_ret2
      unfold DecPost
      rw [HD.out]
      exact ⟨rfl, b2⟩
    · have g1 : decide (4 < n) = false := by simpa using h4
      have g2 : decide ((4 : Int) < (n : Int)) = false := by simp; omega
      have hn4 : n ≤ 4 := by omega
      have hmk : ∀ w : World, (Instr.makeSlice 34 (.int .i64 0) (.int .i64 (n : Int))).run Tryz.prog w = .ok (.slice (some ⟨w.heap.size, 0, none⟩) 0 n) (w.alloc (.cells (madeCells #[.int .i64 0, .int .i64 0, .int .i64 0, .int .i64 0, .slice none 0 0] (n * 5)) 59)) := by
        intro w
        have := run_make w 34 59 i0 (.agg #[.int .i64 0, .int .i64 0, .int .i64 0, .int .i64 0, .slice none 0 0]) Tryz.underlying34 hi0 hz0 .i64 .i64 0 (n : Int) (by omega) (by omega) (by rw [hz2]; omega) (by omega)
        rw [this, hz1]
        simp [Value.cells]
      have hW0 : MineK (w2.alloc (.cells (madeCells #[.int .i64 0, .int .i64 0, .int .i64 0, .int .i64 0, .slice none 0 0] (n * 5)) 59)) w2.heap.size 59 5 (.slice (some ⟨w2.heap.size, 0, none⟩) 0 n) 0 (ev []) :=
        MineK.made (Own.new w2 59 _) (Nat.le_refl _) (size_madeCells _ _) (by unfold maxLen; omega) (Nat.zero_le _) (fun i hi => by omega)
      have b3 := b2.alloc b2.size (.cells (madeCells #[.int .i64 0, .int .i64 0, .int .i64 0, .int .i64 0, .slice none 0 0] (n * 5)) 59)
      have h3 := h2.kept (((Below.refl w2.heap.size w2).alloc (Nat.le_refl _) (.cells (madeCells #[.int .i64 0, .int .i64 0, .int .i64 0, .int .i64 0, .slice none 0 0] (n * 5)) 59)).mono hs2)
      have hs3 : w2.heap.size ≤ (w2.alloc (.cells (madeCells #[.int .i64 0, .int .i64 0, .int .i64 0, .int .i64 0, .slice none 0 0] (n * 5)) 59)).heap.size := by simp
      go_upto_region 8 with (fail)
      generalize w2.alloc (.cells (madeCells #[.int .i64 0, .int .i64 0, .int .i64 0, .int .i64 0, .slice none 0 0] (n * 5)) 59) = w3 at *
      obtain ⟨G, hG⟩ : ∃ G, w2.heap.size = G := ⟨_, rfl⟩
      rw [hG] at hW0 hs2 hs3 ⊢
      have hd1 : okD' L1 := fun x hx => HDI.out x (by simp [hx])
      clear h2 b2 hmk hG HDI
      go_wp2_with fail
      go_loopw [7, 25] (fun v i wr => ∃ (k : Nat) (LL : List EP) (R : List Int), i = .int .i64 k ∧ k ≤ n ∧ LL.length = k ∧ MineK wr G 59 5 v k (ev LL) ∧ Hid (∀ j, j < k → (LL.getD j ep0).e.At wr (LL.getD j ep0).a (LL.getD j ep0).c) ∧ Hid (∀ j, j < k → ∀ p, (LL.getD j ep0).a = some p → 0 < (LL.getD j ep0).e.list.length → v.ownBlock ≠ some p.block ∧ G ≤ p.block) ∧ Hid (decN k L1 = .ok (els LL, R)) ∧ Hid (okD' R) ∧ Rh wr w.heap.size H b R 0 ∧ Below w.heap.size w wr ∧ G ≤ wr.heap.size) (fun _ i _ => n - (intOf i).toNat)
      case atStart => exact ⟨0, [], L1, rfl, by omega, rfl, hW0, Lib.hid (fun j hj => by omega), Lib.hid (fun j hj => by omega), Lib.hid rfl, Lib.hid hd1, h3, b3, hs3⟩
      case round =>
        clear hW0 b3 h3 hs3
        obtain ⟨k, LL, R, rfl, hk, hLL, hW, HAT, HAP, HDN, HOD, hR, bb, hG⟩ := hrel
        have HLL := Lib.hid hLL
        clear hLL
        by_cases hlt : k < n
        · have hHr : H ≤ wr.heap.size := Nat.le_trans hs2 hG
          go_wp2_with fail
          refine (one_any _ H b R 0 wr hR HOD.out hHr).mono ?_
          intro r w4 hp
          unfold OnePost at hp
          cases h1 : dec1 R with
          | error x =>
            rw [h1] at hp
            simp only at hp
            obtain ⟨rfl, j4⟩ := hp
            have hx := dec1_err h1
            have e0 : zE.vals none 0 = #[.int .i64 0, .int .i64 0, .int .i64 0, .int .i64 0, .slice none 0 0] := rfl
            rw [e0]
            have HD : Hid (decI ((n : Int) :: L1) = .error x) := Lib.hid (decI_err hn4 (decN_err (n := k + 1) (by rw [decN_snoc, HDN.out]; simp only; rw [h1]) (by omega)))
            have g3 : (x != 0) = true := by simp; omega
            have b4 := j4.below bb hb1 bb.size
            have b5 := b4.alloc b4.size (.cells #[.int .i64 0, .int .i64 0, .int .i64 0, .int .i64 0, .slice none 0 0] 59)
            clear h1 hx e0
            go_wp2_with fail
            go_ret2
            unfold DecPost
            rw [HD.out]
            exact ⟨rfl, b5⟩
          | ok p =>
            obtain ⟨e, Q⟩ := p
            rw [h1] at hp
            simp only at hp
            obtain ⟨ea, ec, rfl, hat, hap, hR4, j4⟩ := hp
            have HD1 : Hid (decN (k + 1) L1 = .ok (els (LL ++ [⟨e, ea, ec⟩]), Q)) := Lib.hid (by rw [decN_snoc, HDN.out]; simp only; rw [h1, els_app]; rfl)
            have HOQ : Hid (okD' Q) := Lib.hid (fun x hx => HOD.out x (dec1_sub h1 x hx))
            clear h1
            obtain ⟨ek, easn, er, et, el⟩ := e
            unfold El.vals
            simp only
            have b4 := j4.below bb hb1 bb.size
            have hG4 : G ≤ w4.heap.size := Nat.le_trans hG j4.size
            have hbG : b < G := by omega
            have hW4 := hW.kept (w' := w4) (fun q hq => by
              by_cases h : q < wr.heap.size
              · exact .inl (j4.block q h (by omega))
              · exact .inr (fun e => h (hW.lt q e).2))
            have HAT4 : Hid (∀ j, j < k → (LL.getD j ep0).e.At w4 (LL.getD j ep0).a (LL.getD j ep0).c) := Lib.hid (fun j hj => (HAT.out j hj).same (fun p e1 e2 => j4.block _ ((HAT.out j hj).lt p e1 e2) (by have := (HAP.out j hj p e1 e2).2; omega)))
            have hnv : ∀ q, u7.ownBlock = some q → q < wr.heap.size := fun q e => (hW.lt q e).2
            have HNV := Lib.hid hnv
            have o8 := Own.new w4 59 #[.int .i64 ek, .int .i64 easn, .int .i64 er, .int .i64 et, .slice ea el.length ec]
            have bb8 := (Below.refl w4.heap.size w4).alloc (Nat.le_refl _) (.cells #[.int .i64 ek, .int .i64 easn, .int .i64 er, .int .i64 et, .slice ea el.length ec] 59)
            have b5 := b4.alloc b4.size (.cells #[.int .i64 ek, .int .i64 easn, .int .i64 er, .int .i64 et, .slice ea el.length ec] 59)
            have hW5 := hW4.below bb8
            have hat5 := hat.below bb8
            have HAT5 : Hid (∀ j, j < k → (LL.getD j ep0).e.At (w4.alloc (.cells #[.int .i64 ek, .int .i64 easn, .int .i64 er, .int .i64 et, .slice ea el.length ec] 59)) (LL.getD j ep0).a (LL.getD j ep0).c) := Lib.hid (fun j hj => (HAT4.out j hj).below bb8)
            have hR5 := hR4.kept (bb8.mono (by omega))
            have hG5 : G ≤ (w4.alloc (.cells #[.int .i64 ek, .int .i64 easn, .int .i64 er, .int .i64 et, .slice ea el.length ec] 59)).heap.size := by simp; omega
            go_upto_region 11 with (fail)
            generalize w4.alloc (.cells #[.int .i64 ek, .int .i64 easn, .int .i64 er, .int .i64 et, .slice ea el.length ec] 59) = w5 at *
            obtain ⟨g8, hg8⟩ : ∃ g, w4.heap.size = g := ⟨_, rfl⟩
            rw [hg8] at o8 ⊢
            clear hg8 bb8 hW hW4 HAT HAT4 hat hR hR4 j4 bb b4 hnv HDN HOD
            have y0 : w5.cell? ⟨g8, 0, none⟩ = some (.int .i64 ek) := o8.cell 0
            have y1 : w5.cell? ⟨g8, 1, none⟩ = some (.int .i64 easn) := o8.cell 1
            have y2 : w5.cell? ⟨g8, 2, none⟩ = some (.int .i64 er) := o8.cell 2
            have y3 : w5.cell? ⟨g8, 3, none⟩ = some (.int .i64 et) := o8.cell 3
            have y4 : w5.cell? ⟨g8, 4, none⟩ = some (.slice ea el.length ec) := o8.cell 4
            have hr1 : Row (w5.alloc (.cells #[.int .i64 ek, .int .i64 easn, .int .i64 er, .int .i64 et, .slice ea el.length ec] 59)) (some ⟨w5.heap.size, 0, none⟩) (1 * 5) (ev [⟨⟨ek, easn, er, et, el⟩, ea, ec⟩]) := row_new _ _ _ _ (fun i hi => by rcases (show i = 0 ∨ i = 1 ∨ i = 2 ∨ i = 3 ∨ i = 4 by omega) with rfl | rfl | rfl | rfl | rfl <;> rfl)
            have HR1 := Lib.hid hr1
            have HNM : Hid (k + 1 ≤ maxLen) := Lib.hid (by unfold maxLen; omega)
            have bbA := (Below.refl w5.heap.size w5).alloc (Nat.le_refl _) (.cells #[.int .i64 ek, .int .i64 easn, .int .i64 er, .int .i64 et, .slice ea el.length ec] 59)
            have hbs5 : G ≤ (w5.alloc (.cells #[.int .i64 ek, .int .i64 easn, .int .i64 er, .int .i64 et, .slice ea el.length ec] 59)).heap.size := by simp; omega
            clear hr1
            go_wp2_with (at_builtin; go_must (refine wp_appK rfl (.tmp 35) (.tmp 37) _ rfl G 59 i0 _ 5 56 Tryz.underlying34 hi0 hz0 hz1 hz2 rfl (by decide) u7 k (ev LL) rfl (hW5.alloc _) _ 1 _ (ev [⟨⟨ek, easn, er, et, el⟩, ea, ec⟩]) rfl HR1.out (fun i _ => ev_one _ i) HNM.out ?c2 hbs5 ?_))
            case c2 => omega
            intro v9 w9 m9 q9 l9
            have hsame : ∀ q, q < w5.heap.size → u7.ownBlock ≠ some q → w9.heap[q]? = w5.heap[q]? := fun q h1 h2 => (q9.block q (by simp; omega) (fun e => h2 e.symm)).trans (bbA.block q h1)
            have hM9 : MineK w9 G 59 5 v9 (k + 1) (ev (LL ++ [(⟨⟨ek, easn, er, et, el⟩, ea, ec⟩ : EP)])) := m9.ext (fun i _ => by rw [← HLL.out]; exact ev_app LL _ i)
            have b9 := (b5.alloc b5.size (.cells #[.int .i64 ek, .int .i64 easn, .int .i64 er, .int .i64 et, .slice ea el.length ec] 59)).grown q9 (by omega) (fun q e => by have := (hW5.lt q e).1; omega)
            have hR9 : Rh w9 w.heap.size H b Q 0 := hR5.kept (((Below.refl H w5).alloc (by omega) (.cells #[.int .i64 ek, .int .i64 easn, .int .i64 er, .int .i64 et, .slice ea el.length ec] 59)).grown q9 (by omega) (fun q e => by have := (hW5.lt q e).1; omega))
            have hget : ∀ j, j < k → (LL ++ [(⟨⟨ek, easn, er, et, el⟩, ea, ec⟩ : EP)]).getD j ep0 = LL.getD j ep0 := fun j hj => by
              rw [List.getD_eq_getElem?_getD, List.getD_eq_getElem?_getD, List.getElem?_append_left (by rw [HLL.out]; exact hj)]
            have hgetk : (LL ++ [(⟨⟨ek, easn, er, et, el⟩, ea, ec⟩ : EP)]).getD k ep0 = ⟨⟨ek, easn, er, et, el⟩, ea, ec⟩ := by
              rw [List.getD_eq_getElem?_getD, List.getElem?_append_right (by rw [HLL.out]; exact Nat.le_refl _), HLL.out, Nat.sub_self]
              rfl
            have hnew : ∀ p, ea = some p → 0 < el.length → u7.ownBlock ≠ some p.block ∧ p.block < w5.heap.size ∧ G ≤ p.block := fun p e1 e2 => by
              have h1 := hap p e1
              refine ⟨fun e => ?_, hat5.lt p e1 e2, by omega⟩
              have := HNV.out _ e
              omega
            have HAT9 : Hid (∀ j, j < k + 1 → ((LL ++ [(⟨⟨ek, easn, er, et, el⟩, ea, ec⟩ : EP)]).getD j ep0).e.At w9 ((LL ++ [(⟨⟨ek, easn, er, et, el⟩, ea, ec⟩ : EP)]).getD j ep0).a ((LL ++ [(⟨⟨ek, easn, er, et, el⟩, ea, ec⟩ : EP)]).getD j ep0).c) := Lib.hid (fun j hj => by
              by_cases e : j = k
              · subst e
                rw [hgetk]
                exact hat5.same (fun p e1 e2 => hsame _ (hnew p e1 e2).2.1 (hnew p e1 e2).1)
              · rw [hget j (by omega)]
                exact (HAT5.out j (by omega)).same (fun p e1 e2 => hsame _ ((HAT5.out j (by omega)).lt p e1 e2) (HAP.out j (by omega) p e1 e2).1))
            have hv9 : ∀ q, q < w5.heap.size → u7.ownBlock ≠ some q → v9.ownBlock ≠ some q := fun q h1 h2 e => by
              rcases l9 with h | h
              · rw [h] at e; exact h2 e
              · rw [h] at e
                injection e with e
                first | omega | (simp at e; omega)
            have HAP9 : Hid (∀ j, j < k + 1 → ∀ p, ((LL ++ [(⟨⟨ek, easn, er, et, el⟩, ea, ec⟩ : EP)]).getD j ep0).a = some p → 0 < ((LL ++ [(⟨⟨ek, easn, er, et, el⟩, ea, ec⟩ : EP)]).getD j ep0).e.list.length → v9.ownBlock ≠ some p.block ∧ G ≤ p.block) := Lib.hid (fun j hj p e1 e2 => by
              by_cases e : j = k
              · subst e
                rw [hgetk] at e1 e2
                exact ⟨hv9 _ (hnew p e1 e2).2.1 (hnew p e1 e2).1, (hnew p e1 e2).2.2⟩
              · rw [hget j (by omega)] at e1 e2
                exact ⟨hv9 _ ((HAT5.out j (by omega)).lt p e1 e2) (HAP.out j (by omega) p e1 e2).1, (HAP.out j (by omega) p e1 e2).2⟩)
            have hG9 : G ≤ w9.heap.size := Nat.le_trans hbs5 q9.size
            have hL9 : (LL ++ [(⟨⟨ek, easn, er, et, el⟩, ea, ec⟩ : EP)]).length = k + 1 := by rw [List.length_append, HLL.out]; rfl
            have HL9 := Lib.hid hL9
            clear hsame m9 q9 l9 hget hgetk hnew hv9 bbA hbs5 hR5 hW5 hat5 HAT5 hap b5 hL9 HR1 HNM
            go_wp2_with fail
            exact ⟨⟨k + 1, LL ++ [(⟨⟨ek, easn, er, et, el⟩, ea, ec⟩ : EP)], Q, by simp, by omega, HL9.out, hM9, HAT9, HAP9, HD1, HOQ, hR9, b9, hG9⟩, by simp [intOf]; omega⟩
        · obtain rfl : n = k := by omega
          obtain ⟨aL, cL, rfl, lc, lm, RL⟩ := hW.row
          have hels : Els wr LL aL cL := ⟨by rw [HLL.out]; exact lc, lm, by rw [HLL.out]; exact RL, fun j hj => HAT.out j (by rw [← HLL.out]; exact hj)⟩
          have hend := endb_any _ b R 0 wr hR.rb
          unfold endE at hend
          rw [if_pos rfl] at hend
          have haq : ∀ q, aL = some q → w.heap.size ≤ q.block := fun q e => by
            subst e
            have := (hW.lt q.block rfl).1
            omega
          have hlq : ∀ j, j < LL.length → ∀ q, (LL.getD j ep0).a = some q → 0 < (LL.getD j ep0).e.list.length → w.heap.size ≤ q.block := fun j hj q e1 e2 => by
            have := (HAP.out j (by rw [← HLL.out]; exact hj) q e1 e2).2
            omega
          by_cases hR0 : R = []
          · subst hR0
            rw [if_pos rfl] at hend
            have HE := Lib.hid hend
            have HD : Hid (decI ((n : Int) :: L1) = .ok (els LL)) := Lib.hid (decI_ok hn4 HDN.out)
            have HELS := Lib.hid hels
            have HAQ := Lib.hid haq
            have HLQ := Lib.hid hlq
            clear hend hW RL hels haq hlq
            go_wp2_with fail
            refine HE.out.mono ?_
            rintro r w' ⟨rfl, m, rfl⟩
            go_wp2_with fail
            go_ret2
            unfold DecPost
            rw [HD.out]
            exact ⟨LL, aL, cL, rfl, by rw [HLL.out]; rfl, HELS.out.below (below_drewN (Below.refl _ _) m), HAQ.out, HLQ.out, below_drewN bb m⟩
          · rw [if_neg hR0] at hend
            have HE := Lib.hid hend
            have HD : Hid (decI ((n : Int) :: L1) = .error 3) := Lib.hid (decI_more hn4 HDN.out hR0)
            clear hend hW RL hels haq hlq hR0
            go_wp2_with fail
            refine HE.out.mono ?_
            rintro r w' ⟨rfl, m, rfl⟩
            go_wp2_with fail
            go_ret2
            unfold DecPost
            rw [HD.out]
            exact ⟨rfl, below_drewN bb m⟩
end Go.Proofs.YtiflmdekcjbmbaaGreat.Ie
set_option maxRecDepth 100000
namespace Go.Proofs.YtiflmdekcjbmbaaGreat.Ie
set_option linter.unusedVariables false
set_option linter.unusedSimpArgs false
open Go.RowKit Lb Bf

theorem okD_take' {l : List Int} {n : Nat} (h : okD' l) : okD' (l.take n) := fun x hx => h x (List.mem_of_mem_take hx)
theorem okD_drop' {l : List Int} {n : Nat} (h : okD' l) : okD' (l.drop n) := fun x hx => h x (List.mem_of_mem_drop hx)
/-- Bytes out of the number that bytes are. -/
theorem bytes_numB : ∀ (k : Nat) (l : List Int), l.length = k → okD' l → bytesK (numB l).toNat k = l := by
  intro k
  induction k with
  | zero => intro l hl _; rw [List.length_eq_zero_iff.1 hl]; rfl
  | succ k ih =>
    intro l hl hd
    rcases List.eq_nil_or_concat l with rfl | ⟨m, c, rfl⟩
    · simp at hl
    · rw [List.concat_eq_append] at *
      have hml : m.length = k := by simp at hl; omega
      have hdm : okD' m := fun x hx => hd x (List.mem_append_left _ hx)
      have h1 := numB_bd k m hml hdm
      have h2 := hd c (List.mem_append_right _ (by simp))
      rw [numB_snoc, bytesK_snoc, show (numB m * 256 + c).toNat / 256 = (numB m).toNat by omega, ih m hml hdm, show (numB m * 256 + c).toNat % 256 = c.toNat by omega]
      congr 1
      rw [Int.toNat_of_nonneg h2.1]
theorem octsB_of {l : List Int} (h : okD' l) : octsB l = true := by
  unfold octsB
  rw [decide_eq_true_eq]
  intro j hj
  rw [List.getD_eq_getElem?_getD, List.getElem?_eq_getElem hj]
  have := h _ (List.getElem_mem hj)
  simp only [Option.getD_some]
  omega
theorem i16_u64 {x : Int} (h : 0 ≤ x ∧ x < 65536) : bytesK (u64 (IntKind.i16.wrap x)) 2 = bytesK x.toNat 2 := by
  have e : u64 (IntKind.i16.wrap x) % 65536 = x.toNat := by
    unfold u64
    simp only [IntKind.wrap, IntKind.signed, IntKind.bits]
    simp
    omega
  generalize u64 (IntKind.i16.wrap x) = y at e
  rw [bytesK_snoc, bytesK_snoc, bytesK_snoc, bytesK_snoc]
  rw [show y / 256 % 256 = x.toNat / 256 % 256 by omega, show y % 256 = x.toNat % 256 by omega]
  rfl
theorem six_cut {l : List Int} (h : l.length = 6) : l = l.take 5 ++ [l.getD 5 0] := by
  have h1 : l.take 6 = l := List.take_of_length_le (by omega)
  have := tk_snoc (l := l) (k := 5) (by omega)
  rw [← this, h1]
theorem dec1_back {L : List Int} {x : El} {R : List Int} (hd : okD' L) (h : dec1 L = .ok (x, R)) : mayE x = true ∧ L = encOne x ++ R := by
  unfold dec1 at h
  match L, h with
  | [], h => cases h
  | k :: L1, h =>
    simp only at h
    split at h
    · cases h
    · rename_i hk
      match L1, h with
      | [], h => cases h
      | s :: L2, h =>
        simp only at h
        split at h
        · cases h
        · rename_i hs
          split at h
          · cases h
          · rename_i hl
            injection h with h
            injection h with h1 h2
            subst h1 h2
            have hs' : sizeB k s = true := by simpa using hs
            have hs0 := hd s (by simp)
            have hd2 : okD' (L2.take s.toNat) := fun x hx => hd x (by have := List.mem_of_mem_take hx; simp [this])
            have hlen : (L2.take s.toNat).length = s.toNat := by rw [List.length_take]; omega
            have happ : k :: s :: L2 = [k] ++ [s] ++ L2.take s.toNat ++ L2.drop s.toNat := by simp
            rw [happ]
            generalize L2.take s.toNat = X at *
            generalize L2.drop s.toNat = Q at *
            clear happ
            unfold sizeB at hs'
            by_cases k1 : k = 1
            · subst k1
              simp at hs'
              subst hs'
              have h6 : X.length = 6 := hlen
              have hb := numB_bd 5 (X.take 5) (by rw [List.length_take]; omega) (okD_take' hd2)
              have e5 : (256 : Int) ^ 5 = 1099511627776 := by decide
              rw [e5] at hb
              have h5 : 0 ≤ X.getD 5 0 ∧ X.getD 5 0 < 256 := by
                rw [List.getD_eq_getElem?_getD, List.getElem?_eq_getElem (by omega)]
                exact hd2 _ (List.getElem_mem _)
              have hbb := bytes_numB 5 (X.take 5) (by rw [List.length_take]; omega) (okD_take' hd2)
              have hE : elOf 1 X = ⟨1, numB (X.take 5), X.getD 5 0, 0, []⟩ := by unfold elOf; rw [if_pos rfl]
              have h6c := six_cut h6
              rw [hE]
              generalize X.getD 5 0 = z at *
              refine ⟨?_, ?_⟩
              · rw [may1]
                simp [asnB]
                omega
              · congr 1
                unfold encOne
                simp only [if_pos]
                rw [hbb, List.append_assoc ([1] ++ [6]) (X.take 5) [z], ← h6c]
            · by_cases k2 : k = 2
              · subst k2
                simp at hs'
                subst hs'
                have h2 : X.length = 2 := hlen
                have hb := numB_bd 2 X h2 hd2
                have e5 : (256 : Int) ^ 2 = 65536 := by decide
                rw [e5] at hb
                have hbb := bytes_numB 2 X h2 hd2
                have hE : elOf 2 X = ⟨2, 0, 0, IntKind.i16.wrap (numB X), []⟩ := by unfold elOf; rw [if_neg (by decide), if_pos rfl]
                rw [hE]
                have hw : -32768 ≤ IntKind.i16.wrap (numB X) ∧ IntKind.i16.wrap (numB X) ≤ 32767 := by
                  simp only [IntKind.wrap, IntKind.signed, IntKind.bits]
                  simp
                  omega
                refine ⟨?_, ?_⟩
                · rw [may2]
                  simp
                  omega
                · congr 1
                  rw [show encOne ⟨2, 0, 0, IntKind.i16.wrap (numB X), []⟩ = [2] ++ [2] ++ bytesK (u64 (IntKind.i16.wrap (numB X))) 2 from by unfold encOne; rw [if_neg (by simp), if_pos rfl], i16_u64 hb, hbb]
              · have hs'' : s ≤ 16 := by simpa [k1, k2] using hs'
                have hk34 : k = 3 ∨ k = 4 := by omega
                refine ⟨?_, ?_⟩
                · unfold elOf
                  rw [if_neg k1, if_neg k2, may3 _ _ _ _ _ hk34, octsB_of hd2]
                  simp
                  omega
                · congr 1
                  unfold elOf encOne
                  rw [if_neg k1, if_neg k2]
                  simp only
                  rw [if_neg k1, if_neg k2]
                  congr 2
                  rw [hlen]
                  congr 1
                  omega
theorem decN_back : ∀ (n : Nat) (L : List Int) (l : List El) (R : List Int), okD' L → decN n L = .ok (l, R) → l.length = n ∧ (∀ x, x ∈ l → mayE x = true) ∧ L = encL l ++ R := by
  intro n
  induction n with
  | zero =>
    intro L l R hd h
    simp only [decN] at h
    injection h with h
    injection h with h1 h2
    subst h1 h2
    exact ⟨rfl, (fun x hx => by cases hx), rfl⟩
  | succ n ih =>
    intro L l R hd h
    rw [decN] at h
    cases h1 : dec1 L with
    | error e => rw [h1] at h; cases h
    | ok p =>
      obtain ⟨x, Q⟩ := p
      rw [h1] at h
      simp only at h
      cases h2 : decN n Q with
      | error e => rw [h2] at h; cases h
      | ok p =>
        obtain ⟨m, S⟩ := p
        rw [h2] at h
        simp only at h
        injection h with h
        injection h with h3 h4
        subst h3 h4
        obtain ⟨hm, he⟩ := dec1_back hd h1
        have hdQ : okD' Q := fun y hy => hd y (dec1_sub h1 y hy)
        obtain ⟨g1, g2, g3⟩ := ih Q m S hdQ h2
        refine ⟨by simp [g1], fun y hy => ?_, ?_⟩
        · rcases List.mem_cons.1 hy with h | h
          · rw [h]; exact hm
          · exact g2 y h
        · rw [he, g3, encL, List.append_assoc]
theorem decI_back {L : List Int} {l : List El} (hd : okD' L) (h : decI L = .ok l) : mayL l = true ∧ encI l = L := by
  unfold decI at h
  match L, h with
  | [], h => cases h
  | n :: L1, h =>
    simp only at h
    split at h
    · cases h
    · rename_i hn
      have hn0 := hd n (by simp)
      cases h1 : decN n.toNat L1 with
      | error e => rw [h1] at h; cases h
      | ok p =>
        obtain ⟨m, R⟩ := p
        rw [h1] at h
        simp only at h
        split at h
        · rename_i hR
          injection h with h
          subst h hR
          obtain ⟨g1, g2, g3⟩ := decN_back n.toNat L1 m [] (fun y hy => hd y (by simp [hy])) h1
          refine ⟨?_, ?_⟩
          · unfold mayL
            rw [Bool.and_eq_true, decide_eq_true_eq, List.all_eq_true]
            exact ⟨by omega, g2⟩
          · unfold encI
            rw [g3, g1, List.append_nil, Int.toNat_of_nonneg hn0.1]
            rfl
        · cases h
theorem dec1_enc {x : El} (hm : mayE x = true) (R : List Int) : dec1 (encOne x ++ R) = .ok (x, R) := by
  obtain ⟨k, a, r, t, l⟩ := x
  rcases mayE_kind hm with h1 | h1 | h1 | h1
  · have h1 : k = 1 := h1
    subst h1
    rw [may1] at hm
    simp only [Bool.and_eq_true, decide_eq_true_eq, asnB, beq_iff_eq] at hm
    obtain ⟨ha, hr0, hr1, ht, hl⟩ := hm
    have hl := List.length_eq_zero_iff.1 hl
    subst ht hl
    unfold encOne
    simp only [if_pos]
    have e6 : (bytesK a.toNat 5 ++ [r]).length = 6 := by simp [bytesK_len]
    have e5 : (bytesK a.toNat 5).length = 5 := bytesK_len _ _
    have hsh : [1] ++ [6] ++ bytesK a.toNat 5 ++ [r] ++ R = 1 :: 6 :: ((bytesK a.toNat 5 ++ [r]) ++ R) := by simp
    rw [hsh]
    unfold dec1
    simp only
    rw [if_neg (by decide), if_neg (by decide), if_neg (by rw [List.length_append, e6]; show ¬ _ < 6; omega)]
    rw [show (6 : Int).toNat = 6 from rfl, ← e6, List.take_left, List.drop_left]
    congr 2
    unfold elOf
    rw [if_pos rfl]
    have t5 : (bytesK a.toNat 5 ++ [r]).take 5 = bytesK a.toNat 5 := List.take_left' e5
    have g5 : (bytesK a.toNat 5 ++ [r]).getD 5 0 = r := by
      rw [List.getD_eq_getElem?_getD, List.getElem?_append_right (by omega), e5]
      rfl
    rw [t5, g5, numB_bytes 5 a.toNat (by show a.toNat < 1099511627776; omega), Int.toNat_of_nonneg ha.1]
  · have h1 : k = 2 := h1
    subst h1
    rw [may2] at hm
    simp only [Bool.and_eq_true, decide_eq_true_eq, beq_iff_eq] at hm
    obtain ⟨ht0, ht1, ha, hr, hl⟩ := hm
    have hl := List.length_eq_zero_iff.1 hl
    subst ha hr hl
    unfold encOne
    rw [if_neg (by simp), if_pos rfl]
    have e2 : (bytesK (u64 t) 2).length = 2 := bytesK_len _ _
    have hsh : [2] ++ [2] ++ bytesK (u64 t) 2 ++ R = 2 :: 2 :: (bytesK (u64 t) 2 ++ R) := by simp
    simp only at hsh ⊢
    rw [hsh]
    unfold dec1
    simp only
    rw [if_neg (by decide), if_neg (by decide), if_neg (by rw [List.length_append, e2]; show ¬ _ < 2; omega)]
    rw [show (2 : Int).toNat = 2 from rfl]
    have tk : (bytesK (u64 t) 2 ++ R).take 2 = bytesK (u64 t) 2 := List.take_left' e2
    have dr : (bytesK (u64 t) 2 ++ R).drop 2 = R := List.drop_left' e2
    rw [tk, dr]
    congr 2
    unfold elOf
    rw [if_neg (by decide), if_pos rfl]
    have hmod : bytesK (u64 t) 2 = bytesK (u64 t % 65536) 2 := by
      rw [bytesK_snoc, bytesK_snoc, bytesK_snoc, bytesK_snoc]
      rw [show u64 t % 65536 / 256 % 256 = u64 t / 256 % 256 by omega, show u64 t % 65536 % 256 = u64 t % 256 by omega]
      rfl
    rw [hmod, numB_bytes 2 _ (by show _ < 65536; omega)]
    congr 1
    unfold u64
    simp only [IntKind.wrap, IntKind.signed, IntKind.bits]
    simp
    omega
  all_goals
    have h1 : k = _ := h1
    subst h1
    rw [may3 _ _ _ _ _ (by omega)] at hm
    simp only [Bool.and_eq_true, decide_eq_true_eq, beq_iff_eq] at hm
    obtain ⟨ho, h16, ha, hr, ht⟩ := hm
    subst ha hr ht
    unfold encOne
    rw [if_neg (by simp), if_neg (by simp)]
    simp only
    have hsh : ∀ q : Int, [q] ++ [(l.length : Int)] ++ l ++ R = q :: (l.length : Int) :: (l ++ R) := fun q => by simp
    rw [hsh]
    unfold dec1
    simp only
    rw [if_neg (by decide), if_neg (by unfold sizeB; simp; omega), if_neg (by rw [List.length_append]; simp)]
    rw [Int.toNat_natCast, List.take_left, List.drop_left]
    congr 2
theorem decN_enc : ∀ (l : List El) (R : List Int), (∀ x, x ∈ l → mayE x = true) → decN l.length (encL l ++ R) = .ok (l, R) := by
  intro l
  induction l with
  | nil => intro R _; rfl
  | cons x l ih =>
    intro R h
    rw [List.length_cons, decN, encL, List.append_assoc, dec1_enc (h x (by simp))]
    simp only
    rw [ih R (fun y hy => h y (by simp [hy]))]
theorem decI_enc {l : List El} (h : mayL l = true) : decI (encI l) = .ok l := by
  unfold mayL at h
  rw [Bool.and_eq_true, decide_eq_true_eq, List.all_eq_true] at h
  have h1 := decN_enc l [] h.2
  rw [List.append_nil] at h1
  exact decI_ok h.1 h1
end Go.Proofs.YtiflmdekcjbmbaaGreat.Ie
set_option maxRecDepth 100000
namespace Go.Proofs.YtiflmdekcjbmbaaGreat.Ie
set_option linter.unusedVariables false
set_option linter.unusedSimpArgs false
open Go.RowKit Lb Go.Shelf

instance : DecidableEq El := fun a b => if h : sameE a b = true then isTrue (sameE_eq h) else isFalse (fun e => h (by rw [e]; exact sameE_self b))
theorem els_ext {L M : List EP} (h : L.length = M.length) (hk : ∀ j, j < L.length → (L.getD j ep0).e = (M.getD j ep0).e) : els L = els M := by
  apply List.ext_getElem (by rw [els_len, els_len, h])
  intro i h1 h2
  rw [els_len] at h1 h2
  rw [els_at h1 rfl, els_at h2 rfl]
  exact hk i h1
theorem els_get {L M : List EP} (h : els L = els M) {j : Nat} (hj : j < L.length) (hm : j < M.length) : (L.getD j ep0).e = (M.getD j ep0).e := by
  rw [← els_at hj rfl, ← els_at hm rfl]
  simp only [h]
end Go.Proofs.YtiflmdekcjbmbaaGreat.Ie
set_option maxRecDepth 100000
namespace Go.Proofs.YtiflmdekcjbmbaaGreat.Ie
set_option linter.unusedVariables false
set_option linter.unusedSimpArgs false
open Go.RowKit Lb Go.Shelf Bf

/-- A reader: what is left, the error that was met. -/
def Rq (w : World) (lo b : Nat) (l : List Int) (err : Int) : Prop :=
  ∃ a c, Own w b 122 #[.slice a l.length c, .int .i64 err] ∧ l.length ≤ c ∧ c ≤ maxLen ∧ Row w a l.length (bval l) ∧ ∀ p, a = some p → lo ≤ p.block ∧ p.block < b
theorem Rq.kept {w w' : World} {lo b H : Nat} {l : List Int} {err : Int} (h : Rq w lo b l err) (k : Below H w w') (hb : b < H) : Rq w' lo b l err := by
  obtain ⟨a, c, h1, h2, h3, h4, h5⟩ := h
  exact ⟨a, c, below_own k h1 hb, h2, h3, Row.same h4 (fun p e _ => k.block _ (Nat.lt_trans (h5 p e).2 hb)), h5⟩
theorem Rq.just {w w' : World} {lo b g : Nat} {l : List Int} {err : Int} (h : Rq w lo b l err) (j : Just g w w') (hg : g < lo) (hb : g ≠ b) : Rq w' lo b l err := by
  obtain ⟨a, c, h1, h2, h3, h4, h5⟩ := h
  exact ⟨a, c, j.own h1 (fun e => hb e.symm), h2, h3, Row.same h4 (fun p e _ => j.block _ (Nat.lt_trans (h5 p e).2 h1.lt) (by have := (h5 p e).1; omega)), h5⟩
theorem Rq.lt {w : World} {lo b : Nat} {l : List Int} {err : Int} (h : Rq w lo b l err) : b < w.heap.size := by
  obtain ⟨a, c, h1, _⟩ := h
  exact h1.lt
def badQ (l : List Int) (err : Int) (n : Nat) : Prop := err ≠ 0 ∨ l.length < n
theorem rq_put {w : World} {lo b len n c : Nat} {l : List Int} {a' : Option Addr} {v : Value} (h1 : Lb.Own w b 122 #[v, .int .i64 0]) (hl : l.length = len) (hc : len - n ≤ c) (hm : c ≤ maxLen) (hr : Row w a' (len - n) (bval (l.drop n))) (hp : ∀ p, a' = some p → lo ≤ p.block ∧ p.block < b) : Rq (w.setCell ⟨b, 0, none⟩ (.slice a' (len - n) c)) lo b (l.drop n) 0 := by
  have e : (l.drop n).length = len - n := by rw [List.length_drop, hl]
  refine ⟨a', c, ?_, by rw [e]; exact hc, hm, ?_, hp⟩
  · rw [e]; exact h1.put 0 _
  · rw [e]
    exact Row.same hr (fun p e _ => (Just.set b w 0 _).block p.block (Nat.lt_trans (hp p e).2 h1.lt) (Nat.ne_of_lt (hp p e).2))
theorem row_add {w : World} {p : Addr} {len n : Nat} {l : List Int} (h : Row w (some p) len (bval l)) (hn : n ≤ len) : Row w (some (p.add n)) (len - n) (bval (l.drop n)) := by
  intro h0
  obtain ⟨b, off, e, h1, h2⟩ := h (by omega)
  injection e with e
  subst e
  refine ⟨b, off + n, by rw [Addr.add_lit], h1, fun i hi => ?_⟩
  rw [Nat.add_assoc, h2 (n + i) (by omega)]
  unfold bval
  rw [lft_get]
theorem raw_bad (lo b : Nat) (l : List Int) (err : Int) (n : Nat) (w : World) (h : Rq w lo b l err) (hb : badQ l err n) (hn : n ≤ 100000) :
    Calls Tryz.prog 70 #[.pointer (some ⟨b, 0, none⟩), .int .i64 (n : Int)] w fun r w' => r = .returned (.slice none 0 0) ∧ Rq w' lo b [] 2 ∧ Just b w w' := by
  obtain ⟨a, c, h1, h2, h3, h4, h5⟩ := h
  unfold maxLen at h3
  obtain ⟨len, hlen⟩ : ∃ len, l.length = len := ⟨_, rfl⟩
  unfold badQ at hb
  rw [hlen] at hb h1 h2
  have c0 : w.cell? ⟨b, 0, none⟩ = some (.slice a len c) := h1.cell 0
  have c1 : w.cell? ⟨b, 1, none⟩ = some (.int .i64 err) := h1.cell 1
  have f0 := h1.free 0
  have f1 := h1.free 1
  have hq : Rq ((w.setCell ⟨b, 1, none⟩ (.int .i64 2)).setCell ⟨b, 0, none⟩ (.slice none 0 0)) lo b [] 2 := ⟨none, 0, (h1.put 1 _).put 0 _, Nat.le_refl _, Nat.zero_le _, Row.nil _ _ _, fun p e => by cases e⟩
  have hj : Just b w ((w.setCell ⟨b, 1, none⟩ (.int .i64 2)).setCell ⟨b, 0, none⟩ (.slice none 0 0)) := (Just.set b w 1 _).put 0 _
  have g0 : max (0 : Int) (n : Int) = (n : Int) := by omega
  clear hlen
  by_cases he : err = 0
  · have hl : len < n := by omega
    have g1 : (err != 0) = false := by simpa using he
    have g2 : decide (len < n) = true := by simpa using hl
    have g3 : decide ((len : Int) < (n : Int)) = true := by simp; omega
    clear hb he hl
    go_enter Tryz.func70, Tryz.ntmps70
    go_wp2_with fail
    go_ret
    exact ⟨rfl, hq, hj⟩
  · have g1 : (err != 0) = true := by simpa using he
    clear hb he
    go_enter Tryz.func70, Tryz.ntmps70
    go_wp2_with fail
    go_ret
    exact ⟨rfl, hq, hj⟩
set_option maxHeartbeats 1000000 in
theorem raw_ok (lo b : Nat) (l : List Int) (n : Nat) (w : World) (h : Rq w lo b l 0) (hl : n ≤ l.length) (hn : n ≤ 100000) :
    Calls Tryz.prog 70 #[.pointer (some ⟨b, 0, none⟩), .int .i64 (n : Int)] w fun r w' => ∃ v, r = .returned v ∧ Mine w' w.heap.size 5 v n (bval (l.take n)) ∧ Rq w' lo b (l.drop n) 0 ∧ Just b w w' := by
  obtain ⟨a, c, h1, h2, h3, h4, h5⟩ := h
  unfold maxLen at h3
  obtain ⟨len, hlen⟩ : ∃ len, l.length = len := ⟨_, rfl⟩
  have HLEN := Lib.hid hlen
  rw [hlen] at h1 h2 hl h4
  have c0 : w.cell? ⟨b, 0, none⟩ = some (.slice a len c) := h1.cell 0
  have c1 : w.cell? ⟨b, 1, none⟩ = some (.int .i64 0) := h1.cell 1
  have f0 := h1.free 0
  have g0 : max (0 : Int) (n : Int) = (n : Int) := by omega
  have g2 : decide (len < n) = false := by simpa using hl
  have g3 : decide ((len : Int) < (n : Int)) = false := by simp; omega
  obtain ⟨i0, hi0, hz0, hz1, hz2⟩ := info_parts info8
  have HNM : Hid (0 + n ≤ maxLen) := Lib.hid (by unfold maxLen; omega)
  have HR : Hid (Row w a n (bval l)) := Lib.hid (h4.cut hl)
  have HB : Hid (b < w.heap.size) := Lib.hid h1.lt
  clear hlen
  go_enter Tryz.func70, Tryz.ntmps70
  go_wp2_with (at_builtin; go_must (refine wp_app rfl (.const (.slice none 0 0)) (.tmp 33) _ rfl w.heap.size 5 i0 _ 1 Tryz.underlying35 hi0 hz0 hz1 hz2 rfl (.slice none 0 0) 0 (bval []) rfl (Mine.nil _ _ _ _) _ n _ (bval l) rfl HR.out (fun _ _ => rfl) HNM.out ?c2 (Nat.le_refl _) ?_))
  case c2 => omega
  intro v5 w5 m5 g5
  have b5 := (Below.refl w.heap.size w).grown g5 (Nat.le_refl _) (fun q e => by cases e)
  have o5 := below_own b5 h1 h1.lt
  have k0 : w5.cell? ⟨b, 0, none⟩ = some (.slice a len c) := o5.cell 0
  have p0 := o5.free 0
  have M5 : Hid (Mine w5 w.heap.size 5 v5 n (bval (l.take n))) := Lib.hid (by
    exact m5.ext (U := bval (l.take n)) (fun i hi => by
      show bval l i = _
      unfold bval
      rw [tk_get hi]))
  clear m5 g5 HNM HR c0 c1 f0 h1
  have hr5 := h4.below b5
  have HJ : Hid (∀ u, Just b w (w5.setCell ⟨b, 0, none⟩ u)) := Lib.hid (fun u => (show Just b w w5 from ⟨b5.os, b5.tape, b5.output, b5.size, fun k hk _ => b5.block k hk⟩).put 0 u)
  cases a with
  | none =>
    have h0 := row_none h4 rfl
    have HQ : Hid (Rq (w5.setCell ⟨b, 0, none⟩ (.slice none (len - n) (c - n))) lo b (l.drop n) 0) := Lib.hid (rq_put o5 HLEN.out (by omega) (by unfold maxLen; omega) (by rw [show len - n = 0 by omega]; exact Row.nil _ _ _) (fun p e => by cases e))
    clear h0 hr5 h4
    go_wp2_with fail
    go_ret
    exact ⟨v5, rfl, M5.out.just (Just.set b w5 0 _) (HB.out), HQ.out, HJ.out _⟩
  | some p =>
    have hp : lo ≤ p.block ∧ p.block < b := h5 p rfl
    by_cases hc : n = c
    · subst hc
      have HQ : Hid (Rq (w5.setCell ⟨b, 0, none⟩ (.slice (some p) 0 0)) lo b (l.drop n) 0) := Lib.hid (by
        have := rq_put (n := n) (c := 0) (a' := some p) o5 HLEN.out (by omega) (Nat.zero_le _) (by rw [show len - n = 0 by omega]; exact Row.nil _ _ _) (fun q e => by injection e with e; rw [← e]; exact hp)
        rwa [show len - n = 0 by omega] at this)
      clear hr5 h4
      obtain ⟨pb, po, ps⟩ := p
      go_wp2_with fail
      go_ret
      exact ⟨v5, rfl, M5.out.just (Just.set b w5 0 _) (HB.out), HQ.out, HJ.out _⟩
    · have HQ : Hid (Rq (w5.setCell ⟨b, 0, none⟩ (.slice (some (p.add n)) (len - n) (c - n))) lo b (l.drop n) 0) := Lib.hid (rq_put o5 HLEN.out (by omega) (by unfold maxLen; omega) (row_add hr5 hl) (fun q e => by injection e with e; rw [← e]; unfold Addr.add; split <;> exact hp))
      clear hr5 h4
      obtain ⟨pb, po, ps⟩ := p
      go_wp2_with fail
      go_ret
      exact ⟨v5, rfl, M5.out.just (Just.set b w5 0 _) (HB.out), HQ.out, HJ.out _⟩
theorem num_bad (lo b : Nat) (l : List Int) (err : Int) (n : Nat) (w : World) (h : Rq w lo b l err) (hb : badQ l err n) (hn : n ≤ 100000) :
    Calls Tryz.prog 141 #[.pointer (some ⟨b, 0, none⟩), .int .i64 (n : Int)] w fun r w' => r = .returned (.int .u64 0) ∧ Rq w' lo b [] 2 ∧ Just b w w' := by
  go_enter Tryz.func141, Tryz.ntmps141
  go_wp2_with fail
  refine (raw_bad lo b l err n w h hb hn).mono ?_
  rintro r w2 ⟨rfl, h2, j2⟩
  go_wp2_with fail
  go_loopw [5, 12] (fun x i wr => x = .int .u64 0 ∧ i = .int .i64 0 ∧ w2 = wr) (fun _ _ _ => 0)
  case atStart => exact ⟨rfl, rfl, rfl⟩
  case round =>
    obtain ⟨rfl, rfl, rfl⟩ := hrel
    go_wp2_with fail
    go_ret
    exact ⟨rfl, h2, j2⟩
theorem numB_step {l : List Int} {k : Nat} {X c : Nat} (hX : numB (l.take k) = (X : Int)) (hk : k < l.length) (hc : l.getD k 0 = (c : Int)) : numB (l.take (k + 1)) = ((X * 256 + c : Nat) : Int) := by
  rw [tk_snoc hk, numB_snoc, hX, hc]
  push_cast
  rfl
theorem or_low (X c : Nat) (hc : c < 256) : X * 256 ||| c = X * 256 + c := by
  have := Nat.two_pow_add_eq_or_of_lt (i := 8) (b := c) hc X
  rw [Nat.mul_comm X 256]
  exact this.symm
set_option maxHeartbeats 1000000 in
theorem num_ok (lo b : Nat) (l : List Int) (n : Nat) (w : World) (h : Rq w lo b l 0) (hd : okD' l) (hl : n ≤ l.length) (hn : n ≤ 8) :
    Calls Tryz.prog 141 #[.pointer (some ⟨b, 0, none⟩), .int .i64 (n : Int)] w fun r w' => r = .returned (.int .u64 (numB (l.take n))) ∧ Rq w' lo b (l.drop n) 0 ∧ Just b w w' := by
  have HD := Lib.hid hd
  have HL := Lib.hid hl
  go_enter Tryz.func141, Tryz.ntmps141
  go_wp2_with fail
  refine (raw_ok lo b l n w h hl (by omega)).mono ?_
  rintro r w2 ⟨v, rfl, hV, h2, j2⟩
  obtain ⟨a, c, rfl, l1, l2, hR⟩ := hV.row
  unfold maxLen at l2
  clear hd hl hV h
  go_wp2_with fail
  go_loopw [5, 12] (fun x i wr => ∃ (k X : Nat), x = .int .u64 (X : Int) ∧ i = .int .i64 k ∧ k ≤ n ∧ Hid (numB (l.take k) = (X : Int)) ∧ X < 256 ^ k ∧ w2 = wr) (fun _ i _ => n - (intOf i).toNat)
  case atStart => exact ⟨0, 0, rfl, rfl, by omega, Lib.hid rfl, by decide, rfl⟩
  case round =>
    obtain ⟨k, X, rfl, rfl, hk, HX, hXb, rfl⟩ := hrel
    by_cases hlt : k < n
    · obtain ⟨p, o, rfl, _, x1⟩ := hR.at_ hlt
      unfold bval at x1
      rw [tk_get hlt] at x1
      have hcb : 0 ≤ l.getD k 0 ∧ l.getD k 0 < 256 := by
        have := HL.out
        rw [List.getD_eq_getElem?_getD, List.getElem?_eq_getElem (by omega)]
        exact HD.out _ (List.getElem_mem _)
      obtain ⟨c0, hc0⟩ : ∃ c0 : Nat, l.getD k 0 = (c0 : Int) := ⟨(l.getD k 0).toNat, by omega⟩
      rw [hc0] at x1 hcb
      have hX8 : X < 72057594037927936 := Nat.lt_of_lt_of_le hXb (show 256 ^ k ≤ 256 ^ 7 from Nat.pow_le_pow_right (by decide) (by omega))
      have HS := Lib.hid (numB_step HX.out (by have := HL.out; omega) hc0)
      have hb1 : X * 256 + c0 < 256 ^ (k + 1) := by
        rw [Nat.pow_succ]
        omega
      have HB := Lib.hid hb1
      have e9 : bits .or .u64 ((X : Int) * 256) (c0 : Int) = ((X * 256 + c0 : Nat) : Int) := by
        have := u64_or_nat (X * 256) c0 (by omega) (by omega)
        rw [or_low X c0 (by omega)] at this
        rw [← this]
        push_cast
        rfl
      clear hc0 hb1 hXb
      go_wp2_with fail
      exact ⟨⟨k + 1, X * 256 + c0, by simp, by simp, by omega, HS, HB.out, by first | trivial | rfl⟩, by simp [intOf]; omega⟩
    · obtain rfl : n = k := by omega
      go_wp2_with fail
      go_ret
      exact ⟨by rw [HX.out]; rfl, h2, j2⟩
theorem ru8_bad (lo b : Nat) (l : List Int) (err : Int) (w : World) (h : Rq w lo b l err) (hb : badQ l err 1) :
    Calls Tryz.prog 69 #[.pointer (some ⟨b, 0, none⟩)] w fun r w' => r = .returned (.int .i64 0) ∧ Rq w' lo b [] 2 ∧ Just b w w' := by
  go_enter Tryz.func69, Tryz.ntmps69
  go_wp2_with fail
  refine (num_bad lo b l err 1 w h hb (by omega)).mono ?_
  rintro r w2 ⟨rfl, h2, j2⟩
  go_wp2_with fail
  go_ret
  exact ⟨rfl, h2, j2⟩
theorem ru8_ok (lo b : Nat) (x : Int) (l : List Int) (w : World) (h : Rq w lo b (x :: l) 0) (hd : okD' (x :: l)) :
    Calls Tryz.prog 69 #[.pointer (some ⟨b, 0, none⟩)] w fun r w' => r = .returned (.int .i64 x) ∧ Rq w' lo b l 0 ∧ Just b w w' := by
  have hx := hd x (by simp)
  have hn := num_ok lo b (x :: l) 1 w h hd (by simp) (by omega)
  have e : numB ((x :: l).take 1) = x := by simp [numB]
  rw [e] at hn
  have HN := Lib.hid hn
  clear hn e
  go_enter Tryz.func69, Tryz.ntmps69
  go_wp2_with fail
  refine HN.out.mono ?_
  rintro r w2 ⟨rfl, h2, j2⟩
  go_wp2_with fail
  go_ret
  exact ⟨rfl, h2, j2⟩
theorem rend_any (lo b : Nat) (l : List Int) (err : Int) (w : World) (h : Rq w lo b l err) :
    Calls Tryz.prog 71 #[.pointer (some ⟨b, 0, none⟩)] w fun r w' => r = .returned (.int .i64 (endE l err)) ∧ w = w' := by
  obtain ⟨a, c, h1, h2, h3, h4, h5⟩ := h
  unfold maxLen at h3
  obtain ⟨len, hlen⟩ : ∃ len, l.length = len := ⟨_, rfl⟩
  rw [hlen] at h1 h2
  have c0 : w.cell? ⟨b, 0, none⟩ = some (.slice a len c) := h1.cell 0
  have c1 : w.cell? ⟨b, 1, none⟩ = some (.int .i64 err) := h1.cell 1
  by_cases he : err = 0
  · subst he
    by_cases hl : len = 0
    · have HE : Hid (endE l 0 = 0) := Lib.hid (by unfold endE; rw [if_pos rfl, if_pos (List.length_eq_zero_iff.1 (by omega))])
      subst hl
      clear hlen
      go_enter Tryz.func71, Tryz.ntmps71
      go_wp2_with fail
      go_ret
      exact ⟨by rw [HE.out]; rfl, rfl⟩
    · have HE : Hid (endE l 0 = 3) := Lib.hid (by unfold endE; rw [if_pos rfl, if_neg (fun e => hl (by rw [← hlen, e]; rfl))])
      have g1 : decide (0 < len) = true := by simp; omega
      have g2 : decide ((0 : Int) < (len : Int)) = true := by simp; omega
      clear hlen hl
      go_enter Tryz.func71, Tryz.ntmps71
      go_wp2_with fail
      go_ret
      exact ⟨by rw [HE.out]; rfl, rfl⟩
  · have HE : Hid (endE l err = err) := Lib.hid (by unfold endE; rw [if_neg he])
    have g1 : (err == 0) = false := by simpa using he
    clear hlen he
    go_enter Tryz.func71, Tryz.ntmps71
    go_wp2_with fail
    go_ret
    exact ⟨by rw [HE.out]; rfl, rfl⟩
end Go.Proofs.YtiflmdekcjbmbaaGreat.Ie
