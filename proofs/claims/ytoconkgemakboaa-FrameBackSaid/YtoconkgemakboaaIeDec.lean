/-
  Package ie (chapter 6): Decode: the elements that bytes are.
-/
import Derived.Test.YtoconkgemakboaaIeOne
import Derived.Test.YtoconkgemakboaaIeLaw
import Derived.Test.YtoconkgemakboaaOwnK
set_option maxRecDepth 100000
namespace Go.Proofs.Ytoconkgemakboaa.Ie
set_option linter.unusedVariables false
open Go.RowKit Lb Go.Shelf Bf

theorem infoE : (Try.prog.info? 52).map (fun i => (i.zero, i.size, i.bytes)) = some (some (.agg #[.int .i64 0, .int .i64 0, .int .i64 0, .int .i64 0, .slice none 0 0]), 5, 56) := by kernel_rfl
theorem ev_one (L : List EP) (q : Nat) : (ev L q).oneCell' = true := by
  have hm : q % 5 = 0 ∨ q % 5 = 1 ∨ q % 5 = 2 ∨ q % 5 = 3 ∨ q % 5 = 4 := by omega
  rcases hm with hm | hm | hm | hm | hm
  · rw [show q = q / 5 * 5 by omega, ev0]; rfl
  · rw [show q = q / 5 * 5 + 1 by omega, ev1]; rfl
  · rw [show q = q / 5 * 5 + 2 by omega, ev2]; rfl
  · rw [show q = q / 5 * 5 + 3 by omega, ev3]; rfl
  · rw [show q = q / 5 * 5 + 4 by omega, ev4]; rfl
theorem ev_app (L M : List EP) (q : Nat) : (if q < L.length * 5 then ev L q else ev M (q - L.length * 5)) = ev (L ++ M) q := by
  unfold ev
  by_cases h : q < L.length * 5
  · rw [if_pos h]
    have : q / 5 < L.length := by omega
    rw [List.getD_eq_getElem?_getD, List.getD_eq_getElem?_getD, List.getElem?_append_left this]
  · rw [if_neg h]
    have h1 : (q - L.length * 5) / 5 = q / 5 - L.length := by omega
    have h2 : (q - L.length * 5) % 5 = q % 5 := by omega
    rw [h1, h2, List.getD_eq_getElem?_getD, List.getD_eq_getElem?_getD, List.getElem?_append_right (by omega)]
theorem els_app (L M : List EP) : els (L ++ M) = els L ++ els M := by simp [els]
theorem Row.same {w w' : World} {a : Option Addr} {n : Nat} {V : Nat → Value} (h : Row w a n V) (hk : ∀ p, a = some p → 0 < n → w'.heap[p.block]? = w.heap[p.block]?) : Row w' a n V := by
  intro hn
  obtain ⟨b, off, rfl, h1, h2⟩ := h hn
  have e := hk _ rfl hn
  refine ⟨b, off, rfl, ?_, fun i hi => (World.cell?_of_block (a := ⟨b, off + i, none⟩) e).trans (h2 i hi)⟩
  by_cases hb : b < w'.heap.size
  · exact hb
  · exfalso
    have e1 : w'.heap[b]? = none := Array.getElem?_eq_none (by omega)
    have e2 : w.heap[b]? = some w.heap[b] := Array.getElem?_eq_getElem h1
    have e : w'.heap[b]? = w.heap[b]? := e
    rw [e1, e2] at e
    cases e
theorem El.At.same {w w' : World} {e : El} {a : Option Addr} {c : Nat} (h : e.At w a c) (hk : ∀ p, a = some p → 0 < e.list.length → w'.heap[p.block]? = w.heap[p.block]?) : e.At w' a c := ⟨h.lc, h.cm, Row.same h.row hk, h.nil⟩
theorem El.At.lt {w : World} {e : El} {a : Option Addr} {c : Nat} (h : e.At w a c) : ∀ p, a = some p → 0 < e.list.length → p.block < w.heap.size := fun p e1 hl => by
  obtain ⟨b, off, h1, h2, _⟩ := h.row hl
  rw [e1] at h1
  injection h1 with h1
  rw [h1]
  exact h2
theorem dec1_sub {L : List Int} {e : El} {R : List Int} (h : dec1 L = .ok (e, R)) : ∀ x, x ∈ R → x ∈ L := by
  unfold dec1 at h
  match L, h with
  | [], h => cases h
  | k :: L1, h =>
    simp only at h
    split at h
    · cases h
    · match L1, h with
      | [], h => cases h
      | s :: L2, h =>
        simp only at h
        split at h
        · cases h
        · split at h
          · cases h
          · injection h with h
            injection h with h1 h2
            subst h2
            intro x hx
            have := List.mem_of_mem_drop hx
            simp [this]
theorem dec1_err {L : List Int} {x : Int} (h : dec1 L = .error x) : x = 2 ∨ x = 3 := by
  unfold dec1 at h
  match L, h with
  | [], h => injection h with h; exact .inl h.symm
  | k :: L1, h =>
    simp only at h
    split at h
    · injection h with h; exact .inr h.symm
    · match L1, h with
      | [], h => injection h with h; exact .inl h.symm
      | s :: L2, h =>
        simp only at h
        split at h
        · injection h with h; exact .inr h.symm
        · split at h
          · injection h with h; exact .inl h.symm
          · cases h
theorem decI_err {n : Nat} {L1 : List Int} {e : Int} (h4 : n ≤ 4) (h : decN n L1 = .error e) : decI ((n : Int) :: L1) = .error e := by
  unfold decI
  simp only
  rw [if_neg (by omega), Int.toNat_natCast, h]
theorem decI_ok {n : Nat} {L1 : List Int} {l : List El} (h4 : n ≤ 4) (h : decN n L1 = .ok (l, [])) : decI ((n : Int) :: L1) = .ok l := by
  unfold decI
  simp only
  rw [if_neg (by omega), Int.toNat_natCast, h]
  simp
theorem decI_more {n : Nat} {L1 R : List Int} {l : List El} (h4 : n ≤ 4) (h : decN n L1 = .ok (l, R)) (hR : R ≠ []) : decI ((n : Int) :: L1) = .error 3 := by
  unfold decI
  simp only
  rw [if_neg (by omega), Int.toNat_natCast, h]
  simp [hR]
def DecPost (L : List Int) (w : World) (r : Ending) (w' : World) : Prop :=
  match decI L with
  | .ok l => ∃ (LL : List EP) (a : Option Addr) (c : Nat), els LL = l ∧ r = .returned (.tuple #[.slice a LL.length c, .int .i64 0]) ∧ Els w' LL a c ∧ (∀ q, a = some q → w.heap.size ≤ q.block) ∧ (∀ k, k < LL.length → ∀ q, (LL.getD k ep0).a = some q → 0 < (LL.getD k ep0).e.list.length → w.heap.size ≤ q.block) ∧ Below w.heap.size w w'
  | .error x => r = .returned (.tuple #[.slice none 0 0, .int .i64 x]) ∧ Below w.heap.size w w'
set_option maxHeartbeats 4000000 in
theorem decode_any (a : Option Addr) (c : Nat) (L : List Int) (w : World) (hc : L.length ≤ 100000) (hR : Row w a L.length (bval L)) (hd : okD' L) :
    Calls Try.prog 44 #[.slice a L.length c] w (DecPost L w) := by
  have hN := newb_any a c L w hc hR hd (row_none hR)
  have HN := Lib.hid hN
  have HDI : Hid (okD' L) := Lib.hid hd
  obtain ⟨len, hlen⟩ : ∃ len, L.length = len := ⟨_, rfl⟩
  rw [hlen] at HN ⊢
  have HLEN := Lib.hid hlen
  clear hN hR hlen hc hd
  obtain ⟨i0, hi0, hz0, hz1, hz2⟩ := info_parts infoE
  go_enter Try.func44, Try.ntmps44
  go_wp2_with fail
  refine HN.out.mono ?_
  rintro r w1 ⟨b, rfl, h1, b1, hb1, hb2⟩
  have hh := h1.hold
  have hbs := b1.size
  obtain ⟨H, hH⟩ : ∃ H, w1.heap.size = H := ⟨_, rfl⟩
  rw [hH] at hh hb2 hbs
  have HH := Lib.hid hH
  clear HN h1 hH
  cases L with
  | nil =>
    have HD : Hid (decI [] = .error 2) := Lib.hid rfl
    go_wp2_with fail
    refine (itake_nil _ H b 0 w1 hh).mono ?_
    rintro r w2 ⟨rfl, j2⟩
    have b2 := j2.below b1 hb1 (by rw [HH.out]; omega)
    go_wp2_with fail
    go_ret2
    unfold DecPost
    rw [HD.out]
    exact ⟨rfl, b2⟩
  | cons n0 L1 =>
    have hn0 := HDI.out n0 (by simp)
    go_wp2_with fail
    refine (itake_cons _ H b n0 L1 0 w1 hh HDI.out).mono ?_
    rintro r w2 ⟨rfl, h2, j2⟩
    have b2 := j2.below b1 hb1 (by rw [HH.out]; omega)
    have hs2 : H ≤ w2.heap.size := by rw [← HH.out]; exact j2.size
    clear hh j2 b1
    obtain ⟨n, rfl⟩ : ∃ n : Nat, n0 = (n : Int) := ⟨n0.toNat, by omega⟩
    by_cases h4 : 4 < n
    · have HD : Hid (decI ((n : Int) :: L1) = .error 3) := Lib.hid (by unfold decI; simp only; rw [if_pos (by omega)])
      have g1 : decide (4 < n) = true := by simpa using h4
      have g2 : decide ((4 : Int) < (n : Int)) = true := by simp; omega
      clear h4
      go_wp2_with fail
      go_ret2
      unfold DecPost
      rw [HD.out]
      exact ⟨rfl, b2⟩
    · have g1 : decide (4 < n) = false := by simpa using h4
      have g2 : decide ((4 : Int) < (n : Int)) = false := by simp; omega
      have hn4 : n ≤ 4 := by omega
      have hmk : ∀ w : World, (Instr.makeSlice 22 (.int .i64 0) (.int .i64 (n : Int))).run Try.prog w = .ok (.slice (some ⟨w.heap.size, 0, none⟩) 0 n) (w.alloc (.cells (madeCells #[.int .i64 0, .int .i64 0, .int .i64 0, .int .i64 0, .slice none 0 0] (n * 5)) 52)) := by
        intro w
        have := run_make w 22 52 i0 (.agg #[.int .i64 0, .int .i64 0, .int .i64 0, .int .i64 0, .slice none 0 0]) Try.underlying22 hi0 hz0 .i64 .i64 0 (n : Int) (by omega) (by omega) (by rw [hz2]; omega) (by omega)
        rw [this, hz1]
        simp [Value.cells]
      have hW0 : MineK (w2.alloc (.cells (madeCells #[.int .i64 0, .int .i64 0, .int .i64 0, .int .i64 0, .slice none 0 0] (n * 5)) 52)) w2.heap.size 52 5 (.slice (some ⟨w2.heap.size, 0, none⟩) 0 n) 0 (ev []) :=
        MineK.made (Own.new w2 52 _) (Nat.le_refl _) (size_madeCells _ _) (by unfold maxLen; omega) (Nat.zero_le _) (fun i hi => by omega)
      have b3 := b2.alloc b2.size (.cells (madeCells #[.int .i64 0, .int .i64 0, .int .i64 0, .int .i64 0, .slice none 0 0] (n * 5)) 52)
      have h3 := h2.kept (((Below.refl w2.heap.size w2).alloc (Nat.le_refl _) (.cells (madeCells #[.int .i64 0, .int .i64 0, .int .i64 0, .int .i64 0, .slice none 0 0] (n * 5)) 52)).mono hs2)
      have hs3 : w2.heap.size ≤ (w2.alloc (.cells (madeCells #[.int .i64 0, .int .i64 0, .int .i64 0, .int .i64 0, .slice none 0 0] (n * 5)) 52)).heap.size := by simp
      go_upto_region 8 with (fail)
      generalize w2.alloc (.cells (madeCells #[.int .i64 0, .int .i64 0, .int .i64 0, .int .i64 0, .slice none 0 0] (n * 5)) 52) = w3 at *
      obtain ⟨G, hG⟩ : ∃ G, w2.heap.size = G := ⟨_, rfl⟩
      rw [hG] at hW0 hs2 hs3 ⊢
      have hd1 : okD' L1 := fun x hx => HDI.out x (by simp [hx])
      clear h2 b2 hmk hG HDI
      go_wp2_with fail
      go_loopw [7, 25] (fun v i wr => ∃ (k : Nat) (LL : List EP) (R : List Int), i = .int .i64 k ∧ k ≤ n ∧ LL.length = k ∧ MineK wr G 52 5 v k (ev LL) ∧ Hid (∀ j, j < k → (LL.getD j ep0).e.At wr (LL.getD j ep0).a (LL.getD j ep0).c) ∧ Hid (∀ j, j < k → ∀ p, (LL.getD j ep0).a = some p → 0 < (LL.getD j ep0).e.list.length → v.ownBlock ≠ some p.block ∧ G ≤ p.block) ∧ Hid (decN k L1 = .ok (els LL, R)) ∧ Hid (okD' R) ∧ Rh wr w.heap.size H b R 0 ∧ Below w.heap.size w wr ∧ G ≤ wr.heap.size) (fun _ i _ => n - (intOf i).toNat)
      case atStart => exact ⟨0, [], L1, rfl, by omega, rfl, hW0, Lib.hid (fun j hj => by omega), Lib.hid (fun j hj => by omega), Lib.hid rfl, Lib.hid hd1, h3, b3, hs3⟩
      case round =>
        clear hW0 b3 h3 hs3
        obtain ⟨k, LL, R, rfl, hk, hLL, hW, HAT, HAP, HDN, HOD, hR, bb, hG⟩ := hrel
        have HLL := Lib.hid hLL
        clear hLL
        by_cases hlt : k < n
        · have hHr : H ≤ wr.heap.size := Nat.le_trans hs2 hG
          go_wp2_with fail
          refine (one_any _ H b R 0 wr hR HOD.out hHr).mono ?_
          intro r w4 hp
          unfold OnePost at hp
          cases h1 : dec1 R with
          | error x =>
            rw [h1] at hp
            simp only at hp
            obtain ⟨rfl, j4⟩ := hp
            have hx := dec1_err h1
            have e0 : zE.vals none 0 = #[.int .i64 0, .int .i64 0, .int .i64 0, .int .i64 0, .slice none 0 0] := rfl
            rw [e0]
            have HD : Hid (decI ((n : Int) :: L1) = .error x) := Lib.hid (decI_err hn4 (decN_err (n := k + 1) (by rw [decN_snoc, HDN.out]; simp only; rw [h1]) (by omega)))
            have g3 : (x != 0) = true := by simp; omega
            have b4 := j4.below bb hb1 bb.size
            have b5 := b4.alloc b4.size (.cells #[.int .i64 0, .int .i64 0, .int .i64 0, .int .i64 0, .slice none 0 0] 52)
            clear h1 hx e0
            go_wp2_with fail
            go_ret2
            unfold DecPost
            rw [HD.out]
            exact ⟨rfl, b5⟩
          | ok p =>
            obtain ⟨e, Q⟩ := p
            rw [h1] at hp
            simp only at hp
            obtain ⟨ea, ec, rfl, hat, hap, hR4, j4⟩ := hp
            have HD1 : Hid (decN (k + 1) L1 = .ok (els (LL ++ [⟨e, ea, ec⟩]), Q)) := Lib.hid (by rw [decN_snoc, HDN.out]; simp only; rw [h1, els_app]; rfl)
            have HOQ : Hid (okD' Q) := Lib.hid (fun x hx => HOD.out x (dec1_sub h1 x hx))
            clear h1
            obtain ⟨ek, easn, er, et, el⟩ := e
            unfold El.vals
            simp only
            have b4 := j4.below bb hb1 bb.size
            have hG4 : G ≤ w4.heap.size := Nat.le_trans hG j4.size
            have hbG : b < G := by omega
            have hW4 := hW.kept (w' := w4) (fun q hq => by
              by_cases h : q < wr.heap.size
              · exact .inl (j4.block q h (by omega))
              · exact .inr (fun e => h (hW.lt q e).2))
            have HAT4 : Hid (∀ j, j < k → (LL.getD j ep0).e.At w4 (LL.getD j ep0).a (LL.getD j ep0).c) := Lib.hid (fun j hj => (HAT.out j hj).same (fun p e1 e2 => j4.block _ ((HAT.out j hj).lt p e1 e2) (by have := (HAP.out j hj p e1 e2).2; omega)))
            have hnv : ∀ q, u7.ownBlock = some q → q < wr.heap.size := fun q e => (hW.lt q e).2
            have HNV := Lib.hid hnv
            have o8 := Own.new w4 52 #[.int .i64 ek, .int .i64 easn, .int .i64 er, .int .i64 et, .slice ea el.length ec]
            have bb8 := (Below.refl w4.heap.size w4).alloc (Nat.le_refl _) (.cells #[.int .i64 ek, .int .i64 easn, .int .i64 er, .int .i64 et, .slice ea el.length ec] 52)
            have b5 := b4.alloc b4.size (.cells #[.int .i64 ek, .int .i64 easn, .int .i64 er, .int .i64 et, .slice ea el.length ec] 52)
            have hW5 := hW4.below bb8
            have hat5 := hat.below bb8
            have HAT5 : Hid (∀ j, j < k → (LL.getD j ep0).e.At (w4.alloc (.cells #[.int .i64 ek, .int .i64 easn, .int .i64 er, .int .i64 et, .slice ea el.length ec] 52)) (LL.getD j ep0).a (LL.getD j ep0).c) := Lib.hid (fun j hj => (HAT4.out j hj).below bb8)
            have hR5 := hR4.kept (bb8.mono (by omega))
            have hG5 : G ≤ (w4.alloc (.cells #[.int .i64 ek, .int .i64 easn, .int .i64 er, .int .i64 et, .slice ea el.length ec] 52)).heap.size := by simp; omega
            go_upto_region 11 with (fail)
            generalize w4.alloc (.cells #[.int .i64 ek, .int .i64 easn, .int .i64 er, .int .i64 et, .slice ea el.length ec] 52) = w5 at *
            obtain ⟨g8, hg8⟩ : ∃ g, w4.heap.size = g := ⟨_, rfl⟩
            rw [hg8] at o8 ⊢
            clear hg8 bb8 hW hW4 HAT HAT4 hat hR hR4 j4 bb b4 hnv HDN HOD
            have y0 : w5.cell? ⟨g8, 0, none⟩ = some (.int .i64 ek) := o8.cell 0
            have y1 : w5.cell? ⟨g8, 1, none⟩ = some (.int .i64 easn) := o8.cell 1
            have y2 : w5.cell? ⟨g8, 2, none⟩ = some (.int .i64 er) := o8.cell 2
            have y3 : w5.cell? ⟨g8, 3, none⟩ = some (.int .i64 et) := o8.cell 3
            have y4 : w5.cell? ⟨g8, 4, none⟩ = some (.slice ea el.length ec) := o8.cell 4
            have hr1 : Row (w5.alloc (.cells #[.int .i64 ek, .int .i64 easn, .int .i64 er, .int .i64 et, .slice ea el.length ec] 52)) (some ⟨w5.heap.size, 0, none⟩) (1 * 5) (ev [⟨⟨ek, easn, er, et, el⟩, ea, ec⟩]) := row_new _ _ _ _ (fun i hi => by rcases (show i = 0 ∨ i = 1 ∨ i = 2 ∨ i = 3 ∨ i = 4 by omega) with rfl | rfl | rfl | rfl | rfl <;> rfl)
            have HR1 := Lib.hid hr1
            have HNM : Hid (k + 1 ≤ maxLen) := Lib.hid (by unfold maxLen; omega)
            have bbA := (Below.refl w5.heap.size w5).alloc (Nat.le_refl _) (.cells #[.int .i64 ek, .int .i64 easn, .int .i64 er, .int .i64 et, .slice ea el.length ec] 52)
            have hbs5 : G ≤ (w5.alloc (.cells #[.int .i64 ek, .int .i64 easn, .int .i64 er, .int .i64 et, .slice ea el.length ec] 52)).heap.size := by simp; omega
            clear hr1
            go_wp2_with (at_builtin; go_must (refine wp_appK rfl (.tmp 35) (.tmp 37) _ rfl G 52 i0 _ 5 56 Try.underlying22 hi0 hz0 hz1 hz2 rfl (by decide) u7 k (ev LL) rfl (hW5.alloc _) _ 1 _ (ev [⟨⟨ek, easn, er, et, el⟩, ea, ec⟩]) rfl HR1.out (fun i _ => ev_one _ i) HNM.out ?c2 hbs5 ?_))
            case c2 => omega
            intro v9 w9 m9 q9 l9
            have hsame : ∀ q, q < w5.heap.size → u7.ownBlock ≠ some q → w9.heap[q]? = w5.heap[q]? := fun q h1 h2 => (q9.block q (by simp; omega) (fun e => h2 e.symm)).trans (bbA.block q h1)
            have hM9 : MineK w9 G 52 5 v9 (k + 1) (ev (LL ++ [(⟨⟨ek, easn, er, et, el⟩, ea, ec⟩ : EP)])) := m9.ext (fun i _ => by rw [← HLL.out]; exact ev_app LL _ i)
            have b9 := (b5.alloc b5.size (.cells #[.int .i64 ek, .int .i64 easn, .int .i64 er, .int .i64 et, .slice ea el.length ec] 52)).grown q9 (by omega) (fun q e => by have := (hW5.lt q e).1; omega)
            have hR9 : Rh w9 w.heap.size H b Q 0 := hR5.kept (((Below.refl H w5).alloc (by omega) (.cells #[.int .i64 ek, .int .i64 easn, .int .i64 er, .int .i64 et, .slice ea el.length ec] 52)).grown q9 (by omega) (fun q e => by have := (hW5.lt q e).1; omega))
            have hget : ∀ j, j < k → (LL ++ [(⟨⟨ek, easn, er, et, el⟩, ea, ec⟩ : EP)]).getD j ep0 = LL.getD j ep0 := fun j hj => by
              rw [List.getD_eq_getElem?_getD, List.getD_eq_getElem?_getD, List.getElem?_append_left (by rw [HLL.out]; exact hj)]
            have hgetk : (LL ++ [(⟨⟨ek, easn, er, et, el⟩, ea, ec⟩ : EP)]).getD k ep0 = ⟨⟨ek, easn, er, et, el⟩, ea, ec⟩ := by
              rw [List.getD_eq_getElem?_getD, List.getElem?_append_right (by rw [HLL.out]; exact Nat.le_refl _), HLL.out, Nat.sub_self]
              rfl
            have hnew : ∀ p, ea = some p → 0 < el.length → u7.ownBlock ≠ some p.block ∧ p.block < w5.heap.size ∧ G ≤ p.block := fun p e1 e2 => by
              have h1 := hap p e1
              refine ⟨fun e => ?_, hat5.lt p e1 e2, by omega⟩
              have := HNV.out _ e
              omega
            have HAT9 : Hid (∀ j, j < k + 1 → ((LL ++ [(⟨⟨ek, easn, er, et, el⟩, ea, ec⟩ : EP)]).getD j ep0).e.At w9 ((LL ++ [(⟨⟨ek, easn, er, et, el⟩, ea, ec⟩ : EP)]).getD j ep0).a ((LL ++ [(⟨⟨ek, easn, er, et, el⟩, ea, ec⟩ : EP)]).getD j ep0).c) := Lib.hid (fun j hj => by
              by_cases e : j = k
              · subst e
                rw [hgetk]
                exact hat5.same (fun p e1 e2 => hsame _ (hnew p e1 e2).2.1 (hnew p e1 e2).1)
              · rw [hget j (by omega)]
                exact (HAT5.out j (by omega)).same (fun p e1 e2 => hsame _ ((HAT5.out j (by omega)).lt p e1 e2) (HAP.out j (by omega) p e1 e2).1))
            have hv9 : ∀ q, q < w5.heap.size → u7.ownBlock ≠ some q → v9.ownBlock ≠ some q := fun q h1 h2 e => by
              rcases l9 with h | h
              · rw [h] at e; exact h2 e
              · rw [h] at e
                injection e with e
                first | omega | (simp at e; omega)
            have HAP9 : Hid (∀ j, j < k + 1 → ∀ p, ((LL ++ [(⟨⟨ek, easn, er, et, el⟩, ea, ec⟩ : EP)]).getD j ep0).a = some p → 0 < ((LL ++ [(⟨⟨ek, easn, er, et, el⟩, ea, ec⟩ : EP)]).getD j ep0).e.list.length → v9.ownBlock ≠ some p.block ∧ G ≤ p.block) := Lib.hid (fun j hj p e1 e2 => by
              by_cases e : j = k
              · subst e
                rw [hgetk] at e1 e2
                exact ⟨hv9 _ (hnew p e1 e2).2.1 (hnew p e1 e2).1, (hnew p e1 e2).2.2⟩
              · rw [hget j (by omega)] at e1 e2
                exact ⟨hv9 _ ((HAT5.out j (by omega)).lt p e1 e2) (HAP.out j (by omega) p e1 e2).1, (HAP.out j (by omega) p e1 e2).2⟩)
            have hG9 : G ≤ w9.heap.size := Nat.le_trans hbs5 q9.size
            have hL9 : (LL ++ [(⟨⟨ek, easn, er, et, el⟩, ea, ec⟩ : EP)]).length = k + 1 := by rw [List.length_append, HLL.out]; rfl
            have HL9 := Lib.hid hL9
            clear hsame m9 q9 l9 hget hgetk hnew hv9 bbA hbs5 hR5 hW5 hat5 HAT5 hap b5 hL9 HR1 HNM
            go_wp2_with fail
            exact ⟨⟨k + 1, LL ++ [(⟨⟨ek, easn, er, et, el⟩, ea, ec⟩ : EP)], Q, by simp, by omega, HL9.out, hM9, HAT9, HAP9, HD1, HOQ, hR9, b9, hG9⟩, by simp [intOf]; omega⟩
        · obtain rfl : n = k := by omega
          obtain ⟨aL, cL, rfl, lc, lm, RL⟩ := hW.row
          have hels : Els wr LL aL cL := ⟨by rw [HLL.out]; exact lc, lm, by rw [HLL.out]; exact RL, fun j hj => HAT.out j (by rw [← HLL.out]; exact hj)⟩
          have hend := endb_any _ b R 0 wr hR.rb
          unfold endE at hend
          rw [if_pos rfl] at hend
          have haq : ∀ q, aL = some q → w.heap.size ≤ q.block := fun q e => by
            subst e
            have := (hW.lt q.block rfl).1
            omega
          have hlq : ∀ j, j < LL.length → ∀ q, (LL.getD j ep0).a = some q → 0 < (LL.getD j ep0).e.list.length → w.heap.size ≤ q.block := fun j hj q e1 e2 => by
            have := (HAP.out j (by rw [← HLL.out]; exact hj) q e1 e2).2
            omega
          by_cases hR0 : R = []
          · subst hR0
            rw [if_pos rfl] at hend
            have HE := Lib.hid hend
            have HD : Hid (decI ((n : Int) :: L1) = .ok (els LL)) := Lib.hid (decI_ok hn4 HDN.out)
            have HELS := Lib.hid hels
            have HAQ := Lib.hid haq
            have HLQ := Lib.hid hlq
            clear hend hW RL hels haq hlq
            go_wp2_with fail
            refine HE.out.mono ?_
            rintro r w' ⟨rfl, m, rfl⟩
            go_wp2_with fail
            go_ret2
            unfold DecPost
            rw [HD.out]
            exact ⟨LL, aL, cL, rfl, by rw [HLL.out]; rfl, HELS.out.below (below_drewN (Below.refl _ _) m), HAQ.out, HLQ.out, below_drewN bb m⟩
          · rw [if_neg hR0] at hend
            have HE := Lib.hid hend
            have HD : Hid (decI ((n : Int) :: L1) = .error 3) := Lib.hid (decI_more hn4 HDN.out hR0)
            clear hend hW RL hels haq hlq hR0
            go_wp2_with fail
            refine HE.out.mono ?_
            rintro r w' ⟨rfl, m, rfl⟩
            go_wp2_with fail
            go_ret2
            unfold DecPost
            rw [HD.out]
            exact ⟨rfl, below_drewN bb m⟩
end Go.Proofs.Ytoconkgemakboaa.Ie
