/-
  Package parents: Old; slices.Sort by a contract that is handed in.
-/
import Derived.Test.YtjboilkbcajkcaaPaAll
import Derived.Test.YtjboilkbcajkcaaPaHear
import Derived.Deep.CutRange
set_option maxRecDepth 100000
namespace Go.Proofs.Ytjboilkbcajkcaa.Pa
set_option linter.unusedVariables false
open Go.RowKit Lb Go.Shelf

def srtd (zs : List Int) : List Int := zs.mergeSort fun x y => decide (x ≤ y)
def zval (zs : List Int) (j : Nat) : Value := .int .i64 (zs.getD j 0)
def SortOk : Prop := ∀ (base n : Nat) (v : Value) (zs : List Int) (w : World), Mine w base 3 v n (zval zs) → zs.length = n → n ≤ 1000 →
  Calls Try.prog 30 #[v] w fun r w' => r = .returned (.tuple #[]) ∧ Mine w' base 3 v n (zval (srtd zs)) ∧ w.grownBy w' v.ownBlock
def goP (last : Int) (l : List P) (k : Nat) : List P := kept (fun x => decide (last < x.h)) l k
def goN (last : Int) (l : List P) : List Int := (goP last l l.length).map (·.n)
theorem goN_len (last : Int) (l : List P) : (goN last l).length = (goP last l l.length).length := by simp [goN]
theorem goN_val (last : Int) (l : List P) (j : Nat) (hj : j < (goP last l l.length).length) : nov (goP last l l.length) j = zval (goN last l) j := by
  unfold nov zval goN at_
  rw [List.getD_eq_getElem?_getD, List.getD_eq_getElem?_getD, List.getElem?_map, List.getElem?_eq_getElem hj]
  rfl
theorem goP_yes {last : Int} {l : List P} {k : Nat} (hk : k < l.length) (h : decide ((at_ l k).h ≤ last) = true) : goP last l (k + 1) = goP last l k ++ [at_ l k] := by
  unfold goP
  rw [kept_succ _ _ _ hk, if_neg]
  simp at h ⊢
  omega
theorem goP_no {last : Int} {l : List P} {k : Nat} (hk : k < l.length) (h : decide ((at_ l k).h ≤ last) = false) : goP last l (k + 1) = goP last l k := by
  unfold goP
  rw [kept_succ _ _ _ hk, if_pos, List.append_nil]
  simp at h ⊢
  omega
theorem nov_snoc (G : List P) (y : P) (q : Nat) (hq : q < G.length + 1) : (if q < G.length then nov G q else .int .i64 y.n) = nov (G ++ [y]) q := by
  unfold nov at_
  by_cases h : q < G.length
  · rw [if_pos h, List.getD_eq_getElem?_getD, List.getD_eq_getElem?_getD, List.getElem?_append_left h]
  · obtain rfl : q = G.length := by omega
    rw [if_neg h, List.getD_eq_getElem?_getD, List.getElem?_append_right (Nat.le_refl _)]
    simp
theorem saysO (nb : Nat) (last : Int) : Says 29 (.pointer (some ⟨nb, 0, none⟩)) (fun x => decide (x.h ≤ last)) (fun W => W.cell? ⟨nb, 0, none⟩ = some (.int .i64 last)) := by
  intro x w h
  have b0 := (Below.refl w.heap.size w).alloc (Nat.le_refl _) (.cells #[.int .i64 x.n, .int .i64 x.r, .int .i64 x.h] 55)
  have c0 := keep_cell b0 h
  have o0 := Own.new w 55 #[.int .i64 x.n, .int .i64 x.r, .int .i64 x.h]
  have d1 : (w.alloc (.cells #[.int .i64 x.n, .int .i64 x.r, .int .i64 x.h] 55)).cell? ⟨w.heap.size, 2, none⟩ = some (.int .i64 x.h) := o0.cell 2
  clear h o0
  go_enter Try.func29, Try.ntmps29
  go_wp2_with fail
  go_ret
  exact ⟨rfl, b0⟩
theorem old_nil (now loss : Int) (w : World) : Calls Try.prog 13 #[.pointer none, .int .i64 now, .int .i64 loss] w fun r w' => r = .returned (.slice none 0 0) ∧ w = w' := by
  go_enter Try.func13, Try.ntmps13
  go_wp2_with fail
  go_ret
  exact ⟨rfl, rfl⟩
theorem old_early (b : Nat) (now loss : Int) (w : World) (h : now < 0) : Calls Try.prog 13 #[.pointer (some ⟨b, 0, none⟩), .int .i64 now, .int .i64 loss] w fun r w' => r = .returned (.slice none 0 0) ∧ w = w' := by
  have g : decide (now < 0) = true := by simpa using h
  go_enter Try.func13, Try.ntmps13
  go_wp2_with fail
  go_ret
  exact ⟨rfl, rfl⟩
def OldPost (base b : Nat) (me rk last : Int) (l : List P) (v : Value) (w : World) (r : Ending) (w' : World) : Prop :=
  ∃ gv v', r = .returned gv ∧ Mine w' (w.heap.size + 1) 3 gv (goN last l).length (zval (srtd (goN last l))) ∧ St w' base b me rk (kept (fun x => decide (x.h ≤ last)) l l.length) v' ∧ Turn w w' b v v'
set_option maxHeartbeats 2000000 in
theorem old_any (hS : SortOk) (base b : Nat) (me rk now loss last : Int) (l : List P) (v : Value) (w : World) (t : St w base b me rk l v) (h0 : 0 ≤ now) (hm : now ≤ 9223372036854775807) (hl : loss ≤ 9223372036854775807) (hlast : now - max loss 1 = last) :
    Calls Try.prog 13 #[.pointer (some ⟨b, 0, none⟩), .int .i64 now, .int .i64 loss] w (OldPost base b me rk last l v w) := by
  obtain ⟨a, c, rfl, h1, h2, hR⟩ := t.row.row
  have c2 : w.cell? ⟨b, 2, none⟩ = some (.slice a l.length c) := t.own.cell 2
  have HT := Lib.hid t
  have hfew := t.few
  have hbl := t.own.lt
  unfold maxLen at h2
  obtain ⟨i0, hi0, hz0, hz1, hz2⟩ := info_parts infoI
  clear t
  have g0 : decide (now < 0) = false := by simpa using h0
  have HLA := Lib.hid hlast
  obtain ⟨n, hn⟩ : ∃ n, l.length = n := ⟨_, rfl⟩
  rw [hn] at c2 h1 hfew hR
  have HN := Lib.hid hn
  clear hn hlast
  go_enter Try.func13, Try.ntmps13
  go_wp2_with fail
  rw [HLA.out]
  have o1 : Own (w.alloc (.cells #[.int .i64 last] 2)) w.heap.size 2 #[.int .i64 last] := Own.new w _ _
  have b1 := (Below.refl w.heap.size w).alloc (Nat.le_refl _) (.cells #[.int .i64 last] 2)
  generalize w.alloc (.cells #[.int .i64 last] 2) = w1 at *
  generalize max loss 1 = mx at *
  clear HLA g0 c2
  have HBL := Lib.hid hbl
  go_loopw [8, 26] (fun g i wr => ∃ k : Nat, i = .int .i64 k ∧ k ≤ n ∧ Mine wr (w.heap.size + 1) 3 g (goP last l k).length (nov (goP last l k)) ∧ Below w.heap.size w wr ∧ Own wr w.heap.size 2 #[.int .i64 last]) (fun _ i _ => n - (intOf i).toNat)
  case atStart => exact ⟨0, rfl, by omega, by exact Mine.nil _ _ _ _, b1, o1⟩
  case round =>
    clear o1 b1
    obtain ⟨k, rfl, hk, hG, bb, o1⟩ := hrel
    by_cases hlt : k < n
    · obtain ⟨bo, off, rfl, hbo, d0, d1, d2⟩ := prow hR bb hlt
      obtain ⟨y, hy⟩ : ∃ y, at_ l k = y := ⟨_, rfl⟩
      have HY := Lib.hid hy
      rw [hy] at d0 d1 d2
      clear hy
      have hs := bb.size
      have hos := o1.lt
      have ob := o1.cell 0
      have c0 : wr.cell? ⟨w.heap.size, 0, none⟩ = some (.int .i64 last) := ob
      have b2 := bb.alloc hs (.cells #[.int .i64 y.n, .int .i64 y.r, .int .i64 y.h] 55)
      obtain ⟨e, he⟩ : ∃ e, decide (y.h ≤ last) = e := ⟨_, rfl⟩
      have HE := Lib.hid he
      clear ob
      cases e
      · have HQ : Hid (goP last l (k + 1) = goP last l k) := Lib.hid (goP_no (by rw [HN.out]; exact hlt) (by rw [HY.out]; exact HE.out))
        have HG := Lib.hid (hG.alloc (.cells #[.int .i64 y.n, .int .i64 y.r, .int .i64 y.h] 55))
        have HO := Lib.hid (o1.alloc (.cells #[.int .i64 y.n, .int .i64 y.r, .int .i64 y.h] 55))
        go_wp2_with fail
        exact ⟨⟨k + 1, by simp, by omega, by rw [HQ.out]; exact HG.out, b2, HO.out⟩, by simp [intOf]; omega⟩
      · have HQ : Hid (goP last l (k + 1) = goP last l k ++ [y]) := Lib.hid (by rw [goP_yes (by rw [HN.out]; exact hlt) (by rw [HY.out]; exact HE.out), HY.out])
        have hgl : (goP last l k).length ≤ k := kept_len _ _ _
        obtain ⟨G, hGG⟩ : ∃ G, goP last l k = G := ⟨_, rfl⟩
        rw [hGG] at hG hgl HQ
        obtain ⟨m, hm'⟩ : ∃ m, G.length = m := ⟨_, rfl⟩
        have HM := Lib.hid hm'
        rw [hm'] at hG hgl
        clear hGG hm'
        have hRow : Hid (Row ((wr.alloc (.cells #[.int .i64 y.n, .int .i64 y.r, .int .i64 y.h] 55)).alloc (.cells #[.int .i64 y.n] 3)) (some ⟨wr.heap.size + 1, 0, none⟩) 1 (fun _ => .int .i64 y.n)) := Lib.hid (by
          have h := row_new (n := 1) (V := fun _ => .int .i64 y.n) (wr.alloc (.cells #[.int .i64 y.n, .int .i64 y.r, .int .i64 y.h] 55)) #[.int .i64 y.n] 3 (0, 0) (fun i hi => by obtain rfl : i = 0 := (by omega); rfl)
          rwa [show (wr.alloc (.cells #[.int .i64 y.n, .int .i64 y.r, .int .i64 y.h] 55)).heap.size = wr.heap.size + 1 by simp] at h)
        go_wp2_with (at_builtin; go_must (refine wp_app rfl (.tmp 34) (.tmp 37) _ rfl (w.heap.size + 1) 3 i0 _ 8 Try.underlying31 hi0 hz0 hz1 hz2 rfl u8 m (nov G) rfl ((hG.alloc _).alloc _) _ 1 _ (fun _ => .int .i64 y.n) rfl hRow.out (fun _ _ => rfl) ?c1 ?c2 ?c3 ?_))
        case c1 => unfold maxLen; omega
        case c2 => omega
        case c3 => simp; omega
        intro v' w2 hv2 hg
        have b3 : Below w.heap.size w w2 := (b2.alloc (by simp; omega) _).grown hg (by simp; omega) (fun q hq => by have := hG.lt q hq; omega)
        have hv3 := hv2.ext (U := nov (G ++ [y])) (fun q hq => by rw [← HM.out]; exact nov_snoc G y q (by rw [HM.out]; exact hq))
        have o2 : Own w2 w.heap.size 2 #[.int .i64 last] := grown_own hg ((o1.alloc _).alloc _) (fun e => by have := hG.lt _ e; omega)
        have HL2 : Hid ((G ++ [y]).length = m + 1) := Lib.hid (by rw [List.length_append, HM.out]; rfl)
        clear hG hv2 o1 c0 b2 d0 d1 d2 hg
        go_wp2_with fail
        exact ⟨⟨k + 1, by simp, by omega, by rw [HQ.out, HL2.out]; exact hv3, b3, o2⟩, by simp [intOf]; omega⟩
    · obtain rfl : k = n := by omega
      have hT : ∀ q, (Value.slice a l.length c).ownBlock = some q → q < w.heap.size := fun q e => (HT.out.blk q e).2
      have hne : (Value.slice a l.length c).ownBlock ≠ some w.heap.size := fun e => by have := hT _ e; omega
      have hd := drp_any base b me rk l (.slice a l.length c) 29 (.pointer (some ⟨w.heap.size, 0, none⟩)) (fun x => decide (x.h ≤ last)) (fun W => W.cell? ⟨w.heap.size, 0, none⟩ = some (.int .i64 last)) wr (enters_of Try.func29 (by kernel_rfl) rfl) (saysO _ _) (o1.cell 0) (fun W W' g h => (World.cell?_of_block (g.block w.heap.size (lt_of_cell h) (fun e => hne e.symm))).trans h) (HT.out.below bb)
      have HTT := Lib.hid hT
      have hG' : Mine wr (w.heap.size + 1) 3 u8 (goN last l).length (zval (goN last l)) := by
        rw [goN_len, HN.out]
        exact hG.ext (fun q hq => by rw [← goN_val last l q (by rw [HN.out]; exact hq), HN.out])
      have hlen : (goN last l).length ≤ 1000 := by rw [goN_len]; have := kept_len (fun x => decide (last < x.h)) l l.length; unfold goP; rw [HN.out] at this ⊢; omega
      have hbw := HBL.out
      have HS := Lib.hid hS
      clear hT hne hS hG
      go_wp2_with (first
        | (go_at_call 28; refine hd.mono ?_; rintro r w3 ⟨rfl, v3, t3, j3, e3⟩; have hG3 : Mine w3 (w.heap.size + 1) 3 u8 (goN last l).length (zval (goN last l)) := hG'.kept (fun q hq => (by
            by_cases e : u8.ownBlock = some q
            · exact .inl (j3.keep q (hG'.lt q e).2 (by omega) (fun e' => by have := HTT.out q e'; omega))
            · exact .inr e)))
        | (go_at_call 30; refine (HS.out (w.heap.size + 1) _ u8 (goN last l) w3 hG3 rfl hlen).mono ?_; rintro r w4 ⟨rfl, m4, g4⟩))
      go_ret
      have T3 := (Turn.of_below bb b (.slice a l.length c)).trans j3
      have hb3 : u8.ownBlock ≠ some b := fun e => by have := (hG'.lt _ e).1; omega
      refine ⟨u8, v3, rfl, m4, ⟨grown_own g4 t3.own hb3, t3.row.kept (fun q _ => ?_), t3.srt, t3.few, t3.low⟩, ⟨g4.os.trans T3.os, g4.tape.trans T3.tape, g4.output.trans T3.output, Nat.le_trans T3.size g4.size, fun q h1 h2 h3 => (g4.block q (Nat.lt_of_lt_of_le h1 T3.size) (fun e => by have := (hG'.lt _ e.symm).1; omega)).trans (T3.keep q h1 h2 h3), T3.own⟩⟩
      by_cases e : v3.ownBlock = some q
      · refine .inl (g4.block q (t3.row.lt q e).2 (fun e' => ?_))
        have := (hG'.lt _ e'.symm).1
        rw [e3] at e
        have := HTT.out q e
        omega
      · exact .inr e
end Go.Proofs.Ytjboilkbcajkcaa.Pa
