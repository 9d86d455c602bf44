/-
  Law AllocRoom: with as many slots as there are links all that have a way get theirs, one slot is too few for any; the call returns true. No condition.
-/
import Derived.Test.YtahcplddonipcaaGreatAlDeal2
import Derived.Test.YtahcplddonipcaaGreatAlRoomM
import Derived.Test.YtahcplddonipcaaGreatAlAwake
import Derived.Test.YtahcplddonipcaaGreatTopoMade
import Derived.Lib.MinMax
set_option maxRecDepth 100000
namespace Go.Proofs.YtahcplddonipcaaGreat.AllocRoom
set_option linter.unusedVariables false
open Go.RowKit Go.ChangeShapes Go.WideShapes Go.ChangeAt Go.Deep Lb Cl Ce Mi Al Tp Tr
theorem own : ownKnob Tryz.prog.godebug = none := by kernel_rfl
theorem laidOut : laidOutB Tryz.prog = true := by kernel_rfl

theorem ord_perm {R : Rk} (hs : ∀ x s, R x = some s → s ≤ 15) : (ordT R).Perm ((List.range 16).filter fun i => (R i).isSome) := by
  rw [← ordF_val, ← rnkF_val]
  exact (ordF_perm hs).map _
theorem ord_pos {R : Rk} (hs : ∀ x s, R x = some s → s ≤ 15) (h0 : R 0 = some 0) : (ordT R).length = ((ordT R).filter fun x => decide (x ≠ 0)).length + 1 ∧ (ordT R).length ≤ 16 := by
  have hp := ord_perm hs
  have e : ((List.range 16).filter fun i => (R i).isSome) = 0 :: ([1, 2, 3, 4, 5, 6, 7, 8, 9, 10, 11, 12, 13, 14, 15].filter fun i => (R i).isSome) := by
    show (0 :: [1, 2, 3, 4, 5, 6, 7, 8, 9, 10, 11, 12, 13, 14, 15]).filter _ = _
    rw [List.filter_cons_of_pos (by rw [h0]; rfl)]
  rw [e] at hp
  have h1 : ((0 :: ([1, 2, 3, 4, 5, 6, 7, 8, 9, 10, 11, 12, 13, 14, 15].filter fun i => (R i).isSome)).filter fun x => decide (x ≠ 0)) = [1, 2, 3, 4, 5, 6, 7, 8, 9, 10, 11, 12, 13, 14, 15].filter fun i => (R i).isSome := by
    rw [List.filter_cons_of_neg (by simp), List.filter_filter]
    refine List.filter_congr (fun x hx => ?_)
    have : x ≠ 0 := by
      intro e
      subst e
      revert hx
      decide
    simp [this]
  have h2 := (hp.filter (fun x => decide (x ≠ 0))).length_eq
  rw [h1] at h2
  refine ⟨by rw [hp.length_eq, h2, List.length_cons], ?_⟩
  rw [(ord_perm hs).length_eq]
  exact Nat.le_trans (List.length_filter_le _ _) (by simp)
def lenE (e : MapEntry) : Nat := lenV e.val
def sumE (S : List MapEntry) : Nat := (S.map lenE).sum
theorem sumE_snoc (S : List MapEntry) (e : MapEntry) : sumE (S ++ [e]) = sumE S + lenE e := by
  unfold sumE
  rw [List.map_append, List.sum_append]
  rfl
theorem sumE_perm {S T : List MapEntry} (h : S.Perm T) : sumE S = sumE T := (h.map _).sum_nat
theorem sum_filter (p : Nat → Bool) (g : Nat → Nat) (h : ∀ k, p k = false → g k = 0) : ∀ l : List Nat, ((l.filter p).map g).sum = (l.map g).sum
  | [] => rfl
  | x :: l => by
    rw [List.map_cons, List.sum_cons]
    cases hp : p x
    · rw [List.filter_cons_of_neg (by rw [hp]; decide), sum_filter p g h l, h x hp, Nat.zero_add]
    · rw [List.filter_cons_of_pos hp, List.map_cons, List.sum_cons, sum_filter p g h l]
theorem fm_sum {w : World} {bm : Nat} {vs : Nat → Value} {F : Hs} (h : Fm w bm vs F) {es : Array MapEntry} {clock : Nat} (hes : Es es clock (fun k => decide (F k ≠ [])) vs) : sumE es.toList = tot F := by
  have hv : ∀ k, k < 16 → lenV (vs k) = (F k).length := fun k hk => by
    obtain ⟨a, c, e, _⟩ := h.row k hk
    rw [e]
    rfl
  obtain ⟨g, hg⟩ : ∃ g : Value → Nat, ∀ k : Nat, g (kv k) = (F k).length := ⟨fun v => match v with | .int _ z => (F z.toNat).length | _ => 0, fun k => by unfold kv; simp⟩
  have h1 : es.toList.map lenE = (es.toList.map (·.key)).map g := by
    rw [List.map_map]
    refine List.map_congr_left (fun e he => ?_)
    obtain ⟨k, hk, _, e1, e2⟩ := hes.key e he
    show lenV e.val = g e.key
    rw [e1, e2, hg, hv k hk]
  have hp : (es.toList.map (·.key)).Perm (((List.range 16).filter fun k => decide (F k ≠ [])).map kv) := by
    refine (List.perm_ext_iff_of_nodup hes.kd (List.Pairwise.map kv (fun a b hab e => hab (kv_inj e)) (List.Pairwise.filter _ List.nodup_range))).2 (fun a => ?_)
    constructor
    · intro ha
      obtain ⟨x, hx, rfl⟩ := List.mem_map.1 ha
      obtain ⟨q, h1, h2, h3, _⟩ := hes.key x hx
      exact List.mem_map.2 ⟨q, List.mem_filter.2 ⟨List.mem_range.2 h1, h2⟩, h3.symm⟩
    · intro ha
      obtain ⟨q, hq, rfl⟩ := List.mem_map.1 ha
      obtain ⟨h1, h2⟩ := List.mem_filter.1 hq
      obtain ⟨x, hx, hx2⟩ := hes.all q (List.mem_range.1 h1) h2
      exact List.mem_map.2 ⟨x, hx, hx2⟩
  unfold sumE
  rw [h1, (hp.map g).sum_nat, List.map_map]
  have h2 : (g ∘ kv) = fun k => (F k).length := funext hg
  rw [h2]
  exact sum_filter _ _ (fun k hk => by
    have : F k = [] := by simpa using hk
    rw [this]
    rfl) _
theorem tot_srt (F : Hs) : tot (fun k => srtA (F k)) = tot F := by
  unfold tot
  congr 1
  exact List.map_congr_left (fun k _ => srtA_len _)
set_option maxHeartbeats 8000000 in
theorem body (x : Int) (a : Option Addr) (n c : Nat) (V : Nat → Value) (Cq : Nat → Tp.Cl) (least ch0 : Int) (w : World) (hn : n ≤ c) (hc : c ≤ maxLen) (hV : Row w a (n * 3) V)
    (hC : ∀ i, i < n → V (i * 3) = .bool (Cq i).f ∧ V (i * 3 + 1) = .int .i64 (Cq i).me ∧ V (i * 3 + 2) = .slice (Cq i).a (Cq i).n (Cq i).c ∧ (Cq i).ok w) :
    Calls Tryz.prog 5 #[.int .i64 x, .slice a n c, .int .i64 least, .int .i64 ch0] w fun r w' => r = .returned (.bool true) ∧ RowKit.Below w.heap.size w w' := by
  obtain ⟨n0, hn0, hn16⟩ : ∃ n0 : Nat, wrap64 ((IntKind.u64.wrap ch0).tmod 16) = (n0 : Int) ∧ n0 < 16 := by
    rw [IntKind.wrap_u64, Int.tmod_eq_emod_of_nonneg (Int.emod_nonneg _ (by decide))]
    refine ⟨((ch0 % 18446744073709551616) % 16).toNat, ?_, by omega⟩
    rw [IntWalk.wrap64_in _ ⟨by omega, by omega⟩]
    omega
  obtain ⟨ch, hch⟩ : ∃ q, n0 + 1 = q := ⟨_, rfl⟩
  have e1 : IntKind.i64.wrap (1 + (n0 : Int)) = (ch : Int) := by rw [IntWalk.i64_in _ (by omega)]; omega
  have hc16 : 1 ≤ ch ∧ ch ≤ 16 := by omega
  clear hch
  go_enter Tryz.func5, Tryz.ntmps5
  go_wp2_with fail
  refine (made_any x a n c V Cq _ hn hc hV hC).mono ?_
  rintro r w1 ⟨g1, g2, N, Q, rfl, h1, _, hF0, z1, z2, b1⟩
  go_upto_region 5 with (fail)
  rw [hn0]
  go_wp2_with fail
  refine (build_any g1 N Q least _ hF0 h1).mono ?_
  rintro r w2 ⟨t, R, rfl, ht, hT, hFI, hsm, b2⟩
  have b3 := b1.trans (b2.mono b1.size)
  have HFS := Lib.hid (firsts_of hF0.2.1 hFI hsm)
  have HR0 := Lib.hid hFI.root
  have HSM := Lib.hid hsm
  obtain ⟨hM1, hM16⟩ := ord_pos hsm hFI.root
  have TT : ∀ W, RowKit.Below w2.heap.size w2 W → Tre W t R (parT N Q least R) := fun W hW => hT.below hW
  have hPAR : ∀ y ∈ ordT R, y ≠ 0 → y < 16 ∧ (fun z => (parT N Q least R z).headD 0) y < 16 ∧ y ≠ (fun z => (parT N Q least R z).headD 0) y := fun y hy hy0 => by
    have hm := (ord_perm hsm).mem_iff.1 hy
    obtain ⟨h1, h2⟩ := List.mem_filter.1 hm
    obtain ⟨r, hr⟩ := Option.isSome_iff_exists.1 h2
    obtain ⟨s, rfl⟩ : ∃ s, r = s + 1 := by
      rcases Nat.eq_zero_or_pos r with e | e
      · subst e
        exact absurd (hFI.only y hr) hy0
      · exact ⟨r - 1, by omega⟩
    obtain ⟨p, l, hp1, hp2, hp3⟩ := HFS.out.first y s hr
    have e : (fun z => (parT N Q least R z).headD 0) y = p := by dsimp only; rw [hp1]; rfl
    rw [e]
    refine ⟨List.mem_range.1 h1, hp3, fun e2 => ?_⟩
    subst e2
    rw [hr] at hp2
    injection hp2 with hp2
    omega
  obtain ⟨par, hpar⟩ : ∃ par : Nat → Nat, (fun z => (parT N Q least R z).headD 0) = par := ⟨_, rfl⟩
  rw [hpar] at hPAR
  obtain ⟨m, hm⟩ : ∃ q, ((ordT R).filter fun x => decide (x ≠ 0)).length = q := ⟨_, rfl⟩
  rw [hm] at hM1
  have hm15 : m ≤ 15 := by omega
  obtain ⟨mx, hmx⟩ : ∃ q, max m 1 = q := ⟨_, rfl⟩
  obtain ⟨L1, hL1⟩ : ∃ q, 2 * mx = q := ⟨_, rfl⟩
  have hA := all_dealt (f := 0) (len := L1) (chans := ch) (n := m) (par := par) (by decide) (by omega) hc16 hm15 (by omega) (ordT R) hPAR (by rw [hm]; exact Nat.le_refl _)
  have hB := none_dealt (f := 0) (chans := ch) (par := par) hc16.1 (ordT R) hPAR
  rw [hm] at hA
  obtain ⟨F1, hF1⟩ : ∃ q, (dealF 0 L1 ch par (ordT R)).1 = q := ⟨_, rfl⟩
  have hA1 : dealF 0 L1 ch par (ordT R) = (F1, []) := Prod.ext hF1 hA.1
  obtain ⟨O2, hO2⟩ : ∃ q, (dealF 0 1 ch par (ordT R)).2 = q := ⟨_, rfl⟩
  have hB1 : dealF 0 1 ch par (ordT R) = (fun _ => [], O2) := Prod.ext hB.1 hO2
  have hOl : O2.length = m := by rw [← hO2, hB.2, hm]
  have hT1 : tot F1 = 4 * m := by rw [← hF1]; exact hA.2.2
  have hsn : (fun k : Nat => srtA ((fun _ : Nat => ([] : List C)) k)) = fun _ => [] := by
    funext k
    exact srtA_nil.2 rfl
  have PD1 : ∀ W, RowKit.Below w2.heap.size w2 W → Calls Tryz.prog 7 #[.pointer (some ⟨t, 0, none⟩), .int .i64 0, .int .i64 (L1 : Nat), .int .i64 (ch : Nat)] W fun r w' => ∃ bm vs A c, r = .returned (.tuple #[.map (some bm), .slice A 0 c]) ∧ Fm w' bm vs (fun k => srtA (F1 k)) ∧ RowKit.Below W.heap.size W w' := fun W hW => by
    have := deal_any t R (parT N Q least R) 0 L1 ch W (TT W hW) HFS.out HR0.out HSM.out (fun z => Nat.le_trans (par_len N Q least R z) (by decide)) hM16 (by decide) (by omega) hc16
    rw [hpar] at this
    unfold DealPost at this
    rw [hA1] at this
    refine this.mono ?_
    rintro r w' ⟨bm, vs, A, c, h1, h2, _, _, _, h3⟩
    exact ⟨bm, vs, A, c, h1, h2, h3⟩
  have PD2 : ∀ W, RowKit.Below w2.heap.size w2 W → Calls Tryz.prog 7 #[.pointer (some ⟨t, 0, none⟩), .int .i64 0, .int .i64 1, .int .i64 (ch : Nat)] W fun r w' => ∃ bm vs A c, r = .returned (.tuple #[.map (some bm), .slice A m c]) ∧ Fm w' bm vs (fun _ => []) ∧ RowKit.Below W.heap.size W w' := fun W hW => by
    have := deal_any t R (parT N Q least R) 0 1 ch W (TT W hW) HFS.out HR0.out HSM.out (fun z => Nat.le_trans (par_len N Q least R z) (by decide)) hM16 (by decide) (by omega) hc16
    rw [hpar] at this
    unfold DealPost at this
    rw [hB1] at this
    refine this.mono ?_
    rintro r w' ⟨bm, vs, A, c, h1, h2, _, _, _, h3⟩
    dsimp only at h1 h2
    rw [hOl] at h1
    rw [hsn] at h2
    exact ⟨bm, vs, A, c, h1, h2, h3⟩
  have PD1 := Lib.hid PD1
  have PD2 := Lib.hid PD2
  have HT1 := Lib.hid hT1
  clear hFI hsm h1 b1 b2 hT hF0 z1 z2 hPAR hpar hA hB hm e1 hn0 hF1 hA1 hO2 hB1 hOl hT1 hsn
  go_wp2_with fail
  refine (order_any t R _ _ (TT _ (Below.refl _ _)) HR0.out HSM.out).mono ?_
  rintro r w3 ⟨A3, c3, rfl, _, b4⟩
  rw [hM1]
  have b5 := b3.trans (b4.mono b3.size)
  have e2 : IntKind.i64.wrap (((m + 1 : Nat) : Int) - 1) = (m : Int) := by rw [IntWalk.i64_in _ (by omega)]; omega
  have e3 : max (m : Int) 1 = (mx : Int) := by omega
  have e3' : max (1 : Int) (m : Int) = (mx : Int) := by omega
  have e4 : IntKind.i64.wrap (2 * (mx : Int)) = (L1 : Int) := by rw [IntWalk.i64_in _ (by omega)]; omega
  have e5 : IntKind.i64.wrap ((m : Int) + 1 - 1) = (m : Int) := by rw [IntWalk.i64_in _ (by omega)]; omega
  have e6 : (m : Int) + 1 - 1 = (m : Int) := by omega
  clear hmx hL1 hM1
  go_wp2_with fail
  refine (PD1.out w3 b4).mono ?_
  rintro r w4 ⟨bm1, vs1, A4, c4, rfl, hFm, b6⟩
  have b7 := b5.trans (b6.mono b5.size)
  have b46 := b4.trans (b6.mono b4.size)
  clear PD1 e2 e3 e3' e4 e5 e6
  go_wp2_with fail
  refine (PD2.out w4 b46).mono ?_
  rintro r w5 ⟨bm2, vs2, A5, c5, rfl, hFm2, b8⟩
  have b9 := b7.trans (b8.mono b7.size)
  have hFm := hFm.below b8
  have hl2 : ∀ ty, (Builtin.len_ #[28] ty #[.map (some bm2)]).run Tryz.prog w5 = .ok (.int .i64 0) w5 := fun ty => by
    have := hFm2.ms.len ty
    have e : ((List.range 16).filter fun k => decide ((fun _ : Nat => ([] : List C)) k ≠ [])).length = 0 := by decide
    rw [e] at this
    exact this
  have hmm : ((m : Int) != (m : Int)) = false := by simp
  obtain ⟨es, clock, hmap, hes⟩ := id hFm.ms
  have hsum := fm_sum hFm hes
  rw [tot_srt, HT1.out] at hsum
  have HSUM := Lib.hid hsum
  have HFM := Lib.hid hFm
  have HES := Lib.hid hes
  have hrange := run_range_map (P := Tryz.prog) w5 28 3 34 bm1 es clock (by kernel_rfl) hmap
  have b10 := b9.alloc b9.size (.mapIter (some bm1) clock #[] clock)
  have hb5 := (Below.refl w5.heap.size w5).alloc (Nat.le_refl _) (.mapIter (some bm1) clock #[] clock)
  have hbm := iter_lt hmap
  obtain ⟨r, hr⟩ : ∃ q, w5.heap.size = q := ⟨_, rfl⟩
  have hit0 : (w5.alloc (.mapIter (some bm1) clock #[] clock)).heap[r]? = some (.mapIter (some bm1) clock #[] clock) := by rw [← hr]; exact heap_alloc_new w5 _
  have hWr : w.heap.size ≤ r := by rw [← hr]; exact b9.size
  have HR := Lib.hid hr
  rw [hr] at hrange hbm hb5
  clear PD2 hFm2 hFm hes hsum b3 b4 b5 b6 b7 b8 b46 TT hr
  go_wp2_with fail
  generalize w5.alloc (.mapIter (some bm1) clock #[] clock) = w6 at *
  clear hrange hl2 hmm
  go_loopw [18] (fun v wz => ∃ (S : List MapEntry) (seen : Array Nat) (c0 : Nat), v = .int .i64 ((sumE S : Nat) : Int) ∧ wz.heap[r]? = some (.mapIter (some bm1) clock seen c0) ∧ clock ≤ c0 ∧ Hid ((S ++ (leftOf es seen).toList).Perm es.toList) ∧ RowKit.Below r w5 wz ∧ RowKit.Below w.heap.size w wz) (fun _ wz => stillIn es r wz)
  case atStart => exact ⟨[], #[], clock, rfl, hit0, Nat.le_refl _, Lib.hid (by rw [left_all]; exact List.Perm.refl _), hb5, b10⟩
  case round =>
    clear hb5 b10 hit0
    obtain ⟨S, seen, c0, rfl, hit, hc0, HSL, bz, bW⟩ := hrel
    have hst : stillIn es r wr = (leftOf es seen).size := by unfold stillIn World.iterSeen; rw [hit]
    have HST := Lib.hid hst
    have hmapr : wr.heap[bm1]? = some (.map es clock) := (bz.block bm1 hbm).trans hmap
    clear hst
    go_wp2_with (at_next; refine wpList_next_raw rfl (.tmp 76) rfl r bm1 clock c0 seen es clock rfl hit hmapr HES.out.old hc0 ?_ ?_)
    · intro hdone
      have hl0 : (leftOf es seen).toList = [] := by
        rw [← List.length_eq_zero_iff]
        simpa using hdone
      have hS := HSL.out
      rw [hl0, List.append_nil] at hS
      have hs4 : sumE S = 4 * m := by rw [sumE_perm hS]; exact HSUM.out
      have e7 : IntKind.i64.wrap (4 * (m : Int)) = ((sumE S : Nat) : Int) := by rw [IntWalk.i64_in _ (by omega)]; omega
      obtain ⟨z, hz⟩ : ∃ z, sumE S = z := ⟨_, rfl⟩
      rw [hz] at e7 ⊢
      have e8 : ((z : Int) == (z : Int)) = true := by simp
      clear hS hl0 hdone hit hmapr hs4 hz
      go_wp2_with fail
      refine (Al.awake_any _).mono ?_
      rintro r9 w9 ⟨rfl, b11⟩
      go_wp2_with fail
      go_ret
      exact ⟨rfl, bW.trans (b11.mono bW.size)⟩
    · intro e he w7 hit7 j7
      have he := Array.mem_toList_iff.2 he
      obtain ⟨hme, _⟩ := mem_left he
      have hstep := left_step HES.out.nd he
      have hmap7 : w7.heap[bm1]? = some (.map es clock) := (j7.block bm1 (iter_lt hmapr) (by omega)).trans hmapr
      have hen := run_entry_at (P := Tryz.prog) w7 r bm1 clock seen es clock e hit7 hmap7 hme HES.out.nd
      obtain ⟨k, hk16, _, hkey, hval⟩ := HES.out.key e hme
      obtain ⟨a8, c8, hv, _, _, _⟩ := HFM.out.row k hk16
      have hperm := (hstep.append_left S).trans HSL.out
      have hle : lenE e = (srtA (F1 k)).length := by
        unfold lenE
        rw [hval, hv]
        rfl
      have hbnd : sumE S + lenE e ≤ 60 := by
        have h1 := sumE_perm hperm
        rw [HSUM.out] at h1
        have h2 : sumE (S ++ e :: (leftOf es (seen.push e.born)).toList) = sumE S + (lenE e + sumE (leftOf es (seen.push e.born)).toList) := by
          unfold sumE
          rw [List.map_append, List.sum_append, List.map_cons, List.sum_cons]
        omega
      have hsn := sumE_snoc S e
      rw [hkey, hval, hv] at hen ⊢
      unfold kv at hen ⊢
      rw [hle] at hbnd hsn
      obtain ⟨l8, hl8⟩ : ∃ q, (srtA (F1 k)).length = q := ⟨_, rfl⟩
      rw [hl8] at hen hbnd hsn ⊢
      obtain ⟨z, hz⟩ : ∃ z, sumE S = z := ⟨_, rfl⟩
      rw [hz] at hbnd hsn ⊢
      have e7 : IntKind.i64.wrap ((z : Int) + (l8 : Int)) = ((z + l8 : Nat) : Int) := by rw [IntWalk.i64_in _ (by omega)]; omega
      have HSN := Lib.hid hsn
      have HSH := Lib.hid (left_shrinks es seen e he)
      have HPERM := Lib.hid hperm
      have b7 := j7.below bW hWr (Nat.le_trans hWr (Nat.le_of_lt (iter_lt hit)))
      have b7' := j7.below bz (Nat.le_refl r) (Nat.le_of_lt (iter_lt hit))
      clear hkey hval hv hme hmap7 hmapr hit j7 hstep hperm hle hsn hl8 hz bz bW
      go_wp2_with fail
      refine ⟨⟨S ++ [e], seen.push e.born, clock, ?_, hit7, Nat.le_refl _, Lib.hid ?_, b7', b7⟩, ?_⟩
      · rw [HSN.out]
        first | rfl | simp
      · rw [List.append_assoc]
        exact HPERM.out
      · rw [HST.out]
        unfold stillIn World.iterSeen
        rw [hit7]
        exact HSH.out
theorem walk (H : Type) (enc : TypeId × Value → H) : Walk H enc Tryz.prog 5 Tryz.f5 := by
  intro W base args ds p hval hA
  rw [Tryz.params5] at hA hval
  obtain ⟨v0, vs0, d0, ds0, p0, q0, e0, rfl, rfl, h0, hA⟩ := trodAll_cons hA
  obtain ⟨v1, vs1, d1, ds1, p1, q1, rfl, rfl, rfl, h1, hA⟩ := trodAll_cons hA
  obtain ⟨v2, vs2, d2, ds2, p2, q2, rfl, rfl, rfl, h2, hA⟩ := trodAll_cons hA
  obtain ⟨v3, vs3, d3, ds3, p3, q3, rfl, rfl, rfl, h3, hA⟩ := trodAll_cons hA
  obtain ⟨rfl, rfl, rfl⟩ := trodAll_nil hA
  obtain ⟨l⟩ := args
  dsimp only at e0
  subst e0
  obtain ⟨x, rfl, rfl, rfl, _⟩ := open_int Tryz.underlying3 (hval 0 _ v0 rfl rfl) h0
  obtain ⟨a, n, c, V, C, rfl, hn, hm, hV, hC⟩ := open_calls (hval 1 _ v1 rfl rfl) h1
  obtain ⟨y, rfl, rfl, rfl, _⟩ := open_int Tryz.underlying3 (hval 2 _ v2 rfl rfl) h2
  obtain ⟨z, rfl, rfl, rfl, _⟩ := open_int Tryz.underlying3 (hval 3 _ v3 rfl rfl) h3
  exact body x a n c V C y z W hn hm hV hC

set_option maxRecDepth 100000 in
theorem lifted (os : Os) (started : os.Started) (H : Type) (enc : TypeId × Value → H) :
    ReturnsInHanded {} Tryz.checked os 5 .any (Rows.allocRoomSpec.pre6 enc Tryz.prog Tryz.f5 Rows.allocRoomRow.domain false) (Rows.allocRoomSpec.post enc Tryz.prog Tryz.f5 false true false false) :=
  returnsInHanded_of_change (C := Tryz.checked) own started (by kernel_rfl) Tryz.func5
    (ChangeSpec.witness6 (enc := enc) (C := Tryz.checked) false ⟨#[], #[.int .i64 0, .slice none 0 0, .int .i64 0, .int .i64 0], []⟩ 8 (by kernel_rfl) (by kernel_rfl) (by kernel_rfl) (by kernel_rfl))
    fun W base args ds gs before hval hW _ _ => step_of_walk laidOut (by rw [Tryz.params5]; exact of_decide_eq_true (by kernel_rfl)) (by kernel_rfl) Tryz.underlying4 rfl
      (fun ds h => by
        rw [Tryz.params5] at h
        match ds, h with
        | [_, _, _, _], _ => rfl) (walk H enc) W base args ds gs before hval hW

theorem holds : Rows.AllocRoomSaid :=
  OpenClaim.holds_of_wide 5 Tryz.f5 rfl rfl rfl rfl rfl rfl rfl ⟨rfl, rfl, rfl, rfl, rfl⟩ rfl rfl rfl rfl rfl (by kernel_rfl) Tryz.func5 (by kernel_rfl)
    (of_decide_eq_true (by kernel_rfl)) (by unfold Func.isWrapper; first | (rw [if_pos (by decide +kernel)]; kernel_rfl) | (rw [if_neg (by decide +kernel)]; exact ⟨rfl, rfl⟩))
    (fun os started H enc _ => lifted os started H enc)
#print axioms holds
end Go.Proofs.YtahcplddonipcaaGreat.AllocRoom
