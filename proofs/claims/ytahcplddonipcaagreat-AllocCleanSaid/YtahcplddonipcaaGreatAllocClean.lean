/-
  Law AllocClean: what Deal tells is clean, each node has one cell in a slot, each place holds one link, and none is left out but who has no link; the call returns true. No condition.
-/
import Derived.Test.YtahcplddonipcaaGreatAlDeal2
import Derived.Test.YtahcplddonipcaaGreatAlNeat4
import Derived.Test.YtahcplddonipcaaGreatAlAwake
import Derived.Test.YtahcplddonipcaaGreatTopoMade
set_option linter.unusedSimpArgs false
set_option maxRecDepth 100000
namespace Go.Proofs.YtahcplddonipcaaGreat.AllocClean
set_option linter.unusedVariables false
set_option linter.unusedSimpArgs false
open Go.RowKit Go.ChangeShapes Go.WideShapes Go.ChangeAt Go.Deep Lb Cl Ce Mi Al Tp Tr
theorem own : ownKnob Tryz.prog.godebug = none := by kernel_rfl
theorem laidOut : laidOutB Tryz.prog = true := by kernel_rfl

def keyN (e : MapEntry) : Nat := match e.key with
  | .int _ z => z.toNat
  | _ => 0
theorem keyN_kv {e : MapEntry} {k : Nat} (h : e.key = kv k) : keyN e = k := by
  unfold keyN
  rw [h]
  unfold kv
  simp
def keysN (S : List MapEntry) : List Nat := S.map keyN
theorem keysN_all {es : Array MapEntry} {clock : Nat} {G : Hs} {us : Nat → Value} (h : Es es clock (fun k => decide (G k ≠ [])) us) : (keysN es.toList).Nodup ∧ ∀ k, k ∈ keysN es.toList ↔ k < 16 ∧ G k ≠ [] := by
  constructor
  · unfold keysN List.Nodup
    have h0 := h.kd
    unfold List.Nodup at h0
    rw [List.pairwise_map] at h0 ⊢
    refine (List.Pairwise.and_mem.1 h0).imp (fun {a b} q => ?_)
    obtain ⟨ha, hb, hab⟩ := q
    obtain ⟨i, _, _, ea, _⟩ := h.key a ha
    obtain ⟨j, _, _, eb, _⟩ := h.key b hb
    rw [keyN_kv ea, keyN_kv eb]
    intro e
    subst e
    exact hab (ea.trans eb.symm)
  · intro k
    unfold keysN
    rw [List.mem_map]
    constructor
    · rintro ⟨e, he, rfl⟩
      obtain ⟨i, hi, hS, ei, _⟩ := h.key e he
      rw [keyN_kv ei]
      exact ⟨hi, by simpa using hS⟩
    · rintro ⟨hk, hG⟩
      obtain ⟨e, he, ek⟩ := h.all k hk (by simpa using hG)
      exact ⟨e, he, keyN_kv ek⟩
def entN (G : Hs) (e : MapEntry) : Int × List C := (((keyN e : Nat) : Int), G (keyN e))
theorem ent_rows (G : Hs) (S : List MapEntry) : S.map (entN G) = rowsOf G (keysN S) := by
  unfold rowsOf keysN
  rw [List.map_map]
  rfl
theorem fm_map {w : World} {bm : Nat} {us : Nat → Value} {G : Hs} (h : Fm w bm us G) : ∃ es clock, MapOf w bm es clock (entN G) ∧ Es es clock (fun k => decide (G k ≠ [])) us := by
  obtain ⟨es, clock, hb, hes⟩ := h.ms
  refine ⟨es, clock, ⟨hb, hes.old, hes.nd, fun e he => ?_, fun e he => ?_⟩, hes⟩
  · obtain ⟨k, _, _, ek, _⟩ := hes.key e he
    unfold entN
    rw [keyN_kv ek]
    exact ek
  · obtain ⟨k, hk, _, ek, ev⟩ := hes.key e he
    unfold entN
    rw [keyN_kv ek]
    obtain ⟨a, c, h1, h2, h3, h4⟩ := h.row k hk
    exact ⟨a, c, ev.trans h1, h2, h3, h4⟩
theorem vis_len (G : Hs) (B : Nat) : ∀ ks : List Nat, (∀ k ∈ ks, (G k).length ≤ B) → (visO G ks).length ≤ ks.length * B
  | [], _ => Nat.zero_le _
  | k :: ks, h => by
    have ih := vis_len G B ks (fun q hq => h q (by simp [hq]))
    have h1 := h k (by simp)
    have e : visO G (k :: ks) = ((G k).map fun c => (k, c)) ++ visO G ks := rfl
    rw [e, List.length_append, List.length_map, List.length_cons, Nat.succ_mul]
    omega
theorem vis_few {G : Hs} {es S T : List MapEntry} (h16 : ∀ k ∈ keysN es, k < 16) (hn : (keysN es).Nodup) (hp : (S ++ T).Perm es) (hl : ∀ k, k < 16 → (G k).length ≤ 40) : (visO G (keysN S)).length ≤ 640 := by
  have h1 : (keysN (S ++ T)).Nodup := (hp.map keyN).nodup_iff.2 hn
  have h2 : (keysN S).Nodup := by
    unfold keysN at h1 ⊢
    rw [List.map_append, List.nodup_append] at h1
    exact h1.1
  have h3 : ∀ k ∈ keysN S, k < 16 := fun k hk => h16 k ((hp.map keyN).mem_iff.1 (by rw [List.map_append]; exact List.mem_append_left _ hk))
  have h4 := nodup_le _ (List.range 16) h2 (fun k hk => List.mem_range.2 (h3 k hk))
  rw [List.length_range] at h4
  have h5 := vis_len G 40 (keysN S) (fun k hk => hl k (h3 k hk))
  omega
theorem vis_next (V0 : List (Nat × C)) (G : Hs) (k t : Nat) (ht : t < (G k).length) : V0 ++ ((G k).take (t + 1)).map (fun c => (k, c)) = (V0 ++ ((G k).take t).map fun c => (k, c)) ++ [(k, at_ (G k) t)] := by
  rw [List.take_add_one, List.map_append, List.append_assoc, List.getElem?_eq_getElem ht]
  unfold at_
  rw [List.getD_eq_getElem?_getD, List.getElem?_eq_getElem ht]
  rfl
/-- A cell is the other end. -/
def mtB (k s cn zo : Int) (d : C) : Bool := d.s == s && (d.c == cn && (d.p == k && (Go.bits .and .i64 d.o 3 == Go.bits .xor .i64 (Go.bits .and .i64 zo 3) 3)))
theorem mt_there {G : Hs} {f : Int} {len chans k p s cn : Nat} {zo zf : Int} (h : Neat G f len chans) (hk : k < 16) (hz : (⟨zf, s, cn, zo, p⟩ : C) ∈ G k) : (G p).any (mtB k s cn zo) = true := by
  obtain ⟨y, d, hy, _, hd, e1, e2, e3, e4, e5⟩ := h.mate k hk _ hz
  have e1 : (p : Int) = (y : Int) := e1
  have : p = y := by omega
  subst this
  rw [List.any_eq_true]
  refine ⟨d, hd, ?_⟩
  unfold mtB
  have e3 : d.s = (s : Int) := e3
  have e4 : d.c = (cn : Int) := e4
  rw [e2, e3, e4]
  have e6 : Go.bits .and .i64 d.o 3 = Go.bits .xor .i64 (Go.bits .and .i64 zo 3) 3 := by
    rcases e5 with ⟨h1, h2⟩ | ⟨h1, h2⟩
    · have h1 : Go.bits .and .i64 zo 3 = 1 := h1
      have h2 : Go.bits .and .i64 d.o 3 = 2 := h2
      rw [h1, h2]
      decide
    · have h1 : Go.bits .and .i64 zo 3 = 2 := h1
      have h2 : Go.bits .and .i64 d.o 3 = 1 := h2
      rw [h1, h2]
      decide
  rw [e6]
  simp
theorem any_next {l : List C} {q : C → Bool} {t : Nat} (ht : t < l.length) : (l.take (t + 1)).any q = ((l.take t).any q || q (at_ l t)) := by
  rw [List.take_add_one, List.any_append, List.getElem?_eq_getElem ht]
  unfold at_
  rw [List.getD_eq_getElem?_getD, List.getElem?_eq_getElem ht]
  simp
theorem leftN_take (F : Hs) (par : Nat → Nat) (l : List Nat) {k : Nat} (hk : k < l.length) : leftN F par (l.take (k + 1)) = leftN F par (l.take k) + (if l.getD k 0 = 0 then 0 else 1 - (F (l.getD k 0)).countP (isUp (par (l.getD k 0)))) := by
  unfold leftN
  rw [List.take_add_one, List.getElem?_eq_getElem hk, List.map_append, List.sum_append, List.getD_eq_getElem?_getD, List.getElem?_eq_getElem hk]
  simp
theorem leftN_le (F : Hs) (par : Nat → Nat) : ∀ l : List Nat, leftN F par l ≤ l.length
  | [] => Nat.le_refl _
  | n :: l => by
    have ih := leftN_le F par l
    unfold leftN at ih ⊢
    rw [List.map_cons, List.sum_cons, List.length_cons]
    by_cases h : n = 0
    · rw [if_pos h]; omega
    · rw [if_neg h]; omega
theorem count_next {l : List C} {q : C → Bool} {t : Nat} (ht : t < l.length) : (l.take (t + 1)).countP q = (l.take t).countP q + (if q (at_ l t) = true then 1 else 0) := by
  rw [List.take_add_one, List.countP_append, List.getElem?_eq_getElem ht]
  unfold at_
  rw [List.getD_eq_getElem?_getD, List.getElem?_eq_getElem ht]
  simp [List.countP_cons]
theorem srtA_perm (l : List C) : (srtA l).Perm l := List.mergeSort_perm _ _
set_option maxHeartbeats 8000000 in
theorem body (x : Int) (a : Option Addr) (n c : Nat) (V : Nat → Value) (Cq : Nat → Tp.Cl) (least len0 ch0 : Int) (w : World) (hn : n ≤ c) (hc : c ≤ maxLen) (hV : Row w a (n * 3) V)
    (hC : ∀ i, i < n → V (i * 3) = .bool (Cq i).f ∧ V (i * 3 + 1) = .int .i64 (Cq i).me ∧ V (i * 3 + 2) = .slice (Cq i).a (Cq i).n (Cq i).c ∧ (Cq i).ok w) :
    Calls Tryz.prog 4 #[.int .i64 x, .slice a n c, .int .i64 least, .int .i64 len0, .int .i64 ch0] w fun r w' => r = .returned (.bool true) ∧ RowKit.Below w.heap.size w w' := by
  obtain ⟨n0, hn0, hn40⟩ : ∃ n0 : Nat, wrap64 ((IntKind.u64.wrap len0).tmod 40) = (n0 : Int) ∧ n0 < 40 := by
    rw [IntKind.wrap_u64, Int.tmod_eq_emod_of_nonneg (Int.emod_nonneg _ (by decide))]
    refine ⟨((len0 % 18446744073709551616) % 40).toNat, ?_, by omega⟩
    rw [IntWalk.wrap64_in _ ⟨by omega, by omega⟩]
    omega
  obtain ⟨m0, hm0, hm16⟩ : ∃ m0 : Nat, wrap64 ((IntKind.u64.wrap ch0).tmod 16) = (m0 : Int) ∧ m0 < 16 := by
    rw [IntKind.wrap_u64, Int.tmod_eq_emod_of_nonneg (Int.emod_nonneg _ (by decide))]
    refine ⟨((ch0 % 18446744073709551616) % 16).toNat, ?_, by omega⟩
    rw [IntWalk.wrap64_in _ ⟨by omega, by omega⟩]
    omega
  obtain ⟨L, hL⟩ : ∃ q, n0 + 1 = q := ⟨_, rfl⟩
  obtain ⟨ch, hch⟩ : ∃ q, m0 + 1 = q := ⟨_, rfl⟩
  have e1 : IntKind.i64.wrap (1 + (n0 : Int)) = (L : Int) := by rw [IntWalk.i64_in _ (by omega)]; omega
  have e2 : IntKind.i64.wrap (1 + (m0 : Int)) = (ch : Int) := by rw [IntWalk.i64_in _ (by omega)]; omega
  have hL40 : 1 ≤ L ∧ L ≤ 40 := by omega
  have hc16 : 1 ≤ ch ∧ ch ≤ 16 := by omega
  clear hL hch
  go_enter Tryz.func4, Tryz.ntmps4
  go_wp2_with fail
  refine (made_any x a n c V Cq _ hn hc hV hC).mono ?_
  rintro r w1 ⟨g1, g2, N, Q, rfl, h1, _, hF0, z1, z2, b1⟩
  go_upto_region 5 with (fail)
  rw [hn0, hm0]
  go_wp2_with fail
  refine (build_any g1 N Q least _ hF0 h1).mono ?_
  rintro r w2 ⟨t, R, rfl, ht, hT, hFI, hsm, b2⟩
  have b3 := b1.trans (b2.mono b1.size)
  have HFS := Lib.hid (firsts_of hF0.2.1 hFI hsm)
  have HR0 := Lib.hid hFI.root
  have HSM := Lib.hid hsm
  have hO := ordN_len hsm
  have hfp := first_par HFS.out hsm
  have PD := deal_any t R (parT N Q least R) 1 L ch w2 hT HFS.out HR0.out HSM.out (fun z => Nat.le_trans (par_len N Q least R z) (by decide)) hO (by decide) (by omega) hc16
  unfold DealPost at PD
  obtain ⟨hNE, hUP⟩ := deal_neat (f := 1) (len := L) (chans := ch) (by decide) (by omega) hc16 (ordT R) (ordN_nodup hsm) hfp
  obtain ⟨hsub, hne⟩ := outN 1 L ch (fun n => (parT N Q least R n).headD 0) (ordT R)
  obtain ⟨par, hpar⟩ : ∃ par : Nat → Nat, (fun z => (parT N Q least R z).headD 0) = par := ⟨_, rfl⟩
  rw [hpar] at PD hNE hUP hsub hne
  obtain ⟨F1, hF1⟩ : ∃ q, (dealF 1 L ch par (ordT R)).1 = q := ⟨_, rfl⟩
  obtain ⟨L1, hL1⟩ : ∃ q, (dealF 1 L ch par (ordT R)).2 = q := ⟨_, rfl⟩
  rw [hF1] at hNE
  rw [hL1] at hsub hne
  simp only [hF1, hL1] at PD hUP
  have hGN : Neat (fun k => srtA (F1 k)) 1 L ch := neat_perm hNE (fun k => srtA_perm _)
  have hGU : ∀ n, n ≠ 0 → Up (fun k => srtA (F1 k)) par (ordT R) L1 n := fun n h0 => ⟨by
    rw [(srtA_perm (F1 n)).countP_eq]
    exact (hUP n h0).up, by
    rw [(srtA_perm (F1 n)).countP_eq]
    exact (hUP n h0).dn⟩
  have hleft := leftN_all (ordN_nodup hsm) (hsub.nodup (ordN_nodup hsm)) (fun q hq => ⟨hsub.subset hq, hne q hq⟩) hGU
  obtain ⟨G, hG⟩ : ∃ G : Hs, (fun k => srtA (F1 k)) = G := ⟨_, rfl⟩
  rw [hG] at hGN hGU hleft PD
  have HGN := Lib.hid hGN
  have HGU := Lib.hid hGU
  have HLEFT := Lib.hid hleft
  have TT : ∀ W, RowKit.Below w2.heap.size w2 W → Tre W t R (parT N Q least R) := fun W hW => hT.below hW
  have HTT := Lib.hid TT
  clear hNE hUP hsub hne hF1 hL1 hGN hGU hleft hG TT hfp e1 e2 hn0 hm0 hn40 hm16 h1 b1 b2 hT hF0 hFI hsm z1 z2 ht
  go_wp2_with fail
  refine PD.mono ?_
  rintro r w3 ⟨bm, us, A, c3, rfl, hFm, _, _, _, b4⟩
  have b5 := b3.trans (b4.mono b3.size)
  have hb23 := b4
  obtain ⟨es, clock, hMO, hes⟩ := fm_map hFm
  obtain ⟨hkn, hkm⟩ := keysN_all hes
  have hk16 : ∀ k ∈ keysN es.toList, k < 16 := fun k hk => ((hkm k).1 hk).1
  have hcl := neat_clean HGN.out (by decide) (by omega) hc16.2 (fun k hk => Nat.le_trans (neat_len HGN.out (hk16 k hk)) (by omega)) hk16 hkn
  rw [← ent_rows] at hcl
  have htot : (allO (es.toList.map (entN G))).length ≤ 1000000 := by
    rw [ent_rows]
    have h1 := rows_len G 40 (keysN es.toList) (fun k hk => Nat.le_trans (neat_len HGN.out (hk16 k hk)) hL40.2)
    have h2 := nodup_le _ (List.range 16) hkn (fun k hk => List.mem_range.2 (hk16 k hk))
    rw [List.length_range] at h2
    omega
  have PC := clean_any bm es clock (entN G) w3 hMO htot
  rw [hcl] at PC
  have hmb3 := hMO.heap
  have HFM := Lib.hid hFm
  have HES := Lib.hid hes
  have HKN := Lib.hid hkn
  have HKM := Lib.hid hkm
  clear PD b3 b4 hFm hMO hes hkn hkm hk16 hcl htot
  go_wp2_with fail
  refine PC.mono ?_
  rintro r w4 ⟨rfl, b6⟩
  have b7 := b5.trans (b6.mono b5.size)
  have hb24 := hb23.trans (b6.mono hb23.size)
  have hFm4 := HFM.out.below b6
  obtain ⟨p1, hp1⟩ : ∃ q, w4.heap.size = q := ⟨_, rfl⟩
  have hbm4 : bm < p1 := by rw [← hp1]; exact hFm4.ms.lt
  have hs1 : (w4.alloc (.map #[] 0)).heap.size = p1 + 1 := by rw [← hp1]; simp
  have hmk1 : (Instr.makeMap 48 none).run Tryz.prog w4 = .ok (.map (some p1)) (w4.alloc (.map #[] 0)) := by rw [← hp1]; rfl
  have hmk2 : (Instr.makeMap 48 none).run Tryz.prog (w4.alloc (.map #[] 0)) = .ok (.map (some (p1 + 1))) ((w4.alloc (.map #[] 0)).alloc (.map #[] 0)) := by rw [← hs1]; rfl
  have hm1 : Dp.OwnS (w4.alloc (.map #[] 0)) p1 0 (.map []) := by rw [← hp1]; exact Dp.ownS_made w4
  have hm1 : Dp.OwnS ((w4.alloc (.map #[] 0)).alloc (.map #[] 0)) p1 0 (.map []) := World.ownsMap.alloc hm1 _
  have hm2 : Dp.OwnS ((w4.alloc (.map #[] 0)).alloc (.map #[] 0)) (p1 + 1) 0 (.map []) := by rw [← hs1]; exact Dp.ownS_made _
  have b8 : RowKit.Below w4.heap.size w4 ((w4.alloc (.map #[] 0)).alloc (.map #[] 0)) := ((Below.refl _ _).alloc (Nat.le_refl _) _).alloc (by rw [hs1, hp1]; omega) _
  have hs2 : ((w4.alloc (.map #[] 0)).alloc (.map #[] 0)).heap.size = p1 + 2 := by simp; omega
  obtain ⟨w5, hw5⟩ : ∃ q, (w4.alloc (.map #[] 0)).alloc (.map #[] 0) = q := ⟨_, rfl⟩
  rw [hw5] at hmk2 hm1 hm2 b8 hs2
  have hmap4 : w4.heap[bm]? = some (.map es clock) := (b6.block bm (iter_lt hmb3)).trans hmb3
  have HF4 := Lib.hid hFm4
  have HM4 := Lib.hid hmap4
  have hmap5 : w5.heap[bm]? = some (.map es clock) := (b8.block bm (by rw [hp1]; exact hbm4)).trans hmap4
  have hrange := run_range_map (P := Tryz.prog) w5 28 3 34 bm es clock (by kernel_rfl) hmap5
  rw [hs2] at hrange
  have b9 := b8.alloc b8.size (.mapIter (some bm) clock #[] clock)
  have hm1 := World.ownsMap.alloc hm1 (.mapIter (some bm) clock #[] clock)
  have hm2 := World.ownsMap.alloc hm2 (.mapIter (some bm) clock #[] clock)
  have hit0 : (w5.alloc (.mapIter (some bm) clock #[] clock)).heap[p1 + 2]? = some (.mapIter (some bm) clock #[] clock) := by rw [← hs2]; exact heap_alloc_new w5 _
  have HP1 := Lib.hid hp1
  clear PC b5 b6 hs1 hp1 hs2 hmap4 hmap5 b8 hw5 hFm4 hmb3
  go_wp2_with fail
  generalize w5.alloc (.mapIter (some bm) clock #[] clock) = w6 at *
  clear hrange hmk1 hmk2
  go_loopw [] (fun wz => ∃ (S : List MapEntry) (seen : Array Nat) (c0 : Nat) (D1 D2 : Dp.Dt), wz.heap[p1 + 2]? = some (.mapIter (some bm) clock seen c0) ∧ clock ≤ c0 ∧ Hid ((S ++ (leftOf es seen).toList).Perm es.toList) ∧ Dp.OwnS wz p1 (visO G (keysN S)).length D1 ∧ Hid (Dp.Cnt D1 (atC (visO G (keysN S)))) ∧ Dp.OwnS wz (p1 + 1) (visO G (keysN S)).length D2 ∧ Hid (Dp.Cnt D2 (onC (visO G (keysN S)))) ∧ RowKit.Below w4.heap.size w4 wz) (fun wz => stillIn es (p1 + 2) wz)
  case atStart => exact ⟨[], #[], clock, _, _, hit0, Nat.le_refl _, Lib.hid (by rw [left_all]; exact List.Perm.refl _), hm1, Lib.hid Dp.cnt_nil, hm2, Lib.hid Dp.cnt_nil, b9⟩
  case round =>
    clear hm1 hm2 b9 hit0
    obtain ⟨S, seen, c0, D1, D2, hit, hc0, HSL, o1, HC1, o2, HC2, bz⟩ := hrel
    have hst : stillIn es (p1 + 2) wr = (leftOf es seen).size := by unfold stillIn World.iterSeen; rw [hit]
    have HST := Lib.hid hst
    have hmapr : wr.heap[bm]? = some (.map es clock) := (bz.block bm (by rw [HP1.out]; exact hbm4)).trans HM4.out
    clear hst
    go_wp2_with (at_next; refine wpList_next_raw rfl (.tmp 77) rfl (p1 + 2) bm clock c0 seen es clock rfl hit hmapr HES.out.old hc0 ?_ ?_)
    · intro hdone
      have hl0 : (leftOf es seen).toList = [] := by
        rw [← List.length_eq_zero_iff]
        simpa using hdone
      have hS := HSL.out
      rw [hl0, List.append_nil] at hS
      have hks : (keysN S).Perm (keysN es.toList) := hS.map keyN
      have hknS : (keysN S).Nodup := hks.nodup_iff.2 HKN.out
      have hkmS : ∀ k, k ∈ keysN S ↔ k < 16 ∧ G k ≠ [] := fun k => (hks.mem_iff).trans (HKM.out k)
      have hat := at_once HGN.out (keysN S) hknS (fun k hk => ((hkmS k).1 hk).1)
      have HV1 : Hid (∀ kl, Go.Maps.has D1 kl = true → D1.atKey kl (.lit (.int .i64 0)) = .lit (.int .i64 1)) := Lib.hid (fun kl h => by
        obtain ⟨a, b, ha, hb, rfl, h0⟩ := HC1.out.has kl h
        rw [HC1.out.at_ a b ha hb]
        have := hat a b
        have e : atC (visO G (keysN S)) a b = 1 := by omega
        rw [e]
        rfl)
      have HV2 : Hid (∀ kl, Go.Maps.has D2 kl = true → D2.atKey kl (.lit (.int .i64 0)) = .lit (.int .i64 2)) := Lib.hid (fun kl h => by
        obtain ⟨a, b, ha, hb, rfl, h0⟩ := HC2.out.has kl h
        rw [HC2.out.at_ a b ha hb, on_twice HGN.out hknS hkmS h0]
        rfl)
      obtain ⟨n1, hn1⟩ : ∃ q, (visO G (keysN S)).length = q := ⟨_, rfl⟩
      rw [hn1] at o1 o2
      clear hl0 hdone hS hks hknS hkmS hat hn1 HC1 HC2 HST HSL hit hmapr hc0
      obtain ⟨wq, hrun, hrg, hgr, hsz⟩ := World.ownsMap.range o1 Dp.law2 Tryz.underlying48
      obtain ⟨rq, hrq⟩ : ∃ q, wr.heap.size = q := ⟨_, rfl⟩
      rw [hrq] at hrun hrg
      have o2q : Dp.OwnS wq (p1 + 1) n1 D2 := Dp.ownS_same o2 (hgr.block (p1 + 1) (World.ownsMap.lt o2) (by simp))
      have bq : RowKit.Below w4.heap.size w4 wq := bz.grown hgr bz.size (fun q h => by cases h)
      have hrl : w4.heap.size ≤ rq := by rw [← hrq]; exact bz.size
      have hrq1 : p1 + 1 < rq := by rw [← hrq]; exact World.ownsMap.lt o2
      clear hrq hgr hsz o1 o2 bz
      go_wp2_with fail
      clear hrun
      go_loopw [] (fun wz => ∃ (left : Lit → Bool) (cnt : Nat), wz.ranges Tryz.prog 51 (plainElem Tryz.prog 3) p1 rq n1 D1 left cnt ∧ Hid (∀ kl, left kl = true → Go.Maps.has D1 kl = true) ∧ Dp.OwnS wz (p1 + 1) n1 D2 ∧ RowKit.Below w4.heap.size w4 wz) (fun wz => wz.rangeLeft p1 rq)
      case atStart => exact ⟨_, _, hrg, Lib.hid (fun _ h => h), o2q, bq⟩
      case round =>
        clear hrg o2q bq
        obtain ⟨left, cnt, hrg, HLF, o2, bz⟩ := hrel
        rcases World.ranges.next hrg Dp.law2 0 with ⟨h0, hno, hnx⟩ | ⟨key, v, kl, y, w8, cnt8, hkey, hleft, hRv, hat, hnx, hrg8, hlt, hg8, hs8, hen⟩
        · obtain ⟨wq2, hrun2, hrg2, hgr2, hsz2⟩ := World.ownsMap.range o2 Dp.law2 Tryz.underlying48
          obtain ⟨rq2, hrq2⟩ : ∃ q, wr.heap.size = q := ⟨_, rfl⟩
          rw [hrq2] at hrun2 hrg2
          have bq : RowKit.Below w4.heap.size w4 wq2 := bz.grown hgr2 bz.size (fun q h => by cases h)
          have hrl2 : w4.heap.size ≤ rq2 := by rw [← hrq2]; exact bz.size
          clear hrq2 hgr2 hsz2 o2 bz hrg HLF hno
          go_wp2_with fail
          clear hrun2 hnx
          go_loopw [] (fun wz => ∃ (left : Lit → Bool) (cnt : Nat), wz.ranges Tryz.prog 51 (plainElem Tryz.prog 3) (p1 + 1) rq2 n1 D2 left cnt ∧ Hid (∀ kl, left kl = true → Go.Maps.has D2 kl = true) ∧ RowKit.Below w4.heap.size w4 wz) (fun wz => wz.rangeLeft (p1 + 1) rq2)
          case atStart => exact ⟨_, _, hrg2, Lib.hid (fun _ h => h), bq⟩
          case round =>
            clear hrg2 bq
            obtain ⟨left, cnt, hrg, HLF, bz⟩ := hrel
            rcases World.ranges.next hrg Dp.law2 0 with ⟨h0, hno, hnx⟩ | ⟨key, v, kl, y, w8, cnt8, hkey, hleft, hRv, hat, hnx, hrg8, hlt, hg8, hs8, hen⟩
            · go_wp2_with fail
              refine (order_any t R _ _ (HTT.out wr (hb24.trans (bz.mono hb24.size))) HR0.out HSM.out).mono ?_
              rintro r w9 ⟨A9, c9, rfl, ho9, b9⟩
              have hle9 := ho9.le
              have hcap9 := ho9.cap
              unfold maxLen at hcap9
              have bz9 := bz.trans (b9.mono bz.size)
              have HR9 := Lib.hid ho9.row
              obtain ⟨M, hM⟩ : ∃ q, (ordT R).length = q := ⟨_, rfl⟩
              have HM := Lib.hid hM
              rw [hM] at hle9 hO ⊢
              have hM63 : (M : Int) ≤ 9223372036854775807 := by omega
              clear hM ho9 hrg HLF hno hnx bz b9
              go_wp2_with fail
              go_loopw [30, 202] (fun u i wz => ∃ k : Nat, i = .int .i64 k ∧ k ≤ M ∧ u = .int .i64 ((leftN G par ((ordT R).take k) : Nat) : Int) ∧ RowKit.Below w9.heap.size w9 wz) (fun _ i _ => M - (intOf i).toNat)
              case atStart => exact ⟨0, rfl, Nat.zero_le _, rfl, Below.refl _ _⟩
              case round =>
                obtain ⟨k, rfl, hk, rfl, bk⟩ := hrel
                by_cases hlt : k < M
                · have hlt2 : k < (ordT R).length := by rw [HM.out]; exact hlt
                  have bR4 := bz9.trans (bk.mono bz9.size)
                  have hrow := HR9.out.below bk
                  obtain ⟨bo, off, rfl, _, c0⟩ := hrow.at_ hlt2
                  unfold ln at c0
                  obtain ⟨hx16, rx, hrx⟩ := ordT_at HSM.out hlt2
                  have hstep := leftN_take G par (ordT R) hlt2
                  have hz16 := leftN_le G par ((ordT R).take k)
                  rw [List.length_take] at hz16
                  obtain ⟨z, hz⟩ : ∃ z, leftN G par ((ordT R).take k) = z := ⟨_, rfl⟩
                  rw [hz] at hstep hz16 ⊢
                  obtain ⟨x, hx⟩ : ∃ x, (ordT R).getD k 0 = x := ⟨_, rfl⟩
                  rw [hx] at c0 hx16 hrx hstep
                  have HSTEP := Lib.hid hstep
                  have hz16 : z ≤ 16 := by omega
                  have PP := parents_any t R (parT N Q least R) (x : Int) wr (HTT.out wr (hb24.trans (bR4.mono hb24.size))) (fun q => Nat.le_trans (par_len N Q least R q) (by decide))
                  clear hx hstep hrow hlt2 hz
                  by_cases hx0 : x = 0
                  · subst hx0
                    have g0 : (((0 : Nat) : Int) == 0) = true := by simp
                    go_wp2_with fail
                    refine PP.mono ?_
                    rintro r w10 ⟨A5, c5, rfl, hl5, b10⟩
                    have bk2 := bk.trans (b10.mono bk.size)
                    go_wp2_with fail
                    exact ⟨⟨k + 1, by simp [intOf], by omega, by rw [HSTEP.out]; rfl, bk2⟩, by simp [intOf]; omega⟩
                  · obtain ⟨rs, rfl⟩ : ∃ s, rx = s + 1 := by
                      rcases Nat.eq_zero_or_pos rx with e | e
                      · subst e
                        exact absurd (HFS.out.only x hrx) hx0
                      · exact ⟨rx - 1, by omega⟩
                    obtain ⟨p, l, hp1, hp2, hp3⟩ := HFS.out.first x rs hrx
                    have g0 : ((x : Int) == 0) = false := by simp; omega
                    have hPS : parsT R (parT N Q least R) (x : Int) = p :: l := (parsT_nat hx16 hrx).trans hp1
                    have hparx : par x = p := by rw [← hpar]; dsimp only; rw [hp1]; rfl
                    rw [hPS] at PP
                    obtain ⟨mm, hmm⟩ : ∃ mm, (p :: l).length = mm := ⟨_, rfl⟩
                    have hm0 : 0 < mm := by rw [← hmm]; simp
                    have g1 : ((mm : Int) == 0) = false := by simp; omega
                    rw [hmm] at PP
                    have HLL := Lib.hid hmm
                    have hup := (HGU.out x hx0).up
                    have hdn := (HGU.out x hx0).dn
                    have hst := HSTEP.out
                    rw [if_neg hx0] at hst
                    rw [hparx] at hup hdn hst
                    obtain ⟨b, hb1, hcu, hcd⟩ : ∃ b : Nat, b ≤ 1 ∧ (G x).countP (isUp p) = b ∧ (G x).countP (isDn p) = b := by
                      by_cases q : x ∈ ordT R ∧ x ∉ L1
                      · rw [if_pos q] at hup hdn
                        exact ⟨1, Nat.le_refl _, hup, hdn⟩
                      · rw [if_neg q] at hup hdn
                        exact ⟨0, by omega, hup, hdn⟩
                    rw [hcu] at hst
                    have HSTEP := Lib.hid hst
                    have HCU := Lib.hid hcu
                    have HCD := Lib.hid hcd
                    clear hmm hPS hp1 hp2 hrx hparx hup hdn hst hcu hcd
                    go_wp2_with fail
                    refine PP.mono ?_
                    rintro r w10 ⟨A5, c5, rfl, hl5, b10⟩
                    have hrow5 := hl5.row
                    have hle5 := hl5.le
                    have hcap5 := hl5.cap
                    unfold maxLen at hcap5
                    rw [HLL.out] at hrow5 hle5
                    obtain ⟨b5o, off5, rfl, _, _⟩ := hrow5.at_ hm0
                    have HD0 : Hid (∀ W, RowKit.Below w10.heap.size w10 W → W.cell? ⟨b5o, off5, none⟩ = some (.int .i64 (p : Int))) := Lib.hid (fun W h => by
                      obtain ⟨b', o', e, _, d⟩ := (hrow5.below h).at_ hm0
                      injection e with e
                      injection e with e1 e2
                      subst e1 e2
                      exact d)
                    have bk2 := bk.trans (b10.mono bk.size)
                    have bR5 := bz9.trans (bk2.mono bz9.size)
                    obtain ⟨a9, c9', hv9, hl9, hc9, hr9⟩ := HF4.out.row x hx16
                    have hlk := (HF4.out.below bR5).look hx16
                    rw [hv9] at hlk
                    unfold kv at hlk
                    obtain ⟨m9, hm9⟩ : ∃ q, (G x).length = q := ⟨_, rfl⟩
                    have HM9 := Lib.hid hm9
                    rw [hm9] at hlk hl9 hr9
                    have HR9' := Lib.hid hr9
                    unfold maxLen at hc9
                    have hm40 : m9 ≤ 40 := by rw [← hm9]; exact Nat.le_trans (neat_len HGN.out hx16) hL40.2
                    clear PP hrow5 hl5 b10 hv9 hr9 hm9
                    go_wp2_with fail
                    clear hlk
                    go_loopw [34, 35, 220] (fun u d i wz => ∃ t2 : Nat, i = .int .i64 t2 ∧ t2 ≤ m9 ∧ u = .int .i64 ((((G x).take t2).countP (isUp p) : Nat) : Int) ∧ d = .int .i64 ((((G x).take t2).countP (isDn p) : Nat) : Int) ∧ RowKit.Below w10.heap.size w10 wz) (fun _ _ i _ => m9 - (intOf i).toNat)
                    case atStart => exact ⟨0, rfl, Nat.zero_le _, rfl, rfl, Below.refl _ _⟩
                    case round =>
                      obtain ⟨t2, rfl, ht2, rfl, rfl, b3⟩ := hrel
                      have bR := bR5.trans (b3.mono bR5.size)
                      by_cases ht9 : t2 < m9
                      · obtain ⟨bo9, off9, rfl, hbo9, e0, e1, e2, e3, e4⟩ := crow HR9'.out bR ht9
                        have d0 := HD0.out wr b3
                        have hnu := count_next (q := isUp p) (l := G x) (t := t2) (by rw [HM9.out]; exact ht9)
                        have hnd := count_next (q := isDn p) (l := G x) (t := t2) (by rw [HM9.out]; exact ht9)
                        have hul : ((G x).take t2).countP (isUp p) ≤ 40 := Nat.le_trans List.countP_le_length (Nat.le_trans (List.length_take_le _ _) (by omega))
                        have hdl : ((G x).take t2).countP (isDn p) ≤ 40 := Nat.le_trans List.countP_le_length (Nat.le_trans (List.length_take_le _ _) (by omega))
                        obtain ⟨y, hy⟩ : ∃ y, at_ (G x) t2 = y := ⟨_, rfl⟩
                        rw [hy] at e0 e1 e2 e3 e4 hnu hnd
                        obtain ⟨yf, ys, yc, yo, yp⟩ := y
                        dsimp only at e0 e1 e2 e3 e4
                        obtain ⟨U, hU⟩ : ∃ q, ((G x).take t2).countP (isUp p) = q := ⟨_, rfl⟩
                        obtain ⟨D, hD⟩ : ∃ q, ((G x).take t2).countP (isDn p) = q := ⟨_, rfl⟩
                        rw [hU] at hnu hul ⊢
                        rw [hD] at hnd hdl ⊢
                        obtain ⟨y1, hy1⟩ : ∃ q, (yp == (p : Int)) = q := ⟨_, rfl⟩
                        obtain ⟨y2, hy2⟩ : ∃ q, (Go.bits .and .i64 yo 1 != 0) = q := ⟨_, rfl⟩
                        obtain ⟨y3, hy3⟩ : ∃ q, (Go.bits .and .i64 yo 2 != 0) = q := ⟨_, rfl⟩
                        obtain ⟨y4, hy4⟩ : ∃ q, (Go.bits .and .i64 yo 8 != 0) = q := ⟨_, rfl⟩
                        unfold isUp at hnu
                        unfold isDn at hnd
                        dsimp only at hnu hnd
                        rw [hy1, hy2] at hnu
                        rw [hy1, hy3, hy4] at hnd
                        have HNU : Hid (((G x).take (t2 + 1)).countP (isUp p) = U + (if (y1 && y2) = true then 1 else 0)) := Lib.hid hnu
                        have HND : Hid (((G x).take (t2 + 1)).countP (isDn p) = D + (if (y1 && (y3 && y4)) = true then 1 else 0)) := Lib.hid hnd
                        have oY := Own.new wr 50 #[.int .i64 yf, .int .i64 ys, .int .i64 yc, .int .i64 yo, .int .i64 yp]
                        have b4 := b3.alloc b3.size (.cells #[.int .i64 yf, .int .i64 ys, .int .i64 yc, .int .i64 yo, .int .i64 yp] 50)
                        have d0 := HD0.out _ b4
                        have eU : IntKind.i64.wrap ((U : Int) + 1) = ((U + 1 : Nat) : Int) := by rw [IntWalk.i64_in _ (by omega)]; omega
                        have eD : IntKind.i64.wrap ((D : Int) + 1) = ((D + 1 : Nat) : Int) := by rw [IntWalk.i64_in _ (by omega)]; omega
                        clear hnu hnd hU hD hy bR
                        go_upto_region 50 with (fail)
                        obtain ⟨yb, hyb⟩ : ∃ q, wr.heap.size = q := ⟨_, rfl⟩
                        rw [hyb] at oY ⊢
                        generalize wr.alloc (.cells #[.int .i64 yf, .int .i64 ys, .int .i64 yc, .int .i64 yo, .int .i64 yp] 50) = wy at *
                        clear hyb e0 e1 e2 e3 e4 b3
                        have f3 : wy.cell? ⟨yb, 3, none⟩ = some (.int .i64 yo) := oY.cell 3
                        have f4 : wy.cell? ⟨yb, 4, none⟩ = some (.int .i64 yp) := oY.cell 4
                        have d0 := HD0.out wy b4
                        have HY : Hid (∀ m, (wy.drewN m).cell? ⟨yb, 3, none⟩ = some (.int .i64 yo) ∧ (wy.drewN m).cell? ⟨yb, 4, none⟩ = some (.int .i64 yp) ∧ (wy.drewN m).cell? ⟨b5o, off5, none⟩ = some (.int .i64 (p : Int)) ∧ RowKit.Below w10.heap.size w10 (wy.drewN m)) := Lib.hid (fun m => ⟨f3, f4, d0, below_drewN b4 m⟩)
                        cases y1 <;> cases y2 <;> cases y3 <;> cases y4
                        all_goals
                          go_quiet (fail)
                          obtain ⟨f3', f4', d0', b4'⟩ := HY.out _
                          generalize wy.drewN _ = wq at f3' f4' d0' b4' ⊢
                          clear HY f3 f4 d0 oY b4
                          go_wp2_with fail
                          go_quiet (fail)

                          go_wp2_with fail
                          exact ⟨⟨t2 + 1, by simp [intOf], by omega, by rw [HNU.out]; rfl, by rw [HND.out]; rfl, below_drewN b4' _⟩, by simp [intOf]; omega⟩
                      · obtain rfl : t2 = m9 := by omega
                        rw [List.take_of_length_le (by rw [HM9.out]; exact Nat.le_refl _), HCU.out, HCD.out]
                        have g3 : ((b : Int) != (b : Int)) = false := by simp
                        have g4 : decide ((1 : Int) < (b : Int)) = false := by simp; omega
                        have g4' : decide (1 < b) = false := by simp; omega
                        have e5 : IntKind.i64.wrap (1 - (b : Int)) = ((1 - b : Nat) : Int) := by rw [IntWalk.i64_in _ (by omega)]; omega
                        have e6 : IntKind.i64.wrap ((z : Int) + ((1 - b : Nat) : Int)) = ((z + (1 - b) : Nat) : Int) := by rw [IntWalk.i64_in _ (by omega)]; omega
                        have bk3 := bk2.trans (b3.mono bk2.size)
                        go_wp2_with fail
                        exact ⟨⟨k + 1, by simp [intOf], by omega, congrArg (Value.int .i64) (by rw [HSTEP.out]; omega), bk3⟩, by simp [intOf]; omega⟩
                · obtain rfl : k = M := by omega
                  have hl : leftN G par ((ordT R).take k) = L1.length := by
                    rw [List.take_of_length_le (by rw [HM.out]; exact Nat.le_refl _)]
                    exact HLEFT.out
                  rw [hl]
                  obtain ⟨z, hz⟩ : ∃ z, L1.length = z := ⟨_, rfl⟩
                  rw [hz]
                  have e8 : ((z : Int) == (z : Int)) = true := by simp
                  have bE := b7.trans ((bz9.trans (bk.mono bz9.size)).mono b7.size)
                  clear hl hz
                  go_wp2_with fail
                  refine (Al.awake_any _).mono ?_
                  rintro r10 w10 ⟨rfl, b11⟩
                  go_wp2_with fail
                  go_ret
                  exact ⟨rfl, bE.trans (b11.mono bE.size)⟩
            · obtain ⟨iv, rfl, hz⟩ := plainElem_int_inv Tryz.underlying3 hRv
              have hv1 := HV2.out kl (HLF.out kl hleft)
              rw [hat, hz.1] at hv1
              have : iv = 2 := (Lit.int.inj (DataW.lit.inj hv1)).2
              subst this
              have b8 : RowKit.Below w4.heap.size w4 w8 := bz.grown hg8 bz.size (fun q h => by injection h with h; omega)
              have HL8 : Hid (∀ x, (fun x => left x && !x.sameKey kl) x = true → Go.Maps.has D2 x = true) := Lib.hid (fun x h => by
                dsimp only at h
                rw [Bool.and_eq_true] at h
                exact HLF.out x h.1)
              have hms : w8.rangeLeft (p1 + 1) rq2 < wr.rangeLeft (p1 + 1) rq2 := by rw [hrg8.left_eq, hrg.left_eq]; exact hlt
              clear hat hRv hkey hleft hv1 hz hs8 hg8 bz
              go_wp2_with fail
              exact ⟨⟨_, cnt8, hrg8, HL8, b8⟩, hms⟩
        · obtain ⟨iv, rfl, hz⟩ := plainElem_int_inv Tryz.underlying3 hRv
          have hv1 := HV1.out kl (HLF.out kl hleft)
          rw [hat, hz.1] at hv1
          have : iv = 1 := (Lit.int.inj (DataW.lit.inj hv1)).2
          subst this
          have o28 : Dp.OwnS w8 (p1 + 1) n1 D2 := Dp.ownS_same o2 (hg8.block (p1 + 1) (World.ownsMap.lt o2) (by simp; omega))
          have b8 : RowKit.Below w4.heap.size w4 w8 := bz.grown hg8 bz.size (fun q h => by injection h with h; omega)
          have HL8 : Hid (∀ x, (fun x => left x && !x.sameKey kl) x = true → Go.Maps.has D1 x = true) := Lib.hid (fun x h => by
            dsimp only at h
            rw [Bool.and_eq_true] at h
            exact HLF.out x h.1)
          have hms : w8.rangeLeft p1 rq < wr.rangeLeft p1 rq := by rw [hrg8.left_eq, hrg.left_eq]; exact hlt
          clear hat hRv hkey hleft hv1 hz hs8 hg8 o2 bz
          go_wp2_with fail
          exact ⟨⟨_, cnt8, hrg8, HL8, o28, b8⟩, hms⟩
    · intro e he w7 hit7 j7
      have he := Array.mem_toList_iff.2 he
      obtain ⟨hme, _⟩ := mem_left he
      have hstep := left_step HES.out.nd he
      have hmap7 : w7.heap[bm]? = some (.map es clock) := (j7.block bm (iter_lt hmapr) (by omega)).trans hmapr
      have hen := run_entry_at (P := Tryz.prog) w7 (p1 + 2) bm clock seen es clock e hit7 hmap7 hme HES.out.nd
      obtain ⟨k, hk16, hSk, hkey, hval⟩ := HES.out.key e hme
      have hne : G k ≠ [] := by simpa using hSk
      have hp1s : p1 + 2 < wr.heap.size := iter_lt hit
      have b7' := j7.below bz (by rw [HP1.out]; omega) (by rw [HP1.out]; omega)
      obtain ⟨a8, c8, hv, hl8, hc8, hr8⟩ := HF4.out.row k hk16
      have hperm := (hstep.append_left S).trans HSL.out
      have o1' := Dp.ownS_same o1 (j7.block p1 (World.ownsMap.lt o1) (by omega))
      have o2' := Dp.ownS_same o2 (j7.block (p1 + 1) (World.ownsMap.lt o2) (by omega))
      have hkn := keyN_kv hkey
      rw [hkey, hval, hv] at hen ⊢
      unfold kv at hen ⊢
      obtain ⟨m, hm⟩ : ∃ m, (G k).length = m := ⟨_, rfl⟩
      have HMM := Lib.hid hm
      have hm40 : m ≤ 40 := by rw [← hm]; exact Nat.le_trans (neat_len HGN.out hk16) hL40.2
      rw [hm] at hen hl8 hr8 ⊢
      obtain ⟨V0, hV0⟩ : ∃ V0, visO G (keysN S) = V0 := ⟨_, rfl⟩
      have hvis : visO G (keysN (S ++ [e])) = V0 ++ (G k).map fun c => (k, c) := by
        unfold keysN
        rw [List.map_append, List.map_singleton, hkn, visO_snoc]
        exact congrArg (· ++ _) hV0
      have hv640 : V0.length ≤ 640 := by
        rw [← hV0]
        exact vis_few (fun k hk => ((HKM.out k).1 hk).1) HKN.out hperm (fun k hk => Nat.le_trans (neat_len HGN.out hk) hL40.2)
      rw [hV0] at o1' o2' HC1 HC2
      have HSH := Lib.hid (left_shrinks es seen e he)
      have HPERM := Lib.hid hperm
      have HVIS := Lib.hid hvis
      have HL8 := Lib.hid (And.intro hl8 hc8)
      have HR8 := Lib.hid hr8
      clear hkey hval hv hme hmap7 hmapr hit j7 hstep hperm hkn hm bz hl8 hc8 hr8 hvis hSk hne hV0 o1 o2
      go_wp2_with fail
      clear hen
      go_loopw [85] (fun i wz => ∃ (t : Nat) (D1 D2 : Dp.Dt), i = .int .i64 t ∧ t ≤ m ∧ Dp.OwnS wz p1 (V0.length + t) D1 ∧ Hid (Dp.Cnt D1 (atC (V0 ++ ((G k).take t).map fun c => (k, c)))) ∧ Dp.OwnS wz (p1 + 1) (V0.length + t) D2 ∧ Hid (Dp.Cnt D2 (onC (V0 ++ ((G k).take t).map fun c => (k, c)))) ∧ wz.heap[p1 + 2]? = some (.mapIter (some bm) clock (seen.push e.born) clock) ∧ RowKit.Below w4.heap.size w4 wz) (fun i _ => m - (intOf i).toNat)
      case atStart => exact ⟨0, D1, D2, rfl, Nat.zero_le _, o1', by rw [List.take_zero, List.map_nil, List.append_nil]; exact HC1, o2', by rw [List.take_zero, List.map_nil, List.append_nil]; exact HC2, hit7, b7'⟩
      case round =>
        clear o1' o2' hit7 HC1 HC2 b7'
        obtain ⟨t, D3, D4, rfl, ht, o1, HC1, o2, HC2, hit, bz⟩ := hrel
        by_cases htl : t < m
        · obtain ⟨bo, off, rfl, hbo, d0, d1, d2, d3, d4⟩ := crow HR8.out bz htl
          obtain ⟨z, hz⟩ : ∃ z, at_ (G k) t = z := ⟨_, rfl⟩
          have HZ := Lib.hid hz
          rw [hz] at d0 d1 d2 d3 d4
          have hzm : z ∈ G k := by rw [← hz]; exact Ce.at_mem (by rw [HMM.out]; exact htl)
          obtain ⟨s, cn, p, hs, hcn, hp16, hpk, ef, e5, ec, ep, eo⟩ := shp_parts (HGN.out.shape k hk16 z hzm)
          have HZM := Lib.hid hzm
          obtain ⟨zf, zs, zc, zo, zp⟩ := z
          dsimp only at ef e5 ec ep eo d0 d1 d2 d3 d4
          subst ef e5 ec ep
          have oz := Own.new wr 50 #[.int .i64 1, .int .i64 (s : Nat), .int .i64 (cn : Nat), .int .i64 zo, .int .i64 (p : Nat)]
          have bz2 := bz.alloc bz.size (.cells #[.int .i64 1, .int .i64 (s : Nat), .int .i64 (cn : Nat), .int .i64 zo, .int .i64 (p : Nat)] 50)
          have o1z := World.ownsMap.alloc o1 (.cells #[.int .i64 1, .int .i64 (s : Nat), .int .i64 (cn : Nat), .int .i64 zo, .int .i64 (p : Nat)] 50)
          have o2z := World.ownsMap.alloc o2 (.cells #[.int .i64 1, .int .i64 (s : Nat), .int .i64 (cn : Nat), .int .i64 zo, .int .i64 (p : Nat)] 50)
          have hitz : (wr.alloc (.cells #[.int .i64 1, .int .i64 (s : Nat), .int .i64 (cn : Nat), .int .i64 zo, .int .i64 (p : Nat)] 50)).heap[p1 + 2]? = some (.mapIter (some bm) clock (seen.push e.born) clock) := by rw [heap_alloc_old _ _ (iter_lt hit)]; exact hit
          have hcbl : p1 + 2 < wr.heap.size := iter_lt hit
          go_upto_region 17 with (fail)
          obtain ⟨cb, hcb⟩ : ∃ q, wr.heap.size = q := ⟨_, rfl⟩
          rw [hcb] at oz hcbl ⊢
          generalize wr.alloc (.cells #[.int .i64 1, .int .i64 (s : Nat), .int .i64 (cn : Nat), .int .i64 zo, .int .i64 (p : Nat)] 50) = wz at *
          clear hcb d0 d1 d2 d3 d4 bz o1 o2 hit hz hzm
          obtain ⟨z1, hz1⟩ : ∃ q, atC (V0 ++ ((G k).take t).map fun c => (k, c)) (k : Int) (s : Int) = q := ⟨_, rfl⟩
          obtain ⟨z2, hz2⟩ : ∃ q, onC (V0 ++ ((G k).take t).map fun c => (k, c)) (s : Int) (cn : Int) = q := ⟨_, rfl⟩
          have hvl : (V0 ++ ((G k).take t).map fun c => (k, c)).length ≤ 700 := by
            rw [List.length_append, List.length_map]
            have := List.length_take_le t (G k)
            omega
          have hz1l : z1 ≤ 700 := by rw [← hz1]; exact Nat.le_trans List.countP_le_length hvl
          have hz2l : z2 ≤ 700 := by rw [← hz2]; exact Nat.le_trans List.countP_le_length hvl
          obtain ⟨v0, st, wA, wB, D5, q1, q2, q3, q4, q5, q6, q7⟩ := Dp.cnt_entry (w := wz.drew) (a := (k : Int)) (b := (s : Int)) o1z HC1.out (by omega) (by rw [hz1]; omega) (Dp.in64 (by omega) (by omega)) (Dp.in64 (by omega) (by omega))
          rw [hz1] at q1 q3 q4
          have HNX := vis_next V0 G k t (by rw [HMM.out]; exact htl)
          rw [HZ.out] at HNX
          have hH5 : Hid (Dp.Cnt D5 (atC (V0 ++ ((G k).take (t + 1)).map fun c => (k, c)))) := Lib.hid (by
            rw [HNX, ← atC_snoc]
            exact q6)
          have HNX := Lib.hid HNX
          have ew1 : IntKind.i64.wrap ((z1 : Int) + 1) = (z1 : Int) + 1 := IntWalk.i64_in _ (by omega)
          have k1 : wz.cell? ⟨cb, 1, none⟩ = some (.int .i64 (s : Nat)) := oz.cell 1
          have k1d : wz.drew.cell? ⟨cb, 1, none⟩ = some (.int .i64 (s : Nat)) := oz.cell 1
          clear q6
          go_region
          all_goals
            have hk8 : ∀ q, q < wz.heap.size → q ≠ p1 → wB.heap[q]? = wz.heap[q]? := fun q hq hne => q7.block q hq (fun e => hne (by injection e))
            have oB : Own wB cb 50 #[.int .i64 1, .int .i64 (s : Nat), .int .i64 (cn : Nat), .int .i64 zo, .int .i64 (p : Nat)] := (hk8 cb oz.lt (by omega)).trans oz
            have o2B := Dp.ownS_same o2z (hk8 (p1 + 1) (World.ownsMap.lt o2z) (by omega))
            have hitB := (hk8 (p1 + 2) (iter_lt hitz) (by omega)).trans hitz
            have bB : RowKit.Below w4.heap.size w4 wB := (below_drewN bz2 1).grown q7 bz2.size (fun q hq => by injection hq with hq; rw [HP1.out]; omega)
            clear q1 q3 q4 q7 hk8 oz o1z o2z hitz bz2 k1 k1d q2 ew1
            clear wA
            obtain ⟨v1, st1, wC, wD, D6, r1, r2, r3, r4, r5, r6, r7⟩ := Dp.cnt_entry (w := wB.drew) (a := (s : Int)) (b := (cn : Int)) o2B HC2.out (by omega) (by rw [hz2]; omega) (Dp.in64 (by omega) (by omega)) (Dp.in64 (by omega) (by omega))
            rw [hz2] at r1 r3 r4
            have hH6 : Hid (Dp.Cnt D6 (onC (V0 ++ ((G k).take (t + 1)).map fun c => (k, c)))) := Lib.hid (by
              rw [HNX.out, ← onC_snoc]
              exact r6)
            have ew2 : IntKind.i64.wrap ((z2 : Int) + 1) = (z2 : Int) + 1 := IntWalk.i64_in _ (by omega)
            have k1 : wB.cell? ⟨cb, 1, none⟩ = some (.int .i64 (s : Nat)) := oB.cell 1
            have k2 : wB.cell? ⟨cb, 2, none⟩ = some (.int .i64 (cn : Nat)) := oB.cell 2
            have k1d : wB.drew.cell? ⟨cb, 1, none⟩ = some (.int .i64 (s : Nat)) := oB.cell 1
            have k2d : wB.drew.cell? ⟨cb, 2, none⟩ = some (.int .i64 (cn : Nat)) := oB.cell 2
            clear r6
            go_wp2_with fail
            go_region
            all_goals
              have hk9 : ∀ q, q < wB.heap.size → q ≠ p1 + 1 → wD.heap[q]? = wB.heap[q]? := fun q hq hne => r7.block q hq (fun e => hne (by injection e))
              have oD : Own wD cb 50 #[.int .i64 1, .int .i64 (s : Nat), .int .i64 (cn : Nat), .int .i64 zo, .int .i64 (p : Nat)] := (hk9 cb oB.lt (by omega)).trans oB
              have o1D := Dp.ownS_same q5 (hk9 p1 (World.ownsMap.lt q5) (by omega))
              have hitD := (hk9 (p1 + 2) (iter_lt hitB) (by omega)).trans hitB
              have bD : RowKit.Below w4.heap.size w4 wD := (below_drewN bB 1).grown r7 bB.size (fun q hq => by injection hq with hq; rw [HP1.out]; omega)
              clear r1 r3 r4 r7 hk9 oB o2B q5 hitB bB k1 k2 k1d k2d r2 ew2
              clear wC wB
              have c0 : wD.cell? ⟨cb, 0, none⟩ = some (.int .i64 1) := oD.cell 0
              have c1 : wD.cell? ⟨cb, 1, none⟩ = some (.int .i64 (s : Nat)) := oD.cell 1
              have c2 : wD.cell? ⟨cb, 2, none⟩ = some (.int .i64 (cn : Nat)) := oD.cell 2
              have c3' : wD.cell? ⟨cb, 3, none⟩ = some (.int .i64 zo) := oD.cell 3
              have c4 : wD.cell? ⟨cb, 4, none⟩ = some (.int .i64 (p : Nat)) := oD.cell 4
              have g1 : decide ((s : Int) < 0) = false := by simp
              have g2 : decide ((L : Int) ≤ (s : Int)) = false := by simp; omega
              have g2' : decide (L ≤ s) = false := by simp; omega
              have g3 : decide ((cn : Int) < 0) = false := by simp
              have g4 : decide ((ch : Int) ≤ (cn : Int)) = false := by simp; omega
              have g4' : decide (ch ≤ cn) = false := by simp; omega
              have g5 : Go.bits .and .i64 zo 4 = 0 := by rcases eo with rfl | rfl | rfl <;> decide
              obtain ⟨a9, c9, hv9, hl9, hc9, hr9⟩ := HF4.out.row p hp16
              have hlk := (HF4.out.below bD).look hp16
              rw [hv9] at hlk
              unfold kv at hlk
              obtain ⟨m9, hm9⟩ : ∃ q, (G p).length = q := ⟨_, rfl⟩
              have HM9 := Lib.hid hm9
              rw [hm9] at hlk hl9 hr9
              have HR9 := Lib.hid hr9
              unfold maxLen at hc9
              have hm963 : (m9 : Int) ≤ 9223372036854775807 := by omega
              clear hv9 hr9 hm9
              have HANY := Lib.hid (mt_there HGN.out hk16 HZM.out)
              go_wp2_with fail
              clear hlk g1 g2 g2' g3 g4 g4' g5 c0 c1 c2 c3' c4
              go_loopw [23, 144] (fun b i wr => ∃ t2 : Nat, i = .int .i64 t2 ∧ t2 ≤ m9 ∧ b = .bool (((G p).take t2).any (mtB k s cn zo)) ∧ RowKit.Below wD.heap.size wD wr) (fun _ i _ => m9 - (intOf i).toNat)
              case atStart => exact ⟨0, rfl, Nat.zero_le _, rfl, Below.refl _ _⟩
              case round =>
                obtain ⟨t2, rfl, ht2, rfl, b3⟩ := hrel
                have bR := bD.trans (b3.mono bD.size)
                by_cases ht9 : t2 < m9
                · obtain ⟨bo9, off9, rfl, hbo9, e0, e1, e2, e3, e4⟩ := crow HR9.out bR ht9
                  have hnx := any_next (q := mtB k s cn zo) (l := G p) (t := t2) (by rw [HM9.out]; exact ht9)
                  obtain ⟨y, hy⟩ : ∃ y, at_ (G p) t2 = y := ⟨_, rfl⟩
                  rw [hy] at e0 e1 e2 e3 e4 hnx
                  obtain ⟨yf, ys, yc, yo, yp⟩ := y
                  dsimp only at e0 e1 e2 e3 e4
                  obtain ⟨fb, hfb⟩ : ∃ q, ((G p).take t2).any (mtB k s cn zo) = q := ⟨_, rfl⟩
                  rw [hfb] at hnx ⊢
                  obtain ⟨y1, hy1⟩ : ∃ q, (ys == (s : Int)) = q := ⟨_, rfl⟩
                  obtain ⟨y2, hy2⟩ : ∃ q, (yc == (cn : Int)) = q := ⟨_, rfl⟩
                  obtain ⟨y3, hy3⟩ : ∃ q, (yp == (k : Int)) = q := ⟨_, rfl⟩
                  obtain ⟨y4, hy4⟩ : ∃ q, (Go.bits .and .i64 yo 3 == Go.bits .xor .i64 (Go.bits .and .i64 zo 3) 3) = q := ⟨_, rfl⟩
                  unfold mtB at hnx
                  dsimp only at hnx
                  rw [hy1, hy2, hy3, hy4] at hnx
                  have HN9 : Hid (((G p).take (t2 + 1)).any (mtB k s cn zo) = (fb || (y1 && (y2 && (y3 && y4))))) := Lib.hid hnx
                  have oR := (below_own b3 oD oD.lt).alloc (.cells #[.int .i64 yf, .int .i64 ys, .int .i64 yc, .int .i64 yo, .int .i64 yp] 50)
                  have oY := Own.new wr 50 #[.int .i64 yf, .int .i64 ys, .int .i64 yc, .int .i64 yo, .int .i64 yp]
                  have b4 := b3.alloc b3.size (.cells #[.int .i64 yf, .int .i64 ys, .int .i64 yc, .int .i64 yo, .int .i64 yp] 50)
                  clear hnx hfb hy bR
                  go_upto_region 25 with (fail)
                  obtain ⟨yb, hyb⟩ : ∃ q, wr.heap.size = q := ⟨_, rfl⟩
                  rw [hyb] at oY ⊢
                  generalize wr.alloc (.cells #[.int .i64 yf, .int .i64 ys, .int .i64 yc, .int .i64 yo, .int .i64 yp] 50) = wy at *
                  clear hyb e0 e1 e2 e3 e4 b3
                  have c1 : wy.cell? ⟨cb, 1, none⟩ = some (.int .i64 (s : Nat)) := oR.cell 1
                  have c2 : wy.cell? ⟨cb, 2, none⟩ = some (.int .i64 (cn : Nat)) := oR.cell 2
                  have c3' : wy.cell? ⟨cb, 3, none⟩ = some (.int .i64 zo) := oR.cell 3
                  have f1 : wy.cell? ⟨yb, 1, none⟩ = some (.int .i64 ys) := oY.cell 1
                  have f2 : wy.cell? ⟨yb, 2, none⟩ = some (.int .i64 yc) := oY.cell 2
                  have f3 : wy.cell? ⟨yb, 3, none⟩ = some (.int .i64 yo) := oY.cell 3
                  have f4 : wy.cell? ⟨yb, 4, none⟩ = some (.int .i64 yp) := oY.cell 4
                  cases fb
                  · cases y1
                    · go_wp2_with fail
                      exact ⟨⟨t2 + 1, by simp [intOf], by omega, by rw [HN9.out]; rfl, b4⟩, by simp [intOf]; omega⟩
                    cases y2
                    · go_wp2_with fail
                      exact ⟨⟨t2 + 1, by simp [intOf], by omega, by rw [HN9.out]; rfl, b4⟩, by simp [intOf]; omega⟩
                    cases y3
                    · go_wp2_with fail
                      exact ⟨⟨t2 + 1, by simp [intOf], by omega, by rw [HN9.out]; rfl, b4⟩, by simp [intOf]; omega⟩
                    go_wp2_with fail
                    exact ⟨⟨t2 + 1, by simp [intOf], by omega, by rw [HN9.out]; simp, b4⟩, by simp [intOf]; omega⟩
                  · go_wp2_with fail
                    exact ⟨⟨t2 + 1, by simp [intOf], by omega, by rw [HN9.out]; rfl, b4⟩, by simp [intOf]; omega⟩
                · obtain rfl : t2 = m9 := by omega
                  have hany : ((G p).take t2).any (mtB k s cn zo) = true := by
                    rw [List.take_of_length_le (by rw [HM9.out]; exact Nat.le_refl _)]
                    exact HANY.out
                  rw [hany]
                  clear hany
                  have o1R := Dp.ownS_same o1D (b3.block p1 (World.ownsMap.lt o1D))
                  have o2R := Dp.ownS_same r5 (b3.block (p1 + 1) (World.ownsMap.lt r5))
                  have hitR := (b3.block (p1 + 2) (iter_lt hitD)).trans hitD
                  go_wp2_with fail
                  exact ⟨⟨t + 1, D5, D6, by simp [intOf], by omega, o1R, hH5, o2R, hH6, hitR, bR⟩, by simp [intOf]; omega⟩
        · obtain rfl : t = m := by omega
          have hit9 := hit
          go_wp2_with fail
          refine ⟨⟨S ++ [e], seen.push e.born, clock, D3, D4, hit9, Nat.le_refl _, Lib.hid ?_, ?_, Lib.hid ?_, ?_, Lib.hid ?_, bz⟩, ?_⟩
          · rw [List.append_assoc]
            exact HPERM.out
          · rw [HVIS.out, List.length_append, List.length_map, HMM.out]
            exact o1
          · rw [HVIS.out]
            have := HC1.out
            rw [List.take_of_length_le (by rw [HMM.out]; exact Nat.le_refl _)] at this
            exact this
          · rw [HVIS.out, List.length_append, List.length_map, HMM.out]
            exact o2
          · rw [HVIS.out]
            have := HC2.out
            rw [List.take_of_length_le (by rw [HMM.out]; exact Nat.le_refl _)] at this
            exact this
          · rw [HST.out]
            unfold stillIn World.iterSeen
            rw [hit9]
            exact HSH.out
theorem walk (H : Type) (enc : TypeId × Value → H) : Walk H enc Tryz.prog 4 Tryz.f4 := by
  intro W base args ds p hval hA
  rw [Tryz.params4] at hA hval
  obtain ⟨v0, vs0, d0, ds0, p0, q0, e0, rfl, rfl, h0, hA⟩ := trodAll_cons hA
  obtain ⟨v1, vs1, d1, ds1, p1, q1, rfl, rfl, rfl, h1, hA⟩ := trodAll_cons hA
  obtain ⟨v2, vs2, d2, ds2, p2, q2, rfl, rfl, rfl, h2, hA⟩ := trodAll_cons hA
  obtain ⟨v3, vs3, d3, ds3, p3, q3, rfl, rfl, rfl, h3, hA⟩ := trodAll_cons hA
  obtain ⟨v4, vs4, d4, ds4, p4, q4, rfl, rfl, rfl, h4, hA⟩ := trodAll_cons hA
  obtain ⟨rfl, rfl, rfl⟩ := trodAll_nil hA
  obtain ⟨l⟩ := args
  dsimp only at e0
  subst e0
  obtain ⟨x, rfl, rfl, rfl, _⟩ := open_int Tryz.underlying3 (hval 0 _ v0 rfl rfl) h0
  obtain ⟨a, n, c, V, C, rfl, hn, hm, hV, hC⟩ := open_calls (hval 1 _ v1 rfl rfl) h1
  obtain ⟨y, rfl, rfl, rfl, _⟩ := open_int Tryz.underlying3 (hval 2 _ v2 rfl rfl) h2
  obtain ⟨z, rfl, rfl, rfl, _⟩ := open_int Tryz.underlying3 (hval 3 _ v3 rfl rfl) h3
  obtain ⟨z5, rfl, rfl, rfl, _⟩ := open_int Tryz.underlying3 (hval 4 _ v4 rfl rfl) h4
  exact body x a n c V C y z z5 W hn hm hV hC

set_option maxRecDepth 100000 in
theorem lifted (os : Os) (started : os.Started) (H : Type) (enc : TypeId × Value → H) :
    ReturnsInHanded {} Tryz.checked os 4 .any (Rows.allocCleanSpec.pre6 enc Tryz.prog Tryz.f4 Rows.allocCleanRow.domain false) (Rows.allocCleanSpec.post enc Tryz.prog Tryz.f4 false true false false) :=
  returnsInHanded_of_change (C := Tryz.checked) own started (by kernel_rfl) Tryz.func4
    (ChangeSpec.witness6 (enc := enc) (C := Tryz.checked) false ⟨#[], #[.int .i64 0, .slice none 0 0, .int .i64 0, .int .i64 0, .int .i64 0], []⟩ 8 (by kernel_rfl) (by kernel_rfl) (by kernel_rfl) (by kernel_rfl))
    fun W base args ds gs before hval hW _ _ => step_of_walk laidOut (by rw [Tryz.params4]; exact of_decide_eq_true (by kernel_rfl)) (by kernel_rfl) Tryz.underlying4 rfl
      (fun ds h => by
        rw [Tryz.params4] at h
        match ds, h with
        | [_, _, _, _, _], _ => rfl) (walk H enc) W base args ds gs before hval hW

theorem holds : Rows.AllocCleanSaid :=
  OpenClaim.holds_of_wide 4 Tryz.f4 rfl rfl rfl rfl rfl rfl rfl ⟨rfl, rfl, rfl, rfl, rfl⟩ rfl rfl rfl rfl rfl (by kernel_rfl) Tryz.func4 (by kernel_rfl)
    (of_decide_eq_true (by kernel_rfl)) (by unfold Func.isWrapper; first | (rw [if_pos (by decide +kernel)]; kernel_rfl) | (rw [if_neg (by decide +kernel)]; exact ⟨rfl, rfl⟩))
    (fun os started H enc _ => lifted os started H enc)
#print axioms holds
end Go.Proofs.YtahcplddonipcaaGreat.AllocClean
