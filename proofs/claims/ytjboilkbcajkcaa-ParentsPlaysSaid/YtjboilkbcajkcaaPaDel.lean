/-
  Package parents: slices.DeleteFunc, by whatever test that only makes memory.
-/
import Derived.Test.YtjboilkbcajkcaaPaFind
set_option maxRecDepth 100000
namespace Go.Proofs.Ytjboilkbcajkcaa.Pa
set_option linter.unusedVariables false
open Go.RowKit Lb

theorem zeroE (w : World) : (zeroValue 55).run Try.prog w = .ok (.agg #[.int .i64 0, .int .i64 0, .int .i64 0]) w := by kernel_rfl
theorem clear_run (W : World) (gb i n c C : Nat) (F : Nat → Value) (hB : Blk W gb 55 (C * 3) F) (hi : i < n) (hn : n ≤ C) :
    ∀ ty, (Builtin.clear_ #[51] ty #[.slice (some ⟨gb, i * 3, none⟩) (n - i) c]).run Try.prog W = .ok (.tuple #[]) (W.setCells gb (i * 3) (Builtin.zeroCells (Value.agg #[.int .i64 0, .int .i64 0, .int .i64 0]).cells (n - i)).toList) := fun ty => by
  have hlen : (Builtin.zeroCells (Value.agg #[.int .i64 0, .int .i64 0, .int .i64 0]).cells (n - i)).toList.length = (n - i) * 3 := by simp [size_zeroCells, Value.cells]
  have hth := hB.there (o := i * 3) (m := (n - i) * 3) (by omega)
  have hst := run_storeCells_cells (P := Try.prog) gb (i * 3) (Builtin.zeroCells (Value.agg #[.int .i64 0, .int .i64 0, .int .i64 0]).cells (n - i)).toList 0 W (fun j hj => by rw [Nat.add_zero]; exact (hth j (by omega)).1) (fun j hj => by rw [Nat.add_zero]; exact (hth j (by omega)).2) (by
    intro v hv
    simp only [Builtin.zeroCells, Value.cells, Array.toList_map, List.mem_map] at hv
    obtain ⟨q, _, rfl⟩ := hv
    have hq : q % 3 < 3 := Nat.mod_lt _ (by decide)
    show (((#[Value.int .i64 0, Value.int .i64 0, Value.int .i64 0] : Array Value)[q % 3]!).oneCell') = true
    rcases (show q % 3 = 0 ∨ q % 3 = 1 ∨ q % 3 = 2 by omega) with e | e | e <;> rw [e] <;> rfl)
  simp only [Nat.add_zero] at hst
  obtain ⟨m, hm⟩ : ∃ m, n - i = m + 1 := ⟨n - i - 1, by omega⟩
  rw [hm] at hst ⊢
  simp [Builtin.clear_, run_underlying Try.underlying51, zeroE, hst]
def KeptPost (base : Nat) (p : P → Bool) (l : List P) (v : Value) (w : World) (r : Ending) (w' : World) : Prop :=
  ∃ v', r = .returned v' ∧ MineK w' base 55 3 v' (kept p l l.length).length (pv (kept p l l.length)) ∧ w.grownBy w' v.ownBlock ∧ v'.ownBlock = v.ownBlock
theorem kept_put {p : P → Bool} {l : List P} {j : Nat} {V : Nat → Value} {x : P} (hj : j < l.length) (hx : at_ l j = x) (hp : p x = false) (hV : ∀ q, q < (kept p l j).length * 3 → V q = pv (kept p l j) q) :
    ∀ q, q < (kept p l (j + 1)).length * 3 → (if q = (kept p l j).length * 3 + 2 then .int .i64 x.h else if q = (kept p l j).length * 3 + 1 then .int .i64 x.r else if q = (kept p l j).length * 3 then .int .i64 x.n else V q) = pv (kept p l (j + 1)) q := by
  have e : kept p l (j + 1) = kept p l j ++ [x] := by rw [kept_succ p l j hj, hx, hp]; rfl
  intro q hq
  rw [e] at hq ⊢
  rw [List.length_append] at hq
  simp only [List.length_cons, List.length_nil] at hq
  obtain ⟨i, hi⟩ : ∃ i, (kept p l j).length = i := ⟨_, rfl⟩
  rw [hi] at hq hV ⊢
  have hat : at_ (kept p l j ++ [x]) i = x := by rw [at_snoc, hi, if_neg (by omega), if_pos rfl]
  obtain ⟨a0, a1, a2⟩ := pv_at (kept p l j ++ [x]) i
  rw [hat] at a0 a1 a2
  by_cases c2 : q = i * 3 + 2
  · rw [if_pos c2, c2, a2]
  · by_cases c1 : q = i * 3 + 1
    · rw [if_neg c2, if_pos c1, c1, a1]
    · by_cases c0 : q = i * 3
      · rw [if_neg c2, if_neg c1, if_pos c0, c0, a0]
      · rw [if_neg c2, if_neg c1, if_neg c0, hV q (by omega)]
        refine pv_congr ?_
        rw [at_snoc, hi, if_pos (by omega)]
set_option maxHeartbeats 400000 in
theorem dlf_any (base : Nat) (v : Value) (l : List P) (g : FuncId) (lb : Value) (p : P → Bool) (OK : World → Prop) (w : World) (eg : ∀ args w, (callFunc g args).run Try.prog w = .ok (.enter g args) w) (hg : Says g lb p OK) (hO : OK w) (hok : ∀ W W', W.grownBy W' v.ownBlock → OK W → OK W')
    (h : MineK w base 55 3 v l.length (pv l)) (hn : l.length ≤ 100000) :
    Calls Try.prog 37 #[v, .func (.func g) #[] #[lb]] w (KeptPost base p l v w) := by
  obtain ⟨A, c, rfl, hc1, hc2, hR⟩ := h.row
  unfold maxLen at hc2
  have hidx := idx_any A l.length c l g lb p OK w eg hg hO (fun W W' hb ho => hok W W' (below_grown hb _) ho) hR rfl hn
  have HI := Lib.hid hidx
  have HG := Lib.hid hg
  have HOK := Lib.hid hok
  have HO := Lib.hid hO
  have HH := Lib.hid h
  by_cases hall : ∀ j, j < l.length → p (at_ l j) = false
  · have HD : ∀ w', Below w.heap.size w w' → Hid (KeptPost base p l (.slice A l.length c) w (.returned (.slice A l.length c)) w') := fun w' hb => Lib.hid (by
      refine ⟨_, rfl, ?_, below_grown hb _, rfl⟩
      rw [kept_all p l l.length hall (Nat.le_refl _), List.take_of_length_le (Nat.le_refl _)]
      exact HH.out.below hb)
    have HAL := Lib.hid hall
    obtain ⟨n, hnn⟩ : ∃ n, l.length = n := ⟨_, rfl⟩
    have HL := Lib.hid hnn
    rw [hnn] at HI HD hc1
    clear hidx hg hok hO h hall hR hnn
    rw [HL.out]
    go_enter Try.func37, Try.ntmps37
    go_wp2_with (go_at_call 44; refine HI.out.mono ?_; rintro r w5 ⟨z, rfl, hz, b5⟩; obtain ⟨rfl, _⟩ := hz.resolve_right (fun ⟨k, hk, _, h1, _⟩ => by rw [HAL.out k hk] at h1; cases h1))
    go_ret
    exact (HD _ b5).out
  · have hex : ∃ k : Nat, k < l.length ∧ p (at_ l k) = true ∧ ∀ j, j < k → p (at_ l j) = false := by
      have hz : ∃ z, IdxOf p l z ∧ True := by
        by_cases hh : ∃ k, k < l.length ∧ p (at_ l k) = true
        · obtain ⟨k, hk, hp⟩ := hh
          induction k using Nat.strongRecOn with
          | ind k ih =>
            by_cases hm : ∃ j, j < k ∧ p (at_ l j) = true
            · obtain ⟨j, hj, hpj⟩ := hm
              exact ih j hj (by omega) hpj
            · exact ⟨k, .inr ⟨k, hk, rfl, hp, fun j hj => by
                cases e : p (at_ l j)
                · rfl
                · exact absurd ⟨j, hj, e⟩ hm⟩, trivial⟩
        · exact absurd (fun j hj => by
            cases e : p (at_ l j)
            · rfl
            · exact absurd ⟨j, hj, e⟩ hh) hall
      obtain ⟨z, hz, _⟩ := hz
      rcases hz with ⟨_, h1⟩ | ⟨k, hk, _, hp, h1⟩
      · exact absurd h1 hall
      · exact ⟨k, hk, hp, h1⟩
    obtain ⟨k0, hk0, hp0, hlow⟩ := hex
    have hz0 : ∀ z, IdxOf p l z → z = (k0 : Int) := fun z hz => by
      rcases hz with ⟨_, h1⟩ | ⟨k, hk, rfl, hp, h1⟩
      · rw [h1 k0 hk0] at hp0; cases hp0
      · rcases Nat.lt_trichotomy k k0 with e | e | e
        · rw [hlow k e] at hp; cases hp
        · rw [e]
        · rw [h1 k0 e] at hp0; cases hp0
    have HZ := Lib.hid hz0
    obtain ⟨gb, c', cs, hv, hgb, ho, _, _, hsz, hcv⟩ := h.block (by omega)
    injection hv with hv1 hv2 hv3
    subst hv1 hv3
    have hB0 := blk_of ho hsz
    have hV0 : ∀ q, q < l.length * 3 → cs.getD q undef = pv l q := fun q hq => by rw [Array.getD_eq_getD_getElem?, hcv q hq]; rfl
    have hkk : kept p l k0 = l.take k0 := kept_all p l k0 hlow (by omega)
    have hk1 : kept p l (k0 + 1) = l.take k0 := by rw [kept_succ p l k0 hk0, hp0, if_pos rfl, List.append_nil, hkk]
    have hkl : (l.take k0).length = k0 := by simp; omega
    have htk : ∀ q, q < k0 * 3 → pv l q = pv (l.take k0) q := fun q hq => pv_congr (by
      unfold at_
      rw [List.getD_eq_getElem?_getD, List.getD_eq_getElem?_getD, List.getElem?_take, if_pos (by omega)])
    obtain ⟨n, hnn⟩ : ∃ n, l.length = n := ⟨_, rfl⟩
    have HL := Lib.hid hnn
    have HKL := Lib.hid hkl
    have HK1 := Lib.hid hk1
    have HB0 := Lib.hid hB0
    have HV0 := Lib.hid hV0
    have HTK := Lib.hid htk
    rw [hnn] at HI hc1 hk0 hn HOK HV0
    have hglt := ho.lt
    have HHG := Lib.hid hgb
    have hne : ((k0 : Int) == -1) = false := by rw [beq_eq_false_iff_ne]; omega
    clear hidx hg hok hO h hall hR hcv hsz ho hB0 hV0 hkk hk1 hkl htk hz0 hlow hp0 hgb hnn hv2 HH
    rw [HL.out]
    go_enter Try.func37, Try.ntmps37
    go_wp2_with (go_at_call 44; refine HI.out.mono ?_; rintro r w5 ⟨z, rfl, hz, b5⟩; obtain rfl := HZ.out z hz)
    go_loopw [5, 6, 7] (fun s5 s6 s7 wr => ∃ (i j : Nat) (V : Nat → Value), s5 = .int .i64 i ∧ s6 = .int .i64 j ∧ j ≤ n ∧ i < j ∧ Blk wr gb 55 (c * 3) V ∧ Hid (∀ q, q < i * 3 → V q = pv (kept p l j) q) ∧ Hid (∀ q, i * 3 ≤ q → q < n * 3 → V q = pv l q) ∧ Hid ((kept p l j).length = i) ∧ Hid (OK wr) ∧ w.grownBy wr (some gb)) (fun _ j _ _ => n - (intOf j).toNat)
    case atStart => exact ⟨k0, k0 + 1, _, rfl, by simp, by omega, by omega, below_blk b5 HB0.out hglt, Lib.hid (fun q hq => by rw [HV0.out q (by omega), HTK.out q hq, HK1.out]), Lib.hid (fun q _ hq => HV0.out q hq), Lib.hid (by rw [HK1.out, HKL.out]), Lib.hid (HOK.out _ _ (below_grown b5 _) HO.out), below_grown b5 _⟩
    case round =>
      clear b5 hz
      obtain ⟨i, j, V, rfl, rfl, hj, hij, hB, HVl, HVh, HLN, HO1, g1⟩ := hrel
      by_cases hlt : j < n
      · obtain ⟨a0, a1, a2⟩ := pv_at l j
        have c0 : wr.cell? ⟨gb, j * 3, none⟩ = some (.int .i64 (at_ l j).n) := by rw [hB.cell (by omega), HVh.out _ (by omega) (by omega), a0]
        have c1 : wr.cell? ⟨gb, j * 3 + 1, none⟩ = some (.int .i64 (at_ l j).r) := by rw [hB.cell (by omega), HVh.out _ (by omega) (by omega), a1]
        have c2 : wr.cell? ⟨gb, j * 3 + 2, none⟩ = some (.int .i64 (at_ l j).h) := by rw [hB.cell (by omega), HVh.out _ (by omega) (by omega), a2]
        clear a0 a1 a2
        obtain ⟨x, hx⟩ : ∃ x, at_ l j = x := ⟨_, rfl⟩
        have HX := Lib.hid hx
        rw [hx] at c0 c1 c2
        clear hx
        have b2 := (Below.refl wr.heap.size wr).alloc (Nat.le_refl _) (.cells #[.int .i64 x.n, .int .i64 x.r, .int .i64 x.h] 55)
        have o2 : Own (wr.alloc (.cells #[.int .i64 x.n, .int .i64 x.r, .int .i64 x.h] 55)) wr.heap.size 55 #[.int .i64 x.n, .int .i64 x.r, .int .i64 x.h] := Own.new wr _ _
        have hO2 := HOK.out _ _ (below_grown b2 _) HO1.out
        have htk := HG.out x (wr.alloc (.cells #[.int .i64 x.n, .int .i64 x.r, .int .i64 x.h] 55)) hO2
        have HO2 := Lib.hid hO2
        clear hO2
        have hgl := hB.lt
        have e0 : (wr.alloc (.cells #[.int .i64 x.n, .int .i64 x.r, .int .i64 x.h] 55)).cell? ⟨wr.heap.size, 0, none⟩ = some (.int .i64 x.n) := o2.cell 0
        have e1 : (wr.alloc (.cells #[.int .i64 x.n, .int .i64 x.r, .int .i64 x.h] 55)).cell? ⟨wr.heap.size, 1, none⟩ = some (.int .i64 x.r) := o2.cell 1
        have e2 : (wr.alloc (.cells #[.int .i64 x.n, .int .i64 x.r, .int .i64 x.h] 55)).cell? ⟨wr.heap.size, 2, none⟩ = some (.int .i64 x.h) := o2.cell 2
        cases hs : p x
        · rw [hs] at htk
          have HS := Lib.hid hs
          clear hs
          go_wp2_with (go_at_fn g; refine htk.mono ?_; rintro r w3 ⟨rfl, b3⟩; have f0 := keep_cell b3 e0; have f1 := keep_cell b3 e1; have f2 := keep_cell b3 e2; have hB3 := below_blk (b2.trans (b3.mono b2.size)) hB hgl; have z0 : w3.frozen? ⟨gb, i * 3, none⟩ = false := hB3.free _; have z1 : w3.frozen? ⟨gb, i * 3 + 1, none⟩ = false := hB3.free _; have z2 : w3.frozen? ⟨gb, i * 3 + 2, none⟩ = false := hB3.free _; have y0 : w3.cell? ⟨gb, i * 3, none⟩ = some (V (i * 3)) := hB3.cell (by omega); have y1 : w3.cell? ⟨gb, i * 3 + 1, none⟩ = some (V (i * 3 + 1)) := hB3.cell (by omega); have y2 : w3.cell? ⟨gb, i * 3 + 2, none⟩ = some (V (i * 3 + 2)) := hB3.cell (by omega))
          have b4 := b2.trans (b3.mono b2.size)
          have hkp := kept_put (p := p) (l := l) (j := j) (V := V) (x := x) (by rw [HL.out]; exact hlt) HX.out HS.out (by rw [HLN.out]; exact HVl.out)
          have hk1 : (kept p l (j + 1)).length = i + 1 := by
            rw [kept_succ p l j (by rw [HL.out]; exact hlt), HX.out, HS.out]
            simp [HLN.out]
          rw [HLN.out, hk1] at hkp
          have kput := ((hB3.put (i * 3) (.int .i64 x.n)).put (i * 3 + 1) (.int .i64 x.r)).put (i * 3 + 2) (.int .i64 x.h)
          have gA : wr.grownBy (((w3.setCell ⟨gb, i * 3, none⟩ (.int .i64 x.n)).setCell ⟨gb, i * 3 + 1, none⟩ (.int .i64 x.r)).setCell ⟨gb, i * 3 + 2, none⟩ (.int .i64 x.h)) (some gb) := grown_setCells (below_grown b4 (some gb)) (.inl rfl) (i * 3) [.int .i64 x.n, .int .i64 x.r, .int .i64 x.h]
          exact ⟨⟨i + 1, j + 1, _, by simp, by simp, by omega, by omega, kput, Lib.hid hkp, Lib.hid (fun q h1 h2 => by
            show (if q = i * 3 + 2 then _ else if q = i * 3 + 1 then _ else if q = i * 3 then _ else V q) = _
            rw [if_neg (by omega), if_neg (by omega), if_neg (by omega)]
            exact HVh.out q (by omega) h2), Lib.hid hk1, Lib.hid (HOK.out _ _ gA HO1.out), grown_trans g1 gA (fun q e => .inl e)⟩, by simp [intOf]; omega⟩
        · rw [hs] at htk
          have HK : Hid (kept p l (j + 1) = kept p l j) := Lib.hid (by rw [kept_succ p l j (by rw [HL.out]; exact hlt), HX.out, hs]; simp)
          clear hs
          go_wp2_with (go_at_fn g; refine htk.mono ?_; rintro r w3 ⟨rfl, b3⟩)
          have b4 := b2.trans (b3.mono b2.size)
          exact ⟨⟨i, j + 1, V, rfl, by simp, by omega, by omega, below_blk b4 hB hgl, Lib.hid (by rw [HK.out]; exact HVl.out), HVh, Lib.hid (by rw [HK.out]; exact HLN.out), Lib.hid (HOK.out _ _ (below_grown b4 _) HO1.out), grown_trans g1 (below_grown b4 none) (fun q e => by cases e)⟩, by simp [intOf]; omega⟩
      · obtain rfl : n = j := by omega
        have hcl := clear_run wr gb i n (c - i) c V hB hij (by omega)
        have hci : ¬ c = i := by omega
        have k1 : i ≤ n := by omega
        have k2 : i ≤ c := by omega
        have hbl := hB.lt
        go_wp2_with fail
        go_ret
        refine ⟨.slice (some ⟨gb, 0, none⟩) i c, rfl, ?_, grown_setCells g1 (.inl rfl) _ _, rfl⟩
        rw [HL.out, HLN.out]
        exact mineK_made (hB.puts _ (i * 3)) HHG.out (by unfold maxLen; omega) (by omega) (fun q hq => by
          rw [putL_at, if_neg (by omega)]
          exact HVl.out q hq)
end Go.Proofs.Ytjboilkbcajkcaa.Pa
