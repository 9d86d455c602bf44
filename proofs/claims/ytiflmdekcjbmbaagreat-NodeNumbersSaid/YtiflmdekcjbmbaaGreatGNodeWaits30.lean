/-
  slices.Sort at int: the shelf's contract, over a slice that is owned. A field that is a slice of structs, in a row of structs that came in: its cells, field by field.
-/
import Derived.Test.YtiflmdekcjbmbaaGreatGNodeWaits10
import Derived.Ground.NamesProg
import Derived.Shelf.Slices.In.SortNone
import Derived.Sort.EveryDepth
import Derived.Sort.OwnSortedInts
import Derived.Test.YtiflmdekcjbmbaaGreatGNodeWaits01
set_option maxRecDepth 100000
namespace Go.Proofs
set_option linter.unusedVariables false
set_option linter.unusedSimpArgs false
open Go.Shelf
def Tryz.laysSort_ren : Go.Shelf.Ren := ⟨fun | 189 => 170 | 125 => 209 | 257 => 208 | 128 => 238 | 129 => 239 | 294 => 229 | 295 => 230 | 296 => 231 | 297 => 232 | 298 => 233 | 299 => 234 | 216 => 235 | 300 => 236 | 301 => 237 | 328 => 246 | 329 => 247 | 330 => 248 | 331 => 249 | 332 => 250 | 215 => 243 | 343 => 253 | n => n, fun | 28 => 23 | 3 => 3 | 46 => 110 | 0 => 0 | 51 => 117 | 53 => 68 | 4 => 4 | 183 => 281 | 182 => 280 | 131 => 135 | 5 => 5 | 9 => 9 | 218 => 289 | 222 => 293 | 228 => 297 | 229 => 298 | n => n, fun | n => n⟩
theorem Tryz.laysSort : Go.Proofs.Lays.n189 Tryz.prog Tryz.laysSort_ren := {
  mixed := by kernel_rfl
  f125 := Tryz.func209.trans (congrArg some (by kernel_rfl))
  f128 := Tryz.func238.trans (congrArg some (by kernel_rfl))
  f129 := Tryz.func239.trans (congrArg some (by kernel_rfl))
  f189 := Tryz.func170.trans (congrArg some (by kernel_rfl))
  f215 := Tryz.func243.trans (congrArg some (by kernel_rfl))
  f216 := Tryz.func235.trans (congrArg some (by kernel_rfl))
  f257 := Tryz.func208.trans (congrArg some (by kernel_rfl))
  f294 := Tryz.func229.trans (congrArg some (by kernel_rfl))
  f295 := Tryz.func230.trans (congrArg some (by kernel_rfl))
  f296 := Tryz.func231.trans (congrArg some (by kernel_rfl))
  f297 := Tryz.func232.trans (congrArg some (by kernel_rfl))
  f298 := Tryz.func233.trans (congrArg some (by kernel_rfl))
  f299 := Tryz.func234.trans (congrArg some (by kernel_rfl))
  f300 := Tryz.func236.trans (congrArg some (by kernel_rfl))
  f301 := Tryz.func237.trans (congrArg some (by kernel_rfl))
  f328 := Tryz.func246.trans (congrArg some (by kernel_rfl))
  f329 := Tryz.func247.trans (congrArg some (by kernel_rfl))
  f330 := Tryz.func248.trans (congrArg some (by kernel_rfl))
  f331 := Tryz.func249.trans (congrArg some (by kernel_rfl))
  f332 := Tryz.func250.trans (congrArg some (by kernel_rfl))
  f343 := Tryz.func253.trans (congrArg some (by kernel_rfl))
  t0 := Tryz.underlying0
  a0 := Tryz.isAgg0
  z0 := Tryz.sizeOf0
  v0 := Tryz.zeroValue0
  t3 := Tryz.underlying3
  a3 := Tryz.isAgg3
  z3 := Tryz.sizeOf3
  v3 := Tryz.zeroValue3
  t4 := Tryz.underlying4
  a4 := Tryz.isAgg4
  z4 := Tryz.sizeOf4
  v4 := Tryz.zeroValue4
  t5 := Tryz.underlying5
  a5 := Tryz.isAgg5
  z5 := Tryz.sizeOf5
  v5 := Tryz.zeroValue5
  t9 := Tryz.underlying9
  a9 := Tryz.isAgg9
  z9 := Tryz.sizeOf9
  v9 := Tryz.zeroValue9
  t28 := Tryz.underlying23
  a28 := Tryz.isAgg23
  z28 := Tryz.sizeOf23
  v28 := Tryz.zeroValue23
  t46 := Tryz.underlying110
  a46 := Tryz.isAgg110
  z46 := Tryz.sizeOf110
  v46 := Tryz.zeroValue110
  t51 := Tryz.underlying117
  a51 := Tryz.isAgg117
  z51 := Tryz.sizeOf117
  v51 := Tryz.zeroValue117
  t53 := Tryz.underlying68
  a53 := Tryz.isAgg68
  z53 := Tryz.sizeOf68
  v53 := Tryz.zeroValue68
  t131 := Tryz.underlying135
  a131 := Tryz.isAgg135
  z131 := Tryz.sizeOf135
  v131 := Tryz.zeroValue135
  t182 := Tryz.underlying280
  a182 := Tryz.isAgg280
  z182 := Tryz.sizeOf280
  v182 := Tryz.zeroValue280
  t183 := Tryz.underlying281
  a183 := Tryz.isAgg281
  z183 := Tryz.sizeOf281
  v183 := Tryz.zeroValue281
  t218 := Tryz.underlying289
  a218 := Tryz.isAgg289
  z218 := Tryz.sizeOf289
  v218 := Tryz.zeroValue289
  t222 := Tryz.underlying293
  a222 := Tryz.isAgg293
  z222 := Tryz.sizeOf293
  v222 := Tryz.zeroValue293
  t228 := Tryz.underlying297
  a228 := Tryz.isAgg297
  z228 := Tryz.sizeOf297
  v228 := Tryz.zeroValue297
  t229 := Tryz.underlying298
  a229 := Tryz.isAgg298
  z229 := Tryz.sizeOf298
  v229 := Tryz.zeroValue298 }
end Go.Proofs
namespace Go.Proofs.YtiflmdekcjbmbaaGreat.Pa
set_option linter.unusedVariables false
set_option linter.unusedSimpArgs false
open Go.RowKit Lb Go.Shelf Go.Sort

theorem zlist (zs : List Int) : (List.range zs.length).map (zval zs) = zs.map (Value.int .i64) := by
  apply List.ext_getElem
  · simp
  · intro i h1 h2
    simp at h1
    simp [zval, List.getD, h1]
theorem sort_ok : SortOk := by
  intro base n v zs w h hz hn
  subst hz
  have hs : (srtd zs).length = zs.length := List.length_mergeSort _
  unfold Mine at h
  rw [zlist] at h
  obtain ⟨h1, h2⟩ := id h
  by_cases h0 : zs.length = 0
  · obtain rfl : zs = [] := List.length_eq_zero_iff.1 h0
    have hv : ∃ p cap, v = .slice p 0 cap := by
      rcases h2 with ⟨hv, _⟩ | ⟨g, cap, cur, hv, _⟩
      · exact ⟨_, _, hv⟩
      · exact ⟨_, _, hv⟩
    obtain ⟨p, cap, rfl⟩ := hv
    refine (calls_of_every_depth fun D => AnyS.slices_Sort_int_none_alone Tryz.laysSort D p cap w).mono ?_
    rintro r w' ⟨rfl, rfl⟩
    exact ⟨rfl, h, World.grownBy.refl _ _⟩
  · rcases h2 with ⟨_, hv⟩ | ⟨g, cap, cur, rfl, hg, hh, hc, hm, hsz, ht⟩
    · exact absurd (by simpa using hv) h0
    · rw [Nat.mul_one] at ht
      have hH : Holds (Value.int .i64) w g 0 zs.toArray := holds_of_blockI hh ht
      have hgl : g < w.heap.size := (Array.getElem?_eq_some_iff.1 hh).1
      refine (calls_of_every_depth fun D => AnyS.slices_Sort_int_alone Tryz.laysSort D g 0 cap zs w hH hgl (by omega)).mono ?_
      rintro r w' ⟨rfl, q, os, rfl⟩
      refine ⟨rfl, ?_, grownBy_sortedI _⟩
      unfold Mine
      have hl := zlist (srtd zs)
      rw [hs] at hl
      rw [hl]
      exact ownsRow_sortedI hs hg hh hc hm hsz
end Go.Proofs.YtiflmdekcjbmbaaGreat.Pa
set_option maxRecDepth 100000
namespace Go.Proofs.YtiflmdekcjbmbaaGreat.Lb
set_option linter.unusedVariables false
set_option linter.unusedSimpArgs false
open Go.RowKit Go.ChangeShapes Go.WideShapes Go.ChangeAt Go.Deep

section
variable {H : Type} {enc : TypeId × Value → H} {P : Program} {w : World} {base : Nat}
theorem open_cell_struct {t e : TypeId} {fs : Array Field} {v : Value} {y : DataW H × List MemPlace} {fuel : Nat} (ht : P.underlying t = some (.slice e)) (he : P.underlying e = some (.struct fs)) (hone : oneCellFields P fs = true)
    (hC : P.cellsOf e = fs.size) (hpos : 0 < fs.size) (hf : DataW.trod enc P w 0 (fun _ => true) true fuel t [v] = some y) :
    ∃ a n c V, v = .slice a n c ∧ n ≤ c ∧ c ≤ maxLen ∧ Row w a (n * fs.size) V ∧ ∀ i, i < n → ∀ (j : Nat) (g : Field), fs[j]? = some g → ∃ f y, DataW.trod enc P w 0 (fun _ => true) true f g.type [V (i * fs.size + j)] = some y := by
  obtain ⟨d, p⟩ := y
  rcases open_slice ht hf with ⟨hcs, _⟩ | ⟨x, l, c, m, n, D, Pl, hcs, _, hl, hm, hmm, _, hx⟩
  · simp at hcs
    subst hcs
    exact ⟨none, 0, 0, fun _ => undef, rfl, Nat.le_refl _, Nat.zero_le _, by rw [Nat.zero_mul]; exact Row.nil _ _ _, fun i hi => absurd hi (by omega)⟩
  · simp at hcs
    subst hcs
    simp only [if_true] at hmm
    subst hmm
    obtain ⟨b, off, spot⟩ := x
    obtain ⟨C, hCs⟩ := choose_fn (q := fun i cs' => w.cells? 0 ((⟨b, off, spot⟩ : Addr).add (i * P.cellsOf e)) (P.cellsOf e) = some cs' ∧ DataW.trod enc P w 0 (fun _ => true) true n e cs' = some (D i, Pl i)) ([] : List Value) (n := l)
      (fun i hi => hx i (by omega))
    rw [hC] at hCs
    have hcell : ∀ i, i < l → ∀ j, j < fs.size → w.cell? (((⟨b, off, spot⟩ : Addr).add (i * fs.size)).add j) = (C i)[j]? := fun i hi => (World.cells?_some (hCs i hi).1).2.2
    have hlen : ∀ i, i < l → (C i).length = fs.size := fun i hi => (World.cells?_some (hCs i hi).1).2.1
    refine ⟨_, _, _, fun q => ((C (q / fs.size))[q % fs.size]?).getD undef, rfl, hl, hm, fun hn => ?_, fun i hi j g hj => ?_⟩
    · have hl0 : 0 < l := Nat.pos_of_mul_pos_right hn
      have h0 := hcell 0 hl0 0 hpos
      rw [List.getElem?_eq_getElem (by rw [hlen 0 hl0]; exact hpos)] at h0
      have hspot : spot = none := by simpa [Addr.add] using World.cell?_spot h0
      subst hspot
      refine ⟨b, off, rfl, by simpa [Addr.add] using lt_of_cell h0, fun q hq => ?_⟩
      have hi : q / fs.size < l := Nat.div_lt_of_lt_mul (by rw [Nat.mul_comm]; exact hq)
      have hj : q % fs.size < fs.size := Nat.mod_lt _ hpos
      have h1 := hcell _ hi _ hj
      have he : (((⟨b, off, none⟩ : Addr).add (q / fs.size * fs.size)).add (q % fs.size)) = ⟨b, off + q, none⟩ := by
        have hq' : q / fs.size * fs.size + q % fs.size = q := Nat.div_add_mod' q fs.size
        unfold Addr.add
        split <;> split <;> simp <;> omega
      rw [he] at h1
      have hjc : q % fs.size < (C (q / fs.size)).length := by rw [hlen _ hi]; exact hj
      rw [h1]
      simp only [List.getElem?_eq_getElem hjc, Option.getD_some]
    · obtain ⟨ys, n', _, _, hcl, hyl, hg⟩ := DataW.trod_struct he (hCs i hi).2
      obtain ⟨ho, hk⟩ := hone_of hone j g hj
      have hjl : j < fs.size := (Array.getElem?_eq_some_iff.1 hj).1
      have h1 := hg j g hj
      rw [ho, hk] at h1
      have hcj : j < (C i).length := by rw [hlen i hi]; exact hjl
      have e1 : ((C i).drop j).take 1 = [(C i)[j]] := by
        rw [List.drop_eq_getElem_cons hcj]
        rfl
      have e2 : (i * fs.size + j) / fs.size = i := by rw [Nat.add_comm, Nat.add_mul_div_right _ _ hpos, Nat.div_eq_of_lt hjl, Nat.zero_add]
      have e3 : (i * fs.size + j) % fs.size = j := by rw [Nat.add_comm, Nat.add_mul_mod_self_right, Nat.mod_eq_of_lt hjl]
      rw [e1, List.getElem?_eq_getElem (by omega)] at h1
      exact ⟨n', _, by simp only [e2, e3, List.getElem?_eq_getElem hcj, Option.getD_some]; exact h1⟩
end
end Go.Proofs.YtiflmdekcjbmbaaGreat.Lb
