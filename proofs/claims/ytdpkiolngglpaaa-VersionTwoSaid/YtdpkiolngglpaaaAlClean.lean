/-
  Package alloc (chapter 22): Clean, of any map, whichever order it is ranged over in.
-/
import Derived.Test.YtdpkiolngglpaaaAlMath
import Derived.Test.YtdpkiolngglpaaaMapRange
import Derived.Test.YtdpkiolngglpaaaCeMath
import Derived.Test.YtdpkiolngglpaaaCut
import Derived.Test.YtdpkiolngglpaaaOwnK
import Derived.Deep.Cut
import Derived.Deep.CutRange
import Derived.Deep.CutBlock
import Derived.Deep.DeepCutAuto
import Derived.BigRegion
import Derived.IntWalk
set_option maxRecDepth 100000
namespace Go.Proofs.Ytdpkiolngglpaaa.Al
set_option linter.unusedVariables false
set_option linter.unusedSimpArgs false
open Go.RowKit Lb Cl Ce Go.Sort Go.Shelf

/-- Block bm is a map with the entries es; E: what each says: whose, which cells. -/
structure MapOf (w : World) (bm : Nat) (es : Array MapEntry) (clock : Nat) (E : MapEntry → Int × List C) : Prop where
  heap : w.heap[bm]? = some (.map es clock)
  old : ∀ x ∈ es.toList, x.born < clock
  nd : (es.toList.map (·.born)).Nodup
  key : ∀ x ∈ es.toList, x.key = .int .i64 (E x).1
  val : ∀ x ∈ es.toList, ∃ a c, x.val = .slice a (E x).2.length c ∧ (E x).2.length ≤ c ∧ c ≤ maxLen ∧ Row w a ((E x).2.length * 5) (lv (E x).2)
theorem infoO : (Try.prog.info? 82).map (fun i => (i.zero, i.size, i.bytes)) = some (some (.agg #[.int .i64 0, .int .i64 0, .int .i64 0, .int .i64 0, .int .i64 0, .int .i64 0]), 6, 48) := by kernel_rfl
def ov (l : List Ow) (q : Nat) : Value := ((encO (l.getD (q / 6) default))[q % 6]?).getD undef
theorem ov_one (l : List Ow) (q : Nat) : (ov l q).oneCell' = true := by
  unfold ov encO
  rcases (show q % 6 = 0 ∨ q % 6 = 1 ∨ q % 6 = 2 ∨ q % 6 = 3 ∨ q % 6 = 4 ∨ q % 6 = 5 by omega) with h | h | h | h | h | h <;> rw [h] <;> rfl
theorem ov_snoc (l : List Ow) (x : Ow) (q : Nat) (h : q < (l.length + 1) * 6) : (if q < l.length * 6 then ov l q else ov [x] (q - l.length * 6)) = ov (l ++ [x]) q := by
  unfold ov
  by_cases h1 : q < l.length * 6
  · rw [if_pos h1, List.getD_eq_getElem?_getD, List.getD_eq_getElem?_getD, List.getElem?_append_left (by omega)]
  · have e1 : q / 6 = l.length := by omega
    have e2 : (q - l.length * 6) / 6 = 0 := by omega
    have e3 : (q - l.length * 6) % 6 = q % 6 := by omega
    rw [if_neg h1, e1, e2, e3]
    simp
theorem flat_ov {l : List Ow} {j : Nat} (hj : j < l.length * 6) : (flatK encO 6 l.toArray)[j]! = ov l j := by
  have hi : j / 6 < l.length := by omega
  rw [get_flatK _ _ _ _ (by simpa using hj)]
  have e : l.toArray[j / 6]! = l.getD (j / 6) default := by
    rw [List.getD_eq_getElem?_getD, List.getElem?_eq_getElem hi, getElem!_pos l.toArray (j / 6) (by simpa using hi)]
    rfl
  unfold ov
  rw [e]
  unfold encO
  rcases (show j % 6 = 0 ∨ j % 6 = 1 ∨ j % 6 = 2 ∨ j % 6 = 3 ∨ j % 6 = 4 ∨ j % 6 = 5 by omega) with h | h | h | h | h | h <;> rw [h] <;> rfl
theorem holds_ov {w : World} {g : Nat} {e : TypeId} {cs : Array Value} {l : List Ow} (h : Own w g e cs) (hc : ∀ i, i < l.length * 6 → cs[i]? = some (ov l i)) : HoldsK encO 6 w g 0 l.toArray := by
  intro j hj
  have hj2 : j < l.length * 6 := by simpa using hj
  refine ⟨?_, h.free _⟩
  rw [Nat.zero_add, h.cell, hc j hj2, flat_ov hj2]
  rfl
theorem row_ov {w : World} {g : Nat} {l : List Ow} (h : HoldsK encO 6 w g 0 l.toArray) (hg : g < w.heap.size) : Row w (some ⟨g, 0, none⟩) (l.length * 6) (ov l) := by
  intro _
  refine ⟨g, 0, rfl, hg, fun j hj => ?_⟩
  have := (h j (by simpa using hj)).1
  rw [this, flat_ov hj]
  rfl
theorem size_o : ∀ w : World, (Go.sizeOf 82).run Try.prog w = .ok 6 w := fun _ => rfl
theorem clB_no {L : List (Int × List C)} {e : Int × List C} (he : e ∈ L) (h : okE e = false) : clB L = false := by
  unfold clB
  have : L.all okE = false := by
    rw [Bool.eq_false_iff]
    intro h2
    rw [List.all_eq_true] at h2
    rw [h2 e he] at h
    cases h
  rw [this]
  rfl
theorem okE_node {nd : Int} {l : List C} (h0 : 0 < l.length) (h : ndB nd = false) : okE (nd, l) = false := by
  unfold okE
  have : l.isEmpty = false := by
    cases l with
    | nil => cases h0
    | cons x l => rfl
  simp only [this, h]
  rfl
theorem okE_long {nd : Int} {l : List C} (h : 800 < l.length) : okE (nd, l) = false := by
  unfold okE
  have : decide (l.length ≤ 800) = false := by simp; omega
  simp only [this, Bool.false_and, Bool.and_false]
theorem at_mem {l : List C} {k : Nat} (hk : k < l.length) : at_ l k ∈ l := by
  unfold at_
  rw [List.getD_eq_getElem?_getD, List.getElem?_eq_getElem hk]
  exact List.getElem_mem hk
theorem okE_cell {nd : Int} {l : List C} {k : Nat} (hk : k < l.length) (h : okc (at_ l k) = false) : okE (nd, l) = false := by
  rw [Bool.eq_false_iff]
  intro h2
  unfold okE at h2
  rw [Bool.and_eq_true, Bool.and_eq_true, List.all_eq_true] at h2
  rw [h2.2.2 _ (at_mem hk)] at h
  cases h
theorem okE_yes {nd : Int} {l : List C} (h1 : l.length = 0 ∨ ndB nd = true) (h2 : l.length ≤ 800) (h3 : ∀ j, j < l.length → okc (at_ l j) = true) : okE (nd, l) = true := by
  unfold okE
  rw [Bool.and_eq_true, Bool.and_eq_true, List.all_eq_true, Bool.or_eq_true]
  refine ⟨?_, by simpa using h2, fun x hx => ?_⟩
  · rcases h1 with h | h
    · exact .inl (by rw [List.length_eq_zero_iff] at h; rw [h]; rfl)
    · exact .inr h
  · obtain ⟨j, hj, e⟩ := List.mem_iff_getElem.1 hx
    have := h3 j hj
    unfold at_ at this
    rw [List.getD_eq_getElem?_getD, List.getElem?_eq_getElem hj] at this
    rw [← e]
    exact this
theorem ofE_take {nd : Int} {l : List C} {k : Nat} (hk : k < l.length) : ofE (nd, l.take (k + 1)) = ofE (nd, l.take k) ++ [⟨at_ l k, nd⟩] := by
  unfold ofE at_
  rw [List.getD_eq_getElem?_getD, List.getElem?_eq_getElem hk, List.take_add_one, List.getElem?_eq_getElem hk, List.map_append]
  rfl
theorem ofE_len (e : Int × List C) : (ofE e).length = e.2.length := by
  unfold ofE
  rw [List.length_map]
theorem allO_snoc (L : List (Int × List C)) (e : Int × List C) : allO (L ++ [e]) = allO L ++ ofE e := by
  unfold allO
  rw [List.flatMap_append]
  simp
theorem allO_le {L M : List (Int × List C)} {e : Int × List C} {R : List (Int × List C)} (h : (L ++ e :: R).Perm M) : (allO L).length + e.2.length ≤ (allO M).length := by
  rw [← (allO_perm h).length_eq]
  unfold allO
  rw [List.flatMap_append, List.flatMap_cons, List.length_append, List.length_append, ofE_len]
  omega
/-- Element k of a row. -/
def og (M : List Ow) (k : Nat) : Ow := M.getD k default
def clashO (M : List Ow) (p q : Nat) : Bool := clashB (og M p).c (og M q).c (og M p).n (og M q).n
theorem noC_is (M : List Ow) : NoC M ↔ ∀ p q, p < q → q < M.length → clashO M p q = false := by
  unfold NoC
  rw [List.pairwise_iff_getElem]
  have e : ∀ k (hk : k < M.length), og M k = M[k] := fun k hk => by
    unfold og
    rw [List.getD_eq_getElem?_getD, List.getElem?_eq_getElem hk]
    rfl
  constructor
  · intro h p q hpq hq
    have := h p q (by omega) hq hpq
    unfold clashO
    rw [e p (by omega), e q hq]
    exact this
  · intro h i j hi hj hij
    have := h i j hij hj
    unfold clashO at this
    rw [e i hi, e j hj] at this
    exact this
theorem og_arr {M : List Ow} {k : Nat} (hk : k < M.length) : M.toArray[k]! = og M k := by
  unfold og
  rw [List.getD_eq_getElem?_getD, List.getElem?_eq_getElem hk, getElem!_pos M.toArray k (by simpa using hk)]
  rfl
theorem ov_at (M : List Ow) (k j : Nat) (hj : j < 6) : ov M (k * 6 + j) = ((encO (og M k))[j]?).getD undef := by
  unfold ov og
  rw [show (k * 6 + j) / 6 = k by omega, show (k * 6 + j) % 6 = j by omega]
theorem og_mem {M : List Ow} {k : Nat} (hk : k < M.length) : og M k ∈ M := by
  unfold og
  rw [List.getD_eq_getElem?_getD, List.getElem?_eq_getElem hk]
  exact List.getElem_mem hk
/-- The six cells of row k, in a later world. -/
theorem orow {w w' : World} {A : Option Addr} {n k d : Nat} {M : List Ow} (h : Row w A (n * 6) (fun i => ov M (d * 6 + i))) (hb : Below w.heap.size w w') (hk : k < n) :
    ∃ b off, A = some ⟨b, off, none⟩ ∧ b < w.heap.size ∧ w'.cell? ⟨b, off + k * 6, none⟩ = some (.int .i64 (og M (d + k)).c.f) ∧ w'.cell? ⟨b, off + k * 6 + 1, none⟩ = some (.int .i64 (og M (d + k)).c.s) ∧ w'.cell? ⟨b, off + k * 6 + 2, none⟩ = some (.int .i64 (og M (d + k)).c.c) ∧
      w'.cell? ⟨b, off + k * 6 + 3, none⟩ = some (.int .i64 (og M (d + k)).c.o) ∧ w'.cell? ⟨b, off + k * 6 + 4, none⟩ = some (.int .i64 (og M (d + k)).c.p) ∧ w'.cell? ⟨b, off + k * 6 + 5, none⟩ = some (.int .i64 (og M (d + k)).n) := by
  obtain ⟨b, off, h1, h2, h3⟩ := h.at_struct hb hk (by decide)
  have e : ∀ j, j < 6 → ov M (d * 6 + (k * 6 + j)) = ((encO (og M (d + k)))[j]?).getD undef := fun j hj => by
    rw [← ov_at M (d + k) j hj]
    congr 1
    omega
  refine ⟨b, off, h1, h2, ?_, ?_, ?_, ?_, ?_, ?_⟩
  · exact (h3 0 (by decide)).trans (congrArg some (e 0 (by decide)))
  · exact (h3 1 (by decide)).trans (congrArg some (e 1 (by decide)))
  · exact (h3 2 (by decide)).trans (congrArg some (e 2 (by decide)))
  · exact (h3 3 (by decide)).trans (congrArg some (e 3 (by decide)))
  · exact (h3 4 (by decide)).trans (congrArg some (e 4 (by decide)))
  · exact (h3 5 (by decide)).trans (congrArg some (e 5 (by decide)))
theorem sorted_any (base : Nat) (v : Value) (L : List Ow) (w : World) (h : MineK w base 82 6 v L.length (ov L)) (hL : L.length ≤ 1000000) :
    ∃ A c, v = .slice A L.length c ∧ L.length ≤ c ∧ c ≤ maxLen ∧ Calls Try.prog 46 #[.slice A L.length c, .func (.func 47) #[] #[]] w fun e w' =>
      e = .returned (.tuple #[]) ∧ ∃ M : List Ow, M.Perm L ∧ SortedIn (ltOf cfO) 0 M.length M.toArray ∧ Row w' A (M.length * 6) (ov M) ∧ ∀ B, B ≤ base → B ≤ w.heap.size → Below B w w' := by
  by_cases h0 : L.length = 0
  · obtain ⟨a, c, rfl, h1, h2, _⟩ := h.row
    refine ⟨a, c, rfl, h1, h2, ?_⟩
    rw [h0]
    refine (sort_none c a _ w).mono ?_
    rintro e w' ⟨rfl, rfl⟩
    refine ⟨rfl, [], ?_, fun i j _ _ hj => by simp at hj, by rw [List.length_nil, Nat.zero_mul]; exact Row.nil _ _ _, fun B _ _ => Below.refl _ _⟩
    rw [List.length_eq_zero_iff] at h0
    rw [h0]
  · obtain ⟨g, c, cs, rfl, hg, ho, h1, h2, h3, h4⟩ := h.block (by omega)
    refine ⟨_, c, rfl, h1, h2, ?_⟩
    have hh := holds_ov ho h4
    have := sort_any g c L.toArray w hh ho.lt (by simp; omega)
    rw [List.size_toArray] at this
    refine this.mono ?_
    rintro e w' ⟨rfl, d', hp, hs, hh', j⟩
    obtain ⟨hp1, _, hp2⟩ := hp
    rw [List.size_toArray] at hp1
    have e1 : d'.toList.length = L.length := by simpa using hp1
    refine ⟨rfl, d'.toList, ?_, ?_, ?_, fun B hB hB2 => j.below (Below.refl _ _) (Nat.le_trans hB hg) hB2⟩
    · have x1 : d'.extract 0 L.length = d' := by
        have hp3 : d'.size = L.length := by simpa using hp1
        rw [← hp3]
        exact Array.extract_size
      have x2 : L.toArray.extract 0 L.length = L.toArray := by
        have := Array.extract_size (xs := L.toArray)
        rwa [List.size_toArray] at this
      rw [x1, x2] at hp2
      simpa using hp2
    · rw [e1]
      simpa using hs
    · refine row_ov (g := g) (by simpa using hh') ?_
      exact Nat.lt_of_lt_of_le ho.lt j.size
/-- How many entries are still to come. -/
def stillTo (es : Array MapEntry) (r : Nat) (w : World) : Nat := (leftOf es (World.iterSeen w r)).size
set_option maxHeartbeats 8000000 in
theorem clean_any (bm : Nat) (es : Array MapEntry) (clock : Nat) (E : MapEntry → Int × List C) (w : World) (h : MapOf w bm es clock E) (hT : (allO (es.toList.map E)).length ≤ 1000000) :
    Calls Try.prog 36 #[.map (some bm)] w fun r w' => r = .returned (.bool (clB (es.toList.map E))) ∧ Below w.heap.size w w' := by
  obtain ⟨i0, hi0, hz0, hz1, hz2⟩ := info_parts infoO
  have hrange := run_range_map (P := Try.prog) w 32 3 33 bm es clock (by kernel_rfl) h.heap
  have hbm := iter_lt h.heap
  have H := Lib.hid h
  clear h
  go_enter Try.func36, Try.ntmps36
  go_wp2_with fail
  obtain ⟨r, hr⟩ : ∃ r, w.heap.size = r := ⟨_, rfl⟩
  have hb0 : Below r w (w.alloc (.mapIter (some bm) clock #[] clock)) := hr ▸ (Below.refl w.heap.size w).alloc (Nat.le_refl _) _
  have hit0 : (w.alloc (.mapIter (some bm) clock #[] clock)).heap[r]? = some (.mapIter (some bm) clock #[] clock) := by rw [← hr]; exact heap_alloc_new w _
  generalize w.alloc (.mapIter (some bm) clock #[] clock) = w1 at *
  rw [hr]
  clear hrange
  have hbm2 : bm < r := hr ▸ hbm
  go_loopw [3] (fun v wr => ∃ (S : List MapEntry) (seen : Array Nat) (c0 : Nat), wr.heap[r]? = some (.mapIter (some bm) clock seen c0) ∧ clock ≤ c0 ∧ Hid ((S ++ (leftOf es seen).toList).Perm es.toList ∧ ∀ e ∈ S, okE (E e) = true) ∧ MineK wr (r + 1) 82 6 v (allO (S.map E)).length (ov (allO (S.map E))) ∧ Below r w wr) (fun _ wr => stillTo es r wr)
  case atStart => exact ⟨[], #[], clock, hit0, Nat.le_refl _, Lib.hid ⟨by rw [left_all]; exact List.Perm.refl _, fun e he => by cases he⟩, MineK.nil _ _ _ _ _, hb0⟩
  case round =>
    clear hb0 hit0
    obtain ⟨S, seen, c0, hit, hc0, HS, hm, bb⟩ := hrel
    have hst : stillTo es r wr = (leftOf es seen).size := by unfold stillTo World.iterSeen; rw [hit]
    have hmap : wr.heap[bm]? = some (.map es clock) := (bb.block bm hbm2).trans H.out.heap
    have HST := Lib.hid hst
    clear hst
    go_wp2_with (at_next; refine wpList_next_raw rfl (.tmp 13) rfl r bm clock c0 seen es clock rfl hit hmap H.out.old hc0 ?_ ?_)
    · intro hdone
      -- <S
      have hl0 : (leftOf es seen).toList = [] := by
        rw [← List.length_eq_zero_iff]
        simpa using hdone
      obtain ⟨hS, hok⟩ := HS.out
      rw [hl0, List.append_nil] at hS
      obtain ⟨L, hLd⟩ : ∃ L, allO (S.map E) = L := ⟨_, rfl⟩
      have hLn : L.length ≤ 1000000 := by
        rw [← hLd, (allO_perm (hS.map E)).length_eq]
        exact hT
      have hgood : ∀ x ∈ L, x.c.may = true ∧ ndB x.n = true := by
        rw [← hLd]
        exact good_of (fun e he => by
          obtain ⟨x, hx, rfl⟩ := List.mem_map.1 he
          exact hok x hx)
      have hcl : clB (es.toList.map E) = decide (NoC L) := by
        rw [← clB_perm (hS.map E), ← hLd]
        unfold clB
        rw [List.all_eq_true.2 (fun e he => by
          obtain ⟨x, hx, rfl⟩ := List.mem_map.1 he
          exact hok x hx), Bool.true_and]
      rw [hLd] at hm
      have hrw : r + 1 ≤ wr.heap.size := iter_lt hit
      obtain ⟨A, c, hv, hn, hc, hsort⟩ := sorted_any (r + 1) _ L wr hm hLn
      rw [hv]
      have HGOOD := Lib.hid hgood
      have HCL := Lib.hid hcl
      clear hv hm hit hS hok hl0 hdone hLd hgood hcl hmap HS HST
      go_wp2_with fail
      refine hsort.mono ?_
      rintro q w5 ⟨rfl, M, hMp, hMs, hMr, hMb⟩
      have b5 := bb.trans ((hMb r (by omega) (by omega)).mono (Nat.le_refl _))
      have hML := hMp.length_eq
      have HCM : Hid (clB (es.toList.map E) = decide (NoC M)) := Lib.hid (by rw [HCL.out, decide_eq_decide.2 (noC_perm hMp)])
      have HGM : Hid (∀ x ∈ M, x.c.may = true ∧ ndB x.n = true) := Lib.hid (fun x hx => HGOOD.out x (hMp.mem_iff.1 hx))
      have HMS := Lib.hid hMs
      obtain ⟨n, hn0⟩ : ∃ n, L.length = n := ⟨_, rfl⟩
      rw [hn0] at hn hLn hML ⊢
      rw [hML] at hMr hMs
      have HML := Lib.hid hML
      clear hsort hMb bb hrw hMp hML hMs HCL HGOOD hn0
      unfold maxLen at hc
      have hn63 : (n : Int) ≤ 9223372036854775807 := by omega
      have hr5 : r ≤ w5.heap.size := by have := b5.size; omega
      go_wp2_with fail
      go_loopw [58] (fun i wr => ∃ k : Nat, i = .int .i64 k ∧ k ≤ n ∧ Hid (∀ p q, p < k → p < q → q < n → clashO M p q = false) ∧ Below w5.heap.size w5 wr) (fun i _ => n - (intOf i).toNat)
      case atStart => exact ⟨0, rfl, by omega, Lib.hid (fun p q h => by omega), Below.refl _ _⟩
      case round =>
        obtain ⟨k, rfl, hk, HN, b6⟩ := hrel
        by_cases hlt : k < n
        · have hrow0 : Row w5 A (n * 6) (fun i => ov M (0 * 6 + i)) := by
            intro h0
            obtain ⟨q, off, e1, e2, e3⟩ := hMr h0
            exact ⟨q, off, e1, e2, fun i hi => by
              rw [e3 i hi]
              show some (ov M i) = some (ov M (0 * 6 + i))
              rw [Nat.zero_mul, Nat.zero_add]⟩
          obtain ⟨bo, off, hA, hbo, d0, d1, d2, d3, d4, d5⟩ := orow hrow0 b6 hlt
          have hrow1 : Row w5 (cutA A c (k + 1) 6) ((n - (k + 1)) * 6) (fun i => ov M ((k + 1) * 6 + i)) := cut_row hMr hn
          have q1 : ∀ wq : World, (Instr.slice 80 (.slice A n c) (some (.int .i64 ((k : Int) + 1))) none none).run Try.prog wq = .ok (.slice (cutA A c (k + 1) 6) (n - (k + 1)) (c - (k + 1))) wq := fun wq => cut_from 80 82 6 Try.underlying80 size_o A n c (k + 1) hlt wq
          have ek : IntKind.i64.wrap ((k : Int) + 1) = (k : Int) + 1 := IntWalk.i64_in _ (by omega)
          obtain ⟨N1, hN1⟩ : ∃ N1, n - (k + 1) = N1 := ⟨_, rfl⟩
          have hN1n : k + 1 + N1 = n := by omega
          obtain ⟨A2, hA2⟩ : ∃ A2, cutA A c (k + 1) 6 = A2 := ⟨_, rfl⟩
          rw [hN1, hA2] at q1 hrow1
          rw [Nat.zero_add] at d0 d1 d2 d3 d4 d5
          obtain ⟨x, hx⟩ : ∃ x, og M k = x := ⟨_, rfl⟩
          have HX := Lib.hid hx
          rw [hx] at d0 d1 d2 d3 d4 d5
          obtain ⟨⟨xf, xs, xc, xo, xp⟩, xn⟩ := x
          dsimp only at *
          have hs6 := b6.size
          have ox := Own.new wr 82 #[.int .i64 xf, .int .i64 xs, .int .i64 xc, .int .i64 xo, .int .i64 xp, .int .i64 xn]
          have bx : Below w5.heap.size w5 (wr.alloc (.cells #[.int .i64 xf, .int .i64 xs, .int .i64 xc, .int .i64 xo, .int .i64 xp, .int .i64 xn] 82)) := b6.alloc hs6 _
          clear hN1 hA2 hx hrow0
          subst hA
          have HRW := Lib.hid hrow1
          clear hrow1
          go_upto_block 5 with (fail)
          go_cut [] (fun wz => Hid (∀ q, k < q → q < n → clashO M k q = false) ∧ Below w5.heap.size w5 wz)
          case first =>
            go_upto_region 18 with (fail)
            generalize wr.alloc (.cells #[.int .i64 xf, .int .i64 xs, .int .i64 xc, .int .i64 xo, .int .i64 xp, .int .i64 xn] 82) = wx at *
            obtain ⟨r0, hr0⟩ : ∃ q, wr.heap.size = q := ⟨_, rfl⟩
            rw [hr0] at ox ⊢
            clear hr0 d0 d1 d2 d3 d4 d5 b6 hs6
            clear wr
            have hsx := bx.size
            go_wp2_with fail
            go_loopw [68] (fun i wz => ∃ t : Nat, i = .int .i64 t ∧ t ≤ N1 ∧ Hid (∀ q, k < q → q < k + 1 + t → clashO M k q = false) ∧ Below w5.heap.size w5 wz ∧ Own wz r0 82 #[.int .i64 xf, .int .i64 xs, .int .i64 xc, .int .i64 xo, .int .i64 xp, .int .i64 xn]) (fun i _ => N1 - (intOf i).toNat)
            case atStart => exact ⟨0, rfl, by omega, Lib.hid (fun q h1 h2 => by omega), bx, ox⟩
            case round =>
              clear bx ox hsx
              obtain ⟨t, rfl, ht, HT, b7, o7⟩ := hrel
              by_cases htl : t < N1
              · obtain ⟨bo2, off2, rfl, hbo2, d0, d1, d2, d3, d4, d5⟩ := orow HRW.out b7 htl
                obtain ⟨p, hp⟩ : ∃ p, k + 1 + t = p := ⟨_, rfl⟩
                rw [hp] at d0 d1 d2 d3 d4 d5 HT
                obtain ⟨y, hy⟩ : ∃ y, og M p = y := ⟨_, rfl⟩
                have HY := Lib.hid hy
                rw [hy] at d0 d1 d2 d3 d4 d5
                have HP := Lib.hid hp
                have hpn : p < n := by omega
                obtain ⟨⟨yf, ys, yc, yo, yp⟩, yn⟩ := y
                dsimp only at *
                clear hy hp
                have hs7 := b7.size
                have oy := Own.new wr 82 #[.int .i64 yf, .int .i64 ys, .int .i64 yc, .int .i64 yo, .int .i64 yp, .int .i64 yn]
                have bz : Below w5.heap.size w5 (wr.alloc (.cells #[.int .i64 yf, .int .i64 ys, .int .i64 yc, .int .i64 yo, .int .i64 yp, .int .i64 yn] 82)) := b7.alloc hs7 _
                have oz := o7.alloc (.cells #[.int .i64 yf, .int .i64 ys, .int .i64 yc, .int .i64 yo, .int .i64 yp, .int .i64 yn] 82)
                go_upto_region 21 with (fail)
                generalize wr.alloc (.cells #[.int .i64 yf, .int .i64 ys, .int .i64 yc, .int .i64 yo, .int .i64 yp, .int .i64 yn] 82) = wy at *
                obtain ⟨r1, hr1⟩ : ∃ q, wr.heap.size = q := ⟨_, rfl⟩
                rw [hr1] at oy ⊢
                clear hr1 d0 d1 d2 d3 d4 d5 b7 hs7 o7
                clear wr
                have k0 : wy.cell? ⟨r0, 0, none⟩ = some (.int .i64 xf) := oz.cell 0
                have k1 : wy.cell? ⟨r0, 1, none⟩ = some (.int .i64 xs) := oz.cell 1
                have k2 : wy.cell? ⟨r0, 2, none⟩ = some (.int .i64 xc) := oz.cell 2
                have k3 : wy.cell? ⟨r0, 3, none⟩ = some (.int .i64 xo) := oz.cell 3
                have k4 : wy.cell? ⟨r0, 4, none⟩ = some (.int .i64 xp) := oz.cell 4
                have k5 : wy.cell? ⟨r0, 5, none⟩ = some (.int .i64 xn) := oz.cell 5
                have l0 : wy.cell? ⟨r1, 0, none⟩ = some (.int .i64 yf) := oy.cell 0
                have l1 : wy.cell? ⟨r1, 1, none⟩ = some (.int .i64 ys) := oy.cell 1
                have l2 : wy.cell? ⟨r1, 2, none⟩ = some (.int .i64 yc) := oy.cell 2
                have l3 : wy.cell? ⟨r1, 3, none⟩ = some (.int .i64 yo) := oy.cell 3
                have l4 : wy.cell? ⟨r1, 4, none⟩ = some (.int .i64 yp) := oy.cell 4
                have l5 : wy.cell? ⟨r1, 5, none⟩ = some (.int .i64 yn) := oy.cell 5
                by_cases hsame : xf = yf ∧ xs = ys
                rotate_left 1
                · have HN3 : Hid (∀ q, k < q → q < n → clashO M k q = false) := Lib.hid (fun q h1 h2 => by
                    by_cases hqp : q < p
                    · exact HT.out q h1 hqp
                    · have hfar := far_of (d := M.toArray) (n := M.length) (i := k) (j0 := p) (j := q) HMS.out (by have := HP.out; omega) (by omega) (by rw [HML.out]; exact h2) (by
                        rw [og_arr (by rw [HML.out]; exact hlt), og_arr (by rw [HML.out]; exact hpn), HX.out, HY.out]
                        exact hsame)
                      rw [og_arr (by rw [HML.out]; exact hlt), og_arr (by rw [HML.out]; exact h2)] at hfar
                      rw [Bool.eq_false_iff]
                      intro hcl
                      exact hfar (clash_same (HGM.out _ (og_mem (by rw [HML.out]; exact hlt))) (HGM.out _ (og_mem (by rw [HML.out]; exact h2))) hcl))
                  by_cases hf : xf = yf
                  · have g1 : (xf != yf) = false := by simpa using hf
                    have g2 : (xs != ys) = true := by simp; exact fun h => hsame ⟨hf, h⟩
                    clear hsame hf
                    go_wp2_with fail
                    go_meet
                    exact ⟨HN3, bz⟩
                  · have g1 : (xf != yf) = true := by simpa using hf
                    clear hsame hf
                    go_wp2_with fail
                    go_meet
                    exact ⟨HN3, bz⟩
                · obtain ⟨hs1, hs2⟩ := hsame
                  have g1 : (xf != yf) = false := by simpa using hs1
                  have g2 : (xs != ys) = false := by simpa using hs2
                  have PC : ∀ w, _ := fun w => clash_any ⟨xf, xs, xc, xo, xp⟩ ⟨yf, ys, yc, yo, yp⟩ xn yn w
                  obtain ⟨cq, hcq⟩ : ∃ q, clashB ⟨xf, xs, xc, xo, xp⟩ ⟨yf, ys, yc, yo, yp⟩ xn yn = q := ⟨_, rfl⟩
                  rw [hcq] at PC
                  have HCQ : Hid (clashO M k p = cq) := Lib.hid (by unfold clashO; rw [HX.out, HY.out]; exact hcq)
                  clear hs1 hs2 hcq
                  go_wp2_with fail
                  clear k0 k1 k2 k3 k4 k5 l0 l1 l2 l3 l4 l5 g1 g2
                  refine (PC _).mono ?_
                  rintro q w8 ⟨rfl, j8⟩
                  have b8 : Below w5.heap.size w5 w8 := bz.trans (j8.mono bz.size)
                  cases cq
                  · have HT2 : Hid (∀ q, k < q → q < k + 1 + (t + 1) → clashO M k q = false) := Lib.hid (fun q h1 h2 => by
                      have hpe := HP.out
                      by_cases hqp : q = p
                      · rw [hqp, HCQ.out]
                      · exact HT.out q h1 (by omega))
                    have o8 := below_own j8 oz oz.lt
                    go_wp2_with fail
                    exact ⟨⟨t + 1, by simp, by omega, HT2, b8, o8⟩, by simp [intOf]; omega⟩
                  · have HF : Hid (clB (es.toList.map E) = false) := Lib.hid (by
                      rw [HCM.out, decide_eq_false_iff_not, noC_is]
                      intro hno
                      have := hno k p (by have := HP.out; omega) (by rw [HML.out]; exact hpn)
                      rw [HCQ.out] at this
                      cases this)
                    go_wp2_with fail
                    go_ret
                    exact ⟨by rw [HF.out]; rfl, hr ▸ b5.trans (b8.mono hr5)⟩
              · obtain rfl : t = N1 := by omega
                have g6 : decide ((t : Int) < (t : Int)) = false := by simp
                have HN3 : Hid (∀ q, k < q → q < n → clashO M k q = false) := Lib.hid (fun q h1 h2 => HT.out q h1 (by omega))
                go_wp2_with fail
                go_meet
                exact ⟨HN3, b7⟩
          case rest =>
            obtain ⟨HN2, b7⟩ := hcut
            have HN4 : Hid (∀ p q, p < k + 1 → p < q → q < n → clashO M p q = false) := Lib.hid (fun p q h1 h2 h3 => by
              by_cases e : p = k
              · rw [e]; exact HN2.out q (by omega) h3
              · exact HN.out p q (by omega) h2 h3)
            go_wp2_with fail
            exact ⟨⟨k + 1, by simp, by omega, HN4, b7⟩, by simp [intOf]; omega⟩
        · obtain rfl : k = n := by omega
          have g6 : decide ((k : Int) < (k : Int)) = false := by simp
          have HF : Hid (clB (es.toList.map E) = true) := Lib.hid (by
            rw [HCM.out, decide_eq_true_eq, noC_is]
            exact fun p q hpq hq => HN.out p q (by rw [HML.out] at hq; omega) hpq (by rw [HML.out] at hq; exact hq))
          go_wp2_with fail
          go_ret
          exact ⟨by rw [HF.out]; rfl, hr ▸ b5.trans (b6.mono hr5)⟩
      -- S>
    · intro e he w2 hit2 j2
      -- <R
      obtain ⟨hS, hok⟩ := HS.out
      have he := Array.mem_toList_iff.2 he
      obtain ⟨hme, _⟩ := mem_left he
      have hstep := left_step H.out.nd he
      have hmap2 : w2.heap[bm]? = some (.map es clock) := (j2.block bm (iter_lt hmap) (by omega)).trans hmap
      have hen := run_entry_at (P := Try.prog) w2 r bm clock seen es clock e hit2 hmap2 hme H.out.nd
      obtain ⟨a, c, hv, hn, hc, hrow⟩ := H.out.val e hme
      rw [H.out.key e hme, hv] at hen ⊢
      have HE := Lib.hid (show (E e).1 = (E e).1 ∧ (E e).2 = (E e).2 from ⟨rfl, rfl⟩)
      obtain ⟨nd, hnd⟩ : ∃ q, (E e).1 = q := ⟨_, rfl⟩
      obtain ⟨l, hl⟩ : ∃ q, (E e).2 = q := ⟨_, rfl⟩
      have HEE : Hid (E e = (nd, l)) := Lib.hid (by rw [← hnd, ← hl])
      rw [hl] at hn hrow hen ⊢
      rw [hnd] at hen ⊢
      clear HE
      have hlen : (allO (S.map E)).length + l.length ≤ 1000000 := by
        have hp : ((S.map E) ++ E e :: ((leftOf es (seen.push e.born)).toList.map E)).Perm (es.toList.map E) := by
          rw [← List.map_cons, ← List.map_append]
          exact ((hstep.append_left S).trans hS).map E
        have := allO_le hp
        rw [HEE.out] at this
        exact Nat.le_trans this hT
      have HNO : okE (nd, l) = false → clB (es.toList.map E) = false := fun h => clB_no (List.mem_map.2 ⟨e, hme, HEE.out⟩) h
      have HNO := Lib.hid HNO
      have hsh : (leftOf es (seen.push e.born)).size < (leftOf es seen).size := left_shrinks es seen e he
      have HSH := Lib.hid hsh
      have b2 : Below r w w2 := j2.below bb (Nat.le_refl _) (by have := iter_lt hit; omega)
      have m2 := hm.kept (w' := w2) (fun q hq => if hl' : q < wr.heap.size then .inl (j2.block q hl' (by omega)) else .inr (fun e => hl' (hm.lt q e).2))
      clear hsh hv hnd hl hit hm bb hmap j2 hS
      obtain ⟨m, hm⟩ : ∃ m, l.length = m := ⟨_, rfl⟩
      have HM := Lib.hid hm
      rw [hm] at hn hrow hen hlen ⊢
      clear hm
      unfold maxLen at hc
      have hm63 : (m : Int) ≤ 9223372036854775807 := by omega
      have hcase : m = 0 ∨ (0 < m ∧ ndB nd = false) ∨ (0 < m ∧ ndB nd = true ∧ 800 < m) ∨ (0 < m ∧ ndB nd = true ∧ m ≤ 800) := by
        cases ndB nd <;> simp <;> omega
      rcases hcase with h0 | ⟨h0, h1⟩ | ⟨h0, h1, h2⟩ | ⟨h0, h1, h2⟩
      rotate_left 1
      · have g1 : decide ((0 : Int) < (m : Int)) = true := by simp; omega
        have HF := Lib.hid (HNO.out (okE_node (by rw [HM.out]; exact h0) h1))
        go_wp2_with fail
        refine (isNode_any nd _).mono ?_
        rintro q w' ⟨rfl, rfl⟩
        rw [h1]
        go_wp2_with fail
        go_ret
        exact ⟨by rw [HF.out]; rfl, hr ▸ b2⟩
      · have g1 : decide ((0 : Int) < (m : Int)) = true := by simp; omega
        have g2 : decide ((800 : Int) < (m : Int)) = true := by simp; omega
        have HF := Lib.hid (HNO.out (okE_long (by rw [HM.out]; exact h2)))
        go_wp2_with fail
        refine (isNode_any nd _).mono ?_
        rintro q w' ⟨rfl, rfl⟩
        rw [h1]
        go_wp2_with fail
        go_ret
        exact ⟨by rw [HF.out]; rfl, hr ▸ b2⟩
      · have HOK : Hid ((l.length = 0 ∨ ndB nd = true) ∧ l.length ≤ 800) := Lib.hid (by rw [HM.out]; exact ⟨.inr h1, h2⟩)
        have g1 : decide ((0 : Int) < (m : Int)) = true := by simp; omega
        have g2 : decide ((800 : Int) < (m : Int)) = false := by simp; omega
        go_wp2_with fail
        refine (isNode_any nd _).mono ?_
        rintro q w' ⟨rfl, rfl⟩
        rw [h1]
        go_wp2_with fail
        clear h0 h1 g1 g2
        have hbase : r + 1 ≤ w2.heap.size := iter_lt hit2
        have m3 : MineK w2 (r + 1) 82 6 u3 (allO (S.map E) ++ ofE (nd, l.take 0)).length (ov (allO (S.map E) ++ ofE (nd, l.take 0))) := by
          rw [List.take_zero, show ofE (nd, ([] : List C)) = [] from rfl, List.append_nil]
          exact m2
        clear m2 hen hmap2
        go_loopw [3, 34] (fun v i wr => ∃ k : Nat, i = .int .i64 k ∧ k ≤ m ∧ Hid (∀ j, j < k → okc (at_ l j) = true) ∧ MineK wr (r + 1) 82 6 v (allO (S.map E) ++ ofE (nd, l.take k)).length (ov (allO (S.map E) ++ ofE (nd, l.take k))) ∧ wr.heap[r]? = some (.mapIter (some bm) clock (seen.push e.born) clock) ∧ Below r w wr) (fun _ i _ => m - (intOf i).toNat)
        case atStart => exact ⟨0, rfl, Nat.zero_le _, Lib.hid (fun j hj => by omega), m3, hit2, b2⟩
        case round =>
          clear m3 b2 hit2
          obtain ⟨k, rfl, hk, HC, m3, hit3, b3⟩ := hrel
          by_cases hlt : k < m
          · have hb3 := b3.size
            have hr1 : r + 1 ≤ wr.heap.size := iter_lt hit3
            obtain ⟨bo, off, rfl, hbo, d0, d1, d2, d3, d4⟩ := crow hrow (hr ▸ b3 : Below w.heap.size w wr) hlt
            obtain ⟨x, hx⟩ : ∃ x, at_ l k = x := ⟨_, rfl⟩
            have HX := Lib.hid hx
            rw [hx] at d0 d1 d2 d3 d4
            clear hx
            have PM : ∀ w, _ := fun w => may_any x.f x.s x.c x.o x.p w
            obtain ⟨mq, hmq⟩ : ∃ q, mayC x.f x.s x.c x.o x.p = q := ⟨_, rfl⟩
            rw [hmq] at PM
            obtain ⟨oq, hoq⟩ : ∃ q, Go.bits .and .i64 x.o 4 = q := ⟨_, rfl⟩
            have HQ : Hid (okc (at_ l k) = (mq && (oq == 0))) := Lib.hid (by rw [HX.out]; unfold okc C.may; rw [hmq, hoq])
            obtain ⟨xf, xs, xc, xo, xp⟩ := x
            dsimp only at *
            have ox := Own.new wr 69 #[.int .i64 xf, .int .i64 xs, .int .i64 xc, .int .i64 xo, .int .i64 xp]
            have bx : Below r w (wr.alloc (.cells #[.int .i64 xf, .int .i64 xs, .int .i64 xc, .int .i64 xo, .int .i64 xp] 69)) := b3.alloc (by omega) _
            have mx := m3.alloc (.cells #[.int .i64 xf, .int .i64 xs, .int .i64 xc, .int .i64 xo, .int .i64 xp] 69)
            have ix : (wr.alloc (.cells #[.int .i64 xf, .int .i64 xs, .int .i64 xc, .int .i64 xo, .int .i64 xp] 69)).heap[r]? = some (.mapIter (some bm) clock (seen.push e.born) clock) := by rw [heap_alloc_old _ _ (iter_lt hit3)]; exact hit3
            go_upto_region 10 with (fail)
            generalize wr.alloc (.cells #[.int .i64 xf, .int .i64 xs, .int .i64 xc, .int .i64 xo, .int .i64 xp] 69) = wx at *
            obtain ⟨r0, hr0⟩ : ∃ q, wr.heap.size = q := ⟨_, rfl⟩
            rw [hr0] at ox ⊢
            have hrr : r + 1 ≤ r0 := by omega
            clear hr0 d0 d1 d2 d3 d4 m3 hit3 b3 hb3 hr1 hmq
            have c0 : wx.cell? ⟨r0, 0, none⟩ = some (.int .i64 xf) := ox.cell 0
            have c1 : wx.cell? ⟨r0, 1, none⟩ = some (.int .i64 xs) := ox.cell 1
            have c2 : wx.cell? ⟨r0, 2, none⟩ = some (.int .i64 xc) := ox.cell 2
            have c3 : wx.cell? ⟨r0, 3, none⟩ = some (.int .i64 xo) := ox.cell 3
            have c4 : wx.cell? ⟨r0, 4, none⟩ = some (.int .i64 xp) := ox.cell 4
            go_wp2_with fail
            clear c0 c1 c2 c3 c4
            refine (PM _).mono ?_
            rintro q w5 ⟨rfl, j5⟩
            have o5 := below_own j5 ox ox.lt
            have m5 := mx.below j5
            have i5 := (j5.block r (iter_lt ix)).trans ix
            have b5 := bx.trans (j5.mono (Nat.le_of_lt (iter_lt ix)))
            clear j5 ox mx ix bx
            have c0 : w5.cell? ⟨r0, 0, none⟩ = some (.int .i64 xf) := o5.cell 0
            have c1 : w5.cell? ⟨r0, 1, none⟩ = some (.int .i64 xs) := o5.cell 1
            have c2 : w5.cell? ⟨r0, 2, none⟩ = some (.int .i64 xc) := o5.cell 2
            have c3 : w5.cell? ⟨r0, 3, none⟩ = some (.int .i64 xo) := o5.cell 3
            have c4 : w5.cell? ⟨r0, 4, none⟩ = some (.int .i64 xp) := o5.cell 4
            cases mq
            · have HF := Lib.hid (HNO.out (okE_cell (by rw [HM.out]; exact hlt) (by rw [HQ.out]; rfl)))
              go_wp2_with fail
              go_ret
              exact ⟨by rw [HF.out]; rfl, hr ▸ b5⟩
            by_cases hq0 : oq = 0
            rotate_left 1
            · have g0 : (oq != 0) = true := by simpa using hq0
              have HF := Lib.hid (HNO.out (okE_cell (by rw [HM.out]; exact hlt) (by rw [HQ.out]; simpa using hq0)))
              clear hq0
              go_wp2_with fail
              go_ret
              exact ⟨by rw [HF.out]; rfl, hr ▸ b5⟩
            subst hq0
            have HC2 : Hid (∀ j, j < k + 1 → okc (at_ l j) = true) := Lib.hid (fun j hj => by
              by_cases e' : j = k
              · rw [e', HQ.out]; rfl
              · exact HC.out j (by omega))
            obtain ⟨T, hTd⟩ : ∃ T, allO (S.map E) ++ ofE (nd, l.take k) = T := ⟨_, rfl⟩
            rw [hTd] at m5
            have HT2 : Hid (allO (S.map E) ++ ofE (nd, l.take (k + 1)) = T ++ [⟨⟨xf, xs, xc, xo, xp⟩, nd⟩]) := Lib.hid (by
              rw [ofE_take (by rw [HM.out]; exact hlt), ← List.append_assoc, hTd, HX.out])
            have hTl : T.length ≤ 1000000 := by
              rw [← hTd, List.length_append, ofE_len]
              have : (l.take k).length ≤ m := by rw [List.length_take, HM.out]; omega
              exact Nat.le_trans (Nat.add_le_add_left this _) hlen
            clear hTd
            have hs5 : r + 1 ≤ w5.heap.size := iter_lt i5
            have HNM := Lib.hid (show T.length + 1 ≤ maxLen by unfold maxLen; omega)
            have m6 := m5.alloc (.cells #[.int .i64 xf, .int .i64 xs, .int .i64 xc, .int .i64 xo, .int .i64 xp, .int .i64 nd] 82)
            have hr2 : Row (w5.alloc (.cells #[.int .i64 xf, .int .i64 xs, .int .i64 xc, .int .i64 xo, .int .i64 xp, .int .i64 nd] 82)) (some ⟨w5.heap.size, 0, none⟩) (1 * 6) (ov [⟨⟨xf, xs, xc, xo, xp⟩, nd⟩]) := row_new _ _ _ _ (fun i hi => by rcases (show i = 0 ∨ i = 1 ∨ i = 2 ∨ i = 3 ∨ i = 4 ∨ i = 5 by omega) with rfl | rfl | rfl | rfl | rfl | rfl <;> rfl)
            have b6 : Below r w (w5.alloc (.cells #[.int .i64 xf, .int .i64 xs, .int .i64 xc, .int .i64 xo, .int .i64 xp, .int .i64 nd] 82)) := b5.alloc (by omega) _
            have i6 : (w5.alloc (.cells #[.int .i64 xf, .int .i64 xs, .int .i64 xc, .int .i64 xo, .int .i64 xp, .int .i64 nd] 82)).heap[r]? = some (.mapIter (some bm) clock (seen.push e.born) clock) := by rw [heap_alloc_old _ _ (iter_lt i5)]; exact i5
            have hs6 : r + 1 ≤ (w5.alloc (.cells #[.int .i64 xf, .int .i64 xs, .int .i64 xc, .int .i64 xo, .int .i64 xp, .int .i64 nd] 82)).heap.size := iter_lt i6
            go_wp2_with (at_builtin; go_must (refine wp_appK rfl (.tmp 47) (.tmp 51) _ rfl (r + 1) 82 i0 _ 6 48 Try.underlying80 hi0 hz0 hz1 hz2 rfl (by decide) _ T.length (ov T) rfl m6 _ 1 _ (ov [⟨⟨xf, xs, xc, xo, xp⟩, nd⟩]) rfl hr2 (fun i _ => ov_one _ i) HNM.out ?c2 hs6 ?_))
            case c2 => omega
            intro v7 w7 m7 g7 q7
            have hgb : ∀ q, u3.ownBlock = some q → r + 1 ≤ q := fun q hq => (m6.lt q hq).1
            have b7 : Below r w w7 := b6.grown g7 (by omega) (fun q hq => by have := hgb q hq; omega)
            have i7 : w7.heap[r]? = some (.mapIter (some bm) clock (seen.push e.born) clock) := (g7.block r (iter_lt i6) (fun e' => by have := hgb r e'.symm; omega)).trans i6
            have m8 : MineK w7 (r + 1) 82 6 v7 (T ++ [(⟨⟨xf, xs, xc, xo, xp⟩, nd⟩ : Ow)]).length (ov (T ++ [(⟨⟨xf, xs, xc, xo, xp⟩, nd⟩ : Ow)])) := by
              rw [List.length_append]
              exact m7.ext (fun i hi => ov_snoc T _ i hi)
            rw [← HT2.out] at m8
            obtain ⟨a7, n7, rfl, _, _, _⟩ := m8.row
            clear m5 m6 m7 hr2 b5 b6 i5 i6 g7 q7 c0 c1 c2 c3 c4 o5 hgb
            go_wp2_with fail
            exact ⟨⟨k + 1, by simp, by omega, HC2, m8, i7, b7⟩, by simp [intOf]; omega⟩
          · obtain rfl : k = m := by omega
            have g6 : decide ((k : Int) < (k : Int)) = false := by simp
            have hall : okE (nd, l) = true := okE_yes HOK.out.1 HOK.out.2 (fun j hj => HC.out j (by rw [← HM.out]; exact hj))
            have htk : l.take k = l := List.take_of_length_le (by rw [HM.out]; exact Nat.le_refl _)
            rw [htk] at m3
            have hsn : allO ((S ++ [e]).map E) = allO (S.map E) ++ ofE (nd, l) := by
              rw [List.map_append, List.map_cons, List.map_nil, allO_snoc, HEE.out]
            rw [← hsn] at m3
            have HALL := Lib.hid hall
            clear hall htk hsn
            go_wp2_with fail
            refine ⟨⟨S ++ [e], seen.push e.born, clock, hit3, Nat.le_refl _, Lib.hid ⟨?_, fun x hx => ?_⟩, m3, b3⟩, ?_⟩
            · rw [List.append_assoc]
              exact (hstep.append_left S).trans HS.out.1
            · rcases List.mem_append.1 hx with hx | hx
              · exact HS.out.2 x hx
              · rw [List.mem_singleton] at hx
                rw [hx, HEE.out]
                exact HALL.out
            · rw [HST.out]
              unfold stillTo World.iterSeen
              rw [hit3]
              exact HSH.out
      · subst h0
        have HOK : Hid ((l.length = 0 ∨ ndB nd = true) ∧ l.length ≤ 800) := Lib.hid (by rw [HM.out]; exact ⟨.inl rfl, by omega⟩)
        go_wp2_with fail
        have hbase : r + 1 ≤ w2.heap.size := iter_lt hit2
        have m3 : MineK w2 (r + 1) 82 6 u3 (allO (S.map E) ++ ofE (nd, l.take 0)).length (ov (allO (S.map E) ++ ofE (nd, l.take 0))) := by
          rw [List.take_zero, show ofE (nd, ([] : List C)) = [] from rfl, List.append_nil]
          exact m2
        clear m2 hen hmap2
        go_loopw [3, 34] (fun v i wr => ∃ k : Nat, i = .int .i64 k ∧ k ≤ 0 ∧ Hid (∀ j, j < k → okc (at_ l j) = true) ∧ MineK wr (r + 1) 82 6 v (allO (S.map E) ++ ofE (nd, l.take k)).length (ov (allO (S.map E) ++ ofE (nd, l.take k))) ∧ wr.heap[r]? = some (.mapIter (some bm) clock (seen.push e.born) clock) ∧ Below r w wr) (fun _ i _ => 0 - (intOf i).toNat)
        case atStart => exact ⟨0, rfl, Nat.zero_le _, Lib.hid (fun j hj => by omega), m3, hit2, b2⟩
        case round =>
          clear m3 b2 hit2
          obtain ⟨k, rfl, hk, HC, m3, hit3, b3⟩ := hrel
          obtain rfl : k = 0 := by omega
          have hall : okE (nd, l) = true := okE_yes HOK.out.1 HOK.out.2 (fun j hj => HC.out j (by rw [← HM.out]; exact hj))
          have htk : l.take 0 = l := List.take_of_length_le (by rw [HM.out]; exact Nat.le_refl _)
          rw [htk] at m3
          have hsn : allO ((S ++ [e]).map E) = allO (S.map E) ++ ofE (nd, l) := by
            rw [List.map_append, List.map_cons, List.map_nil, allO_snoc, HEE.out]
          rw [← hsn] at m3
          have HALL := Lib.hid hall
          clear hall htk hsn
          go_wp2_with fail
          refine ⟨⟨S ++ [e], seen.push e.born, clock, hit3, Nat.le_refl _, Lib.hid ⟨?_, fun x hx => ?_⟩, m3, b3⟩, ?_⟩
          · rw [List.append_assoc]
            exact (hstep.append_left S).trans HS.out.1
          · rcases List.mem_append.1 hx with hx | hx
            · exact HS.out.2 x hx
            · rw [List.mem_singleton] at hx
              rw [hx, HEE.out]
              exact HALL.out
          · rw [HST.out]
            unfold stillTo World.iterSeen
            rw [hit3]
            exact HSH.out
      -- R>
end Go.Proofs.Ytdpkiolngglpaaa.Al
