/-
  Package version (chapter 23): fits, Begin, Cells.
-/
import Derived.Test.YtdpkiolngglpaaaVeWaits
import Derived.Test.YtdpkiolngglpaaaAlClean
import Derived.Test.YtdpkiolngglpaaaMid
import Derived.Deep.RegionHeld3
set_option maxRecDepth 100000
namespace Go.Proofs.Ytdpkiolngglpaaa.Ve
set_option linter.unusedVariables false
set_option linter.unusedSimpArgs false
open Go.RowKit Lb Cl Ce Mi Al

theorem MapL.of {w : World} {lo bm : Nat} {L : List (Int × List C)} (h : MapL w lo bm L) : ∃ vs, MapOf w bm (ents L vs) L.length (fun e => L.getD e.born (0, [])) := by
  obtain ⟨h0, vs, hb, hr⟩ := h
  refine ⟨vs, hb, fun x hx => (ents_mem hx).1, ents_nd L vs, fun x hx => ?_, fun x hx => ?_⟩
  · obtain ⟨_, e⟩ := ents_mem hx
    have : x.key = .int .i64 (keyN L x.born) := by rw [e]
    exact this
  · obtain ⟨h1, e⟩ := ents_mem hx
    obtain ⟨a, c, h2, h3, h4, h5⟩ := (hr x.born h1).row
    have : x.val = vs x.born := by rw [e]
    exact ⟨a, c, by rw [this]; exact h2, h3, h4, h5⟩
def fitB (N : Int) (L : List (Int × List C)) : Bool := L.all fun e => hasB N e.1 && decide (e.2.length ≤ 64)
theorem fit_no {N : Int} {L : List (Int × List C)} {e : Int × List C} (he : e ∈ L) (h : (hasB N e.1 && decide (e.2.length ≤ 64)) = false) : fitB N L = false := by
  rw [Bool.eq_false_iff]
  intro h2
  unfold fitB at h2
  rw [List.all_eq_true] at h2
  rw [h2 e he] at h
  cases h
theorem fits_nil (b : Nat) (N v la : Int) (g : Bool) (R : Nat → Bool) (now next : Option Nat) (Ln Lx : List (Int × List C)) (w : World) (h : Bk w b N v la g R now next Ln Lx) :
    Calls Try.prog 35 #[.pointer (some ⟨b, 0, none⟩), .map none] w fun r w' => r = .returned (.bool true) ∧ Below w.heap.size w w' := by
  have hrange := run_range_nilMap (P := Try.prog) w 32 3 33 (by kernel_rfl)
  have hnext := fun ty => run_next_nilMap (P := Try.prog) w ty 0 0 #[]
  have hb := (Below.refl w.heap.size w).alloc (Nat.le_refl _) (.mapIter none 0 #[] 0)
  go_enter Try.func35, Try.ntmps35
  go_wp2_with fail
  generalize w.alloc (.mapIter none 0 #[] 0) = w1 at *
  go_loopw [] (fun wr => wr = w1) (fun _ => 0)
  case atStart => rfl
  case round =>
    subst hrel
    go_wp2_with fail
    go_ret
    exact ⟨rfl, hb⟩
theorem fits_any (b bm clock : Nat) (es : Array MapEntry) (E : MapEntry → Int × List C) (N v la : Int) (g : Bool) (R : Nat → Bool) (now next : Option Nat) (Ln Lx L : List (Int × List C)) (w : World) (h : Bk w b N v la g R now next Ln Lx) (hM : MapOf w bm es clock E) (hmap : es.toList.map E = L) :
    Calls Try.prog 35 #[.pointer (some ⟨b, 0, none⟩), .map (some bm)] w fun r w' => r = .returned (.bool (fitB N L)) ∧ Below w.heap.size w w' := by
  have hrange := run_range_map (P := Try.prog) w 32 3 33 bm es clock (by kernel_rfl) hM.heap
  have hbm := iter_lt hM.heap
  have H := Lib.hid hM
  have HB := Lib.hid h
  clear hM h
  go_enter Try.func35, Try.ntmps35
  go_wp2_with fail
  obtain ⟨r, hr⟩ : ∃ r, w.heap.size = r := ⟨_, rfl⟩
  have hb0 : Below r w (w.alloc (.mapIter (some bm) clock #[] clock)) := hr ▸ (Below.refl w.heap.size w).alloc (Nat.le_refl _) _
  have hit0 : (w.alloc (.mapIter (some bm) clock #[] clock)).heap[r]? = some (.mapIter (some bm) clock #[] clock) := by rw [← hr]; exact heap_alloc_new w _
  generalize w.alloc (.mapIter (some bm) clock #[] clock) = w1 at *
  rw [hr]
  clear hrange
  have hbm2 : bm < r := hr ▸ hbm
  go_loopw [] (fun wr => ∃ (S : List MapEntry) (seen : Array Nat) (c0 : Nat), wr.heap[r]? = some (.mapIter (some bm) clock seen c0) ∧ clock ≤ c0 ∧ Hid ((S ++ (leftOf es seen).toList).Perm es.toList ∧ ∀ e ∈ S, (hasB N (E e).1 && decide ((E e).2.length ≤ 64)) = true) ∧ Below r w wr) (fun wr => stillTo es r wr)
  case atStart => exact ⟨[], #[], clock, hit0, Nat.le_refl _, Lib.hid ⟨by rw [left_all]; exact List.Perm.refl _, fun e he => by cases he⟩, hb0⟩
  case round =>
    clear hb0 hit0
    obtain ⟨S, seen, c0, hit, hc0, HS, bb⟩ := hrel
    have hst : stillTo es r wr = (leftOf es seen).size := by unfold stillTo World.iterSeen; rw [hit]
    have hmp : wr.heap[bm]? = some (.map es clock) := (bb.block bm hbm2).trans H.out.heap
    have HST := Lib.hid hst
    clear hst
    go_wp2_with (at_next; refine wpList_next_raw rfl (.tmp 8) rfl r bm clock c0 seen es clock rfl hit hmp H.out.old hc0 ?_ ?_)
    · intro hdone
      have hl0 : (leftOf es seen).toList = [] := by
        rw [← List.length_eq_zero_iff]
        simpa using hdone
      obtain ⟨hS, hok⟩ := HS.out
      rw [hl0, List.append_nil] at hS
      have HF : Hid (fitB N L = true) := Lib.hid (by
        unfold fitB
        rw [List.all_eq_true, ← hmap]
        intro e he
        obtain ⟨x, hx, rfl⟩ := List.mem_map.1 he
        exact hok x (hS.mem_iff.2 hx))
      clear hS hok hl0 hdone hmp hit
      go_wp2_with fail
      go_ret
      exact ⟨by rw [HF.out]; rfl, hr ▸ bb⟩
    · intro e he w2 hit2 j2
      have he := Array.mem_toList_iff.2 he
      obtain ⟨hme, _⟩ := mem_left he
      have hstep := left_step H.out.nd he
      have hmap2 : w2.heap[bm]? = some (.map es clock) := (j2.block bm (iter_lt hmp) (by omega)).trans hmp
      have hen := run_entry_at (P := Try.prog) w2 r bm clock seen es clock e hit2 hmap2 hme H.out.nd
      obtain ⟨a, c, hv, hn, hc, _⟩ := H.out.val e hme
      rw [H.out.key e hme, hv] at hen ⊢
      obtain ⟨nd, hnd⟩ : ∃ q, (E e).1 = q := ⟨_, rfl⟩
      obtain ⟨l, hl⟩ : ∃ q, (E e).2 = q := ⟨_, rfl⟩
      have HEE : Hid (E e = (nd, l)) := Lib.hid (by rw [← hnd, ← hl])
      rw [hl] at hn hen ⊢
      rw [hnd] at hen ⊢
      have hmL : (nd, l) ∈ L := by
        rw [← hmap]
        exact List.mem_map.2 ⟨e, hme, HEE.out⟩
      have HNO := Lib.hid (fun (h : (hasB N nd && decide (l.length ≤ 64)) = false) => fit_no hmL h)
      have HSH := Lib.hid (left_shrinks es seen e he)
      have b2 : Below r w w2 := j2.below bb (Nat.le_refl _) (by have := iter_lt hit; omega)
      have h2 := HB.out.below (hr ▸ b2 : Below w.heap.size w w2)
      have PH : ∀ w', Bk w' b N v la g R now next Ln Lx → _ := fun w' h' => has_any b N v la g R now next Ln Lx nd w' h'
      obtain ⟨m, hm⟩ : ∃ m, l.length = m := ⟨_, rfl⟩
      rw [hm] at hn hen ⊢
      unfold maxLen at hc
      have hm63 : (m : Int) ≤ 9223372036854775807 := by omega
      have HM := Lib.hid hm
      clear hv hnd hl hit bb hmp j2 hmL hm
      cases hh : hasB N nd
      · rw [hh] at PH
        have HF := Lib.hid (HNO.out (by rw [hh]; rfl))
        clear hh
        go_wp2_with fail
        refine (PH _ h2).mono ?_
        rintro q w' ⟨rfl, rfl⟩
        go_wp2_with fail
        go_ret
        exact ⟨by rw [HF.out]; rfl, hr ▸ b2⟩
      · rw [hh] at PH
        by_cases hm64 : m ≤ 64
        · have g1 : decide ((64 : Int) < (m : Int)) = false := by simp; omega
          have HOK : Hid ((hasB N (E e).1 && decide ((E e).2.length ≤ 64)) = true) := Lib.hid (by
            rw [HEE.out]
            show (hasB N nd && decide (l.length ≤ 64)) = true
            rw [hh, HM.out]
            simpa using hm64)
          clear hh hm64
          go_wp2_with fail
          refine (PH _ h2).mono ?_
          rintro q w' ⟨rfl, rfl⟩
          clear h2
          go_wp2_with fail
          refine ⟨⟨S ++ [e], seen.push e.born, clock, hit2, Nat.le_refl _, Lib.hid ⟨?_, fun x hx => ?_⟩, b2⟩, ?_⟩
          · rw [List.append_assoc]
            exact (hstep.append_left S).trans HS.out.1
          · rcases List.mem_append.1 hx with hx | hx
            · exact HS.out.2 x hx
            · rw [List.mem_singleton] at hx
              rw [hx]
              exact HOK.out
          · rw [HST.out]
            unfold stillTo World.iterSeen
            rw [hit2]
            exact HSH.out
        · have g1 : decide ((64 : Int) < (m : Int)) = true := by simp; omega
          have HF := Lib.hid (HNO.out (by rw [hh, HM.out]; simp; omega))
          clear hh hm64
          go_wp2_with fail
          refine (PH _ h2).mono ?_
          rintro q w' ⟨rfl, rfl⟩
          go_wp2_with fail
          go_ret
          exact ⟨by rw [HF.out]; rfl, hr ▸ b2⟩
theorem clean_nil (w : World) : Calls Try.prog 36 #[.map none] w fun r w' => r = .returned (.bool true) ∧ Below w.heap.size w w' := by
  have hrange := run_range_nilMap (P := Try.prog) w 32 3 33 (by kernel_rfl)
  have hnext := fun ty => run_next_nilMap (P := Try.prog) w ty 0 0 #[]
  have hb := (Below.refl w.heap.size w).alloc (Nat.le_refl _) (.mapIter none 0 #[] 0)
  go_enter Try.func36, Try.ntmps36
  go_wp2_with fail
  generalize w.alloc (.mapIter none 0 #[] 0) = w1 at *
  go_loopw [3] (fun s wr => s = .slice none 0 0 ∧ wr = w1) (fun _ _ => 0)
  case atStart => exact ⟨rfl, rfl⟩
  case round =>
    obtain ⟨rfl, rfl⟩ := hrel
    go_wp2_with fail
    refine (sort_none 0 none _ _).mono ?_
    rintro q w5 ⟨rfl, rfl⟩
    go_wp2_with fail
    go_loopw [58] (fun s wz => s = .int .i64 0 ∧ wz = w5) (fun _ _ => 0)
    case atStart => exact ⟨rfl, rfl⟩
    case round =>
      obtain ⟨rfl, rfl⟩ := hrel
      go_wp2_with fail
      go_ret
      exact ⟨rfl, hb⟩
end Go.Proofs.Ytdpkiolngglpaaa.Ve
