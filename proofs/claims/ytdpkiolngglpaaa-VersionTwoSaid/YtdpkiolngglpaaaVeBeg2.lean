/-
  Package version (chapter 23): Begin, of any map, whichever order it is ranged over in.
-/
import Derived.Test.YtdpkiolngglpaaaVeBegin
set_option maxRecDepth 100000
namespace Go.Proofs.Ytdpkiolngglpaaa.Ve
set_option linter.unusedVariables false
set_option linter.unusedSimpArgs false
open Go.RowKit Lb Cl Ce Mi Al

/-- Map m says L, and goes on saying so while only block b and what is new turn. -/
def Src (w : World) (b : Nat) (m : Option Nat) (L : List (Int × List C)) : Prop := (m = none ∧ L = []) ∨ ∃ bm es clock E, m = some bm ∧ es.toList.map E = L ∧ ∀ w', Just b w w' → MapOf w' bm es clock E
theorem Src.go {w w' : World} {b : Nat} {m : Option Nat} {L : List (Int × List C)} (h : Src w b m L) (j : Just b w w') : Src w' b m L := by
  rcases h with h | ⟨bm, es, clock, E, h1, h2, h3⟩
  · exact .inl h
  · exact .inr ⟨bm, es, clock, E, h1, h2, fun w2 j2 => h3 w2 (j.trans j2)⟩
theorem just_more {b g : Nat} {w w1 w2 : World} (h : Just b w w1) (j : Just g w1 w2) (hg : w.heap.size ≤ g) : Just b w w2 :=
  ⟨j.os.trans h.os, j.tape.trans h.tape, j.output.trans h.output, Nat.le_trans h.size j.size, fun k hk hb => (j.block k (Nat.lt_of_lt_of_le hk h.size) (by omega)).trans (h.block k hk hb)⟩
theorem Rv.off {w w' : World} {lo r : Nat} {v : Value} {l : List C} (h : Rv w lo v l) (hb : ∀ i, w.cell? ⟨r, i, none⟩ = none) (j : Just r w w') : Rv w' lo v l := by
  obtain ⟨a, c, h1, h2, h3, h4, h5⟩ := h
  refine ⟨a, c, h1, h2, h3, fun hn => ?_, h5⟩
  obtain ⟨q, off, e1, e2, e3⟩ := h4 hn
  have hq : q ≠ r := fun e => by
    subst e
    have := e3 0 hn
    rw [hb] at this
    cases this
  refine ⟨q, off, e1, Nat.lt_of_lt_of_le e2 j.size, fun i hi => ?_⟩
  have := j.block q e2 hq
  have h6 := e3 i hi
  unfold World.cell? at h6 ⊢
  rw [← h6, this]
theorem fitsM (b : Nat) (N v la : Int) (g : Bool) (R : Nat → Bool) (now next m : Option Nat) (Ln Lx L : List (Int × List C)) (w : World) (h : Bk w b N v la g R now next Ln Lx) (hs : Src w b m L) :
    Calls Try.prog 35 #[.pointer (some ⟨b, 0, none⟩), .map m] w fun r w' => r = .returned (.bool (fitB N L)) ∧ Below w.heap.size w w' := by
  rcases hs with ⟨rfl, rfl⟩ | ⟨bm, es, clock, E, rfl, h2, h3⟩
  · exact fits_nil b N v la g R now next Ln Lx w h
  · exact fits_any b bm clock es E N v la g R now next Ln Lx L w h (h3 w (Just.refl _ _)) h2
theorem cleanM (b : Nat) (m : Option Nat) (L : List (Int × List C)) (w : World) (hs : Src w b m L) (hT : (allO L).length ≤ 1000000) :
    Calls Try.prog 36 #[.map m] w fun r w' => r = .returned (.bool (clB L)) ∧ Below w.heap.size w w' := by
  rcases hs with ⟨rfl, rfl⟩ | ⟨bm, es, clock, E, rfl, h2, h3⟩
  · exact clean_nil w
  · have := clean_any bm es clock E w (h3 w (Just.refl _ _)) (by rw [h2]; exact hT)
    rw [h2] at this
    exact this
theorem begin_begun (b : Nat) (N v la : Int) (R : Nat → Bool) (now next m : Option Nat) (Ln Lx : List (Int × List C)) (w : World) (h : Bk w b N v la true R now next Ln Lx) :
    Calls Try.prog 12 #[.pointer (some ⟨b, 0, none⟩), .map m] w fun r w' => r = .returned (.tuple #[.int .i64 0, .int .i64 7]) ∧ w = w' := by
  have c3 := h.cells.2.2.2.1
  go_enter Try.func12, Try.ntmps12
  go_wp2_with fail
  refine bodyPost_ret (results_tmp2 rfl _ _ _) rfl ?_
  exact ⟨rfl, rfl⟩
/-- What Begin answers where it refuses; 0: it does not. -/
def begE (N la : Int) (L : List (Int × List C)) : Int := if fitB N L = false then 1 else if clB L = false then 9 else if 1000000 ≤ la then 5 else 0
theorem begin_no (b : Nat) (N v la : Int) (R : Nat → Bool) (now next m : Option Nat) (Ln Lx L : List (Int × List C)) (w : World) (h : Bk w b N v la false R now next Ln Lx) (hs : Src w b m L) (hT : fitB N L = true → (allO L).length ≤ 1000000) (he : begE N la L ≠ 0) :
    Calls Try.prog 12 #[.pointer (some ⟨b, 0, none⟩), .map m] w fun r w' => r = .returned (.tuple #[.int .i64 0, .int .i64 (begE N la L)]) ∧ Below w.heap.size w w' := by
  have hd : begE N la L = (if fitB N L = false then 1 else if clB L = false then 9 else if 1000000 ≤ la then 5 else 0) := rfl
  have c3 := h.cells.2.2.2.1
  have hF := fitsM b N v la false R now next m Ln Lx L w h hs
  cases hf : fitB N L
  · rw [hf] at hF
    have HD := Lib.hid (hd.trans (if_pos hf))
    clear hd hf he hT
    go_enter Try.func12, Try.ntmps12
    go_wp2_with fail
    refine hF.mono ?_
    rintro r w1 ⟨rfl, b1⟩
    go_wp2_with fail
    refine bodyPost_ret (results_tmp2 rfl _ _ _) rfl ?_
    exact ⟨by rw [HD.out]; rfl, b1⟩
  rw [hf] at hF
  rw [hf, if_neg (by decide)] at hd
  have HTT := hT hf
  clear hT
  have hC := fun w1 (b1 : Below w.heap.size w w1) => cleanM b m L w1 (hs.go (just_of_below b b1)) HTT
  cases hc : clB L
  · simp only [hc] at hC
    have HD := Lib.hid (hd.trans (if_pos hc))
    clear hd hf hc he
    go_enter Try.func12, Try.ntmps12
    go_wp2_with fail
    refine hF.mono ?_
    rintro r w1 ⟨rfl, b1⟩
    go_wp2_with fail
    refine (hC w1 b1).mono ?_
    rintro r w2 ⟨rfl, b2⟩
    go_wp2_with fail
    refine bodyPost_ret (results_tmp2 rfl _ _ _) rfl ?_
    exact ⟨by rw [HD.out]; rfl, b1.trans (b2.mono b1.size)⟩
  simp only [hc] at hC
  rw [hc, if_neg (by decide)] at hd
  by_cases hl : 1000000 ≤ la
  · have HD := Lib.hid (hd.trans (if_pos hl))
    have g1 : decide (1000000 ≤ la) = true := by simpa using hl
    clear hd hf hc he
    go_enter Try.func12, Try.ntmps12
    go_wp2_with fail
    refine hF.mono ?_
    rintro r w1 ⟨rfl, b1⟩
    go_wp2_with fail
    refine (hC w1 b1).mono ?_
    rintro r w2 ⟨rfl, b2⟩
    have b3 := b1.trans (b2.mono b1.size)
    have c2 := (h.below b3).cells.2.2.1
    go_wp2_with fail
    refine bodyPost_ret (results_tmp2 rfl _ _ _) rfl ?_
    exact ⟨by rw [HD.out]; rfl, b3⟩
  · rw [if_neg hl] at hd
    exact absurd hd he
theorem run_make (n : Int) (w : World) : (Instr.makeMap 32 (some (.int .i64 n))).run Try.prog w = .ok (.map (some w.heap.size)) (w.alloc (.map #[] 0)) := by
  simp [Instr.makeMap, run_underlying und_m, asInt, Result.andThen]
  rfl
/-- A row of a node, in order. -/
def conv (e : Int × List C) : Int × List C := (e.1, srtC e.2)
set_option maxHeartbeats 8000000 in
theorem begin_yes (b : Nat) (N v la : Int) (R : Nat → Bool) (now next m : Option Nat) (Ln Lx L : List (Int × List C)) (w : World) (h : Bk w b N v la false R now next Ln Lx) (hs : Src w b m L) (hT : (allO L).length ≤ 1000000) (hd : (L.map (·.1)).Nodup) (hl : ∀ e ∈ L, e.2.length ≤ 100000) (hla : 0 ≤ la) (he : begE N la L = 0) :
    Calls Try.prog 12 #[.pointer (some ⟨b, 0, none⟩), .map m] w fun r w' => r = .returned (.tuple #[.int .i64 (la + 1), .int .i64 0]) ∧ Just b w w' ∧ ∃ x Lx', Bk w' b N v (la + 1) true (fun _ => false) now x Ln Lx' ∧ Lx'.Perm (L.map conv) := by
  have hla2 : la < 1000000 := by
    unfold begE at he
    split at he
    · cases he
    · split at he
      · cases he
      · split at he
        · cases he
        · omega
  have hf : fitB N L = true := by
    cases hf : fitB N L
    · unfold begE at he
      rw [if_pos hf] at he
      cases he
    · rfl
  have hc : clB L = true := by
    cases hc : clB L
    · unfold begE at he
      rw [hf, if_neg (by decide), if_pos hc] at he
      cases he
    · rfl
  have c3 := h.cells.2.2.2.1
  have hF := fitsM b N v la false R now next m Ln Lx L w h hs
  rw [hf] at hF
  have hC := fun w1 (b1 : Below w.heap.size w w1) => cleanM b m L w1 (hs.go (just_of_below b b1)) hT
  simp only [hc] at hC
  have g1 : decide (1000000 ≤ la) = false := by simp; omega
  have e1 : IntKind.i64.wrap (la + 1) = la + 1 := IntWalk.i64_in _ (by omega)
  clear hf hc he
  go_enter Try.func12, Try.ntmps12
  go_wp2_with fail
  refine hF.mono ?_
  rintro r w1 ⟨rfl, b1⟩
  go_wp2_with fail
  refine (hC w1 b1).mono ?_
  rintro r w2 ⟨rfl, b2⟩
  have b3 := b1.trans (b2.mono b1.size)
  have h2 := h.below b3
  have j2 := just_of_below b b3
  clear hF hC b1 b2 c3
  obtain ⟨c0, c1, c2, c3, c20, c21, cR⟩ := h2.cells
  have f2 : w2.frozen? ⟨b, 2, none⟩ = false := h2.blk.free 2
  have f3 : w2.frozen? ⟨b, 3, none⟩ = false := h2.blk.free 3
  go_upto_region 13 with (fail)
  have hb3 := (h2.blk.put 2 (.int .i64 (la + 1))).put 3 (.bool true)
  have j3 := j2.trans ((Just.set b w2 2 (.int .i64 (la + 1))).put 3 (.bool true))
  generalize (w2.setCell ⟨b, 2, none⟩ (.int .i64 (la + 1))).setCell ⟨b, 3, none⟩ (.bool true) = w3 at *
  clear c0 c1 c2 c3 c20 c21 cR f2 f3 h2 j2 b3
  clear w2 w1
  have q0 : w3.cell? ⟨b, 4, none⟩ = some (.bool (R 0)) := hb3.cell (i := 4) (by decide)
  have p0 : w3.frozen? ⟨b, 4, none⟩ = false := hb3.free 4
  have q1 : w3.cell? ⟨b, 5, none⟩ = some (.bool (R 1)) := hb3.cell (i := 5) (by decide)
  have p1 : w3.frozen? ⟨b, 5, none⟩ = false := hb3.free 5
  have q2 : w3.cell? ⟨b, 6, none⟩ = some (.bool (R 2)) := hb3.cell (i := 6) (by decide)
  have p2 : w3.frozen? ⟨b, 6, none⟩ = false := hb3.free 6
  have q3 : w3.cell? ⟨b, 7, none⟩ = some (.bool (R 3)) := hb3.cell (i := 7) (by decide)
  have p3 : w3.frozen? ⟨b, 7, none⟩ = false := hb3.free 7
  have q4 : w3.cell? ⟨b, 8, none⟩ = some (.bool (R 4)) := hb3.cell (i := 8) (by decide)
  have p4 : w3.frozen? ⟨b, 8, none⟩ = false := hb3.free 8
  have q5 : w3.cell? ⟨b, 9, none⟩ = some (.bool (R 5)) := hb3.cell (i := 9) (by decide)
  have p5 : w3.frozen? ⟨b, 9, none⟩ = false := hb3.free 9
  have q6 : w3.cell? ⟨b, 10, none⟩ = some (.bool (R 6)) := hb3.cell (i := 10) (by decide)
  have p6 : w3.frozen? ⟨b, 10, none⟩ = false := hb3.free 10
  have q7 : w3.cell? ⟨b, 11, none⟩ = some (.bool (R 7)) := hb3.cell (i := 11) (by decide)
  have p7 : w3.frozen? ⟨b, 11, none⟩ = false := hb3.free 11
  have q8 : w3.cell? ⟨b, 12, none⟩ = some (.bool (R 8)) := hb3.cell (i := 12) (by decide)
  have p8 : w3.frozen? ⟨b, 12, none⟩ = false := hb3.free 12
  have q9 : w3.cell? ⟨b, 13, none⟩ = some (.bool (R 9)) := hb3.cell (i := 13) (by decide)
  have p9 : w3.frozen? ⟨b, 13, none⟩ = false := hb3.free 13
  have q10 : w3.cell? ⟨b, 14, none⟩ = some (.bool (R 10)) := hb3.cell (i := 14) (by decide)
  have p10 : w3.frozen? ⟨b, 14, none⟩ = false := hb3.free 14
  have q11 : w3.cell? ⟨b, 15, none⟩ = some (.bool (R 11)) := hb3.cell (i := 15) (by decide)
  have p11 : w3.frozen? ⟨b, 15, none⟩ = false := hb3.free 15
  have q12 : w3.cell? ⟨b, 16, none⟩ = some (.bool (R 12)) := hb3.cell (i := 16) (by decide)
  have p12 : w3.frozen? ⟨b, 16, none⟩ = false := hb3.free 16
  have q13 : w3.cell? ⟨b, 17, none⟩ = some (.bool (R 13)) := hb3.cell (i := 17) (by decide)
  have p13 : w3.frozen? ⟨b, 17, none⟩ = false := hb3.free 17
  have q14 : w3.cell? ⟨b, 18, none⟩ = some (.bool (R 14)) := hb3.cell (i := 18) (by decide)
  have p14 : w3.frozen? ⟨b, 18, none⟩ = false := hb3.free 18
  have q15 : w3.cell? ⟨b, 19, none⟩ = some (.bool (R 15)) := hb3.cell (i := 19) (by decide)
  have p15 : w3.frozen? ⟨b, 19, none⟩ = false := hb3.free 19
  go_upto_region 14 with (fail)
  clear q0 p0 q1 p1 q2 p2 q3 p3 q4 p4 q5 p5 q6 p6 q7 p7 q8 p8 q9 p9 q10 p10 q11 p11 q12 p12 q13 p13 q14 p14 q15 p15
  have hb4 := ((((((((((((((((hb3).put 4 (.bool false)).put 5 (.bool false)).put 6 (.bool false)).put 7 (.bool false)).put 8 (.bool false)).put 9 (.bool false)).put 10 (.bool false)).put 11 (.bool false)).put 12 (.bool false)).put 13 (.bool false)).put 14 (.bool false)).put 15 (.bool false)).put 16 (.bool false)).put 17 (.bool false)).put 18 (.bool false)).put 19 (.bool false)
  have j4 := ((((((((((((((((j3).put 4 (.bool false)).put 5 (.bool false)).put 6 (.bool false)).put 7 (.bool false)).put 8 (.bool false)).put 9 (.bool false)).put 10 (.bool false)).put 11 (.bool false)).put 12 (.bool false)).put 13 (.bool false)).put 14 (.bool false)).put 15 (.bool false)).put 16 (.bool false)).put 17 (.bool false)).put 18 (.bool false)).put 19 (.bool false)
  generalize ((((((((((((((((w3).setCell ⟨b, 4, none⟩ (.bool false)).setCell ⟨b, 5, none⟩ (.bool false)).setCell ⟨b, 6, none⟩ (.bool false)).setCell ⟨b, 7, none⟩ (.bool false)).setCell ⟨b, 8, none⟩ (.bool false)).setCell ⟨b, 9, none⟩ (.bool false)).setCell ⟨b, 10, none⟩ (.bool false)).setCell ⟨b, 11, none⟩ (.bool false)).setCell ⟨b, 12, none⟩ (.bool false)).setCell ⟨b, 13, none⟩ (.bool false)).setCell ⟨b, 14, none⟩ (.bool false)).setCell ⟨b, 15, none⟩ (.bool false)).setCell ⟨b, 16, none⟩ (.bool false)).setCell ⟨b, 17, none⟩ (.bool false)).setCell ⟨b, 18, none⟩ (.bool false)).setCell ⟨b, 19, none⟩ (.bool false) = w4 at *
  have hb4 : Blk w4 b 71 22 (bkV N v (la + 1) true (fun _ => false) now next) := hb4.ext (fun i hi => by
    rcases idx22 i hi with rfl | rfl | rfl | rfl | rfl | rfl | rfl | rfl | rfl | rfl | rfl | rfl | rfl | rfl | rfl | rfl | rfl | rfl | rfl | rfl | rfl | rfl <;> rfl)
  clear hb3 j3
  rcases hs with ⟨rfl, rfl⟩ | ⟨bm, es, clock, E, rfl, hmap, hsrc⟩
  · obtain ⟨g, hg⟩ : ∃ g, w4.heap.size = g := ⟨_, rfl⟩
    have hmk := run_make 0 w4
    rw [hg] at hmk
    have c21 : (w4.alloc (.map #[] 0)).cell? ⟨b, 21, none⟩ = some (.map next) := (hb4.alloc (.map #[] 0)).cell (i := 21) (by decide)
    have f21 : (w4.alloc (.map #[] 0)).frozen? ⟨b, 21, none⟩ = false := (hb4.alloc (.map #[] 0)).free 21
    have hbg : b < g := hg ▸ hb4.lt
    go_upto_region 15 with (fail)
    have hb5 : Blk ((w4.setCell ⟨b, 21, none⟩ (.map (some g))).alloc (.map #[] 0)) b 71 22 (bkV N v (la + 1) true (fun _ => false) now (some g)) := ((hb4.put 21 (.map (some g))).alloc (.map #[] 0)).ext (fun i hi => by
      rcases idx22 i hi with rfl | rfl | rfl | rfl | rfl | rfl | rfl | rfl | rfl | rfl | rfl | rfl | rfl | rfl | rfl | rfl | rfl | rfl | rfl | rfl | rfl | rfl <;> rfl)
    have j5 := (j4.put 21 (.map (some g))).alloc (.map #[] 0)
    have m5 : MapL ((w4.setCell ⟨b, 21, none⟩ (.map (some g))).alloc (.map #[] 0)) (b + 1) g [] := by
      refine ⟨hbg, fun _ => undef, ?_, fun i hi => absurd hi (by simp)⟩
      have hz : (w4.setCell ⟨b, 21, none⟩ (.map (some g))).heap.size = g := by rw [← hg]; simp
      have := heap_alloc_new (w4.setCell ⟨b, 21, none⟩ (.map (some g))) (.map #[] 0)
      rw [hz] at this
      exact this
    have hwg : w.heap.size ≤ g := hg ▸ j4.size
    generalize (w4.setCell ⟨b, 21, none⟩ (.map (some g))).alloc (.map #[] 0) = w5 at *
    clear hmk c21 f21 hb4 hg j4
    have hrange := run_range_nilMap (P := Try.prog) w5 32 3 33 (by kernel_rfl)
    have hnext := fun ty => run_next_nilMap (P := Try.prog) w5 ty 0 0 #[]
    have hb6 := hb5.alloc (.mapIter none 0 #[] 0)
    have j6 := j5.alloc (.mapIter none 0 #[] 0)
    have m6 := m5.below ((Below.refl w5.heap.size w5).alloc (Nat.le_refl _) (.mapIter none 0 #[] 0))
    go_wp2_with fail
    generalize w5.alloc (.mapIter none 0 #[] 0) = w6 at *
    go_loopw [] (fun wr => wr = w6) (fun _ => 0)
    case atStart => rfl
    case round =>
      subst hrel
      have c2 : wr.cell? ⟨b, 2, none⟩ = some (.int .i64 (la + 1)) := hb6.cell (i := 2) (by decide)
      go_wp2_with fail
      refine bodyPost_ret (results_tmp2 rfl _ _ _) rfl ?_
      exact ⟨rfl, j6, some g, [], ⟨hb6, h.now.just j6 (by omega), .inr ⟨g, rfl, m6⟩⟩, List.Perm.refl _⟩
  · have hM4 := hsrc w4 j4
    have hm4 := hM4.heap
    have hlen := fun ty => run_len_map (P := Try.prog) (w := w4) 32 ty bm es clock (by kernel_rfl) hm4
    obtain ⟨g, hg⟩ : ∃ g, w4.heap.size = g := ⟨_, rfl⟩
    have hmk := run_make (es.size : Int) w4
    rw [hg] at hmk
    have c21 : (w4.alloc (.map #[] 0)).cell? ⟨b, 21, none⟩ = some (.map next) := (hb4.alloc (.map #[] 0)).cell (i := 21) (by decide)
    have f21 : (w4.alloc (.map #[] 0)).frozen? ⟨b, 21, none⟩ = false := (hb4.alloc (.map #[] 0)).free 21
    have hbg : b < g := hg ▸ hb4.lt
    go_upto_region 15 with (fail)
    have hb5 : Blk ((w4.setCell ⟨b, 21, none⟩ (.map (some g))).alloc (.map #[] 0)) b 71 22 (bkV N v (la + 1) true (fun _ => false) now (some g)) := ((hb4.put 21 (.map (some g))).alloc (.map #[] 0)).ext (fun i hi => by
      rcases idx22 i hi with rfl | rfl | rfl | rfl | rfl | rfl | rfl | rfl | rfl | rfl | rfl | rfl | rfl | rfl | rfl | rfl | rfl | rfl | rfl | rfl | rfl | rfl <;> rfl)
    have j5 := (j4.put 21 (.map (some g))).alloc (.map #[] 0)
    have m5 : MapL ((w4.setCell ⟨b, 21, none⟩ (.map (some g))).alloc (.map #[] 0)) (b + 1) g [] := by
      refine ⟨hbg, fun _ => undef, ?_, fun i hi => absurd hi (by simp)⟩
      have hz : (w4.setCell ⟨b, 21, none⟩ (.map (some g))).heap.size = g := by rw [← hg]; simp
      have := heap_alloc_new (w4.setCell ⟨b, 21, none⟩ (.map (some g))) (.map #[] 0)
      rw [hz] at this
      exact this
    have hwg : w.heap.size ≤ g := hg ▸ j4.size
    generalize (w4.setCell ⟨b, 21, none⟩ (.map (some g))).alloc (.map #[] 0) = w5 at *
    clear hmk c21 f21 hb4 hg j4
    have hM5 := hsrc w5 j5
    have hrange := run_range_map (P := Try.prog) w5 32 3 33 bm es clock (by kernel_rfl) hM5.heap
    obtain ⟨r, hr⟩ : ∃ r, w5.heap.size = r := ⟨_, rfl⟩
    have hb6 := hb5.alloc (.mapIter (some bm) clock #[] clock)
    have j6 := j5.alloc (.mapIter (some bm) clock #[] clock)
    have m6 := m5.below ((Below.refl w5.heap.size w5).alloc (Nat.le_refl _) (.mapIter (some bm) clock #[] clock))
    have hit6 : (w5.alloc (.mapIter (some bm) clock #[] clock)).heap[r]? = some (.mapIter (some bm) clock #[] clock) := by rw [← hr]; exact heap_alloc_new w5 _
    have hwr : w.heap.size ≤ r := hr ▸ j5.size
    have hgr : g < r := by
      obtain ⟨_, vs, h9, _⟩ := m5
      have := iter_lt h9
      omega
    go_wp2_with fail
    generalize w5.alloc (.mapIter (some bm) clock #[] clock) = w6 at *
    clear hrange hb5 j5 m5 hM5 hm4 hM4
    have HN : Hid ((es.toList.map fun x => (E x).1).Nodup) := Lib.hid (by
      rw [← hmap, List.map_map] at hd
      exact hd)
    have HL : Hid (∀ x ∈ es.toList, (E x).2.length ≤ 100000) := Lib.hid (fun x hx => hl _ (by rw [← hmap]; exact List.mem_map.2 ⟨x, hx, rfl⟩))
    have HS0 := Lib.hid hsrc
    clear hd hl hT hsrc hlen
    go_loopw [] (fun wr => ∃ (S : List MapEntry) (seen : Array Nat) (c0 : Nat), wr.heap[r]? = some (.mapIter (some bm) clock seen c0) ∧ clock ≤ c0 ∧ Hid ((S ++ (leftOf es seen).toList).Perm es.toList) ∧ Just b w wr ∧ Blk wr b 71 22 (bkV N v (la + 1) true (fun _ => false) now (some g)) ∧ MapL wr (b + 1) g (S.map fun x => conv (E x))) (fun wr => stillTo es r wr)
    case atStart => exact ⟨[], #[], clock, hit6, Nat.le_refl _, Lib.hid (by rw [left_all]; exact List.Perm.refl _), j6, hb6, m6⟩
    case round =>
      clear hit6 j6 hb6 m6
      obtain ⟨S, seen, c0, hit, hc0, HS, jw, hb, mw⟩ := hrel
      have hst : stillTo es r wr = (leftOf es seen).size := by unfold stillTo World.iterSeen; rw [hit]
      have hM := HS0.out wr jw
      have hmp := hM.heap
      have HST := Lib.hid hst
      clear hst
      go_wp2_with (at_next; refine wpList_next_raw rfl (.tmp 52) rfl r bm clock c0 seen es clock rfl hit hmp hM.old hc0 ?_ ?_)
      · intro hdone
        have hl0 : (leftOf es seen).toList = [] := by
          rw [← List.length_eq_zero_iff]
          simpa using hdone
        have hS := HS.out
        rw [hl0, List.append_nil] at hS
        have hper : (S.map fun x => conv (E x)).Perm (L.map conv) := by
          rw [← hmap, List.map_map]
          exact hS.map _
        have c2 : wr.cell? ⟨b, 2, none⟩ = some (.int .i64 (la + 1)) := hb.cell (i := 2) (by decide)
        have HPER := Lib.hid hper
        clear hS hl0 hdone hmp hit hper hM
        go_wp2_with fail
        refine bodyPost_ret (results_tmp2 rfl _ _ _) rfl ?_
        exact ⟨rfl, jw, some g, _, ⟨hb, h.now.just jw (by omega), .inr ⟨g, rfl, mw⟩⟩, HPER.out⟩
      · intro e he w7 hit7 j7
        have he := Array.mem_toList_iff.2 he
        obtain ⟨hme, _⟩ := mem_left he
        have hstep := left_step hM.nd he
        have hjw7 : Just b w w7 := just_more jw j7 hwr
        have hM7 := HS0.out w7 hjw7
        have hen := run_entry_at (P := Try.prog) w7 r bm clock seen es clock e hit7 hM7.heap hme hM7.nd
        obtain ⟨a, c, hv, hn, hc, hrow⟩ := hM7.val e hme
        rw [hM7.key e hme, hv] at hen ⊢
        have hb7 : Blk w7 b 71 22 (bkV N v (la + 1) true (fun _ => false) now (some g)) := j7.blk hb (by omega)
        have hrg : r ≠ g := by omega
        obtain ⟨hbg2, vs, hgm, hgr⟩ := id mw
        have m7 : MapL w7 (b + 1) g (S.map fun x => conv (E x)) := by
          exact ⟨hbg2, vs, (j7.block g (iter_lt hgm) (by omega)).trans hgm, fun i hi => Rv.off (hgr i hi) (fun i => by unfold World.cell?; rw [hit]) j7⟩
        have hfresh : ∀ i, i < (S.map fun x => conv (E x)).length → keyN (S.map fun x => conv (E x)) i ≠ (E e).1 := by
          intro i hi
          have hp := (hstep.append_left S).trans HS.out
          have nod := (hp.map fun x => (E x).1).nodup_iff.2 HN.out
          rw [List.map_append, List.map_cons, List.nodup_append] at nod
          have hi2 : i < S.length := by simpa using hi
          have hk : keyN (S.map fun x => conv (E x)) i = (E S[i]).1 := by
            show ((S.map fun x => conv (E x)).getD i (0, [])).1 = _
            rw [List.getD_eq_getElem?_getD, List.getElem?_eq_getElem hi, List.getElem_map]
            rfl
          rw [hk]
          exact nod.2.2 _ (List.mem_map.2 ⟨S[i], List.getElem_mem hi2, rfl⟩) _ (by simp)
        have hlen := HL.out e hme
        obtain ⟨nd, hnd⟩ : ∃ q, (E e).1 = q := ⟨_, rfl⟩
        obtain ⟨l, hl⟩ : ∃ q, (E e).2 = q := ⟨_, rfl⟩
        have HEE : Hid (conv (E e) = (nd, srtC l)) := Lib.hid (by unfold conv; rw [hnd, hl])
        rw [hl] at hn hen hrow hlen ⊢
        rw [hnd] at hen hfresh ⊢
        have HSH := Lib.hid (left_shrinks es seen e he)
        have PI : ∀ w', Row w' a (l.length * 5) (lv l) → _ := fun w' h' => ino_any a c l w' h' hlen
        have h7l := m7.1
        have m8 : MapL w7.drew (b + 1) g (S.map fun x => conv (E x)) := m7.below (below_drewN (Below.refl _ _) 1)
        have rA : Row w7.drew a (l.length * 5) (lv l) := hrow.drewN 1
        have bA : Blk w7.drew b 71 22 (bkV N v (la + 1) true (fun _ => false) now (some g)) := hb7.drewN 1
        have jA : Just b w w7.drew := hjw7.drewN 1
        have iA : w7.drew.heap[r]? = some (.mapIter (some bm) clock (seen.push e.born) clock) := hit7
        have xx : w7.drew.cell? ⟨b, 21, none⟩ = some (.map (some g)) := bA.cell (i := 21) (by decide)
        have hgA : g < w7.drew.heap.size := by
          obtain ⟨_, vs, h9, _⟩ := m8
          exact iter_lt h9
        have hwA := jA.size
        have hlc : l.length ≤ c := hn
        clear hv hnd hl hme hM7 hb7 m7 hjw7 hit7 j7 hgm hgr hit jw hb mw hmp hM
        have hlo : b + 1 ≤ w7.drew.heap.size := by omega
        have PO : Calls Try.prog 37 #[.slice a l.length c] w7.drew fun q w8 => ∃ rv w9, q = .returned rv ∧ w8.cell? ⟨b, 21, none⟩ = some (.map (some g)) ∧ (Instr.mapUpdate 32 (.map (some g)) (.int .i64 nd) rv).run Try.prog w8 = .ok () w9 ∧
            Blk w9 b 71 22 (bkV N v (la + 1) true (fun _ => false) now (some g)) ∧ Just b w w9 ∧ w9.heap[r]? = some (.mapIter (some bm) clock (seen.push e.born) clock) ∧ MapL w9 (b + 1) g ((S.map fun x => conv (E x)) ++ [(nd, srtC l)]) := (PI _ rA).mono (by
          rintro q w8 ⟨rv, rfl, hrv, b8⟩
          obtain ⟨w9, hput, jput, sput, m9⟩ := put_new (m8.below b8) hfresh (hrv.mono hlo)
          have bB : Blk w8 b 71 22 (bkV N v (la + 1) true (fun _ => false) now (some g)) := below_own b8 bA bA.lt
          exact ⟨rv, w9, rfl, bB.cell (i := 21) (by decide), hput, jput.blk bB (by omega), just_more (jA.trans (just_of_below b b8)) jput hwg, (jput.block r (Nat.lt_of_lt_of_le (iter_lt iA) b8.size) (by omega)).trans ((b8.block r (iter_lt iA)).trans iA), m9⟩)
        clear PI m8 rA bA jA iA hfresh hgA hwA hlo h7l hlc
        go_upto_region 18 with (fail)
        go_region_held3 (fun w' => w'.cell? ⟨b, 21, none⟩ = some (.map (some g))) (with_reducible first | exact xx | exact yy | exact zz) (first
          | (go_at_call 37; refine PO.mono ?_; rintro q w8 ⟨rv, w9, rfl, yy, hput, b9, j9, i9, m9⟩; have zz : w9.cell? ⟨b, 21, none⟩ = some (.map (some g)) := b9.cell (i := 21) (by decide))
          | fail)
        all_goals
          clear xx yy zz hput PO
          go_wp2_with fail
          refine ⟨⟨S ++ [e], seen.push e.born, clock, i9, Nat.le_refl _, Lib.hid ?_, j9, b9, ?_⟩, ?_⟩
          · rw [List.append_assoc]
            exact (hstep.append_left S).trans HS.out
          · rw [List.map_append, List.map_cons, List.map_nil, HEE.out]
            exact m9
          · rw [HST.out]
            unfold stillTo World.iterSeen
            rw [i9]
            exact HSH.out
end Go.Proofs.Ytdpkiolngglpaaa.Ve
