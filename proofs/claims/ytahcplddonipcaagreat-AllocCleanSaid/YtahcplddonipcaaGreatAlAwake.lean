/-
  The law's awake of stage 22 (alloc): two cells that do not clash, one that does, a map of two.
-/
import Derived.Test.YtahcplddonipcaaGreatAlClean
set_option maxRecDepth 100000
namespace Go.Proofs.YtahcplddonipcaaGreat.Al
set_option linter.unusedVariables false
set_option linter.unusedSimpArgs false
open Go.RowKit Lb Cl Ce Go.ChangeMaps

theorem run_put_first (w : World) (b : Nat) (k : Int) (v : Value) (hb : w.heap[b]? = some (.map #[] 0)) :
    (Instr.mapUpdate 28 (.map (some b)) (.int .i64 k) v).run Tryz.prog w = .ok () (setBlock w b (.map #[⟨.int .i64 k, v, 0⟩] 1)) := by
  have hm : Tryz.prog.underlying 28 = some (.map 3 34) := by kernel_rfl
  have hk : Tryz.prog.underlying 3 = some (.int .i64) := by kernel_rfl
  have hf : Instr.findNow (.int .i64) (.int .i64 k) ([] : List MapEntry) 0 = some none := rfl
  have hc : (Instr.checkKey false 10000 3 (.int .i64 k)).run Tryz.prog w = .ok () w := MapKept.run_checkKey hk (by simp [MapKept.IsKey]) false 9999
  simp [Instr.mapUpdate, run_underlying hm, MapKept.run_getObj_map hb, hc, MapKept.run_findKey hk hf, MapKept.run_setObj_map _ hb, Result.andThen, setBlock]
theorem run_put_two (w : World) (b : Nat) (v u : Value) (hb : w.heap[b]? = some (.map #[⟨.int .i64 1, v, 0⟩] 1)) :
    (Instr.mapUpdate 28 (.map (some b)) (.int .i64 2) u).run Tryz.prog w = .ok () (setBlock w b (.map #[⟨.int .i64 1, v, 0⟩, ⟨.int .i64 2, u, 1⟩] 2)) := by
  have hm : Tryz.prog.underlying 28 = some (.map 3 34) := by kernel_rfl
  have hk : Tryz.prog.underlying 3 = some (.int .i64) := by kernel_rfl
  have hf : Instr.findNow (.int .i64) (.int .i64 2) [(⟨.int .i64 1, v, 0⟩ : MapEntry)] 0 = some none := rfl
  have hc : (Instr.checkKey false 10000 3 (.int .i64 2)).run Tryz.prog w = .ok () w := MapKept.run_checkKey hk (by simp [MapKept.IsKey]) false 9999
  simp [Instr.mapUpdate, run_underlying hm, MapKept.run_getObj_map hb, hc, MapKept.run_findKey hk hf, MapKept.run_setObj_map _ hb, Result.andThen, setBlock]
theorem row_just {w w' : World} {q o n g : Nat} {V : Nat → Value} (h : Row w (some ⟨q, o, none⟩) n V) (j : Just g w w') (hne : q ≠ g) : Row w' (some ⟨q, o, none⟩) n V := fun hn => by
  obtain ⟨b, off, h1, h2, h3⟩ := h hn
  injection h1 with h1
  injection h1 with e1 e2 _
  subst e1 e2
  refine ⟨_, _, rfl, Nat.lt_of_lt_of_le h2 j.size, fun i hi => ?_⟩
  have := j.block _ h2 hne
  have h4 := h3 i hi
  unfold World.cell? at h4 ⊢
  rw [← h4, this]
theorem two_clean : clB [((1 : Int), [(⟨0, 1, 0, 1, 2⟩ : C)]), (2, [⟨0, 1, 0, 2, 1⟩])] = true := by
  have h : NoC (allO [((1 : Int), [(⟨0, 1, 0, 1, 2⟩ : C)]), (2, [⟨0, 1, 0, 2, 1⟩])]) := by
    show List.Pairwise _ [(⟨⟨0, 1, 0, 1, 2⟩, 1⟩ : Ow), ⟨⟨0, 1, 0, 2, 1⟩, 2⟩]
    refine List.Pairwise.cons (fun x hx => ?_) (List.pairwise_singleton _ _)
    rw [List.mem_singleton] at hx
    subst hx
    show clashB ⟨0, 1, 0, 1, 2⟩ ⟨0, 1, 0, 2, 1⟩ 1 2 = false
    kernel_rfl
  have e : decide (NoC (allO [((1 : Int), [(⟨0, 1, 0, 1, 2⟩ : C)]), (2, [⟨0, 1, 0, 2, 1⟩])])) = true := decide_eq_true h
  unfold clB
  rw [Bool.and_eq_true]
  exact ⟨by decide, e⟩
set_option maxHeartbeats 2000000 in
theorem awake_any (w : World) : Calls Tryz.prog 13 #[] w fun r w' => r = .returned (.bool true) ∧ Below w.heap.size w w' := by
  have oA := (Own.new w 50 #[.int .i64 0, .int .i64 1, .int .i64 0, .int .i64 1, .int .i64 2]).alloc (.cells #[.int .i64 0, .int .i64 1, .int .i64 0, .int .i64 2, .int .i64 1] 50)
  have oB := Own.new (w.alloc (.cells #[.int .i64 0, .int .i64 1, .int .i64 0, .int .i64 1, .int .i64 2] 50)) 50 #[.int .i64 0, .int .i64 1, .int .i64 0, .int .i64 2, .int .i64 1]
  have bb := ((Below.refl w.heap.size w).alloc (Nat.le_refl _) (.cells #[.int .i64 0, .int .i64 1, .int .i64 0, .int .i64 1, .int .i64 2] 50)).alloc (by simp) (.cells #[.int .i64 0, .int .i64 1, .int .i64 0, .int .i64 2, .int .i64 1] 50)
  have P1 : ∀ w, _ := fun w => clash_any ⟨0, 1, 0, 1, 2⟩ ⟨0, 1, 0, 2, 1⟩ 1 2 w
  have P2 : ∀ w, _ := fun w => clash_any ⟨0, 1, 0, 1, 2⟩ ⟨0, 1, 0, 1, 2⟩ 1 3 w
  rw [show clashB ⟨0, 1, 0, 1, 2⟩ ⟨0, 1, 0, 2, 1⟩ 1 2 = false by kernel_rfl] at P1
  rw [show clashB ⟨0, 1, 0, 1, 2⟩ ⟨0, 1, 0, 1, 2⟩ 1 3 = true by kernel_rfl] at P2
  obtain ⟨ba, hba⟩ : ∃ q, w.heap.size = q := ⟨_, rfl⟩
  have hbb : (w.alloc (.cells #[.int .i64 0, .int .i64 1, .int .i64 0, .int .i64 1, .int .i64 2] 50)).heap.size = ba + 1 := by rw [← hba]; simp
  rw [hbb] at oB
  rw [hba] at oA
  go_enter Tryz.func13, Tryz.ntmps13
  go_wp2_with fail
  generalize (w.alloc (.cells #[.int .i64 0, .int .i64 1, .int .i64 0, .int .i64 1, .int .i64 2] 50)).alloc (.cells #[.int .i64 0, .int .i64 1, .int .i64 0, .int .i64 2, .int .i64 1] 50) = w0 at *
  clear hbb
  refine (P1 _).mono ?_
  rintro r w1 ⟨rfl, j1⟩
  have oa := below_own j1 oA oA.lt
  have b1 := bb.trans (j1.mono bb.size)
  have ob := below_own j1 oB oB.lt
  clear oA oB bb j1 w0
  have k0 : w1.cell? ⟨ba, 0, none⟩ = some (.int .i64 0) := oa.cell 0
  have k1 : w1.cell? ⟨ba, 1, none⟩ = some (.int .i64 1) := oa.cell 1
  have k2 : w1.cell? ⟨ba, 2, none⟩ = some (.int .i64 0) := oa.cell 2
  have k3 : w1.cell? ⟨ba, 3, none⟩ = some (.int .i64 1) := oa.cell 3
  have k4 : w1.cell? ⟨ba, 4, none⟩ = some (.int .i64 2) := oa.cell 4
  go_wp2_with fail
  clear k0 k1 k2 k3 k4
  refine (P2 _).mono ?_
  rintro r w2 ⟨rfl, j2⟩
  replace oa := below_own j2 oa oa.lt
  replace ob := below_own j2 ob ob.lt
  have b2 := b1.trans (j2.mono b1.size)
  clear b1 j2
  obtain ⟨g, hg⟩ : ∃ g, w2.heap.size = g := ⟨_, rfl⟩
  have hb1 : (w2.alloc (.map #[] 0)).heap[g]? = some (.map #[] 0) := by rw [← hg]; exact heap_alloc_new w2 _
  have z1 : (w2.alloc (.map #[] 0)).heap.size = g + 1 := by rw [← hg]; simp
  have o1 := oa.alloc (.map #[] 0)
  have hgb : ba + 1 ≠ g := fun e => by have := ob.lt; omega
  replace ob := ob.alloc (.map #[] 0)
  have b3 := b2.alloc (by have := b2.size; omega) (.map #[] 0)
  have hwg : w.heap.size ≤ g := by have := b2.size; omega
  clear b2 oa
  have k0 : (w2.alloc (.map #[] 0)).cell? ⟨ba, 0, none⟩ = some (.int .i64 0) := o1.cell 0
  have k1 : (w2.alloc (.map #[] 0)).cell? ⟨ba, 1, none⟩ = some (.int .i64 1) := o1.cell 1
  have k2 : (w2.alloc (.map #[] 0)).cell? ⟨ba, 2, none⟩ = some (.int .i64 0) := o1.cell 2
  have k3 : (w2.alloc (.map #[] 0)).cell? ⟨ba, 3, none⟩ = some (.int .i64 1) := o1.cell 3
  have k4 : (w2.alloc (.map #[] 0)).cell? ⟨ba, 4, none⟩ = some (.int .i64 2) := o1.cell 4
  have hr1 := row_new (n := 1 * 5) (V := lv [⟨0, 1, 0, 1, 2⟩]) (w2.alloc (.map #[] 0)) #[.int .i64 0, .int .i64 1, .int .i64 0, .int .i64 1, .int .i64 2] 50 (0, 0) (fun i hi => by rcases (show i = 0 ∨ i = 1 ∨ i = 2 ∨ i = 3 ∨ i = 4 by omega) with rfl | rfl | rfl | rfl | rfl <;> rfl)
  have hb2 : ((w2.alloc (.map #[] 0)).alloc (.cells #[.int .i64 0, .int .i64 1, .int .i64 0, .int .i64 1, .int .i64 2] 50)).heap[g]? = some (.map #[] 0) := by rw [heap_alloc_old _ _ (iter_lt hb1)]; exact hb1
  have o2 := ob.alloc (.cells #[.int .i64 0, .int .i64 1, .int .i64 0, .int .i64 1, .int .i64 2] 50)
  have b4 := b3.alloc (by have := b3.size; omega) (.cells #[.int .i64 0, .int .i64 1, .int .i64 0, .int .i64 1, .int .i64 2] 50)
  have z2 : ((w2.alloc (.map #[] 0)).alloc (.cells #[.int .i64 0, .int .i64 1, .int .i64 0, .int .i64 1, .int .i64 2] 50)).heap.size = g + 2 := by simp [z1]
  rw [z1] at hr1
  have r1 := run_put_first _ g 1 (.slice (some ⟨g + 1, 0, none⟩) 1 1) hb2
  have j3 := just_setBlock ((w2.alloc (.map #[] 0)).alloc (.cells #[.int .i64 0, .int .i64 1, .int .i64 0, .int .i64 1, .int .i64 2] 50)) g (.map #[⟨.int .i64 1, .slice (some ⟨g + 1, 0, none⟩) 1 1, 0⟩] 1)
  have h3 := heap_setBlock (iter_lt hb2) (.map #[⟨.int .i64 1, .slice (some ⟨g + 1, 0, none⟩) 1 1, 0⟩] 1)
  have o3 := j3.own o2 hgb
  have b5 := j3.below b4 hwg b4.size
  have z3 : (setBlock ((w2.alloc (.map #[] 0)).alloc (.cells #[.int .i64 0, .int .i64 1, .int .i64 0, .int .i64 1, .int .i64 2] 50)) g (.map #[⟨.int .i64 1, .slice (some ⟨g + 1, 0, none⟩) 1 1, 0⟩] 1)).heap.size = g + 2 := by rw [← z2]; simp [setBlock]
  have rm : (Instr.makeMap 28 none).run Tryz.prog w2 = .ok (.map (some g)) (w2.alloc (.map #[] 0)) := by rw [← hg]; rfl
  have hr3 := row_just hr1 j3 (show g + 1 ≠ g by omega)
  have hr3s : g + 1 < g + 2 := by omega
  obtain ⟨W3, hW3⟩ : ∃ W3, setBlock ((w2.alloc (.map #[] 0)).alloc (.cells #[.int .i64 0, .int .i64 1, .int .i64 0, .int .i64 1, .int .i64 2] 50)) g (.map #[⟨.int .i64 1, .slice (some ⟨g + 1, 0, none⟩) 1 1, 0⟩] 1) = W3 := ⟨_, rfl⟩
  rw [hW3] at r1 j3 h3 o3 b5 z3 hr3
  clear hW3 j3 o2 ob o1 hb2 hb1 hr1 b4 b3 hgb
  have q0 : W3.cell? ⟨ba + 1, 0, none⟩ = some (.int .i64 0) := o3.cell 0
  have q1 : W3.cell? ⟨ba + 1, 1, none⟩ = some (.int .i64 1) := o3.cell 1
  have q2 : W3.cell? ⟨ba + 1, 2, none⟩ = some (.int .i64 0) := o3.cell 2
  have q3 : W3.cell? ⟨ba + 1, 3, none⟩ = some (.int .i64 2) := o3.cell 3
  have q4 : W3.cell? ⟨ba + 1, 4, none⟩ = some (.int .i64 1) := o3.cell 4
  have hr4 := row_new (n := 1 * 5) (V := lv [⟨0, 1, 0, 2, 1⟩]) W3 #[.int .i64 0, .int .i64 1, .int .i64 0, .int .i64 2, .int .i64 1] 50 (0, 0) (fun i hi => by rcases (show i = 0 ∨ i = 1 ∨ i = 2 ∨ i = 3 ∨ i = 4 by omega) with rfl | rfl | rfl | rfl | rfl <;> rfl)
  have hr5 := hr3.below ((Below.refl W3.heap.size W3).alloc (Nat.le_refl _) (.cells #[.int .i64 0, .int .i64 1, .int .i64 0, .int .i64 2, .int .i64 1] 50))
  have hb4 : (W3.alloc (.cells #[.int .i64 0, .int .i64 1, .int .i64 0, .int .i64 2, .int .i64 1] 50)).heap[g]? = some (.map #[⟨.int .i64 1, .slice (some ⟨g + 1, 0, none⟩) 1 1, 0⟩] 1) := by rw [heap_alloc_old _ _ (iter_lt h3)]; exact h3
  have b6 := b5.alloc (by omega) (.cells #[.int .i64 0, .int .i64 1, .int .i64 0, .int .i64 2, .int .i64 1] 50)
  rw [z3] at hr4
  have r2 := run_put_two _ g (.slice (some ⟨g + 1, 0, none⟩) 1 1) (.slice (some ⟨g + 2, 0, none⟩) 1 1) hb4
  have j5 := just_setBlock (W3.alloc (.cells #[.int .i64 0, .int .i64 1, .int .i64 0, .int .i64 2, .int .i64 1] 50)) g (.map #[⟨.int .i64 1, .slice (some ⟨g + 1, 0, none⟩) 1 1, 0⟩, ⟨.int .i64 2, .slice (some ⟨g + 2, 0, none⟩) 1 1, 1⟩] 2)
  have h5 := heap_setBlock (iter_lt hb4) (.map #[⟨.int .i64 1, .slice (some ⟨g + 1, 0, none⟩) 1 1, 0⟩, ⟨.int .i64 2, .slice (some ⟨g + 2, 0, none⟩) 1 1, 1⟩] 2)
  have b7 := j5.below b6 hwg b6.size
  have hr6 := row_just hr5 j5 (show g + 1 ≠ g by omega)
  have hr7 := row_just hr4 j5 (show g + 2 ≠ g by omega)
  obtain ⟨W5, hW5⟩ : ∃ W5, setBlock (W3.alloc (.cells #[.int .i64 0, .int .i64 1, .int .i64 0, .int .i64 2, .int .i64 1] 50)) g (.map #[⟨.int .i64 1, .slice (some ⟨g + 1, 0, none⟩) 1 1, 0⟩, ⟨.int .i64 2, .slice (some ⟨g + 2, 0, none⟩) 1 1, 1⟩] 2) = W5 := ⟨_, rfl⟩
  rw [hW5] at r2 j5 h5 b7 hr6 hr7
  have hM : MapOf W5 g #[⟨.int .i64 1, .slice (some ⟨g + 1, 0, none⟩) 1 1, 0⟩, ⟨.int .i64 2, .slice (some ⟨g + 2, 0, none⟩) 1 1, 1⟩] 2 (fun e => if e.born = 0 then (1, [⟨0, 1, 0, 1, 2⟩]) else (2, [⟨0, 1, 0, 2, 1⟩])) := by
    refine ⟨h5, fun x hx => ?_, by simp, fun x hx => ?_, fun x hx => ?_⟩
    all_goals
      simp only [List.mem_cons, List.not_mem_nil, or_false] at hx
      rcases hx with rfl | rfl
    · show (0 : Nat) < 2
      decide
    · show (1 : Nat) < 2
      decide
    · rfl
    · rfl
    · exact ⟨_, _, rfl, Nat.le_refl 1, by decide, hr6⟩
    · exact ⟨_, _, rfl, Nat.le_refl 1, by decide, hr7⟩
  have PC := clean_any g _ _ _ W5 hM (show (2 : Nat) ≤ 1000000 by decide)
  rw [show clB (List.map (fun e : MapEntry => if e.born = 0 then ((1 : Int), [(⟨0, 1, 0, 1, 2⟩ : C)]) else (2, [⟨0, 1, 0, 2, 1⟩])) (#[⟨.int .i64 1, .slice (some ⟨g + 1, 0, none⟩) 1 1, 0⟩, ⟨.int .i64 2, .slice (some ⟨g + 2, 0, none⟩) 1 1, 1⟩] : Array MapEntry).toList) = true from two_clean] at PC
  have hz5 := b7.size
  clear hM h5 hr6 hr7 hr5 hr4 hr3 hW5 j5 h3 hb4 b6 b5 o3 P1 P2
  go_wp2_with fail
  refine PC.mono ?_
  rintro r w9 ⟨rfl, b9⟩
  go_wp2_with fail
  go_ret
  exact ⟨rfl, b7.trans (b9.mono hz5)⟩
end Go.Proofs.YtahcplddonipcaaGreat.Al
