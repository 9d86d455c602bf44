/-
  Package join (chapter 18): Give.
-/
import Derived.Test.YtphiohdhgkpgnaaJoAsk
set_option maxRecDepth 100000
namespace Go.Proofs.Ytphiohdhgkpgnaa.Jo
set_option linter.unusedVariables false
open Go.RowKit Lb Go.Shelf Bf Se Cl

/-- May it be given. -/
def mayG (g : Gt) : Bool := nodeB g.nd && decide (0 ≤ g.cd ∧ g.cd < 256) && mayL g.L g.n
def giveO (key : Int) (g : Gt) : List Int := if mayG g = true then sealL key (giveB g) else []
def giveC (g : Gt) : Int := if mayG g = true then 0 else 1
theorem mayG_iff {g : Gt} : mayG g = true ↔ nodeB g.nd = true ∧ (0 ≤ g.cd ∧ g.cd < 256) ∧ g.n ≤ 8 ∧ ∀ k, k < g.n → (g.L k).may = true := by
  unfold mayG
  rw [Bool.and_eq_true, Bool.and_eq_true, decide_eq_true_eq, mayL_iff, and_assoc]
theorem give_no {key : Int} {g : Gt} (h : mayG g = false) : giveO key g = [] ∧ giveC g = 1 := by unfold giveO giveC; rw [h]; exact ⟨rfl, rfl⟩
theorem give_yes {key : Int} {g : Gt} (h : mayG g = true) : giveO key g = sealL key (giveB g) ∧ giveC g = 0 := by unfold giveO giveC; rw [h]; exact ⟨rfl, rfl⟩
set_option maxHeartbeats 4000000 in
theorem give_any (key : Int) (g : Gt) (a : Option Addr) (c : Nat) (w : World) (hk : 0 ≤ key) (hno : In32 g.no) (hc : g.n ≤ c) (hm : c ≤ maxLen) (hR : Row w a (g.n * 5) (cv g.L)) :
    Calls Try.prog 11 #[.int .u64 key, .agg (g.vals a c)] w fun e w' => ∃ a c, e = .returned (.tuple #[.slice a (giveO key g).length c, .int .i64 (giveC g)]) ∧ Bs w' a c (giveO key g) ∧ Below w.heap.size w w' := by
  have q1 := Own.new w 28 (g.vals a c)
  have b0 := (Below.refl w.heap.size w).alloc (Nat.le_refl _) (.cells (g.vals a c) 28)
  have nilB : ∀ W, Bs W none 0 [] := fun W => ⟨Nat.le_refl _, Nat.zero_le _, Row.nil _ _ _⟩
  have P1 : ∀ W, Calls Try.prog 28 #[.int .i64 g.nd] W fun e w' => e = .returned (.bool (nodeB g.nd)) ∧ W = w' := fun W => isnode_any g.nd W
  have P2 : ∀ W, Below w.heap.size w W → Calls Try.prog 35 #[.slice a g.n c] W fun e w' => e = .returned (.bool (mayL g.L g.n)) ∧ Below W.heap.size W w' := fun W hW => cellsmay_any a g.n c g.L W hc hm (hR.below hW)
  cases hg : mayG g with
  | true =>
    have HO := Lib.hid (give_yes (key := key) hg)
    obtain ⟨h1, h2, h3, h4⟩ := mayG_iff.1 hg
    have PS : ∀ W, Below w.heap.size w W → Calls Try.prog 30 #[.int .u64 key, .iface 73 (.agg (g.vals a c))] W fun e w' => ∃ a c, e = .returned (.slice a (sealL key (giveB g)).length c) ∧ Bs w' a c (sealL key (giveB g)) ∧ Below W.heap.size W w' := fun W hW =>
      (sealed_any_g key (.agg (g.vals a c)) (giveB g) W hk (giveB_ok h1 h2 h3 h4) (by rw [giveB_len]; omega) (fun W => by kernel_rfl) (fun W' hW' => gbody_any g a c W' h1 h2 hno h3 h4 hc hm (hR.below (hW.trans (hW'.mono hW.size))))).mono (fun e w' ⟨a, c, h1, h2, h3⟩ => ⟨a, c, h1, h2.toBs, h3⟩)
    rw [h1] at P1
    rw [mayL_iff.2 ⟨h3, h4⟩] at P2
    have g1 : decide (g.cd < 0) = false := by simp; omega
    have g2 : decide (255 < g.cd) = false := by simp; omega
    have HPS := Lib.hid PS
    clear h1 h2 h3 h4 hg PS
    obtain ⟨gn, gc, gno, n, L, gt⟩ := g
    dsimp only at *
    go_enter Try.func11, Try.ntmps11
    go_upto_region 1 with (fail)
    have hq : Gt.vals ⟨gn, gc, gno, n, L, gt⟩ a c = #[.int .i64 gn, .int .i64 gc, .int .u32 gno, .slice a n c, .int .u32 gt] := rfl
    generalize hw1 : w.alloc (.cells (Gt.vals ⟨gn, gc, gno, n, L, gt⟩ a c) 28) = w1 at *
    have c0 : w1.cell? ⟨w.heap.size, 0, none⟩ = some (.int .i64 gn) := q1.cell 0
    have c1 : w1.cell? ⟨w.heap.size, 1, none⟩ = some (.int .i64 gc) := q1.cell 1
    have c3 : w1.cell? ⟨w.heap.size, 3, none⟩ = some (.slice a n c) := q1.cell 3
    clear hw1
    go_wp2_with fail
    refine (P1 _).mono ?_
    rintro e w2 ⟨rfl, rfl⟩
    go_wp2_with fail
    refine (P2 _ b0).mono ?_
    rintro e w2 ⟨rfl, b2⟩
    have q2 := below_own b2 q1 q1.lt
    have b2 := b0.trans (b2.mono b0.size)
    clear c0 c1 c3 P1 P2 b0 q1
    have c0 : w2.cell? ⟨w.heap.size, 0, none⟩ = some (.int .i64 gn) := q2.cell 0
    have c1 : w2.cell? ⟨w.heap.size, 1, none⟩ = some (.int .i64 gc) := q2.cell 1
    have c2 : w2.cell? ⟨w.heap.size, 2, none⟩ = some (.int .u32 gno) := q2.cell 2
    have c3 : w2.cell? ⟨w.heap.size, 3, none⟩ = some (.slice a n c) := q2.cell 3
    have c4 : w2.cell? ⟨w.heap.size, 4, none⟩ = some (.int .u32 gt) := q2.cell 4
    go_wp2_with fail
    refine (HPS.out _ b2).mono ?_
    rintro e w3 ⟨a3, c3, rfl, hB, bb⟩
    go_wp2_with fail
    go_ret2
    exact ⟨a3, c3, by rw [HO.out.1, HO.out.2]; rfl, by rw [HO.out.1]; exact hB, b2.trans (bb.mono b2.size)⟩
  | false =>
    have HO := Lib.hid (give_no (key := key) hg)
    have hcs : nodeB g.nd = false ∨ (nodeB g.nd = true ∧ g.cd < 0) ∨ (nodeB g.nd = true ∧ 0 ≤ g.cd ∧ 255 < g.cd) ∨ (nodeB g.nd = true ∧ 0 ≤ g.cd ∧ g.cd ≤ 255 ∧ mayL g.L g.n = false) := by
      unfold mayG at hg
      cases h1 : nodeB g.nd with
      | false => exact .inl rfl
      | true =>
        rw [h1, Bool.true_and] at hg
        by_cases h2 : g.cd < 0
        · exact .inr (.inl ⟨rfl, h2⟩)
        · by_cases h3 : 255 < g.cd
          · exact .inr (.inr (.inl ⟨rfl, by omega, h3⟩))
          · rw [decide_eq_true (show 0 ≤ g.cd ∧ g.cd < 256 by omega), Bool.true_and] at hg
            exact .inr (.inr (.inr ⟨rfl, by omega, by omega, hg⟩))
    clear hg
    rcases hcs with h1 | ⟨h1, h2⟩ | ⟨h1, h2, h3⟩ | ⟨h1, h2, h3, h4⟩
    · rw [h1] at P1
      clear h1
      go_enter Try.func11, Try.ntmps11
      go_upto_region 1 with (fail)
      generalize hw1 : w.alloc (.cells (g.vals a c) 28) = w1 at *
      have c0 : w1.cell? ⟨w.heap.size, 0, none⟩ = some (.int .i64 g.nd) := q1.cell 0
      go_wp2_with fail
      refine (P1 _).mono ?_
      rintro e w2 ⟨rfl, rfl⟩
      go_wp2_with fail
      go_ret2
      exact ⟨none, 0, by rw [HO.out.1, HO.out.2]; rfl, by rw [HO.out.1]; exact nilB _, b0⟩
    · rw [h1] at P1
      clear h1
      go_enter Try.func11, Try.ntmps11
      go_upto_region 1 with (fail)
      generalize hw1 : w.alloc (.cells (g.vals a c) 28) = w1 at *
      have c0 : w1.cell? ⟨w.heap.size, 0, none⟩ = some (.int .i64 g.nd) := q1.cell 0
      have c1 : w1.cell? ⟨w.heap.size, 1, none⟩ = some (.int .i64 g.cd) := q1.cell 1
      go_wp2_with fail
      refine (P1 _).mono ?_
      rintro e w2 ⟨rfl, rfl⟩
      go_wp2_with fail
      go_ret2
      exact ⟨none, 0, by rw [HO.out.1, HO.out.2]; rfl, by rw [HO.out.1]; exact nilB _, b0⟩
    · rw [h1] at P1
      have g1 : decide (g.cd < 0) = false := by simp; omega
      clear h1 h2
      go_enter Try.func11, Try.ntmps11
      go_upto_region 1 with (fail)
      generalize hw1 : w.alloc (.cells (g.vals a c) 28) = w1 at *
      have c0 : w1.cell? ⟨w.heap.size, 0, none⟩ = some (.int .i64 g.nd) := q1.cell 0
      have c1 : w1.cell? ⟨w.heap.size, 1, none⟩ = some (.int .i64 g.cd) := q1.cell 1
      go_wp2_with fail
      refine (P1 _).mono ?_
      rintro e w2 ⟨rfl, rfl⟩
      go_wp2_with fail
      go_ret2
      exact ⟨none, 0, by rw [HO.out.1, HO.out.2]; rfl, by rw [HO.out.1]; exact nilB _, b0⟩
    · rw [h1] at P1
      rw [h4] at P2
      have g1 : decide (g.cd < 0) = false := by simp; omega
      have g2 : decide (255 < g.cd) = false := by simp; omega
      clear h1 h2 h3 h4
      go_enter Try.func11, Try.ntmps11
      go_upto_region 1 with (fail)
      generalize hw1 : w.alloc (.cells (g.vals a c) 28) = w1 at *
      have c0 : w1.cell? ⟨w.heap.size, 0, none⟩ = some (.int .i64 g.nd) := q1.cell 0
      have c1 : w1.cell? ⟨w.heap.size, 1, none⟩ = some (.int .i64 g.cd) := q1.cell 1
      have c3 : w1.cell? ⟨w.heap.size, 3, none⟩ = some (.slice a g.n c) := q1.cell 3
      go_wp2_with fail
      refine (P1 _).mono ?_
      rintro e w2 ⟨rfl, rfl⟩
      go_wp2_with fail
      refine (P2 _ b0).mono ?_
      rintro e w2 ⟨rfl, b2⟩
      go_wp2_with fail
      go_ret2
      exact ⟨none, 0, by rw [HO.out.1, HO.out.2]; rfl, by rw [HO.out.1]; exact nilB _, b0.trans (b2.mono b0.size)⟩
end Go.Proofs.Ytphiohdhgkpgnaa.Jo
