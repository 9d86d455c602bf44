/-
  Law QueueOwn: what was handed in, and what was told, may be spoilt; the call returns true. No condition.
-/
import Derived.Test.YtmabdegabeopbaaQueueFresh
set_option maxRecDepth 100000
namespace Go.Proofs.Ytmabdegabeopbaa.QueueOwn
set_option linter.unusedVariables false
open Go.RowKit Go.ChangeShapes Go.WideShapes Go.ChangeAt Go.Deep Lb Qu
set_option linter.unusedVariables false
theorem own : ownKnob Try.prog.godebug = none := by kernel_rfl
theorem laidOut : laidOutB Try.prog = true := by kernel_rfl
theorem infoB : (Try.prog.info? 5).map (fun i => (i.zero, i.size, i.bytes)) = some (some (.int .u8 0), 1, 1) := by kernel_rfl
set_option maxHeartbeats 8000000 in
theorem body (a : Option Addr) (n c : Nat) (Z : Nat → Int) (w : World) (hn : n ≤ c) (hc : c ≤ maxLen) (hV : Row w a n (fun i => .int .u8 (Z i))) :
    Calls Try.prog 7 #[.slice a n c] w fun r w' => r = .returned (.bool true) ∧ Below w.heap.size w w' := by
  have hcap : (n : Int) ≤ 9223372036854775807 := by unfold maxLen at hc; omega
  by_cases h100 : 200 < n
  · have g1 : (200 : Int) < (n : Int) := by omega
    go_enter Try.func7, Try.ntmps7
    go_wp2_with fail
    refine (awake_any _).mono ?_
    rintro r w9 ⟨rfl, b9⟩
    go_wp2_with fail
    go_ret
    exact ⟨rfl, b9⟩
  · have g1 : decide ((200 : Int) < (n : Int)) = false := by simp; omega
    have hn200 : n ≤ 200 := by omega
    have hnm : 0 + n ≤ maxLen := by unfold maxLen; omega
    have HNM := Lib.hid hnm
    obtain ⟨i0, hi0, hz0, hz1, hz2⟩ := info_parts infoB
    clear h100 hnm
    go_enter Try.func7, Try.ntmps7
    go_wp2_with fail
    refine (new_any 4 _).mono ?_
    rintro r w1 ⟨rfl, h1, b1, s1⟩
    have h1 : Que w1 w.heap.size w.heap.size 4 0 [] (.slice none 0 0) := h1
    have hm0 : Mine (w1.alloc (.cells #[] 5)) w1.heap.size 5 (.slice (some ⟨w1.heap.size, 0, none⟩) 0 0) 0 (fun _ => undef) := Mine.made (cs := #[]) (Own.new w1 5 #[]) (Nat.le_refl _) (by simp) (by simp) (fun i hi => by omega)
    have hx2 := h1.below ((Below.refl _ _).alloc (Nat.le_refl _) (.cells #[] 5))
    have bx := b1.alloc b1.size (.cells #[] 5)
    have hr := hV.below bx
    go_wp2_with (at_builtin; go_must (refine wp_app rfl (.tmp 16) (.tmp 17) _ rfl w1.heap.size 5 i0 _ 1 Try.underlying27 hi0 hz0 hz1 hz2 rfl _ 0 (fun _ => undef) rfl hm0 _ n _ (fun i => .int .u8 (Z i)) rfl hr (fun _ _ => rfl) HNM.out ?c2 ?c3 ?_))
    case c2 => omega
    case c3 => simp
    intro v4 w4 hv4 hg4
    have hv4 : Mine w4 w1.heap.size 5 v4 n (fun i => .int .u8 (Z i)) := by
      exact hv4
    have m4 : Bs w4 v4 n Z := bs_of_mine hv4
    have gr4 : ∀ q, v4.ownBlock = some q → w1.heap.size ≤ q ∧ q < w4.heap.size := fun q e => hv4.lt q e
    have b4 : Below w.heap.size w w4 := bx.grown hg4 (by have := b1.size; simp; omega) (fun q e => by
      have e : some w1.heap.size = some q := e
      injection e with e
      have := b1.size
      omega)
    have h4 : Que w4 w.heap.size w.heap.size 4 0 [] (.slice none 0 0) := ⟨grown_own hg4 hx2.own (fun e => by
      have e : some w1.heap.size = some w.heap.size := e
      injection e with e
      omega), hx2.row.kept (fun q hq => .inr (fun e => by simp [Value.ownBlock] at e)), (fun x hx => by simp at hx), hx2.low⟩
    clear hv4 hg4 hm0 hx2 hr h1 bx b1
    obtain ⟨a4, c4, rfl, hc4, hd4, hR4, hn4⟩ := m4.row
    go_wp2_with fail
    refine (put_new w.heap.size w.heap.size 4 0 [] _ 1 a4 n c4 Z _ h4 (by decide) (by decide) hc4 (by omega) hR4 (fun e => (hn4 e).1)).mono ?_
    rintro r w5 ⟨rfl, v5, u, h5, b5, hf5, hk5⟩
    have hu : ∀ q, u.ownBlock = some q → ∀ q', (Value.slice a4 n c4).ownBlock = some q' → q ≠ q' := fun q e q' e' => by
      have := hf5 q e
      have := (gr4 q' e').2
      omega
    have h5 : Que w5 w.heap.size w.heap.size 4 0 [⟨1, u, n, Z⟩] v5 := h5
    have b5 := b4.trans b5
    have mu : Bs w5 u n Z := h5.bytes _ (List.mem_singleton.mpr rfl)
    obtain ⟨au, cu, rfl, hcu, hdu, hRu, hnu⟩ := mu.row
    clear hRu mu
    have m5 : Bs w5 (.slice a4 n c4) n Z := hk5 _ _ _ m4
    clear h4 b4 hR4 m4
    go_wp2_with fail
    go_loopw [25] (fun i wr => ∃ (k : Nat) (Y : Nat → Int) (v : Value), i = .int .i64 k ∧ k ≤ n ∧ Bs wr (.slice a4 n c4) n Y ∧ Que wr w.heap.size w.heap.size 4 0 [⟨1, .slice au n cu, n, Z⟩] v ∧ Below w.heap.size w wr) (fun i _ => n - (intOf i).toNat)
    case atStart => exact ⟨0, Z, v5, rfl, by omega, m5, h5, b5⟩
    case round =>
      clear h5 b5 m5
      obtain ⟨k, Y, v, rfl, hk, m6, h6, b6⟩ := hrel
      by_cases hlt : k < n
      · obtain ⟨g, off, cs, rfl, ho, c0⟩ := m6.at_ hlt
        have c1 : wr.cell? ⟨g, off + k, none⟩ = some (.int .u8 (Y k)) := (ho.cell _).trans c0
        have f1 : wr.frozen? ⟨g, off + k, none⟩ = false := ho.free _
        have hgw : w.heap.size ≤ g := by have := (gr4 g rfl).1; omega
        go_wp2_with fail
        exact ⟨⟨k + 1, _, v, by simp, by omega, m6.put hlt _, h6.other (Just.set g wr _ _) ho (fun x hx q e => by
          obtain rfl := List.mem_singleton.mp hx
          exact hu q e g rfl), (Just.set g wr _ _).below b6 hgw (Nat.le_trans hgw (Nat.le_of_lt ho.lt))⟩, by simp [intOf]; omega⟩
      · have hkn : k = n := by omega
        have g4 : decide ((k : Int) < (n : Int)) = false := by simp; omega
        have g4' : decide (k < n) = false := by simp; omega
        clear hkn hlt hk
        go_wp2_with fail
        refine (at_new w.heap.size w.heap.size 4 0 _ _ 0 _ h6 (by simp) (by show n ≤ 100000; omega)).mono ?_
        rintro r w7 ⟨u7, rfl, m7, b7, hf7⟩
        have m7 : Bs w7 u7 n Z := m7
        have hu7 : ∀ q, (Value.slice au n cu).ownBlock = some q → ∀ q', u7.ownBlock = some q' → q ≠ q' := fun q e q' e' => by
          have h1 := hf7 q' e'
          have h2 := (show Bs wr (.slice au n cu) n Z from h6.bytes _ (List.mem_singleton.mpr rfl)).lt e
          omega
        have h7 := h6.below b7
        have b8 := b6.trans (b7.mono b6.size)
        have hs6 := b6.size
        clear h6 b6 b7 m6
        obtain ⟨a7, c7, rfl, hc7, hd7, hR7, hn7⟩ := m7.row
        clear hR7
        go_wp2_with fail
        go_loopw [42] (fun i wr2 => ∃ (k : Nat) (Y : Nat → Int) (v : Value), i = .int .i64 k ∧ k ≤ n ∧ Bs wr2 (.slice a7 n c7) n Y ∧ Que wr2 w.heap.size w.heap.size 4 0 [⟨1, .slice au n cu, n, Z⟩] v ∧ Below w.heap.size w wr2) (fun i _ => n - (intOf i).toNat)
        case atStart => exact ⟨0, Z, v, rfl, by omega, m7, h7, b8⟩
        case round =>
          clear h7 m7
          obtain ⟨k2, Y2, v2, rfl, hk2, m6, h6, b6⟩ := hrel
          by_cases hlt : k2 < n
          · obtain ⟨g, off, cs, rfl, ho, c0⟩ := m6.at_ hlt
            have c1 : wr.cell? ⟨g, off + k2, none⟩ = some (.int .u8 (Y2 k2)) := (ho.cell _).trans c0
            have f1 : wr.frozen? ⟨g, off + k2, none⟩ = false := ho.free _
            have hgw : w.heap.size ≤ g := Nat.le_trans hs6 (hf7 g rfl)
            go_wp2_with fail
            exact ⟨⟨k2 + 1, _, v2, by simp, by omega, m6.put hlt _, h6.other (Just.set g wr _ _) ho (fun x hx q e => by
              obtain rfl := List.mem_singleton.mp hx
              exact hu7 q e g rfl), (Just.set g wr _ _).below b6 hgw (Nat.le_trans hgw (Nat.le_of_lt ho.lt))⟩, by simp [intOf]; omega⟩
          · have hkn : k2 = n := by omega
            have g5 : decide ((k2 : Int) < (n : Int)) = false := by simp; omega
            have g5' : decide (k2 < n) = false := by simp; omega
            clear hkn hlt hk2
            go_wp2_with fail
            refine (take_yes w.heap.size w.heap.size 4 0 _ _ 0 _ h6 (by simp) (by simp)).mono ?_
            rintro r w9 ⟨v9, rfl, h9, m9, b9⟩
            have h9 : Que w9 w.heap.size w.heap.size 4 0 [] v9 := h9
            have m9 : Bs w9 (.slice au n cu) n Z := m9
            have b9 := b6.trans b9
            obtain ⟨a9, c9, e9, hc9, hd9, hR9, hn9⟩ := m9.row
            injection e9 with e1 _ e2
            subst e1 e2
            have hV9 := hV.below b9
            obtain ⟨s, hs⟩ : ∃ s, str Z n = s := ⟨_, rfl⟩
            have k1 : (convert 27 9 (.slice au n cu)).run Try.prog w9 = .ok (.string s) w9 := by
              rw [← hs]
              exact conv_string (P := Try.prog) Try.underlying27 Try.underlying5 Try.underlying9 hR9
            have k2 : (convert 27 9 (.slice a n c)).run Try.prog w9 = .ok (.string s) w9 := by
              rw [← hs]
              exact conv_string (P := Try.prog) Try.underlying27 Try.underlying5 Try.underlying9 hV9
            clear hs
            go_wp2_with fail
            refine (len_any _ _ _ _ _ _ _ h9).mono ?_
            rintro r w' ⟨rfl, rfl⟩
            go_wp2_with fail
            refine (awake_any _).mono ?_
            rintro r w10 ⟨rfl, b10⟩
            go_wp2_with fail
            go_ret
            exact ⟨rfl, b9.trans (b10.mono b9.size)⟩
theorem walk (H : Type) (enc : TypeId × Value → H) : Walk H enc Try.prog 7 Try.f7 := by
  intro W base args ds p hval hA
  rw [Try.params7] at hA hval
  obtain ⟨v0, d0, rfl, rfl, h0⟩ := trodAll_one hA
  obtain ⟨a, n, c, Z, rfl, hn, hm, hV, _⟩ := open_row_int Try.underlying27 Try.underlying5 (by kernel_rfl) (hval 0 _ v0 rfl rfl) h0
  exact body a n c Z W hn hm hV

set_option maxRecDepth 100000 in
theorem lifted (os : Os) (started : os.Started) (H : Type) (enc : TypeId × Value → H) :
    ReturnsInHanded {} Try.checked os 7 .any (Rows.queueOwnSpec.pre6 enc Try.prog Try.f7 Rows.queueOwnRow.domain false) (Rows.queueOwnSpec.post enc Try.prog Try.f7 false true false false) :=
  returnsInHanded_of_change (C := Try.checked) own started (by kernel_rfl) Try.func7
    (ChangeSpec.witness6 (enc := enc) (C := Try.checked) false ⟨#[], #[.slice none 0 0], []⟩ 8 (by kernel_rfl) (by kernel_rfl) (by kernel_rfl) (by kernel_rfl))
    fun W base args ds gs before hval hW _ _ => step_of_walk laidOut (by rw [Try.params7]; exact of_decide_eq_true (by kernel_rfl)) (by kernel_rfl) Try.underlying4 rfl
      (fun ds h => by
        rw [Try.params7] at h
        match ds, h with
        | [_], _ => rfl) (walk H enc) W base args ds gs before hval hW

theorem holds : Rows.QueueOwnSaid :=
  OpenClaim.holds_of_wide 7 Try.f7 rfl rfl rfl rfl rfl rfl rfl ⟨rfl, rfl, rfl, rfl, rfl⟩ rfl rfl rfl rfl rfl (by kernel_rfl) Try.func7 (by kernel_rfl)
    (of_decide_eq_true (by kernel_rfl)) (by unfold Func.isWrapper; first | (rw [if_pos (by decide +kernel)]; kernel_rfl) | (rw [if_neg (by decide +kernel)]; exact ⟨rfl, rfl⟩))
    (fun os started H enc _ => lifted os started H enc)
#print axioms holds
end Go.Proofs.Ytmabdegabeopbaa.QueueOwn
