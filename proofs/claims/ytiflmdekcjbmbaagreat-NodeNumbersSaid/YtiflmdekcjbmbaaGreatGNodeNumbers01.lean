/-
  Package route: which packets may be; a packet with one hop less; Down. Package route: a packet with one hop less, in memory of its own. Package route: Encode: the bytes of a packet. Package route: paths, bytes and packets that come in.
-/
import Derived.Test.YtiflmdekcjbmbaaGreatGNodeWaits11
import Derived.Test.YtiflmdekcjbmbaaGreatGNodeWaits05
import Derived.Deep.RegionHeld3
import Derived.Deep.Strs
import Derived.Deep.Cut
import Derived.Deep.CutRange
import Derived.Test.YtiflmdekcjbmbaaGreatGNodeWaits15
import Derived.Lib.SmallJoins
set_option maxRecDepth 100000
namespace Go.Proofs.YtiflmdekcjbmbaaGreat.Rt
set_option linter.unusedVariables false
set_option linter.unusedSimpArgs false
open Go.RowKit Lb Go.Shelf

set_option maxHeartbeats 4000000 in
theorem may_any (p : Pk) (a : Option Addr) (c : Nat) (b : Option Addr) (d : Nat) (w : World) (h : p.At w a c b d) :
    Calls Tryz.prog 200 #[.agg (p.vals a c b d)] w fun r w' => r = .returned (.bool (mayK p)) ∧ Below w.heap.size w w' := by
  have o0 := Own.new w 39 (p.vals a c b d)
  have b0 := (Below.refl w.heap.size w).alloc (Nat.le_refl _) (.cells (p.vals a c b d) 39)
  have h0 := h.below b0
  have HP := Lib.hid (pathMay_any a c p.path _ (Nat.le_trans h0.pc h0.pm) h0.prow)
  obtain ⟨pf, pt, pn, pl, pp, pd⟩ := p
  have hD : mayK ⟨pf, pt, pn, pl, pp, pd⟩ = (ndB pf && (ndB pt && (pf != pt && (decide (0 ≤ pn) && (decide (pn ≤ 70368744177663) && (decide (0 ≤ pl) && (decide (pl ≤ 15) && (okP pp && (decide (1 ≤ pd.length) && decide (pd.length ≤ 24)))))))))) := rfl
  obtain ⟨e1, he1⟩ : ∃ e, ndB pf = e := ⟨_, rfl⟩
  obtain ⟨e2, he2⟩ : ∃ e, ndB pt = e := ⟨_, rfl⟩
  obtain ⟨e3, he3⟩ : ∃ e, (pf != pt) = e := ⟨_, rfl⟩
  obtain ⟨e4, he4⟩ : ∃ e, decide (0 ≤ pn) = e := ⟨_, rfl⟩
  obtain ⟨e5, he5⟩ : ∃ e, decide (pn ≤ 70368744177663) = e := ⟨_, rfl⟩
  obtain ⟨e6, he6⟩ : ∃ e, decide (0 ≤ pl) = e := ⟨_, rfl⟩
  obtain ⟨e7, he7⟩ : ∃ e, decide (pl ≤ 15) = e := ⟨_, rfl⟩
  obtain ⟨e8, he8⟩ : ∃ e, okP pp = e := ⟨_, rfl⟩
  obtain ⟨m, hm⟩ : ∃ m, pd.length = m := ⟨_, rfl⟩
  obtain ⟨k, hk⟩ : ∃ k, pp.length = k := ⟨_, rfl⟩
  have HM := Lib.hid hm
  have HK := Lib.hid hk
  rw [hm] at hD
  obtain ⟨e9, he9⟩ : ∃ e, decide (1 ≤ m) = e := ⟨_, rfl⟩
  obtain ⟨e10, he10⟩ : ∃ e, decide (m ≤ 24) = e := ⟨_, rfl⟩
  rw [he1, he2, he3, he4, he5, he6, he7, he8, he9, he10] at hD
  have HD := Lib.hid hD
  have H1 := Lib.hid he1
  have H2 := Lib.hid he2
  have H8 := Lib.hid he8
  have hz9 : decide ((1 : Int) ≤ (m : Int)) = e9 := by rw [← he9]; simp; omega
  have hz10 : decide ((m : Int) ≤ 24) = e10 := by rw [← he10]; simp; omega
  unfold Pk.vals at o0 b0 h0 HP ⊢
  simp only at o0 b0 h0 HP ⊢
  rw [hm, hk] at o0 b0 HP ⊢
  have c0 := o0.cell 0
  have c1 := o0.cell 1
  have c2 := o0.cell 2
  have c3 := o0.cell 3
  have c4 := o0.cell 4
  have c5 := o0.cell 5
  simp at c0 c1 c2 c3 c4 c5
  clear hD he1 he2 he8 h h0 o0 hm hk
  cases e1
  · go_enter Tryz.func200, Tryz.ntmps200
    go_wp2_with (first
      | (go_at_call 222; refine (isNode_any _ _).mono ?_; rintro r w' ⟨rfl, rfl⟩; first | rw [H1.out] | rw [H2.out])
      | (go_at_call 223; refine HP.out.mono ?_; rintro r w' ⟨rfl, rfl⟩; rw [H8.out]))
    go_ret
    exact ⟨by rw [HD.out]; rfl, b0⟩
  · cases e2
    · go_enter Tryz.func200, Tryz.ntmps200
      go_wp2_with (first
        | (go_at_call 222; refine (isNode_any _ _).mono ?_; rintro r w' ⟨rfl, rfl⟩; first | rw [H1.out] | rw [H2.out])
        | (go_at_call 223; refine HP.out.mono ?_; rintro r w' ⟨rfl, rfl⟩; rw [H8.out]))
      go_ret
      exact ⟨by rw [HD.out]; rfl, b0⟩
    · cases e3
      · go_enter Tryz.func200, Tryz.ntmps200
        go_wp2_with (first
          | (go_at_call 222; refine (isNode_any _ _).mono ?_; rintro r w' ⟨rfl, rfl⟩; first | rw [H1.out] | rw [H2.out])
          | (go_at_call 223; refine HP.out.mono ?_; rintro r w' ⟨rfl, rfl⟩; rw [H8.out]))
        go_ret
        exact ⟨by rw [HD.out]; rfl, b0⟩
      · cases e4
        · go_enter Tryz.func200, Tryz.ntmps200
          go_wp2_with (first
            | (go_at_call 222; refine (isNode_any _ _).mono ?_; rintro r w' ⟨rfl, rfl⟩; first | rw [H1.out] | rw [H2.out])
            | (go_at_call 223; refine HP.out.mono ?_; rintro r w' ⟨rfl, rfl⟩; rw [H8.out]))
          go_ret
          exact ⟨by rw [HD.out]; rfl, b0⟩
        · cases e5
          · go_enter Tryz.func200, Tryz.ntmps200
            go_wp2_with (first
              | (go_at_call 222; refine (isNode_any _ _).mono ?_; rintro r w' ⟨rfl, rfl⟩; first | rw [H1.out] | rw [H2.out])
              | (go_at_call 223; refine HP.out.mono ?_; rintro r w' ⟨rfl, rfl⟩; rw [H8.out]))
            go_ret
            exact ⟨by rw [HD.out]; rfl, b0⟩
          · cases e6
            · go_enter Tryz.func200, Tryz.ntmps200
              go_wp2_with (first
                | (go_at_call 222; refine (isNode_any _ _).mono ?_; rintro r w' ⟨rfl, rfl⟩; first | rw [H1.out] | rw [H2.out])
                | (go_at_call 223; refine HP.out.mono ?_; rintro r w' ⟨rfl, rfl⟩; rw [H8.out]))
              go_ret
              exact ⟨by rw [HD.out]; rfl, b0⟩
            · cases e7
              · go_enter Tryz.func200, Tryz.ntmps200
                go_wp2_with (first
                  | (go_at_call 222; refine (isNode_any _ _).mono ?_; rintro r w' ⟨rfl, rfl⟩; first | rw [H1.out] | rw [H2.out])
                  | (go_at_call 223; refine HP.out.mono ?_; rintro r w' ⟨rfl, rfl⟩; rw [H8.out]))
                go_ret
                exact ⟨by rw [HD.out]; rfl, b0⟩
              · cases e8
                · go_enter Tryz.func200, Tryz.ntmps200
                  go_wp2_with (first
                    | (go_at_call 222; refine (isNode_any _ _).mono ?_; rintro r w' ⟨rfl, rfl⟩; first | rw [H1.out] | rw [H2.out])
                    | (go_at_call 223; refine HP.out.mono ?_; rintro r w' ⟨rfl, rfl⟩; rw [H8.out]))
                  go_ret
                  exact ⟨by rw [HD.out]; rfl, b0⟩
                · cases e9
                  · go_enter Tryz.func200, Tryz.ntmps200
                    go_wp2_with (first
                      | (go_at_call 222; refine (isNode_any _ _).mono ?_; rintro r w' ⟨rfl, rfl⟩; first | rw [H1.out] | rw [H2.out])
                      | (go_at_call 223; refine HP.out.mono ?_; rintro r w' ⟨rfl, rfl⟩; rw [H8.out]))
                    go_ret
                    exact ⟨by rw [HD.out]; rfl, b0⟩
                  · cases e10
                    · go_enter Tryz.func200, Tryz.ntmps200
                      go_wp2_with (first
                        | (go_at_call 222; refine (isNode_any _ _).mono ?_; rintro r w' ⟨rfl, rfl⟩; first | rw [H1.out] | rw [H2.out])
                        | (go_at_call 223; refine HP.out.mono ?_; rintro r w' ⟨rfl, rfl⟩; rw [H8.out]))
                      go_ret
                      exact ⟨by rw [HD.out]; rfl, b0⟩
                    · go_enter Tryz.func200, Tryz.ntmps200
                      go_wp2_with (first
                        | (go_at_call 222; refine (isNode_any _ _).mono ?_; rintro r w' ⟨rfl, rfl⟩; first | rw [H1.out] | rw [H2.out])
                        | (go_at_call 223; refine HP.out.mono ?_; rintro r w' ⟨rfl, rfl⟩; rw [H8.out]))
                      go_ret
                      exact ⟨by rw [HD.out]; rfl, b0⟩
end Go.Proofs.YtiflmdekcjbmbaaGreat.Rt
set_option maxRecDepth 100000
namespace Go.Proofs.YtiflmdekcjbmbaaGreat.Rt
set_option linter.unusedVariables false
set_option linter.unusedSimpArgs false
open Go.RowKit Lb Go.Shelf

theorem infoP : (Tryz.prog.info? 39).map (fun i => (i.zero, i.size)) = some (some (.agg #[.int .i64 0, .int .i64 0, .int .i64 0, .int .i64 0, .slice none 0 0, .slice none 0 0]), 6) := by kernel_rfl
theorem mine_low {w : World} {B B0 n : Nat} {e : TypeId} {v : Value} {V : Nat → Value} (h : Mine w B e v n V) (hb : B0 ≤ B) : Mine w B0 e v n V := by
  obtain ⟨h1, h2⟩ := h
  refine ⟨h1, ?_⟩
  rcases h2 with h2 | ⟨g, cap, cur, hv, hg, r⟩
  · exact .inl h2
  · exact .inr ⟨g, cap, cur, hv, by omega, r⟩
theorem mine_apart {w : World} {B B' n n' : Nat} {e e' : TypeId} {v v' : Value} {V V' : Nat → Value} (h : Mine w B e v n V) (k : Mine w B' e' v' n' V') (hne : e ≠ e') (q : Nat) (hq : v.ownBlock = some q) : v'.ownBlock ≠ some q := fun hq' => by
  obtain ⟨_, h2⟩ := h
  obtain ⟨_, k2⟩ := k
  rcases h2 with ⟨rfl, _⟩ | ⟨g, cap, cur, rfl, _, hh, _⟩
  · cases hq
  · rcases k2 with ⟨rfl, _⟩ | ⟨g', cap', cur', rfl, _, hh', _⟩
    · cases hq'
    · have e1 : some g = some q := hq
      have e2 : some g' = some q := hq'
      injection e1 with e1
      injection e2 with e2
      subst e1 e2
      rw [hh] at hh'
      injection hh' with hh'
      injection hh' with _ h3 _
      exact hne h3
theorem mine_not {w : World} {B n g : Nat} {e t : TypeId} {v : Value} {V : Nat → Value} {cs : Array Value} (h : Mine w B e v n V) (k : Lb.Own w g t cs) (hne : e ≠ t) : v.ownBlock ≠ some g := fun hq => by
  obtain ⟨_, h2⟩ := h
  rcases h2 with ⟨rfl, _⟩ | ⟨g', cap, cur, rfl, _, hh, _⟩
  · cases hq
  · have e1 : some g' = some g := hq
    injection e1 with e1
    subst e1
    unfold Lb.Own at k
    rw [hh] at k
    injection k with k
    injection k with _ h3 _
    exact hne h3
/-- A packet whose rows are all its own. -/
structure Pk.Own (w : World) (base : Nat) (p : Pk) (a : Option Addr) (c : Nat) (b : Option Addr) (d : Nat) : Prop where
  path : Mine w base 3 (.slice a p.path.length c) p.path.length (zval p.path)
  data : Mine w base 5 (.slice b p.data.length d) p.data.length (bval p.data)
theorem Pk.Own.at_ {w : World} {base : Nat} {p : Pk} {a : Option Addr} {c : Nat} {b : Option Addr} {d : Nat} (h : p.Own w base a c b d) : p.At w a c b d := by
  obtain ⟨a', c', e1, h1, h2, h3⟩ := h.path.row
  injection e1 with e1 _ e2
  subst e1 e2
  obtain ⟨b', d', e1, g1, g2, g3⟩ := h.data.row
  injection e1 with e1 _ e2
  subst e1 e2
  refine ⟨h1, h2, h3, fun e => ?_, g1, g2, g3, fun e => ?_⟩
  · by_cases h0 : p.path.length = 0
    · exact h0
    · obtain ⟨_, _, h4, _⟩ := h3 (by omega)
      rw [e] at h4
      cases h4
  · by_cases h0 : p.data.length = 0
    · exact h0
    · obtain ⟨_, _, h4, _⟩ := g3 (by omega)
      rw [e] at h4
      cases h4
theorem Pk.Own.below {w w' : World} {base : Nat} {p : Pk} {a : Option Addr} {c : Nat} {b : Option Addr} {d : Nat} (h : p.Own w base a c b d) (j : Below w.heap.size w w') : p.Own w' base a c b d :=
  ⟨h.path.kept (fun q _ => if hl : q < w.heap.size then .inl (j.block q hl) else .inr (fun e => hl (h.path.lt q e).2)), h.data.kept (fun q _ => if hl : q < w.heap.size then .inl (j.block q hl) else .inr (fun e => hl (h.data.lt q e).2))⟩
theorem Pk.Own.put {w : World} {base g : Nat} {p : Pk} {a : Option Addr} {c : Nat} {b : Option Addr} {d : Nat} (h : p.Own w base a c b d) (hg : g < base) (i : Nat) (u : Value) : p.Own (w.setCell ⟨g, i, none⟩ u) base a c b d :=
  ⟨h.path.other (fun e => by have := (h.path.lt _ e).1; simp at this; omega) u, h.data.other (fun e => by have := (h.data.lt _ e).1; simp at this; omega) u⟩
theorem Pk.Own.low {w : World} {B B0 : Nat} {p : Pk} {a : Option Addr} {c : Nat} {b : Option Addr} {d : Nat} (h : p.Own w B a c b d) (hb : B0 ≤ B) : p.Own w B0 a c b d := ⟨mine_low h.path hb, mine_low h.data hb⟩
theorem Pk.Own.setRow {w : World} {base g : Nat} {p : Pk} {a : Option Addr} {c : Nat} {b : Option Addr} {d : Nat} (h : p.Own w base a c b d) (hg : g < base) (cs : Array Value) : p.Own (w.setRow g cs) base a c b d := by
  have J := Just.setRow g w cs
  exact ⟨h.path.kept (fun q hq => if hl : q < w.heap.size then .inl (J.block q hl (by omega)) else .inr (fun e => hl (h.path.lt q e).2)), h.data.kept (fun q hq => if hl : q < w.heap.size then .inl (J.block q hl (by omega)) else .inr (fun e => hl (h.data.lt q e).2))⟩
theorem cells6 (p : Pk) (a : Option Addr) (c : Nat) (b : Option Addr) (d : Nat) : (p.vals a c b d).all (·.oneCell') = true := by
  rw [Array.all_eq_true]
  intro i hi
  have h6 : i < 6 := hi
  rcases (show i = 0 ∨ i = 1 ∨ i = 2 ∨ i = 3 ∨ i = 4 ∨ i = 5 by omega) with rfl | rfl | rfl | rfl | rfl | rfl <;> rfl
def lessP (p : Pk) : Pk := { p with life := p.life - 1 }
def NextPost (base : Nat) (p : Pk) (w : World) (r : Ending) (w' : World) : Prop :=
  ∃ a c b d, r = .returned (.agg ((lessP p).vals a c b d)) ∧ (lessP p).Own w' base a c b d ∧ Below base w w'
end Go.Proofs.YtiflmdekcjbmbaaGreat.Rt
set_option maxRecDepth 100000
namespace Go.Proofs.YtiflmdekcjbmbaaGreat.Rt
set_option linter.unusedVariables false
set_option linter.unusedSimpArgs false
open Go.RowKit Lb Go.Shelf Bf

theorem put1_any (base b : Nat) (l : List Int) (v : Value) (x : Int) (w : World) (h : Wb w base b l v) (hx : 0 ≤ x ∧ x < 256) (hl : l.length ≤ 100000) :
    Calls Tryz.prog 134 #[.pointer (some ⟨b, 0, none⟩), .int .u64 x, .int .i64 8] w fun r w' => r = .returned (.tuple #[]) ∧ ∃ v', Wb w' base b (l ++ [x]) v' ∧ Below base w w' ∧ Lone w w' b v v' := by
  obtain ⟨N, rfl⟩ : ∃ N : Nat, x = (N : Int) := ⟨x.toNat, by omega⟩
  have := putk_any base b l v N 1 w h (by omega) (by omega) hl
  rw [bytesK_one N (by omega)] at this
  exact this
theorem put6_any (base b : Nat) (l : List Int) (v : Value) (x : Int) (w : World) (h : Wb w base b l v) (hx : 0 ≤ x ∧ x < 281474976710656) (hl : l.length ≤ 100000) :
    Calls Tryz.prog 134 #[.pointer (some ⟨b, 0, none⟩), .int .u64 x, .int .i64 48] w fun r w' => r = .returned (.tuple #[]) ∧ ∃ v', Wb w' base b (l ++ bytesK x.toNat 6) v' ∧ Below base w w' ∧ Lone w w' b v v' := by
  obtain ⟨N, rfl⟩ : ∃ N : Nat, x = (N : Int) := ⟨x.toNat, by omega⟩
  exact putk_any base b l v N 6 w h (by omega) (by omega) hl
def encH (p : Pk) : List Int := [p.f] ++ [p.t] ++ bytesK p.n.toNat 6 ++ [p.life] ++ [(p.path.length : Int)]
def encB (p : Pk) : List Int := encH p ++ p.path ++ [(p.data.length : Int)] ++ p.data
theorem encH_len (p : Pk) : (encH p).length = 10 := by simp [encH, bytesK_len]
theorem encB_len (p : Pk) : (encB p).length = 11 + p.path.length + p.data.length := by
  unfold encB
  simp only [List.length_append, List.length_cons, List.length_nil, encH_len]
  omega
theorem mayK_all {p : Pk} (h : mayK p = true) : (0 ≤ p.f ∧ p.f < 16) ∧ (0 ≤ p.t ∧ p.t < 16) ∧ p.f ≠ p.t ∧ (0 ≤ p.n ∧ p.n ≤ 70368744177663) ∧ (0 ≤ p.life ∧ p.life ≤ 15) ∧ okP p.path = true ∧ 1 ≤ p.data.length ∧ p.data.length ≤ 24 := by
  unfold mayK at h
  simp only [Bool.and_eq_true, decide_eq_true_eq, bne_iff_ne, ne_eq] at h
  obtain ⟨h1, h2, h3, h4, h5, h6, h7, h8, h9, h10⟩ := h
  exact ⟨ndB_yes h1, ndB_yes h2, h3, ⟨h4, h5⟩, ⟨h6, h7⟩, h8, h9, h10⟩
theorem tk_snoc {l : List Int} {k : Nat} (hk : k < l.length) : l.take (k + 1) = l.take k ++ [l.getD k 0] := by
  rw [List.take_succ_eq_append_getElem hk, List.getD_eq_getElem?_getD, List.getElem?_eq_getElem hk]
  rfl
def EncPost (p : Pk) (w : World) (r : Ending) (w' : World) : Prop :=
  if mayK p = true then ∃ a c, r = .returned (.tuple #[.slice a (encB p).length c, .int .i64 0]) ∧ (encB p).length ≤ c ∧ c ≤ maxLen ∧ Row w' a (encB p).length (bval (encB p)) ∧ Below w.heap.size w w'
  else r = .returned (.tuple #[.slice none 0 0, .int .i64 1]) ∧ Below w.heap.size w w'
theorem u64_id {x : Int} (h : 0 ≤ x ∧ x < 18446744073709551616) : IntKind.u64.wrap x = x := by
  rw [IntKind.wrap_u64]
  omega
set_option maxHeartbeats 2000000 in
theorem encode_any (p : Pk) (a : Option Addr) (c : Nat) (b : Option Addr) (d : Nat) (w : World) (h : p.At w a c b d) (hB : ∀ x, x ∈ p.data → 0 ≤ x ∧ x < 256) :
    Calls Tryz.prog 171 #[.agg (p.vals a c b d)] w (EncPost p w) := by
  have o1 := Own.new w 39 (p.vals a c b d)
  have b0 := (Below.refl w.heap.size w).alloc (Nat.le_refl _) (.cells (p.vals a c b d) 39)
  have h1 := h.below b0
  have hsz : (w.alloc (.cells (p.vals a c b d) 39)).heap.size = w.heap.size + 1 := by simp
  go_enter Tryz.func171, Tryz.ntmps171
  go_upto_region 1 with (fail)
  generalize w.alloc (.cells (p.vals a c b d) 39) = w1 at *
  have c0 : w1.cell? ⟨w.heap.size, 0, none⟩ = some (.int .i64 p.f) := o1.cell 0
  have c1 : w1.cell? ⟨w.heap.size, 1, none⟩ = some (.int .i64 p.t) := o1.cell 1
  have c2 : w1.cell? ⟨w.heap.size, 2, none⟩ = some (.int .i64 p.n) := o1.cell 2
  have c3 : w1.cell? ⟨w.heap.size, 3, none⟩ = some (.int .i64 p.life) := o1.cell 3
  have c4 : w1.cell? ⟨w.heap.size, 4, none⟩ = some (.slice a p.path.length c) := o1.cell 4
  have c5 : w1.cell? ⟨w.heap.size, 5, none⟩ = some (.slice b p.data.length d) := o1.cell 5
  have hs1 : w.heap.size < w1.heap.size := by omega
  clear hsz
  cases hm : mayK p
  · have HM := Lib.hid hm
    clear hm
    go_wp2_with fail
    refine (may_any p a c b d w1 h1).mono ?_
    rintro r w2 ⟨rfl, b2⟩
    rw [HM.out]
    go_wp2_with fail
    go_ret2
    unfold EncPost
    rw [HM.out]
    exact ⟨rfl, b0.trans (b2.mono b0.size)⟩
  · have HM := Lib.hid hm
    obtain ⟨k1, k2, _, k3, k4, k5, k6, k7⟩ := mayK_all hm
    have k8 := (okP_out k5).1
    have hpn : ∀ k, k < p.path.length → 0 ≤ p.path.getD k 0 ∧ p.path.getD k 0 < 256 := fun k hk => by have := ndB_yes ((okP_out k5).2 k hk).1; omega
    have HPN := Lib.hid hpn
    clear hm k5 hpn
    go_wp2_with fail
    refine (may_any p a c b d w1 h1).mono ?_
    rintro r w2 ⟨rfl, b2⟩
    rw [HM.out]
    have q2 := below_own b2 o1 hs1
    have b3 := b0.trans (b2.mono b0.size)
    have ho := Own.new w2 180 #[.slice none 0 0, .int .i64 0]
    have b4 := b3.alloc b3.size (.cells #[.slice none 0 0, .int .i64 0] 180)
    have q3 := q2.alloc (.cells #[.slice none 0 0, .int .i64 0] 180)
    have hW : Wb (w2.alloc (.cells #[.slice none 0 0, .int .i64 0] 180)) w2.heap.size w2.heap.size [] (.slice none 0 0) :=
      ⟨fun _ => 0, fun _ => false, ⟨⟨ho, Mine.nil _ _ _ _, ⟨fun k hk => by simp at hk, fun k hk => by simp at hk⟩, Nat.le_refl _⟩, by simp, by simp⟩, fun k hk => by simp at hk⟩
    have hs2 : w.heap.size < w2.heap.size := by have := b2.size; omega
    clear c0 c1 c2 c3 c4 c5 o1 h1 b0 b2 hs1 b3 ho q2
    go_upto_region 4 with (fail)
    generalize w2.alloc (.cells #[.slice none 0 0, .int .i64 0] 180) = w3 at *
    obtain ⟨g, hg⟩ : ∃ g, w2.heap.size = g := ⟨_, rfl⟩
    rw [hg] at hW hs2 ⊢
    clear hg
    have c0 : w3.cell? ⟨w.heap.size, 0, none⟩ = some (.int .i64 p.f) := q3.cell 0
    have c1 : w3.cell? ⟨w.heap.size, 1, none⟩ = some (.int .i64 p.t) := q3.cell 1
    have c2 : w3.cell? ⟨w.heap.size, 2, none⟩ = some (.int .i64 p.n) := q3.cell 2
    have c3 : w3.cell? ⟨w.heap.size, 3, none⟩ = some (.int .i64 p.life) := q3.cell 3
    have c4 : w3.cell? ⟨w.heap.size, 4, none⟩ = some (.slice a p.path.length c) := q3.cell 4
    have c5 : w3.cell? ⟨w.heap.size, 5, none⟩ = some (.slice b p.data.length d) := q3.cell 5
    have u1 : IntKind.u64.wrap p.f = p.f := u64_id (by omega)
    go_wp2_with fail
    refine (put1_any g g [] (.slice none 0 0) p.f w3 hW (by omega) (by simp [bytesK_len])).mono ?_
    rintro r x1 ⟨rfl, v1, hW, bb, lo⟩
    have b4 := b4.trans (bb.mono (by omega))
    have q3 := below_own bb q3 hs2
    clear c0 c1 c2 c3 c4 c5 u1 bb lo
    have c0 : x1.cell? ⟨w.heap.size, 0, none⟩ = some (.int .i64 p.f) := q3.cell 0
    have c1 : x1.cell? ⟨w.heap.size, 1, none⟩ = some (.int .i64 p.t) := q3.cell 1
    have c2 : x1.cell? ⟨w.heap.size, 2, none⟩ = some (.int .i64 p.n) := q3.cell 2
    have c3 : x1.cell? ⟨w.heap.size, 3, none⟩ = some (.int .i64 p.life) := q3.cell 3
    have c4 : x1.cell? ⟨w.heap.size, 4, none⟩ = some (.slice a p.path.length c) := q3.cell 4
    have c5 : x1.cell? ⟨w.heap.size, 5, none⟩ = some (.slice b p.data.length d) := q3.cell 5
    have u2 : IntKind.u64.wrap p.t = p.t := u64_id (by omega)
    go_wp2_with fail
    refine (put1_any g g ([] ++ [p.f]) v1 p.t x1 hW (by omega) (by simp [bytesK_len])).mono ?_
    rintro r x2 ⟨rfl, v2, hW, bb, lo⟩
    have b4 := b4.trans (bb.mono (by omega))
    have q3 := below_own bb q3 hs2
    clear c0 c1 c2 c3 c4 c5 u2 bb lo
    have c0 : x2.cell? ⟨w.heap.size, 0, none⟩ = some (.int .i64 p.f) := q3.cell 0
    have c1 : x2.cell? ⟨w.heap.size, 1, none⟩ = some (.int .i64 p.t) := q3.cell 1
    have c2 : x2.cell? ⟨w.heap.size, 2, none⟩ = some (.int .i64 p.n) := q3.cell 2
    have c3 : x2.cell? ⟨w.heap.size, 3, none⟩ = some (.int .i64 p.life) := q3.cell 3
    have c4 : x2.cell? ⟨w.heap.size, 4, none⟩ = some (.slice a p.path.length c) := q3.cell 4
    have c5 : x2.cell? ⟨w.heap.size, 5, none⟩ = some (.slice b p.data.length d) := q3.cell 5
    have u3 : IntKind.u64.wrap p.n = p.n := u64_id (by omega)
    go_wp2_with fail
    refine (put6_any g g ([] ++ [p.f] ++ [p.t]) v2 p.n x2 hW (by omega) (by simp [bytesK_len])).mono ?_
    rintro r x3 ⟨rfl, v3, hW, bb, lo⟩
    have b4 := b4.trans (bb.mono (by omega))
    have q3 := below_own bb q3 hs2
    clear c0 c1 c2 c3 c4 c5 u3 bb lo
    have c0 : x3.cell? ⟨w.heap.size, 0, none⟩ = some (.int .i64 p.f) := q3.cell 0
    have c1 : x3.cell? ⟨w.heap.size, 1, none⟩ = some (.int .i64 p.t) := q3.cell 1
    have c2 : x3.cell? ⟨w.heap.size, 2, none⟩ = some (.int .i64 p.n) := q3.cell 2
    have c3 : x3.cell? ⟨w.heap.size, 3, none⟩ = some (.int .i64 p.life) := q3.cell 3
    have c4 : x3.cell? ⟨w.heap.size, 4, none⟩ = some (.slice a p.path.length c) := q3.cell 4
    have c5 : x3.cell? ⟨w.heap.size, 5, none⟩ = some (.slice b p.data.length d) := q3.cell 5
    have u4 : IntKind.u64.wrap p.life = p.life := u64_id (by omega)
    go_wp2_with fail
    refine (put1_any g g ([] ++ [p.f] ++ [p.t] ++ bytesK p.n.toNat 6) v3 p.life x3 hW (by omega) (by simp [bytesK_len])).mono ?_
    rintro r x4 ⟨rfl, v4, hW, bb, lo⟩
    have b4 := b4.trans (bb.mono (by omega))
    have q3 := below_own bb q3 hs2
    clear c0 c1 c2 c3 c4 c5 u4 bb lo
    have c0 : x4.cell? ⟨w.heap.size, 0, none⟩ = some (.int .i64 p.f) := q3.cell 0
    have c1 : x4.cell? ⟨w.heap.size, 1, none⟩ = some (.int .i64 p.t) := q3.cell 1
    have c2 : x4.cell? ⟨w.heap.size, 2, none⟩ = some (.int .i64 p.n) := q3.cell 2
    have c3 : x4.cell? ⟨w.heap.size, 3, none⟩ = some (.int .i64 p.life) := q3.cell 3
    have c4 : x4.cell? ⟨w.heap.size, 4, none⟩ = some (.slice a p.path.length c) := q3.cell 4
    have c5 : x4.cell? ⟨w.heap.size, 5, none⟩ = some (.slice b p.data.length d) := q3.cell 5
    have u5 : IntKind.u64.wrap (p.path.length : Int) = (p.path.length : Int) := u64_id (by omega)
    go_wp2_with fail
    refine (put1_any g g ([] ++ [p.f] ++ [p.t] ++ bytesK p.n.toNat 6 ++ [p.life]) v4 (p.path.length : Int) x4 hW (by omega) (by simp [bytesK_len])).mono ?_
    rintro r x5 ⟨rfl, v5, hW, bb, lo⟩
    have b4 := b4.trans (bb.mono (by omega))
    have q3 := below_own bb q3 hs2
    clear c0 c1 c2 c3 c4 c5 u5 bb lo
    have hW : Wb x5 g g (encH p) v5 := hW
    have b5 := b4
    have c4 : x5.cell? ⟨w.heap.size, 4, none⟩ = some (.slice a p.path.length c) := q3.cell 4
    have hpm := h.pm
    have hpc := h.pc
    unfold maxLen at hpm
    obtain ⟨m, hm⟩ : ∃ m, p.path.length = m := ⟨_, rfl⟩
    have HMM := Lib.hid hm
    have hprow := h.prow
    rw [hm] at c4 hprow k8 hpc
    clear hm
    go_upto_region 10 with (fail)
    clear c4
    go_loopw [34] (fun i wr => ∃ (k : Nat) (v : Value), i = .int .i64 k ∧ k ≤ m ∧ Wb wr g g (encH p ++ p.path.take k) v ∧ Lb.Own wr w.heap.size 39 (p.vals a c b d) ∧ Below w.heap.size w wr) (fun i _ => m - (intOf i).toNat)
    case atStart => exact ⟨0, v5, rfl, by omega, by rw [List.take_zero, List.append_nil]; exact hW, q3, b4⟩
    case round =>
      clear hW q3 b4 b5
      obtain ⟨k, v, rfl, hk, hW, q3, b4⟩ := hrel
      have htl : (p.path.take k).length ≤ k := List.length_take_le _ _
      by_cases hlt : k < m
      · obtain ⟨pb, po, rfl, hpb, cx⟩ := hprow.at_old b4 hlt
        unfold zval at cx
        have hx := HPN.out k (by rw [HMM.out]; exact hlt)
        have hsn := tk_snoc (l := p.path) (k := k) (by rw [HMM.out]; exact hlt)
        obtain ⟨x, hxx⟩ : ∃ x, p.path.getD k 0 = x := ⟨_, rfl⟩
        rw [hxx] at cx hx hsn
        have HSN := Lib.hid hsn
        have u1 : IntKind.u64.wrap x = x := u64_id (by omega)
        clear hsn hxx
        go_wp2_with fail
        refine (put1_any g g (encH p ++ p.path.take k) v x wr hW hx (by rw [List.length_append, encH_len]; omega)).mono ?_
        rintro r x6 ⟨rfl, v6, hW6, bb, lo⟩
        have b6 := b4.trans (bb.mono (by omega))
        have q6 := below_own bb q3 hs2
        clear u1 bb lo
        go_wp2_with fail
        exact ⟨⟨k + 1, v6, by simp, by omega, by rw [HSN.out, ← List.append_assoc]; exact hW6, q6, b6⟩, by simp [intOf]; omega⟩
      · obtain rfl : m = k := by omega
        have htk : p.path.take m = p.path := List.take_of_length_le (by rw [HMM.out]; exact Nat.le_refl _)
        rw [htk] at hW
        have c5 : wr.cell? ⟨w.heap.size, 5, none⟩ = some (.slice b p.data.length d) := q3.cell 5
        have u1 : IntKind.u64.wrap (p.data.length : Int) = (p.data.length : Int) := u64_id (by omega)
        clear htk
        go_wp2_with fail
        refine (put1_any g g (encH p ++ p.path) v (p.data.length : Int) wr hW (by omega) (by rw [List.length_append, encH_len, HMM.out]; omega)).mono ?_
        rintro r x6 ⟨rfl, v6, hW6, bb, lo⟩
        have b6 := b4.trans (bb.mono (by omega))
        have q6 := below_own bb q3 hs2
        clear u1 bb lo c5 hW q3 b4
        have c5 : x6.cell? ⟨w.heap.size, 5, none⟩ = some (.slice b p.data.length d) := q6.cell 5
        go_wp2_with fail
        refine (textb_any g g (encH p ++ p.path ++ [(p.data.length : Int)]) p.data v6 b d x6 hW6 (by rw [List.length_append, List.length_append, encH_len, HMM.out]; simp; omega) (by omega) ((h.below b6).drow) hB).mono ?_
        rintro r x7 ⟨rfl, v7, hW7, bb, lo⟩
        have b7 := b6.trans (bb.mono (by omega))
        clear hW6 b6 q6 bb lo c5
        have hW7 : Wb x7 g g (encB p) v7 := hW7
        obtain ⟨Z, B, hw1, hw2⟩ := hW7
        go_wp2_with fail
        refine (bytes_any g g _ _ Z B v7 x7 hw1 (by rw [encB_len, HMM.out]; omega)).mono ?_
        rintro r x8 ⟨a8, c8, rfl, hc8, hd8, hR8, b8⟩
        go_wp2_with fail
        go_ret2
        unfold EncPost
        rw [HM.out, if_pos rfl]
        exact ⟨a8, c8, rfl, hc8, hd8, row_ext hR8 (fun i hi => by unfold bval; rw [← hw2 i hi]), b7.trans (b8.mono b7.size)⟩
end Go.Proofs.YtiflmdekcjbmbaaGreat.Rt
set_option maxRecDepth 100000
namespace Go.Proofs.YtiflmdekcjbmbaaGreat.Rt
set_option linter.unusedVariables false
set_option linter.unusedSimpArgs false
open Go.RowKit Go.ChangeShapes Go.WideShapes Go.ChangeAt Go.Deep Lb

section
variable {H : Type} {enc : TypeId × Value → H} {w : World} {base : Nat}
theorem list_of (n : Nat) (Z : Nat → Int) : ∃ l : List Int, l.length = n ∧ ∀ i, i < n → l.getD i 0 = Z i :=
  ⟨(List.range n).map Z, by simp, fun i hi => by simp [List.getD, hi]⟩
theorem row_z {w : World} {a : Option Addr} {n : Nat} {Z : Nat → Int} {l : List Int} (h : Row w a n (fun i => .int .i64 (Z i))) (hl : l.length = n) (hz : ∀ i, i < n → l.getD i 0 = Z i) : Row w a l.length (zval l) := by
  intro h0
  rw [hl] at h0 ⊢
  obtain ⟨b, off, h1, h2, h3⟩ := h h0
  exact ⟨b, off, h1, h2, fun i hi => by rw [h3 i hi]; unfold zval; rw [hz i hi]⟩
theorem row_b {w : World} {a : Option Addr} {n : Nat} {Z : Nat → Int} {l : List Int} (h : Row w a n (fun i => .int .u8 (Z i))) (hl : l.length = n) (hz : ∀ i, i < n → l.getD i 0 = Z i) : Row w a l.length (bval l) := by
  intro h0
  rw [hl] at h0 ⊢
  obtain ⟨b, off, h1, h2, h3⟩ := h h0
  exact ⟨b, off, h1, h2, fun i hi => by rw [h3 i hi]; unfold bval; rw [hz i hi]⟩
theorem row_none {w : World} {a : Option Addr} {n : Nat} {V : Nat → Value} (h : Row w a n V) : a = none → n = 0 := fun e => by
  by_cases h0 : n = 0
  · exact h0
  · obtain ⟨_, _, h1, _⟩ := h (by omega)
    rw [e] at h1
    cases h1
/-- A slice of numbers that comes in. -/
theorem open_ints {v : Value} {d : DataW H} {p : List MemPlace} (hv : Value.okWide Tryz.prog w .any base 23 v)
    (h : DataW.Trod enc Tryz.prog w 0 (fun _ => true) true 23 v d p) :
    ∃ a, ∃ l : List Int, ∃ c, v = .slice a l.length c ∧ l.length ≤ c ∧ c ≤ maxLen ∧ Row w a l.length (zval l) ∧ (a = none → l.length = 0) := by
  obtain ⟨a, n, c, Z, rfl, h1, h2, h3, _⟩ := open_row_int Tryz.underlying23 Tryz.underlying3 (by kernel_rfl) hv h
  obtain ⟨l, hl, hz⟩ := list_of n Z
  have hr := row_z h3 hl hz
  exact ⟨a, l, c, by rw [hl], by rw [hl]; exact h1, h2, hr, row_none hr⟩
/-- A slice of bytes that comes in. -/
theorem open_bytes {v : Value} {d : DataW H} {p : List MemPlace} (hv : Value.okWide Tryz.prog w .any base 35 v)
    (h : DataW.Trod enc Tryz.prog w 0 (fun _ => true) true 35 v d p) :
    ∃ a, ∃ l : List Int, ∃ c, v = .slice a l.length c ∧ l.length ≤ c ∧ c ≤ maxLen ∧ Row w a l.length (bval l) ∧ (a = none → l.length = 0) ∧ ∀ x, x ∈ l → 0 ≤ x ∧ x < 256 := by
  obtain ⟨a, n, c, Z, rfl, h1, h2, h3, h4⟩ := open_row_int Tryz.underlying35 Tryz.underlying5 (by kernel_rfl) hv h
  obtain ⟨l, hl, hz⟩ := list_of n Z
  have hr := row_b h3 hl hz
  refine ⟨a, l, c, by rw [hl], by rw [hl]; exact h1, h2, hr, row_none hr, fun x hx => ?_⟩
  obtain ⟨i, hi, e⟩ := List.getElem_of_mem hx
  have := u8_bd (h4 i)
  have e2 := hz i (by omega)
  rw [List.getD_eq_getElem?_getD, List.getElem?_eq_getElem hi] at e2
  simp only [Option.getD_some] at e2
  rw [← e, e2]
  exact this
theorem open_cell {P : Program} {t e : TypeId} {k : IntKind} {v : Value} {fuel : Nat} {y : DataW H × List MemPlace} (ht : P.underlying t = some (.slice e)) (he : P.underlying e = some (.int k)) (hc : P.cellsOf e = 1) (hf : DataW.trod enc P w 0 (fun _ => true) true fuel t [v] = some y) :
    ∃ a n c, ∃ Z : Nat → Int, v = .slice a n c ∧ n ≤ c ∧ c ≤ maxLen ∧ Row w a n (fun i => .int k (Z i)) ∧ ∀ i, (Lit.int k (Z i)).wf = true := by
  obtain ⟨dd, pp⟩ := y
  have key : ∃ a n c V, v = .slice a n c ∧ n ≤ c ∧ c ≤ maxLen ∧ Row w a n V ∧ ∀ i, i < n → ∃ f y, DataW.trod enc P w 0 (fun _ => true) true f e [V i] = some y := by
    rcases open_slice1 ht hc hf with ⟨hcs, _⟩ | ⟨x, l, c, m, n, V, D, Pl, hcs, _, hl, hm, hmm, _, hx⟩
    · simp at hcs
      subst hcs
      exact ⟨none, 0, 0, fun _ => undef, rfl, Nat.le_refl _, Nat.zero_le _, Row.nil _ _ _, fun i hi => absurd hi (by omega)⟩
    · simp at hcs
      subst hcs
      simp only [if_true] at hmm
      subst hmm
      obtain ⟨b, off, spot⟩ := x
      refine ⟨_, _, _, V, rfl, hl, hm, fun hn => ?_, fun i hi => ⟨_, _, (hx i (by omega)).2⟩⟩
      have h0 := (hx 0 (by omega)).1
      have hspot : spot = none := by simpa [Addr.add] using World.cell?_spot h0
      subst hspot
      refine ⟨b, off, rfl, ?_, fun i hi => ?_⟩
      · simpa [Addr.add] using lt_of_cell h0
      · have := (hx i (by omega)).1
        unfold Addr.add at this
        split at this
        · rename_i hi0
          subst hi0
          exact this
        · exact this
  obtain ⟨a, n, c, V, rfl, h1, h2, h3, h4⟩ := key
  obtain ⟨Z, hZ⟩ := choose_fn (q := fun i z => V i = .int k z ∧ (Lit.int k z).wf = true) (0 : Int) (fun i hi => by
    obtain ⟨f, y, hy⟩ := h4 i hi
    obtain ⟨z, hz, _, hw⟩ := DataW.trod_int he hy
    exact ⟨z, by simpa using hz, hw⟩)
  refine ⟨a, n, c, fun i => if i < n then Z i else 0, rfl, h1, h2, fun hn => ?_, fun i => ?_⟩
  · obtain ⟨b, off, e1, e2, e3⟩ := h3 hn
    exact ⟨b, off, e1, e2, fun i hi => by simp only [e3 i hi, (hZ i hi).1, if_pos hi]⟩
  · by_cases hi : i < n
    · simp only [if_pos hi]; exact (hZ i hi).2
    · simp only [if_neg hi]; cases k <;> decide
/-- What holds of a packet that comes in: its numbers are ints, its bytes bytes. -/
structure Pk.Wf (p : Pk) : Prop where
  f : (Lit.int .i64 p.f).wf = true
  t : (Lit.int .i64 p.t).wf = true
  n : (Lit.int .i64 p.n).wf = true
  life : (Lit.int .i64 p.life).wf = true
  path : ∀ x, x ∈ p.path → (Lit.int .i64 x).wf = true
  data : ∀ x, x ∈ p.data → 0 ≤ x ∧ x < 256
theorem mem_of {l : List Int} {n : Nat} {Z : Nat → Int} {q : Int → Prop} (hl : l.length = n) (hz : ∀ i, i < n → l.getD i 0 = Z i) (h : ∀ i, q (Z i)) : ∀ x, x ∈ l → q x := fun x hx => by
  obtain ⟨i, hi, e⟩ := List.getElem_of_mem hx
  have e2 := hz i (by omega)
  rw [List.getD_eq_getElem?_getD, List.getElem?_eq_getElem hi] at e2
  simp only [Option.getD_some] at e2
  rw [← e, e2]
  exact h i
end
end Go.Proofs.YtiflmdekcjbmbaaGreat.Rt
