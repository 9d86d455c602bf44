/-
  Package route: Encode: the bytes of a packet.
-/
import Derived.Test.YtcpmnfoenpdaeaaRtMay
import Derived.Test.YtcpmnfoenpdaeaaRtNext
import Derived.Test.YtcpmnfoenpdaeaaBfByte
set_option maxRecDepth 100000
namespace Go.Proofs.Ytcpmnfoenpdaeaa.Rt
set_option linter.unusedVariables false
open Go.RowKit Lb Go.Shelf Bf

theorem put1_any (base b : Nat) (l : List Int) (v : Value) (x : Int) (w : World) (h : Wb w base b l v) (hx : 0 ≤ x ∧ x < 256) (hl : l.length ≤ 100000) :
    Calls Try.prog 28 #[.pointer (some ⟨b, 0, none⟩), .int .u64 x, .int .i64 8] w fun r w' => r = .returned (.tuple #[]) ∧ ∃ v', Wb w' base b (l ++ [x]) v' ∧ Below base w w' ∧ Lone w w' b v v' := by
  obtain ⟨N, rfl⟩ : ∃ N : Nat, x = (N : Int) := ⟨x.toNat, by omega⟩
  have := putk_any base b l v N 1 w h (by omega) (by omega) hl
  rw [bytesK_one N (by omega)] at this
  exact this
theorem put6_any (base b : Nat) (l : List Int) (v : Value) (x : Int) (w : World) (h : Wb w base b l v) (hx : 0 ≤ x ∧ x < 281474976710656) (hl : l.length ≤ 100000) :
    Calls Try.prog 28 #[.pointer (some ⟨b, 0, none⟩), .int .u64 x, .int .i64 48] w fun r w' => r = .returned (.tuple #[]) ∧ ∃ v', Wb w' base b (l ++ bytesK x.toNat 6) v' ∧ Below base w w' ∧ Lone w w' b v v' := by
  obtain ⟨N, rfl⟩ : ∃ N : Nat, x = (N : Int) := ⟨x.toNat, by omega⟩
  exact putk_any base b l v N 6 w h (by omega) (by omega) hl
def encH (p : Pk) : List Int := [p.f] ++ [p.t] ++ bytesK p.n.toNat 6 ++ [p.life] ++ [(p.path.length : Int)]
def encB (p : Pk) : List Int := encH p ++ p.path ++ [(p.data.length : Int)] ++ p.data
theorem encH_len (p : Pk) : (encH p).length = 10 := by simp [encH, bytesK_len]
theorem encB_len (p : Pk) : (encB p).length = 11 + p.path.length + p.data.length := by
  unfold encB
  simp only [List.length_append, List.length_cons, List.length_nil, encH_len]
  omega
theorem mayK_all {p : Pk} (h : mayK p = true) : (0 ≤ p.f ∧ p.f < 16) ∧ (0 ≤ p.t ∧ p.t < 16) ∧ p.f ≠ p.t ∧ (0 ≤ p.n ∧ p.n ≤ 70368744177663) ∧ (0 ≤ p.life ∧ p.life ≤ 15) ∧ okP p.path = true ∧ 1 ≤ p.data.length ∧ p.data.length ≤ 24 := by
  unfold mayK at h
  simp only [Bool.and_eq_true, decide_eq_true_eq, bne_iff_ne, ne_eq] at h
  obtain ⟨h1, h2, h3, h4, h5, h6, h7, h8, h9, h10⟩ := h
  exact ⟨ndB_yes h1, ndB_yes h2, h3, ⟨h4, h5⟩, ⟨h6, h7⟩, h8, h9, h10⟩
theorem tk_snoc {l : List Int} {k : Nat} (hk : k < l.length) : l.take (k + 1) = l.take k ++ [l.getD k 0] := by
  rw [List.take_succ_eq_append_getElem hk, List.getD_eq_getElem?_getD, List.getElem?_eq_getElem hk]
  rfl
def EncPost (p : Pk) (w : World) (r : Ending) (w' : World) : Prop :=
  if mayK p = true then ∃ a c, r = .returned (.tuple #[.slice a (encB p).length c, .int .i64 0]) ∧ (encB p).length ≤ c ∧ c ≤ maxLen ∧ Row w' a (encB p).length (bval (encB p)) ∧ Below w.heap.size w w'
  else r = .returned (.tuple #[.slice none 0 0, .int .i64 1]) ∧ Below w.heap.size w w'
theorem u64_id {x : Int} (h : 0 ≤ x ∧ x < 18446744073709551616) : IntKind.u64.wrap x = x := by
  rw [IntKind.wrap_u64]
  omega
set_option maxHeartbeats 2000000 in
theorem encode_any (p : Pk) (a : Option Addr) (c : Nat) (b : Option Addr) (d : Nat) (w : World) (h : p.At w a c b d) (hB : ∀ x, x ∈ p.data → 0 ≤ x ∧ x < 256) :
    Calls Try.prog 11 #[.agg (p.vals a c b d)] w (EncPost p w) := by
  have o1 := Own.new w 25 (p.vals a c b d)
  have b0 := (Below.refl w.heap.size w).alloc (Nat.le_refl _) (.cells (p.vals a c b d) 25)
  have h1 := h.below b0
  have hsz : (w.alloc (.cells (p.vals a c b d) 25)).heap.size = w.heap.size + 1 := by simp
  go_enter Try.func11, Try.ntmps11
  go_upto_region 1 with (fail)
  generalize w.alloc (.cells (p.vals a c b d) 25) = w1 at *
  have c0 : w1.cell? ⟨w.heap.size, 0, none⟩ = some (.int .i64 p.f) := o1.cell 0
  have c1 : w1.cell? ⟨w.heap.size, 1, none⟩ = some (.int .i64 p.t) := o1.cell 1
  have c2 : w1.cell? ⟨w.heap.size, 2, none⟩ = some (.int .i64 p.n) := o1.cell 2
  have c3 : w1.cell? ⟨w.heap.size, 3, none⟩ = some (.int .i64 p.life) := o1.cell 3
  have c4 : w1.cell? ⟨w.heap.size, 4, none⟩ = some (.slice a p.path.length c) := o1.cell 4
  have c5 : w1.cell? ⟨w.heap.size, 5, none⟩ = some (.slice b p.data.length d) := o1.cell 5
  have hs1 : w.heap.size < w1.heap.size := by omega
  clear hsz
  cases hm : mayK p
  · have HM := Lib.hid hm
    clear hm
    go_wp2_with fail
    refine (may_any p a c b d w1 h1).mono ?_
    rintro r w2 ⟨rfl, b2⟩
    rw [HM.out]
    go_wp2_with fail
    go_ret2
    unfold EncPost
    rw [HM.out]
    exact ⟨rfl, b0.trans (b2.mono b0.size)⟩
  · have HM := Lib.hid hm
    obtain ⟨k1, k2, _, k3, k4, k5, k6, k7⟩ := mayK_all hm
    have k8 := (okP_out k5).1
    have hpn : ∀ k, k < p.path.length → 0 ≤ p.path.getD k 0 ∧ p.path.getD k 0 < 256 := fun k hk => by have := ndB_yes ((okP_out k5).2 k hk).1; omega
    have HPN := Lib.hid hpn
    clear hm k5 hpn
    go_wp2_with fail
    refine (may_any p a c b d w1 h1).mono ?_
    rintro r w2 ⟨rfl, b2⟩
    rw [HM.out]
    have q2 := below_own b2 o1 hs1
    have b3 := b0.trans (b2.mono b0.size)
    have ho := Own.new w2 48 #[.slice none 0 0, .int .i64 0]
    have b4 := b3.alloc b3.size (.cells #[.slice none 0 0, .int .i64 0] 48)
    have q3 := q2.alloc (.cells #[.slice none 0 0, .int .i64 0] 48)
    have hW : Wb (w2.alloc (.cells #[.slice none 0 0, .int .i64 0] 48)) w2.heap.size w2.heap.size [] (.slice none 0 0) :=
      ⟨fun _ => 0, fun _ => false, ⟨⟨ho, Mine.nil _ _ _ _, ⟨fun k hk => by simp at hk, fun k hk => by simp at hk⟩, Nat.le_refl _⟩, by simp, by simp⟩, fun k hk => by simp at hk⟩
    have hs2 : w.heap.size < w2.heap.size := by have := b2.size; omega
    clear c0 c1 c2 c3 c4 c5 o1 h1 b0 b2 hs1 b3 ho q2
    go_upto_region 4 with (fail)
    generalize w2.alloc (.cells #[.slice none 0 0, .int .i64 0] 48) = w3 at *
    obtain ⟨g, hg⟩ : ∃ g, w2.heap.size = g := ⟨_, rfl⟩
    rw [hg] at hW hs2 ⊢
    clear hg
    have c0 : w3.cell? ⟨w.heap.size, 0, none⟩ = some (.int .i64 p.f) := q3.cell 0
    have c1 : w3.cell? ⟨w.heap.size, 1, none⟩ = some (.int .i64 p.t) := q3.cell 1
    have c2 : w3.cell? ⟨w.heap.size, 2, none⟩ = some (.int .i64 p.n) := q3.cell 2
    have c3 : w3.cell? ⟨w.heap.size, 3, none⟩ = some (.int .i64 p.life) := q3.cell 3
    have c4 : w3.cell? ⟨w.heap.size, 4, none⟩ = some (.slice a p.path.length c) := q3.cell 4
    have c5 : w3.cell? ⟨w.heap.size, 5, none⟩ = some (.slice b p.data.length d) := q3.cell 5
    have u1 : IntKind.u64.wrap p.f = p.f := u64_id (by omega)
    go_wp2_with fail
    refine (put1_any g g [] (.slice none 0 0) p.f w3 hW (by omega) (by simp [bytesK_len])).mono ?_
    rintro r x1 ⟨rfl, v1, hW, bb, lo⟩
    have b4 := b4.trans (bb.mono (by omega))
    have q3 := below_own bb q3 hs2
    clear c0 c1 c2 c3 c4 c5 u1 bb lo
    have c0 : x1.cell? ⟨w.heap.size, 0, none⟩ = some (.int .i64 p.f) := q3.cell 0
    have c1 : x1.cell? ⟨w.heap.size, 1, none⟩ = some (.int .i64 p.t) := q3.cell 1
    have c2 : x1.cell? ⟨w.heap.size, 2, none⟩ = some (.int .i64 p.n) := q3.cell 2
    have c3 : x1.cell? ⟨w.heap.size, 3, none⟩ = some (.int .i64 p.life) := q3.cell 3
    have c4 : x1.cell? ⟨w.heap.size, 4, none⟩ = some (.slice a p.path.length c) := q3.cell 4
    have c5 : x1.cell? ⟨w.heap.size, 5, none⟩ = some (.slice b p.data.length d) := q3.cell 5
    have u2 : IntKind.u64.wrap p.t = p.t := u64_id (by omega)
    go_wp2_with fail
    refine (put1_any g g ([] ++ [p.f]) v1 p.t x1 hW (by omega) (by simp [bytesK_len])).mono ?_
    rintro r x2 ⟨rfl, v2, hW, bb, lo⟩
    have b4 := b4.trans (bb.mono (by omega))
    have q3 := below_own bb q3 hs2
    clear c0 c1 c2 c3 c4 c5 u2 bb lo
    have c0 : x2.cell? ⟨w.heap.size, 0, none⟩ = some (.int .i64 p.f) := q3.cell 0
    have c1 : x2.cell? ⟨w.heap.size, 1, none⟩ = some (.int .i64 p.t) := q3.cell 1
    have c2 : x2.cell? ⟨w.heap.size, 2, none⟩ = some (.int .i64 p.n) := q3.cell 2
    have c3 : x2.cell? ⟨w.heap.size, 3, none⟩ = some (.int .i64 p.life) := q3.cell 3
    have c4 : x2.cell? ⟨w.heap.size, 4, none⟩ = some (.slice a p.path.length c) := q3.cell 4
    have c5 : x2.cell? ⟨w.heap.size, 5, none⟩ = some (.slice b p.data.length d) := q3.cell 5
    have u3 : IntKind.u64.wrap p.n = p.n := u64_id (by omega)
    go_wp2_with fail
    refine (put6_any g g ([] ++ [p.f] ++ [p.t]) v2 p.n x2 hW (by omega) (by simp [bytesK_len])).mono ?_
    rintro r x3 ⟨rfl, v3, hW, bb, lo⟩
    have b4 := b4.trans (bb.mono (by omega))
    have q3 := below_own bb q3 hs2
    clear c0 c1 c2 c3 c4 c5 u3 bb lo
    have c0 : x3.cell? ⟨w.heap.size, 0, none⟩ = some (.int .i64 p.f) := q3.cell 0
    have c1 : x3.cell? ⟨w.heap.size, 1, none⟩ = some (.int .i64 p.t) := q3.cell 1
    have c2 : x3.cell? ⟨w.heap.size, 2, none⟩ = some (.int .i64 p.n) := q3.cell 2
    have c3 : x3.cell? ⟨w.heap.size, 3, none⟩ = some (.int .i64 p.life) := q3.cell 3
    have c4 : x3.cell? ⟨w.heap.size, 4, none⟩ = some (.slice a p.path.length c) := q3.cell 4
    have c5 : x3.cell? ⟨w.heap.size, 5, none⟩ = some (.slice b p.data.length d) := q3.cell 5
    have u4 : IntKind.u64.wrap p.life = p.life := u64_id (by omega)
    go_wp2_with fail
    refine (put1_any g g ([] ++ [p.f] ++ [p.t] ++ bytesK p.n.toNat 6) v3 p.life x3 hW (by omega) (by simp [bytesK_len])).mono ?_
    rintro r x4 ⟨rfl, v4, hW, bb, lo⟩
    have b4 := b4.trans (bb.mono (by omega))
    have q3 := below_own bb q3 hs2
    clear c0 c1 c2 c3 c4 c5 u4 bb lo
    have c0 : x4.cell? ⟨w.heap.size, 0, none⟩ = some (.int .i64 p.f) := q3.cell 0
    have c1 : x4.cell? ⟨w.heap.size, 1, none⟩ = some (.int .i64 p.t) := q3.cell 1
    have c2 : x4.cell? ⟨w.heap.size, 2, none⟩ = some (.int .i64 p.n) := q3.cell 2
    have c3 : x4.cell? ⟨w.heap.size, 3, none⟩ = some (.int .i64 p.life) := q3.cell 3
    have c4 : x4.cell? ⟨w.heap.size, 4, none⟩ = some (.slice a p.path.length c) := q3.cell 4
    have c5 : x4.cell? ⟨w.heap.size, 5, none⟩ = some (.slice b p.data.length d) := q3.cell 5
    have u5 : IntKind.u64.wrap (p.path.length : Int) = (p.path.length : Int) := u64_id (by omega)
    go_wp2_with fail
    refine (put1_any g g ([] ++ [p.f] ++ [p.t] ++ bytesK p.n.toNat 6 ++ [p.life]) v4 (p.path.length : Int) x4 hW (by omega) (by simp [bytesK_len])).mono ?_
    rintro r x5 ⟨rfl, v5, hW, bb, lo⟩
    have b4 := b4.trans (bb.mono (by omega))
    have q3 := below_own bb q3 hs2
    clear c0 c1 c2 c3 c4 c5 u5 bb lo
    have hW : Wb x5 g g (encH p) v5 := hW
    have b5 := b4
    have c4 : x5.cell? ⟨w.heap.size, 4, none⟩ = some (.slice a p.path.length c) := q3.cell 4
    have hpm := h.pm
    have hpc := h.pc
    unfold maxLen at hpm
    obtain ⟨m, hm⟩ : ∃ m, p.path.length = m := ⟨_, rfl⟩
    have HMM := Lib.hid hm
    have hprow := h.prow
    rw [hm] at c4 hprow k8 hpc
    clear hm
    go_upto_region 10 with (fail)
    clear c4
    go_loopw [34] (fun i wr => ∃ (k : Nat) (v : Value), i = .int .i64 k ∧ k ≤ m ∧ Wb wr g g (encH p ++ p.path.take k) v ∧ Lb.Own wr w.heap.size 25 (p.vals a c b d) ∧ Below w.heap.size w wr) (fun i _ => m - (intOf i).toNat)
    case atStart => exact ⟨0, v5, rfl, by omega, by rw [List.take_zero, List.append_nil]; exact hW, q3, b4⟩
    case round =>
      clear hW q3 b4 b5
      obtain ⟨k, v, rfl, hk, hW, q3, b4⟩ := hrel
      have htl : (p.path.take k).length ≤ k := List.length_take_le _ _
      by_cases hlt : k < m
      · obtain ⟨pb, po, rfl, hpb, cx⟩ := hprow.at_old b4 hlt
        unfold zval at cx
        have hx := HPN.out k (by rw [HMM.out]; exact hlt)
        have hsn := tk_snoc (l := p.path) (k := k) (by rw [HMM.out]; exact hlt)
        obtain ⟨x, hxx⟩ : ∃ x, p.path.getD k 0 = x := ⟨_, rfl⟩
        rw [hxx] at cx hx hsn
        have HSN := Lib.hid hsn
        have u1 : IntKind.u64.wrap x = x := u64_id (by omega)
        clear hsn hxx
        go_wp2_with fail
        refine (put1_any g g (encH p ++ p.path.take k) v x wr hW hx (by rw [List.length_append, encH_len]; omega)).mono ?_
        rintro r x6 ⟨rfl, v6, hW6, bb, lo⟩
        have b6 := b4.trans (bb.mono (by omega))
        have q6 := below_own bb q3 hs2
        clear u1 bb lo
        go_wp2_with fail
        exact ⟨⟨k + 1, v6, by simp, by omega, by rw [HSN.out, ← List.append_assoc]; exact hW6, q6, b6⟩, by simp [intOf]; omega⟩
      · obtain rfl : m = k := by omega
        have htk : p.path.take m = p.path := List.take_of_length_le (by rw [HMM.out]; exact Nat.le_refl _)
        rw [htk] at hW
        have c5 : wr.cell? ⟨w.heap.size, 5, none⟩ = some (.slice b p.data.length d) := q3.cell 5
        have u1 : IntKind.u64.wrap (p.data.length : Int) = (p.data.length : Int) := u64_id (by omega)
        clear htk
        go_wp2_with fail
        refine (put1_any g g (encH p ++ p.path) v (p.data.length : Int) wr hW (by omega) (by rw [List.length_append, encH_len, HMM.out]; omega)).mono ?_
        rintro r x6 ⟨rfl, v6, hW6, bb, lo⟩
        have b6 := b4.trans (bb.mono (by omega))
        have q6 := below_own bb q3 hs2
        clear u1 bb lo c5 hW q3 b4
        have c5 : x6.cell? ⟨w.heap.size, 5, none⟩ = some (.slice b p.data.length d) := q6.cell 5
        go_wp2_with fail
        refine (textb_any g g (encH p ++ p.path ++ [(p.data.length : Int)]) p.data v6 b d x6 hW6 (by rw [List.length_append, List.length_append, encH_len, HMM.out]; simp; omega) (by omega) ((h.below b6).drow) hB).mono ?_
        rintro r x7 ⟨rfl, v7, hW7, bb, lo⟩
        have b7 := b6.trans (bb.mono (by omega))
        clear hW6 b6 q6 bb lo c5
        have hW7 : Wb x7 g g (encB p) v7 := hW7
        obtain ⟨Z, B, hw1, hw2⟩ := hW7
        go_wp2_with fail
        refine (bytes_any g g _ _ Z B v7 x7 hw1 (by rw [encB_len, HMM.out]; omega)).mono ?_
        rintro r x8 ⟨a8, c8, rfl, hc8, hd8, hR8, b8⟩
        go_wp2_with fail
        go_ret2
        unfold EncPost
        rw [HM.out, if_pos rfl]
        exact ⟨a8, c8, rfl, hc8, hd8, row_ext hR8 (fun i hi => by unfold bval; rw [← hw2 i hi]), b7.trans (b8.mono b7.size)⟩
end Go.Proofs.Ytcpmnfoenpdaeaa.Rt
