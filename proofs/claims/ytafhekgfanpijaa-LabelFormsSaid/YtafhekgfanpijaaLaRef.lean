/-
  The reference's texts (chapter 1): runes, and bytes of runes.
-/
import Derived.Test.YtafhekgfanpijaaLaTo
set_option maxRecDepth 100000
namespace Go.Proofs.Ytafhekgfanpijaa.La
set_option linter.unusedVariables false
open Go.RowKit Lb Go.Shelf
set_option linter.unusedVariables false
theorem infoR : (Try.prog.info? 21).map (fun i => (i.zero, i.size, i.bytes)) = some (some (.int .i32 0), 1, 4) := by kernel_rfl
def rv (q : List Nat) (i : Nat) : Value := .int .i32 (q.getD i 0 : Nat)
theorem mine_iter {w : World} {base n k : Nat} {e : TypeId} {v : Value} {V : Nat → Value} {s : ByteArray} {p : Nat} (h : Mine w base e v n V) (hk : w.heap[k]? = some (.stringIter s p)) : v.ownBlock ≠ some k := by
  obtain ⟨_, h2⟩ := h
  rcases h2 with ⟨rfl, _⟩ | ⟨g, cap, cur, rfl, hg, hh, _⟩
  · simp [Value.ownBlock]
  · intro e1
    simp [Value.ownBlock] at e1
    subst e1
    rw [hk] at hh
    cases hh
theorem mine_at {w : World} {base n k : Nat} {e : TypeId} {v : Value} {V : Nat → Value} {s : ByteArray} {p p' : Nat} (h : Mine w base e v n V) (hk : w.heap[k]? = some (.stringIter s p)) : Mine (w.iterAt k s p') base e v n V :=
  h.kept (fun b hb => by
    by_cases e1 : b = k
    · exact .inr (by rw [e1]; exact mine_iter h hk)
    · exact .inl (Lib.iterAt_other w k b s p' e1))
theorem iter_grown {w w' : World} {row : Option Nat} {k : Nat} {s : ByteArray} {p : Nat} (hg : w.grownBy w' row) (h : w.heap[k]? = some (.stringIter s p)) (hr : row ≠ some k) : w'.heap[k]? = some (.stringIter s p) :=
  (hg.block k (Array.getElem?_eq_some_iff.1 h).1 (fun e => hr e.symm)).trans h
theorem iter_alloc {w : World} {k : Nat} {s : ByteArray} {p : Nat} (o : Obj) (h : w.heap[k]? = some (.stringIter s p)) : (w.alloc o).heap[k]? = some (.stringIter s p) :=
  (Lib.alloc_old w o k (Array.getElem?_eq_some_iff.1 h).1).trans h

set_option maxHeartbeats 1000000 in
theorem runes_any (l : List UInt8) (w : World) (hl : l.length ≤ 1048576) : Calls Try.prog 15 #[.string ⟨⟨l⟩⟩] w fun r w' => ∃ v, r = .returned v ∧ Mine w' w.heap.size 21 v (ru l).length (rv (ru l)) ∧ Below w.heap.size w w' := by
  obtain ⟨i0, hi0, hz0, hz1, hz2⟩ := info_parts infoR
  have hle : (ru l).length ≤ l.length := by rw [ru_len]; exact rs_le l
  obtain ⟨N, hN⟩ : ∃ N, (ru l).length = N := ⟨_, rfl⟩
  have HN := Lib.hid hN
  rw [hN] at hle ⊢
  clear hN
  have HM := Lib.hid (show 1048577 ≤ maxLen by unfold maxLen; omega)
  go_enter Try.func15, Try.ntmps15
  go_wp2_with fail
  go_loopw [3] (fun u wr => ∃ (j : Nat) (v : Value), u = v ∧ j ≤ N ∧ Mine wr w.heap.size 21 v j (rv (ru l)) ∧ wr.heap[w.heap.size]? = some (.stringIter ⟨⟨l⟩⟩ (wid l j)) ∧ Below w.heap.size w wr) (fun _ wr => l.length - wr.iterPos w.heap.size)
  case atStart => exact ⟨0, _, rfl, Nat.zero_le _, Mine.nil _ _ _ _, iter_start w l, iter_below w l⟩
  case round =>
    obtain ⟨j, v, rfl, hj, hv, hit, hb⟩ := hrel
    have hip := Lib.hid (iter_pos hit)
    rcases next_rune l j wr w.heap.size hit (by rw [HN.out]; exact hj) with ⟨c, hlt, hc, hcm, hw1, hw2, hnx, hit2⟩ | ⟨hend, hw, hnx⟩
    · rw [HN.out] at hlt
      have hb2 := Lib.below_iterAt hb (Nat.le_refl w.heap.size) ⟨⟨l⟩⟩ (wid l (j + 1))
      have hv2 : Mine (wr.iterAt w.heap.size ⟨⟨l⟩⟩ (wid l (j + 1))) w.heap.size 21 u3 j (rv (ru l)) := mine_at hv hit
      have HW := Lib.hid (And.intro hw1 hw2)
      have HIT := Lib.hid hit2
      have HB2 := Lib.hid hb2
      have HC := Lib.hid (getD_of hc)
      have Hm := Lib.hid (show j + 1 ≤ maxLen from Nat.le_trans (by omega) HM.out)
      clear hc hw1 hw2 hit hit2 hb2 hv
      generalize wr.iterAt w.heap.size ⟨⟨l⟩⟩ (wid l (j + 1)) = wn at *
      go_wp2_with (at_builtin; go_must (refine wp_app rfl (.tmp 11) (.tmp 13) _ rfl w.heap.size 21 i0 _ 4 Try.underlying26 hi0 hz0 hz1 hz2 rfl u3 j (rv (ru l)) rfl (hv2.alloc _) _ 1 _ (fun _ => .int .i32 (c : Int)) rfl (row_new _ _ _ _ (fun i hi => by obtain rfl : i = 0 := (by omega); rfl)) (fun _ _ => rfl) Hm.out ?c2 ?c3 ?_))
      case c2 => omega
      case c3 =>
        have := HB2.out.size
        simp
        omega
      intro v' w2 hv3 hg
      have b2 : Below w.heap.size w w2 := (HB2.out.alloc HB2.out.size _).grown hg (by have := HB2.out.size; simp; omega) (fun q hq => (hv2.lt q hq).1)
      have i2 := iter_grown hg (iter_alloc _ HIT.out) (mine_iter hv2 HIT.out)
      have hv4 := hv3.ext (U := rv (ru l)) (fun q hq => by
        by_cases h : q < j
        · simp only [h, if_true]
        · obtain rfl : q = j := by omega
          simp only [h, if_false]
          unfold rv
          rw [HC.out])
      have HI2 := Lib.hid i2
      have HP2 := Lib.hid (iter_pos i2)
      clear hv2 hv3 i2
      go_wp2_with fail
      go_roundw
      case rel => exact ⟨j + 1, _, rfl, by omega, hv4, HI2.out, b2⟩
      case measure =>
        rw [HP2.out, hip.out]
        have := HW.out
        omega
    · rw [HN.out] at hend
      obtain rfl : N = j := hend.symm
      clear hit
      go_wp2_with fail
      go_ret
      exact ⟨_, rfl, hv, hb⟩

theorem conv_rune {c : Nat} (hv : validRune (c : Int) = true) : Utf8.encode (c : Int) = ⟨⟨Lib.encodeRune (c : Int)⟩⟩ := by
  have hc : (if validRune (c : Int) = true then (c : Int).toNat else Utf8.runeError) = c := by rw [if_pos hv]; rfl
  unfold Utf8.encode
  simp only [validRune_eq, hc]
  rcases valid_cases hv with h | h | h | h
  · rw [enc1 h, if_pos h]
  · rw [enc2 h.1 h.2, if_neg (by omega), if_pos (by omega)]
  · rw [enc3 h, if_neg (by omega), if_neg (by omega), if_pos (by omega)]
  · rw [enc4 h.1 h.2, if_neg (by omega), if_neg (by omega), if_neg (by omega)]
/-- text: the bytes of a row of runes. -/
theorem text_any (a : Option Addr) (cap : Nat) (q : List Nat) (w : World) (hq : q.length ≤ 1048576) (hV : ∀ c ∈ q, validRune (c : Nat) = true) (hR : Row w a q.length (rv q)) :
    Calls Try.prog 27 #[.slice a q.length cap] w fun r w' => r = .returned (.string ⟨⟨enc q⟩⟩) ∧ w = w' := by
  obtain ⟨n, hn⟩ : ∃ n, q.length = n := ⟨_, rfl⟩
  have HN := Lib.hid hn
  have HV := Lib.hid hV
  rw [hn] at hR hq ⊢
  clear hn hV
  go_enter Try.func27, Try.ntmps27
  go_wp2_with fail
  go_loopw [3, 8] (fun s i wr => ∃ (k : Nat) (D : List UInt8), s = .string ⟨⟨D⟩⟩ ∧ i = .int .i64 k ∧ k ≤ n ∧ Hid (enc (q.take k) = D) ∧ D.length ≤ 4 * k ∧ w = wr) (fun _ i _ => n - (intOf i).toNat)
  case atStart => exact ⟨0, [], rfl, rfl, Nat.zero_le _, Lib.hid rfl, Nat.zero_le _, rfl⟩
  case round =>
    obtain ⟨k, D, rfl, rfl, hk, HD, hDl, rfl⟩ := hrel
    by_cases hlt : k < n
    · obtain ⟨b, off, rfl, hb, c0⟩ := hR.at_ hlt
      have hlq : k < q.length := by rw [HN.out]; exact hlt
      have hc : q[k]? = some (q[k]'hlq) := List.getElem?_eq_getElem hlq
      obtain ⟨c, hcc⟩ : ∃ c, q[k]'hlq = c := ⟨_, rfl⟩
      rw [hcc] at hc
      have hvc := HV.out c (List.mem_of_getElem? hc)
      have hen := conv_rune hvc
      have hE4 := encR_le c
      have HD2 := Lib.hid (show enc (q.take (k + 1)) = D ++ Lib.encodeRune (c : Int) by rw [take_snoc hc, enc_snoc, HD.out])
      have c1 : w.cell? ⟨b, off + k, none⟩ = some (.int .i32 (c : Int)) := by
        rw [c0]
        unfold rv
        rw [getD_of hc]
      generalize Lib.encodeRune (c : Int) = E at *
      have hcat := cat D E
      obtain ⟨d, hd⟩ : ∃ d, D.length = d := ⟨_, rfl⟩
      obtain ⟨e, he⟩ : ∃ e, E.length = e := ⟨_, rfl⟩
      have hs1 : (ByteArray.mk ⟨D⟩).size = d := hd
      have hs2 : (ByteArray.mk ⟨E⟩).size = e := he
      have HL := Lib.hid (show (D ++ E).length ≤ 4 * (k + 1) by rw [List.length_append]; omega)
      rw [hd] at hDl
      rw [he] at hE4
      clear hd he hc hcc c0
      go_wp2_with fail
      exact ⟨⟨k + 1, D ++ E, rfl, by simp, by omega, HD2, HL.out, trivial⟩, by simp [intOf]; omega⟩
    · obtain rfl : n = k := by omega
      have HE := Lib.hid (show enc q = D by rw [← HD.out, List.take_of_length_le (by rw [HN.out]; exact Nat.le_refl _)])
      go_wp2_with fail
      go_ret
      exact ⟨by rw [HE.out]; rfl, rfl⟩
end Go.Proofs.Ytafhekgfanpijaa.La
