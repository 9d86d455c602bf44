/-
  Package label (chapter 1): Norm: its runes are the text's, made small.
-/
import Derived.Test.YtafhekgfanpijaaLaMore
import Derived.Shelf.Strings.Builder1
import Derived.Shelf.Strings.BuilderF
import Derived.Shelf.Strings.BuilderK
import Derived.Shelf.Strings.BuilderRune
import Derived.WalkKit
import Derived.BigCall
set_option maxRecDepth 100000
namespace Go.Proofs
set_option linter.unusedVariables false
open Go.Shelf
def Try.lays169_ren : Go.Shelf.Ren := ⟨fun | 169 => 26 | n => n, fun | 70 => 35 | 9 => 9 | 0 => 0 | 72 => 38 | 37 => 36 | 127 => 48 | 3 => 3 | 5 => 5 | 20 => 20 | n => n, fun | n => n⟩
theorem Try.lays169 : Go.Proofs.Lays.n169 Try.prog Try.lays169_ren := {
  mixed := by kernel_rfl
  f169 := Try.func26.trans (congrArg some (by kernel_rfl))
  t0 := Try.underlying0
  a0 := Try.isAgg0
  z0 := Try.sizeOf0
  v0 := Try.zeroValue0
  t3 := Try.underlying3
  a3 := Try.isAgg3
  z3 := Try.sizeOf3
  v3 := Try.zeroValue3
  t9 := Try.underlying9
  a9 := Try.isAgg9
  z9 := Try.sizeOf9
  v9 := Try.zeroValue9
  t37 := Try.underlying36
  a37 := Try.isAgg36
  z37 := Try.sizeOf36
  v37 := Try.zeroValue36
  t70 := Try.underlying35
  a70 := Try.isAgg35
  z70 := Try.sizeOf35
  v70 := Try.zeroValue35
  t72 := Try.underlying38
  a72 := Try.isAgg38
  z72 := Try.sizeOf38
  v72 := Try.zeroValue38
  t127 := Try.underlying48
  a127 := Try.isAgg48
  z127 := Try.sizeOf48
  v127 := Try.zeroValue48 }
def Try.lays168_ren : Go.Shelf.Ren := ⟨fun | 168 => 25 | 240 => 31 | 242 => 32 | 276 => 35 | 278 => 36 | n => n, fun | 70 => 35 | 21 => 21 | 3 => 3 | 75 => 40 | 0 => 0 | 72 => 38 | 37 => 36 | 4 => 4 | 164 => 50 | 51 => 49 | 5 => 5 | 46 => 52 | 80 => 43 | 9 => 9 | 20 => 20 | n => n, fun | n => n⟩
theorem Try.lays168 : Go.Proofs.Lays.n168 Try.prog Try.lays168_ren := {
  mixed := by kernel_rfl
  f168 := Try.func25.trans (congrArg some (by kernel_rfl))
  f240 := Try.func31.trans (congrArg some (by kernel_rfl))
  f242 := Try.func32.trans (congrArg some (by kernel_rfl))
  f276 := Try.func35.trans (congrArg some (by kernel_rfl))
  f278 := Try.func36.trans (congrArg some (by kernel_rfl))
  t0 := Try.underlying0
  a0 := Try.isAgg0
  z0 := Try.sizeOf0
  v0 := Try.zeroValue0
  t3 := Try.underlying3
  a3 := Try.isAgg3
  z3 := Try.sizeOf3
  v3 := Try.zeroValue3
  t4 := Try.underlying4
  a4 := Try.isAgg4
  z4 := Try.sizeOf4
  v4 := Try.zeroValue4
  t5 := Try.underlying5
  a5 := Try.isAgg5
  z5 := Try.sizeOf5
  v5 := Try.zeroValue5
  t9 := Try.underlying9
  a9 := Try.isAgg9
  z9 := Try.sizeOf9
  v9 := Try.zeroValue9
  t20 := Try.underlying20
  a20 := Try.isAgg20
  z20 := Try.sizeOf20
  v20 := Try.zeroValue20
  t21 := Try.underlying21
  a21 := Try.isAgg21
  z21 := Try.sizeOf21
  v21 := Try.zeroValue21
  t37 := Try.underlying36
  a37 := Try.isAgg36
  z37 := Try.sizeOf36
  v37 := Try.zeroValue36
  t46 := Try.underlying52
  a46 := Try.isAgg52
  z46 := Try.sizeOf52
  v46 := Try.zeroValue52
  t51 := Try.underlying49
  a51 := Try.isAgg49
  z51 := Try.sizeOf49
  v51 := Try.zeroValue49
  t70 := Try.underlying35
  a70 := Try.isAgg35
  z70 := Try.sizeOf35
  v70 := Try.zeroValue35
  t72 := Try.underlying38
  a72 := Try.isAgg38
  z72 := Try.sizeOf38
  v72 := Try.zeroValue38
  t75 := Try.underlying40
  a75 := Try.isAgg40
  z75 := Try.sizeOf40
  v75 := Try.zeroValue40
  t164 := Try.underlying50
  a164 := Try.isAgg50
  z164 := Try.sizeOf50
  v164 := Try.zeroValue50 }
theorem Try.Builder_Extra_169 : Builder.Extra Try.prog Try.lays169_ren := {
  sizeBuilder := by kernel_rfl
  liesBuilder := by kernel_rfl
  t5 := Try.underlying5
  a5 := Try.isAgg5
  z5 := Try.sizeOf5
  v5 := Try.zeroValue5
  infoByte := by kernel_rfl
  cellsByte := by kernel_rfl
  sizeByte := by kernel_rfl
  neB5 := by decide }
theorem Try.Builder_Extra_168 : Builder.Extra Try.prog Try.lays168_ren := {
  sizeBuilder := by kernel_rfl
  liesBuilder := by kernel_rfl
  t5 := Try.underlying5
  a5 := Try.isAgg5
  z5 := Try.sizeOf5
  v5 := Try.zeroValue5
  infoByte := by kernel_rfl
  cellsByte := by kernel_rfl
  sizeByte := by kernel_rfl
  neB5 := by decide }
end Go.Proofs
namespace Go.Proofs.Ytafhekgfanpijaa.La
set_option linter.unusedVariables false
open Go.RowKit Lb Go.Shelf
set_option linter.unusedVariables false

theorem writeRune_any (B b : Nat) (bs : List Value) (r : Int) (hr0 : -2147483648 ≤ r) (hr1 : r ≤ 2147483647) (w : World) (h : Lib.IsBuilderF 38 5 B b bs w) (hlen : bs.length + 4 ≤ 140737488355328) (hBw : B ≤ w.heap.size) :
    Calls Try.prog 25 #[.pointer (some ⟨b, 0, none⟩), .int .i32 r] w fun e w' => e = .returned (.tuple #[.int .i64 (Lib.runeCells r).length, .nilIface]) ∧ (Lib.BuilderAtF 38 5 B b (.pointer (some ⟨b, 0, none⟩)) (bs ++ Lib.runeCells r) w' ∧ Below B w w' ∧ Lib.OthersKept 5 (some b) w w') := Any.Builder_WriteRune_k Try.lays168 Try.Builder_Extra_168 B b bs r hr0 hr1 w h hlen hBw
theorem builderString_any (B b : Nat) (l : List UInt8) (w : World) (h : Lib.IsBuilderF 38 5 B b (Lib.byteCells l) w) (hBw : B ≤ w.heap.size) :
    Calls Try.prog 26 #[.pointer (some ⟨b, 0, none⟩)] w fun e w' => e = .returned (.string ⟨l.toArray⟩) ∧ (Lib.IsBuilderF 38 5 B b (Lib.byteCells l) w' ∧ Below B w w' ∧ Lib.OthersKept 5 (some b) w w') := Any.Builder_String_any_k Try.lays169 Try.Builder_Extra_169 B b l w h hBw

/-- A rune, made small. -/
def smN (c : Nat) : Nat := if bigB (c : Int) then c + 32 else c
def normB (l : List UInt8) : List UInt8 := enc ((ru l).map smN)
theorem enc_snocN (q : List Nat) (c : Nat) : enc (q ++ [c]) = enc q ++ Lib.encodeRune (c : Int) := by
  rw [enc_app]
  show _ ++ (_ ++ []) = _
  rw [List.append_nil]
theorem take_snocN {q : List Nat} {j c : Nat} (h : q[j]? = some c) : (q.map smN).take (j + 1) = (q.map smN).take j ++ [smN c] := by
  rw [List.take_add_one, List.getElem?_map, h]
  rfl
theorem encR_leN (c : Nat) : (Lib.encodeRune (c : Int)).length ≤ 4 := by
  have h := (Lib.encodeRuneZ_length (c : Int)).2
  unfold Lib.encodeRune
  rw [List.length_map]
  exact h

set_option maxHeartbeats 4000000 in
theorem norm_any (l : List UInt8) (w : World) (hl : l.length ≤ 1048576) : Calls Try.prog 12 #[.string ⟨⟨l⟩⟩] w fun r w' => r = .returned (.string ⟨⟨normB l⟩⟩) ∧ Below w.heap.size w w' := by
  have hle : (ru l).length ≤ l.length := by rw [ru_len]; exact rs_le l
  obtain ⟨N, hN⟩ : ∃ N, (ru l).length = N := ⟨_, rfl⟩
  have HN := Lib.hid hN
  rw [hN] at hle
  clear hN
  go_enter Try.func12, Try.ntmps12
  go_wp2_with fail
  go_loopw [] (fun wr => ∃ (j : Nat) (acc : List UInt8), j ≤ N ∧ Lib.IsBuilderF 38 5 w.heap.size w.heap.size (Lib.byteCells acc) wr ∧ wr.heap[w.heap.size + 1]? = some (.stringIter ⟨⟨l⟩⟩ (wid l j)) ∧ Below w.heap.size w wr ∧ Hid (acc = enc (((ru l).map smN).take j)) ∧ acc.length ≤ 4 * j) (fun wr => l.length - wr.iterPos (w.heap.size + 1))
  case atStart =>
    refine ⟨0, [], Nat.zero_le _, (Lib.IsBuilderF.of (Lib.fresh_isBuilder 38 5 w)).alloc _, ?_, ((Below.refl _ w).alloc (Nat.le_refl _) _).alloc (by simp) _, Lib.hid rfl, by simp⟩
    have := World.iter_heap (w.alloc (.cells #[.pointer none, .slice none 0 0] 38)) ⟨⟨l⟩⟩ 0
    simpa [wid_zero] using this
  case round =>
    obtain ⟨j, acc, hj, hI, hit, hb, HA, hal⟩ := hrel
    have hsz : w.heap.size + 1 < wr.heap.size := (Array.getElem?_eq_some_iff.1 hit).1
    have hip := Lib.hid (iter_pos hit)
    rcases next_rune l j wr (w.heap.size + 1) hit (by rw [HN.out]; exact hj) with ⟨c, hlt, hc, hcm, hw1, hw2, hnx, hit2⟩ | ⟨hend, hw, hnx⟩
    · rw [HN.out] at hlt
      have hb2 := Lib.below_iterAt hb (k := w.heap.size + 1) (by omega) ⟨⟨l⟩⟩ (wid l (j + 1))
      have hI2 := hI.iterAt hit (wid l (j + 1))
      have hsz2 : w.heap.size ≤ (wr.iterAt (w.heap.size + 1) ⟨⟨l⟩⟩ (wid l (j + 1))).heap.size := by rw [Lib.iterAt_size]; omega
      have HW := Lib.hid (And.intro hw1 hw2)
      have HIT := Lib.hid hit2
      have HB2 := Lib.hid hb2
      have HI2 := Lib.hid hI2
      have HS2 := Lib.hid hsz2
      have HT := Lib.hid (take_snocN hc)
      have HL := Lib.hid (show (Lib.byteCells acc).length + 4 ≤ 140737488355328 by rw [Lib.byteCells_length]; omega)
      clear hc hw1 hw2 hit hit2 hb2 hI hI2 hsz2
      generalize wr.iterAt (w.heap.size + 1) ⟨⟨l⟩⟩ (wid l (j + 1)) = wn at *
      obtain ⟨d, hd⟩ : ∃ d, smN c = d := ⟨_, rfl⟩
      have hd2 : d ≤ 1114143 := by rw [← hd]; unfold smN; split <;> omega
      cases hbg : bigB (c : Int)
      · have HG := Lib.hid hbg
        obtain rfl : c = d := by rw [← hd]; unfold smN; rw [hbg]; rfl
        have HD := Lib.hid hd
        clear hbg hd
        go_wp2_with first | ((with_reducible refine (isBig_any _ _).mono ?_); rintro r w' ⟨rfl, rfl⟩; rw [HG.out]) | (go_at_call 25; refine (writeRune_any w.heap.size w.heap.size _ _ (by omega) (by omega) _ HI2.out HL.out HS2.out).mono ?_)
        rintro e W1 ⟨rfl, h1, b1, k1⟩
        go_wp2_with fail
        go_roundw
        case rel =>
          have h4 := encR_leN c
          refine ⟨j + 1, acc ++ Lib.encodeRune (c : Int), by omega, ?_, k1.iter HIT.out (by omega), HB2.out.trans b1, Lib.hid ?_, by simp; omega⟩
          · rw [Lib.byteCells_append, Lib.byteCells_encodeRune]; exact Or.inr h1
          · rw [HT.out, enc_snocN, ← HA.out, HD.out]
        case measure =>
          rw [iter_pos (k1.iter HIT.out (by omega)), hip.out]
          have := HW.out
          omega
      · have HG := Lib.hid hbg
        have hcd : c + 32 = d := by rw [← hd]; unfold smN; rw [hbg]; rfl
        have HD := Lib.hid hd
        have e1 : IntKind.i32.wrap ((c : Int) + 32) = (d : Int) := by
          rw [← hcd]
          have h1 : ((c : Int) + 32) % 4294967296 = (c : Int) + 32 := by omega
          unfold IntKind.wrap
          simp [IntKind.bits, IntKind.signed, h1]
          omega
        clear hbg hd hcd
        go_wp2_with first | ((with_reducible refine (isBig_any _ _).mono ?_); rintro r w' ⟨rfl, rfl⟩; rw [HG.out]) | (go_at_call 25; refine (writeRune_any w.heap.size w.heap.size _ (d : Int) (by omega) (by omega) _ HI2.out HL.out HS2.out).mono ?_)
        rintro e W1 ⟨rfl, h1, b1, k1⟩
        go_wp2_with fail
        go_roundw
        case rel =>
          have h4 := encR_leN d
          refine ⟨j + 1, acc ++ Lib.encodeRune (d : Int), by omega, ?_, k1.iter HIT.out (by omega), HB2.out.trans b1, Lib.hid ?_, by simp; omega⟩
          · rw [Lib.byteCells_append, Lib.byteCells_encodeRune]; exact Or.inr h1
          · rw [HT.out, enc_snocN, ← HA.out, HD.out]
        case measure =>
          rw [iter_pos (k1.iter HIT.out (by omega)), hip.out]
          have := HW.out
          omega
    · rw [HN.out] at hend
      subst hend
      have HI := Lib.hid hI
      clear hit hI
      go_wp2_with (go_at_call 26; refine (builderString_any w.heap.size w.heap.size acc _ HI.out (by omega)).mono ?_)
      rintro e W1 ⟨rfl, _, b1, _⟩
      go_wp2_with fail
      go_ret
      have he : acc = normB l := by
        rw [HA.out]
        unfold normB
        rw [List.take_of_length_le (by rw [List.length_map, HN.out]; exact Nat.le_refl _)]
      exact ⟨by rw [← he]; rfl, hb.trans b1⟩
end Go.Proofs.Ytafhekgfanpijaa.La
