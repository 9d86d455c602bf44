/-
  Package route (chapter 19): bytes that are no packet's; the packet that bytes tell.
-/
import Derived.Test.YtcpmnfoenpdaeaaRtDecM
set_option maxRecDepth 100000
namespace Go.Proofs.Ytcpmnfoenpdaeaa.Rt
set_option linter.unusedVariables false
open Go.RowKit Lb Bf

theorem no_ten {L : List Int} (h : L.length < 10) : ∀ p, mayK p = true → encB p ≠ L := fun p hp he => by
  have := (dec_enc hp he).2.2.2.2.2.2.2.2
  omega
theorem path_eq {L : List Int} {h : Nat} (hh : L.getD 9 0 = (h : Int)) {p : Pk} (hp : mayK p = true) (he : encB p = L) : p.path.length = h := by
  have h1 := (dec_enc hp he).2.2.2.2.1
  rw [hh] at h1
  omega
theorem no_short {L : List Int} {h : Nat} (hh : L.getD 9 0 = (h : Int)) (hl : L.length < 10 + h + 1) : ∀ p, mayK p = true → encB p ≠ L := fun p hp he => by
  have h1 := path_eq hh hp he
  have := (dec_enc hp he).2.2.2.2.2.2.2.2
  omega
theorem data_eq {L : List Int} {h : Nat} {s : Int} (hh : L.getD 9 0 = (h : Int)) (hs : L.getD (10 + h) 0 = s) {p : Pk} (hp : mayK p = true) (he : encB p = L) : (p.data.length : Int) = s := by
  have h1 := path_eq hh hp he
  have h2 := (dec_enc hp he).2.2.2.2.2.2.1
  rw [h1, hs] at h2
  exact h2.symm
theorem no_size {L : List Int} {h : Nat} {s : Int} (hh : L.getD 9 0 = (h : Int)) (hs : L.getD (10 + h) 0 = s) (hb : s < 1 ∨ 24 < s) : ∀ p, mayK p = true → encB p ≠ L := fun p hp he => by
  have h1 := data_eq hh hs hp he
  have h2 := (mayK_all hp).2.2.2.2.2.2
  omega
theorem no_len {L : List Int} {h s : Nat} (hh : L.getD 9 0 = (h : Int)) (hs : L.getD (10 + h) 0 = (s : Int)) (hb : L.length ≠ 11 + h + s) : ∀ p, mayK p = true → encB p ≠ L := fun p hp he => by
  have h0 := path_eq hh hp he
  have h1 := data_eq hh hs hp he
  have h2 := (dec_enc hp he).2.2.2.2.2.2.2.2
  omega
theorem dec_is {L : List Int} {h s x : Nat} (hx : bytesK x 6 = (L.drop 2).take 6) (hxl : x < 281474976710656) (hh : L.getD 9 0 = (h : Int)) (hs : L.getD (10 + h) 0 = (s : Int)) {p : Pk} (hp : mayK p = true) (he : encB p = L) : p = decP L x := by
  have h0 := path_eq hh hp he
  have h1 := data_eq hh hs hp he
  obtain ⟨d0, d1, d2, d3, d4, d5, d6, d7, d8⟩ := dec_enc hp he
  have hn := (mayK_all hp).2.2.2.1
  have hxn : x = p.n.toNat := bytesK_inj hxl (by omega) (by rw [hx, d2])
  have hn2 : p.n = (x : Int) := by omega
  have hs2 : s = p.data.length := by omega
  cases p
  rename_i pf pt pn pl pp pd
  simp only at h0 h1 d0 d1 d3 d5 d7 hn2 hs2
  unfold decP
  rw [hh, Int.toNat_natCast, hs, Int.toNat_natCast, d0, d1, d3, hn2, hs2, ← h0, d5, d7]
theorem no_may {L : List Int} {h s x : Nat} (hx : bytesK x 6 = (L.drop 2).take 6) (hxl : x < 281474976710656) (hh : L.getD 9 0 = (h : Int)) (hs : L.getD (10 + h) 0 = (s : Int)) (hm : mayK (decP L x) = false) : ∀ p, mayK p = true → encB p ≠ L := fun p hp he => by
  have := dec_is hx hxl hh hs hp he
  rw [← this, hp] at hm
  cases hm
theorem decP_vals {L : List Int} {h s x : Nat} {f t lf : Int} (hf : L.getD 0 0 = f) (ht : L.getD 1 0 = t) (hlf : L.getD 8 0 = lf) (hh : L.getD 9 0 = (h : Int)) (hs : L.getD (10 + h) 0 = (s : Int)) (hl : L.length = 11 + h + s) (a b : Option Addr) (c d : Nat) :
    (decP L x).path.length = h ∧ (decP L x).data.length = s ∧ (decP L x).vals a c b d = #[.int .i64 f, .int .i64 t, .int .i64 (x : Int), .int .i64 lf, .slice a h c, .slice b s d] ∧
    (∀ i, i < h → zval L (10 + i) = zval (decP L x).path i) ∧ (∀ i, i < s → Value.int .u8 (L.getD (11 + h + i) 0) = bval (decP L x).data i) := by
  have hp : ((L.drop 10).take h).length = h := by rw [List.length_take, List.length_drop]; omega
  have hd : ((L.drop (11 + h)).take s).length = s := by rw [List.length_take, List.length_drop]; omega
  have tg : ∀ (k m i : Nat), i < m → ((L.drop k).take m).getD i 0 = L.getD (k + i) 0 := fun k m i hi => by
    rw [List.getD_eq_getElem?_getD, List.getD_eq_getElem?_getD, List.getElem?_take, if_pos hi, List.getElem?_drop]
  unfold decP Pk.vals
  simp only [hh, Int.toNat_natCast, hs, hp, hd, hf, ht, hlf]
  refine ⟨trivial, trivial, trivial, fun i hi => ?_, fun i hi => ?_⟩
  · unfold zval; rw [tg 10 h i hi]
  · unfold bval; rw [tg (11 + h) s i hi]
end Go.Proofs.Ytcpmnfoenpdaeaa.Rt
