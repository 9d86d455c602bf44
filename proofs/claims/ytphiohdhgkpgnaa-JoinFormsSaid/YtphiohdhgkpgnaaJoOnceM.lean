/-
  Law JoinOnce, plain: a request or a grant with one byte changed.
-/
import Derived.Test.YtphiohdhgkpgnaaJoAw
set_option maxRecDepth 100000
namespace Go.Proofs.Ytphiohdhgkpgnaa.Jo
set_option linter.unusedVariables false
open Go.RowKit Lb Go.Shelf Bf Se Cl

theorem xor_bent {z x : Int} (hz : 0 ≤ z ∧ z < 256) (hx : 0 ≤ x ∧ x < 256) (h0 : x ≠ 0) : (0 ≤ bits .xor .u8 z x ∧ bits .xor .u8 z x < 256) ∧ bits .xor .u8 z x ≠ z := by
  have hlt : z.toNat ^^^ x.toNat < 2 ^ 8 := Nat.xor_lt_two_pow (by omega) (by omega)
  rw [u8_xor _ _ hz.1 hz.2 hx.1 hx.2]
  refine ⟨⟨by omega, by omega⟩, fun e => ?_⟩
  have e1 : z.toNat ^^^ x.toNat = z.toNat := by omega
  have e2 : x.toNat ^^^ z.toNat = 0 ^^^ z.toNat := by rw [Nat.xor_comm, e1, Nat.zero_xor]
  have := Se.xor_cancel e2
  omega
theorem askE_nd {l : List Int} (h : askE l = 0) : (askR l).nd = l.getD 1 0 ∧ nodeB (l.getD 1 0) = true := by
  have h2 : (askR l).nd = l.getD 1 0 := by
    unfold askR
    rw [if_pos h]
    rfl
  refine ⟨h2, ?_⟩
  unfold askE at h
  split at h
  · cases h
  · split at h
    · cases h
    · split at h
      · cases h
      · split at h
        · cases h
        · rename_i hq
          simpa using hq
theorem takeE_zero {n : Nat} {K N : Nat → Int} {l : List Int} (h : takeE n K N l = 0) : askE l = 0 ∧ sealedB (K (askR l).nd.toNat) l = true := by
  unfold takeE at h
  split at h
  · rename_i h1
    exact absurd h h1
  · rename_i h1
    split at h
    · cases h
    · split at h
      · cases h
      · rename_i h3
        exact ⟨by simpa using h1, by simpa using h3⟩
theorem take_bent {n : Nat} {K N : Nat → Int} {key me : Int} {r : Rq} {i : Nat} {v : Int} (h0 : 0 ≤ me) (hK : K me.toNat = key) (hb : okB (askB r)) (hi : i < 15) (hv : 0 ≤ v ∧ v < 256) (hne : v ≠ (sealL key (askB r)).getD i 0) (h : takeE n K N ((sealL key (askB r)).set i v) = 0) :
    ((sealL key (askB r)).set i v).getD 1 0 ≠ me ∧ takeN n K N ((sealL key (askB r)).set i v) me.toNat = N me.toNat := by
  obtain ⟨h1, h2⟩ := takeE_zero h
  obtain ⟨h3, h4⟩ := askE_nd h1
  have h5 : ((sealL key (askB r)).set i v).getD 1 0 ≠ me := fun e => by
    rw [h3, e, hK, sealed_bent hb (by rw [sealL_len, askB_len]; exact hi) hv hne] at h2
    cases h2
  refine ⟨h5, ?_⟩
  unfold takeN
  rw [if_pos h, h3]
  unfold setN
  have h6 := (nodeB_iff.1 h4).1
  rw [if_neg (fun e => h5 (by omega))]
theorem done_bent {nd key no : Int} {wt : Bool} {g : Gt} {i : Nat} {v : Int} (hb : okB (giveB g)) (hi : i < (sealL key (giveB g)).length) (hv : 0 ≤ v ∧ v < 256) (hne : v ≠ (sealL key (giveB g)).getD i 0) : doneE nd key no wt ((sealL key (giveB g)).set i v) ≠ 0 := fun h => by
  have hs := sealed_bent hb hi hv hne
  unfold doneE at h
  split at h
  · cases h
  · split at h
    · rename_i h1
      exact h1 h
    · split at h
      · cases h
      · first
          | cases h
          | (rw [hs, if_pos rfl] at h; cases h)
end Go.Proofs.Ytphiohdhgkpgnaa.Jo
