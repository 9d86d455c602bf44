/-
  Law AllocDeals: the package's Deal and the reference's say the same of every graph and every four numbers; the call returns true. No condition.
-/
import Derived.Test.YtahcplddonipcaaGreatDaDeal
import Derived.Test.YtahcplddonipcaaGreatAlAwake
import Derived.Test.YtahcplddonipcaaGreatDaTree
import Derived.Test.YtahcplddonipcaaGreatDaSort
import Derived.Test.YtahcplddonipcaaGreatTopoMore
import Derived.Deep.CutBlock
import Derived.Deep.CutRange
set_option linter.unusedSimpArgs false
set_option maxRecDepth 100000
namespace Go.Proofs.YtahcplddonipcaaGreat.AllocDeals
set_option linter.unusedVariables false
open Go.RowKit Go.ChangeShapes Go.WideShapes Go.ChangeAt Go.Deep Lb Cl Ce Mi Al Tp Tr
theorem own : ownKnob Tryz.prog.godebug = none := by kernel_rfl
theorem laidOut : laidOutB Tryz.prog = true := by kernel_rfl

/-- Both lists of nodes. -/
structure Li (w : World) (A : Option Addr) (c : Nat) (B : Option Addr) (d : Nat) (M : List Nat) : Prop where
  ac : M.length ≤ c
  cm : c ≤ maxLen
  bd : M.length ≤ d
  dm : d ≤ maxLen
  rowA : Row w A M.length (ln M)
  rowB : Row w B M.length (ln M)
theorem li_same {w : World} {A B : Option Addr} {c d : Nat} {M : List Nat} (h : Li w A c B d M) : Calls Tryz.prog 11 #[.slice A M.length c, .slice B M.length d] w fun r w' => r = .returned (.bool true) ∧ ∃ m, w.drewN m = w' :=
  Tp.same_ints A B _ c d (ln M) (fun i => ((M.getD i 0 : Nat) : Int)) w rfl h.ac h.bd h.cm h.dm h.rowA h.rowB
theorem Li.below {w w' : World} {A B : Option Addr} {c d : Nat} {M : List Nat} (h : Li w A c B d M) (j : RowKit.Below w.heap.size w w') : Li w' A c B d M := ⟨h.ac, h.cm, h.bd, h.dm, h.rowA.below j, h.rowB.below j⟩
set_option maxHeartbeats 8000000 in
theorem body (x : Int) (a : Option Addr) (n c : Nat) (V : Nat → Value) (Cq : Nat → Tp.Cl) (least f len0 ch0 : Int) (w : World) (hn : n ≤ c) (hc : c ≤ maxLen) (hV : Row w a (n * 3) V)
    (hC : ∀ i, i < n → V (i * 3) = .bool (Cq i).f ∧ V (i * 3 + 1) = .int .i64 (Cq i).me ∧ V (i * 3 + 2) = .slice (Cq i).a (Cq i).n (Cq i).c ∧ (Cq i).ok w) :
    Calls Tryz.prog 3 #[.int .i64 x, .slice a n c, .int .i64 least, .int .i64 f, .int .i64 len0, .int .i64 ch0] w fun r w' => r = .returned (.bool true) ∧ RowKit.Below w.heap.size w w' := by
  go_enter Tryz.func3, Tryz.ntmps3
  go_wp2_with fail
  refine (made_any x a n c V Cq _ hn hc hV hC).mono ?_
  rintro r w1 ⟨g1, g2, N, Q, rfl, h1, h2, hF0, z1, z2, b1⟩
  clear hV hC
  go_upto_region 4 with (fail)
  obtain ⟨q0, hq0⟩ : ∃ q, (decide (60 < len0) && decide (len0 ≤ 200)) = q := ⟨_, rfl⟩
  have HQ := Lib.hid hq0
  clear hq0
  go_cut [43] from 38 to 43 (fun l wz => wz = w1 ∧ l = .bool q0)
  case first =>
    by_cases k1 : 60 < len0
    · have g1 : decide (60 < len0) = true := by simpa using k1
      by_cases k2 : len0 ≤ 200
      · have g2 : decide (len0 ≤ 200) = true := by simpa using k2
        go_wp2_with fail
        go_meet
        exact ⟨rfl, by rw [← HQ.out, g1, g2]; rfl⟩
      · have g2 : decide (len0 ≤ 200) = false := by simpa using k2
        go_wp2_with fail
        go_meet
        exact ⟨rfl, by rw [← HQ.out, g1, g2]; rfl⟩
    · have g1 : decide (60 < len0) = false := by simpa using k1
      go_wp2_with fail
      go_meet
      exact ⟨rfl, by rw [← HQ.out, g1]; rfl⟩
  case rest =>
    obtain ⟨rfl, rfl⟩ := hcut
    go_upto_if 43 with (fail)
    go_cut [4] from 4 to 4 (fun l wz => wz = wc ∧ ∃ L : Int, l = .int .i64 L)
    case first =>
      cases q0
      · go_wp2_with fail
        go_meet
        exact ⟨rfl, _, rfl⟩
      · go_wp2_with fail
        go_meet
        exact ⟨rfl, _, rfl⟩
    rename_i wc0
    case rest =>
      obtain ⟨rfl, L, rfl⟩ := hcut
      have HINF := Lib.hid rdz_info
      go_wp2_with fail
      refine (build_any g1 N Q least _ hF0 h1).mono ?_
      rintro r w2 ⟨t, R, rfl, ht, hT, hFI, hsm, b2⟩
      have b3 := b1.trans (b2.mono b1.size)
      have h2' : Gr w2 g2 87 N Q := below_blk b2 h2 h2.lt
      have HFS := Lib.hid (firsts_of hF0.2.1 hFI hsm)
      have HR0 := Lib.hid hFI.root
      have HSM := Lib.hid hsm
      have hO := ordR_len hsm
      have HFI := Lib.hid hFI
      have HF0 := Lib.hid hF0
      clear hF0 hFI hsm h1 h2 b1 b2 ht z1 z2 HQ
      go_wp2_with fail
      by_cases hA : askB f L ch0
      case' pos =>
        obtain ⟨ha1, ha2, ha3, ha4, ha5, ha6⟩ := hA
        obtain ⟨len, rfl⟩ : ∃ k : Nat, L = k := ⟨L.toNat, by omega⟩
        obtain ⟨ch, rfl⟩ : ∃ k : Nat, ch0 = k := ⟨ch0.toNat, by omega⟩
        have PD := deal_any t R (parT N Q least R) f len ch w2 hT HFS.out HR0.out HSM.out (fun z => Nat.le_trans (par_len N Q least R z) (by decide)) hO ⟨ha1, ha2⟩ (by omega) (by omega)
        unfold DealPost at PD
        have hsub := deal_sub f len ch (fun n => (parT N Q least R n).headD 0) (ordT R)
        have PR : ∀ t2 W, RTre W t2 R (parT N Q least R) → _ := fun t2 W hW => rdeal_any t2 R (parT N Q least R) f len ch W hW HFS.out HSM.out hO ⟨ha1, ha2⟩ (by omega) (by omega)
        unfold RDealPost at PR
        obtain ⟨F1, hF1⟩ : ∃ q, (dealF f len ch (fun n => (parT N Q least R n).headD 0) (ordT R)).1 = q := ⟨_, rfl⟩
        obtain ⟨L1, hL1⟩ : ∃ q, (dealF f len ch (fun n => (parT N Q least R n).headD 0) (ordT R)).2 = q := ⟨_, rfl⟩
        rw [hL1] at hsub
        simp only [hF1, hL1] at PD PR
        have hnd : L1.Nodup := hsub.nodup (ordR_nodup HSM.out)
        have hl16 : ∀ x ∈ L1, x < 16 := fun x hx => ordR_lt HSM.out x (hsub.subset hx)
        have hsz := srtZ_non hnd hl16
        have hlen : L1.length = (nonK L1 16).length := (nonK_perm hnd hl16).length_eq.symm
        rw [hsz, zval_ln, hlen] at PD
        have PR := Lib.hid PR
        clear hF1 hL1 hsub hnd hl16 hsz hlen hT
        refine PD.mono ?_
        rintro r w3 ⟨bm, us, A, c3, rfl, hFm, hAc, hcm, hAr, b4⟩
        have h2'' : Gr w3 g2 87 N Q := below_blk b4 h2' h2'.lt
        have b5 := b3.trans (b4.mono b3.size)
        clear PD h2' b3 b4
        go_wp2_with fail
        refine (rbuild_any g2 N Q least _ HF0.out h2'').mono ?_
        rintro r w4 ⟨t2, R2, rfl, ht2, hT2, hFI2, hsm2, b6⟩
        obtain rfl : R2 = R := fin_unique hFI2 HFI.out
        have hFm4 := hFm.below b6
        have hA4 := hAr.below b6
        have b7 := b5.trans (b6.mono b5.size)
        clear h2'' b5 b6 hFm hAr ht2 hFI2 hsm2
        go_wp2_with fail
        refine (PR.out t2 _ hT2).mono ?_
        rintro r w5 ⟨vs, B, d, rfl, hrows, hd1, hd2, hBr, b8⟩
        have hFm5 := hFm4.below b8
        have hA5 := hA4.below b8
        have b9 := b7.trans (b8.mono b7.size)
        have HONE : Hid ((#[vs 0, vs 1, vs 2, vs 3, vs 4, vs 5, vs 6, vs 7, vs 8, vs 9, vs 10, vs 11, vs 12, vs 13, vs 14, vs 15] : Array Value).all (·.oneCell') = true) := Lib.hid (c16_one (fun k hk => by
          obtain ⟨a, c, e, _⟩ := hrows k hk
          rw [e]
          rfl))
        have bz := (Below.refl w5.heap.size w5).alloc (Nat.le_refl _) (.cells #[vs 0, vs 1, vs 2, vs 3, vs 4, vs 5, vs 6, vs 7, vs 8, vs 9, vs 10, vs 11, vs 12, vs 13, vs 14, vs 15] 37)
        have oz := Own.new w5 37 #[vs 0, vs 1, vs 2, vs 3, vs 4, vs 5, vs 6, vs 7, vs 8, vs 9, vs 10, vs 11, vs 12, vs 13, vs 14, vs 15]
        have bW := b9.trans (bz.mono b9.size)
        have hBo : Bo (w5.alloc (.cells #[vs 0, vs 1, vs 2, vs 3, vs 4, vs 5, vs 6, vs 7, vs 8, vs 9, vs 10, vs 11, vs 12, vs 13, vs 14, vs 15] 37)) (.map (some bm)) us vs (fun k => srtA (F1 k)) := (bo_good hFm5 (fun k hk => by
          obtain ⟨a, c, e, h1, h2, h3⟩ := hrows k hk
          have hlk : (srtA (F1 k)).length = (F1 k).length := srtA_len _
          refine ⟨a, c, by rw [hlk]; exact e, by rw [hlk]; exact h1, h2, ?_⟩
          rw [hlk, srt_same]
          exact h3)).below bz
        have hLi : Li (w5.alloc (.cells #[vs 0, vs 1, vs 2, vs 3, vs 4, vs 5, vs 6, vs 7, vs 8, vs 9, vs 10, vs 11, vs 12, vs 13, vs 14, vs 15] 37)) A c3 B d (nonK L1 16) := ⟨hAc, hcm, hd1, hd2, hA5.below bz, hBr.below bz⟩
        clear PR hFm5 hFm4 hA5 hA4 b8 b9 b7 bz hrows hBr hT2
        go_wp2_with (refine wpList_alloc_store #[vs 0, vs 1, vs 2, vs 3, vs 4, vs 5, vs 6, vs 7, vs 8, vs 9, vs 10, vs 11, vs 12, vs 13, vs 14, vs 15] rfl rfl rfl rfl HINF.out rfl rfl (by kernel_rfl) rfl HONE.out ?_)
        obtain ⟨G, hG⟩ : ∃ G : Hs, (fun k => srtA (F1 k)) = G := ⟨_, rfl⟩
        rw [hG] at hBo
        clear hG
        obtain ⟨bb, hbb⟩ : ∃ q, w5.heap.size = q := ⟨_, rfl⟩
        rw [hbb] at oz ⊢
        clear hbb
        generalize w5.alloc (.cells #[vs 0, vs 1, vs 2, vs 3, vs 4, vs 5, vs 6, vs 7, vs 8, vs 9, vs 10, vs 11, vs 12, vs 13, vs 14, vs 15] 37) = w6 at *
      case' neg =>
        refine (deal_bad t f L ch0 w2 hA).mono ?_
        rintro r w3 ⟨rfl, rfl⟩
        go_wp2_with fail
        refine (rbuild_any g2 N Q least _ HF0.out h2').mono ?_
        rintro r w4 ⟨t2, R2, rfl, ht2, hT2, hFI2, hsm2, b6⟩
        have b7 := b3.trans (b6.mono b3.size)
        go_wp2_with fail
        refine (rdeal_bad t2 f L ch0 w4 hA).mono ?_
        rintro r w5 ⟨rfl, b8⟩
        obtain ⟨vs, hvs⟩ : ∃ vs : Nat → Value, (fun _ => .slice none 0 0) = vs := ⟨_, rfl⟩
        have b9 := b7.trans (b8.mono b7.size)
        have HONE : Hid ((#[vs 0, vs 1, vs 2, vs 3, vs 4, vs 5, vs 6, vs 7, vs 8, vs 9, vs 10, vs 11, vs 12, vs 13, vs 14, vs 15] : Array Value).all (·.oneCell') = true) := Lib.hid (c16_one (fun k hk => by rw [← hvs]; rfl))
        have bz := (Below.refl w5.heap.size w5).alloc (Nat.le_refl _) (.cells #[vs 0, vs 1, vs 2, vs 3, vs 4, vs 5, vs 6, vs 7, vs 8, vs 9, vs 10, vs 11, vs 12, vs 13, vs 14, vs 15] 37)
        have oz := Own.new w5 37 #[vs 0, vs 1, vs 2, vs 3, vs 4, vs 5, vs 6, vs 7, vs 8, vs 9, vs 10, vs 11, vs 12, vs 13, vs 14, vs 15]
        have bW := b9.trans (bz.mono b9.size)
        have hBo : Bo (w5.alloc (.cells #[vs 0, vs 1, vs 2, vs 3, vs 4, vs 5, vs 6, vs 7, vs 8, vs 9, vs 10, vs 11, vs 12, vs 13, vs 14, vs 15] 37)) (.map none) (fun _ => .slice none 0 0) vs (fun _ => []) := by
          rw [← hvs]
          exact bo_bad _
        have hLi : Li (w5.alloc (.cells #[vs 0, vs 1, vs 2, vs 3, vs 4, vs 5, vs 6, vs 7, vs 8, vs 9, vs 10, vs 11, vs 12, vs 13, vs 14, vs 15] 37)) none 0 none 0 [] := ⟨Nat.le_refl _, Nat.zero_le _, Nat.le_refl _, Nat.zero_le _, Row.nil _ _ _, Row.nil _ _ _⟩
        rw [hvs]
        clear hvs b8 b9 b7 bz hT2 hT b6 b3
        go_wp2_with (refine wpList_alloc_store #[vs 0, vs 1, vs 2, vs 3, vs 4, vs 5, vs 6, vs 7, vs 8, vs 9, vs 10, vs 11, vs 12, vs 13, vs 14, vs 15] rfl rfl rfl rfl HINF.out rfl rfl (by kernel_rfl) rfl HONE.out ?_)
        obtain ⟨us, hus⟩ : ∃ us : Nat → Value, (fun _ => .slice none 0 0) = us := ⟨_, rfl⟩
        obtain ⟨G, hG⟩ : ∃ G : Hs, (fun _ => []) = G := ⟨_, rfl⟩
        rw [hus, hG] at hBo
        clear hus hG
        obtain ⟨bb, hbb⟩ : ∃ q, w5.heap.size = q := ⟨_, rfl⟩
        rw [hbb] at oz ⊢
        clear hbb
        generalize w5.alloc (.cells #[vs 0, vs 1, vs 2, vs 3, vs 4, vs 5, vs 6, vs 7, vs 8, vs 9, vs 10, vs 11, vs 12, vs 13, vs 14, vs 15] 37) = w6 at *
      all_goals
        have HBO := Lib.hid hBo
        have HI := Lib.hid (fun k (hk : k < 16) w => index_rd vs k hk w)
        clear hBo HINF
        go_wp2_with fail
        refine (li_same hLi).mono ?_
        rintro r w7 ⟨rfl, q, rfl⟩
        have b7 := below_drewN (Below.refl w6.heap.size w6) q
        have o7 := below_own b7 oz oz.lt
        clear hLi oz
        generalize w6.drewN q = w7 at *
        go_wp2_with (refine wpList_load_row rfl 35 (.tmp 68) rfl bb rfl 37 _ (0, 0) _ o7 Tryz.underlying35 rfl (by kernel_rfl) ?_)
        clear o7
        go_loopw [20, 70] (fun cn i wr => ∃ k : Nat, i = .int .i64 k ∧ k ≤ 16 ∧ cn = .int .i64 ((cntF G k : Nat) : Int) ∧ RowKit.Below w6.heap.size w6 wr) (fun _ i _ => 16 - (intOf i).toNat)
        case atStart => exact ⟨0, rfl, by omega, rfl, b7⟩
        case round =>
          clear b7
          obtain ⟨k, rfl, hk, rfl, bz⟩ := hrel
          by_cases hlt : k < 16
          · have hki : (k : Int) < 16 := by omega
            have hI := HI.out k hlt
            have hlk := HBO.out.look wr bz k hlt
            obtain ⟨a, c, b, d, hu, hv, h1, h2, h3, h4, h5, h6⟩ := HBO.out.row wr bz k hlt
            have hcn := cntF_next G k
            have hcl := cntF_le G k
            have PS := same_cells a b _ c d (G k) wr h1 h3 h2 h4 h5 h6
            rw [hu] at hlk
            simp only [hv] at hI
            obtain ⟨m, hm⟩ : ∃ m, (G k).length = m := ⟨_, rfl⟩
            rw [hm] at hlk PS hcn
            simp only [hm] at hI
            obtain ⟨z, hz⟩ : ∃ z, cntF G k = z := ⟨_, rfl⟩
            rw [hz] at hcn hcl ⊢
            have HCN := Lib.hid hcn
            have e1 : IntKind.i64.wrap ((z : Int) + 1) = (z : Int) + 1 := IntWalk.i64_in _ (by omega)
            clear h1 h2 h3 h4 h5 h6 hu hv hm hz hcn
            go_wp2_with fail
            refine PS.mono ?_
            rintro r w8 ⟨rfl, q8, rfl⟩
            have b8 := below_drewN bz q8
            clear PS
            by_cases hm0 : 0 < m
            · have g1 : decide ((0 : Int) < (m : Int)) = true := by simp; omega
              have g1' : decide (0 < m) = true := by simp; omega
              go_wp2_with fail
              exact ⟨⟨k + 1, by simp [intOf], by omega, by rw [HCN.out, if_pos hm0]; simp, b8⟩, by simp [intOf]; omega⟩
            · obtain rfl : m = 0 := by omega
              go_wp2_with fail
              exact ⟨⟨k + 1, by simp [intOf], by omega, by rw [HCN.out, if_neg hm0]; simp, b8⟩, by simp [intOf]; omega⟩
          · obtain rfl : k = 16 := by omega
            have hl := HBO.out.len wr bz
            have hl0 := fun ty => len_none ty wr
            obtain ⟨z, hz⟩ : ∃ z, cntF G 16 = z := ⟨_, rfl⟩
            rw [hz] at hl ⊢
            have e8 : ((z : Int) == (z : Int)) = true := by simp
            have e9 : Hid (∀ ty v, (Builtin.len_ #[28] ty #[v]).run Tryz.prog wr = .ok (.int .i64 0) wr → (∀ ty, (Builtin.len_ #[28] ty #[v]).run Tryz.prog wr = .ok (.int .i64 (z : Int)) wr) → z = 0) := Lib.hid (fun ty v h k => by
              rw [k ty] at h
              injection h with h
              injection h with _ h
              omega)
            clear hz
            have e0 := e9.out 0 (.map none) (hl0 0)
            try (specialize e0 hl; subst e0)
            go_wp2_with fail
            refine (deal_nil _ _ _ _).mono ?_
            rintro r w9 ⟨rfl, rfl⟩
            go_wp2_with fail
            refine (Al.awake_any _).mono ?_
            rintro r9 w9 ⟨rfl, b11⟩
            go_wp2_with fail
            go_ret
            exact ⟨rfl, bW.trans ((bz.trans (b11.mono bz.size)).mono bW.size)⟩
theorem walk (H : Type) (enc : TypeId × Value → H) : Walk H enc Tryz.prog 3 Tryz.f3 := by
  intro W base args ds p hval hA
  rw [Tryz.params3] at hA hval
  obtain ⟨v0, vs0, d0, ds0, p0, q0, e0, rfl, rfl, h0, hA⟩ := trodAll_cons hA
  obtain ⟨v1, vs1, d1, ds1, p1, q1, rfl, rfl, rfl, h1, hA⟩ := trodAll_cons hA
  obtain ⟨v2, vs2, d2, ds2, p2, q2, rfl, rfl, rfl, h2, hA⟩ := trodAll_cons hA
  obtain ⟨v3, vs3, d3, ds3, p3, q3, rfl, rfl, rfl, h3, hA⟩ := trodAll_cons hA
  obtain ⟨v4, vs4, d4, ds4, p4, q4, rfl, rfl, rfl, h4, hA⟩ := trodAll_cons hA
  obtain ⟨v5, vs5, d5, ds5, p5, q5, rfl, rfl, rfl, h5, hA⟩ := trodAll_cons hA
  obtain ⟨rfl, rfl, rfl⟩ := trodAll_nil hA
  obtain ⟨l⟩ := args
  dsimp only at e0
  subst e0
  obtain ⟨x, rfl, rfl, rfl, _⟩ := open_int Tryz.underlying3 (hval 0 _ v0 rfl rfl) h0
  obtain ⟨a, n, c, V, C, rfl, hn, hm, hV, hC⟩ := open_calls (hval 1 _ v1 rfl rfl) h1
  obtain ⟨y, rfl, rfl, rfl, _⟩ := open_int Tryz.underlying3 (hval 2 _ v2 rfl rfl) h2
  obtain ⟨z, rfl, rfl, rfl, _⟩ := open_int Tryz.underlying3 (hval 3 _ v3 rfl rfl) h3
  obtain ⟨u, rfl, rfl, rfl, _⟩ := open_int Tryz.underlying3 (hval 4 _ v4 rfl rfl) h4
  obtain ⟨s, rfl, rfl, rfl, _⟩ := open_int Tryz.underlying3 (hval 5 _ v5 rfl rfl) h5
  exact body x a n c V C y z u s W hn hm hV hC

set_option maxRecDepth 100000 in
theorem lifted (os : Os) (started : os.Started) (H : Type) (enc : TypeId × Value → H) :
    ReturnsInHanded {} Tryz.checked os 3 .any (Rows.allocDealsSpec.pre6 enc Tryz.prog Tryz.f3 Rows.allocDealsRow.domain false) (Rows.allocDealsSpec.post enc Tryz.prog Tryz.f3 false true false false) :=
  returnsInHanded_of_change (C := Tryz.checked) own started (by kernel_rfl) Tryz.func3
    (ChangeSpec.witness6 (enc := enc) (C := Tryz.checked) false ⟨#[], #[.int .i64 0, .slice none 0 0, .int .i64 0, .int .i64 0, .int .i64 0, .int .i64 0], []⟩ 8 (by kernel_rfl) (by kernel_rfl) (by kernel_rfl) (by kernel_rfl))
    fun W base args ds gs before hval hW _ _ => step_of_walk laidOut (by rw [Tryz.params3]; exact of_decide_eq_true (by kernel_rfl)) (by kernel_rfl) Tryz.underlying4 rfl
      (fun ds h => by
        rw [Tryz.params3] at h
        match ds, h with
        | [_, _, _, _, _, _], _ => rfl) (walk H enc) W base args ds gs before hval hW

theorem holds : Rows.AllocDealsSaid :=
  OpenClaim.holds_of_wide 3 Tryz.f3 rfl rfl rfl rfl rfl rfl rfl ⟨rfl, rfl, rfl, rfl, rfl⟩ rfl rfl rfl rfl rfl (by kernel_rfl) Tryz.func3 (by kernel_rfl)
    (of_decide_eq_true (by kernel_rfl)) (by unfold Func.isWrapper; first | (rw [if_pos (by decide +kernel)]; kernel_rfl) | (rw [if_neg (by decide +kernel)]; exact ⟨rfl, rfl⟩))
    (fun os started H enc _ => lifted os started H enc)
#print axioms holds
end Go.Proofs.YtahcplddonipcaaGreat.AllocDeals
