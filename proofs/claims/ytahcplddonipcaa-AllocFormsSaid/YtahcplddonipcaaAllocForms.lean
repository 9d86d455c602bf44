/-
  Law AllocForms: any two cells clash as the reference says; any rows of cells are clean as it says; the call returns true. No condition.
-/
import Derived.Test.YtahcplddonipcaaAlMap
import Derived.Test.YtahcplddonipcaaAlAwake
import Derived.Test.YtahcplddonipcaaAllocBoth
import Derived.Test.YtahcplddonipcaaExt
set_option maxRecDepth 100000
namespace Go.Proofs.Ytahcplddonipcaa.AllocForms
set_option linter.unusedVariables false
open Go.RowKit Go.ChangeShapes Go.WideShapes Lb Cl Ce Mi Al
theorem own : ownKnob Try.prog.godebug = none := by kernel_rfl
theorem laidOut : laidOutB Try.prog = true := by kernel_rfl
theorem d16_cell {w : World} {d : Nat} {V : Nat → Value} (h : Own w d 31 (d16 V)) : Own w d 31 #[V 0, V 1, V 2, V 3, V 4, V 5, V 6, V 7, V 8, V 9, V 10, V 11, V 12, V 13, V 14, V 15] := h
theorem mapOf_below {w w' : World} {bm clock : Nat} {es : Array MapEntry} {E : MapEntry → Int × List C} (h : MapOf w bm es clock E) (j : Below w.heap.size w w') : MapOf w' bm es clock E := by
  refine ⟨(j.block bm (iter_lt h.heap)).trans h.heap, h.old, h.nd, h.key, fun x hx => ?_⟩
  obtain ⟨a, c, h1, h2, h3, h4⟩ := h.val x hx
  exact ⟨a, c, h1, h2, h3, h4.below j⟩
set_option maxHeartbeats 4000000 in
theorem body (a b : C) (x y : Int) (la : Option Addr) (n c : Nat) (V : Nat → Value) (F : Nat → Rw) (w : World) (hn : n ≤ c) (hc : c ≤ maxLen) (hF : Rws w la n V F) :
    Calls Try.prog 3 #[.agg #[.int .i64 a.f, .int .i64 a.s, .int .i64 a.c, .int .i64 a.o, .int .i64 a.p], .agg #[.int .i64 b.f, .int .i64 b.s, .int .i64 b.c, .int .i64 b.o, .int .i64 b.p], .int .i64 x, .int .i64 y, .slice la n c] w fun r w' => r = .returned (.bool true) ∧ Below w.heap.size w w' := by
  obtain ⟨af, a1, ac, ao, ap⟩ := a
  obtain ⟨bf, b1, bc, bo, bp⟩ := b
  dsimp only at *
  have oA := (Own.new w 23 #[.int .i64 af, .int .i64 a1, .int .i64 ac, .int .i64 ao, .int .i64 ap]).alloc (.cells #[.int .i64 bf, .int .i64 b1, .int .i64 bc, .int .i64 bo, .int .i64 bp] 23)
  have oB := Own.new (w.alloc (.cells #[.int .i64 af, .int .i64 a1, .int .i64 ac, .int .i64 ao, .int .i64 ap] 23)) 23 #[.int .i64 bf, .int .i64 b1, .int .i64 bc, .int .i64 bo, .int .i64 bp]
  have bb := ((Below.refl w.heap.size w).alloc (Nat.le_refl _) (.cells #[.int .i64 af, .int .i64 a1, .int .i64 ac, .int .i64 ao, .int .i64 ap] 23)).alloc (by simp) (.cells #[.int .i64 bf, .int .i64 b1, .int .i64 bc, .int .i64 bo, .int .i64 bp] 23)
  obtain ⟨ba, hba⟩ : ∃ q, w.heap.size = q := ⟨_, rfl⟩
  have hbb : (w.alloc (.cells #[.int .i64 af, .int .i64 a1, .int .i64 ac, .int .i64 ao, .int .i64 ap] 23)).heap.size = ba + 1 := by rw [← hba]; simp
  rw [hbb] at oB
  rw [hba] at oA bb
  have HR : Hid (∀ w', Below ba w w' → Rws w' la n V F) := Lib.hid (fun w' b => ⟨hF.row.below (hba ▸ b), hF.at_, fun i hi => ⟨(hF.ok i hi).1, (hF.ok i hi).2.1, (hF.ok i hi).2.2.below (hba ▸ b)⟩⟩)
  have HBA := Lib.hid hba
  clear hF
  go_enter Try.func3, Try.ntmps3
  go_upto_region 1 with (fail)
  clear hba
  generalize (w.alloc (.cells #[.int .i64 af, .int .i64 a1, .int .i64 ac, .int .i64 ao, .int .i64 ap] 23)).alloc (.cells #[.int .i64 bf, .int .i64 b1, .int .i64 bc, .int .i64 bo, .int .i64 bp] 23) = w0 at *
  clear hbb
  go_wp2_with fail
  refine (few_any la n c V F w0 hn hc (HR.out w0 bb)).mono ?_
  rintro r w1 ⟨q, rfl, hq, b1⟩
  have bb1 := bb.trans (b1.mono (Nat.le_of_lt oA.lt))
  have oA1 := below_own b1 oA oA.lt
  have oB1 := below_own b1 oB oB.lt
  have hF1 := HR.out w1 bb1
  clear bb b1 oA oB HR
  clear w0
  cases q
  · clear hq
    go_wp2_with fail
    refine (awake_any _).mono ?_
    rintro r w9 ⟨rfl, b9⟩
    go_wp2_with fail
    go_ret
    exact ⟨rfl, HBA.out ▸ bb1.trans (b9.mono (Nat.le_of_lt oA1.lt))⟩
  · obtain ⟨hn30, hsum⟩ := hq rfl
    have PM := map_any la n c V F w1 hn hc hF1 (by omega)
    have HSUM := Lib.hid hsum
    clear hq hn30 hsum hF1
    go_wp2_with fail
    refine PM.mono ?_
    rintro r w3 ⟨bm, M, A, K, rfl, hMp, hML, hD, b3⟩
    have b4 := bb1.trans (b3.mono (Nat.le_of_lt oA1.lt))
    have oA3 := below_own b3 oA1 oA1.lt
    have oB3 := below_own b3 oB1 oB1.lt
    have hnd : (M.map (·.1)).Nodup := (hMp.map (·.1)).nodup_iff.2 (mk_nd F n)
    have htot : (allO M).length ≤ 200 := by
      rw [(allO_perm hMp).length_eq]
      exact Nat.le_trans (mk_tot F n) HSUM.out
    have hmath := clB_RC hnd (by omega)
    have hodd : oddN M ≤ 200 := Nat.le_trans (oddN_le M) htot
    have hcl : clB (mk F n) = clB M := (clB_perm hMp).symm
    have htm : (allO (mk F n)).length ≤ 1000000 := by
      rw [← (allO_perm hMp).length_eq]
      omega
    obtain ⟨L, hL⟩ : ∃ L, mk F n = L := ⟨_, rfl⟩
    rw [hL] at hML hcl htm
    obtain ⟨O, hO⟩ : ∃ O, oddN M = O := ⟨_, rfl⟩
    rw [hO] at hmath hodd ⊢
    obtain ⟨D, hDD⟩ : ∃ D, dealt M = D := ⟨_, rfl⟩
    rw [hDD] at hmath hD ⊢
    have HML := Lib.hid hML
    have HD := Lib.hid hD
    have HMA := Lib.hid (And.intro hmath hcl)
    have HTM := Lib.hid htm
    clear PM b3 bb1 oA1 oB1 hMp hnd htot hL hO hDD hML hD hmath hcl htm
    clear w1
    have bd := b4.alloc (Nat.le_of_lt oA3.lt) (.cells #[.slice (A 0) (D 0).length (K 0), .slice (A 1) (D 1).length (K 1), .slice (A 2) (D 2).length (K 2), .slice (A 3) (D 3).length (K 3), .slice (A 4) (D 4).length (K 4), .slice (A 5) (D 5).length (K 5), .slice (A 6) (D 6).length (K 6), .slice (A 7) (D 7).length (K 7), .slice (A 8) (D 8).length (K 8), .slice (A 9) (D 9).length (K 9), .slice (A 10) (D 10).length (K 10), .slice (A 11) (D 11).length (K 11), .slice (A 12) (D 12).length (K 12), .slice (A 13) (D 13).length (K 13), .slice (A 14) (D 14).length (K 14), .slice (A 15) (D 15).length (K 15)] 31)
    have oA5 := oA3.alloc (.cells #[.slice (A 0) (D 0).length (K 0), .slice (A 1) (D 1).length (K 1), .slice (A 2) (D 2).length (K 2), .slice (A 3) (D 3).length (K 3), .slice (A 4) (D 4).length (K 4), .slice (A 5) (D 5).length (K 5), .slice (A 6) (D 6).length (K 6), .slice (A 7) (D 7).length (K 7), .slice (A 8) (D 8).length (K 8), .slice (A 9) (D 9).length (K 9), .slice (A 10) (D 10).length (K 10), .slice (A 11) (D 11).length (K 11), .slice (A 12) (D 12).length (K 12), .slice (A 13) (D 13).length (K 13), .slice (A 14) (D 14).length (K 14), .slice (A 15) (D 15).length (K 15)] 31)
    have oB5 := oB3.alloc (.cells #[.slice (A 0) (D 0).length (K 0), .slice (A 1) (D 1).length (K 1), .slice (A 2) (D 2).length (K 2), .slice (A 3) (D 3).length (K 3), .slice (A 4) (D 4).length (K 4), .slice (A 5) (D 5).length (K 5), .slice (A 6) (D 6).length (K 6), .slice (A 7) (D 7).length (K 7), .slice (A 8) (D 8).length (K 8), .slice (A 9) (D 9).length (K 9), .slice (A 10) (D 10).length (K 10), .slice (A 11) (D 11).length (K 11), .slice (A 12) (D 12).length (K 12), .slice (A 13) (D 13).length (K 13), .slice (A 14) (D 14).length (K 14), .slice (A 15) (D 15).length (K 15)] 31)
    have oD5 := Own.new w3 31 #[.slice (A 0) (D 0).length (K 0), .slice (A 1) (D 1).length (K 1), .slice (A 2) (D 2).length (K 2), .slice (A 3) (D 3).length (K 3), .slice (A 4) (D 4).length (K 4), .slice (A 5) (D 5).length (K 5), .slice (A 6) (D 6).length (K 6), .slice (A 7) (D 7).length (K 7), .slice (A 8) (D 8).length (K 8), .slice (A 9) (D 9).length (K 9), .slice (A 10) (D 10).length (K 10), .slice (A 11) (D 11).length (K 11), .slice (A 12) (D 12).length (K 12), .slice (A 13) (D 13).length (K 13), .slice (A 14) (D 14).length (K 14), .slice (A 15) (D 15).length (K 15)]
    have bw := (Below.refl w3.heap.size w3).alloc (Nat.le_refl _) (.cells #[.slice (A 0) (D 0).length (K 0), .slice (A 1) (D 1).length (K 1), .slice (A 2) (D 2).length (K 2), .slice (A 3) (D 3).length (K 3), .slice (A 4) (D 4).length (K 4), .slice (A 5) (D 5).length (K 5), .slice (A 6) (D 6).length (K 6), .slice (A 7) (D 7).length (K 7), .slice (A 8) (D 8).length (K 8), .slice (A 9) (D 9).length (K 9), .slice (A 10) (D 10).length (K 10), .slice (A 11) (D 11).length (K 11), .slice (A 12) (D 12).length (K 12), .slice (A 13) (D 13).length (K 13), .slice (A 14) (D 14).length (K 14), .slice (A 15) (D 15).length (K 15)] 31)
    have HML5 := Lib.hid (HML.out.below bw)
    have HD5 := Lib.hid (HD.out.below bw)
    have hst := run_row (P := Try.prog) (cs := d16 fun i => .slice (A i) (D i).length (K i)) (Own.new w3 31 #[.slice none 0 0, .slice none 0 0, .slice none 0 0, .slice none 0 0, .slice none 0 0, .slice none 0 0, .slice none 0 0, .slice none 0 0, .slice none 0 0, .slice none 0 0, .slice none 0 0, .slice none 0 0, .slice none 0 0, .slice none 0 0, .slice none 0 0, .slice none 0 0]) rfl (by simp [d16, Value.oneCell'])
    rw [World.setRow_alloc_new] at hst
    go_upto_region 4 with (fail)
    clear hst
    change (Code.region _ _ _).wp _ _ _ (w3.alloc (.cells #[.slice (A 0) (D 0).length (K 0), .slice (A 1) (D 1).length (K 1), .slice (A 2) (D 2).length (K 2), .slice (A 3) (D 3).length (K 3), .slice (A 4) (D 4).length (K 4), .slice (A 5) (D 5).length (K 5), .slice (A 6) (D 6).length (K 6), .slice (A 7) (D 7).length (K 7), .slice (A 8) (D 8).length (K 8), .slice (A 9) (D 9).length (K 9), .slice (A 10) (D 10).length (K 10), .slice (A 11) (D 11).length (K 11), .slice (A 12) (D 12).length (K 12), .slice (A 13) (D 13).length (K 13), .slice (A 14) (D 14).length (K 14), .slice (A 15) (D 15).length (K 15)] 31))
    obtain ⟨dd, hdd⟩ : ∃ q, w3.heap.size = q := ⟨_, rfl⟩
    rw [hdd] at oD5 ⊢
    clear hdd bw oA3 oB3 b4 HML HD
    generalize w3.alloc (.cells #[.slice (A 0) (D 0).length (K 0), .slice (A 1) (D 1).length (K 1), .slice (A 2) (D 2).length (K 2), .slice (A 3) (D 3).length (K 3), .slice (A 4) (D 4).length (K 4), .slice (A 5) (D 5).length (K 5), .slice (A 6) (D 6).length (K 6), .slice (A 7) (D 7).length (K 7), .slice (A 8) (D 8).length (K 8), .slice (A 9) (D 9).length (K 9), .slice (A 10) (D 10).length (K 10), .slice (A 11) (D 11).length (K 11), .slice (A 12) (D 12).length (K 12), .slice (A 13) (D 13).length (K 13), .slice (A 14) (D 14).length (K 14), .slice (A 15) (D 15).length (K 15)] 31) = w5 at *
    clear w3
    obtain ⟨vs, hmo⟩ := map_src HML5.out
    have za : ∀ z : Ext w5, Own z.toW ba 23 #[.int .i64 af, .int .i64 a1, .int .i64 ac, .int .i64 ao, .int .i64 ap] := fun z => below_own z.ok oA5 oA5.lt
    have zb : ∀ z : Ext w5, Own z.toW (ba + 1) 23 #[.int .i64 bf, .int .i64 b1, .int .i64 bc, .int .i64 bo, .int .i64 bp] := fun z => below_own z.ok oB5 oB5.lt
    have zd : ∀ z : Ext w5, Own z.toW dd 31 #[.slice (A 0) (D 0).length (K 0), .slice (A 1) (D 1).length (K 1), .slice (A 2) (D 2).length (K 2), .slice (A 3) (D 3).length (K 3), .slice (A 4) (D 4).length (K 4), .slice (A 5) (D 5).length (K 5), .slice (A 6) (D 6).length (K 6), .slice (A 7) (D 7).length (K 7), .slice (A 8) (D 8).length (K 8), .slice (A 9) (D 9).length (K 9), .slice (A 10) (D 10).length (K 10), .slice (A 11) (D 11).length (K 11), .slice (A 12) (D 12).length (K 12), .slice (A 13) (D 13).length (K 13), .slice (A 14) (D 14).length (K 14), .slice (A 15) (D 15).length (K 15)] := fun z => below_own z.ok oD5 oD5.lt
    have ea0 : ∀ z : Ext w5, z.toW.cell? ⟨ba, 0, none⟩ = some (.int .i64 af) := fun z => (za z).cell 0
    have ea1 : ∀ z : Ext w5, z.toW.cell? ⟨ba, 1, none⟩ = some (.int .i64 a1) := fun z => (za z).cell 1
    have ea2 : ∀ z : Ext w5, z.toW.cell? ⟨ba, 2, none⟩ = some (.int .i64 ac) := fun z => (za z).cell 2
    have ea3 : ∀ z : Ext w5, z.toW.cell? ⟨ba, 3, none⟩ = some (.int .i64 ao) := fun z => (za z).cell 3
    have ea4 : ∀ z : Ext w5, z.toW.cell? ⟨ba, 4, none⟩ = some (.int .i64 ap) := fun z => (za z).cell 4
    have eb0 : ∀ z : Ext w5, z.toW.cell? ⟨ba + 1, 0, none⟩ = some (.int .i64 bf) := fun z => (zb z).cell 0
    have eb1 : ∀ z : Ext w5, z.toW.cell? ⟨ba + 1, 1, none⟩ = some (.int .i64 b1) := fun z => (zb z).cell 1
    have eb2 : ∀ z : Ext w5, z.toW.cell? ⟨ba + 1, 2, none⟩ = some (.int .i64 bc) := fun z => (zb z).cell 2
    have eb3 : ∀ z : Ext w5, z.toW.cell? ⟨ba + 1, 3, none⟩ = some (.int .i64 bo) := fun z => (zb z).cell 3
    have eb4 : ∀ z : Ext w5, z.toW.cell? ⟨ba + 1, 4, none⟩ = some (.int .i64 bp) := fun z => (zb z).cell 4
    have ed0 : ∀ z : Ext w5, z.toW.cell? ⟨dd, 0, none⟩ = some (.slice (A 0) (D 0).length (K 0)) := fun z => (zd z).cell 0
    have ed1 : ∀ z : Ext w5, z.toW.cell? ⟨dd, 1, none⟩ = some (.slice (A 1) (D 1).length (K 1)) := fun z => (zd z).cell 1
    have ed2 : ∀ z : Ext w5, z.toW.cell? ⟨dd, 2, none⟩ = some (.slice (A 2) (D 2).length (K 2)) := fun z => (zd z).cell 2
    have ed3 : ∀ z : Ext w5, z.toW.cell? ⟨dd, 3, none⟩ = some (.slice (A 3) (D 3).length (K 3)) := fun z => (zd z).cell 3
    have ed4 : ∀ z : Ext w5, z.toW.cell? ⟨dd, 4, none⟩ = some (.slice (A 4) (D 4).length (K 4)) := fun z => (zd z).cell 4
    have ed5 : ∀ z : Ext w5, z.toW.cell? ⟨dd, 5, none⟩ = some (.slice (A 5) (D 5).length (K 5)) := fun z => (zd z).cell 5
    have ed6 : ∀ z : Ext w5, z.toW.cell? ⟨dd, 6, none⟩ = some (.slice (A 6) (D 6).length (K 6)) := fun z => (zd z).cell 6
    have ed7 : ∀ z : Ext w5, z.toW.cell? ⟨dd, 7, none⟩ = some (.slice (A 7) (D 7).length (K 7)) := fun z => (zd z).cell 7
    have ed8 : ∀ z : Ext w5, z.toW.cell? ⟨dd, 8, none⟩ = some (.slice (A 8) (D 8).length (K 8)) := fun z => (zd z).cell 8
    have ed9 : ∀ z : Ext w5, z.toW.cell? ⟨dd, 9, none⟩ = some (.slice (A 9) (D 9).length (K 9)) := fun z => (zd z).cell 9
    have ed10 : ∀ z : Ext w5, z.toW.cell? ⟨dd, 10, none⟩ = some (.slice (A 10) (D 10).length (K 10)) := fun z => (zd z).cell 10
    have ed11 : ∀ z : Ext w5, z.toW.cell? ⟨dd, 11, none⟩ = some (.slice (A 11) (D 11).length (K 11)) := fun z => (zd z).cell 11
    have ed12 : ∀ z : Ext w5, z.toW.cell? ⟨dd, 12, none⟩ = some (.slice (A 12) (D 12).length (K 12)) := fun z => (zd z).cell 12
    have ed13 : ∀ z : Ext w5, z.toW.cell? ⟨dd, 13, none⟩ = some (.slice (A 13) (D 13).length (K 13)) := fun z => (zd z).cell 13
    have ed14 : ∀ z : Ext w5, z.toW.cell? ⟨dd, 14, none⟩ = some (.slice (A 14) (D 14).length (K 14)) := fun z => (zd z).cell 14
    have ed15 : ∀ z : Ext w5, z.toW.cell? ⟨dd, 15, none⟩ = some (.slice (A 15) (D 15).length (K 15)) := fun z => (zd z).cell 15
    obtain ⟨k1, hk1⟩ : ∃ q, clashB ⟨af, a1, ac, ao, ap⟩ ⟨bf, b1, bc, bo, bp⟩ x y = q := ⟨_, rfl⟩
    obtain ⟨k3, hk3⟩ : ∃ q, clB L = q := ⟨_, rfl⟩
    obtain ⟨k4, hk4⟩ : ∃ q : Bool, q = true ↔ RC D := by
      by_cases h : RC D
      · exact ⟨true, ⟨fun _ => h, fun _ => rfl⟩⟩
      · exact ⟨false, ⟨fun e => (by cases e), fun e => absurd e h⟩⟩
    have hmo2 : ∀ z : Ext w5, MapOf z.toW bm (ents L vs) L.length (fun e => L.getD e.born (0, [])) := fun z => mapOf_below hmo z.ok
    have hdl2 : ∀ z : Ext w5, Dl z.toW D A K := fun z => HD5.out.below z.ok
    have H1 : Hid (∀ z : Ext w5, Calls Try.prog 8 #[.agg #[.int .i64 af, .int .i64 a1, .int .i64 ac, .int .i64 ao, .int .i64 ap], .agg #[.int .i64 bf, .int .i64 b1, .int .i64 bc, .int .i64 bo, .int .i64 bp], .int .i64 x, .int .i64 y] z.toW fun e w' => e = .returned (.bool k1) ∧ ∃ y : Ext w5, w' = y.toW) := Lib.hid (fun z => ext_below z (hk1 ▸ clash_any ⟨af, a1, ac, ao, ap⟩ ⟨bf, b1, bc, bo, bp⟩ x y _))
    have H2 : Hid (∀ z : Ext w5, Calls Try.prog 9 #[.agg #[.int .i64 af, .int .i64 a1, .int .i64 ac, .int .i64 ao, .int .i64 ap], .agg #[.int .i64 bf, .int .i64 b1, .int .i64 bc, .int .i64 bo, .int .i64 bp], .int .i64 x, .int .i64 y] z.toW fun e w' => e = .returned (.bool k1) ∧ ∃ y : Ext w5, w' = y.toW) := Lib.hid (fun z => ext_below z (hk1 ▸ rclash_any ⟨af, a1, ac, ao, ap⟩ ⟨bf, b1, bc, bo, bp⟩ x y _))
    have H3 : Hid (∀ z : Ext w5, Calls Try.prog 10 #[.map (some bm)] z.toW fun e w' => e = .returned (.bool k3) ∧ ∃ y : Ext w5, w' = y.toW) := Lib.hid (fun z => ext_below z (by
      have := clean_any bm (ents L vs) L.length (fun e => L.getD e.born (0, [])) z.toW (hmo2 z) (by rw [ents_map]; exact HTM.out)
      rw [ents_map, hk3] at this
      exact this))
    have H4 : Hid (∀ z : Ext w5, Calls Try.prog 11 #[.agg #[.slice (A 0) (D 0).length (K 0), .slice (A 1) (D 1).length (K 1), .slice (A 2) (D 2).length (K 2), .slice (A 3) (D 3).length (K 3), .slice (A 4) (D 4).length (K 4), .slice (A 5) (D 5).length (K 5), .slice (A 6) (D 6).length (K 6), .slice (A 7) (D 7).length (K 7), .slice (A 8) (D 8).length (K 8), .slice (A 9) (D 9).length (K 9), .slice (A 10) (D 10).length (K 10), .slice (A 11) (D 11).length (K 11), .slice (A 12) (D 12).length (K 12), .slice (A 13) (D 13).length (K 13), .slice (A 14) (D 14).length (K 14), .slice (A 15) (D 15).length (K 15)]] z.toW fun e w' => e = .returned (.bool k4) ∧ ∃ y : Ext w5, w' = y.toW) := Lib.hid (fun z => ext_below z ((rclean_any D A K z.toW (hdl2 z)).mono (fun r w' h => by
      obtain ⟨q, h1, h2, h3⟩ := h
      have : q = k4 := by
        cases q <;> cases k4 <;> simp_all
      exact ⟨by rw [h1, this], h3⟩)))
    have H5 : Hid (∀ z : Ext w5, Calls Try.prog 6 #[] z.toW fun e w' => e = .returned (.bool true) ∧ ∃ y : Ext w5, w' = y.toW) := Lib.hid (fun z => ext_below z (awake_any _))
    obtain ⟨hm1, hm2⟩ := HMA.out
    have e1 : (k1 == k1) = true := by cases k1 <;> rfl
    have hcase : (O = 0 ∧ k3 = k4) ∨ (O ≠ 0 ∧ k3 = false) := by
      rw [hm2] at hk3
      by_cases hO : O = 0
      · refine .inl ⟨hO, ?_⟩
        rw [← hk3]
        cases hc : clB M <;> cases k4 <;> simp_all
      · refine .inr ⟨hO, ?_⟩
        rw [← hk3]
        cases hc : clB M
        · rfl
        · rw [hc] at hm1
          exact absurd (hm1.1 rfl).1 hO
    have HF := Lib.hid (And.intro bd oA5.lt)
    clear hk1 hk3 hk4 hmo hmo2 hdl2 hm1 hm2 HMA HML5 HD5 bd za zb zd oA5 oB5 oD5 HTM
    rcases hcase with ⟨rfl, rfl⟩ | ⟨hO, rfl⟩
    · have e2 : (k3 == k3) = true := by cases k3 <;> rfl
      refine wp_region_ext w5 (by kernel_rfl) (by kernel_rfl) (Below.refl _ _) ?_
      repeat (go_big_quiet_step (first
        | (go_at_call 8; with_reducible exact H1.out _)
        | (go_at_call 9; with_reducible exact H2.out _)
        | (go_at_call 10; with_reducible exact H3.out _)
        | (go_at_call 11; with_reducible exact H4.out _)
        | (go_at_call 6; with_reducible exact H5.out _)))
      refine wpQuiet_nil ?_
      rintro w9 ⟨z9, rfl⟩
      go_wp2_with fail
      go_ret
      exact ⟨rfl, HBA.out ▸ HF.out.1.trans (z9.ok.mono (Nat.le_of_lt HF.out.2))⟩
    · have g0 : ((O : Int) == 0) = false := by simp; omega
      clear hO
      refine wp_region_ext w5 (by kernel_rfl) (by kernel_rfl) (Below.refl _ _) ?_
      repeat (go_big_quiet_step (first
        | (go_at_call 8; with_reducible exact H1.out _)
        | (go_at_call 9; with_reducible exact H2.out _)
        | (go_at_call 10; with_reducible exact H3.out _)
        | (go_at_call 11; with_reducible exact H4.out _)
        | (go_at_call 6; with_reducible exact H5.out _)))
      refine wpQuiet_nil ?_
      rintro w9 ⟨z9, rfl⟩
      go_wp2_with fail
      go_ret
      exact ⟨rfl, HBA.out ▸ HF.out.1.trans (z9.ok.mono (Nat.le_of_lt HF.out.2))⟩
theorem walk (H : Type) (enc : TypeId × Value → H) : WalkS H enc Try.prog 3 Try.f3 := by
  intro W base args ds p hval hA hw
  rw [Try.params3] at hA hval hw
  obtain ⟨v0, vs, d0, ds', p0, q0, e0, rfl, rfl, h0, hA⟩ := trodAll_cons hA
  obtain ⟨v1, vs1, d1, ds1, p1, q1, rfl, rfl, rfl, h1, hA⟩ := trodAll_cons hA
  obtain ⟨v2, vs2, d2, ds2, p2, q2, rfl, rfl, rfl, h2, hA⟩ := trodAll_cons hA
  obtain ⟨v3, vs3, d3, ds3, p3, q3, rfl, rfl, rfl, h3, hA⟩ := trodAll_cons hA
  obtain ⟨v4, vs4, d4, ds4, p4, q4, rfl, rfl, rfl, h4, hA⟩ := trodAll_cons hA
  obtain ⟨rfl, rfl, rfl⟩ := trodAll_nil hA
  obtain ⟨l⟩ := args
  dsimp only at e0
  subst e0
  obtain ⟨a, rfl⟩ := AllocBoth.open_c W base v0 (hval 0 _ v0 rfl rfl) h0
  obtain ⟨b, rfl⟩ := AllocBoth.open_c W base v1 (hval 1 _ v1 rfl rfl) h1
  obtain ⟨x, rfl, rfl, rfl, _⟩ := open_int Try.underlying3 (hval 2 _ v2 rfl rfl) h2
  obtain ⟨y, rfl, rfl, rfl, _⟩ := open_int Try.underlying3 (hval 3 _ v3 rfl rfl) h3
  obtain ⟨la, n, c, V, F, rfl, hn, hc, hF⟩ := open_rows (hval 4 _ v4 rfl rfl) h4 (fun x hx => by
    exact of_decide_eq_true (List.all_eq_true.1 hw x (DataW.weights_mem_each (j := 4) rfl rfl x hx)))
  exact body a b x y la n c V F W hn hc hF

set_option maxRecDepth 100000 in
theorem lifted (os : Os) (started : os.Started) (H : Type) (enc : TypeId × Value → H) :
    ReturnsInHanded {} Try.checked os 3 .any (Rows.allocFormsSpec.pre6 enc Try.prog Try.f3 Rows.allocFormsRow.domain false) (Rows.allocFormsSpec.post enc Try.prog Try.f3 false true false false) :=
  returnsInHanded_of_change_sized (C := Try.checked) own started (by kernel_rfl) Try.func3
    (ChangeSpec.witness6 (enc := enc) (C := Try.checked) false ⟨#[], #[.agg #[.int .i64 0, .int .i64 0, .int .i64 0, .int .i64 0, .int .i64 0], .agg #[.int .i64 0, .int .i64 0, .int .i64 0, .int .i64 0, .int .i64 0], .int .i64 0, .int .i64 0, .slice none 0 0], []⟩ 8 (by kernel_rfl) (by kernel_rfl) (by kernel_rfl) (by kernel_rfl))
    fun W base args ds gs before hval hW _ hwt _ => step_of_walk_sized laidOut (by rw [Try.params3]; exact of_decide_eq_true (by kernel_rfl)) (by kernel_rfl) Try.underlying4 rfl rfl
      (fun ds h => by
        rw [Try.params3] at h
        match ds, h with
        | [_, _, _, _, _], _ => rfl) (walk H enc) W base args ds gs before hval hW hwt

theorem holds : Rows.AllocFormsSaid :=
  OpenClaim.holds_of_wide 3 Try.f3 rfl rfl rfl rfl rfl rfl rfl ⟨rfl, rfl, rfl, rfl, rfl⟩ rfl rfl rfl rfl rfl (by kernel_rfl) Try.func3 (by kernel_rfl)
    (of_decide_eq_true (by kernel_rfl)) (by unfold Func.isWrapper; first | (rw [if_pos (by decide +kernel)]; kernel_rfl) | (rw [if_neg (by decide +kernel)]; exact ⟨rfl, rfl⟩))
    (fun os started H enc _ => lifted os started H enc)
#print axioms holds
end Go.Proofs.Ytahcplddonipcaa.AllocForms
