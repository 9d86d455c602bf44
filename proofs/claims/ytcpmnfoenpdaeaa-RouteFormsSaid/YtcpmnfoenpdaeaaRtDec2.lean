/-
  Package route (chapter 19): Decode.
-/
import Derived.Test.YtcpmnfoenpdaeaaRtDec
import Derived.Test.YtcpmnfoenpdaeaaRtDecN
import Derived.Deep.Cut
import Derived.Deep.CutRange
import Derived.Deep.RegionHeld3
import Derived.BigRegion
set_option maxRecDepth 100000
namespace Go.Proofs.Ytcpmnfoenpdaeaa.Rt
set_option linter.unusedVariables false
open Go.RowKit Lb Go.Shelf Bf

/-- Where Decode stands behind k bytes: its result's variable, its reader. -/
structure Ds (w wx : World) (rb base : Nat) (L : List Int) (k : Nat) : Prop where
  z : Lb.Own wx w.heap.size 25 #[.int .i64 0, .int .i64 0, .int .i64 0, .int .i64 0, .slice none 0 0, .slice none 0 0]
  r : Rb wx base rb (Sl L k) (Se L k)
  lb : w.heap.size ≤ rb
  bb : Below w.heap.size w wx
theorem Ds.rd {w wx : World} {rb base : Nat} {L : List Int} {k : Nat} (h : Ds w wx rb base L k) {g : Nat} {t : TypeId} {cs : Array Value} (o : Lb.Own wx g t cs) (ht : t ≠ 75) : g ≠ rb := by
  obtain ⟨ds, hd⟩ := rb_own h.r
  exact own_ne o hd ht
theorem Ds.go {w wx w' : World} {rb base : Nat} {L : List Int} {k k' : Nat} (h : Ds w wx rb base L k) (R : Rb w' base rb (Sl L k') (Se L k')) (J : Just rb wx w') : Ds w w' rb base L k' :=
  ⟨J.own h.z (h.rd h.z (by decide)), R, h.lb, J.below h.bb h.lb h.bb.size⟩
theorem Ds.drewN {w wx : World} {rb base : Nat} {L : List Int} {k : Nat} (h : Ds w wx rb base L k) (m : Nat) : Ds w (wx.drewN m) rb base L k := ⟨h.z.drewN m, h.r.drewN m, h.lb, below_drewN h.bb m⟩
theorem Ds.more {w wx w' : World} {rb base : Nat} {L : List Int} {k : Nat} (h : Ds w wx rb base L k) (j : Below wx.heap.size wx w') : Ds w w' rb base L k :=
  ⟨below_own j h.z h.z.lt, h.r.below j, h.lb, h.bb.trans (j.mono h.bb.size)⟩
theorem rtake_to (base b : Nat) (L : List Int) (k : Nat) (v : Int) (hv : L.getD k 0 = v) (w : World) (h : Rb w base b (Sl L k) (Se L k)) :
    Calls Try.prog 44 #[.pointer (some ⟨b, 0, none⟩)] w fun r w' => r = .returned (.int .i64 v) ∧ Rb w' base b (Sl L (k + 1)) (Se L (k + 1)) ∧ Just b w w' := by
  subst hv
  exact rtake_any base b L k w h
theorem Ds.put {w wx : World} {rb base : Nat} {L : List Int} {k : Nat} (h : Ds w wx rb base L k) {q : Nat} {t : TypeId} {cs : Array Value} (z2 : Lb.Own wx q t cs) (h1 : t ≠ 5) (h2 : t ≠ 75) (hz : q ≠ w.heap.size) (hq : w.heap.size ≤ q) (i : Nat) (u : Value) : Ds w (wx.setCell ⟨q, i, none⟩ u) rb base L k := by
  have J := Just.set q wx i u
  exact ⟨J.own h.z hz.symm, rb_just h.r z2 h1 h2 J, h.lb, J.below h.bb hq h.bb.size⟩
theorem mine_jst {w w' : World} {base g n : Nat} {t : TypeId} {cs : Array Value} {v : Value} {V : Nat → Value} (h : Mine w base 3 v n V) (z : Lb.Own w g t cs) (hne : 3 ≠ t) (j : Just g w w') : Mine w' base 3 v n V :=
  h.kept (fun q _ => by
    by_cases e : q = g
    · exact .inr (by rw [e]; exact mine_not h z hne)
    · by_cases hl : q < w.heap.size
      · exact .inl (j.block q hl e)
      · exact .inr (fun e2 => hl (h.lt q e2).2))
theorem own4 {w : World} {g : Nat} {a b c d e f : Value} (z : Lb.Own w g 25 #[a, b, c, d, e, f]) : w.cell? ⟨g, 4, none⟩ = some e := z.cell 4
theorem own4s {w : World} {g q i : Nat} {u : Value} {a b c d e f : Value} (z : Lb.Own w g 25 #[a, b, c, d, e, f]) (h : g ≠ q) : (w.setCell ⟨q, i, none⟩ u).cell? ⟨g, 4, none⟩ = some e := ((Just.set q w i u).own z h).cell 4
theorem small16 {k h : Nat} (h1 : k < h) (h2 : h ≤ 16) : -9223372036854775808 ≤ (k : Int) + 1 ∧ (k : Int) + 1 ≤ 9223372036854775807 := by omega
theorem meas16 {k h : Nat} (h1 : k < h) : h - (intOf (Value.int .i64 ((k : Int) + 1))).toNat < h - (intOf (Value.int .i64 (k : Int))).toNat := by
  simp [intOf]
  omega
theorem mine_jsg {w w' : World} {base g n : Nat} {e t : TypeId} {cs : Array Value} {v : Value} {V : Nat → Value} (h : Mine w base e v n V) (z : Lb.Own w g t cs) (hne : e ≠ t) (j : Just g w w') : Mine w' base e v n V :=
  h.kept (fun q _ => by
    by_cases e2 : q = g
    · exact .inr (by rw [e2]; exact mine_not h z hne)
    · by_cases hl : q < w.heap.size
      · exact .inl (j.block q hl e2)
      · exact .inr (fun e3 => hl (h.lt q e3).2))
theorem dtext (base b : Nat) (L : List Int) (k s : Nat) (w : World) (h : Rb w base b (Sl L k) (Se L k)) (hs : 0 < s) :
    Calls Try.prog 47 #[.pointer (some ⟨b, 0, none⟩), .int .i64 (s : Nat)] w fun r w' => Rb w' base b (Sl L (k + s)) (Se L (k + s)) ∧ Just b w w' ∧
      ((k + s ≤ L.length ∧ r = .returned (.slice (some ⟨w.heap.size, 0, none⟩) s s) ∧ Blk w' w.heap.size 5 s (fun i => .int .u8 (L.getD (k + i) 0))) ∨ (L.length < k + s ∧ r = .returned (.slice none 0 0))) := by
  refine (textb_J base b (Sl L k) (Se L k) s w h hs).mono ?_
  rintro r w' ⟨h1, h2, h3⟩
  rw [sl_step L k s hs, se_step L k s hs] at h1
  refine ⟨h1, h2, ?_⟩
  rw [sl_len] at h3
  rcases h3 with ⟨h4, h5, h6⟩ | ⟨h4, h5⟩
  · exact .inl ⟨by omega, h5, h6.ext (fun i _ => by rw [sl_at])⟩
  · exact .inr ⟨by omega, h5⟩
theorem nat_of {sz : Int} (h : ¬ (sz < 1 ∨ 24 < sz)) : ∃ s : Nat, sz = s ∧ 0 < s ∧ s ≤ 24 := ⟨sz.toNat, by omega, by omega, by omega⟩
theorem no_len2 {L : List Int} {h s : Nat} (hh : L.getD 9 0 = (h : Int)) (hs : L.getD (10 + h) 0 = (s : Int)) (hb : L.length ≠ 10 + h + 1 + s) : ∀ p, mayK p = true → encB p ≠ L := no_len hh hs (by omega)
theorem mine_blk {w : World} {base db s : Nat} {V : Nat → Value} (h : Blk w db 5 s V) (hb : base ≤ db) (hs : s ≤ 24) : Mine w base 5 (.slice (some ⟨db, 0, none⟩) s s) s V := by
  have := Mine.made (base := base) (n := s) (V := V) h hb (by simp; unfold maxLen; omega) (by simp) (fun i hi => by simp [hi])
  simpa using this
theorem low_of {n s : Nat} {L : List Int} {h : Nat} (hl : L.length = 10 + h + 1 + s) (hn : n = 2 + 6) : n ≤ L.length := by omega
theorem len_of {L : List Int} {h s : Nat} (hl : L.length = 10 + h + 1 + s) : L.length = 11 + h + s := by omega
/-- The path, as far as it is read. -/
def pv (L : List Int) (k i : Nat) : Value := if i < k then zval L (10 + i) else .int .i64 0
def DecPost (L : List Int) (w : World) (r : Ending) (w' : World) : Prop :=
  ∃ (P : Pk) (a : Option Addr) (c : Nat) (b : Option Addr) (d : Nat) (e : Int), r = .returned (.tuple #[.agg (P.vals a c b d), .int .i64 e]) ∧ P.Own w' w.heap.size a c b d ∧ Below w.heap.size w w' ∧
    ((e = 0 ∧ mayK P = true ∧ encB P = L) ∨ (e ≠ 0 ∧ P = noP ∧ ∀ p, mayK p = true → encB p ≠ L))
theorem built4 (a b c d : Int) : Try.prog.built 25 [(0, .int .i64 a), (1, .int .i64 b), (2, .int .i64 c), (3, .int .i64 d)] = some #[.int .i64 a, .int .i64 b, .int .i64 c, .int .i64 d, .slice none 0 0, .slice none 0 0] := by kernel_rfl
theorem one6 (a b c d : Int) : (#[Value.int .i64 a, .int .i64 b, .int .i64 c, .int .i64 d, .slice none 0 0, .slice none 0 0]).all (·.oneCell') = true := cells6 ⟨a, b, c, d, [], []⟩ none 0 none 0

set_option maxHeartbeats 4000000 in
theorem dec_any (a : Option Addr) (c : Nat) (L : List Int) (w : World) (hl : L.length ≤ 100000) (hR : Row w a L.length (fun i => .int .u8 (L.getD i 0))) (hB : ∀ x, x ∈ L → 0 ≤ x ∧ x < 256) (ha : a = none → L.length = 0) :
    Calls Try.prog 24 #[.slice a L.length c] w (DecPost L w) := by
  have z0 := Own.new w 25 #[.int .i64 0, .int .i64 0, .int .i64 0, .int .i64 0, .slice none 0 0, .slice none 0 0]
  have b0 := (Below.refl w.heap.size w).alloc (Nat.le_refl _) (.cells #[.int .i64 0, .int .i64 0, .int .i64 0, .int .i64 0, .slice none 0 0, .slice none 0 0] 25)
  have hR0 := hR.below b0
  obtain ⟨f, hf⟩ : ∃ f, L.getD 0 0 = f := ⟨_, rfl⟩
  obtain ⟨t, ht⟩ : ∃ t, L.getD 1 0 = t := ⟨_, rfl⟩
  obtain ⟨lf, hlf⟩ : ∃ lf, L.getD 8 0 = lf := ⟨_, rfl⟩
  obtain ⟨hp, hhp⟩ : ∃ hp, L.getD 9 0 = hp := ⟨_, rfl⟩
  have HF := Lib.hid hf
  have HT := Lib.hid ht
  have HLF := Lib.hid hlf
  have HHP := Lib.hid hhp
  have HBY := Lib.hid (fun k => okD_at hB k)
  clear hf ht hlf hhp
  go_enter Try.func24, Try.ntmps24
  go_upto_region 1 with (fail)
  generalize w.alloc (.cells #[.int .i64 0, .int .i64 0, .int .i64 0, .int .i64 0, .slice none 0 0, .slice none 0 0] 25) = w1 at *
  have hnr := newb_any a c L w1 hl hR0 hB ha
  clear hR hR0
  go_wp2_with (go_at_call 43; refine hnr.mono ?_)
  rintro r w2 ⟨rb, rfl, r2, j2, hrb, _⟩
  clear hnr
  obtain ⟨base, hbase⟩ : ∃ base, w1.heap.size = base := ⟨_, rfl⟩
  have d0 : Ds w w2 rb base L 0 := ⟨below_own j2 z0 z0.lt, by rw [sl_zero, se_zero, ← hbase]; exact r2, Nat.le_trans b0.size hrb, b0.trans (j2.mono b0.size)⟩
  clear hbase r2 j2 hrb z0 b0
  go_wp2_with (go_at_call 44; refine (rtake_to base rb L 0 f HF.out _ d0.r).mono ?_)
  rintro r w3 ⟨rfl, r3, j3⟩
  have d1 := d0.go r3 j3
  clear d0 r3 j3
  go_wp2_with (go_at_call 44; refine (rtake_to base rb L 1 t HT.out _ d1.r).mono ?_)
  rintro r w4 ⟨rfl, r4, j4⟩
  have d2 := d1.go r4 j4
  clear d1 r4 j4
  go_wp2_with (go_at_call 45; refine (dtake48 base rb L 2 _ d2.r).mono ?_)
  rintro r w5 ⟨x, rfl, hx, hx6, r5, j5⟩
  have d3 := d2.go r5 j5
  clear d2 r5 j5
  have ex1 : wrap64 (x : Int) = (x : Int) := IntWalk.wrap64_in _ ⟨by omega, by omega⟩
  have ex2 : IntKind.i64.wrap (x : Int) = (x : Int) := IntWalk.i64_in _ ⟨by omega, by omega⟩
  go_wp2_with (go_at_call 44; refine (rtake_to base rb L 8 lf HLF.out _ d3.r).mono ?_)
  rintro r w6 ⟨rfl, r6, j6⟩
  have d4 := d3.go r6 j6
  clear d3 r6 j6
  have HX := Lib.hid (And.intro hx hx6)
  clear hx hx6
  have o7 := Own.new w6 25 #[.int .i64 f, .int .i64 t, .int .i64 (x : Int), .int .i64 lf, .slice none 0 0, .slice none 0 0]
  have d5 := d4.more ((Below.refl w6.heap.size w6).alloc (Nat.le_refl _) (.cells #[.int .i64 f, .int .i64 t, .int .i64 (x : Int), .int .i64 lf, .slice none 0 0, .slice none 0 0] 25))
  have hg0 : w.heap.size < w6.heap.size := d4.z.lt
  clear d4
  go_upto_region 3 with (refine wpList_built #[.int .i64 f, .int .i64 t, .int .i64 (x : Int), .int .i64 lf, .slice none 0 0, .slice none 0 0] rfl rfl (built4 f t x lf) ?_; refine wpList_alloc_store #[.int .i64 f, .int .i64 t, .int .i64 (x : Int), .int .i64 lf, .slice none 0 0, .slice none 0 0] rfl rfl rfl rfl infoP rfl rfl (by kernel_rfl) rfl (one6 f t x lf) ?_)
  generalize w6.alloc (.cells #[.int .i64 f, .int .i64 t, .int .i64 (x : Int), .int .i64 lf, .slice none 0 0, .slice none 0 0] 25) = w7 at *
  generalize w6.heap.size = g at *
  clear hl hB ha
  go_wp2_with (go_at_call 44; refine (rtake_to base rb L 9 hp HHP.out _ d5.r).mono ?_)
  rintro r w8 ⟨rfl, r8, j8⟩
  have o8 := j8.own o7 (d5.rd o7 (by decide))
  have d6 := d5.go r8 j8
  clear d5 o7 r8 j8
  by_cases h10 : L.length < 10
  · have hno : ∀ p, mayK p = true → encB p ≠ L := fun p hp he => by
      have := (dec_enc hp he).2.2.2.2.2.2.2.2
      omega
    have HNO := Lib.hid hno
    have hend := dend base rb L 10 w8 d6.r
    rw [if_pos h10] at hend
    clear hno h10
    go_wp2_with (go_at_call 46; refine hend.mono ?_)
    rintro r w9 ⟨rfl, m9, rfl⟩
    have d7 := d6.drewN m9
    clear d6 hend o8
    go_wp2_with (refine wpList_build_store (noP.vals none 0 none 0) rfl rfl rfl rfl builtP rfl rfl d7.z (by kernel_rfl) rfl (cells6 _ _ _ _ _) ?_)
    refine bodyPost_ret (results_row_tmp rfl _ _ w.heap.size 25 _ (0, 0) _ rfl (d7.z.setRow _) Try.underlying25 rfl (by kernel_rfl)) rfl ⟨noP, none, 0, none, 0, 2, rfl, noP_own _ _, (Just.setRow _ _ _).below d7.bb (Nat.le_refl _) d7.bb.size, .inr ⟨by decide, rfl, HNO.out⟩⟩
  obtain ⟨e10, he10⟩ : ∃ e10 : Int, (if L.length < 10 then 2 else if L.length = 10 then 0 else 3) = e10 := ⟨_, rfl⟩
  have hend := dend base rb L 10 w8 d6.r
  rw [he10] at hend
  have hne10 : (e10 == 2) = false := by
    rw [← he10, if_neg h10]
    split <;> rfl
  have H10 := Lib.hid h10
  clear he10 h10
  have hhb := HBY.out 9
  rw [HHP.out] at hhb
  obtain ⟨h, rfl⟩ : ∃ h : Nat, hp = (h : Int) := ⟨hp.toNat, by omega⟩
  clear hhb
  go_wp2_with (go_at_call 46; refine hend.mono ?_)
  rintro r w9 ⟨rfl, m9, rfl⟩
  have d7 := d6.drewN m9
  have o9 := o8.drewN m9
  clear d6 hend o8
  generalize w8.drewN m9 = w9 at *
  by_cases h16 : 16 < h
  · have HNO := Lib.hid (fun p (hp : mayK p = true) (he : encB p = L) => by
      have h1 := (dec_enc hp he).2.2.2.2.1
      have h2 := (okP_out (mayK_all hp).2.2.2.2.2.1).1
      rw [HHP.out] at h1
      omega : ∀ p, mayK p = true → encB p ≠ L)
    have g1 : decide (16 < h) = true := by simp; omega
    have g2 : decide ((16 : Int) < (h : Int)) = true := by simp; omega
    clear h16
    go_wp2_with (refine wpList_build_store (noP.vals none 0 none 0) rfl rfl rfl rfl builtP rfl rfl d7.z (by kernel_rfl) rfl (cells6 _ _ _ _ _) ?_)
    refine bodyPost_ret (results_row_tmp rfl _ _ w.heap.size 25 _ (0, 0) _ rfl (d7.z.setRow _) Try.underlying25 rfl (by kernel_rfl)) rfl ⟨noP, none, 0, none, 0, 3, rfl, noP_own _ _, (Just.setRow _ _ _).below d7.bb (Nat.le_refl _) d7.bb.size, .inr ⟨by decide, rfl, HNO.out⟩⟩
  have g1 : decide (16 < h) = false := by simp; omega
  have g2 : decide ((16 : Int) < (h : Int)) = false := by simp; omega
  obtain ⟨i0, hi0, hz0, hz1, hz2⟩ := info_parts infoI
  have hmk : ∀ w : World, (Instr.makeSlice 22 (.int .i64 (h : Int)) (.int .i64 (h : Int))).run Try.prog w = .ok (.slice (some ⟨w.heap.size, 0, none⟩) h h) (w.alloc (.cells (madeCells #[.int .i64 0] h) 3)) := by
    intro w
    have := run_make w 22 3 i0 (.int .i64 0) Try.underlying22 hi0 hz0 .i64 .i64 (h : Int) (h : Int) (by omega) (by omega) (by rw [hz2]; omega) (by omega)
    rw [this, hz1]
    simp [Value.cells]
  have HH := Lib.hid (show h ≤ 16 by omega)
  clear h16
  have jm := (Below.refl w9.heap.size w9).alloc (Nat.le_refl _) (.cells (madeCells #[.int .i64 0] h) 3)
  have d8 := d7.more jm
  have o10 := below_own jm o9 o9.lt
  have m10 : Mine (w9.alloc (.cells (madeCells #[.int .i64 0] h) 3)) (w.heap.size + 1) 3 (.slice (some ⟨w9.heap.size, 0, none⟩) h h) h (pv L 0) := by
    have hc : madeCells #[Value.int .i64 0] h = (List.replicate h (Value.int .i64 0)).toArray := by
      apply Array.toList_inj.1
      simpa using toList_madeCells_one (Value.int .i64 0) h
    have hm := HH.out
    have := Mine.made (base := w.heap.size + 1) (n := h) (V := pv L 0) (Own.new w9 3 (madeCells #[.int .i64 0] h)) d7.z.lt (by rw [hc]; simp; unfold maxLen; omega) (by rw [hc]; simp) (fun i hi => by rw [hc]; simp [hi, pv])
    rw [hc] at this
    simpa [hc] using this
  have hpz : w9.heap.size ≠ w.heap.size := fun e => by have := d7.z.lt; rw [e] at this; exact Nat.lt_irrefl _ this
  have hpg : w9.heap.size ≠ g := fun e => by have := o9.lt; rw [← e] at this; exact Nat.lt_irrefl _ this
  have hpw : w.heap.size ≤ w9.heap.size := d7.bb.size
  clear d7 o9 jm
  have k4 : (w9.alloc (.cells (madeCells #[.int .i64 0] h) 3)).cell? ⟨g, 4, none⟩ = some (.slice none 0 0) := o10.cell 4
  have f4 : (w9.alloc (.cells (madeCells #[.int .i64 0] h) 3)).frozen? ⟨g, 4, none⟩ = false := o10.free 4
  go_upto_region 9 with (fail)
  have d9 := d8.put o10 (by decide) (by decide) (fun e => Nat.lt_irrefl _ (e ▸ hg0)) (Nat.le_of_lt hg0) 4 (.slice (some ⟨w9.heap.size, 0, none⟩) h h)
  have o11 : Lb.Own ((w9.alloc (.cells (madeCells #[.int .i64 0] h) 3)).setCell ⟨g, 4, none⟩ (.slice (some ⟨w9.heap.size, 0, none⟩) h h)) g 25 #[.int .i64 f, .int .i64 t, .int .i64 (x : Int), .int .i64 lf, .slice (some ⟨w9.heap.size, 0, none⟩) h h, .slice none 0 0] := o10.put 4 _
  have m11 := mine_jst m10 o10 (by decide) (Just.set g (w9.alloc (.cells (madeCells #[.int .i64 0] h) 3)) 4 (.slice (some ⟨w9.heap.size, 0, none⟩) h h))
  clear d8 o10 m10 k4 f4 hmk g1 g2
  generalize (w9.alloc (.cells (madeCells #[.int .i64 0] h) 3)).setCell ⟨g, 4, none⟩ (.slice (some ⟨w9.heap.size, 0, none⟩) h h) = w10 at *
  generalize w9.heap.size = pb at *
  have k4 : w10.cell? ⟨g, 4, none⟩ = some (.slice (some ⟨pb, 0, none⟩) h h) := o11.cell 4
  go_wp2_with fail
  clear k4
  go_loopw [37] (fun i wr => ∃ k : Nat, i = .int .i64 k ∧ k ≤ h ∧ Ds w wr rb base L (10 + k) ∧ Lb.Own wr g 25 #[.int .i64 f, .int .i64 t, .int .i64 (x : Int), .int .i64 lf, .slice (some ⟨pb, 0, none⟩) h h, .slice none 0 0] ∧ Mine wr (w.heap.size + 1) 3 (.slice (some ⟨pb, 0, none⟩) h h) h (pv L k)) (fun i _ => h - (intOf i).toNat)
  case atStart => exact ⟨0, rfl, Nat.zero_le _, d9, o11, m11⟩
  case round =>
    clear d9 o11 m11
    obtain ⟨k, rfl, hk, dk, ok, mk⟩ := hrel
    by_cases hlt : k < h
    · have hk3 : wrap64 ((k : Int) + 1) = (k : Int) + 1 := IntWalk.wrap64_in _ (small16 hlt HH.out)
      have hk4 : IntKind.i64.wrap ((k : Int) + 1) = (k : Int) + 1 := IntWalk.i64_in _ (small16 hlt HH.out)
      have y4 : wr.cell? ⟨g, 4, none⟩ = some (.slice (some ⟨pb, 0, none⟩) h h) := ok.cell 4
      obtain ⟨v, hv⟩ : ∃ v, L.getD (10 + k) 0 = v := ⟨_, rfl⟩
      have HV := Lib.hid hv
      clear hv
      have s0 : (fun w' : World => w'.cell? ⟨g, 4, none⟩ = some (.slice (some ⟨pb, 0, none⟩) h h)) wr.drew := y4
      have hr0 : Rb wr.drew base rb (Sl L (10 + k)) (Se L (10 + k)) := dk.r.drewN 1
      obtain ⟨_, csb, e1, _, ob, _, _, _⟩ := mk.block (Nat.lt_of_le_of_lt (Nat.zero_le _) hlt)
      injection e1 with e1 _ e3
      clear e3
      injection e1 with e1
      injection e1 with e1 _ _
      subst e1
      have hrg := dk.rd ok (by decide)
      have hrp := dk.rd ob (by decide)
      have dD : Ds w wr.drew rb base L (10 + k) := dk.drewN 1
      have oD : Lb.Own wr.drew g 25 #[.int .i64 f, .int .i64 t, .int .i64 (x : Int), .int .i64 lf, .slice (some ⟨pb, 0, none⟩) h h, .slice none 0 0] := ok.drewN 1
      have mD : Mine wr.drew (w.heap.size + 1) 3 (.slice (some ⟨pb, 0, none⟩) h h) h (pv L k) := mk.drewN 1
      clear dk ok mk ob
      obtain ⟨rcs, hro⟩ := rb_own hr0
      have hir : (3 : TypeId) ≠ 75 := by decide
      have hgp : g ≠ pb := fun e => hpg e.symm
      have hk0 : (0 : Int) ≤ (k : Int) := Int.natCast_nonneg k
      have hk1 : (k : Int) < (h : Int) := Int.ofNat_lt.2 hlt
      go_upto_region 12 with (fail)
      go_region_held3 (fun w' : World => w'.cell? ⟨g, 4, none⟩ = some (.slice (some ⟨pb, 0, none⟩) h h)) (with_reducible first | exact s0 | exact s1 | exact s2) (first | (go_at_call 44; refine (rtake_to base rb L (10 + k) v HV.out _ hr0).mono ?_; rintro r9 wq ⟨rfl, rq, jq⟩; have oq := jq.own oD hrg; have mq := mine_jst mD hro hir jq; have s1 : (fun w' : World => w'.cell? ⟨g, 4, none⟩ = some (.slice (some ⟨pb, 0, none⟩) h h)) wq := own4 oq; have s2 : (fun w' : World => w'.cell? ⟨g, 4, none⟩ = some (.slice (some ⟨pb, 0, none⟩) h h)) (wq.setCell ⟨pb, k, none⟩ (.int .i64 v)) := own4s oq hgp; obtain ⟨_, _, kc, kf⟩ := mq.at_ hlt) | fail)
      all_goals
        go_wp2_with fail
        go_roundw
        case rel =>
          have dq := dD.go rq jq
          obtain ⟨_, csq, e2, _, obq, _, _, _⟩ := mq.block (Nat.lt_of_le_of_lt (Nat.zero_le _) hlt)
          injection e2 with e2 _ e3
          clear e3
          injection e2 with e2
          injection e2 with e2 _ _
          subst e2
          refine ⟨k + 1, by simp, hlt, dq.put obq (by decide) (by decide) hpz hpw k (.int .i64 v), (Just.set pb wq k (.int .i64 v)).own oq hgp, (mq.store hlt (.int .i64 v)).ext (fun i hi => ?_)⟩
          unfold pv
          by_cases hik : i = k
          · subst hik
            rw [if_pos rfl, if_pos (Nat.lt_succ_self _)]
            unfold zval
            rw [HV.out]
          · rw [if_neg hik]
            by_cases hi2 : i < k
            · rw [if_pos hi2, if_pos (Nat.lt_succ_of_lt hi2)]
            · rw [if_neg hi2, if_neg (fun h => hik (Nat.le_antisymm (Nat.le_of_lt_succ h) (Nat.le_of_not_lt hi2)))]
        case measure =>
          exact meas16 hlt
    · obtain rfl : h = k := Nat.le_antisymm (Nat.le_of_not_lt hlt) hk
      clear hlt hk
      obtain ⟨sz, hsz⟩ : ∃ sz, L.getD (10 + h) 0 = sz := ⟨_, rfl⟩
      have HSZ := Lib.hid hsz
      clear hsz
      go_wp2_with (go_at_call 44; refine (rtake_to base rb L (10 + h) sz HSZ.out _ dk.r).mono ?_)
      rintro r w11 ⟨rfl, r11, j11⟩
      have o12 := j11.own ok (dk.rd ok (by decide))
      obtain ⟨rcs, hro⟩ := rb_own dk.r
      have m12 := mine_jst mk hro (by decide) j11
      have d10 := dk.go r11 j11
      clear dk ok mk r11 j11 hro
      by_cases hsh : L.length < 10 + h + 1
      · have HNO := Lib.hid (no_short HHP.out hsh)
        have hend := dend base rb L (10 + h + 1) w11 d10.r
        rw [if_pos hsh] at hend
        clear hsh
        go_wp2_with (go_at_call 46; refine hend.mono ?_)
        rintro r w12 ⟨rfl, m12', rfl⟩
        have d11 := d10.drewN m12'
        clear d10 hend o12 m12
        go_wp2_with (refine wpList_build_store (noP.vals none 0 none 0) rfl rfl rfl rfl builtP rfl rfl d11.z (by kernel_rfl) rfl (cells6 _ _ _ _ _) ?_)
        refine bodyPost_ret (results_row_tmp rfl _ _ w.heap.size 25 _ (0, 0) _ rfl (d11.z.setRow _) Try.underlying25 rfl (by kernel_rfl)) rfl ⟨noP, none, 0, none, 0, 2, rfl, noP_own _ _, (Just.setRow _ _ _).below d11.bb (Nat.le_refl _) d11.bb.size, .inr ⟨by decide, rfl, HNO.out⟩⟩
      obtain ⟨e11, he11⟩ : ∃ e11 : Int, (if L.length < 10 + h + 1 then 2 else if L.length = 10 + h + 1 then 0 else 3) = e11 := ⟨_, rfl⟩
      have hend := dend base rb L (10 + h + 1) w11 d10.r
      rw [he11] at hend
      have hne11 : (e11 == 2) = false := by
        rw [← he11, if_neg hsh]
        split <;> rfl
      clear he11 hsh
      go_wp2_with (go_at_call 46; refine hend.mono ?_)
      rintro r w12 ⟨rfl, m12', rfl⟩
      have d11 := d10.drewN m12'
      have o13 := o12.drewN m12'
      have m13 := m12.drewN m12'
      clear d10 hend o12 m12
      generalize w11.drewN m12' = w12 at *
      by_cases hbad : sz < 1 ∨ 24 < sz
      · have HNO := Lib.hid (no_size HHP.out HSZ.out hbad)
        by_cases hb1 : sz < 1
        · clear hbad
          go_wp2_with (refine wpList_build_store (noP.vals none 0 none 0) rfl rfl rfl rfl builtP rfl rfl d11.z (by kernel_rfl) rfl (cells6 _ _ _ _ _) ?_)
          refine bodyPost_ret (results_row_tmp rfl _ _ w.heap.size 25 _ (0, 0) _ rfl (d11.z.setRow _) Try.underlying25 rfl (by kernel_rfl)) rfl ⟨noP, none, 0, none, 0, 3, rfl, noP_own _ _, (Just.setRow _ _ _).below d11.bb (Nat.le_refl _) d11.bb.size, .inr ⟨by decide, rfl, HNO.out⟩⟩
        · have hb2 : 24 < sz := hbad.resolve_left hb1
          have g1 : decide (sz < 1) = false := decide_eq_false hb1
          clear hbad hb1
          go_wp2_with (refine wpList_build_store (noP.vals none 0 none 0) rfl rfl rfl rfl builtP rfl rfl d11.z (by kernel_rfl) rfl (cells6 _ _ _ _ _) ?_)
          refine bodyPost_ret (results_row_tmp rfl _ _ w.heap.size 25 _ (0, 0) _ rfl (d11.z.setRow _) Try.underlying25 rfl (by kernel_rfl)) rfl ⟨noP, none, 0, none, 0, 3, rfl, noP_own _ _, (Just.setRow _ _ _).below d11.bb (Nat.le_refl _) d11.bb.size, .inr ⟨by decide, rfl, HNO.out⟩⟩
      obtain ⟨s, rfl, hs0, hs24⟩ := nat_of hbad
      have g1 : decide ((s : Int) < 1) = false := decide_eq_false (fun h => hbad (.inl h))
      have g2 : decide ((24 : Int) < (s : Int)) = false := decide_eq_false (fun h => hbad (.inr h))
      have g3 : decide (24 < s) = false := decide_eq_false (Nat.not_lt.2 hs24)
      have g4 : decide (s < 1) = false := decide_eq_false (Nat.not_lt.2 hs0)
      have g5 : decide (s = 0) = false := decide_eq_false (Nat.pos_iff_ne_zero.1 hs0)
      clear hbad
      go_wp2_with (go_at_call 47; refine (dtext base rb L (10 + h + 1) s _ d11.r hs0).mono ?_)
      rintro r w13 ⟨r13, j13, hcase⟩
      have hdb : w.heap.size + 1 ≤ w12.heap.size := d11.z.lt
      have o14 := j13.own o13 (d11.rd o13 (by decide))
      obtain ⟨rcs2, hro2⟩ := rb_own d11.r
      have m14 := mine_jst m13 hro2 (by decide) j13
      have d12 := d11.go r13 j13
      have k5 : w13.cell? ⟨g, 5, none⟩ = some (.slice none 0 0) := o14.cell 5
      have f5 : w13.frozen? ⟨g, 5, none⟩ = false := o14.free 5
      clear d11 o13 m13 r13 j13 hro2
      have hgz : g ≠ w.heap.size := fun e => Nat.lt_irrefl _ (e ▸ hg0)
      rcases hcase with ⟨hK, rfl, hblk⟩ | ⟨hK, rfl⟩
      · have n14 := mine_blk hblk hdb hs24
        have J5 := Just.set g w13 5 (.slice (some ⟨w12.heap.size, 0, none⟩) s s)
        have d13 := d12.put o14 (by decide) (by decide) hgz (Nat.le_of_lt hg0) 5 (.slice (some ⟨w12.heap.size, 0, none⟩) s s)
        have m15 := mine_jsg m14 o14 (by decide) J5
        have n15 := mine_jsg n14 o14 (by decide) J5
        have o15 : Lb.Own (w13.setCell ⟨g, 5, none⟩ (.slice (some ⟨w12.heap.size, 0, none⟩) s s)) g 25 #[.int .i64 f, .int .i64 t, .int .i64 (x : Int), .int .i64 lf, .slice (some ⟨pb, 0, none⟩) h h, .slice (some ⟨w12.heap.size, 0, none⟩) s s] := o14.put 5 _
        clear d12 m14 n14 hblk J5
        go_upto_region 20 with (fail)
        generalize w13.setCell ⟨g, 5, none⟩ (.slice (some ⟨w12.heap.size, 0, none⟩) s s) = w14 at *
        generalize w12.heap.size = db at *
        clear o14 k5 f5 g1 g2 g3 g4 g5
        have hend := dend base rb L (10 + h + 1 + s) w14 d13.r
        rw [if_neg (Nat.not_lt.2 hK)] at hend
        by_cases hE : L.length = 10 + h + 1 + s
        · rw [if_pos hE] at hend
          have HE := Lib.hid hE
          clear hE hK
          go_wp2_with (go_at_call 46; refine hend.mono ?_)
          rintro r w15 ⟨rfl, m15', rfl⟩
          have d14 := d13.drewN m15'
          have o16 := o15.drewN m15'
          have m16 := m15.drewN m15'
          have n16 := n15.drewN m15'
          clear d13 hend o15 m15 n15
          generalize w14.drewN m15' = w15 at *
          obtain ⟨P, hP⟩ : ∃ P, decP L x = P := ⟨_, rfl⟩
          obtain ⟨v1, v2, v3, v4, v5⟩ := decP_vals (L := L) (x := x) HF.out HT.out HLF.out HHP.out HSZ.out (len_of HE.out) (some ⟨pb, 0, none⟩) (some ⟨db, 0, none⟩) h s
          have hxx : bytesK x 6 = (L.drop 2).take 6 := HX.out.2 (low_of HE.out rfl)
          have HEN := Lib.hid (enc_dec hxx HHP.out HSZ.out (len_of HE.out))
          rw [hP] at v1 v2 v3 v4 v5 HEN
          have ow : P.Own w15 (w.heap.size + 1) (some ⟨pb, 0, none⟩) h (some ⟨db, 0, none⟩) s :=
            ⟨by rw [v1]; exact m16.ext (fun i hi => by rw [← v4 i hi]; unfold pv; rw [if_pos hi]), by rw [v2]; exact n16.ext (fun i hi => by rw [← v5 i hi, show 11 + h = 10 + h + 1 by rw [Nat.add_right_comm]])⟩
          have hmay := may_any P (some ⟨pb, 0, none⟩) h (some ⟨db, 0, none⟩) s w15 ow.at_
          rw [v3] at hmay
          have HM := Lib.hid hmay
          have one : (#[.int .i64 f, .int .i64 t, .int .i64 (x : Int), .int .i64 lf, .slice (some ⟨pb, 0, none⟩) h h, .slice (some ⟨db, 0, none⟩) s s] : Array Value).all (·.oneCell') = true := by rw [← v3]; exact cells6 _ _ _ _ _
          have ONE := Lib.hid one
          have HV3 := Lib.hid v3
          have c0 : w15.cell? ⟨g, 0, none⟩ = some (.int .i64 f) := o16.cell 0
          have c1 : w15.cell? ⟨g, 1, none⟩ = some (.int .i64 t) := o16.cell 1
          have c2 : w15.cell? ⟨g, 2, none⟩ = some (.int .i64 (x : Int)) := o16.cell 2
          have c3 : w15.cell? ⟨g, 3, none⟩ = some (.int .i64 lf) := o16.cell 3
          have c4 : w15.cell? ⟨g, 4, none⟩ = some (.slice (some ⟨pb, 0, none⟩) h h) := o16.cell 4
          have c5 : w15.cell? ⟨g, 5, none⟩ = some (.slice (some ⟨db, 0, none⟩) s s) := o16.cell 5
          clear v1 v2 v3 v4 v5 hmay one m16 n16
          cases hm : mayK P
          · have HNO := Lib.hid (no_may hxx HX.out.1 HHP.out HSZ.out (by rw [hP]; exact hm))
            rw [hm] at HM
            clear hm hP hxx
            go_wp2_with (go_at_call 17; refine HM.out.mono ?_)
            rintro r w16 ⟨rfl, b16⟩
            have d15 := d14.more b16
            clear d14 o16 ow c0 c1 c2 c3 c4 c5
            go_wp2_with (refine wpList_build_store (noP.vals none 0 none 0) rfl rfl rfl rfl builtP rfl rfl d15.z (by kernel_rfl) rfl (cells6 _ _ _ _ _) ?_)
            refine bodyPost_ret (results_row_tmp rfl _ _ w.heap.size 25 _ (0, 0) _ rfl (d15.z.setRow _) Try.underlying25 rfl (by kernel_rfl)) rfl ⟨noP, none, 0, none, 0, 3, rfl, noP_own _ _, (Just.setRow _ _ _).below d15.bb (Nat.le_refl _) d15.bb.size, .inr ⟨by decide, rfl, HNO.out⟩⟩
          · rw [hm] at HM
            have HMK := Lib.hid hm
            clear hm hP hxx
            go_wp2_with (go_at_call 17; refine HM.out.mono ?_)
            rintro r w16 ⟨rfl, b16⟩
            have d15 := d14.more b16
            have o17 := below_own b16 o16 o16.lt
            have ow2 := ow.below b16
            clear d14 o16 ow c0 c1 c2 c3 c4 c5
            go_upto_region 25 with (fail)
            refine wp_region_lit ?_
            refine wpList_load_row rfl 25 _ rfl g rfl 25 #[.int .i64 f, .int .i64 t, .int .i64 (x : Int), .int .i64 lf, .slice (some ⟨pb, 0, none⟩) h h, .slice (some ⟨db, 0, none⟩) s s] (0, 0) _ o17 Try.underlying25 rfl (by kernel_rfl) ?_
            refine wpList_store_row rfl 25 _ _ rfl w.heap.size #[.int .i64 f, .int .i64 t, .int .i64 (x : Int), .int .i64 lf, .slice (some ⟨pb, 0, none⟩) h h, .slice (some ⟨db, 0, none⟩) s s] rfl rfl 25 _ d15.z (by kernel_rfl) rfl ONE.out ?_
            go_wp2_with fail
            refine bodyPost_ret (results_row_tmp rfl _ _ w.heap.size 25 _ (0, 0) _ rfl (d15.z.setRow _) Try.underlying25 rfl (by kernel_rfl)) rfl ⟨P, some ⟨pb, 0, none⟩, h, some ⟨db, 0, none⟩, s, 0, by rw [HV3.out]; rfl, (ow2.setRow (Nat.lt_succ_self _) _).low (Nat.le_succ _), (Just.setRow _ _ _).below d15.bb (Nat.le_refl _) d15.bb.size, .inl ⟨rfl, HMK.out, HEN.out⟩⟩
        · rw [if_neg hE] at hend
          have HNO := Lib.hid (no_len2 HHP.out HSZ.out hE)
          clear hE hK
          go_wp2_with (go_at_call 46; refine hend.mono ?_)
          rintro r w15 ⟨rfl, m15', rfl⟩
          have d14 := d13.drewN m15'
          clear d13 hend o15 m15 n15
          go_wp2_with (first | (refine wpList_built (noP.vals none 0 none 0) rfl rfl builtP ?_) | (refine wpList_store_row rfl 25 _ _ rfl w.heap.size (noP.vals none 0 none 0) rfl rfl 25 _ d14.z (by kernel_rfl) rfl (cells6 _ _ _ _ _) ?_))
          refine bodyPost_ret (results_row_tmp rfl _ _ w.heap.size 25 _ (0, 0) _ rfl (d14.z.setRow _) Try.underlying25 rfl (by kernel_rfl)) rfl ⟨noP, none, 0, none, 0, 3, rfl, noP_own _ _, (Just.setRow _ _ _).below d14.bb (Nat.le_refl _) d14.bb.size, .inr ⟨by decide, rfl, HNO.out⟩⟩
      · have HNO := Lib.hid (no_len2 HHP.out HSZ.out (Nat.ne_of_lt hK))
        have d13 := d12.put o14 (by decide) (by decide) hgz (Nat.le_of_lt hg0) 5 (.slice none 0 0)
        clear d12 m14
        go_upto_region 20 with (fail)
        generalize w13.setCell ⟨g, 5, none⟩ (.slice none 0 0) = w14 at *
        clear o14 k5 f5 g1 g2 g3 g4 g5
        have hend := dend base rb L (10 + h + 1 + s) w14 d13.r
        rw [if_pos hK] at hend
        clear hK
        go_wp2_with (go_at_call 46; refine hend.mono ?_)
        rintro r w15 ⟨rfl, m15', rfl⟩
        have d14 := d13.drewN m15'
        clear d13 hend
        go_wp2_with (first | (refine wpList_built (noP.vals none 0 none 0) rfl rfl builtP ?_) | (refine wpList_store_row rfl 25 _ _ rfl w.heap.size (noP.vals none 0 none 0) rfl rfl 25 _ d14.z (by kernel_rfl) rfl (cells6 _ _ _ _ _) ?_))
        refine bodyPost_ret (results_row_tmp rfl _ _ w.heap.size 25 _ (0, 0) _ rfl (d14.z.setRow _) Try.underlying25 rfl (by kernel_rfl)) rfl ⟨noP, none, 0, none, 0, 2, rfl, noP_own _ _, (Just.setRow _ _ _).below d14.bb (Nat.le_refl _) d14.bb.size, .inr ⟨by decide, rfl, HNO.out⟩⟩
end Go.Proofs.Ytcpmnfoenpdaeaa.Rt
