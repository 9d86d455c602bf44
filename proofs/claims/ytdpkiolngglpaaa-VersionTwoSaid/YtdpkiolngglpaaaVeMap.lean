/-
  Rows as a map and as the reference's sixteen rows, however many (chapter 22's Map, as chapter 23 uses it).
-/
import Derived.Test.YtdpkiolngglpaaaAlMap
set_option maxRecDepth 100000
namespace Go.Proofs.Ytdpkiolngglpaaa.Al
set_option linter.unusedVariables false
set_option linter.unusedSimpArgs false
open Go.RowKit Lb Cl Ce Mi

structure RwM (w : World) (a : Option Addr) (n : Nat) (V : Nat → Value) (F : Nat → Rw) : Prop where
  row : Row w a (n * 2) V
  at_ : ∀ i, i < n → V (i * 2) = .int .i64 (F i).n ∧ V (i * 2 + 1) = .slice (F i).a (F i).l.length (F i).c
  ok : ∀ i, i < n → (F i).l.length ≤ (F i).c ∧ (F i).c ≤ maxLen ∧ Row w (F i).a ((F i).l.length * 5) (lv (F i).l)
theorem RwM.below {w w' : World} {a : Option Addr} {n : Nat} {V : Nat → Value} {F : Nat → Rw} (h : RwM w a n V F) (b : Below w.heap.size w w') : RwM w' a n V F :=
  ⟨h.row.below b, h.at_, fun i hi => ⟨(h.ok i hi).1, (h.ok i hi).2.1, (h.ok i hi).2.2.below b⟩⟩
set_option maxHeartbeats 4000000 in
theorem map_big (a : Option Addr) (n c : Nat) (V : Nat → Value) (F : Nat → Rw) (w : World) (hn : n ≤ c) (hc : c ≤ maxLen) (hF : RwM w a n V F) :
    Calls Try.prog 11 #[.slice a n c] w fun r w' => ∃ (bm : Nat) (M : List (Int × List C)) (A : Nat → Option Addr) (K : Nat → Nat) (o : Int), r = .returned (.tuple #[.map (some bm), .agg (d16 fun i => .slice (A i) (dealt M i).length (K i)), .int .i64 o]) ∧ w.heap.size ≤ bm ∧
      M.Perm (mk F n) ∧ MapL w' 0 bm (mk F n) ∧ Dl w' (dealt M) A K ∧ Below w.heap.size w w' := by
  unfold maxLen at hc
  have hcap : (n : Int) ≤ 9223372036854775807 := by omega
  have HF := Lib.hid hF
  clear hF
  go_enter Try.func11, Try.ntmps11
  have b1 := (Below.refl w.heap.size w).alloc (Nat.le_refl _) (.cells (d16 fun _ => .slice none 0 0) 36)
  have o1 : Blk (w.alloc (.cells (d16 fun _ => .slice none 0 0) 36)) w.heap.size 36 16 (fun _ => .slice none 0 0) := Own.new w 36 _
  go_upto_region 1 with (fail)
  change (Code.region _ _ _).wp _ _ _ (w.alloc (.cells (d16 fun _ => .slice none 0 0) 36))
  obtain ⟨r, hr⟩ : ∃ q, w.heap.size = q := ⟨_, rfl⟩
  have hsz : (w.alloc (.cells (d16 fun _ => .slice none 0 0) 36)).heap.size = r + 1 := by rw [← hr]; simp
  rw [hr] at o1 b1 ⊢
  generalize w.alloc (.cells (d16 fun _ => .slice none 0 0) 36) = w1 at *
  have hmk := map_make w1
  rw [hsz] at hmk
  have b2 := b1.alloc (by omega) (.map #[] 0)
  have o2 := o1.alloc (.map #[] 0)
  have m2 : MapL (w1.alloc (.map #[] 0)) 0 (r + 1) [] := by
    refine ⟨Nat.zero_le _, fun _ => undef, ?_, fun i hi => absurd hi (by simp)⟩
    have := heap_alloc_new w1 (.map #[] 0)
    rw [hsz] at this
    exact this
  go_upto_region 2 with (fail)
  generalize w1.alloc (.map #[] 0) = w2 at *
  clear hmk o1 b1 hsz
  clear w1
  have HR : Hid (∀ w', Below r w w' → RwM w' a n V F) := Lib.hid (fun w' b => ⟨HF.out.row.below (hr ▸ b), HF.out.at_, fun i hi => ⟨(HF.out.ok i hi).1, (HF.out.ok i hi).2.1, (HF.out.ok i hi).2.2.below (hr ▸ b)⟩⟩)
  have HR0 := Lib.hid hr
  clear hr
  go_wp2_with fail
  go_loopw [15] (fun i wr => ∃ k : Nat, i = .int .i64 k ∧ k ≤ n ∧ MapL wr 0 (r + 1) (mk F k) ∧ Below r w wr ∧ Blk wr r 36 16 (fun _ => .slice none 0 0)) (fun i _ => n - (intOf i).toNat)
  case atStart => exact ⟨0, rfl, by omega, m2, b2, o2⟩
  case round =>
    clear m2 b2 o2
    obtain ⟨k, rfl, hk, hm, bk, ok⟩ := hrel
    by_cases hlt : k < n
    · have hFk := HR.out wr bk
      obtain ⟨bo, off, rfl, hbo, hcs⟩ := hFk.row.at_struct (Below.refl _ _) hlt (by decide)
      obtain ⟨e0, e1⟩ := hFk.at_ k hlt
      obtain ⟨hm1, hm2, hm3⟩ := hFk.ok k hlt
      have d0 := (hcs 0 (by decide)).trans (congrArg some e0)
      have d1 := (hcs 1 (by decide)).trans (congrArg some e1)
      rw [Nat.add_zero] at d0
      have hmk : mk F (k + 1) = upd (mk F k) ((F k).n, (F k).l) := rfl
      obtain ⟨⟨qn, ql, qa, qc⟩, hq⟩ : ∃ q, F k = q := ⟨_, rfl⟩
      rw [hq] at d0 d1 hm1 hm2 hm3 hmk
      dsimp only at *
      have HM := Lib.hid hmk
      clear hcs e0 e1 hq hmk hFk
      have hbs : r ≤ wr.heap.size := HR0.out ▸ bk.size
      have bx := bk.alloc hbs (.cells #[.int .i64 qn, .slice qa ql.length qc] 67)
      have ox := ok.alloc (.cells #[.int .i64 qn, .slice qa ql.length qc] 67)
      have mx := hm.below ((Below.refl wr.heap.size wr).alloc (Nat.le_refl _) (.cells #[.int .i64 qn, .slice qa ql.length qc] 67))
      have oo := Own.new wr 67 #[.int .i64 qn, .slice qa ql.length qc]
      have rv : Rv (wr.alloc (.cells #[.int .i64 qn, .slice qa ql.length qc] 67)) 0 (.slice qa ql.length qc) ql := ⟨qa, qc, rfl, hm1, hm2, hm3.below ((Below.refl wr.heap.size wr).alloc (Nat.le_refl _) _), fun _ _ _ => Nat.zero_le _⟩
      have c0 : (wr.alloc (.cells #[.int .i64 qn, .slice qa ql.length qc] 67)).cell? ⟨wr.heap.size, 0, none⟩ = some (.int .i64 qn) := oo.cell 0
      have c1 : (wr.alloc (.cells #[.int .i64 qn, .slice qa ql.length qc] 67)).cell? ⟨wr.heap.size, 1, none⟩ = some (.slice qa ql.length qc) := oo.cell 1
      go_upto_region 5 with (fail)
      obtain ⟨g, hg⟩ : ∃ q, wr.heap.size = q := ⟨_, rfl⟩
      rw [hg] at c0 c1 ⊢
      generalize wr.alloc (.cells #[.int .i64 qn, .slice qa ql.length qc] 67) = wx at *
      clear hg d0 d1 hm bk ok oo hbs hbo hm3
      clear wr
      obtain ⟨wy, hy1, hy2, hy3, hy4⟩ := put_any (k := qn) mx rv
      have by_ := hy2.below bx (Nat.le_succ r) (HR0.out ▸ bx.size)
      have oy := hy2.blk ox (by omega)
      rw [← HM.out] at hy4
      go_wp2_with fail
      exact ⟨⟨k + 1, by simp, by omega, hy4, by_, oy⟩, by simp [intOf]; omega⟩
    · obtain rfl : k = n := by omega
      generalize wr = wm at *
      have g4 : decide ((k : Int) < (k : Int)) = false := by simp
      obtain ⟨vs, hM⟩ := map_src hm
      obtain ⟨L, hL⟩ : ∃ L, mk F k = L := ⟨_, rfl⟩
      rw [hL] at hM hm
      have HL := Lib.hid hL
      have HMM := Lib.hid hm
      have HBK := Lib.hid bk
      have hE : (ents L vs).toList.map (fun e => L.getD e.born (0, [])) = L := ents_map L vs
      obtain ⟨es, hes⟩ : ∃ q, ents L vs = q := ⟨_, rfl⟩
      obtain ⟨E, hEd⟩ : ∃ q : MapEntry → Int × List C, (fun e => L.getD e.born (0, [])) = q := ⟨_, rfl⟩
      rw [hes, hEd] at hM hE
      have HE := Lib.hid hE
      clear hL hm hes hEd hE
      obtain ⟨clock, hck⟩ : ∃ q, L.length = q := ⟨_, rfl⟩
      rw [hck] at hM
      clear hck
      have H := Lib.hid hM
      clear hM bk
      -- <A
      have b3 := (Below.refl wm.heap.size wm).alloc (Nat.le_refl _) (.cells (d16 fun _ => .slice none 0 0) 36)
      have ok3 := ok.alloc (.cells (d16 fun _ => .slice none 0 0) 36)
      have o3 : Blk (wm.alloc (.cells (d16 fun _ => .slice none 0 0) 36)) wm.heap.size 36 16 (fun _ => .slice none 0 0) := Own.new wm 36 _
      go_upto_region 8 with (fail)
      change (Code.region _ _ _).wp _ _ _ (wm.alloc (.cells (d16 fun _ => .slice none 0 0) 36))
      obtain ⟨d, hd⟩ : ∃ q, wm.heap.size = q := ⟨_, rfl⟩
      have hsz : (wm.alloc (.cells (d16 fun _ => .slice none 0 0) 36)).heap.size = d + 1 := by rw [← hd]; simp
      have hrd : r < d := by rw [← hd]; exact ok.lt
      rw [hd] at o3 b3 ⊢
      have HD := Lib.hid hd
      have hmapd : r + 1 < d := by rw [← hd]; exact iter_lt H.out.heap
      clear hd
      generalize wm.alloc (.cells (d16 fun _ => .slice none 0 0) 36) = w3 at *
      have hmap3 : w3.heap[r + 1]? = some (.map es clock) := (b3.block (r + 1) hmapd).trans H.out.heap
      have hrange := run_range_map (P := Try.prog) w3 32 3 33 (r + 1) es clock (by kernel_rfl) hmap3
      rw [hsz] at hrange
      have b4 := b3.alloc (by omega) (.mapIter (some (r + 1)) clock #[] clock)
      have ok4 := ok3.alloc (.mapIter (some (r + 1)) clock #[] clock)
      have o4 := o3.alloc (.mapIter (some (r + 1)) clock #[] clock)
      have hit0 : (w3.alloc (.mapIter (some (r + 1)) clock #[] clock)).heap[d + 1]? = some (.mapIter (some (r + 1)) clock #[] clock) := by rw [← hsz]; exact heap_alloc_new w3 _
      go_wp2_with fail
      generalize w3.alloc (.mapIter (some (r + 1)) clock #[] clock) = w4 at *
      clear hrange hmap3 b3 ok3 o3 hsz ok
      clear w3
      have hl0 : Dl wm (fun _ => []) (fun _ => none) (fun _ => 0) := ⟨fun x _ => Nat.le_refl _, fun x _ => Nat.zero_le _, fun x _ => Row.nil _ _ _⟩
      go_loopw [9] (fun o wz => ∃ (S : List MapEntry) (seen : Array Nat) (c0 : Nat) (A : Nat → Option Addr) (K : Nat → Nat), (∃ z : Int, o = .int .i64 z) ∧ wz.heap[d + 1]? = some (.mapIter (some (r + 1)) clock seen c0) ∧ clock ≤ c0 ∧ Hid ((S ++ (leftOf es seen).toList).Perm es.toList) ∧ Below d wm wz ∧ Blk wz r 36 16 (fun _ => .slice none 0 0) ∧ Blk wz d 36 16 (fun i => .slice (A i) (dealt (S.map E) i).length (K i)) ∧ Hid (Dl wm (dealt (S.map E)) A K)) (fun _ wz => stillTo es (d + 1) wz)
      case atStart => exact ⟨[], #[], clock, fun _ => none, fun _ => 0, ⟨0, rfl⟩, hit0, Nat.le_refl _, Lib.hid (by rw [left_all]; exact List.Perm.refl _), b4, ok4, o4, Lib.hid hl0⟩
      case round =>
        clear b4 ok4 o4 hit0 hl0
        obtain ⟨S, seen, c0, A, K, ⟨z0, rfl⟩, hit, hc0, HSL, bz, okz, oz, HDL⟩ := hrel
        have hst : stillTo es (d + 1) wr = (leftOf es seen).size := by unfold stillTo World.iterSeen; rw [hit]
        have hmap : wr.heap[r + 1]? = some (.map es clock) := (bz.block (r + 1) hmapd).trans H.out.heap
        have HST := Lib.hid hst
        clear hst
        go_wp2_with (at_next; refine wpList_next_raw rfl (.tmp 26) rfl (d + 1) (r + 1) clock c0 seen es clock rfl hit hmap H.out.old hc0 ?_ ?_)
        · intro hdone
          -- <B
          have hl0 : (leftOf es seen).toList = [] := by
            rw [← List.length_eq_zero_iff]
            simpa using hdone
          have hS := HSL.out
          rw [hl0, List.append_nil] at hS
          obtain ⟨M, hM⟩ : ∃ q, S.map E = q := ⟨_, rfl⟩
          have hMp : M.Perm L := by
            rw [← hM, ← HE.out]
            exact hS.map E
          rw [hM] at oz HDL
          have HMP := Lib.hid hMp
          clear hit hmap hdone hl0 hS hM HST HSL hMp
          obtain ⟨D, hD⟩ : ∃ q, dealt M = q := ⟨_, rfl⟩
          rw [hD] at oz HDL
          have HDD := Lib.hid hD
          clear hD
          go_wp2_with fail
          have c0 : wr.drew.cell? ⟨d, 0, none⟩ = some (.slice (A 0) (D 0).length (K 0)) := oz.cell (i := 0) (by decide)
          have c1 : wr.drew.cell? ⟨d, 1, none⟩ = some (.slice (A 1) (D 1).length (K 1)) := oz.cell (i := 1) (by decide)
          have c2 : wr.drew.cell? ⟨d, 2, none⟩ = some (.slice (A 2) (D 2).length (K 2)) := oz.cell (i := 2) (by decide)
          have c3 : wr.drew.cell? ⟨d, 3, none⟩ = some (.slice (A 3) (D 3).length (K 3)) := oz.cell (i := 3) (by decide)
          have c4 : wr.drew.cell? ⟨d, 4, none⟩ = some (.slice (A 4) (D 4).length (K 4)) := oz.cell (i := 4) (by decide)
          have c5 : wr.drew.cell? ⟨d, 5, none⟩ = some (.slice (A 5) (D 5).length (K 5)) := oz.cell (i := 5) (by decide)
          have c6 : wr.drew.cell? ⟨d, 6, none⟩ = some (.slice (A 6) (D 6).length (K 6)) := oz.cell (i := 6) (by decide)
          have c7 : wr.drew.cell? ⟨d, 7, none⟩ = some (.slice (A 7) (D 7).length (K 7)) := oz.cell (i := 7) (by decide)
          have c8 : wr.drew.cell? ⟨d, 8, none⟩ = some (.slice (A 8) (D 8).length (K 8)) := oz.cell (i := 8) (by decide)
          have c9 : wr.drew.cell? ⟨d, 9, none⟩ = some (.slice (A 9) (D 9).length (K 9)) := oz.cell (i := 9) (by decide)
          have c10 : wr.drew.cell? ⟨d, 10, none⟩ = some (.slice (A 10) (D 10).length (K 10)) := oz.cell (i := 10) (by decide)
          have c11 : wr.drew.cell? ⟨d, 11, none⟩ = some (.slice (A 11) (D 11).length (K 11)) := oz.cell (i := 11) (by decide)
          have c12 : wr.drew.cell? ⟨d, 12, none⟩ = some (.slice (A 12) (D 12).length (K 12)) := oz.cell (i := 12) (by decide)
          have c13 : wr.drew.cell? ⟨d, 13, none⟩ = some (.slice (A 13) (D 13).length (K 13)) := oz.cell (i := 13) (by decide)
          have c14 : wr.drew.cell? ⟨d, 14, none⟩ = some (.slice (A 14) (D 14).length (K 14)) := oz.cell (i := 14) (by decide)
          have c15 : wr.drew.cell? ⟨d, 15, none⟩ = some (.slice (A 15) (D 15).length (K 15)) := oz.cell (i := 15) (by decide)
          have p0 : wr.cell? ⟨r, 0, none⟩ = some (.slice none 0 0) := okz.cell (i := 0) (by decide)
          have f0 : wr.frozen? ⟨r, 0, none⟩ = false := okz.free 0
          have p1 : wr.cell? ⟨r, 1, none⟩ = some (.slice none 0 0) := okz.cell (i := 1) (by decide)
          have f1 : wr.frozen? ⟨r, 1, none⟩ = false := okz.free 1
          have p2 : wr.cell? ⟨r, 2, none⟩ = some (.slice none 0 0) := okz.cell (i := 2) (by decide)
          have f2 : wr.frozen? ⟨r, 2, none⟩ = false := okz.free 2
          have p3 : wr.cell? ⟨r, 3, none⟩ = some (.slice none 0 0) := okz.cell (i := 3) (by decide)
          have f3 : wr.frozen? ⟨r, 3, none⟩ = false := okz.free 3
          have p4 : wr.cell? ⟨r, 4, none⟩ = some (.slice none 0 0) := okz.cell (i := 4) (by decide)
          have f4 : wr.frozen? ⟨r, 4, none⟩ = false := okz.free 4
          have p5 : wr.cell? ⟨r, 5, none⟩ = some (.slice none 0 0) := okz.cell (i := 5) (by decide)
          have f5 : wr.frozen? ⟨r, 5, none⟩ = false := okz.free 5
          have p6 : wr.cell? ⟨r, 6, none⟩ = some (.slice none 0 0) := okz.cell (i := 6) (by decide)
          have f6 : wr.frozen? ⟨r, 6, none⟩ = false := okz.free 6
          have p7 : wr.cell? ⟨r, 7, none⟩ = some (.slice none 0 0) := okz.cell (i := 7) (by decide)
          have f7 : wr.frozen? ⟨r, 7, none⟩ = false := okz.free 7
          have p8 : wr.cell? ⟨r, 8, none⟩ = some (.slice none 0 0) := okz.cell (i := 8) (by decide)
          have f8 : wr.frozen? ⟨r, 8, none⟩ = false := okz.free 8
          have p9 : wr.cell? ⟨r, 9, none⟩ = some (.slice none 0 0) := okz.cell (i := 9) (by decide)
          have f9 : wr.frozen? ⟨r, 9, none⟩ = false := okz.free 9
          have p10 : wr.cell? ⟨r, 10, none⟩ = some (.slice none 0 0) := okz.cell (i := 10) (by decide)
          have f10 : wr.frozen? ⟨r, 10, none⟩ = false := okz.free 10
          have p11 : wr.cell? ⟨r, 11, none⟩ = some (.slice none 0 0) := okz.cell (i := 11) (by decide)
          have f11 : wr.frozen? ⟨r, 11, none⟩ = false := okz.free 11
          have p12 : wr.cell? ⟨r, 12, none⟩ = some (.slice none 0 0) := okz.cell (i := 12) (by decide)
          have f12 : wr.frozen? ⟨r, 12, none⟩ = false := okz.free 12
          have p13 : wr.cell? ⟨r, 13, none⟩ = some (.slice none 0 0) := okz.cell (i := 13) (by decide)
          have f13 : wr.frozen? ⟨r, 13, none⟩ = false := okz.free 13
          have p14 : wr.cell? ⟨r, 14, none⟩ = some (.slice none 0 0) := okz.cell (i := 14) (by decide)
          have f14 : wr.frozen? ⟨r, 14, none⟩ = false := okz.free 14
          have p15 : wr.cell? ⟨r, 15, none⟩ = some (.slice none 0 0) := okz.cell (i := 15) (by decide)
          have f15 : wr.frozen? ⟨r, 15, none⟩ = false := okz.free 15
          have o9 := ((((((((((((((((okz.put 0 (.slice (A 0) (D 0).length (K 0))).put 1 (.slice (A 1) (D 1).length (K 1))).put 2 (.slice (A 2) (D 2).length (K 2))).put 3 (.slice (A 3) (D 3).length (K 3))).put 4 (.slice (A 4) (D 4).length (K 4))).put 5 (.slice (A 5) (D 5).length (K 5))).put 6 (.slice (A 6) (D 6).length (K 6))).put 7 (.slice (A 7) (D 7).length (K 7))).put 8 (.slice (A 8) (D 8).length (K 8))).put 9 (.slice (A 9) (D 9).length (K 9))).put 10 (.slice (A 10) (D 10).length (K 10))).put 11 (.slice (A 11) (D 11).length (K 11))).put 12 (.slice (A 12) (D 12).length (K 12))).put 13 (.slice (A 13) (D 13).length (K 13))).put 14 (.slice (A 14) (D 14).length (K 14))).put 15 (.slice (A 15) (D 15).length (K 15)))
          have j9 := (((((((((((((((((Just.refl r wr).put 0 (.slice (A 0) (D 0).length (K 0))).put 1 (.slice (A 1) (D 1).length (K 1))).put 2 (.slice (A 2) (D 2).length (K 2))).put 3 (.slice (A 3) (D 3).length (K 3))).put 4 (.slice (A 4) (D 4).length (K 4))).put 5 (.slice (A 5) (D 5).length (K 5))).put 6 (.slice (A 6) (D 6).length (K 6))).put 7 (.slice (A 7) (D 7).length (K 7))).put 8 (.slice (A 8) (D 8).length (K 8))).put 9 (.slice (A 9) (D 9).length (K 9))).put 10 (.slice (A 10) (D 10).length (K 10))).put 11 (.slice (A 11) (D 11).length (K 11))).put 12 (.slice (A 12) (D 12).length (K 12))).put 13 (.slice (A 13) (D 13).length (K 13))).put 14 (.slice (A 14) (D 14).length (K 14))).put 15 (.slice (A 15) (D 15).length (K 15)))
          go_region
          generalize ((((((((((((((((wr).setCell ⟨r, 0, none⟩ (.slice (A 0) (D 0).length (K 0))).setCell ⟨r, 1, none⟩ (.slice (A 1) (D 1).length (K 1))).setCell ⟨r, 2, none⟩ (.slice (A 2) (D 2).length (K 2))).setCell ⟨r, 3, none⟩ (.slice (A 3) (D 3).length (K 3))).setCell ⟨r, 4, none⟩ (.slice (A 4) (D 4).length (K 4))).setCell ⟨r, 5, none⟩ (.slice (A 5) (D 5).length (K 5))).setCell ⟨r, 6, none⟩ (.slice (A 6) (D 6).length (K 6))).setCell ⟨r, 7, none⟩ (.slice (A 7) (D 7).length (K 7))).setCell ⟨r, 8, none⟩ (.slice (A 8) (D 8).length (K 8))).setCell ⟨r, 9, none⟩ (.slice (A 9) (D 9).length (K 9))).setCell ⟨r, 10, none⟩ (.slice (A 10) (D 10).length (K 10))).setCell ⟨r, 11, none⟩ (.slice (A 11) (D 11).length (K 11))).setCell ⟨r, 12, none⟩ (.slice (A 12) (D 12).length (K 12))).setCell ⟨r, 13, none⟩ (.slice (A 13) (D 13).length (K 13))).setCell ⟨r, 14, none⟩ (.slice (A 14) (D 14).length (K 14))).setCell ⟨r, 15, none⟩ (.slice (A 15) (D 15).length (K 15)) = w9 at *
          have o9' : Blk w9 r 36 16 (fun i => .slice (A i) (D i).length (K i)) := o9.ext (fun i hi => by
            rcases idx16 i hi with rfl | rfl | rfl | rfl | rfl | rfl | rfl | rfl | rfl | rfl | rfl | rfl | rfl | rfl | rfl | rfl <;> rfl)
          have o9' := own16 o9'
          have hni : NoInt wr r := noInt_of okz (fun i hi z h => by cases h)
          go_wp2_with fail
          have hrw : r < wr.heap.size := okz.lt
          have b10 : Below r wr w9.drew := below_drewN (j9.below (Below.refl _ _) (Nat.le_refl _) (by omega)) 1
          have bD : Below wm.heap.size wm wr := by rw [HD.out]; exact bz
          have bE : Below w9.heap.size w9 w9.drew := below_drewN (Below.refl _ _) 1
          refine bodyPost_ret (results_tmp_row_tmp rfl _ _ r 36 _ (0, 0) _ rfl (o9'.drewN 1) Try.underlying36 rfl (by kernel_rfl)) rfl ⟨r + 1, M, A, K, z0, ?_, ?_, ?_, ?_, ?_, ?_⟩
          · rw [HDD.out]; rfl
          · rw [HR0.out]; exact Nat.le_succ r
          · rw [HL.out]; exact HMP.out
          · rw [HL.out]
            exact (mapL_apart (HMM.out.below bD) hni (by omega) j9).below bE
          · rw [HDD.out]
            exact ((HDL.out.below bD).apart hni j9).below bE
          · rw [HR0.out]
            exact HBK.out.trans ((bz.mono (by omega)).trans b10)
          -- B>
        · intro e he w5 hit5 j5
          -- <C
          have he := Array.mem_toList_iff.2 he
          obtain ⟨hme, _⟩ := mem_left he
          have hstep := left_step H.out.nd he
          have hdw : d + 1 < wr.heap.size := iter_lt hit
          have hmap5 : w5.heap[r + 1]? = some (.map es clock) := (j5.block (r + 1) (iter_lt hmap) (by omega)).trans hmap
          have hen := run_entry_at (P := Try.prog) w5 (d + 1) (r + 1) clock seen es clock e hit5 hmap5 hme H.out.nd
          obtain ⟨ea, ec, hv, hln, hlc, hrow⟩ := H.out.val e hme
          rw [H.out.key e hme, hv] at hen ⊢
          obtain ⟨nd, hnd⟩ : ∃ q, (E e).1 = q := ⟨_, rfl⟩
          obtain ⟨l, hl⟩ : ∃ q, (E e).2 = q := ⟨_, rfl⟩
          have HEE : Hid (E e = (nd, l)) := Lib.hid (by rw [← hnd, ← hl])
          rw [hl] at hln hrow hen ⊢
          rw [hnd] at hen ⊢
          have HRW := Lib.hid hrow
          have HSH := Lib.hid (left_shrinks es seen e he)
          have hstep2 : Hid (((S ++ [e]) ++ (leftOf es (seen.push e.born)).toList).Perm es.toList) := Lib.hid (by
            rw [List.append_assoc, List.singleton_append]
            exact (hstep.append_left S).trans HSL.out)
          have HSN : Hid ((S ++ [e]).map E = S.map E ++ [(nd, l)]) := Lib.hid (by rw [List.map_append, List.map_singleton, HEE.out])
          have b5 : Below d wm w5 := j5.below bz (by omega) (by omega)
          have ok5 := j5.blk okz (by omega)
          have o5 := j5.blk oz (by omega)
          clear hrow hv hnd hl hit hmap j5 bz okz oz hstep HSL hdw
          obtain ⟨T, hTT⟩ : ∃ q, S.map E = q := ⟨_, rfl⟩
          rw [hTT] at o5 HDL HSN
          have HTT := Lib.hid hTT
          clear hTT
          unfold maxLen at hlc
          obtain ⟨m, hm⟩ : ∃ q, l.length = q := ⟨_, rfl⟩
          rw [hm] at hen hln
          have HM := Lib.hid hm
          clear hm
          have hm63 : (m : Int) ≤ 9223372036854775807 := by omega
          cases hb : ndB nd
          · have HB := Lib.hid hb
            have hDE : Hid (∀ i, i < 16 → dealt (T ++ [(nd, l)]) i = dealt T i) := Lib.hid (fun i hi => by
              rw [dealt_snoc, if_neg]
              intro h
              dsimp only at h
              rw [h] at hb
              unfold ndB at hb
              simp at hb
              omega)
            clear hb
            go_wp2_with (go_at_call 34; refine (ref_node nd _).mono ?_; rintro q w6 ⟨rfl, rfl⟩; rw [HB.out])
            refine ⟨⟨S ++ [e], seen.push e.born, clock, A, K, ?_, hit5, Nat.le_refl _, hstep2, b5, ok5, o5.ext (fun i hi => by rw [HSN.out, hDE.out i hi]), Lib.hid ?_⟩, ?_⟩
            · exact ⟨_, rfl⟩
            · rw [HSN.out]
              exact ⟨fun x hx => by rw [hDE.out x hx]; exact HDL.out.le x hx, fun x hx => HDL.out.cap x hx, fun x hx => by rw [hDE.out x hx]; exact HDL.out.row x hx⟩
            · rw [HST.out]
              unfold stillTo World.iterSeen
              rw [hit5]
              exact HSH.out
          · have HB := Lib.hid hb
            obtain ⟨q, hq, rfl⟩ := nd_nat hb
            have g1 : (0 : Int) ≤ (q : Int) := by omega
            have g2 : (q : Int) < 16 := by omega
            have f1 : w5.cell? ⟨d, q, none⟩ = some (.slice (A q) (dealt T q).length (K q)) := o5.cell hq
            have f2 : w5.frozen? ⟨d, q, none⟩ = false := o5.free q
            have hDE : Hid (∀ i, dealt (T ++ [((q : Int), l)]) i = if i = q then l else dealt T i) := Lib.hid (fun i => by
              rw [dealt_snoc]
              dsimp only
              by_cases h : i = q
              · rw [if_pos h, if_pos (by rw [h])]
              · rw [if_neg h, if_neg (by omega)])
            have o6 := o5.put q (.slice ea m ec)
            have j6 := Just.set d w5 q (.slice ea m ec)
            have ok6 := j6.blk ok5 (by omega)
            have b6 := j6.below b5 (Nat.le_refl d) (by have := iter_lt hit5; omega)
            have hit6 := (j6.block (d + 1) (iter_lt hit5) (by omega)).trans hit5
            clear hb o5 ok5 b5 j6
            go_wp2_with (go_at_call 34; refine (ref_node (q : Int) _).mono ?_; rintro q w6 ⟨rfl, rfl⟩; rw [HB.out])
            refine ⟨⟨S ++ [e], seen.push e.born, clock, fun i => if i = q then ea else A i, fun i => if i = q then ec else K i, ?_, hit6, Nat.le_refl _, hstep2, b6, ok6, o6.ext (fun i hi => ?_), Lib.hid ?_⟩, ?_⟩
            · exact ⟨_, rfl⟩
            · rw [HSN.out, hDE.out i]
              by_cases h : i = q
              · simp only [if_pos h, HM.out]
              · simp only [if_neg h]
            · rw [HSN.out]
              refine ⟨fun x hx => ?_, fun x hx => ?_, fun x hx => ?_⟩
              · rw [hDE.out x]
                by_cases h : x = q
                · simp only [if_pos h]; rw [HM.out]; exact hln
                · simp only [if_neg h]; exact HDL.out.le x hx
              · by_cases h : x = q
                · simp only [if_pos h]; exact hlc
                · simp only [if_neg h]; exact HDL.out.cap x hx
              · rw [hDE.out x]
                by_cases h : x = q
                · simp only [if_pos h]; exact HRW.out
                · simp only [if_neg h]; exact HDL.out.row x hx
            · rw [HST.out]
              unfold stillTo World.iterSeen
              rw [hit6]
              exact HSH.out
          -- C>
      -- A>
end Go.Proofs.Ytdpkiolngglpaaa.Al
