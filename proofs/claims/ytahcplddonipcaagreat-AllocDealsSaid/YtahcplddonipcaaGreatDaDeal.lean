/-
  The reference's Deal (chapter 22): the walk, numbers that may not be asked for, both Deals alike.
-/
import Derived.Test.YtahcplddonipcaaGreatDaLink
import Derived.Test.YtahcplddonipcaaGreatAlDeal
import Derived.Test.YtahcplddonipcaaGreatDaSort
import Derived.Test.YtahcplddonipcaaGreatDaKit
import Derived.Test.YtahcplddonipcaaGreatDaTree
import Derived.Deep.CutBlock
import Derived.Test.YtahcplddonipcaaGreatAlDeal2
import Derived.Deep.Cut
import Derived.Deep.CutRange
import Derived.Test.YtahcplddonipcaaGreatTrOrder
set_option linter.unusedSimpArgs false
set_option maxRecDepth 100000
namespace Go.Proofs.YtahcplddonipcaaGreat.Al
set_option linter.unusedVariables false
open Go.RowKit Lb Cl Ce Mi Tp Tr

def rdz : Array Value := (List.replicate 16 (Value.slice none 0 0)).toArray
def noz : Array Value := (List.replicate 16 (Value.bool false)).toArray
theorem noz_built : Tryz.prog.built 78 [] = some noz := by kernel_rfl
theorem rdz_info : (Tryz.prog.info? 37).map (fun i => (i.zero, i.size)) = some (some (.agg rdz), rdz.size) := by kernel_rfl
def c16 (S : Nat → Value) : Array Value := #[S 0, S 1, S 2, S 3, S 4, S 5, S 6, S 7, S 8, S 9, S 10, S 11, S 12, S 13, S 14, S 15]
theorem c16_own {w : World} {b : Nat} {t : TypeId} {S : Nat → Value} (h : Blk w b t 16 S) : Own w b t (c16 S) := by
  have e : Array.ofFn (n := 16) (fun i => S i) = c16 S := rfl
  exact e ▸ h
theorem c16_blk {w : World} {b : Nat} {t : TypeId} {S : Nat → Value} (h : Own w b t (c16 S)) : Blk w b t 16 S := by
  have e : Array.ofFn (n := 16) (fun i => S i) = c16 S := rfl
  unfold Blk
  rw [e]
  exact h
theorem c16_one {S : Nat → Value} (h : ∀ k, k < 16 → (S k).oneCell' = true) : (c16 S).all (·.oneCell') = true := by
  unfold c16
  simp [h 0 (by decide), h 1 (by decide), h 2 (by decide), h 3 (by decide), h 4 (by decide), h 5 (by decide), h 6 (by decide), h 7 (by decide), h 8 (by decide), h 9 (by decide), h 10 (by decide), h 11 (by decide), h 12 (by decide), h 13 (by decide), h 14 (by decide), h 15 (by decide)]
theorem Rows16.one {w : World} {lo : Nat} {vs : Nat → Value} {F : Hs} (h : Rows16 w lo vs F) : (c16 vs).all (·.oneCell') = true := c16_one fun k hk => by
  obtain ⟨a, c, e, _⟩ := (h.row k hk).row
  rw [e]
  rfl
/-- What lay below lo is as it was, but for blocks a and b. -/
structure J2 (lo a b : Nat) (w w' : World) : Prop where
  size : w.heap.size ≤ w'.heap.size
  os : w'.os = w.os
  tape : w'.tape = w.tape
  output : w'.output = w.output
  block : ∀ k, k < lo → k ≠ a → k ≠ b → w'.heap[k]? = w.heap[k]?
theorem J2.refl (lo a b : Nat) (w : World) : J2 lo a b w w := ⟨Nat.le_refl _, rfl, rfl, rfl, fun _ _ _ _ => rfl⟩
theorem J2.trans {lo a b : Nat} {u v w : World} (h : J2 lo a b u v) (k : J2 lo a b v w) : J2 lo a b u w := ⟨Nat.le_trans h.size k.size, k.os.trans h.os, k.tape.trans h.tape, k.output.trans h.output, fun i hi ha hb => (k.block i hi ha hb).trans (h.block i hi ha hb)⟩
theorem J2.of_below {lo a b : Nat} {w w' : World} (h : Below w.heap.size w w') (hl : lo ≤ w.heap.size) : J2 lo a b w w' := ⟨h.size, h.os, h.tape, h.output, fun k hk _ _ => h.block k (by omega)⟩
theorem J2.of_jb {lo a b : Nat} {w w' : World} (h : Jb lo a w w') (hl : lo ≤ w.heap.size) : J2 lo a b w w' := ⟨h.size, h.os, h.tape, h.output, fun k hk ha _ => h.block k (by omega) ha (.inl hk)⟩
theorem J2.of_a {lo a b : Nat} {w w' : World} (h : Just a w w') (hl : lo ≤ w.heap.size) : J2 lo a b w w' := ⟨h.size, h.os, h.tape, h.output, fun k hk ha _ => h.block k (by omega) ha⟩
theorem J2.of_b {lo a b : Nat} {w w' : World} (h : Just b w w') (hl : lo ≤ w.heap.size) : J2 lo a b w w' := ⟨h.size, h.os, h.tape, h.output, fun k hk _ hb => h.block k (by omega) hb⟩
theorem J2.of_grown {lo a b : Nat} {w w' : World} {row : Option Nat} (h : w.grownBy w' row) (hr : ∀ q, row = some q → lo ≤ q) (hl : lo ≤ w.heap.size) : J2 lo a b w w' := by
  have b : Below lo w w' := (Below.refl lo w).grown h hl hr
  exact ⟨b.size, b.os, b.tape, b.output, fun k hk _ _ => b.block k hk⟩
theorem J2.below {lo a b B : Nat} {w w' : World} (h : J2 lo a b w w') (hB : B ≤ lo) (ha : B ≤ a) (hb : B ≤ b) : Below B w w' := ⟨h.os, h.tape, h.output, h.size, fun k hk => h.block k (by omega) (by omega) (by omega)⟩
theorem J2.own {lo a b k : Nat} {t : TypeId} {cs : Array Value} {w w' : World} (h : J2 lo a b w w') (o : Own w k t cs) (hk : k < lo) (ha : k ≠ a) (hb : k ≠ b) : Own w' k t cs := (h.block k hk ha hb).trans o
theorem J2.row {lo a b n : Nat} {w w' : World} {A : Option Addr} {V : Nat → Value} (j : J2 lo a b w w') (h : Row w A n V) (hl : 0 < n → ∀ q, A.map Addr.block = some q → q < lo ∧ q ≠ a ∧ q ≠ b) : Row w' A n V := by
  intro hn
  obtain ⟨q, off, e1, e2, e3⟩ := h hn
  obtain ⟨h1, h2, h3⟩ := hl hn q (by rw [e1]; rfl)
  refine ⟨q, off, e1, Nat.lt_of_lt_of_le e2 j.size, fun i hi => ?_⟩
  have := j.block q h1 h2 h3
  have h6 := e3 i hi
  unfold World.cell? at h6 ⊢
  rw [← h6, this]
theorem jb_own {lo bm k : Nat} {t : TypeId} {cs : Array Value} {w w' : World} (h : Jb lo bm w w') (o : Own w k t cs) (ht : t ≠ 50) (hk : k ≠ bm) : Own w' k t cs := (h.block k o.lt hk (.inr (fun ds o2 => ht (own_type o o2)))).trans o
theorem jb_blk {lo bm k n : Nat} {t : TypeId} {V : Nat → Value} {w w' : World} (h : Jb lo bm w w') (o : Blk w k t n V) (ht : t ≠ 50) (hk : k ≠ bm) : Blk w' k t n V := jb_own h o ht hk
theorem grown_blk {w w' : World} {lo k n m : Nat} {t : TypeId} {u : Value} {V U : Nat → Value} (g : w.grownBy w' u.ownBlock) (mu : Mine w lo 3 u m U) (o : Blk w k t n V) (ht : t ≠ 3) : Blk w' k t n V := grown_own g o (fun e => by
  obtain ⟨_, ds, o2⟩ := owns_at mu e
  exact ht (own_type o o2))
theorem rows_kept {w w' : World} {lo : Nat} {vs : Nat → Value} {F : Hs} (h : Rows16 w lo vs F) (hc : ∀ k cs, Own w k 50 cs → w'.heap[k]? = w.heap[k]?) : Rows16 w' lo vs F := ⟨fun k hk => (h.row k hk).kept (fun q _ => by
  by_cases e : (vs k).ownBlock = some q
  · obtain ⟨_, cs, o⟩ := owns_at (h.row k hk) e
    exact .inl (hc q cs o)
  · exact .inr e), h.apart⟩
theorem rd_kept {w w' : World} {lo db : Nat} {vs : Nat → Value} {F : Hs} (h : Rd w lo db vs F) (hs : w.heap.size ≤ w'.heap.size) (hd : w'.heap[db]? = w.heap[db]?) (hc : ∀ k cs, Own w k 50 cs → w'.heap[k]? = w.heap[k]?) : Rd w' lo db vs F := ⟨hd.trans h.blk, rows_kept h.rows hc, h.few, Nat.le_trans h.le hs⟩
theorem just_ct {w w' : World} {g : Nat} {t : TypeId} {cs : Array Value} (j : Just g w w') (o : Own w g t cs) (ht : t ≠ 50) : ∀ k ds, Own w k 50 ds → w'.heap[k]? = w.heap[k]? := fun k ds o2 => j.block k o2.lt (fun e => by
  subst e
  exact ht (own_type o o2))
theorem just_it {w w' : World} {g : Nat} {t : TypeId} {cs : Array Value} (j : Just g w w') (o : Own w g t cs) (ht : t ≠ 3) : ∀ k ds, Own w k 3 ds → w'.heap[k]? = w.heap[k]? := fun k ds o2 => j.block k o2.lt (fun e => by
  subst e
  exact ht (own_type o o2))
/-- A block that is no cells and not the table was stored into. -/
theorem rd_just {w w' : World} {lo db g : Nat} {t : TypeId} {cs : Array Value} {vs : Nat → Value} {F : Hs} (h : Rd w lo db vs F) (j : Just g w w') (o : Own w g t cs) (ht : t ≠ 50) (hg : db ≠ g) : Rd w' lo db vs F := rd_kept h j.size (j.block db h.blk.lt hg) (just_ct j o ht)
theorem mine_it {w w' : World} {lo n : Nat} {u : Value} {V : Nat → Value} (h : Mine w lo 3 u n V) (hc : ∀ k cs, Own w k 3 cs → w'.heap[k]? = w.heap[k]?) : Mine w' lo 3 u n V := h.kept (fun q _ => by
  by_cases e : u.ownBlock = some q
  · obtain ⟨_, cs, o⟩ := owns_at h e
    exact .inl (hc q cs o)
  · exact .inr e)
theorem rd_grown {w w' : World} {lo db n : Nat} {vs : Nat → Value} {F : Hs} {u : Value} {V : Nat → Value} (h : Rd w lo db vs F) (m : Mine w lo 3 u n V) (g : w.grownBy w' u.ownBlock) : Rd w' lo db vs F := by
  have hne : ∀ q t cs, Own w q t cs → t ≠ 3 → q < w.heap.size ∧ w'.heap[q]? = w.heap[q]? := fun q t cs o ht => ⟨o.lt, g.block q o.lt (fun e => by
    obtain ⟨_, ds, o2⟩ := owns_at m e.symm
    exact ht (own_type o o2))⟩
  exact rd_kept h g.size (hne db _ _ (c16_own h.blk) (by decide)).2 (fun k cs o => (hne k _ _ o (by decide)).2)
/-- The table is put back. -/
theorem rd_back {w : World} {lo db : Nat} {us vs : Nat → Value} {F : Hs} (hb : Blk w db 37 16 us) (hr : Rows16 w lo vs F) (hf : ∀ k, (F k).length ≤ 64) (hl : lo ≤ w.heap.size) : Rd (w.setRow db (c16 vs)) lo db vs F :=
  ⟨c16_blk ((c16_own hb).setRow _), rows_kept hr (just_ct (Just.setRow db w _) (c16_own hb) rd_ne), hf, Nat.le_trans hl (Just.setRow db w _).size⟩
/-- Row k was put in order in new memory, and is stored. -/
theorem rd_sort {w w' : World} {lo db k : Nat} {vs : Nat → Value} {F : Hs} {v : Value} {l : List C} (h : Rd w lo db vs F) (m : MineK w' w.heap.size 50 5 v (F k).length (lv l)) (hl : l.length = (F k).length) (b : Below w.heap.size w w') : Rd (w'.setCell ⟨db, k, none⟩ v) lo db (fun j => if j = k then v else vs j) (fun j => if j = k then l else F j) := by
  have hB := h.below b
  have j7 := Just.set db w' k v
  have rows : Rows16 w' lo (fun j => if j = k then v else vs j) (fun j => if j = k then l else F j) := by
    refine ⟨fun j hj => ?_, fun i j hi hj hij q => ?_⟩
    · by_cases e : j = k
      · simp only [if_pos e]
        rw [hl]
        exact mk_low m h.le
      · simp only [if_neg e]
        exact hB.rows.row j hj
    · have hnew : ∀ z, z < 16 → ∀ q, v.ownBlock = some q → (vs z).ownBlock ≠ some q := fun z hz q hq hz2 => by
        have h1 := ((h.rows.row z hz).lt q hz2).2
        have h2 := (m.lt q hq).1
        omega
      by_cases e1 : i = k
      · have e2 : ¬ j = k := fun y => hij (e1.trans y.symm)
        simp only [if_pos e1, if_neg e2]
        exact hnew j hj q
      · by_cases e2 : j = k
        · simp only [if_neg e1, if_pos e2]
          exact fun a b => hnew i hi q b a
        · simp only [if_neg e1, if_neg e2]
          exact hB.rows.apart i j hi hj hij q
  exact ⟨(hB.blk.put k v).ext (fun i _ => rfl), rows_kept rows (just_ct j7 (c16_own hB.blk) rd_ne), fun j => by
    by_cases e : j = k
    · simp only [if_pos e]
      rw [hl]
      exact h.few k
    · simp only [if_neg e]
      exact h.few j, Nat.le_trans hB.le j7.size⟩
/-- The nodes below k that got nothing. -/
def nonK (L : List Nat) (k : Nat) : List Nat := (List.range k).filter fun n => decide (n ∈ L)
theorem nonK_next (L : List Nat) (k : Nat) : nonK L (k + 1) = nonK L k ++ if k ∈ L then [k] else [] := by
  unfold nonK
  rw [List.range_succ, List.filter_append, List.filter_cons, List.filter_nil]
  by_cases h : k ∈ L
  · rw [if_pos (by simpa using h), if_pos h]
  · rw [if_neg (by simpa using h), if_neg h]
theorem nonK_len (L : List Nat) (k : Nat) : (nonK L k).length ≤ k := by
  unfold nonK
  exact Nat.le_trans (List.length_filter_le _ _) (by simp)
def srtK (F : Hs) (k : Nat) : Hs := fun j => if j < k then srtU (F j) else F j
theorem srtK_zero (F : Hs) : srtK F 0 = F := by
  funext j
  exact if_neg (Nat.not_lt_zero j)
theorem srtK_at (F : Hs) (k : Nat) : srtK F k k = F k := if_neg (Nat.lt_irrefl k)
theorem srtK_next (F : Hs) (k : Nat) : (fun j => if j = k then srtU (F k) else srtK F k j) = srtK F (k + 1) := by
  funext j
  unfold srtK
  by_cases e : j = k
  · subst e
    simp
  · rw [if_neg e]
    by_cases h : j < k
    · rw [if_pos h, if_pos (by omega)]
    · rw [if_neg h, if_neg (by omega)]
theorem srtK_end (F : Hs) {j : Nat} (hj : j < 16) : srtK F 16 j = srtU (F j) := if_pos hj
/-- The marks, once x is marked. -/
theorem mark_next {w : World} {nb x : Nat} {L : List Nat} (h : Blk w nb 78 16 (fun i => .bool (decide (i ∈ L)))) : Blk (w.setCell ⟨nb, x, none⟩ (.bool true)) nb 78 16 (fun i => .bool (decide (i ∈ L ++ [x]))) := (h.put x (.bool true)).ext (fun i _ => by
  by_cases e : i = x
  · subst e
    simp
  · simp [e])
/-- The table is put back, and x marked. -/
theorem rd_undo {w : World} {lo db nb x : Nat} {us vs : Nat → Value} {F : Hs} {L : List Nat} (hb : Blk w db 37 16 us) (hr : Rows16 w lo vs F) (hf : ∀ k, (F k).length ≤ 64) (hl : lo ≤ w.heap.size) (N : Blk w nb 78 16 (fun i => .bool (decide (i ∈ L)))) (hne : nb ≠ db) (hx : x < 16) :
    (w.setRow db (c16 vs)).cell? ⟨nb, x, none⟩ = some (.bool (decide (x ∈ L))) ∧ (w.setRow db (c16 vs)).frozen? ⟨nb, x, none⟩ = false ∧ Rd ((w.setRow db (c16 vs)).setCell ⟨nb, x, none⟩ (.bool true)) lo db vs F ∧ Blk ((w.setRow db (c16 vs)).setCell ⟨nb, x, none⟩ (.bool true)) nb 78 16 (fun i => .bool (decide (i ∈ L ++ [x]))) ∧ J2 lo db nb w ((w.setRow db (c16 vs)).setCell ⟨nb, x, none⟩ (.bool true)) := by
  have j1 := Just.setRow db w (c16 vs)
  have N1 := j1.blk N hne
  have D1 := rd_back hb hr hf hl
  have j2 := Just.set nb (w.setRow db (c16 vs)) x (.bool true)
  exact ⟨N1.cell hx, N1.free x, rd_just D1 j2 N1 (by decide) (fun e => hne e.symm), mark_next N1, (J2.of_a j1 hl).trans (J2.of_b j2 (Nat.le_trans hl j1.size))⟩
end Go.Proofs.YtahcplddonipcaaGreat.Al
set_option maxRecDepth 100000
namespace Go.Proofs.YtahcplddonipcaaGreat.Al
set_option linter.unusedVariables false
open Go.RowKit Lb Cl Ce Mi Tp Tr

theorem noz_info : (Tryz.prog.info? 78).map (fun i => (i.zero, i.size)) = some (some (.agg noz), noz.size) := by kernel_rfl
theorem noz_one : noz.all (·.oneCell') = true := by kernel_rfl
/-- What the reference's Deal tells. -/
def RDealPost (f : Int) (len chans : Nat) (par : Nat → Nat) (ord : List Nat) (w : World) (r : Ending) (w' : World) : Prop := ∃ vs A c, r = .returned (.tuple #[.agg (c16 vs), .slice A (nonK (dealF f len chans par ord).2 16).length c]) ∧
  (∀ k, k < 16 → ∃ a c, vs k = .slice a ((dealF f len chans par ord).1 k).length c ∧ ((dealF f len chans par ord).1 k).length ≤ c ∧ c ≤ maxLen ∧ Row w' a (((dealF f len chans par ord).1 k).length * 5) (lv (srtU ((dealF f len chans par ord).1 k)))) ∧
  (nonK (dealF f len chans par ord).2 16).length ≤ c ∧ c ≤ maxLen ∧ Row w' A (nonK (dealF f len chans par ord).2 16).length (ln (nonK (dealF f len chans par ord).2 16)) ∧ Below w.heap.size w w'
set_option maxHeartbeats 8000000 in
theorem rdeal_any (t : Nat) (R : Rk) (P : Nat → List Nat) (f : Int) (len chans : Nat) (w : World) (h : RTre w t R P) (hF : Firsts R P) (hs : ∀ x s, R x = some s → s ≤ 15) (hO : (ordT R).length ≤ 16) (hf : 0 ≤ f ∧ f < 4) (hlen : 1 ≤ len ∧ len ≤ 200) (hch : 1 ≤ chans ∧ chans ≤ 16) :
    Calls Tryz.prog 9 #[.pointer (some ⟨t, 0, none⟩), .int .i64 f, .int .i64 (len : Nat), .int .i64 (chans : Nat)] w (RDealPost f len chans (fun n => (P n).headD 0) (ordT R) w) := by
  obtain ⟨i0, hi0, hz0, hz1, hz2⟩ := info_parts infoT
  have g1 : decide (f < 0) = false := by simp; omega
  have g2 : decide ((4 : Int) ≤ f) = false := by simp; omega
  have g3 : decide ((len : Int) < 1) = false := by simp; omega
  have g4 : decide ((200 : Int) < (len : Int)) = false := by simp; omega
  have g5 : decide ((chans : Int) < 1) = false := by simp; omega
  have g6 : decide ((16 : Int) < (chans : Int)) = false := by simp; omega
  have g3' : decide (len < 1) = false := by simp; omega
  have g4' : decide (200 < len) = false := by simp; omega
  have g5' : decide (chans < 1) = false := by simp; omega
  have g6' : decide (16 < chans) = false := by simp; omega
  obtain ⟨At, Kt, hTb, hTl⟩ := h
  have HNB := Lib.hid noz_built
  have HNI := Lib.hid noz_info
  have HNO := Lib.hid noz_one
  have htl := hTb.lt
  obtain ⟨r0, hr0⟩ : ∃ q, w.heap.size = q := ⟨_, rfl⟩
  have HR0 := Lib.hid hr0
  have s1 : (w.alloc (.cells rdz 37)).heap.size = r0 + 1 := by rw [← hr0]; simp
  have s2 : ((w.alloc (.cells rdz 37)).alloc (.cells rdz 37)).heap.size = r0 + 1 + 1 := by rw [← s1]; simp
  have o1 := Own.new w 37 rdz
  have o2 := Own.new (w.alloc (.cells rdz 37)) 37 rdz
  have o3 := Own.new ((w.alloc (.cells rdz 37)).alloc (.cells rdz 37)) 78 noz
  rw [hr0] at o1
  rw [s1] at o2
  rw [s2] at o3
  have o1 := (o1.alloc (.cells rdz 37)).alloc (.cells noz 78)
  have o2 := o2.alloc (.cells noz 78)
  have b3 : Below w.heap.size w (((w.alloc (.cells rdz 37)).alloc (.cells rdz 37)).alloc (.cells noz 78)) := (((Below.refl w.heap.size w).alloc (Nat.le_refl _) _).alloc (by rw [s1, hr0]; omega) _).alloc (by rw [s2, hr0]; omega) _
  go_enter Tryz.func9, Tryz.ntmps9
  go_upto_region 5 with (first | (refine wpList_built noz rfl rfl HNB.out ?_) | (refine wpList_alloc_store noz rfl rfl rfl rfl HNI.out rfl rfl (by kernel_rfl) rfl HNO.out ?_))
  try rw [s1]
  try rw [s2]
  try rw [hr0]
  change (Code.region _ _ _).wp _ _ _ (((w.alloc (.cells rdz 37)).alloc (.cells rdz 37)).alloc (.cells noz 78))
  have hz3 : (((w.alloc (.cells rdz 37)).alloc (.cells rdz 37)).alloc (.cells noz 78)).heap.size = r0 + 1 + 1 + 1 := by rw [← s2]; simp
  generalize ((w.alloc (.cells rdz 37)).alloc (.cells rdz 37)).alloc (.cells noz 78) = w3 at *
  clear g1 g2 g3 g4 g5 g6 g3' g4' g5' g6' s1 s2 HNB HNI HNO
  have hTb3 := hTb.below b3 hTb.lt
  go_wp2_with fail
  refine (rorder_any t R _ w3 hTb3).mono ?_
  rintro r w4 ⟨A, c, rfl, ho, b4⟩
  have b34 : Below w.heap.size w w4 := b3.trans (b4.mono b3.size)
  have q1 := below_own b4 o1 o1.lt
  have q2 := below_own b4 o2 o2.lt
  have q3 := below_own b4 o3 o3.lt
  obtain ⟨db, hdb⟩ : ∃ q, r0 + 1 = q := ⟨_, rfl⟩
  rw [hdb] at q2 q3 ⊢
  obtain ⟨nb, hnd⟩ : ∃ q, q = db + 1 := ⟨_, rfl⟩
  rw [← hnd] at q3
  obtain ⟨lo, hlo⟩ : ∃ q, w4.heap.size = q := ⟨_, rfl⟩
  have hnl : nb < lo := by rw [← hlo]; exact q3.lt
  have hW : w.heap.size ≤ lo := by rw [← hlo]; exact b34.size
  have hWd : w.heap.size ≤ db := by rw [hr0]; omega
  have hdz : Blk w4 db 37 16 (fun _ => .slice none 0 0) := Blk.same q2 rfl
  have D4 : Rd w4 lo db (fun _ => .slice none 0 0) (fun _ => []) := ⟨hdz, ⟨fun k _ => MineK.nil _ _ _ _ _, fun j k _ _ _ q e => by cases e⟩, fun _ => Nat.zero_le _, by rw [hlo]; exact Nat.le_refl _⟩
  have hnz : Blk w4 nb 78 16 (fun i => .bool (decide (i ∈ ([] : List Nat)))) := (Blk.same (v := .bool false) q3 rfl).ext (fun i _ => by simp)
  have HO4 : Hid (∀ wz, J2 lo db nb w4 wz → Row wz A (ordT R).length (ln (ordT R))) := Lib.hid (fun wz j => j.row ho.row (fun hn q hq => by
    have h1 := row_size ho.row hn q hq
    have h2 := ho.lo hn q hq
    omega))
  have HW4 : Hid (∀ wz, J2 lo db nb w4 wz → Below w.heap.size w wz) := Lib.hid (fun wz j => b34.trans (j.below hW hWd (by omega)))
  have HT4 : Hid (∀ wz, J2 lo db nb w4 wz → ∀ x, x < 16 → wz.cell? ⟨t, 16 + x, none⟩ = some (.slice (At x) (P x).length (Kt x)) ∧ Row wz (At x) (P x).length (ln (P x)) ∧ (P x).length ≤ Kt x ∧ Kt x ≤ maxLen) := Lib.hid (fun wz j x hx => by
    have bz := HW4.out wz j
    exact ⟨(hTb.below bz hTb.lt).par hx, (hTl x hx).row.below bz, (hTl x hx).le, (hTl x hx).cap⟩)
  have HR4 : Hid (∀ wz, J2 lo db nb w4 wz → Own wz r0 37 rdz) := Lib.hid (fun wz j => j.own q1 (by omega) (by omega) (by omega))
  have hle := ho.le
  have hcap := ho.cap
  obtain ⟨M, hM⟩ : ∃ q, (ordT R).length = q := ⟨_, rfl⟩
  have HM := Lib.hid hM
  rw [hM] at hle hO HO4 ⊢
  unfold maxLen at hcap
  have hM63 : (M : Int) ≤ 9223372036854775807 := by omega
  have HF := Lib.hid hF
  have HS := Lib.hid hs
  obtain ⟨T, hT⟩ : ∃ T : Nat → Hs × List Nat, T = fun k => dealF f len chans (fun n => (P n).headD 0) ((ordT R).take k) := ⟨_, rfl⟩
  have HT0 : Hid (T 0 = (fun _ => [], [])) := Lib.hid (by rw [hT]; rfl)
  have HTS : Hid (∀ k, k < M → T (k + 1) = stepF f len chans (fun n => (P n).headD 0) (T k) ((ordT R).getD k 0)) := Lib.hid (fun k hk => by
    rw [hT]
    exact deal_take f len chans _ _ (by rw [HM.out]; exact hk))
  have HTM : Hid (T M = dealF f len chans (fun n => (P n).headD 0) (ordT R)) := Lib.hid (by
    rw [hT]
    show dealF f len chans _ ((ordT R).take M) = _
    rw [List.take_of_length_le (by rw [HM.out]; exact Nat.le_refl _)])
  have D4' : (∃ vs, Rd w4 lo db vs (T 0).1) ∧ Blk w4 nb 78 16 (fun i => .bool (decide (i ∈ (T 0).2))) := by rw [HT0.out]; exact ⟨⟨_, D4⟩, hnz⟩
  clear hT D4 hnz hdz q1 q2 q3 o1 o2 o3 b3 b4 b34 ho hM hF hs hTb hTb3 hTl hr0 hlo hz3
  subst hnd
  go_wp2_with fail
  go_loopw [45] (fun i wr => ∃ k : Nat, i = .int .i64 k ∧ k ≤ M ∧ (∃ vs, Rd wr lo db vs (T k).1) ∧ Blk wr (db + 1) 78 16 (fun i => .bool (decide (i ∈ (T k).2))) ∧ J2 lo db (db + 1) w4 wr) (fun i _ => M - (intOf i).toNat)
  case atStart => exact ⟨0, rfl, Nat.zero_le _, D4'.1, D4'.2, J2.refl _ _ _ _⟩
  case round =>
    clear D4'
    obtain ⟨k, rfl, hk, ⟨vs, D⟩, N1, jj⟩ := hrel
    by_cases hlt : k < M
    · have hlt2 : k < (ordT R).length := by rw [HM.out]; exact hlt
      have hrow := HO4.out wr jj
      obtain ⟨bo, off, rfl, _, c0⟩ := hrow.at_ hlt
      unfold ln at c0
      obtain ⟨hx16, rx, hrx⟩ := ordT_at HS.out hlt2
      have hstep := HTS.out k hlt
      obtain ⟨x, hx⟩ : ∃ x, (ordT R).getD k 0 = x := ⟨_, rfl⟩
      rw [hx] at c0 hx16 hrx hstep
      have HSTEP := Lib.hid hstep
      clear hx hstep hrow hlt2
      by_cases hx0 : x = 0
      · subst hx0
        have e1 : T (k + 1) = T k := by rw [HSTEP.out]; exact if_pos rfl
        rw [← e1] at D N1
        have g0 : (((0 : Nat) : Int) == 0) = true := by simp
        clear e1
        go_wp2_with fail
        exact ⟨⟨k + 1, by simp [intOf], by omega, ⟨vs, D⟩, N1, jj⟩, by simp [intOf]; omega⟩
      · obtain ⟨s, rfl⟩ : ∃ s, rx = s + 1 := by
          rcases Nat.eq_zero_or_pos rx with e | e
          · subst e
            exact absurd (HF.out.only x hrx) hx0
          · exact ⟨rx - 1, by omega⟩
        obtain ⟨p, l, hp1, hp2, hp3⟩ := HF.out.first x s hrx
        have hxp : x ≠ p := fun e => by
          subst e
          rw [hrx] at hp2
          injection hp2 with hp2
          omega
        have g0 : ((x : Int) == 0) = false := by simp; omega
        have hpar : (fun n => (P n).headD 0) x = p := by dsimp only; rw [hp1]; rfl
        obtain ⟨d0, d1, d2, d3⟩ := HT4.out wr jj x hx16
        rw [hp1] at d0 d1 d2
        obtain ⟨bp, op, hAt, _, d4⟩ := d1.at_ (k := 0) (by simp)
        have d4 : wr.cell? ⟨bp, op, none⟩ = some (.int .i64 (p : Int)) := d4
        rw [hAt] at d0
        obtain ⟨mm, hmm⟩ : ∃ mm, (p :: l).length = mm := ⟨_, rfl⟩
        have hm0 : 0 < mm := by rw [← hmm]; simp
        have hm0' : (0 : Int) < (mm : Int) := by omega
        rw [hmm] at d0 d2
        have hxi : (x : Int) < 16 := by omega
        have HPAR := Lib.hid hpar
        have oR : Own wr db 37 #[vs 0, vs 1, vs 2, vs 3, vs 4, vs 5, vs 6, vs 7, vs 8, vs 9, vs 10, vs 11, vs 12, vs 13, vs 14, vs 15] := c16_own D.blk
        have HONE : Hid ((#[vs 0, vs 1, vs 2, vs 3, vs 4, vs 5, vs 6, vs 7, vs 8, vs 9, vs 10, vs 11, vs 12, vs 13, vs 14, vs 15] : Array Value).all (·.oneCell') = true) := Lib.hid (Rows16.one D.rows)
        have HINF := Lib.hid rdz_info
        have og := Own.new wr 37 #[vs 0, vs 1, vs 2, vs 3, vs 4, vs 5, vs 6, vs 7, vs 8, vs 9, vs 10, vs 11, vs 12, vs 13, vs 14, vs 15]
        have bg := (Below.refl wr.heap.size wr).alloc (Nat.le_refl _) (.cells #[vs 0, vs 1, vs 2, vs 3, vs 4, vs 5, vs 6, vs 7, vs 8, vs 9, vs 10, vs 11, vs 12, vs 13, vs 14, vs 15] 37)
        have Dg := D.below bg
        have N1g := N1.alloc (.cells #[vs 0, vs 1, vs 2, vs 3, vs 4, vs 5, vs 6, vs 7, vs 8, vs 9, vs 10, vs 11, vs 12, vs 13, vs 14, vs 15] 37)
        have jg := jj.trans (J2.of_below bg D.le)
        have hgl := D.le
        clear hpar hp1 hp2 hrx hAt d1 hmm D N1 jj bg
        go_upto_region 11 with (first
          | (refine wpList_load_row rfl 37 (.tmp 10) rfl db rfl 37 _ (0, 0) _ oR Tryz.underlying37 rfl (by kernel_rfl) ?_)
          | (refine wpList_alloc_store #[vs 0, vs 1, vs 2, vs 3, vs 4, vs 5, vs 6, vs 7, vs 8, vs 9, vs 10, vs 11, vs 12, vs 13, vs 14, vs 15] rfl rfl rfl rfl HINF.out rfl rfl (by kernel_rfl) rfl HONE.out ?_))
        obtain ⟨g, hg⟩ : ∃ q, wr.heap.size = q := ⟨_, rfl⟩
        rw [hg] at og hgl ⊢
        generalize wr.alloc (.cells #[vs 0, vs 1, vs 2, vs 3, vs 4, vs 5, vs 6, vs 7, vs 8, vs 9, vs 10, vs 11, vs 12, vs 13, vs 14, vs 15] 37) = wg at *
        clear hg oR HINF d0 d2 d3 d4 c0 hm0 hm0'
        have hndb : (db + 1) ≠ db := by omega
        have hgdb : g ≠ db := by omega
        go_wp2_with fail
        refine (rlink_d lo db x p len chans f 0 2 (by decide) vs _ wg Dg hx16 hp3 hxp hlen.2 hch.2).mono ?_
        rintro r w5 (⟨rfl, hl1, b5⟩ | ⟨G, rfl, hl1, ⟨vs5, D5⟩, R5, j5⟩)
        · have e1 : T (k + 1) = ((T k).1, (T k).2 ++ [x]) := by rw [HSTEP.out]; exact step_none hx0 (by rw [HPAR.out]; unfold serveF; rw [hl1]; rfl)
          have og5 := below_own b5 og og.lt
          have D5 := Dg.below b5
          obtain ⟨u1, u2, u3, u4, u5⟩ := rd_undo D5.blk D5.rows D5.few D5.le (below_blk b5 N1g N1g.lt) hndb hx16
          have j8 := (jg.trans (J2.of_below b5 Dg.le)).trans u5
          unfold c16 at u1 u2 u3 u4 j8
          have od := c16_own D5.blk
          have D8 : ∃ zs, Rd ((w5.setRow db #[vs 0, vs 1, vs 2, vs 3, vs 4, vs 5, vs 6, vs 7, vs 8, vs 9, vs 10, vs 11, vs 12, vs 13, vs 14, vs 15]).setCell ⟨db + 1, x, none⟩ (.bool true)) lo db zs (T (k + 1)).1 := by rw [e1]; exact ⟨vs, u3⟩
          rw [show (T k).2 ++ [x] = (T (k + 1)).2 by rw [e1]] at u4
          clear e1 hl1 u3 u5 D5 b5 jg N1g Dg og
          go_wp2_with (first
            | (refine wpList_load_row rfl 37 (.tmp 15) rfl g rfl 37 _ (0, 0) _ og5 Tryz.underlying37 rfl (by kernel_rfl) ?_)
            | (refine wpList_store_row rfl _ _ _ rfl db #[vs 0, vs 1, vs 2, vs 3, vs 4, vs 5, vs 6, vs 7, vs 8, vs 9, vs 10, vs 11, vs 12, vs 13, vs 14, vs 15] rfl rfl 37 _ od (by kernel_rfl) rfl HONE.out ?_))
          exact ⟨⟨k + 1, by simp [intOf], by omega, D8, u4, j8⟩, by simp [intOf]; omega⟩
        · have N5 := jb_blk j5 N1g (by decide) hndb
          have og5 := jb_own j5 og (by decide) hgdb
          have jg5 := jg.trans (J2.of_jb j5 Dg.le)
          have hfew := Dg.few
          clear jg N1g Dg og j5
          go_wp2_with fail
          refine (rlink_d lo db p x len chans f 8 10 (by decide) vs5 _ w5 D5 hp3 hx16 (fun e => hxp e.symm) hlen.2 hch.2).mono ?_
          rintro r w6 (⟨rfl, hl2, b6⟩ | ⟨G2, rfl, hl2, ⟨vs6, D6⟩, R6, j6⟩)
          · have e1 : T (k + 1) = ((T k).1, (T k).2 ++ [x]) := by rw [HSTEP.out]; exact step_none hx0 (by rw [HPAR.out]; unfold serveF; rw [hl1]; exact hl2)
            have og6 := below_own b6 og5 og5.lt
            have D6 := D5.below b6
            obtain ⟨u1, u2, u3, u4, u5⟩ := rd_undo D6.blk (R5.below b6) hfew D6.le (below_blk b6 N5 N5.lt) hndb hx16
            have j8 := (jg5.trans (J2.of_below b6 D5.le)).trans u5
            unfold c16 at u1 u2 u3 u4 j8
            have od := c16_own D6.blk
            have D8 : ∃ zs, Rd ((w6.setRow db #[vs 0, vs 1, vs 2, vs 3, vs 4, vs 5, vs 6, vs 7, vs 8, vs 9, vs 10, vs 11, vs 12, vs 13, vs 14, vs 15]).setCell ⟨db + 1, x, none⟩ (.bool true)) lo db zs (T (k + 1)).1 := by rw [e1]; exact ⟨vs, u3⟩
            rw [show (T k).2 ++ [x] = (T (k + 1)).2 by rw [e1]] at u4
            clear e1 hl1 hl2 u3 u5 D5 D6 b6 jg5 N5 og5 R5 hfew
            go_wp2_with (first
              | (refine wpList_load_row rfl 37 (.tmp 15) rfl g rfl 37 _ (0, 0) _ og6 Tryz.underlying37 rfl (by kernel_rfl) ?_)
              | (refine wpList_store_row rfl _ _ _ rfl db #[vs 0, vs 1, vs 2, vs 3, vs 4, vs 5, vs 6, vs 7, vs 8, vs 9, vs 10, vs 11, vs 12, vs 13, vs 14, vs 15] rfl rfl 37 _ od (by kernel_rfl) rfl HONE.out ?_))
            exact ⟨⟨k + 1, by simp [intOf], by omega, D8, u4, j8⟩, by simp [intOf]; omega⟩
          · have e1 : T (k + 1) = (G2, (T k).2) := by rw [HSTEP.out]; exact step_some hx0 (by rw [HPAR.out]; unfold serveF; rw [hl1]; exact hl2)
            have N6 := jb_blk j6 N5 (by decide) hndb
            have j8 := jg5.trans (J2.of_jb j6 D5.le)
            have D8 : ∃ vs, Rd w6 lo db vs (T (k + 1)).1 := by rw [e1]; exact ⟨vs6, D6⟩
            rw [show (T k).2 = (T (k + 1)).2 by rw [e1]] at N6
            clear e1 hl1 hl2 D5 D6 jg5 N5 og5 R5 R6 j6 hfew
            go_wp2_with fail
            exact ⟨⟨k + 1, by simp [intOf], by omega, D8, N6, j8⟩, by simp [intOf]; omega⟩
    · obtain rfl : k = M := by omega
      have g6 : decide ((k : Int) < (k : Int)) = false := by simp
      obtain ⟨FM, hFM⟩ : ∃ q, (T k).1 = q := ⟨_, rfl⟩
      obtain ⟨LM, hLM⟩ : ∃ q, (T k).2 = q := ⟨_, rfl⟩
      have HRES : Hid (dealF f len chans (fun n => (P n).headD 0) (ordT R) = (FM, LM)) := Lib.hid (by rw [← HTM.out, ← hFM, ← hLM])
      rw [hFM] at D
      rw [hLM] at N1
      have D0 : ∃ vs, Rd wr lo db vs (srtK FM 0) := by rw [srtK_zero]; exact ⟨vs, D⟩
      clear D hFM hLM HTM HTS HT0 HO4 HT4
      go_wp2_with fail
      go_loopw [16, 80] (fun u i wz => ∃ m : Nat, i = .int .i64 m ∧ m ≤ 16 ∧ (∃ vs, Rd wz lo db vs (srtK FM m)) ∧ Blk wz (db + 1) 78 16 (fun i => .bool (decide (i ∈ LM))) ∧ Mine wz lo 3 u (nonK LM m).length (ln (nonK LM m)) ∧ J2 lo db (db + 1) w4 wz) (fun _ i _ => 16 - (intOf i).toNat)
      case atStart => exact ⟨0, rfl, by omega, D0, N1, Mine.nil _ _ _ _, jj⟩
      case round =>
        clear D0 N1 jj
        obtain ⟨m, rfl, hm, ⟨us, D⟩, N2, mu, j2⟩ := hrel
        obtain ⟨a11, c11, rfl, hc1, hc2, hr11⟩ := mu.row
        by_cases hm16 : m < 16
        · have hmi : (m : Int) < 16 := by omega
          have hndb : (db + 1) ≠ db := by omega
          obtain ⟨am, cm, hum, hcm1, hcm2, hrw⟩ := (D.rows.row m hm16).row
          have hfew := D.few m
          obtain ⟨q5, hq5⟩ : ∃ q, (srtK FM m m).length = q := ⟨_, rfl⟩
          have PS : Calls Tryz.prog 32 #[.slice am q5 cm] wr (fun r w' => ∃ a5 c5, r = .returned (.slice a5 q5 c5) ∧ (∃ vs, Rd (w'.setCell ⟨db, m, none⟩ (.slice a5 q5 c5)) lo db vs (srtK FM (m + 1))) ∧ Below wr.heap.size wr w') := by
            have h0 := Ce.sorted_any am _ cm (srtK FM m m) wr hrw rfl (by omega)
            rw [hq5] at h0
            refine h0.mono ?_
            rintro r w' ⟨v, rfl, m5, b5⟩
            obtain ⟨a5, c5, rfl, _, _, _⟩ := m5.row
            refine ⟨a5, c5, rfl, ⟨fun j => if j = m then .slice a5 q5 c5 else us j, ?_⟩, b5⟩
            have h1 := rd_sort (k := m) (l := srtU (srtK FM m m)) D (by rw [hq5]; exact m5) (srtU_len _) b5
            rw [srtK_at, srtK_next] at h1
            exact h1
          have PS := Lib.hid PS
          have k0 : wr.cell? ⟨db, m, none⟩ = some (.slice am q5 cm) := by rw [← hq5, ← hum]; exact D.blk.cell hm16
          have hnx := nonK_next LM m
          have hnl2 := nonK_len LM m
          clear hrw hum hq5 hfew
          go_wp2_with fail
          refine PS.out.mono ?_
          rintro r w5 ⟨a5, c5, rfl, D6, b5⟩
          have B5 := below_blk b5 D.blk D.blk.lt
          have k1 := B5.cell hm16
          have f1 := B5.free m
          have N5 := below_blk b5 N2 N2.lt
          have mu5 := mine_it mu (fun q cs o => b5.block q o.lt)
          have j5 := j2.trans (J2.of_below b5 D.le)
          have j7 := Just.set db w5 m (.slice a5 q5 c5)
          have N6 := j7.blk N5 hndb
          have mu6 := mine_it mu5 (just_it j7 (c16_own B5) (by decide))
          have j6 := j5.trans (J2.of_a j7 (Nat.le_trans D.le b5.size))
          have k2 : (w5.setCell ⟨db, m, none⟩ (.slice a5 q5 c5)).cell? ⟨db + 1, m, none⟩ = some (.bool (decide (m ∈ LM))) := N6.cell hm16
          clear PS k0 D N2 mu j2 b5 N5 mu5 j5 j7 B5
          by_cases hmL : m ∈ LM
          · have k2 : (w5.setCell ⟨db, m, none⟩ (.slice a5 q5 c5)).cell? ⟨db + 1, m, none⟩ = some (.bool true) := by rw [k2, decide_eq_true hmL]
            rw [if_pos hmL] at hnx
            have HNX := Lib.hid hnx
            have hmx : (nonK LM m).length + 1 ≤ maxLen := by unfold maxLen; omega
            have Hm := Lib.hid hmx
            clear hnx hmx
            obtain ⟨vs6, D6⟩ := D6
            go_upto_region 20 with (fail)
            generalize w5.setCell ⟨db, m, none⟩ (.slice a5 q5 c5) = w6 at *
            clear k1 f1
            have D7 := D6.below ((Below.refl w6.heap.size w6).alloc (Nat.le_refl _) (.cells #[.int .i64 (m : Nat)] 3))
            have N7 := N6.alloc (.cells #[.int .i64 (m : Nat)] 3)
            have m7 := mu6.alloc (.cells #[.int .i64 (m : Nat)] 3)
            have j7 := j6.trans (J2.of_below ((Below.refl w6.heap.size w6).alloc (Nat.le_refl _) (.cells #[.int .i64 (m : Nat)] 3)) D6.le)
            clear mu6 N6 j6
            go_wp2_with (at_builtin; go_must (refine wp_app rfl (.tmp 94) (.tmp 96) _ rfl lo 3 i0 _ 8 Tryz.underlying29 hi0 hz0 hz1 hz2 rfl _ (nonK LM m).length (ln (nonK LM m)) rfl m7 _ 1 _ (fun _ => .int .i64 (m : Int)) rfl (row_new _ _ _ _ (fun i hi => by obtain rfl : i = 0 := (by omega); rfl)) (fun _ _ => rfl) Hm.out ?c2 ?c3 ?_))
            case c2 => omega
            case c3 => exact D7.le
            intro v8 w8 m8 g8
            have D8 : ∃ vs, Rd w8 lo db vs (srtK FM (m + 1)) := ⟨_, rd_grown D7 m7 g8⟩
            have N8 := grown_blk g8 m7 N7 (by decide)
            have j8 := j7.trans (J2.of_grown g8 (fun q e => (owns_at m7 e).1) D7.le)
            have m9 : Mine w8 lo 3 v8 (nonK LM (m + 1)).length (ln (nonK LM (m + 1))) := by
              rw [HNX.out, List.length_append]
              exact m8.ext (fun q hq => ln_snoc _ _ _ hq)
            clear m8 g8 m7 D7 j7 N7
            go_wp2_with fail
            exact ⟨⟨m + 1, by simp [intOf], by omega, D8, N8, m9, j8⟩, by simp [intOf]; omega⟩
          · have k2 : (w5.setCell ⟨db, m, none⟩ (.slice a5 q5 c5)).cell? ⟨db + 1, m, none⟩ = some (.bool false) := by rw [k2, decide_eq_false hmL]
            rw [if_neg hmL, List.append_nil] at hnx
            rw [← hnx] at mu6
            go_wp2_with fail
            rw [← hnx]
            exact ⟨⟨m + 1, by simp [intOf], by omega, D6, N6, mu6, j6⟩, by simp [intOf]; omega⟩
        · obtain rfl : m = 16 := by omega
          have oR : Own wr db 37 #[us 0, us 1, us 2, us 3, us 4, us 5, us 6, us 7, us 8, us 9, us 10, us 11, us 12, us 13, us 14, us 15] := c16_own D.blk
          have o0 := HR4.out wr j2
          have HONE : Hid ((#[us 0, us 1, us 2, us 3, us 4, us 5, us 6, us 7, us 8, us 9, us 10, us 11, us 12, us 13, us 14, us 15] : Array Value).all (·.oneCell') = true) := Lib.hid (Rows16.one D.rows)
          have bb := HW4.out wr j2
          have j9 := Just.setRow r0 wr (#[us 0, us 1, us 2, us 3, us 4, us 5, us 6, us 7, us 8, us 9, us 10, us 11, us 12, us 13, us 14, us 15] : Array Value)
          have hdr : db ≠ r0 := by
            intro e
            have h1 : (37 : TypeId) = 37 := rfl
            omega
          have D9 := rd_just D j9 o0 (by decide) hdr
          have mu9 := mine_it mu (just_it j9 o0 (by decide))
          have b9 := j9.below bb (by rw [HR0.out]; exact Nat.le_refl _) bb.size
          have HC := Lib.hid (And.intro hc1 hc2)
          clear mu hr11
          go_wp2_with (first
            | (refine wpList_load_row rfl 37 (.tmp 10) rfl db rfl 37 _ (0, 0) _ oR Tryz.underlying37 rfl (by kernel_rfl) ?_)
            | (refine wpList_store_row rfl _ _ _ rfl r0 #[us 0, us 1, us 2, us 3, us 4, us 5, us 6, us 7, us 8, us 9, us 10, us 11, us 12, us 13, us 14, us 15] rfl rfl 37 _ o0 (by kernel_rfl) rfl HONE.out ?_))
          refine bodyPost_ret (results_row_tmp rfl _ _ r0 37 _ (0, 0) _ rfl (o0.setRow _) Tryz.underlying37 rfl (by kernel_rfl)) rfl ?_
          unfold RDealPost
          rw [HRES.out]
          refine ⟨us, a11, c11, rfl, fun q hq => ?_, HC.out.1, HC.out.2, mu9.rowAt, b9⟩
          obtain ⟨a, c, h1, h2, h3, h4⟩ := (D9.rows.row q hq).row
          rw [srtK_end FM hq, srtU_len] at h1 h2 h4
          exact ⟨a, c, h1, h2, h3, h4⟩
end Go.Proofs.YtahcplddonipcaaGreat.Al
set_option maxRecDepth 100000
namespace Go.Proofs.YtahcplddonipcaaGreat.Al
set_option linter.unusedVariables false
open Go.RowKit Lb Cl Ce Mi Tp Tr

/-- What may be asked for. -/
def askB (f len chans : Int) : Prop := 0 ≤ f ∧ f < 4 ∧ 1 ≤ len ∧ len ≤ 200 ∧ 1 ≤ chans ∧ chans ≤ 16
theorem ask_six {f len chans : Int} (h : ¬ askB f len chans) :
    (decide (f < 0) = true) ∨
    (decide (f < 0) = false ∧ decide ((4 : Int) ≤ f) = true) ∨
    (decide (f < 0) = false ∧ decide ((4 : Int) ≤ f) = false ∧ decide (len < 1) = true) ∨
    (decide (f < 0) = false ∧ decide ((4 : Int) ≤ f) = false ∧ decide (len < 1) = false ∧ decide ((200 : Int) < len) = true) ∨
    (decide (f < 0) = false ∧ decide ((4 : Int) ≤ f) = false ∧ decide (len < 1) = false ∧ decide ((200 : Int) < len) = false ∧ decide (chans < 1) = true) ∨
    (decide (f < 0) = false ∧ decide ((4 : Int) ≤ f) = false ∧ decide (len < 1) = false ∧ decide ((200 : Int) < len) = false ∧ decide (chans < 1) = false ∧ decide ((16 : Int) < chans) = true) := by
  unfold askB at h
  simp only [decide_eq_true_eq, decide_eq_false_iff_not]
  omega
theorem deal_bad (t : Nat) (f len chans : Int) (w : World) (h : ¬ askB f len chans) : Calls Tryz.prog 7 #[.pointer (some ⟨t, 0, none⟩), .int .i64 f, .int .i64 len, .int .i64 chans] w fun r w' => r = .returned (.tuple #[.map none, .slice none 0 0]) ∧ w = w' := by
  have H6 := ask_six h
  clear h
  go_enter Tryz.func7, Tryz.ntmps7
  go_upto_region 1 with (fail)
  rcases H6 with g1 | ⟨g1, g2⟩ | ⟨g1, g2, g3⟩ | ⟨g1, g2, g3, g4⟩ | ⟨g1, g2, g3, g4, g5⟩ | ⟨g1, g2, g3, g4, g5, g6⟩
  all_goals
    go_wp2_with fail
    refine bodyPost_ret (results_tmp2 rfl _ _ _) rfl ?_
    exact ⟨rfl, rfl⟩
theorem rdz_one : rdz.all (·.oneCell') = true := by kernel_rfl
theorem rdeal_bad (t : Nat) (f len chans : Int) (w : World) (h : ¬ askB f len chans) : Calls Tryz.prog 9 #[.pointer (some ⟨t, 0, none⟩), .int .i64 f, .int .i64 len, .int .i64 chans] w fun r w' => r = .returned (.tuple #[.agg (c16 fun _ => .slice none 0 0), .slice none 0 0]) ∧ Below w.heap.size w w' := by
  have H6 := ask_six h
  clear h
  obtain ⟨r0, hr0⟩ : ∃ q, w.heap.size = q := ⟨_, rfl⟩
  have HR0 := Lib.hid hr0
  have s1 : (w.alloc (.cells rdz 37)).heap.size = r0 + 1 := by rw [← hr0]; simp
  have o1 := Own.new w 37 rdz
  have o2 := Own.new (w.alloc (.cells rdz 37)) 37 rdz
  rw [hr0] at o1
  rw [s1] at o2
  have o1 := o1.alloc (.cells rdz 37)
  have b3 : Below w.heap.size w ((w.alloc (.cells rdz 37)).alloc (.cells rdz 37)) := ((Below.refl w.heap.size w).alloc (Nat.le_refl _) _).alloc (by rw [s1, hr0]; omega) _
  have HONE := Lib.hid rdz_one
  go_enter Tryz.func9, Tryz.ntmps9
  go_upto_region 2 with (fail)
  try rw [s1]
  try rw [hr0]
  change (Code.region _ _ _).wp _ _ _ ((w.alloc (.cells rdz 37)).alloc (.cells rdz 37))
  generalize (w.alloc (.cells rdz 37)).alloc (.cells rdz 37) = w3 at *
  clear s1
  rcases H6 with g1 | ⟨g1, g2⟩ | ⟨g1, g2, g3⟩ | ⟨g1, g2, g3, g4⟩ | ⟨g1, g2, g3, g4, g5⟩ | ⟨g1, g2, g3, g4, g5, g6⟩
  all_goals
    go_wp2_with (first
      | (refine wpList_load_row rfl 37 (.tmp 10) rfl (r0 + 1) rfl 37 rdz (0, 0) _ o2 Tryz.underlying37 rfl (by kernel_rfl) ?_)
      | (refine wpList_store_row rfl _ _ _ rfl r0 rdz rfl rfl 37 _ o1 (by kernel_rfl) rfl HONE.out ?_))
    refine bodyPost_ret (results_row_tmp rfl _ _ r0 37 _ (0, 0) _ rfl (o1.setRow _) Tryz.underlying37 rfl (by kernel_rfl)) rfl ?_
    exact ⟨rfl, (Just.setRow r0 w3 rdz).below b3 (by rw [HR0.out]; exact Nat.le_refl _) b3.size⟩
end Go.Proofs.YtahcplddonipcaaGreat.Al
set_option maxRecDepth 100000
namespace Go.Proofs.YtahcplddonipcaaGreat.Al
set_option linter.unusedVariables false
open Go.RowKit Lb Cl Ce Mi Tp Tr

theorem ordR_perm {R : Rk} (hs : ∀ x s, R x = some s → s ≤ 15) : (ordT R).Perm ((List.range 16).filter fun i => (R i).isSome) := by
  rw [← ordF_val, ← rnkF_val]
  exact (ordF_perm hs).map _
theorem ordR_len {R : Rk} (hs : ∀ x s, R x = some s → s ≤ 15) : (ordT R).length ≤ 16 := by
  rw [(ordR_perm hs).length_eq]
  exact Nat.le_trans (List.length_filter_le _ _) (by simp)
theorem ordR_nodup {R : Rk} (hs : ∀ x s, R x = some s → s ≤ 15) : (ordT R).Nodup := (ordR_perm hs).nodup_iff.2 (List.Pairwise.filter _ List.nodup_range)
theorem ordR_lt {R : Rk} (hs : ∀ x s, R x = some s → s ≤ 15) : ∀ x ∈ ordT R, x < 16 := fun x hx => List.mem_range.1 (List.mem_filter.1 ((ordR_perm hs).mem_iff.1 hx)).1
theorem step_or (f : Int) (len chans : Nat) (par : Nat → Nat) (s : Hs × List Nat) (n : Nat) : (stepF f len chans par s n).2 = s.2 ∨ (stepF f len chans par s n).2 = s.2 ++ [n] := by
  unfold stepF
  split
  · exact .inl rfl
  · split
    · exact .inl rfl
    · exact .inr rfl
theorem fold_sub (f : Int) (len chans : Nat) (par : Nat → Nat) : ∀ (l : List Nat) (s : Hs × List Nat), ∃ r, (l.foldl (stepF f len chans par) s).2 = s.2 ++ r ∧ r.Sublist l
  | [], s => ⟨[], by simp, List.Sublist.refl _⟩
  | n :: l, s => by
    obtain ⟨r, h1, h2⟩ := fold_sub f len chans par l (stepF f len chans par s n)
    rw [List.foldl_cons, h1]
    rcases step_or f len chans par s n with e | e
    · exact ⟨r, by rw [e], h2.cons _⟩
    · exact ⟨n :: r, by rw [e, List.append_assoc]; rfl, h2.cons_cons _⟩
theorem deal_sub (f : Int) (len chans : Nat) (par : Nat → Nat) (l : List Nat) : (dealF f len chans par l).2.Sublist l := by
  obtain ⟨r, h1, h2⟩ := fold_sub f len chans par l (fun _ => [], [])
  unfold dealF
  rw [h1]
  exact h2
theorem nonK_perm {L : List Nat} (hn : L.Nodup) (hl : ∀ x ∈ L, x < 16) : (nonK L 16).Perm L := by
  refine (List.perm_ext_iff_of_nodup (List.Pairwise.filter _ List.nodup_range) hn).2 (fun a => ?_)
  rw [List.mem_filter, List.mem_range, decide_eq_true_eq]
  exact ⟨fun h => h.2, fun h => ⟨hl a h, h⟩⟩
theorem srtZ_non {L : List Nat} (hn : L.Nodup) (hl : ∀ x ∈ L, x < 16) : srtZ (outZ L) = outZ (nonK L 16) := by
  have h1 : (srtZ (outZ L)).Pairwise (fun a b : Int => a ≤ b) := by
    have := List.pairwise_mergeSort (le := fun x y : Int => decide (x ≤ y)) (fun a b c h1 h2 => by
      simp only [decide_eq_true_eq] at h1 h2 ⊢
      omega) (fun a b => by
      simp only [Bool.or_eq_true, decide_eq_true_eq]
      omega) (outZ L)
    refine this.imp (fun {a b} h => ?_)
    simpa using h
  have h2 : (outZ (nonK L 16)).Pairwise (fun a b : Int => a ≤ b) := by
    unfold outZ nonK
    rw [List.pairwise_map]
    refine (List.Pairwise.filter _ List.pairwise_lt_range).imp (fun {a b} h => ?_)
    omega
  have h3 : (srtZ (outZ L)).Perm (outZ (nonK L 16)) := (List.mergeSort_perm _ _).trans ((nonK_perm hn hl).symm.map _)
  exact List.Perm.eq_of_pairwise (le := fun a b : Int => a ≤ b) (fun a b _ _ h k => by omega) h1 h2 h3
theorem zval_ln (M : List Nat) : zval (outZ M) = ln M := by
  funext i
  unfold zval ln outZ
  rw [List.getD_eq_getElem?_getD, List.getD_eq_getElem?_getD, List.getElem?_map]
  cases M[i]? <;> rfl
/-- How many rows are not empty. -/
def cntF (G : Hs) (k : Nat) : Nat := ((List.range k).filter fun j => decide (G j ≠ [])).length
theorem cntF_next (G : Hs) (k : Nat) : cntF G (k + 1) = cntF G k + if 0 < (G k).length then 1 else 0 := by
  unfold cntF
  rw [List.range_succ, List.filter_append, List.length_append, List.filter_cons, List.filter_nil]
  by_cases h : G k = []
  · simp [h]
  · rw [if_pos (by simpa using h), if_pos (List.length_pos_iff.2 h)]
    rfl
theorem cntF_le (G : Hs) (k : Nat) : cntF G k ≤ k := by
  unfold cntF
  exact Nat.le_trans (List.length_filter_le _ _) (by simp)
/-- A map and a table that say the same. -/
structure Bo (w : World) (mv : Value) (us vs : Nat → Value) (G : Hs) : Prop where
  look : ∀ wz, Below w.heap.size w wz → ∀ k : Nat, k < 16 → (Instr.lookup 28 mv (.int .i64 (k : Int)) false).run Tryz.prog wz = .ok (us k) wz
  len : ∀ wz, Below w.heap.size w wz → ∀ ty, (Builtin.len_ #[28] ty #[mv]).run Tryz.prog wz = .ok (.int .i64 ((cntF G 16 : Nat) : Int)) wz
  row : ∀ wz, Below w.heap.size w wz → ∀ k, k < 16 → ∃ a c b d, us k = .slice a (G k).length c ∧ vs k = .slice b (G k).length d ∧ (G k).length ≤ c ∧ c ≤ maxLen ∧ (G k).length ≤ d ∧ d ≤ maxLen ∧ Row wz a ((G k).length * 5) (lv (G k)) ∧ Row wz b ((G k).length * 5) (lv (G k))
theorem bo_good {w : World} {bm : Nat} {us vs : Nat → Value} {G : Hs} (h : Fm w bm us G) (hr : ∀ k, k < 16 → ∃ b d, vs k = .slice b (G k).length d ∧ (G k).length ≤ d ∧ d ≤ maxLen ∧ Row w b ((G k).length * 5) (lv (G k))) : Bo w (.map (some bm)) us vs G :=
  ⟨fun wz b k hk => (h.below b).look hk, fun wz b ty => (h.below b).ms.len ty, fun wz j k hk => by
    obtain ⟨a, c, h1, h2, h3, h4⟩ := h.row k hk
    obtain ⟨b, d, k1, k2, k3, k4⟩ := hr k hk
    exact ⟨a, c, b, d, h1, k1, h2, h3, k2, k3, h4.below j, k4.below j⟩⟩
theorem look_none (k : Nat) (w : World) : (Instr.lookup 28 (.map none) (.int .i64 (k : Int)) false).run Tryz.prog w = .ok (.slice none 0 0) w := by
  have h1 := key_ok k w true
  have h2 := key_ok k w false
  unfold kv at h1 h2
  have h3 : Instr.findNow (.int .i64) (.int .i64 (k : Int)) ([] : List MapEntry) 0 = some none := rfl
  simp [Instr.lookup, run_underlying und_m, h1, h2, MapKept.run_findKey und_i h3, zero_cs, Result.andThen]
theorem len_none (ty : TypeId) (w : World) : (Builtin.len_ #[28] ty #[.map none]).run Tryz.prog w = .ok (.int .i64 0) w := by
  simp [Builtin.len_, run_underlying und_m, goInt, Result.andThen]
theorem bo_bad (w : World) : Bo w (.map none) (fun _ => .slice none 0 0) (fun _ => .slice none 0 0) (fun _ => []) :=
  ⟨fun wz _ k _ => look_none k wz, fun wz _ ty => len_none ty wz, fun wz _ k _ => ⟨none, 0, none, 0, rfl, rfl, Nat.le_refl _, Nat.zero_le _, Nat.le_refl _, Nat.zero_le _, Row.nil _ _ _, Row.nil _ _ _⟩⟩
theorem Bo.below {w w' : World} {mv : Value} {us vs : Nat → Value} {G : Hs} (h : Bo w mv us vs G) (j : Below w.heap.size w w') : Bo w' mv us vs G := ⟨fun wz b => h.look wz (j.trans (b.mono j.size)), fun wz b => h.len wz (j.trans (b.mono j.size)), fun wz b => h.row wz (j.trans (b.mono j.size))⟩
end Go.Proofs.YtahcplddonipcaaGreat.Al
