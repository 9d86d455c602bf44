/-
  A node (chapter 24): its state as a value; where it lies in memory; what stays where something else turns. A node (chapter 24): lives, isASN, isIn, knows; Synced, Rank, Parents, Off, Waiting; Slot. A node (chapter 24): bounds of a state; Slot; the clock in every case.
-/
import Derived.Test.YtiflmdekcjbmbaaGreatGNodeWaits02
import Derived.Test.YtiflmdekcjbmbaaGreatGNodeWaits03
import Derived.Test.YtiflmdekcjbmbaaGreatGNodeWaits07
import Derived.Test.YtiflmdekcjbmbaaGreatGNodeWaits10
import Derived.Test.YtiflmdekcjbmbaaGreatGNodeWaits11
set_option maxRecDepth 100000
namespace Go.Proofs.YtiflmdekcjbmbaaGreat.Nd
set_option linter.unusedVariables false
set_option linter.unusedSimpArgs false
open Go.RowKit Lb

/-- A mesh, but for who hears whom. -/
structure Cfg where
  nodes : Int
  hops : List Int
  guard : Int
  err : Int
  keep : Int
  loss : Int
  queue : Int
  life : Int
/-- A node. -/
structure Ns where
  id : Int
  c : Cfg
  p : Int
  d : Int
  s : Int
  q : List (Int × List Int)
  lost : Int
  tries : Int
  uL : Nat → Int
  uS : Nat → Nat
  dL : Nat → Int
  dS : Nat → Nat
  gL : Nat → Int
  gS : Nat → Nat
  seq : Int
  last : Int
  so : Bool
  sa : Int
  sk : Int
  sd : Int
  sq : Int
  paths : Nat → List Int
  inT : Bool
  rk : Int
  set : List Pa.P
  ks : Int
  lis : Int
def Ns.hasK (s : Ns) : Bool := s.inT && s.id != 0
/-- Where it lies. -/
structure Hm where
  ha : Option Addr
  hc : Nat
  ck : Nat
  qb : Nat
  qv : Value
  ub : Nat
  db : Nat
  gb : Nat
  sb : Nat
  sv : Value
  kb : Nat
  pv : Nat → Value
def ptr (b : Nat) : Value := .pointer (some ⟨b, 0, none⟩)
def headV (s : Ns) (h : Hm) : Array Value := #[.int .i64 s.id, .int .i64 s.c.nodes, .slice none 0 0, .slice h.ha s.c.hops.length h.hc, .int .i64 s.c.guard, .int .i64 s.c.err, .int .i64 s.c.keep, .int .i64 s.c.loss, .int .i64 s.c.queue, .int .i64 s.c.life,
  ptr h.ck, ptr h.qb, .int .i64 s.tries, ptr h.ub, ptr h.db, ptr h.gb, .int .i64 s.seq, .int .i64 s.last, .bool s.so, .int .i64 s.sa, .int .i64 s.sk, .int .i64 s.sd, .int .i64 s.sq]
def tailV (s : Ns) (h : Hm) : Array Value := #[.bool s.inT, if s.inT then ptr h.sb else .pointer none, if s.hasK then ptr h.kb else .pointer none, .int .i64 s.lis]
def ndV (s : Ns) (h : Hm) (i : Nat) : Value := if i < 23 then (headV s h).getD i undef else if i < 39 then h.pv (i - 23) else (tailV s h).getD (i - 39) undef
theorem idx23 (i : Nat) (hi : i < 23) : i = 0 ∨ i = 1 ∨ i = 2 ∨ i = 3 ∨ i = 4 ∨ i = 5 ∨ i = 6 ∨ i = 7 ∨ i = 8 ∨ i = 9 ∨ i = 10 ∨ i = 11 ∨ i = 12 ∨ i = 13 ∨ i = 14 ∨ i = 15 ∨ i = 16 ∨ i = 17 ∨ i = 18 ∨ i = 19 ∨ i = 20 ∨ i = 21 ∨ i = 22 := by omega
theorem idx4 (i : Nat) (hi : i < 4) : i = 0 ∨ i = 1 ∨ i = 2 ∨ i = 3 := by omega
/-- One cell is put anew. -/
theorem nd_ext {s s' : Ns} {h h' : Hm} {k : Nat} {u : Value} (hh : ∀ i, i < 23 → (headV s' h').getD i undef = if i = k then u else (headV s h).getD i undef) (hp : ∀ j, j < 16 → h'.pv j = if 23 + j = k then u else h.pv j)
    (ht : ∀ j, j < 4 → (tailV s' h').getD j undef = if 39 + j = k then u else (tailV s h).getD j undef) : ∀ i, i < 43 → (if i = k then u else ndV s h i) = ndV s' h' i := by
  intro i hi
  unfold ndV
  by_cases h1 : i < 23
  · rw [if_pos h1, if_pos h1, hh i h1]
  · by_cases h2 : i < 39
    · rw [if_neg h1, if_pos h2, if_neg h1, if_pos h2, hp (i - 23) (by omega)]
      rw [show 23 + (i - 23) = i by omega]
    · rw [if_neg h1, if_neg h2, if_neg h1, if_neg h2, ht (i - 39) (by omega)]
      rw [show 39 + (i - 39) = i by omega]
/-- A queue's entry, without where its bytes lie. -/
def keyB (x : Qu.It) : Int × List Int := (x.to, (List.range x.n).map x.Z)
def zv (l : List Int) (j : Nat) : Value := .int .i64 (l.getD j 0)
structure Nd (w : World) (b : Nat) (s : Ns) (h : Hm) : Prop where
  own : Blk w b 92 43 (ndV s h)
  hops : Mine w 0 3 (.slice h.ha s.c.hops.length h.hc) s.c.hops.length (zv s.c.hops)
  clk : Ck.Clk w h.ck s.p s.d s.s
  que : ∃ l, Qu.Que w 0 h.qb s.c.queue s.lost l h.qv ∧ l.map keyB = s.q
  up : Dp.Win w h.ub s.uL s.uS
  dn : Dp.Win w h.db s.dL s.dS
  gt : Dp.Win w h.gb s.gL s.gS
  ap : h.ub ≠ h.db ∧ h.ub ≠ h.gb ∧ h.db ≠ h.gb
  set : s.inT = true → Pa.St w 0 h.sb s.id s.rk s.set h.sv
  kee : s.hasK = true → Kp.Kee w h.kb s.c.keep s.ks
  path : ∀ k, k < 16 → Mine w 0 3 (h.pv k) (s.paths k).length (zv (s.paths k))

/-! ### What stays -/
theorem own_tid {w : World} {b : Nat} {s t : TypeId} {cs ds : Array Value} (h : Own w b s cs) (g : Own w b t ds) : s = t := by
  unfold Own at h g
  rw [g] at h
  injection h with h
  injection h with _ h _
  exact h.symm
/-- From w to w' nothing has turned but the blocks X, of types T, and what is new. -/
structure Tn (X : Nat → Prop) (T : List TypeId) (w w' : World) : Prop where
  os : w'.os = w.os
  tape : w'.tape = w.tape
  output : w'.output = w.output
  size : w.heap.size ≤ w'.heap.size
  keep : ∀ q, q < w.heap.size → ¬ X q → w'.heap[q]? = w.heap[q]?
  ty : ∀ q, X q → ∃ t cs, Own w q t cs ∧ t ∈ T
section
variable {X : Nat → Prop} {T : List TypeId} {w w' : World}
theorem Tn.of_below (j : Below w.heap.size w w') : Tn (fun _ => False) [] w w' := ⟨j.os, j.tape, j.output, j.size, fun q hq _ => j.block q hq, fun _ h => h.elim⟩
theorem Tn.of_just {b : Nat} {t : TypeId} {cs : Array Value} (j : Just b w w') (o : Own w b t cs) : Tn (fun q => q = b) [t] w w' :=
  ⟨j.os, j.tape, j.output, j.size, fun q hq h => j.block q hq h, fun q e => ⟨t, cs, e ▸ o, by simp⟩⟩
theorem Tn.own (j : Tn X T w w') {q : Nat} {t : TypeId} {cs : Array Value} (h : Own w q t cs) (ht : t ∉ T) : Own w' q t cs :=
  (j.keep q h.lt (fun hx => by
    obtain ⟨t', cs', o, m⟩ := j.ty q hx
    exact ht (own_tid h o ▸ m))).trans h
theorem mineK_blk {base s n : Nat} {e : TypeId} {v : Value} {V : Nat → Value} (h : MineK w base e s v n V) {q : Nat} (hq : v.ownBlock = some q) : ∃ cs, Own w q e cs := by
  obtain ⟨_, h2⟩ := h
  rcases h2 with ⟨hv, _⟩ | ⟨g, cap, cur, hv, _, hh, _⟩
  · subst hv; cases hq
  · subst hv
    have e : some g = some q := hq
    injection e with e
    subst e
    exact ⟨_, hh⟩
theorem mine_blk {base n : Nat} {e : TypeId} {v : Value} {V : Nat → Value} (h : Mine w base e v n V) {q : Nat} (hq : v.ownBlock = some q) : ∃ cs, Own w q e cs := by
  obtain ⟨_, h2⟩ := h
  rcases h2 with ⟨hv, _⟩ | ⟨g, cap, cur, hv, _, hh, _⟩
  · subst hv; cases hq
  · subst hv
    have e : some g = some q := hq
    injection e with e
    subst e
    exact ⟨_, hh⟩
theorem Tn.mine (j : Tn X T w w') {base n : Nat} {e : TypeId} {v : Value} {V : Nat → Value} (h : Mine w base e v n V) (ht : e ∉ T) : Mine w' base e v n V :=
  h.kept (fun q _ => by
    by_cases hl : q < w.heap.size
    · by_cases hx : X q
      · refine .inr (fun e' => ?_)
        obtain ⟨cs, o⟩ := mine_blk h e'
        obtain ⟨t', cs', o', m⟩ := j.ty q hx
        exact ht (own_tid o o' ▸ m)
      · exact .inl (j.keep q hl hx)
    · exact .inr (fun e' => hl (h.lt q e').2))
theorem Tn.mineK (j : Tn X T w w') {base n s : Nat} {e : TypeId} {v : Value} {V : Nat → Value} (h : MineK w base e s v n V) (ht : e ∉ T) : MineK w' base e s v n V :=
  h.kept (fun q _ => by
    by_cases hl : q < w.heap.size
    · by_cases hx : X q
      · refine .inr (fun e' => ?_)
        obtain ⟨cs, o⟩ := mineK_blk h e'
        obtain ⟨t', cs', o', m⟩ := j.ty q hx
        exact ht (own_tid o o' ▸ m)
      · exact .inl (j.keep q hl hx)
    · exact .inr (fun e' => hl (h.lt q e').2))
theorem Tn.bs (j : Tn X T w w') {v : Value} {n : Nat} {Z : Nat → Int} (h : Qu.Bs w v n Z) (ht : 5 ∉ T) : Qu.Bs w' v n Z := by
  rcases h with h | ⟨g, off, c, cs, hv, ho, r⟩
  · exact .inl h
  · exact .inr ⟨g, off, c, cs, hv, j.own ho ht, r⟩
theorem Tn.que (j : Tn X T w w') {base b : Nat} {most lost : Int} {l : List Qu.It} {v : Value} (h : Qu.Que w base b most lost l v) (h1 : 220 ∉ T) (h2 : 229 ∉ T) (h3 : 5 ∉ T) : Qu.Que w' base b most lost l v :=
  ⟨j.own h.own h1, j.mineK h.row h2, fun x hx => j.bs (h.bytes x hx) h3, h.low⟩
theorem Tn.st (j : Tn X T w w') {base b : Nat} {me rk : Int} {l : List Pa.P} {v : Value} (h : Pa.St w base b me rk l v) (h1 : 209 ∉ T) (h2 : 211 ∉ T) : Pa.St w' base b me rk l v :=
  ⟨j.own h.own h1, j.mineK h.row h2, h.srt, h.few, h.low⟩
end
/-- The blocks that are a node's own. -/
def Hm.ex (h : Hm) (b q : Nat) : Prop := q = b ∨ q = h.ck ∨ q = h.qb ∨ h.qv.ownBlock = some q ∨ q = h.ub ∨ q = h.db ∨ q = h.gb ∨ q = h.sb ∨ h.sv.ownBlock = some q ∨ q = h.kb
/-- A node has turned: its own blocks alone, and what is new. -/
structure Mv (E E' : Nat → Prop) (w w' : World) : Prop where
  os : w'.os = w.os
  tape : w'.tape = w.tape
  output : w'.output = w.output
  size : w.heap.size ≤ w'.heap.size
  keep : ∀ q, q < w.heap.size → ¬ E q → w'.heap[q]? = w.heap[q]?
  sub : ∀ q, E' q → E q ∨ w.heap.size ≤ q
theorem Mv.refl (E : Nat → Prop) (w : World) : Mv E E w w := ⟨rfl, rfl, rfl, Nat.le_refl _, fun _ _ _ => rfl, fun _ h => .inl h⟩
theorem Mv.trans {E F G : Nat → Prop} {u v w : World} (h : Mv E F u v) (k : Mv F G v w) : Mv E G u w :=
  ⟨k.os.trans h.os, k.tape.trans h.tape, k.output.trans h.output, Nat.le_trans h.size k.size,
    fun q hq he => (k.keep q (Nat.lt_of_lt_of_le hq h.size) (fun hf => (h.sub q hf).elim he (fun h' => by omega))).trans (h.keep q hq he),
    fun q e => (k.sub q e).elim (fun e' => h.sub q e') (fun h' => .inr (Nat.le_trans h.size h'))⟩
theorem Mv.of_below {E : Nat → Prop} {w w' : World} (j : Below w.heap.size w w') : Mv E E w w' := ⟨j.os, j.tape, j.output, j.size, fun q hq _ => j.block q hq, fun _ h => .inl h⟩
theorem Mv.of_just {E : Nat → Prop} {b : Nat} {w w' : World} (j : Just b w w') (hb : E b) : Mv E E w w' := ⟨j.os, j.tape, j.output, j.size, fun q hq he => j.block q hq (fun e => he (e ▸ hb)), fun _ h => .inl h⟩
section
variable {w w' : World} {b : Nat} {s : Ns} {h : Hm}
theorem Nd.below (n : Nd w b s h) (j : Below w.heap.size w w') : Nd w' b s h := by
  have t := Tn.of_below j
  obtain ⟨l, hq, hk⟩ := n.que
  exact ⟨t.own n.own (by simp), t.mine n.hops (by simp), t.own n.clk (by simp), ⟨l, t.que hq (by simp) (by simp) (by simp), hk⟩, t.own n.up (by simp), t.own n.dn (by simp), t.own n.gt (by simp), n.ap, fun e => t.st (n.set e) (by simp) (by simp), fun e => t.own (n.kee e) (by simp), fun k hk => t.mine (n.path k hk) (by simp)⟩
/-- The clock has turned. -/
theorem Nd.clock (n : Nd w b s h) {p d z : Int} (hc : Ck.Clk w' h.ck p d z) (j : Just h.ck w w') : Nd w' b { s with p := p, d := d, s := z } h := by
  have t := Tn.of_just j n.clk
  obtain ⟨l, hq, hk⟩ := n.que
  exact ⟨t.own n.own (by decide), t.mine n.hops (by decide), hc, ⟨l, t.que hq (by decide) (by decide) (by decide), hk⟩, t.own n.up (by decide), t.own n.dn (by decide), t.own n.gt (by decide), n.ap, fun e => t.st (n.set e) (by decide) (by decide), fun e => t.own (n.kee e) (by decide), fun k hk => t.mine (n.path k hk) (by decide)⟩
/-- The keeper has turned. -/
theorem Nd.keeper (n : Nd w b s h) {z : Int} (hK : s.hasK = true) (hc : Kp.Kee w' h.kb s.c.keep z) (j : Just h.kb w w') : Nd w' b { s with ks := z } h := by
  have t := Tn.of_just j (n.kee hK)
  obtain ⟨l, hq, hk⟩ := n.que
  exact ⟨t.own n.own (by decide), t.mine n.hops (by decide), t.own n.clk (by decide), ⟨l, t.que hq (by decide) (by decide) (by decide), hk⟩, t.own n.up (by decide), t.own n.dn (by decide), t.own n.gt (by decide), n.ap, fun e => t.st (n.set e) (by decide) (by decide), fun _ => hc, fun k hk => t.mine (n.path k hk) (by decide)⟩
/-- A window has turned. -/
theorem Nd.winU (n : Nd w b s h) {L : Nat → Int} {S : Nat → Nat} (hc : Dp.Win w' h.ub L S) (j : Just h.ub w w') : Nd w' b { s with uL := L, uS := S } h := by
  have t := Tn.of_just j n.up
  obtain ⟨l, hq, hk⟩ := n.que
  obtain ⟨a1, a2, a3⟩ := n.ap
  exact ⟨t.own n.own (by decide), t.mine n.hops (by decide), t.own n.clk (by decide), ⟨l, t.que hq (by decide) (by decide) (by decide), hk⟩, hc, j.blk n.dn (fun e => a1 e.symm), j.blk n.gt (fun e => a2 e.symm), n.ap, fun e => t.st (n.set e) (by decide) (by decide), fun e => t.own (n.kee e) (by decide), fun k hk => t.mine (n.path k hk) (by decide)⟩
theorem Nd.winD (n : Nd w b s h) {L : Nat → Int} {S : Nat → Nat} (hc : Dp.Win w' h.db L S) (j : Just h.db w w') : Nd w' b { s with dL := L, dS := S } h := by
  have t := Tn.of_just j n.dn
  obtain ⟨l, hq, hk⟩ := n.que
  obtain ⟨a1, a2, a3⟩ := n.ap
  exact ⟨t.own n.own (by decide), t.mine n.hops (by decide), t.own n.clk (by decide), ⟨l, t.que hq (by decide) (by decide) (by decide), hk⟩, j.blk n.up a1, hc, j.blk n.gt (fun e => a3 e.symm), n.ap, fun e => t.st (n.set e) (by decide) (by decide), fun e => t.own (n.kee e) (by decide), fun k hk => t.mine (n.path k hk) (by decide)⟩
theorem Nd.winG (n : Nd w b s h) {L : Nat → Int} {S : Nat → Nat} (hc : Dp.Win w' h.gb L S) (j : Just h.gb w w') : Nd w' b { s with gL := L, gS := S } h := by
  have t := Tn.of_just j n.gt
  obtain ⟨l, hq, hk⟩ := n.que
  obtain ⟨a1, a2, a3⟩ := n.ap
  exact ⟨t.own n.own (by decide), t.mine n.hops (by decide), t.own n.clk (by decide), ⟨l, t.que hq (by decide) (by decide) (by decide), hk⟩, j.blk n.up a2, j.blk n.dn a3, hc, n.ap, fun e => t.st (n.set e) (by decide) (by decide), fun e => t.own (n.kee e) (by decide), fun k hk => t.mine (n.path k hk) (by decide)⟩
theorem tn_queue {q0 : Nat} {most lost : Int} {l : List Qu.It} {v v' : Value} (q : Qu.Que w 0 q0 most lost l v) (j : Lb.Turn w w' q0 v v') : Tn (fun q => q = q0 ∨ v.ownBlock = some q) [220, 229] w w' :=
  ⟨j.os, j.tape, j.output, j.size, fun q hq hx => j.keep q hq (fun e => hx (.inl e)) (fun e => hx (.inr e)), fun r hr => by
    rcases hr with e | e
    · exact ⟨_, _, e ▸ q.own, by simp⟩
    · obtain ⟨cs, o⟩ := mineK_blk q.row e
      exact ⟨_, _, o, by simp⟩⟩
/-- The queue has turned. -/
theorem Nd.queue (n : Nd w b s h) {l0 l : List Qu.It} {lost most : Int} {v : Value} {q : List (Int × List Int)} (h0 : Qu.Que w 0 h.qb s.c.queue most l0 h.qv) (hc : Qu.Que w' 0 h.qb s.c.queue lost l v) (j : Lb.Turn w w' h.qb h.qv v) (hq : l.map keyB = q) :
    Nd w' b { s with q := q, lost := lost } { h with qv := v } := by
  have t := tn_queue h0 j
  exact ⟨t.own n.own (by decide), t.mine n.hops (by decide), t.own n.clk (by decide), ⟨l, hc, hq⟩, t.own n.up (by decide), t.own n.dn (by decide), t.own n.gt (by decide), n.ap, fun e => t.st (n.set e) (by decide) (by decide), fun e => t.own (n.kee e) (by decide), fun k hk => t.mine (n.path k hk) (by decide)⟩
theorem tn_set {q0 : Nat} {me rk : Int} {l : List Pa.P} {v v' : Value} (q : Pa.St w 0 q0 me rk l v) (j : Pa.Turn w w' q0 v v') : Tn (fun q => q = q0 ∨ v.ownBlock = some q) [209, 211] w w' :=
  ⟨j.os, j.tape, j.output, j.size, fun q hq hx => j.keep q hq (fun e => hx (.inl e)) (fun e => hx (.inr e)), fun r hr => by
    rcases hr with e | e
    · exact ⟨_, _, e ▸ q.own, by simp⟩
    · obtain ⟨cs, o⟩ := mineK_blk q.row e
      exact ⟨_, _, o, by simp⟩⟩
/-- Whom it may follow has turned. -/
theorem Nd.sets (n : Nd w b s h) (hT : s.inT = true) {rk : Int} {l : List Pa.P} {v : Value} (hc : Pa.St w' 0 h.sb s.id rk l v) (j : Pa.Turn w w' h.sb h.sv v) :
    Nd w' b { s with rk := rk, set := l } { h with sv := v } := by
  have t := tn_set (n.set hT) j
  obtain ⟨q, hq, hk⟩ := n.que
  exact ⟨t.own n.own (by decide), t.mine n.hops (by decide), t.own n.clk (by decide), ⟨q, t.que hq (by decide) (by decide) (by decide), hk⟩, t.own n.up (by decide), t.own n.dn (by decide), t.own n.gt (by decide), n.ap, fun _ => hc, fun e => t.own (n.kee e) (by decide), fun k hk => t.mine (n.path k hk) (by decide)⟩
/-- Its own block has turned. -/
theorem Nd.put (n : Nd w b s h) {s' : Ns} {h' : Hm} (j : Just b w w') (ho : Blk w' b 92 43 (ndV s' h')) (h1 : s'.c = s.c ∧ h'.ha = h.ha ∧ h'.hc = h.hc) (h2 : h'.ck = h.ck ∧ s'.p = s.p ∧ s'.d = s.d ∧ s'.s = s.s) (h3 : h'.qb = h.qb ∧ h'.qv = h.qv ∧ s'.q = s.q ∧ s'.lost = s.lost)
    (h4 : h'.ub = h.ub ∧ s'.uL = s.uL ∧ s'.uS = s.uS) (h5 : h'.db = h.db ∧ s'.dL = s.dL ∧ s'.dS = s.dS) (h6 : h'.gb = h.gb ∧ s'.gL = s.gL ∧ s'.gS = s.gS)
    (h7 : s'.inT = true → Pa.St w' 0 h'.sb s'.id s'.rk s'.set h'.sv) (h8 : s'.hasK = true → Kp.Kee w' h'.kb s'.c.keep s'.ks) (h9 : ∀ k, k < 16 → Mine w' 0 3 (h'.pv k) (s'.paths k).length (zv (s'.paths k))) : Nd w' b s' h' := by
  have t := Tn.of_just j n.own
  obtain ⟨l, hq, hk⟩ := n.que
  obtain ⟨e1, e2, e3⟩ := h1
  obtain ⟨f1, f2, f3, f4⟩ := h2
  obtain ⟨g1, g2, g3, g4⟩ := h3
  obtain ⟨k1, k2, k3⟩ := h4
  obtain ⟨l1, l2, l3⟩ := h5
  obtain ⟨m1, m2, m3⟩ := h6
  refine ⟨ho, ?_, ?_, ⟨l, ?_, ?_⟩, ?_, ?_, ?_, ?_, h7, h8, h9⟩
  · rw [e1, e2, e3]; exact t.mine n.hops (by decide)
  · rw [f1, f2, f3, f4]; exact t.own n.clk (by decide)
  · rw [e1, g1, g2, g4]; exact t.que hq (by decide) (by decide) (by decide)
  · rw [g3]; exact hk
  · rw [k1, k2, k3]; exact t.own n.up (by decide)
  · rw [l1, l2, l3]; exact t.own n.dn (by decide)
  · rw [m1, m2, m3]; exact t.own n.gt (by decide)
  · rw [k1, l1, m1]; exact n.ap
end
end Go.Proofs.YtiflmdekcjbmbaaGreat.Nd
set_option maxRecDepth 100000
namespace Go.Proofs.YtiflmdekcjbmbaaGreat.Nd
set_option linter.unusedVariables false
set_option linter.unusedSimpArgs false
open Go.RowKit Lb

def inB (x a b : Int) : Bool := decide (a ≤ x ∧ x ≤ b)
def asnB (x : Int) : Bool := decide (0 ≤ x ∧ x < 1099511627776)
theorem isIn_any (x a b : Int) (w : World) : Calls Tryz.prog 45 #[.int .i64 x, .int .i64 a, .int .i64 b] w fun r w' => r = .returned (.bool (inB x a b)) ∧ w = w' := by
  by_cases h1 : a ≤ x
  · have g1 : decide (a ≤ x) = true := by simpa using h1
    obtain ⟨q, hq⟩ : ∃ q, decide (x ≤ b) = q := ⟨_, rfl⟩
    have HD : Hid (inB x a b = q) := Lib.hid (by unfold inB; rw [← hq]; simp [h1])
    clear h1
    go_enter Tryz.func45, Tryz.ntmps45
    go_wp2_with fail
    go_ret
    exact ⟨by rw [HD.out]; rfl, rfl⟩
  · have g1 : decide (a ≤ x) = false := by simpa using h1
    have HD : Hid (inB x a b = false) := Lib.hid (by unfold inB; simp [h1])
    clear h1
    go_enter Tryz.func45, Tryz.ntmps45
    go_wp2_with fail
    go_ret
    exact ⟨by rw [HD.out]; rfl, rfl⟩
theorem isASN_any (x : Int) (w : World) : Calls Tryz.prog 57 #[.int .i64 x] w fun r w' => r = .returned (.bool (asnB x)) ∧ w = w' := by
  by_cases h1 : 0 ≤ x
  · have g1 : decide (0 ≤ x) = true := by simpa using h1
    obtain ⟨q, hq⟩ : ∃ q, decide (x < 1099511627776) = q := ⟨_, rfl⟩
    have HD : Hid (asnB x = q) := Lib.hid (by unfold asnB; rw [← hq]; simp [h1])
    clear h1
    go_enter Tryz.func57, Tryz.ntmps57
    go_wp2_with fail
    go_ret
    exact ⟨by rw [HD.out]; rfl, rfl⟩
  · have g1 : decide (0 ≤ x) = false := by simpa using h1
    have HD : Hid (asnB x = false) := Lib.hid (by unfold asnB; simp [h1])
    clear h1
    go_enter Tryz.func57, Tryz.ntmps57
    go_wp2_with fail
    go_ret
    exact ⟨by rw [HD.out]; rfl, rfl⟩
section
variable {w : World} {b : Nat} {s : Ns} {h : Hm}
theorem Nd.c_id (n : Nd w b s h) : w.cell? ⟨b, 0, none⟩ = some (.int .i64 s.id) := n.own.cell (by decide)
theorem Nd.c_nodes (n : Nd w b s h) : w.cell? ⟨b, 1, none⟩ = some (.int .i64 s.c.nodes) := n.own.cell (by decide)
theorem Nd.c_hops (n : Nd w b s h) : w.cell? ⟨b, 3, none⟩ = some (.slice h.ha s.c.hops.length h.hc) := n.own.cell (by decide)
theorem Nd.c_keep (n : Nd w b s h) : w.cell? ⟨b, 6, none⟩ = some (.int .i64 s.c.keep) := n.own.cell (by decide)
theorem Nd.c_loss (n : Nd w b s h) : w.cell? ⟨b, 7, none⟩ = some (.int .i64 s.c.loss) := n.own.cell (by decide)
theorem Nd.c_queue (n : Nd w b s h) : w.cell? ⟨b, 8, none⟩ = some (.int .i64 s.c.queue) := n.own.cell (by decide)
theorem Nd.c_life (n : Nd w b s h) : w.cell? ⟨b, 9, none⟩ = some (.int .i64 s.c.life) := n.own.cell (by decide)
theorem Nd.c_ck (n : Nd w b s h) : w.cell? ⟨b, 10, none⟩ = some (.pointer (some ⟨h.ck, 0, none⟩)) := n.own.cell (by decide)
theorem Nd.c_qb (n : Nd w b s h) : w.cell? ⟨b, 11, none⟩ = some (.pointer (some ⟨h.qb, 0, none⟩)) := n.own.cell (by decide)
theorem Nd.c_tries (n : Nd w b s h) : w.cell? ⟨b, 12, none⟩ = some (.int .i64 s.tries) := n.own.cell (by decide)
theorem Nd.c_ub (n : Nd w b s h) : w.cell? ⟨b, 13, none⟩ = some (.pointer (some ⟨h.ub, 0, none⟩)) := n.own.cell (by decide)
theorem Nd.c_db (n : Nd w b s h) : w.cell? ⟨b, 14, none⟩ = some (.pointer (some ⟨h.db, 0, none⟩)) := n.own.cell (by decide)
theorem Nd.c_gb (n : Nd w b s h) : w.cell? ⟨b, 15, none⟩ = some (.pointer (some ⟨h.gb, 0, none⟩)) := n.own.cell (by decide)
theorem Nd.c_seq (n : Nd w b s h) : w.cell? ⟨b, 16, none⟩ = some (.int .i64 s.seq) := n.own.cell (by decide)
theorem Nd.c_last (n : Nd w b s h) : w.cell? ⟨b, 17, none⟩ = some (.int .i64 s.last) := n.own.cell (by decide)
theorem Nd.c_so (n : Nd w b s h) : w.cell? ⟨b, 18, none⟩ = some (.bool s.so) := n.own.cell (by decide)
theorem Nd.c_sa (n : Nd w b s h) : w.cell? ⟨b, 19, none⟩ = some (.int .i64 s.sa) := n.own.cell (by decide)
theorem Nd.c_sk (n : Nd w b s h) : w.cell? ⟨b, 20, none⟩ = some (.int .i64 s.sk) := n.own.cell (by decide)
theorem Nd.c_sd (n : Nd w b s h) : w.cell? ⟨b, 21, none⟩ = some (.int .i64 s.sd) := n.own.cell (by decide)
theorem Nd.c_sq (n : Nd w b s h) : w.cell? ⟨b, 22, none⟩ = some (.int .i64 s.sq) := n.own.cell (by decide)
theorem Nd.c_path (n : Nd w b s h) {k : Nat} (hk : k < 16) : w.cell? ⟨b, 23 + k, none⟩ = some (h.pv k) := by
  rw [n.own.cell (by omega)]
  unfold ndV
  rw [if_neg (by omega), if_pos (by omega), Nat.add_sub_cancel_left]
theorem Nd.c_inT (n : Nd w b s h) : w.cell? ⟨b, 39, none⟩ = some (.bool s.inT) := n.own.cell (by decide)
theorem Nd.c_sb (n : Nd w b s h) : w.cell? ⟨b, 40, none⟩ = some (if s.inT then .pointer (some ⟨h.sb, 0, none⟩) else .pointer none) := n.own.cell (by decide)
theorem Nd.c_kb (n : Nd w b s h) : w.cell? ⟨b, 41, none⟩ = some (if s.hasK then .pointer (some ⟨h.kb, 0, none⟩) else .pointer none) := n.own.cell (by decide)
theorem Nd.c_lis (n : Nd w b s h) : w.cell? ⟨b, 42, none⟩ = some (.int .i64 s.lis) := n.own.cell (by decide)
theorem lives_any (n : Nd w b s h) : Calls Tryz.prog 56 #[.pointer (some ⟨b, 0, none⟩)] w fun r w' => r = .returned (.bool true) ∧ w = w' := by
  have c := n.c_ck
  go_enter Tryz.func56, Tryz.ntmps56
  go_wp2_with fail
  go_ret
  exact ⟨rfl, rfl⟩
theorem lives_nil (w : World) : Calls Tryz.prog 56 #[.pointer none] w fun r w' => r = .returned (.bool false) ∧ w = w' := by
  go_enter Tryz.func56, Tryz.ntmps56
  go_wp2_with fail
  go_ret
  exact ⟨rfl, rfl⟩
theorem synced_any (n : Nd w b s h) : Calls Tryz.prog 35 #[.pointer (some ⟨b, 0, none⟩)] w fun r w' => r = .returned (.bool s.inT) ∧ w = w' := by
  have c := n.c_inT
  go_enter Tryz.func35, Tryz.ntmps35
  go_wp2_with fail
  refine (lives_any n).mono ?_
  rintro r w' ⟨rfl, rfl⟩
  go_wp2_with fail
  go_ret
  exact ⟨rfl, rfl⟩
theorem synced_nil (w : World) : Calls Tryz.prog 35 #[.pointer none] w fun r w' => r = .returned (.bool false) ∧ w = w' := by
  go_enter Tryz.func35, Tryz.ntmps35
  go_wp2_with fail
  refine (lives_nil w).mono ?_
  rintro r w' ⟨rfl, rfl⟩
  go_wp2_with fail
  go_ret
  exact ⟨rfl, rfl⟩
def rankN (s : Ns) : Int := if s.inT then s.rk else 255
theorem rank_any (n : Nd w b s h) : Calls Tryz.prog 36 #[.pointer (some ⟨b, 0, none⟩)] w fun r w' => r = .returned (.int .i64 (rankN s)) ∧ w = w' := by
  have c := n.c_sb
  have PS := synced_any n
  have HS := Lib.hid n.set
  have HD : Hid (rankN s = if s.inT then s.rk else 255) := Lib.hid rfl
  clear n
  obtain ⟨q, hq⟩ : ∃ q, s.inT = q := ⟨_, rfl⟩
  have HQ := Lib.hid hq
  rw [hq] at PS c HD
  clear hq
  cases q
  · go_enter Tryz.func36, Tryz.ntmps36
    go_wp2_with fail
    refine PS.mono ?_
    rintro r w' ⟨rfl, rfl⟩
    go_wp2_with fail
    go_ret
    exact ⟨by rw [HD.out]; rfl, rfl⟩
  · have c : w.cell? ⟨b, 40, none⟩ = some (.pointer (some ⟨h.sb, 0, none⟩)) := c
    go_enter Tryz.func36, Tryz.ntmps36
    go_wp2_with fail
    refine PS.mono ?_
    rintro r w' ⟨rfl, rfl⟩
    go_wp2_with fail
    refine (Pa.rnk_any 0 h.sb s.id s.rk s.set h.sv w (HS.out HQ.out)).mono ?_
    rintro r w' ⟨rfl, rfl⟩
    go_wp2_with fail
    go_ret
    exact ⟨by rw [HD.out]; rfl, rfl⟩
theorem rank_nil (w : World) : Calls Tryz.prog 36 #[.pointer none] w fun r w' => r = .returned (.int .i64 255) ∧ w = w' := by
  go_enter Tryz.func36, Tryz.ntmps36
  go_wp2_with fail
  refine (synced_nil w).mono ?_
  rintro r w' ⟨rfl, rfl⟩
  go_wp2_with fail
  go_ret
  exact ⟨rfl, rfl⟩
/-- Whom it may follow. -/
def parN (s : Ns) : List Pa.P := if s.inT then s.set else []
theorem parents_any (n : Nd w b s h) : Calls Tryz.prog 37 #[.pointer (some ⟨b, 0, none⟩)] w fun r w' => ∃ a c, r = .returned (.slice a (parN s).length c) ∧ (parN s).length ≤ c ∧ c ≤ maxLen ∧ Row w' a (parN s).length (Pa.nov (parN s)) ∧ Below w.heap.size w w' := by
  have c := n.c_sb
  have PS := synced_any n
  have HS := Lib.hid n.set
  have HD : Hid (parN s = if s.inT then s.set else []) := Lib.hid rfl
  clear n
  obtain ⟨q, hq⟩ : ∃ q, s.inT = q := ⟨_, rfl⟩
  have HQ := Lib.hid hq
  rw [hq] at PS c HD
  clear hq
  cases q
  · go_enter Tryz.func37, Tryz.ntmps37
    go_wp2_with fail
    refine PS.mono ?_
    rintro r w' ⟨rfl, rfl⟩
    go_wp2_with fail
    go_ret
    rw [HD.out]
    exact ⟨none, 0, rfl, Nat.le_refl _, Nat.zero_le _, Row.nil _ _ _, Below.refl _ _⟩
  · have c : w.cell? ⟨b, 40, none⟩ = some (.pointer (some ⟨h.sb, 0, none⟩)) := c
    go_enter Tryz.func37, Tryz.ntmps37
    go_wp2_with fail
    refine PS.mono ?_
    rintro r w' ⟨rfl, rfl⟩
    go_wp2_with fail
    refine (Pa.all_any 0 h.sb s.id s.rk s.set h.sv w (HS.out HQ.out)).mono ?_
    rintro r w' ⟨a, cc, rfl, h1, h2, h3, b1⟩
    go_wp2_with fail
    go_ret
    rw [HD.out]
    exact ⟨a, cc, rfl, h1, h2, h3, b1⟩
theorem parents_nil (w : World) : Calls Tryz.prog 37 #[.pointer none] w fun r w' => r = .returned (.slice none 0 0) ∧ w = w' := by
  go_enter Tryz.func37, Tryz.ntmps37
  go_wp2_with fail
  refine (synced_nil w).mono ?_
  rintro r w' ⟨rfl, rfl⟩
  go_wp2_with fail
  go_ret
  exact ⟨rfl, rfl⟩
theorem waiting_any (n : Nd w b s h) : Calls Tryz.prog 39 #[.pointer (some ⟨b, 0, none⟩)] w fun r w' => r = .returned (.int .i64 (s.q.length : Int)) ∧ w = w' := by
  have c := n.c_qb
  obtain ⟨l, hq, hk⟩ := n.que
  have hl : l.length = s.q.length := by rw [← hk, List.length_map]
  have PL := Qu.len_any 0 h.qb s.c.queue s.lost l h.qv w hq
  rw [hl] at PL
  clear hl hk hq
  go_enter Tryz.func39, Tryz.ntmps39
  go_wp2_with fail
  refine (lives_any n).mono ?_
  rintro r w' ⟨rfl, rfl⟩
  go_wp2_with fail
  refine PL.mono ?_
  rintro r w' ⟨rfl, rfl⟩
  go_wp2_with fail
  go_ret
  exact ⟨rfl, rfl⟩
theorem waiting_nil (w : World) : Calls Tryz.prog 39 #[.pointer none] w fun r w' => r = .returned (.int .i64 0) ∧ w = w' := by
  go_enter Tryz.func39, Tryz.ntmps39
  go_wp2_with fail
  refine (lives_nil w).mono ?_
  rintro r w' ⟨rfl, rfl⟩
  go_wp2_with fail
  go_ret
  exact ⟨rfl, rfl⟩
/-- Off. -/
def offN (s : Ns) : Int := Ck.off s.p s.d
theorem off_any (n : Nd w b s h) (hp : -2000000000000 ≤ s.p ∧ s.p ≤ 2000000000000) (hd : -4000000000000000000 ≤ s.d ∧ s.d ≤ 4000000000000000000) : Calls Tryz.prog 38 #[.pointer (some ⟨b, 0, none⟩)] w fun r w' => r = .returned (.int .i64 (offN s)) ∧ ∃ m, w.drewN m = w' := by
  have c := n.c_ck
  have PO := Ck.off_any h.ck s.p s.d s.s w n.clk hp.1 hp.2 hd.1 hd.2
  clear hp hd
  go_enter Tryz.func38, Tryz.ntmps38
  go_wp2_with fail
  refine (lives_any n).mono ?_
  rintro r w' ⟨rfl, rfl⟩
  go_wp2_with fail
  refine PO.mono ?_
  rintro r w' ⟨rfl, m, rfl⟩
  go_wp2_with fail
  go_ret
  exact ⟨rfl, m, rfl⟩
theorem off_nil (w : World) : Calls Tryz.prog 38 #[.pointer none] w fun r w' => r = .returned (.int .i64 0) ∧ w = w' := by
  go_enter Tryz.func38, Tryz.ntmps38
  go_wp2_with fail
  refine (lives_nil w).mono ?_
  rintro r w' ⟨rfl, rfl⟩
  go_wp2_with fail
  go_ret
  exact ⟨rfl, rfl⟩
theorem knows_any (n : Nd w b s h) (x : Int) (hn : 0 ≤ s.c.nodes ∧ s.c.nodes ≤ 1000) : Calls Tryz.prog 102 #[.pointer (some ⟨b, 0, none⟩), .int .i64 x] w fun r w' => r = .returned (.bool (inB x 0 (s.c.nodes - 1))) ∧ w = w' := by
  have c := n.c_nodes
  have e1 : IntKind.i64.wrap (s.c.nodes - 1) = s.c.nodes - 1 := IntWalk.i64_in _ (by omega)
  have PI := fun w => isIn_any x 0 (s.c.nodes - 1) w
  clear hn
  go_enter Tryz.func102, Tryz.ntmps102
  go_wp2_with fail
  refine (PI _).mono ?_
  rintro r w' ⟨rfl, rfl⟩
  go_wp2_with fail
  go_ret
  exact ⟨rfl, rfl⟩
end
end Go.Proofs.YtiflmdekcjbmbaaGreat.Nd
set_option maxRecDepth 100000
namespace Go.Proofs.YtiflmdekcjbmbaaGreat.Nd
set_option linter.unusedVariables false
set_option linter.unusedSimpArgs false
open Go.RowKit Lb

/-- A mesh that may be. -/
structure Okc (c : Cfg) : Prop where
  nodes : 2 ≤ c.nodes ∧ c.nodes ≤ 16
  hops : Hp.mayB (fun i => c.hops.getD i 0) c.hops.length = true
  guard : 1 ≤ c.guard ∧ c.guard ≤ 4000
  err : 0 ≤ c.err ∧ c.err ≤ 1000
  keep : 1 ≤ c.keep ∧ c.keep ≤ 10000
  loss : 1 ≤ c.loss ∧ c.loss ≤ 10000
  queue : 1 ≤ c.queue ∧ c.queue ≤ 32
  life : 1 ≤ c.life ∧ c.life ≤ 15
/-- What the numbers of a state keep to. -/
structure Fit (s : Ns) : Prop where
  c : Okc s.c
  id : 0 ≤ s.id ∧ s.id < s.c.nodes
  z : 0 ≤ s.s ∧ s.s ≤ 1099511627776
  d : -(s.s * 1000000) ≤ s.d ∧ s.d ≤ s.s * 1000000
  p : -1000000000000 ≤ s.p ∧ s.p ≤ 1000000000000
  lis : 0 ≤ s.lis ∧ s.lis ≤ 4000000000000000000
  q : (s.q.length : Int) ≤ s.c.queue
  lost : 0 ≤ s.lost ∧ s.lost ≤ 1000000
  tries : 0 ≤ s.tries ∧ s.tries ≤ 8
  u : Dp.AllG s.uL s.uS
  dn : Dp.AllG s.dL s.dS
  g : Dp.AllG s.gL s.gS
  seq : 0 ≤ s.seq ∧ s.seq < 256
  last : -1 ≤ s.last ∧ s.last < 70368744177664
  few : s.set.length ≤ 3
  rk : 0 ≤ s.rk ∧ s.rk ≤ 255
  root : s.id = 0 → s.inT = true ∧ s.set = [] ∧ s.rk = 0
  ks : 0 ≤ s.ks ∧ s.ks ≤ 1000000
def clkD (d z ppm : Int) : Int := if z = 1099511627776 then d else d + Ck.lim ppm 100 * 10000
def clkS (z : Int) : Int := if z = 1099511627776 then z else z + 1
theorem ckslot_any (b : Nat) (p d z n : Int) (w : World) (h : Ck.Clk w b p d z) (hz : 0 ≤ z ∧ z ≤ 1099511627776) (hd : -(z * 1000000) ≤ d ∧ d ≤ z * 1000000) :
    Calls Tryz.prog 58 #[.pointer (some ⟨b, 0, none⟩), .int .i64 n] w fun r w' => r = .returned (.tuple #[]) ∧ Ck.Clk w' b p (clkD d z n) (clkS z) ∧ Just b w w' := by
  unfold clkD clkS
  by_cases e : z = 1099511627776
  · subst e
    rw [if_pos rfl, if_pos rfl]
    refine (Ck.slot_full b p d n w h).mono ?_
    rintro r w' ⟨rfl, m, rfl⟩
    exact ⟨rfl, h.drewN m, (Just.refl _ _).drewN m⟩
  · rw [if_neg e, if_neg e]
    exact Ck.slot_any b p d z n w h hz.1 (by omega) (by omega) (by omega)
section
variable {w : World} {b : Nat} {s : Ns} {h : Hm}
theorem Nd.lis (n : Nd w b s h) (z : Int) : Nd (w.setCell ⟨b, 42, none⟩ (.int .i64 z)) b { s with lis := z } h := by
  have j := Just.set b w 42 (.int .i64 z)
  have t := Tn.of_just j n.own
  refine n.put j ((n.own.put 42 _).ext (nd_ext (fun i hi => by rcases idx23 i hi with rfl | rfl | rfl | rfl | rfl | rfl | rfl | rfl | rfl | rfl | rfl | rfl | rfl | rfl | rfl | rfl | rfl | rfl | rfl | rfl | rfl | rfl | rfl <;> rfl) (fun j _ => by rw [if_neg (by omega)]) (fun i hi => by rcases idx4 i hi with rfl | rfl | rfl | rfl <;> rfl))) ⟨rfl, rfl, rfl⟩ ⟨rfl, rfl, rfl, rfl⟩ ⟨rfl, rfl, rfl, rfl⟩ ⟨rfl, rfl, rfl⟩ ⟨rfl, rfl, rfl⟩ ⟨rfl, rfl, rfl⟩ (fun e => t.st (n.set e) (by decide) (by decide)) (fun e => t.own (n.kee e) (by decide)) (fun k hk => t.mine (n.path k hk) (by decide))
end
/-- A slot goes by. -/
def slotN (s : Ns) (asn ppm : Int) : Ns := if asnB asn = true then { s with d := clkD s.d s.s (if s.id = 0 then 0 else ppm), s := clkS s.s, lis := if s.inT = true then s.lis else s.lis + 1 } else s
theorem slot_any {w : World} {b : Nat} {s : Ns} {h : Hm} (n : Nd w b s h) (f : Fit s) (asn ppm : Int) :
    Calls Tryz.prog 17 #[.pointer (some ⟨b, 0, none⟩), .int .i64 asn, .int .i64 ppm] w fun r w' => r = .returned (.tuple #[]) ∧ Nd w' b (slotN s asn ppm) h ∧ Mv (h.ex b) (h.ex b) w w' := by
  have PA := isASN_any asn
  cases ha : asnB asn
  · rw [show slotN s asn ppm = s by unfold slotN; rw [if_neg (by rw [ha]; decide)]]
    rw [ha] at PA
    go_enter Tryz.func17, Tryz.ntmps17
    go_wp2_with fail
    refine (lives_any n).mono ?_
    rintro r w' ⟨rfl, rfl⟩
    go_wp2_with fail
    refine (PA _).mono ?_
    rintro r w' ⟨rfl, rfl⟩
    go_wp2_with fail
    refine bodyPost_ret (results_none rfl _ _ _) rfl ?_
    exact ⟨rfl, n, Mv.refl _ _⟩
  · have HE : Hid (slotN s asn ppm = { s with d := clkD s.d s.s (if s.id = 0 then 0 else ppm), s := clkS s.s, lis := if s.inT = true then s.lis else s.lis + 1 }) := Lib.hid (if_pos ha)
    rw [ha] at PA
    have c0 := n.c_id
    have c10 := n.c_ck
    have hl := f.lis
    have e1 : IntKind.i64.wrap (s.lis + 1) = s.lis + 1 := IntWalk.i64_in _ (by omega)
    have PC := fun z => ckslot_any h.ck s.p s.d s.s z w n.clk f.z f.d
    have HN := Lib.hid n
    have PL := lives_any n
    by_cases hi : s.id = 0
    · have g0 : (s.id == 0) = true := by simpa using hi
      have HE2 : Hid (slotN s asn ppm = { s with d := clkD s.d s.s 0, s := clkS s.s, lis := if s.inT = true then s.lis else s.lis + 1 }) := Lib.hid (by rw [HE.out, if_pos hi])
      clear HE hi n f ha hl
      go_enter Tryz.func17, Tryz.ntmps17
      go_wp2_with fail
      refine PL.mono ?_
      rintro r w' ⟨rfl, rfl⟩
      go_wp2_with fail
      refine (PA _).mono ?_
      rintro r w' ⟨rfl, rfl⟩
      go_wp2_with fail
      refine (PC 0).mono ?_
      rintro r w2 ⟨rfl, hc, j⟩
      have n2 := HN.out.clock hc j
      have m2 : Mv (h.ex b) (h.ex b) w w2 := Mv.of_just j (.inr (.inl rfl))
      have d39 := n2.c_inT
      have d42 := n2.c_lis
      have f42 : w2.frozen? ⟨b, 42, none⟩ = false := n2.own.free 42
      have n3 := n2.lis (s.lis + 1)
      have m3 := m2.trans (Mv.of_just (Just.set b w2 42 (.int .i64 (s.lis + 1))) (.inl rfl))
      dsimp only at d39 d42
      clear PC PL PA c0 c10
      obtain ⟨q, hq⟩ : ∃ q, s.inT = q := ⟨_, rfl⟩
      have HQ := Lib.hid hq
      rw [hq] at d39
      clear hq
      cases q
      · go_wp2_with fail
        go_end0
        exact ⟨rfl, by rw [HE2.out, if_neg (by rw [HQ.out]; decide)]; exact n3, m3⟩
      · go_wp2_with fail
        go_end0
        exact ⟨rfl, by rw [HE2.out, if_pos HQ.out]; exact n2, m2⟩
    · have g0 : (s.id == 0) = false := by simpa using hi
      have HE2 : Hid (slotN s asn ppm = { s with d := clkD s.d s.s ppm, s := clkS s.s, lis := if s.inT = true then s.lis else s.lis + 1 }) := Lib.hid (by rw [HE.out, if_neg hi])
      clear HE hi n f ha hl
      go_enter Tryz.func17, Tryz.ntmps17
      go_wp2_with fail
      refine PL.mono ?_
      rintro r w' ⟨rfl, rfl⟩
      go_wp2_with fail
      refine (PA _).mono ?_
      rintro r w' ⟨rfl, rfl⟩
      go_wp2_with fail
      refine (PC ppm).mono ?_
      rintro r w2 ⟨rfl, hc, j⟩
      have n2 := HN.out.clock hc j
      have m2 : Mv (h.ex b) (h.ex b) w w2 := Mv.of_just j (.inr (.inl rfl))
      have d39 := n2.c_inT
      have d42 := n2.c_lis
      have f42 : w2.frozen? ⟨b, 42, none⟩ = false := n2.own.free 42
      have n3 := n2.lis (s.lis + 1)
      have m3 := m2.trans (Mv.of_just (Just.set b w2 42 (.int .i64 (s.lis + 1))) (.inl rfl))
      dsimp only at d39 d42
      clear PC PL PA c0 c10
      obtain ⟨q, hq⟩ : ∃ q, s.inT = q := ⟨_, rfl⟩
      have HQ := Lib.hid hq
      rw [hq] at d39
      clear hq
      cases q
      · go_wp2_with fail
        go_end0
        exact ⟨rfl, by rw [HE2.out, if_neg (by rw [HQ.out]; decide)]; exact n3, m3⟩
      · go_wp2_with fail
        go_end0
        exact ⟨rfl, by rw [HE2.out, if_pos HQ.out]; exact n2, m2⟩
end Go.Proofs.YtiflmdekcjbmbaaGreat.Nd
