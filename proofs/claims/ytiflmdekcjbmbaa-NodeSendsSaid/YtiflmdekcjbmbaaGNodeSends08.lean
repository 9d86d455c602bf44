/-
  A node (chapter 24): its state as a value; where it lies in memory; what stays where something else turns. A node (chapter 24): lives, isASN, isIn, knows; Synced, Rank, Parents, Off, Waiting; Slot. A node (chapter 24): bounds of a state; Slot; the clock in every case. A node (chapter 24): May.
-/
import Derived.Test.YtiflmdekcjbmbaaGNodeSends02
import Derived.Test.YtiflmdekcjbmbaaGNodeSends05
import Derived.Test.YtiflmdekcjbmbaaGNodeSends06
import Derived.Test.YtiflmdekcjbmbaaGNodeSends07
set_option maxRecDepth 100000
namespace Go.Proofs.Ytiflmdekcjbmbaa.Nd
set_option linter.unusedVariables false
set_option linter.unusedSimpArgs false
open Go.RowKit Lb

/-- A mesh, but for who hears whom. -/
structure Cfg where
  nodes : Int
  hops : List Int
  guard : Int
  err : Int
  keep : Int
  loss : Int
  queue : Int
  life : Int
/-- A node. -/
structure Ns where
  id : Int
  c : Cfg
  p : Int
  d : Int
  s : Int
  q : List (Int × List Int)
  lost : Int
  tries : Int
  uL : Nat → Int
  uS : Nat → Nat
  dL : Nat → Int
  dS : Nat → Nat
  gL : Nat → Int
  gS : Nat → Nat
  seq : Int
  last : Int
  so : Bool
  sa : Int
  sk : Int
  sd : Int
  sq : Int
  paths : Nat → List Int
  inT : Bool
  rk : Int
  set : List Pa.P
  ks : Int
  lis : Int
def Ns.hasK (s : Ns) : Bool := s.inT && s.id != 0
/-- Where it lies. -/
structure Hm where
  ha : Option Addr
  hc : Nat
  ck : Nat
  qb : Nat
  qv : Value
  ub : Nat
  db : Nat
  gb : Nat
  sb : Nat
  sv : Value
  kb : Nat
  pv : Nat → Value
def ptr (b : Nat) : Value := .pointer (some ⟨b, 0, none⟩)
def headV (s : Ns) (h : Hm) : Array Value := #[.int .i64 s.id, .int .i64 s.c.nodes, .slice none 0 0, .slice h.ha s.c.hops.length h.hc, .int .i64 s.c.guard, .int .i64 s.c.err, .int .i64 s.c.keep, .int .i64 s.c.loss, .int .i64 s.c.queue, .int .i64 s.c.life,
  ptr h.ck, ptr h.qb, .int .i64 s.tries, ptr h.ub, ptr h.db, ptr h.gb, .int .i64 s.seq, .int .i64 s.last, .bool s.so, .int .i64 s.sa, .int .i64 s.sk, .int .i64 s.sd, .int .i64 s.sq]
def tailV (s : Ns) (h : Hm) : Array Value := #[.bool s.inT, if s.inT then ptr h.sb else .pointer none, if s.hasK then ptr h.kb else .pointer none, .int .i64 s.lis]
def ndV (s : Ns) (h : Hm) (i : Nat) : Value := if i < 23 then (headV s h).getD i undef else if i < 39 then h.pv (i - 23) else (tailV s h).getD (i - 39) undef
theorem idx23 (i : Nat) (hi : i < 23) : i = 0 ∨ i = 1 ∨ i = 2 ∨ i = 3 ∨ i = 4 ∨ i = 5 ∨ i = 6 ∨ i = 7 ∨ i = 8 ∨ i = 9 ∨ i = 10 ∨ i = 11 ∨ i = 12 ∨ i = 13 ∨ i = 14 ∨ i = 15 ∨ i = 16 ∨ i = 17 ∨ i = 18 ∨ i = 19 ∨ i = 20 ∨ i = 21 ∨ i = 22 := by omega
theorem idx4 (i : Nat) (hi : i < 4) : i = 0 ∨ i = 1 ∨ i = 2 ∨ i = 3 := by omega
/-- One cell is put anew. -/
theorem nd_ext {s s' : Ns} {h h' : Hm} {k : Nat} {u : Value} (hh : ∀ i, i < 23 → (headV s' h').getD i undef = if i = k then u else (headV s h).getD i undef) (hp : ∀ j, j < 16 → h'.pv j = if 23 + j = k then u else h.pv j)
    (ht : ∀ j, j < 4 → (tailV s' h').getD j undef = if 39 + j = k then u else (tailV s h).getD j undef) : ∀ i, i < 43 → (if i = k then u else ndV s h i) = ndV s' h' i := by
  intro i hi
  unfold ndV
  by_cases h1 : i < 23
  · rw [if_pos h1, if_pos h1, hh i h1]
  · by_cases h2 : i < 39
    · rw [if_neg h1, if_pos h2, if_neg h1, if_pos h2, hp (i - 23) (by omega)]
      rw [show 23 + (i - 23) = i by omega]
    · rw [if_neg h1, if_neg h2, if_neg h1, if_neg h2, ht (i - 39) (by omega)]
      rw [show 39 + (i - 39) = i by omega]
/-- A queue's entry, without where its bytes lie. -/
def keyB (x : Qu.It) : Int × List Int := (x.to, (List.range x.n).map x.Z)
def zv (l : List Int) (j : Nat) : Value := .int .i64 (l.getD j 0)
structure Nd (w : World) (b : Nat) (s : Ns) (h : Hm) : Prop where
  own : Blk w b 65 43 (ndV s h)
  hops : Mine w 0 3 (.slice h.ha s.c.hops.length h.hc) s.c.hops.length (zv s.c.hops)
  clk : Ck.Clk w h.ck s.p s.d s.s
  que : ∃ l, Qu.Que w 0 h.qb s.c.queue s.lost l h.qv ∧ l.map keyB = s.q
  up : Dp.Win w h.ub s.uL s.uS
  dn : Dp.Win w h.db s.dL s.dS
  gt : Dp.Win w h.gb s.gL s.gS
  ap : h.ub ≠ h.db ∧ h.ub ≠ h.gb ∧ h.db ≠ h.gb
  set : s.inT = true → Pa.St w 0 h.sb s.id s.rk s.set h.sv
  kee : s.hasK = true → Kp.Kee w h.kb s.c.keep s.ks
  path : ∀ k, k < 16 → Mine w 0 3 (h.pv k) (s.paths k).length (zv (s.paths k))

/-! ### What stays -/
theorem own_tid {w : World} {b : Nat} {s t : TypeId} {cs ds : Array Value} (h : Own w b s cs) (g : Own w b t ds) : s = t := by
  unfold Own at h g
  rw [g] at h
  injection h with h
  injection h with _ h _
  exact h.symm
/-- From w to w' nothing has turned but the blocks X, of types T, and what is new. -/
structure Tn (X : Nat → Prop) (T : List TypeId) (w w' : World) : Prop where
  os : w'.os = w.os
  tape : w'.tape = w.tape
  output : w'.output = w.output
  size : w.heap.size ≤ w'.heap.size
  keep : ∀ q, q < w.heap.size → ¬ X q → w'.heap[q]? = w.heap[q]?
  ty : ∀ q, X q → ∃ t cs, Own w q t cs ∧ t ∈ T
section
variable {X : Nat → Prop} {T : List TypeId} {w w' : World}
theorem Tn.of_below (j : Below w.heap.size w w') : Tn (fun _ => False) [] w w' := ⟨j.os, j.tape, j.output, j.size, fun q hq _ => j.block q hq, fun _ h => h.elim⟩
theorem Tn.of_just {b : Nat} {t : TypeId} {cs : Array Value} (j : Just b w w') (o : Own w b t cs) : Tn (fun q => q = b) [t] w w' :=
  ⟨j.os, j.tape, j.output, j.size, fun q hq h => j.block q hq h, fun q e => ⟨t, cs, e ▸ o, by simp⟩⟩
theorem Tn.own (j : Tn X T w w') {q : Nat} {t : TypeId} {cs : Array Value} (h : Own w q t cs) (ht : t ∉ T) : Own w' q t cs :=
  (j.keep q h.lt (fun hx => by
    obtain ⟨t', cs', o, m⟩ := j.ty q hx
    exact ht (own_tid h o ▸ m))).trans h
theorem mineK_blk {base s n : Nat} {e : TypeId} {v : Value} {V : Nat → Value} (h : MineK w base e s v n V) {q : Nat} (hq : v.ownBlock = some q) : ∃ cs, Own w q e cs := by
  obtain ⟨_, h2⟩ := h
  rcases h2 with ⟨hv, _⟩ | ⟨g, cap, cur, hv, _, hh, _⟩
  · subst hv; cases hq
  · subst hv
    have e : some g = some q := hq
    injection e with e
    subst e
    exact ⟨_, hh⟩
theorem mine_blk {base n : Nat} {e : TypeId} {v : Value} {V : Nat → Value} (h : Mine w base e v n V) {q : Nat} (hq : v.ownBlock = some q) : ∃ cs, Own w q e cs := by
  obtain ⟨_, h2⟩ := h
  rcases h2 with ⟨hv, _⟩ | ⟨g, cap, cur, hv, _, hh, _⟩
  · subst hv; cases hq
  · subst hv
    have e : some g = some q := hq
    injection e with e
    subst e
    exact ⟨_, hh⟩
theorem Tn.mine (j : Tn X T w w') {base n : Nat} {e : TypeId} {v : Value} {V : Nat → Value} (h : Mine w base e v n V) (ht : e ∉ T) : Mine w' base e v n V :=
  h.kept (fun q _ => by
    by_cases hl : q < w.heap.size
    · by_cases hx : X q
      · refine .inr (fun e' => ?_)
        obtain ⟨cs, o⟩ := mine_blk h e'
        obtain ⟨t', cs', o', m⟩ := j.ty q hx
        exact ht (own_tid o o' ▸ m)
      · exact .inl (j.keep q hl hx)
    · exact .inr (fun e' => hl (h.lt q e').2))
theorem Tn.mineK (j : Tn X T w w') {base n s : Nat} {e : TypeId} {v : Value} {V : Nat → Value} (h : MineK w base e s v n V) (ht : e ∉ T) : MineK w' base e s v n V :=
  h.kept (fun q _ => by
    by_cases hl : q < w.heap.size
    · by_cases hx : X q
      · refine .inr (fun e' => ?_)
        obtain ⟨cs, o⟩ := mineK_blk h e'
        obtain ⟨t', cs', o', m⟩ := j.ty q hx
        exact ht (own_tid o o' ▸ m)
      · exact .inl (j.keep q hl hx)
    · exact .inr (fun e' => hl (h.lt q e').2))
theorem Tn.bs (j : Tn X T w w') {v : Value} {n : Nat} {Z : Nat → Int} (h : Qu.Bs w v n Z) (ht : 5 ∉ T) : Qu.Bs w' v n Z := by
  rcases h with h | ⟨g, off, c, cs, hv, ho, r⟩
  · exact .inl h
  · exact .inr ⟨g, off, c, cs, hv, j.own ho ht, r⟩
theorem Tn.que (j : Tn X T w w') {base b : Nat} {most lost : Int} {l : List Qu.It} {v : Value} (h : Qu.Que w base b most lost l v) (h1 : 100 ∉ T) (h2 : 130 ∉ T) (h3 : 5 ∉ T) : Qu.Que w' base b most lost l v :=
  ⟨j.own h.own h1, j.mineK h.row h2, fun x hx => j.bs (h.bytes x hx) h3, h.low⟩
theorem Tn.st (j : Tn X T w w') {base b : Nat} {me rk : Int} {l : List Pa.P} {v : Value} (h : Pa.St w base b me rk l v) (h1 : 95 ∉ T) (h2 : 97 ∉ T) : Pa.St w' base b me rk l v :=
  ⟨j.own h.own h1, j.mineK h.row h2, h.srt, h.few, h.low⟩
end
/-- The blocks that are a node's own. -/
def Hm.ex (h : Hm) (b q : Nat) : Prop := q = b ∨ q = h.ck ∨ q = h.qb ∨ h.qv.ownBlock = some q ∨ q = h.ub ∨ q = h.db ∨ q = h.gb ∨ q = h.sb ∨ h.sv.ownBlock = some q ∨ q = h.kb
/-- A node has turned: its own blocks alone, and what is new. -/
structure Mv (E E' : Nat → Prop) (w w' : World) : Prop where
  os : w'.os = w.os
  tape : w'.tape = w.tape
  output : w'.output = w.output
  size : w.heap.size ≤ w'.heap.size
  keep : ∀ q, q < w.heap.size → ¬ E q → w'.heap[q]? = w.heap[q]?
  sub : ∀ q, E' q → E q ∨ w.heap.size ≤ q
theorem Mv.refl (E : Nat → Prop) (w : World) : Mv E E w w := ⟨rfl, rfl, rfl, Nat.le_refl _, fun _ _ _ => rfl, fun _ h => .inl h⟩
theorem Mv.trans {E F G : Nat → Prop} {u v w : World} (h : Mv E F u v) (k : Mv F G v w) : Mv E G u w :=
  ⟨k.os.trans h.os, k.tape.trans h.tape, k.output.trans h.output, Nat.le_trans h.size k.size,
    fun q hq he => (k.keep q (Nat.lt_of_lt_of_le hq h.size) (fun hf => (h.sub q hf).elim he (fun h' => by omega))).trans (h.keep q hq he),
    fun q e => (k.sub q e).elim (fun e' => h.sub q e') (fun h' => .inr (Nat.le_trans h.size h'))⟩
theorem Mv.of_below {E : Nat → Prop} {w w' : World} (j : Below w.heap.size w w') : Mv E E w w' := ⟨j.os, j.tape, j.output, j.size, fun q hq _ => j.block q hq, fun _ h => .inl h⟩
theorem Mv.of_just {E : Nat → Prop} {b : Nat} {w w' : World} (j : Just b w w') (hb : E b) : Mv E E w w' := ⟨j.os, j.tape, j.output, j.size, fun q hq he => j.block q hq (fun e => he (e ▸ hb)), fun _ h => .inl h⟩
section
variable {w w' : World} {b : Nat} {s : Ns} {h : Hm}
theorem Nd.below (n : Nd w b s h) (j : Below w.heap.size w w') : Nd w' b s h := by
  have t := Tn.of_below j
  obtain ⟨l, hq, hk⟩ := n.que
  exact ⟨t.own n.own (by simp), t.mine n.hops (by simp), t.own n.clk (by simp), ⟨l, t.que hq (by simp) (by simp) (by simp), hk⟩, t.own n.up (by simp), t.own n.dn (by simp), t.own n.gt (by simp), n.ap, fun e => t.st (n.set e) (by simp) (by simp), fun e => t.own (n.kee e) (by simp), fun k hk => t.mine (n.path k hk) (by simp)⟩
/-- The clock has turned. -/
theorem Nd.clock (n : Nd w b s h) {p d z : Int} (hc : Ck.Clk w' h.ck p d z) (j : Just h.ck w w') : Nd w' b { s with p := p, d := d, s := z } h := by
  have t := Tn.of_just j n.clk
  obtain ⟨l, hq, hk⟩ := n.que
  exact ⟨t.own n.own (by decide), t.mine n.hops (by decide), hc, ⟨l, t.que hq (by decide) (by decide) (by decide), hk⟩, t.own n.up (by decide), t.own n.dn (by decide), t.own n.gt (by decide), n.ap, fun e => t.st (n.set e) (by decide) (by decide), fun e => t.own (n.kee e) (by decide), fun k hk => t.mine (n.path k hk) (by decide)⟩
/-- The keeper has turned. -/
theorem Nd.keeper (n : Nd w b s h) {z : Int} (hK : s.hasK = true) (hc : Kp.Kee w' h.kb s.c.keep z) (j : Just h.kb w w') : Nd w' b { s with ks := z } h := by
  have t := Tn.of_just j (n.kee hK)
  obtain ⟨l, hq, hk⟩ := n.que
  exact ⟨t.own n.own (by decide), t.mine n.hops (by decide), t.own n.clk (by decide), ⟨l, t.que hq (by decide) (by decide) (by decide), hk⟩, t.own n.up (by decide), t.own n.dn (by decide), t.own n.gt (by decide), n.ap, fun e => t.st (n.set e) (by decide) (by decide), fun _ => hc, fun k hk => t.mine (n.path k hk) (by decide)⟩
/-- A window has turned. -/
theorem Nd.winU (n : Nd w b s h) {L : Nat → Int} {S : Nat → Nat} (hc : Dp.Win w' h.ub L S) (j : Just h.ub w w') : Nd w' b { s with uL := L, uS := S } h := by
  have t := Tn.of_just j n.up
  obtain ⟨l, hq, hk⟩ := n.que
  obtain ⟨a1, a2, a3⟩ := n.ap
  exact ⟨t.own n.own (by decide), t.mine n.hops (by decide), t.own n.clk (by decide), ⟨l, t.que hq (by decide) (by decide) (by decide), hk⟩, hc, j.blk n.dn (fun e => a1 e.symm), j.blk n.gt (fun e => a2 e.symm), n.ap, fun e => t.st (n.set e) (by decide) (by decide), fun e => t.own (n.kee e) (by decide), fun k hk => t.mine (n.path k hk) (by decide)⟩
theorem Nd.winD (n : Nd w b s h) {L : Nat → Int} {S : Nat → Nat} (hc : Dp.Win w' h.db L S) (j : Just h.db w w') : Nd w' b { s with dL := L, dS := S } h := by
  have t := Tn.of_just j n.dn
  obtain ⟨l, hq, hk⟩ := n.que
  obtain ⟨a1, a2, a3⟩ := n.ap
  exact ⟨t.own n.own (by decide), t.mine n.hops (by decide), t.own n.clk (by decide), ⟨l, t.que hq (by decide) (by decide) (by decide), hk⟩, j.blk n.up a1, hc, j.blk n.gt (fun e => a3 e.symm), n.ap, fun e => t.st (n.set e) (by decide) (by decide), fun e => t.own (n.kee e) (by decide), fun k hk => t.mine (n.path k hk) (by decide)⟩
theorem Nd.winG (n : Nd w b s h) {L : Nat → Int} {S : Nat → Nat} (hc : Dp.Win w' h.gb L S) (j : Just h.gb w w') : Nd w' b { s with gL := L, gS := S } h := by
  have t := Tn.of_just j n.gt
  obtain ⟨l, hq, hk⟩ := n.que
  obtain ⟨a1, a2, a3⟩ := n.ap
  exact ⟨t.own n.own (by decide), t.mine n.hops (by decide), t.own n.clk (by decide), ⟨l, t.que hq (by decide) (by decide) (by decide), hk⟩, j.blk n.up a2, j.blk n.dn a3, hc, n.ap, fun e => t.st (n.set e) (by decide) (by decide), fun e => t.own (n.kee e) (by decide), fun k hk => t.mine (n.path k hk) (by decide)⟩
theorem tn_queue {q0 : Nat} {most lost : Int} {l : List Qu.It} {v v' : Value} (q : Qu.Que w 0 q0 most lost l v) (j : Lb.Turn w w' q0 v v') : Tn (fun q => q = q0 ∨ v.ownBlock = some q) [100, 130] w w' :=
  ⟨j.os, j.tape, j.output, j.size, fun q hq hx => j.keep q hq (fun e => hx (.inl e)) (fun e => hx (.inr e)), fun r hr => by
    rcases hr with e | e
    · exact ⟨_, _, e ▸ q.own, by simp⟩
    · obtain ⟨cs, o⟩ := mineK_blk q.row e
      exact ⟨_, _, o, by simp⟩⟩
/-- The queue has turned. -/
theorem Nd.queue (n : Nd w b s h) {l0 l : List Qu.It} {lost most : Int} {v : Value} {q : List (Int × List Int)} (h0 : Qu.Que w 0 h.qb s.c.queue most l0 h.qv) (hc : Qu.Que w' 0 h.qb s.c.queue lost l v) (j : Lb.Turn w w' h.qb h.qv v) (hq : l.map keyB = q) :
    Nd w' b { s with q := q, lost := lost } { h with qv := v } := by
  have t := tn_queue h0 j
  exact ⟨t.own n.own (by decide), t.mine n.hops (by decide), t.own n.clk (by decide), ⟨l, hc, hq⟩, t.own n.up (by decide), t.own n.dn (by decide), t.own n.gt (by decide), n.ap, fun e => t.st (n.set e) (by decide) (by decide), fun e => t.own (n.kee e) (by decide), fun k hk => t.mine (n.path k hk) (by decide)⟩
theorem tn_set {q0 : Nat} {me rk : Int} {l : List Pa.P} {v v' : Value} (q : Pa.St w 0 q0 me rk l v) (j : Pa.Turn w w' q0 v v') : Tn (fun q => q = q0 ∨ v.ownBlock = some q) [95, 97] w w' :=
  ⟨j.os, j.tape, j.output, j.size, fun q hq hx => j.keep q hq (fun e => hx (.inl e)) (fun e => hx (.inr e)), fun r hr => by
    rcases hr with e | e
    · exact ⟨_, _, e ▸ q.own, by simp⟩
    · obtain ⟨cs, o⟩ := mineK_blk q.row e
      exact ⟨_, _, o, by simp⟩⟩
/-- Whom it may follow has turned. -/
theorem Nd.sets (n : Nd w b s h) (hT : s.inT = true) {rk : Int} {l : List Pa.P} {v : Value} (hc : Pa.St w' 0 h.sb s.id rk l v) (j : Pa.Turn w w' h.sb h.sv v) :
    Nd w' b { s with rk := rk, set := l } { h with sv := v } := by
  have t := tn_set (n.set hT) j
  obtain ⟨q, hq, hk⟩ := n.que
  exact ⟨t.own n.own (by decide), t.mine n.hops (by decide), t.own n.clk (by decide), ⟨q, t.que hq (by decide) (by decide) (by decide), hk⟩, t.own n.up (by decide), t.own n.dn (by decide), t.own n.gt (by decide), n.ap, fun _ => hc, fun e => t.own (n.kee e) (by decide), fun k hk => t.mine (n.path k hk) (by decide)⟩
/-- Its own block has turned. -/
theorem Nd.put (n : Nd w b s h) {s' : Ns} {h' : Hm} (j : Just b w w') (ho : Blk w' b 65 43 (ndV s' h')) (h1 : s'.c = s.c ∧ h'.ha = h.ha ∧ h'.hc = h.hc) (h2 : h'.ck = h.ck ∧ s'.p = s.p ∧ s'.d = s.d ∧ s'.s = s.s) (h3 : h'.qb = h.qb ∧ h'.qv = h.qv ∧ s'.q = s.q ∧ s'.lost = s.lost)
    (h4 : h'.ub = h.ub ∧ s'.uL = s.uL ∧ s'.uS = s.uS) (h5 : h'.db = h.db ∧ s'.dL = s.dL ∧ s'.dS = s.dS) (h6 : h'.gb = h.gb ∧ s'.gL = s.gL ∧ s'.gS = s.gS)
    (h7 : s'.inT = true → Pa.St w' 0 h'.sb s'.id s'.rk s'.set h'.sv) (h8 : s'.hasK = true → Kp.Kee w' h'.kb s'.c.keep s'.ks) (h9 : ∀ k, k < 16 → Mine w' 0 3 (h'.pv k) (s'.paths k).length (zv (s'.paths k))) : Nd w' b s' h' := by
  have t := Tn.of_just j n.own
  obtain ⟨l, hq, hk⟩ := n.que
  obtain ⟨e1, e2, e3⟩ := h1
  obtain ⟨f1, f2, f3, f4⟩ := h2
  obtain ⟨g1, g2, g3, g4⟩ := h3
  obtain ⟨k1, k2, k3⟩ := h4
  obtain ⟨l1, l2, l3⟩ := h5
  obtain ⟨m1, m2, m3⟩ := h6
  refine ⟨ho, ?_, ?_, ⟨l, ?_, ?_⟩, ?_, ?_, ?_, ?_, h7, h8, h9⟩
  · rw [e1, e2, e3]; exact t.mine n.hops (by decide)
  · rw [f1, f2, f3, f4]; exact t.own n.clk (by decide)
  · rw [e1, g1, g2, g4]; exact t.que hq (by decide) (by decide) (by decide)
  · rw [g3]; exact hk
  · rw [k1, k2, k3]; exact t.own n.up (by decide)
  · rw [l1, l2, l3]; exact t.own n.dn (by decide)
  · rw [m1, m2, m3]; exact t.own n.gt (by decide)
  · rw [k1, l1, m1]; exact n.ap
end
end Go.Proofs.Ytiflmdekcjbmbaa.Nd
set_option maxRecDepth 100000
namespace Go.Proofs.Ytiflmdekcjbmbaa.Nd
set_option linter.unusedVariables false
set_option linter.unusedSimpArgs false
open Go.RowKit Lb

def inB (x a b : Int) : Bool := decide (a ≤ x ∧ x ≤ b)
def asnB (x : Int) : Bool := decide (0 ≤ x ∧ x < 1099511627776)
theorem isIn_any (x a b : Int) (w : World) : Calls Try.prog 14 #[.int .i64 x, .int .i64 a, .int .i64 b] w fun r w' => r = .returned (.bool (inB x a b)) ∧ w = w' := by
  by_cases h1 : a ≤ x
  · have g1 : decide (a ≤ x) = true := by simpa using h1
    obtain ⟨q, hq⟩ : ∃ q, decide (x ≤ b) = q := ⟨_, rfl⟩
    have HD : Hid (inB x a b = q) := Lib.hid (by unfold inB; rw [← hq]; simp [h1])
    clear h1
    go_enter Try.func14, Try.ntmps14
    go_wp2_with fail
    go_ret
    exact ⟨by rw [HD.out]; rfl, rfl⟩
  · have g1 : decide (a ≤ x) = false := by simpa using h1
    have HD : Hid (inB x a b = false) := Lib.hid (by unfold inB; simp [h1])
    clear h1
    go_enter Try.func14, Try.ntmps14
    go_wp2_with fail
    go_ret
    exact ⟨by rw [HD.out]; rfl, rfl⟩
theorem isASN_any (x : Int) (w : World) : Calls Try.prog 18 #[.int .i64 x] w fun r w' => r = .returned (.bool (asnB x)) ∧ w = w' := by
  by_cases h1 : 0 ≤ x
  · have g1 : decide (0 ≤ x) = true := by simpa using h1
    obtain ⟨q, hq⟩ : ∃ q, decide (x < 1099511627776) = q := ⟨_, rfl⟩
    have HD : Hid (asnB x = q) := Lib.hid (by unfold asnB; rw [← hq]; simp [h1])
    clear h1
    go_enter Try.func18, Try.ntmps18
    go_wp2_with fail
    go_ret
    exact ⟨by rw [HD.out]; rfl, rfl⟩
  · have g1 : decide (0 ≤ x) = false := by simpa using h1
    have HD : Hid (asnB x = false) := Lib.hid (by unfold asnB; simp [h1])
    clear h1
    go_enter Try.func18, Try.ntmps18
    go_wp2_with fail
    go_ret
    exact ⟨by rw [HD.out]; rfl, rfl⟩
section
variable {w : World} {b : Nat} {s : Ns} {h : Hm}
theorem Nd.c_id (n : Nd w b s h) : w.cell? ⟨b, 0, none⟩ = some (.int .i64 s.id) := n.own.cell (by decide)
theorem Nd.c_nodes (n : Nd w b s h) : w.cell? ⟨b, 1, none⟩ = some (.int .i64 s.c.nodes) := n.own.cell (by decide)
theorem Nd.c_hops (n : Nd w b s h) : w.cell? ⟨b, 3, none⟩ = some (.slice h.ha s.c.hops.length h.hc) := n.own.cell (by decide)
theorem Nd.c_keep (n : Nd w b s h) : w.cell? ⟨b, 6, none⟩ = some (.int .i64 s.c.keep) := n.own.cell (by decide)
theorem Nd.c_loss (n : Nd w b s h) : w.cell? ⟨b, 7, none⟩ = some (.int .i64 s.c.loss) := n.own.cell (by decide)
theorem Nd.c_queue (n : Nd w b s h) : w.cell? ⟨b, 8, none⟩ = some (.int .i64 s.c.queue) := n.own.cell (by decide)
theorem Nd.c_life (n : Nd w b s h) : w.cell? ⟨b, 9, none⟩ = some (.int .i64 s.c.life) := n.own.cell (by decide)
theorem Nd.c_ck (n : Nd w b s h) : w.cell? ⟨b, 10, none⟩ = some (.pointer (some ⟨h.ck, 0, none⟩)) := n.own.cell (by decide)
theorem Nd.c_qb (n : Nd w b s h) : w.cell? ⟨b, 11, none⟩ = some (.pointer (some ⟨h.qb, 0, none⟩)) := n.own.cell (by decide)
theorem Nd.c_tries (n : Nd w b s h) : w.cell? ⟨b, 12, none⟩ = some (.int .i64 s.tries) := n.own.cell (by decide)
theorem Nd.c_ub (n : Nd w b s h) : w.cell? ⟨b, 13, none⟩ = some (.pointer (some ⟨h.ub, 0, none⟩)) := n.own.cell (by decide)
theorem Nd.c_db (n : Nd w b s h) : w.cell? ⟨b, 14, none⟩ = some (.pointer (some ⟨h.db, 0, none⟩)) := n.own.cell (by decide)
theorem Nd.c_gb (n : Nd w b s h) : w.cell? ⟨b, 15, none⟩ = some (.pointer (some ⟨h.gb, 0, none⟩)) := n.own.cell (by decide)
theorem Nd.c_seq (n : Nd w b s h) : w.cell? ⟨b, 16, none⟩ = some (.int .i64 s.seq) := n.own.cell (by decide)
theorem Nd.c_last (n : Nd w b s h) : w.cell? ⟨b, 17, none⟩ = some (.int .i64 s.last) := n.own.cell (by decide)
theorem Nd.c_so (n : Nd w b s h) : w.cell? ⟨b, 18, none⟩ = some (.bool s.so) := n.own.cell (by decide)
theorem Nd.c_sa (n : Nd w b s h) : w.cell? ⟨b, 19, none⟩ = some (.int .i64 s.sa) := n.own.cell (by decide)
theorem Nd.c_sk (n : Nd w b s h) : w.cell? ⟨b, 20, none⟩ = some (.int .i64 s.sk) := n.own.cell (by decide)
theorem Nd.c_sd (n : Nd w b s h) : w.cell? ⟨b, 21, none⟩ = some (.int .i64 s.sd) := n.own.cell (by decide)
theorem Nd.c_sq (n : Nd w b s h) : w.cell? ⟨b, 22, none⟩ = some (.int .i64 s.sq) := n.own.cell (by decide)
theorem Nd.c_path (n : Nd w b s h) {k : Nat} (hk : k < 16) : w.cell? ⟨b, 23 + k, none⟩ = some (h.pv k) := by
  rw [n.own.cell (by omega)]
  unfold ndV
  rw [if_neg (by omega), if_pos (by omega), Nat.add_sub_cancel_left]
theorem Nd.c_inT (n : Nd w b s h) : w.cell? ⟨b, 39, none⟩ = some (.bool s.inT) := n.own.cell (by decide)
theorem Nd.c_sb (n : Nd w b s h) : w.cell? ⟨b, 40, none⟩ = some (if s.inT then .pointer (some ⟨h.sb, 0, none⟩) else .pointer none) := n.own.cell (by decide)
theorem Nd.c_kb (n : Nd w b s h) : w.cell? ⟨b, 41, none⟩ = some (if s.hasK then .pointer (some ⟨h.kb, 0, none⟩) else .pointer none) := n.own.cell (by decide)
theorem Nd.c_lis (n : Nd w b s h) : w.cell? ⟨b, 42, none⟩ = some (.int .i64 s.lis) := n.own.cell (by decide)
theorem lives_any (n : Nd w b s h) : Calls Try.prog 17 #[.pointer (some ⟨b, 0, none⟩)] w fun r w' => r = .returned (.bool true) ∧ w = w' := by
  have c := n.c_ck
  go_enter Try.func17, Try.ntmps17
  go_wp2_with fail
  go_ret
  exact ⟨rfl, rfl⟩
theorem lives_nil (w : World) : Calls Try.prog 17 #[.pointer none] w fun r w' => r = .returned (.bool false) ∧ w = w' := by
  go_enter Try.func17, Try.ntmps17
  go_wp2_with fail
  go_ret
  exact ⟨rfl, rfl⟩
theorem synced_any (n : Nd w b s h) : Calls Try.prog 12 #[.pointer (some ⟨b, 0, none⟩)] w fun r w' => r = .returned (.bool s.inT) ∧ w = w' := by
  have c := n.c_inT
  go_enter Try.func12, Try.ntmps12
  go_wp2_with fail
  refine (lives_any n).mono ?_
  rintro r w' ⟨rfl, rfl⟩
  go_wp2_with fail
  go_ret
  exact ⟨rfl, rfl⟩
theorem synced_nil (w : World) : Calls Try.prog 12 #[.pointer none] w fun r w' => r = .returned (.bool false) ∧ w = w' := by
  go_enter Try.func12, Try.ntmps12
  go_wp2_with fail
  refine (lives_nil w).mono ?_
  rintro r w' ⟨rfl, rfl⟩
  go_wp2_with fail
  go_ret
  exact ⟨rfl, rfl⟩
def rankN (s : Ns) : Int := if s.inT then s.rk else 255
theorem rank_any (n : Nd w b s h) : Calls Try.prog 61 #[.pointer (some ⟨b, 0, none⟩)] w fun r w' => r = .returned (.int .i64 (rankN s)) ∧ w = w' := by
  have c := n.c_sb
  have PS := synced_any n
  have HS := Lib.hid n.set
  have HD : Hid (rankN s = if s.inT then s.rk else 255) := Lib.hid rfl
  clear n
  obtain ⟨q, hq⟩ : ∃ q, s.inT = q := ⟨_, rfl⟩
  have HQ := Lib.hid hq
  rw [hq] at PS c HD
  clear hq
  cases q
  · go_enter Try.func61, Try.ntmps61
    go_wp2_with fail
    refine PS.mono ?_
    rintro r w' ⟨rfl, rfl⟩
    go_wp2_with fail
    go_ret
    exact ⟨by rw [HD.out]; rfl, rfl⟩
  · have c : w.cell? ⟨b, 40, none⟩ = some (.pointer (some ⟨h.sb, 0, none⟩)) := c
    go_enter Try.func61, Try.ntmps61
    go_wp2_with fail
    refine PS.mono ?_
    rintro r w' ⟨rfl, rfl⟩
    go_wp2_with fail
    refine (Pa.rnk_any 0 h.sb s.id s.rk s.set h.sv w (HS.out HQ.out)).mono ?_
    rintro r w' ⟨rfl, rfl⟩
    go_wp2_with fail
    go_ret
    exact ⟨by rw [HD.out]; rfl, rfl⟩
theorem rank_nil (w : World) : Calls Try.prog 61 #[.pointer none] w fun r w' => r = .returned (.int .i64 255) ∧ w = w' := by
  go_enter Try.func61, Try.ntmps61
  go_wp2_with fail
  refine (synced_nil w).mono ?_
  rintro r w' ⟨rfl, rfl⟩
  go_wp2_with fail
  go_ret
  exact ⟨rfl, rfl⟩
/-- Whom it may follow. -/
def parN (s : Ns) : List Pa.P := if s.inT then s.set else []
theorem waiting_any (n : Nd w b s h) : Calls Try.prog 10 #[.pointer (some ⟨b, 0, none⟩)] w fun r w' => r = .returned (.int .i64 (s.q.length : Int)) ∧ w = w' := by
  have c := n.c_qb
  obtain ⟨l, hq, hk⟩ := n.que
  have hl : l.length = s.q.length := by rw [← hk, List.length_map]
  have PL := Qu.len_any 0 h.qb s.c.queue s.lost l h.qv w hq
  rw [hl] at PL
  clear hl hk hq
  go_enter Try.func10, Try.ntmps10
  go_wp2_with fail
  refine (lives_any n).mono ?_
  rintro r w' ⟨rfl, rfl⟩
  go_wp2_with fail
  refine PL.mono ?_
  rintro r w' ⟨rfl, rfl⟩
  go_wp2_with fail
  go_ret
  exact ⟨rfl, rfl⟩
theorem waiting_nil (w : World) : Calls Try.prog 10 #[.pointer none] w fun r w' => r = .returned (.int .i64 0) ∧ w = w' := by
  go_enter Try.func10, Try.ntmps10
  go_wp2_with fail
  refine (lives_nil w).mono ?_
  rintro r w' ⟨rfl, rfl⟩
  go_wp2_with fail
  go_ret
  exact ⟨rfl, rfl⟩
/-- Off. -/
def offN (s : Ns) : Int := Ck.off s.p s.d
theorem knows_any (n : Nd w b s h) (x : Int) (hn : 0 ≤ s.c.nodes ∧ s.c.nodes ≤ 1000) : Calls Try.prog 19 #[.pointer (some ⟨b, 0, none⟩), .int .i64 x] w fun r w' => r = .returned (.bool (inB x 0 (s.c.nodes - 1))) ∧ w = w' := by
  have c := n.c_nodes
  have e1 : IntKind.i64.wrap (s.c.nodes - 1) = s.c.nodes - 1 := IntWalk.i64_in _ (by omega)
  have PI := fun w => isIn_any x 0 (s.c.nodes - 1) w
  clear hn
  go_enter Try.func19, Try.ntmps19
  go_wp2_with fail
  refine (PI _).mono ?_
  rintro r w' ⟨rfl, rfl⟩
  go_wp2_with fail
  go_ret
  exact ⟨rfl, rfl⟩
end
end Go.Proofs.Ytiflmdekcjbmbaa.Nd
set_option maxRecDepth 100000
namespace Go.Proofs.Ytiflmdekcjbmbaa.Nd
set_option linter.unusedVariables false
set_option linter.unusedSimpArgs false
open Go.RowKit Lb

/-- A mesh that may be. -/
structure Okc (c : Cfg) : Prop where
  nodes : 2 ≤ c.nodes ∧ c.nodes ≤ 16
  hops : Hp.mayB (fun i => c.hops.getD i 0) c.hops.length = true
  guard : 1 ≤ c.guard ∧ c.guard ≤ 4000
  err : 0 ≤ c.err ∧ c.err ≤ 1000
  keep : 1 ≤ c.keep ∧ c.keep ≤ 10000
  loss : 1 ≤ c.loss ∧ c.loss ≤ 10000
  queue : 1 ≤ c.queue ∧ c.queue ≤ 32
  life : 1 ≤ c.life ∧ c.life ≤ 15
/-- What the numbers of a state keep to. -/
structure Fit (s : Ns) : Prop where
  c : Okc s.c
  id : 0 ≤ s.id ∧ s.id < s.c.nodes
  z : 0 ≤ s.s ∧ s.s ≤ 1099511627776
  d : -(s.s * 1000000) ≤ s.d ∧ s.d ≤ s.s * 1000000
  p : -1000000000000 ≤ s.p ∧ s.p ≤ 1000000000000
  lis : 0 ≤ s.lis ∧ s.lis ≤ 4000000000000000000
  q : (s.q.length : Int) ≤ s.c.queue
  lost : 0 ≤ s.lost ∧ s.lost ≤ 1000000
  tries : 0 ≤ s.tries ∧ s.tries ≤ 8
  u : Dp.AllG s.uL s.uS
  dn : Dp.AllG s.dL s.dS
  g : Dp.AllG s.gL s.gS
  seq : 0 ≤ s.seq ∧ s.seq < 256
  last : -1 ≤ s.last ∧ s.last < 70368744177664
  few : s.set.length ≤ 3
  rk : 0 ≤ s.rk ∧ s.rk ≤ 255
  root : s.id = 0 → s.inT = true ∧ s.set = [] ∧ s.rk = 0
  ks : 0 ≤ s.ks ∧ s.ks ≤ 1000000
def clkD (d z ppm : Int) : Int := if z = 1099511627776 then d else d + Ck.lim ppm 100 * 10000
def clkS (z : Int) : Int := if z = 1099511627776 then z else z + 1
section
variable {w : World} {b : Nat} {s : Ns} {h : Hm}
theorem Nd.lis (n : Nd w b s h) (z : Int) : Nd (w.setCell ⟨b, 42, none⟩ (.int .i64 z)) b { s with lis := z } h := by
  have j := Just.set b w 42 (.int .i64 z)
  have t := Tn.of_just j n.own
  refine n.put j ((n.own.put 42 _).ext (nd_ext (fun i hi => by rcases idx23 i hi with rfl | rfl | rfl | rfl | rfl | rfl | rfl | rfl | rfl | rfl | rfl | rfl | rfl | rfl | rfl | rfl | rfl | rfl | rfl | rfl | rfl | rfl | rfl <;> rfl) (fun j _ => by rw [if_neg (by omega)]) (fun i hi => by rcases idx4 i hi with rfl | rfl | rfl | rfl <;> rfl))) ⟨rfl, rfl, rfl⟩ ⟨rfl, rfl, rfl, rfl⟩ ⟨rfl, rfl, rfl, rfl⟩ ⟨rfl, rfl, rfl⟩ ⟨rfl, rfl, rfl⟩ ⟨rfl, rfl, rfl⟩ (fun e => t.st (n.set e) (by decide) (by decide)) (fun e => t.own (n.kee e) (by decide)) (fun k hk => t.mine (n.path k hk) (by decide))
end
/-- A slot goes by. -/
def slotN (s : Ns) (asn ppm : Int) : Ns := if asnB asn = true then { s with d := clkD s.d s.s (if s.id = 0 then 0 else ppm), s := clkS s.s, lis := if s.inT = true then s.lis else s.lis + 1 } else s
end Go.Proofs.Ytiflmdekcjbmbaa.Nd
set_option maxRecDepth 100000
namespace Go.Proofs.Ytiflmdekcjbmbaa.Nd
set_option linter.unusedVariables false
set_option linter.unusedSimpArgs false
open Go.RowKit Lb

theorem low_bit (N D : Nat) (hN : N < 18446744073709551616) : Go.bits .and .u64 ((N : Int) / 2 ^ D) 1 = (((if N.testBit D then 1 else 0 : Nat)) : Int) := by
  have e : ((N : Int) / 2 ^ D) = ((N / 2 ^ D : Nat) : Int) := by simp
  have hl : N / 2 ^ D < 18446744073709551616 := Nat.lt_of_le_of_lt (Nat.div_le_self _ _) hN
  have := u64_and_nat (N / 2 ^ D) 1 hl (by decide)
  rw [e, show (1 : Int) = ((1 : Nat) : Int) from rfl, this, Nat.and_one_is_mod, Nat.testBit_eq_decide_div_mod_eq]
  congr 1
  have : N / 2 ^ D % 2 < 2 := Nat.mod_lt _ (by decide)
  by_cases h : N / 2 ^ D % 2 = 1
  · simp [h]
  · simp [h]
    omega
theorem high_part (x n : Nat) : ((x : Int) / 2 ^ n != 0) = !decide (x < 2 ^ n) := by
  have e : ((x : Int) / 2 ^ n) = ((x / 2 ^ n : Nat) : Int) := by simp
  rw [e]
  by_cases h : x < 2 ^ n
  · rw [Nat.div_eq_of_lt h]; simp [h]
  · have : 0 < x / 2 ^ n := Nat.div_pos (by omega) (Nat.two_pow_pos n)
    rw [decide_eq_false h]
    simp
    omega
/-- Who hears whom may be: nobody hears itself, nor who is none. -/
def nrB (N : Nat) (Z : Nat → Nat) : Nat → Bool
  | 0 => true
  | k + 1 => nrB N Z k && (!(Z k).testBit k && decide (Z k < 2 ^ N))
theorem nrB_no {N : Nat} {Z : Nat → Nat} {n k : Nat} (hk : k < n) (h : (!(Z k).testBit k && decide (Z k < 2 ^ N)) = false) : nrB N Z n = false := by
  induction n with
  | zero => omega
  | succ n ih =>
    rw [nrB]
    by_cases e : k = n
    · subst e; rw [h]; simp
    · rw [ih (by omega)]; rfl
set_option maxHeartbeats 1000000 in
theorem near_any (N : Nat) (a : Option Addr) (n c : Nat) (Z : Nat → Nat) (w : World) (hN : 2 ≤ N ∧ N ≤ 16) (hn : n ≤ c) (hm : c ≤ maxLen) (hZ : Row w a n (fun i => .int .u64 (Z i : Int))) (hb : ∀ i, i < n → Z i < 18446744073709551616) :
    Calls Try.prog 33 #[.int .i64 (N : Nat), .slice a n c] w fun r w' => r = .returned (.bool (decide (n = N) && nrB N Z n)) ∧ w = w' := by
  unfold maxLen at hm
  have hn63 : (n : Int) ≤ 9223372036854775807 := by omega
  by_cases e : n = N
  rotate_left 1
  · have g : ((n : Int) != (N : Int)) = true := by simpa using fun h => e (by omega)
    have HD : Hid ((decide (n = N) && nrB N Z n) = false) := Lib.hid (by rw [decide_eq_false e]; rfl)
    clear e
    go_enter Try.func33, Try.ntmps33
    go_wp2_with fail
    go_ret
    exact ⟨by rw [HD.out]; rfl, rfl⟩
  subst e
  have g : ((n : Int) != (n : Int)) = false := by simp
  have HB := Lib.hid hb
  have HZ := Lib.hid hZ
  clear hb hZ
  go_enter Try.func33, Try.ntmps33
  go_wp2_with fail
  go_loopw [13] (fun i wz => ∃ k : Nat, i = .int .i64 k ∧ k ≤ n ∧ Hid (nrB n Z k = true) ∧ w = wz) (fun i _ => n - (intOf i).toNat)
  case atStart => exact ⟨0, rfl, Nat.zero_le _, Lib.hid rfl, rfl⟩
  case round =>
    obtain ⟨k, rfl, hk, HR, rfl⟩ := hrel
    by_cases hlt : k < n
    · obtain ⟨bo, off, rfl, _, c0⟩ := HZ.out.at_ hlt
      have hz := HB.out k hlt
      have hno := nrB_no (N := n) (Z := Z) hlt
      have hyes : nrB n Z (k + 1) = (nrB n Z k && (!(Z k).testBit k && decide (Z k < 2 ^ n))) := rfl
      obtain ⟨x, hx⟩ : ∃ x, Z k = x := ⟨_, rfl⟩
      rw [hx] at c0 hz hno hyes
      have e1 := low_bit x k hz
      have e2 := high_part x n
      clear hx hz
      cases h1 : x.testBit k
      · rw [h1] at e1 hno hyes
        have e1 : bits .and .u64 ((x : Int) / 2 ^ k) 1 = 0 := e1
        cases h2 : decide (x < 2 ^ n)
        · rw [h2] at e2 hno
          have e2 : ((x : Int) / 2 ^ n != 0) = true := e2
          have HD : Hid (nrB n Z n = false) := Lib.hid (hno rfl)
          clear hno hyes h1 h2
          go_wp2_with fail
          go_ret
          exact ⟨by rw [HD.out]; simp, rfl⟩
        · rw [h2] at e2 hyes
          have e2 : ((x : Int) / 2 ^ n != 0) = false := e2
          have HD : Hid (nrB n Z (k + 1) = true) := Lib.hid (by rw [hyes, HR.out]; rfl)
          clear hno hyes h1 h2
          go_wp2_with fail
          exact ⟨⟨k + 1, by simp, by omega, HD, by first | rfl | trivial⟩, by simp [intOf]; omega⟩
      · rw [h1] at e1 hno
        have e1 : bits .and .u64 ((x : Int) / 2 ^ k) 1 = 1 := e1
        have HD : Hid (nrB n Z n = false) := Lib.hid (hno rfl)
        clear hno hyes h1
        go_wp2_with fail
        go_ret
        exact ⟨by rw [HD.out]; simp, rfl⟩
    · obtain rfl : n = k := by omega
      go_wp2_with fail
      go_ret
      exact ⟨by rw [HR.out]; simp, rfl⟩
/-- A mesh as it is handed in. -/
structure Cx where
  nodes : Int
  na : Option Addr
  nn : Nat
  nc : Nat
  Z : Nat → Nat
  ha : Option Addr
  hops : List Int
  hc : Nat
  guard : Int
  err : Int
  keep : Int
  loss : Int
  queue : Int
  life : Int
structure Cx.At (w : World) (x : Cx) : Prop where
  n1 : x.nn ≤ x.nc
  n2 : x.nc ≤ maxLen
  near : Row w x.na x.nn (fun i => .int .u64 (x.Z i : Int))
  nb : ∀ i, i < x.nn → x.Z i < 18446744073709551616
  h1 : x.hops.length ≤ x.hc
  h2 : x.hc ≤ maxLen
  hops : Row w x.ha x.hops.length (zv x.hops)
  hnil : x.ha = none → x.hops.length = 0
theorem Cx.At.below {w w' : World} {x : Cx} (h : x.At w) (j : Below w.heap.size w w') : x.At w' := ⟨h.n1, h.n2, h.near.below j, h.nb, h.h1, h.h2, h.hops.below j, h.hnil⟩
def Cx.cfg (x : Cx) : Cfg := ⟨x.nodes, x.hops, x.guard, x.err, x.keep, x.loss, x.queue, x.life⟩
def nearQ (x : Cx) : Bool := decide ((x.nn : Int) = x.nodes) && nrB x.nodes.toNat x.Z x.nn
def mayQ (x : Cx) : Bool := inB x.nodes 2 16 && (nearQ x && (Hp.mayB (fun i => x.hops.getD i 0) x.hops.length && (inB x.guard 1 4000 && (inB x.err 0 1000 && (inB x.keep 1 10000 && (inB x.loss 1 10000 && (inB x.queue 1 32 && inB x.life 1 15)))))))
theorem nearQ_any (x : Cx) (w : World) (H : x.At w) (h0 : inB x.nodes 2 16 = true) (q : Bool) (e : nearQ x = q) : Calls Try.prog 33 #[.int .i64 x.nodes, .slice x.na x.nn x.nc] w fun r w' => r = .returned (.bool q) ∧ w = w' := by
  unfold inB at h0
  rw [decide_eq_true_eq] at h0
  obtain ⟨N, hN⟩ := Int.eq_ofNat_of_zero_le (show 0 ≤ x.nodes by omega)
  have := near_any N x.na x.nn x.nc x.Z w (by omega) H.n1 H.n2 H.near H.nb
  have e2 : (decide (x.nn = N) && nrB N x.Z x.nn) = q := by
    rw [← e]
    unfold nearQ
    rw [hN, Int.toNat_natCast]
    congr 1
    exact decide_eq_decide.2 ⟨fun h => by omega, fun h => by omega⟩
  rw [e2] at this
  rw [hN]
  exact this
set_option maxHeartbeats 8000000 in
theorem may_any (x : Cx) (w : World) (h : x.At w) :
    Calls Try.prog 13 #[.agg #[.int .i64 x.nodes, .slice x.na x.nn x.nc, .slice x.ha x.hops.length x.hc, .int .i64 x.guard, .int .i64 x.err, .int .i64 x.keep, .int .i64 x.loss, .int .i64 x.queue, .int .i64 x.life]] w fun r w' => r = .returned (.bool (mayQ x)) ∧ Below w.heap.size w w' := by
  have hb := (Below.refl w.heap.size w).alloc (Nat.le_refl _) (.cells #[.int .i64 x.nodes, .slice x.na x.nn x.nc, .slice x.ha x.hops.length x.hc, .int .i64 x.guard, .int .i64 x.err, .int .i64 x.keep, .int .i64 x.loss, .int .i64 x.queue, .int .i64 x.life] 28)
  have H := h.below hb
  have P0 := fun (q : Bool) (e : inB x.nodes 2 16 = q) => e ▸ isIn_any x.nodes 2 16 (w.alloc (.cells #[.int .i64 x.nodes, .slice x.na x.nn x.nc, .slice x.ha x.hops.length x.hc, .int .i64 x.guard, .int .i64 x.err, .int .i64 x.keep, .int .i64 x.loss, .int .i64 x.queue, .int .i64 x.life] 28))
  have P1 := fun (q : Bool) (h0 : inB x.nodes 2 16 = true) (e : nearQ x = q) => nearQ_any x (w.alloc (.cells #[.int .i64 x.nodes, .slice x.na x.nn x.nc, .slice x.ha x.hops.length x.hc, .int .i64 x.guard, .int .i64 x.err, .int .i64 x.keep, .int .i64 x.loss, .int .i64 x.queue, .int .i64 x.life] 28)) H h0 q e
  have P2 := fun (q : Bool) (e : Hp.mayB (fun i => x.hops.getD i 0) x.hops.length = q) => e ▸ Hp.may_any x.ha x.hops.length x.hc (fun i => x.hops.getD i 0) (w.alloc (.cells #[.int .i64 x.nodes, .slice x.na x.nn x.nc, .slice x.ha x.hops.length x.hc, .int .i64 x.guard, .int .i64 x.err, .int .i64 x.keep, .int .i64 x.loss, .int .i64 x.queue, .int .i64 x.life] 28)) H.h1 H.h2 H.hops
  have P3 := fun (q : Bool) (e : inB x.guard 1 4000 = q) => e ▸ isIn_any x.guard 1 4000 (w.alloc (.cells #[.int .i64 x.nodes, .slice x.na x.nn x.nc, .slice x.ha x.hops.length x.hc, .int .i64 x.guard, .int .i64 x.err, .int .i64 x.keep, .int .i64 x.loss, .int .i64 x.queue, .int .i64 x.life] 28))
  have P4 := fun (q : Bool) (e : inB x.err 0 1000 = q) => e ▸ isIn_any x.err 0 1000 (w.alloc (.cells #[.int .i64 x.nodes, .slice x.na x.nn x.nc, .slice x.ha x.hops.length x.hc, .int .i64 x.guard, .int .i64 x.err, .int .i64 x.keep, .int .i64 x.loss, .int .i64 x.queue, .int .i64 x.life] 28))
  have P5 := fun (q : Bool) (e : inB x.keep 1 10000 = q) => e ▸ isIn_any x.keep 1 10000 (w.alloc (.cells #[.int .i64 x.nodes, .slice x.na x.nn x.nc, .slice x.ha x.hops.length x.hc, .int .i64 x.guard, .int .i64 x.err, .int .i64 x.keep, .int .i64 x.loss, .int .i64 x.queue, .int .i64 x.life] 28))
  have P6 := fun (q : Bool) (e : inB x.loss 1 10000 = q) => e ▸ isIn_any x.loss 1 10000 (w.alloc (.cells #[.int .i64 x.nodes, .slice x.na x.nn x.nc, .slice x.ha x.hops.length x.hc, .int .i64 x.guard, .int .i64 x.err, .int .i64 x.keep, .int .i64 x.loss, .int .i64 x.queue, .int .i64 x.life] 28))
  have P7 := fun (q : Bool) (e : inB x.queue 1 32 = q) => e ▸ isIn_any x.queue 1 32 (w.alloc (.cells #[.int .i64 x.nodes, .slice x.na x.nn x.nc, .slice x.ha x.hops.length x.hc, .int .i64 x.guard, .int .i64 x.err, .int .i64 x.keep, .int .i64 x.loss, .int .i64 x.queue, .int .i64 x.life] 28))
  have P8 := fun (q : Bool) (e : inB x.life 1 15 = q) => e ▸ isIn_any x.life 1 15 (w.alloc (.cells #[.int .i64 x.nodes, .slice x.na x.nn x.nc, .slice x.ha x.hops.length x.hc, .int .i64 x.guard, .int .i64 x.err, .int .i64 x.keep, .int .i64 x.loss, .int .i64 x.queue, .int .i64 x.life] 28))
  have oB := Own.new w 28 #[.int .i64 x.nodes, .slice x.na x.nn x.nc, .slice x.ha x.hops.length x.hc, .int .i64 x.guard, .int .i64 x.err, .int .i64 x.keep, .int .i64 x.loss, .int .i64 x.queue, .int .i64 x.life]
  have HM : Hid (mayQ x = (inB x.nodes 2 16 && (nearQ x && (Hp.mayB (fun i => x.hops.getD i 0) x.hops.length && (inB x.guard 1 4000 && (inB x.err 0 1000 && (inB x.keep 1 10000 && (inB x.loss 1 10000 && (inB x.queue 1 32 && inB x.life 1 15))))))))) := Lib.hid rfl
  clear h H
  cases h0 : inB x.nodes 2 16
  · skip
    rw [h0] at HM
    go_enter Try.func13, Try.ntmps13
    go_upto_region 1 with (fail)
    obtain ⟨xb, hxb⟩ : ∃ q, w.heap.size = q := ⟨_, rfl⟩
    have HB := Lib.hid hb
    clear hb
    rw [hxb] at oB ⊢
    generalize w.alloc (.cells #[.int .i64 x.nodes, .slice x.na x.nn x.nc, .slice x.ha x.hops.length x.hc, .int .i64 x.guard, .int .i64 x.err, .int .i64 x.keep, .int .i64 x.loss, .int .i64 x.queue, .int .i64 x.life] 28) = wx at *
    have c0 : wx.cell? ⟨xb, 0, none⟩ = some (.int .i64 x.nodes) := oB.cell 0
    have c1 : wx.cell? ⟨xb, 1, none⟩ = some (.slice x.na x.nn x.nc) := oB.cell 1
    have c2 : wx.cell? ⟨xb, 2, none⟩ = some (.slice x.ha x.hops.length x.hc) := oB.cell 2
    have c3 : wx.cell? ⟨xb, 3, none⟩ = some (.int .i64 x.guard) := oB.cell 3
    have c4 : wx.cell? ⟨xb, 4, none⟩ = some (.int .i64 x.err) := oB.cell 4
    have c5 : wx.cell? ⟨xb, 5, none⟩ = some (.int .i64 x.keep) := oB.cell 5
    have c6 : wx.cell? ⟨xb, 6, none⟩ = some (.int .i64 x.loss) := oB.cell 6
    have c7 : wx.cell? ⟨xb, 7, none⟩ = some (.int .i64 x.queue) := oB.cell 7
    have c8 : wx.cell? ⟨xb, 8, none⟩ = some (.int .i64 x.life) := oB.cell 8
    clear oB hxb
    go_wp2_with fail
    refine (P0 _ h0).mono ?_
    rintro r w' ⟨rfl, rfl⟩
    go_wp2_with fail
    go_ret
    exact ⟨by rw [HM.out]; rfl, HB.out⟩
  cases h1 : nearQ x
  · skip
    rw [h0, h1] at HM
    go_enter Try.func13, Try.ntmps13
    go_upto_region 1 with (fail)
    obtain ⟨xb, hxb⟩ : ∃ q, w.heap.size = q := ⟨_, rfl⟩
    have HB := Lib.hid hb
    clear hb
    rw [hxb] at oB ⊢
    generalize w.alloc (.cells #[.int .i64 x.nodes, .slice x.na x.nn x.nc, .slice x.ha x.hops.length x.hc, .int .i64 x.guard, .int .i64 x.err, .int .i64 x.keep, .int .i64 x.loss, .int .i64 x.queue, .int .i64 x.life] 28) = wx at *
    have c0 : wx.cell? ⟨xb, 0, none⟩ = some (.int .i64 x.nodes) := oB.cell 0
    have c1 : wx.cell? ⟨xb, 1, none⟩ = some (.slice x.na x.nn x.nc) := oB.cell 1
    have c2 : wx.cell? ⟨xb, 2, none⟩ = some (.slice x.ha x.hops.length x.hc) := oB.cell 2
    have c3 : wx.cell? ⟨xb, 3, none⟩ = some (.int .i64 x.guard) := oB.cell 3
    have c4 : wx.cell? ⟨xb, 4, none⟩ = some (.int .i64 x.err) := oB.cell 4
    have c5 : wx.cell? ⟨xb, 5, none⟩ = some (.int .i64 x.keep) := oB.cell 5
    have c6 : wx.cell? ⟨xb, 6, none⟩ = some (.int .i64 x.loss) := oB.cell 6
    have c7 : wx.cell? ⟨xb, 7, none⟩ = some (.int .i64 x.queue) := oB.cell 7
    have c8 : wx.cell? ⟨xb, 8, none⟩ = some (.int .i64 x.life) := oB.cell 8
    clear oB hxb
    go_wp2_with fail
    refine (P0 _ h0).mono ?_
    rintro r w' ⟨rfl, rfl⟩
    go_wp2_with fail
    refine (P1 _ h0 h1).mono ?_
    rintro r w' ⟨rfl, rfl⟩
    go_wp2_with fail
    go_ret
    exact ⟨by rw [HM.out]; rfl, HB.out⟩
  cases h2 : Hp.mayB (fun i => x.hops.getD i 0) x.hops.length
  · skip
    rw [h0, h1, h2] at HM
    go_enter Try.func13, Try.ntmps13
    go_upto_region 1 with (fail)
    obtain ⟨xb, hxb⟩ : ∃ q, w.heap.size = q := ⟨_, rfl⟩
    have HB := Lib.hid hb
    clear hb
    rw [hxb] at oB ⊢
    generalize w.alloc (.cells #[.int .i64 x.nodes, .slice x.na x.nn x.nc, .slice x.ha x.hops.length x.hc, .int .i64 x.guard, .int .i64 x.err, .int .i64 x.keep, .int .i64 x.loss, .int .i64 x.queue, .int .i64 x.life] 28) = wx at *
    have c0 : wx.cell? ⟨xb, 0, none⟩ = some (.int .i64 x.nodes) := oB.cell 0
    have c1 : wx.cell? ⟨xb, 1, none⟩ = some (.slice x.na x.nn x.nc) := oB.cell 1
    have c2 : wx.cell? ⟨xb, 2, none⟩ = some (.slice x.ha x.hops.length x.hc) := oB.cell 2
    have c3 : wx.cell? ⟨xb, 3, none⟩ = some (.int .i64 x.guard) := oB.cell 3
    have c4 : wx.cell? ⟨xb, 4, none⟩ = some (.int .i64 x.err) := oB.cell 4
    have c5 : wx.cell? ⟨xb, 5, none⟩ = some (.int .i64 x.keep) := oB.cell 5
    have c6 : wx.cell? ⟨xb, 6, none⟩ = some (.int .i64 x.loss) := oB.cell 6
    have c7 : wx.cell? ⟨xb, 7, none⟩ = some (.int .i64 x.queue) := oB.cell 7
    have c8 : wx.cell? ⟨xb, 8, none⟩ = some (.int .i64 x.life) := oB.cell 8
    clear oB hxb
    go_wp2_with fail
    refine (P0 _ h0).mono ?_
    rintro r w' ⟨rfl, rfl⟩
    go_wp2_with fail
    refine (P1 _ h0 h1).mono ?_
    rintro r w' ⟨rfl, rfl⟩
    go_wp2_with fail
    refine (P2 _ h2).mono ?_
    rintro r w' ⟨rfl, rfl⟩
    go_wp2_with fail
    go_ret
    exact ⟨by rw [HM.out]; rfl, HB.out⟩
  cases h3 : inB x.guard 1 4000
  · skip
    rw [h0, h1, h2, h3] at HM
    go_enter Try.func13, Try.ntmps13
    go_upto_region 1 with (fail)
    obtain ⟨xb, hxb⟩ : ∃ q, w.heap.size = q := ⟨_, rfl⟩
    have HB := Lib.hid hb
    clear hb
    rw [hxb] at oB ⊢
    generalize w.alloc (.cells #[.int .i64 x.nodes, .slice x.na x.nn x.nc, .slice x.ha x.hops.length x.hc, .int .i64 x.guard, .int .i64 x.err, .int .i64 x.keep, .int .i64 x.loss, .int .i64 x.queue, .int .i64 x.life] 28) = wx at *
    have c0 : wx.cell? ⟨xb, 0, none⟩ = some (.int .i64 x.nodes) := oB.cell 0
    have c1 : wx.cell? ⟨xb, 1, none⟩ = some (.slice x.na x.nn x.nc) := oB.cell 1
    have c2 : wx.cell? ⟨xb, 2, none⟩ = some (.slice x.ha x.hops.length x.hc) := oB.cell 2
    have c3 : wx.cell? ⟨xb, 3, none⟩ = some (.int .i64 x.guard) := oB.cell 3
    have c4 : wx.cell? ⟨xb, 4, none⟩ = some (.int .i64 x.err) := oB.cell 4
    have c5 : wx.cell? ⟨xb, 5, none⟩ = some (.int .i64 x.keep) := oB.cell 5
    have c6 : wx.cell? ⟨xb, 6, none⟩ = some (.int .i64 x.loss) := oB.cell 6
    have c7 : wx.cell? ⟨xb, 7, none⟩ = some (.int .i64 x.queue) := oB.cell 7
    have c8 : wx.cell? ⟨xb, 8, none⟩ = some (.int .i64 x.life) := oB.cell 8
    clear oB hxb
    go_wp2_with fail
    refine (P0 _ h0).mono ?_
    rintro r w' ⟨rfl, rfl⟩
    go_wp2_with fail
    refine (P1 _ h0 h1).mono ?_
    rintro r w' ⟨rfl, rfl⟩
    go_wp2_with fail
    refine (P2 _ h2).mono ?_
    rintro r w' ⟨rfl, rfl⟩
    go_wp2_with fail
    refine (P3 _ h3).mono ?_
    rintro r w' ⟨rfl, rfl⟩
    go_wp2_with fail
    go_ret
    exact ⟨by rw [HM.out]; rfl, HB.out⟩
  cases h4 : inB x.err 0 1000
  · skip
    rw [h0, h1, h2, h3, h4] at HM
    go_enter Try.func13, Try.ntmps13
    go_upto_region 1 with (fail)
    obtain ⟨xb, hxb⟩ : ∃ q, w.heap.size = q := ⟨_, rfl⟩
    have HB := Lib.hid hb
    clear hb
    rw [hxb] at oB ⊢
    generalize w.alloc (.cells #[.int .i64 x.nodes, .slice x.na x.nn x.nc, .slice x.ha x.hops.length x.hc, .int .i64 x.guard, .int .i64 x.err, .int .i64 x.keep, .int .i64 x.loss, .int .i64 x.queue, .int .i64 x.life] 28) = wx at *
    have c0 : wx.cell? ⟨xb, 0, none⟩ = some (.int .i64 x.nodes) := oB.cell 0
    have c1 : wx.cell? ⟨xb, 1, none⟩ = some (.slice x.na x.nn x.nc) := oB.cell 1
    have c2 : wx.cell? ⟨xb, 2, none⟩ = some (.slice x.ha x.hops.length x.hc) := oB.cell 2
    have c3 : wx.cell? ⟨xb, 3, none⟩ = some (.int .i64 x.guard) := oB.cell 3
    have c4 : wx.cell? ⟨xb, 4, none⟩ = some (.int .i64 x.err) := oB.cell 4
    have c5 : wx.cell? ⟨xb, 5, none⟩ = some (.int .i64 x.keep) := oB.cell 5
    have c6 : wx.cell? ⟨xb, 6, none⟩ = some (.int .i64 x.loss) := oB.cell 6
    have c7 : wx.cell? ⟨xb, 7, none⟩ = some (.int .i64 x.queue) := oB.cell 7
    have c8 : wx.cell? ⟨xb, 8, none⟩ = some (.int .i64 x.life) := oB.cell 8
    clear oB hxb
    go_wp2_with fail
    refine (P0 _ h0).mono ?_
    rintro r w' ⟨rfl, rfl⟩
    go_wp2_with fail
    refine (P1 _ h0 h1).mono ?_
    rintro r w' ⟨rfl, rfl⟩
    go_wp2_with fail
    refine (P2 _ h2).mono ?_
    rintro r w' ⟨rfl, rfl⟩
    go_wp2_with fail
    refine (P3 _ h3).mono ?_
    rintro r w' ⟨rfl, rfl⟩
    go_wp2_with fail
    refine (P4 _ h4).mono ?_
    rintro r w' ⟨rfl, rfl⟩
    go_wp2_with fail
    go_ret
    exact ⟨by rw [HM.out]; rfl, HB.out⟩
  cases h5 : inB x.keep 1 10000
  · skip
    rw [h0, h1, h2, h3, h4, h5] at HM
    go_enter Try.func13, Try.ntmps13
    go_upto_region 1 with (fail)
    obtain ⟨xb, hxb⟩ : ∃ q, w.heap.size = q := ⟨_, rfl⟩
    have HB := Lib.hid hb
    clear hb
    rw [hxb] at oB ⊢
    generalize w.alloc (.cells #[.int .i64 x.nodes, .slice x.na x.nn x.nc, .slice x.ha x.hops.length x.hc, .int .i64 x.guard, .int .i64 x.err, .int .i64 x.keep, .int .i64 x.loss, .int .i64 x.queue, .int .i64 x.life] 28) = wx at *
    have c0 : wx.cell? ⟨xb, 0, none⟩ = some (.int .i64 x.nodes) := oB.cell 0
    have c1 : wx.cell? ⟨xb, 1, none⟩ = some (.slice x.na x.nn x.nc) := oB.cell 1
    have c2 : wx.cell? ⟨xb, 2, none⟩ = some (.slice x.ha x.hops.length x.hc) := oB.cell 2
    have c3 : wx.cell? ⟨xb, 3, none⟩ = some (.int .i64 x.guard) := oB.cell 3
    have c4 : wx.cell? ⟨xb, 4, none⟩ = some (.int .i64 x.err) := oB.cell 4
    have c5 : wx.cell? ⟨xb, 5, none⟩ = some (.int .i64 x.keep) := oB.cell 5
    have c6 : wx.cell? ⟨xb, 6, none⟩ = some (.int .i64 x.loss) := oB.cell 6
    have c7 : wx.cell? ⟨xb, 7, none⟩ = some (.int .i64 x.queue) := oB.cell 7
    have c8 : wx.cell? ⟨xb, 8, none⟩ = some (.int .i64 x.life) := oB.cell 8
    clear oB hxb
    go_wp2_with fail
    refine (P0 _ h0).mono ?_
    rintro r w' ⟨rfl, rfl⟩
    go_wp2_with fail
    refine (P1 _ h0 h1).mono ?_
    rintro r w' ⟨rfl, rfl⟩
    go_wp2_with fail
    refine (P2 _ h2).mono ?_
    rintro r w' ⟨rfl, rfl⟩
    go_wp2_with fail
    refine (P3 _ h3).mono ?_
    rintro r w' ⟨rfl, rfl⟩
    go_wp2_with fail
    refine (P4 _ h4).mono ?_
    rintro r w' ⟨rfl, rfl⟩
    go_wp2_with fail
    refine (P5 _ h5).mono ?_
    rintro r w' ⟨rfl, rfl⟩
    go_wp2_with fail
    go_ret
    exact ⟨by rw [HM.out]; rfl, HB.out⟩
  cases h6 : inB x.loss 1 10000
  · skip
    rw [h0, h1, h2, h3, h4, h5, h6] at HM
    go_enter Try.func13, Try.ntmps13
    go_upto_region 1 with (fail)
    obtain ⟨xb, hxb⟩ : ∃ q, w.heap.size = q := ⟨_, rfl⟩
    have HB := Lib.hid hb
    clear hb
    rw [hxb] at oB ⊢
    generalize w.alloc (.cells #[.int .i64 x.nodes, .slice x.na x.nn x.nc, .slice x.ha x.hops.length x.hc, .int .i64 x.guard, .int .i64 x.err, .int .i64 x.keep, .int .i64 x.loss, .int .i64 x.queue, .int .i64 x.life] 28) = wx at *
    have c0 : wx.cell? ⟨xb, 0, none⟩ = some (.int .i64 x.nodes) := oB.cell 0
    have c1 : wx.cell? ⟨xb, 1, none⟩ = some (.slice x.na x.nn x.nc) := oB.cell 1
    have c2 : wx.cell? ⟨xb, 2, none⟩ = some (.slice x.ha x.hops.length x.hc) := oB.cell 2
    have c3 : wx.cell? ⟨xb, 3, none⟩ = some (.int .i64 x.guard) := oB.cell 3
    have c4 : wx.cell? ⟨xb, 4, none⟩ = some (.int .i64 x.err) := oB.cell 4
    have c5 : wx.cell? ⟨xb, 5, none⟩ = some (.int .i64 x.keep) := oB.cell 5
    have c6 : wx.cell? ⟨xb, 6, none⟩ = some (.int .i64 x.loss) := oB.cell 6
    have c7 : wx.cell? ⟨xb, 7, none⟩ = some (.int .i64 x.queue) := oB.cell 7
    have c8 : wx.cell? ⟨xb, 8, none⟩ = some (.int .i64 x.life) := oB.cell 8
    clear oB hxb
    go_wp2_with fail
    refine (P0 _ h0).mono ?_
    rintro r w' ⟨rfl, rfl⟩
    go_wp2_with fail
    refine (P1 _ h0 h1).mono ?_
    rintro r w' ⟨rfl, rfl⟩
    go_wp2_with fail
    refine (P2 _ h2).mono ?_
    rintro r w' ⟨rfl, rfl⟩
    go_wp2_with fail
    refine (P3 _ h3).mono ?_
    rintro r w' ⟨rfl, rfl⟩
    go_wp2_with fail
    refine (P4 _ h4).mono ?_
    rintro r w' ⟨rfl, rfl⟩
    go_wp2_with fail
    refine (P5 _ h5).mono ?_
    rintro r w' ⟨rfl, rfl⟩
    go_wp2_with fail
    refine (P6 _ h6).mono ?_
    rintro r w' ⟨rfl, rfl⟩
    go_wp2_with fail
    go_ret
    exact ⟨by rw [HM.out]; rfl, HB.out⟩
  cases h7 : inB x.queue 1 32
  · skip
    rw [h0, h1, h2, h3, h4, h5, h6, h7] at HM
    go_enter Try.func13, Try.ntmps13
    go_upto_region 1 with (fail)
    obtain ⟨xb, hxb⟩ : ∃ q, w.heap.size = q := ⟨_, rfl⟩
    have HB := Lib.hid hb
    clear hb
    rw [hxb] at oB ⊢
    generalize w.alloc (.cells #[.int .i64 x.nodes, .slice x.na x.nn x.nc, .slice x.ha x.hops.length x.hc, .int .i64 x.guard, .int .i64 x.err, .int .i64 x.keep, .int .i64 x.loss, .int .i64 x.queue, .int .i64 x.life] 28) = wx at *
    have c0 : wx.cell? ⟨xb, 0, none⟩ = some (.int .i64 x.nodes) := oB.cell 0
    have c1 : wx.cell? ⟨xb, 1, none⟩ = some (.slice x.na x.nn x.nc) := oB.cell 1
    have c2 : wx.cell? ⟨xb, 2, none⟩ = some (.slice x.ha x.hops.length x.hc) := oB.cell 2
    have c3 : wx.cell? ⟨xb, 3, none⟩ = some (.int .i64 x.guard) := oB.cell 3
    have c4 : wx.cell? ⟨xb, 4, none⟩ = some (.int .i64 x.err) := oB.cell 4
    have c5 : wx.cell? ⟨xb, 5, none⟩ = some (.int .i64 x.keep) := oB.cell 5
    have c6 : wx.cell? ⟨xb, 6, none⟩ = some (.int .i64 x.loss) := oB.cell 6
    have c7 : wx.cell? ⟨xb, 7, none⟩ = some (.int .i64 x.queue) := oB.cell 7
    have c8 : wx.cell? ⟨xb, 8, none⟩ = some (.int .i64 x.life) := oB.cell 8
    clear oB hxb
    go_wp2_with fail
    refine (P0 _ h0).mono ?_
    rintro r w' ⟨rfl, rfl⟩
    go_wp2_with fail
    refine (P1 _ h0 h1).mono ?_
    rintro r w' ⟨rfl, rfl⟩
    go_wp2_with fail
    refine (P2 _ h2).mono ?_
    rintro r w' ⟨rfl, rfl⟩
    go_wp2_with fail
    refine (P3 _ h3).mono ?_
    rintro r w' ⟨rfl, rfl⟩
    go_wp2_with fail
    refine (P4 _ h4).mono ?_
    rintro r w' ⟨rfl, rfl⟩
    go_wp2_with fail
    refine (P5 _ h5).mono ?_
    rintro r w' ⟨rfl, rfl⟩
    go_wp2_with fail
    refine (P6 _ h6).mono ?_
    rintro r w' ⟨rfl, rfl⟩
    go_wp2_with fail
    refine (P7 _ h7).mono ?_
    rintro r w' ⟨rfl, rfl⟩
    go_wp2_with fail
    go_ret
    exact ⟨by rw [HM.out]; rfl, HB.out⟩
  cases h8 : inB x.life 1 15
  · skip
    rw [h0, h1, h2, h3, h4, h5, h6, h7, h8] at HM
    go_enter Try.func13, Try.ntmps13
    go_upto_region 1 with (fail)
    obtain ⟨xb, hxb⟩ : ∃ q, w.heap.size = q := ⟨_, rfl⟩
    have HB := Lib.hid hb
    clear hb
    rw [hxb] at oB ⊢
    generalize w.alloc (.cells #[.int .i64 x.nodes, .slice x.na x.nn x.nc, .slice x.ha x.hops.length x.hc, .int .i64 x.guard, .int .i64 x.err, .int .i64 x.keep, .int .i64 x.loss, .int .i64 x.queue, .int .i64 x.life] 28) = wx at *
    have c0 : wx.cell? ⟨xb, 0, none⟩ = some (.int .i64 x.nodes) := oB.cell 0
    have c1 : wx.cell? ⟨xb, 1, none⟩ = some (.slice x.na x.nn x.nc) := oB.cell 1
    have c2 : wx.cell? ⟨xb, 2, none⟩ = some (.slice x.ha x.hops.length x.hc) := oB.cell 2
    have c3 : wx.cell? ⟨xb, 3, none⟩ = some (.int .i64 x.guard) := oB.cell 3
    have c4 : wx.cell? ⟨xb, 4, none⟩ = some (.int .i64 x.err) := oB.cell 4
    have c5 : wx.cell? ⟨xb, 5, none⟩ = some (.int .i64 x.keep) := oB.cell 5
    have c6 : wx.cell? ⟨xb, 6, none⟩ = some (.int .i64 x.loss) := oB.cell 6
    have c7 : wx.cell? ⟨xb, 7, none⟩ = some (.int .i64 x.queue) := oB.cell 7
    have c8 : wx.cell? ⟨xb, 8, none⟩ = some (.int .i64 x.life) := oB.cell 8
    clear oB hxb
    go_wp2_with fail
    refine (P0 _ h0).mono ?_
    rintro r w' ⟨rfl, rfl⟩
    go_wp2_with fail
    refine (P1 _ h0 h1).mono ?_
    rintro r w' ⟨rfl, rfl⟩
    go_wp2_with fail
    refine (P2 _ h2).mono ?_
    rintro r w' ⟨rfl, rfl⟩
    go_wp2_with fail
    refine (P3 _ h3).mono ?_
    rintro r w' ⟨rfl, rfl⟩
    go_wp2_with fail
    refine (P4 _ h4).mono ?_
    rintro r w' ⟨rfl, rfl⟩
    go_wp2_with fail
    refine (P5 _ h5).mono ?_
    rintro r w' ⟨rfl, rfl⟩
    go_wp2_with fail
    refine (P6 _ h6).mono ?_
    rintro r w' ⟨rfl, rfl⟩
    go_wp2_with fail
    refine (P7 _ h7).mono ?_
    rintro r w' ⟨rfl, rfl⟩
    go_wp2_with fail
    refine (P8 _ h8).mono ?_
    rintro r w' ⟨rfl, rfl⟩
    go_wp2_with fail
    go_ret
    exact ⟨by rw [HM.out]; rfl, HB.out⟩
  · skip
    rw [h0, h1, h2, h3, h4, h5, h6, h7, h8] at HM
    go_enter Try.func13, Try.ntmps13
    go_upto_region 1 with (fail)
    obtain ⟨xb, hxb⟩ : ∃ q, w.heap.size = q := ⟨_, rfl⟩
    have HB := Lib.hid hb
    clear hb
    rw [hxb] at oB ⊢
    generalize w.alloc (.cells #[.int .i64 x.nodes, .slice x.na x.nn x.nc, .slice x.ha x.hops.length x.hc, .int .i64 x.guard, .int .i64 x.err, .int .i64 x.keep, .int .i64 x.loss, .int .i64 x.queue, .int .i64 x.life] 28) = wx at *
    have c0 : wx.cell? ⟨xb, 0, none⟩ = some (.int .i64 x.nodes) := oB.cell 0
    have c1 : wx.cell? ⟨xb, 1, none⟩ = some (.slice x.na x.nn x.nc) := oB.cell 1
    have c2 : wx.cell? ⟨xb, 2, none⟩ = some (.slice x.ha x.hops.length x.hc) := oB.cell 2
    have c3 : wx.cell? ⟨xb, 3, none⟩ = some (.int .i64 x.guard) := oB.cell 3
    have c4 : wx.cell? ⟨xb, 4, none⟩ = some (.int .i64 x.err) := oB.cell 4
    have c5 : wx.cell? ⟨xb, 5, none⟩ = some (.int .i64 x.keep) := oB.cell 5
    have c6 : wx.cell? ⟨xb, 6, none⟩ = some (.int .i64 x.loss) := oB.cell 6
    have c7 : wx.cell? ⟨xb, 7, none⟩ = some (.int .i64 x.queue) := oB.cell 7
    have c8 : wx.cell? ⟨xb, 8, none⟩ = some (.int .i64 x.life) := oB.cell 8
    clear oB hxb
    go_wp2_with fail
    refine (P0 _ h0).mono ?_
    rintro r w' ⟨rfl, rfl⟩
    go_wp2_with fail
    refine (P1 _ h0 h1).mono ?_
    rintro r w' ⟨rfl, rfl⟩
    go_wp2_with fail
    refine (P2 _ h2).mono ?_
    rintro r w' ⟨rfl, rfl⟩
    go_wp2_with fail
    refine (P3 _ h3).mono ?_
    rintro r w' ⟨rfl, rfl⟩
    go_wp2_with fail
    refine (P4 _ h4).mono ?_
    rintro r w' ⟨rfl, rfl⟩
    go_wp2_with fail
    refine (P5 _ h5).mono ?_
    rintro r w' ⟨rfl, rfl⟩
    go_wp2_with fail
    refine (P6 _ h6).mono ?_
    rintro r w' ⟨rfl, rfl⟩
    go_wp2_with fail
    refine (P7 _ h7).mono ?_
    rintro r w' ⟨rfl, rfl⟩
    go_wp2_with fail
    refine (P8 _ h8).mono ?_
    rintro r w' ⟨rfl, rfl⟩
    go_wp2_with fail
    go_ret
    exact ⟨by rw [HM.out]; rfl, HB.out⟩
end Go.Proofs.Ytiflmdekcjbmbaa.Nd
