/-
  Law VersionTwo: the memory of its walk; the code of its switch and of its last test, by name; each of its ways: a schedule is begun; the word comes to a node, and back; what was begun is to count; what was begun is broken off; the word that it counts comes to a node; the last test of a node that has cells, and of one without.
-/
import Derived.Test.YtdpkiolngglpaaaVeInv
import Derived.Test.YtdpkiolngglpaaaVeCalls
import Derived.Test.YtdpkiolngglpaaaAlRClean
import Derived.Test.YtdpkiolngglpaaaCeSort
import Derived.Test.YtdpkiolngglpaaaTyGrow
import Derived.Test.YtdpkiolngglpaaaVar
import Derived.Deep.Cut
import Derived.Deep.CutRange
import Derived.Deep.CutBlock
import Derived.Deep.RegionHeld3
set_option maxRecDepth 100000
namespace Go.Proofs.Ytdpkiolngglpaaa.VersionTwo
set_option linter.unusedVariables false
set_option linter.unusedSimpArgs false
open Go.RowKit Go.ChangeShapes Go.WideShapes Go.ChangeAt Go.Deep Lb Cl Ce Mi Al Ve

/-- All of it: the memory, and what holds. -/
def S2 (W wz : World) (b N sb pb nb : Nat) (pl : Nat → Nat) (k : Nat) (bg : Value) : Prop := ∃ v la g R now next Ln Lx PV XV D X pv pp U Y l m, M2 W wz b N sb pb nb pl v la g R now next Ln Lx PV XV D X pv pp U Y l m ∧ Q2 N v la g Ln Lx D X pv pp l m ∧ la ≤ (k : Int) ∧ bg = .int .i64 (bgI g la)
theorem infoS : (Try.prog.info? 54).map (fun i => (i.zero, i.size, i.bytes)) = some (some (.pointer none), 1, 8) := by kernel_rfl
theorem wp_alloc_var {P : Program} {id : Nat} {t : TypeId} {z : Array Value} {o1 : Oper} {a : Act} {w : World} {Q : Exit → Act → World → Prop} (g1 : o1.guard = none) (h1 : o1.op = .alloc t)
    (hi : (P.info? t).map (fun i => (i.zero, i.size)) = some (some (.agg z), z.size)) (h : Q .normal (a.put o1.dst (.pointer (some ⟨w.heap.size, 0, none⟩))) (w.alloc (.cells z t))) :
    (Code.region id #[o1] false).wp P Q a w := by
  obtain ⟨hz, hs⟩ := zero_of_info hi
  refine wp_region_lit (l := [o1]) ?_
  have hrun : (execOp a.eval o1).run P w = .ok (.value (.pointer (some ⟨w.heap.size, 0, none⟩))) (w.alloc (.cells z t)) := by
    unfold execOp
    simp only [h1, Instr.alloc, Sem.run_bind, hz, Result.andThen_ok]
    rfl
  refine wpList_plain g1 fun K hK => ?_
  unfold Oper.wp
  rw [hrun, Oper.upon_value]
  exact hK _ _ h
theorem wpList_load_rowG {P : Program} {ops : Array Oper} {rest : List Oper} {o : Oper} {a : Act} {w : World} {Q : Exit → Act → World → Prop} (hw : Region.wanted o (yielded ops a.tmps) = true) (ty : TypeId) (x : Operand) (ho : o.op = .load ty x)
    (g : Nat) (hx : a.eval x = .pointer (some ⟨g, 0, none⟩)) (t : TypeId) (cs : Array Value) (fr : Nat × Nat) (d : TypeDesc) (hg : w.heap[g]? = some (.cells cs t fr))
    (hu : P.underlying ty = some d) (hd : (match d with | .struct _ | .array _ _ => true | _ => false) = true) (hi : (P.info? ty).map (·.size) = some cs.size)
    (h : wpList P ops Q rest (a.put o.dst (.agg cs)) w) : wpList P ops Q (o :: rest) a w :=
  wpList_step fun K hK => by
    rw [if_pos hw]
    exact wp_load_row ty x ho g hx t cs fr d hg hu hd hi (hK _ _ h)
/-- The plans that are made. -/
def slV (pl : Nat → Nat) (k i : Nat) : Value := if i < k then .pointer (some ⟨pl i, 0, none⟩) else .pointer none
theorem sl5 {w : World} {b n k : Nat} {pl : Nat → Nat} {t : TypeId} (h : Blk w b t n (slV pl k)) : No5 w b := no5_of h (fun off => ⟨0, by omega, fun _ z e => by
  unfold slV at e
  split at e <;> cases e⟩)
structure Mk (W w : World) (b N sb k : Nat) (pl : Nat → Nat) : Prop where
  bk : Bk w b N 0 0 false (fun _ => false) none none [] []
  sl : Blk w sb 54 N (slV pl k)
  pn : ∀ i, i < k → Pn w (pl i) 0 0 (.slice none 0 0) (.slice none 0 0) [] [] ∧ sb < pl i
  inj : ∀ i j, i < j → j < k → pl i < pl j
  low : W.heap.size ≤ b
  o1 : b < sb
  bel : Below W.heap.size W w
theorem Mk.below {W w w' : World} {b N sb k : Nat} {pl : Nat → Nat} (t : Mk W w b N sb k pl) (j : Below w.heap.size w w') : Mk W w' b N sb k pl :=
  ⟨t.bk.below j, below_own j t.sl t.sl.lt, fun i hi => ⟨(t.pn i hi).1.below j, (t.pn i hi).2⟩, t.inj, t.low, t.o1, t.bel.trans (j.mono t.bel.size)⟩
theorem Mk.more {W w w' : World} {b N sb k p : Nat} {pl : Nat → Nat} (t : Mk W w b N sb k pl) (hp : w.heap.size ≤ p) (h : Pn w' p 0 0 (.slice none 0 0) (.slice none 0 0) [] []) (j : Below w.heap.size w w') :
    Mk W (w'.setCell ⟨sb, k, none⟩ (.pointer (some ⟨p, 0, none⟩))) b N sb (k + 1) (upA pl k p) := by
  have t' := t.below j
  have js := Just.set sb w' k (.pointer (some ⟨p, 0, none⟩))
  have h5 := sl5 t'.sl
  have ho := t.o1
  have hsl := t.sl.lt
  refine ⟨t'.bk.apart t'.sl h5 (by omega) js, (t'.sl.put k _).ext (fun i hi => ?_), fun i hi => ?_, fun i j' hij hj => ?_, t.low, t.o1, js.below t'.bel (by have := t.low; omega) t'.bel.size⟩
  · unfold slV upA
    by_cases e : i = k
    · rw [if_pos e, if_pos (by omega), if_pos e]
    · rw [if_neg e]
      by_cases h1 : i < k
      · rw [if_pos h1, if_pos (by omega), if_neg e]
      · rw [if_neg h1, if_neg (by omega)]
  · unfold upA
    by_cases e : i = k
    · rw [if_pos e]
      exact ⟨h.apart h5 js (by omega), by omega⟩
    · rw [if_neg e]
      have := t'.pn i (by omega)
      exact ⟨this.1.apart h5 js (by have := this.2; omega), this.2⟩
  · unfold upA
    rw [if_neg (by omega : ¬ i = k)]
    by_cases e : j' = k
    · rw [if_pos e]
      have := (t.pn i (by omega)).1.own.lt
      omega
    · rw [if_neg e]
      exact t.inj i j' hij (by omega)
theorem dl_apart5 {w w' : World} {r : Nat} {D : Nat → List C} {A : Nat → Option Addr} {K : Nat → Nat} (h : Dl w D A K) (hr : No5 w r) (j : Just r w w') : Dl w' D A K := ⟨h.le, h.cap, fun x hx => row5_apart (h.row x hx) hr j⟩
theorem m2_extX {W w : World} {b N sb pb nb : Nat} {pl : Nat → Nat} {v la : Int} {g : Bool} {R : Nat → Bool} {now next : Option Nat} {Ln Lx : List (Int × List C)} {PV XV : Nat → Value} {D : Nat → Nat → List C} {X X' : Nat → List C} {pv pp : Nat → Int} {U Y : Nat → Value} {l m : Nat → List C}
    (t : M2 W w b N sb pb nb pl v la g R now next Ln Lx PV XV D X pv pp U Y l m) (h : ∀ i, i < 16 → X i = X' i) : M2 W w b N sb pb nb pl v la g R now next Ln Lx PV XV D X' pv pp U Y l m :=
  ⟨t.bk, t.sl, t.pn, t.past, t.nx, t.pr, fun i hi => by rw [← h i hi]; exact t.xr i hi, t.bel, t.low, t.o1, t.o2, t.o3, t.inj, t.pos⟩
theorem upA_self {α : Type} (f : Nat → α) (k : Nat) : upA f k (f k) = f := by
  funext j
  unfold upA
  split
  · rename_i e; rw [e]
  · rfl
/-- A slice of cells, known whole. -/
def celS (v : World) (l : List C) (x : Value) (s : Gw v) : Prop := ∃ A c, x = .slice A l.length c ∧ l.length ≤ c ∧ c ≤ maxLen ∧ Row s.toW A (l.length * 5) (lv l)
theorem celS_still (v : World) (l : List C) (x : Value) (s s' : Gw v) (h : s.still s') (hx : celS v l x s) : celS v l x s' := by
  obtain ⟨A, c, h1, h2, h3, h4⟩ := hx
  exact ⟨A, c, h1, h2, h3, h4.below h.below⟩
def kdCel (v : World) (l : List C) : Kd v := .grow (celS v l) (celS_still v l)
theorem sm_nil (N : Nat) : Sm N [] (fun _ => []) := ⟨List.nodup_nil, (fun e he => by cases he), fun k => lk_nil _⟩

def findB (n : Nat) : Code → Option Code
  | .block m b => if m == n then some (.block m b) else findB n b
  | .seq a b => match findB n a with
    | some c => some c
    | none => findB n b
  | .cond _ a b => match findB n a with
    | some c => some c
    | none => findB n b
  | .loop c => findB n c
  | .scope c => findB n c
  | _ => none
def findR (n : Nat) : Code → Option Code
  | .region m o d => if m == n then some (.region m o d) else none
  | .seq a b => match findR n a with
    | some c => some c
    | none => findR n b
  | .cond _ a b => match findR n a with
    | some c => some c
    | none => findR n b
  | .block _ b => findR n b
  | .loop c => findR n c
  | .scope c => findR n c
  | _ => none
noncomputable def codeSw : Code := (Try.f5.body.bind (findB 4)).getD .skip
noncomputable def codeRg : Code := (Try.f5.body.bind (findR 47)).getD .skip
set_option maxHeartbeats 100000000 in
theorem swA (x0 : Int) (n c n0 N b sb pb nb k bo off r0 nn : Nat) (pl : Nat → Nat) (w wx : World) (qd qn qv : Int) (qm qc : Nat) (qa : Option Addr) (qV : Nat → Value) (qF : Nat → Rw) (v la : Int) (g : Bool) (R : Nat → Bool) (now next : Option Nat) (Ln Lx : List (Int × List C)) (PV XV : Nat → Value) (D : Nat → Nat → List C) (X : Nat → List C) (pv pp : Nat → Int) (U Y : Nat → Value) (l m : Nat → List C) (u4 u7 u14 u15 u16 u17 u18 u19 u20 u21 u22 u40 u41 u42 u43 u44 u45 u61 u62 u63 u64 u65 u66 u67 u68 u69 u70 u71 u72 u73 u74 u75 u76 u77 u78 u79 u80 u81 u82 u83 u84 u85 u86 u87 u88 u89 u90 u91 u92 u93 u94 u95 u96 u97 u98 u99 u100 u101 u102 u103 u104 u105 u106 u107 u108 u109 u110 u111 u112 u113 u114 u115 u116 u117 u118 u119 u120 u121 u122 u123 u124 u125 u126 u127 u128 u129 u130 u131 u132 u133 u134 u135 u136 u137 u138 u139 u140 u141 u142 u143 u144 u145 u146 u147 u148 u149 u150 u151 u152 u153 u154 u155 u156 u157 u158 u159 u160 u161 u162 u163 u164 u165 u166 u167 u168 u169 u170 u171 u172 u173 u174 u175 u176 u177 u178 u179 u180 u181 u182 u183 u184 u185 u186 u187 u188 u189 u190 u191 u192 u193 u194 u195 u196 u197 u198 u199 u200 u201 u202 u203 u204 u205 u206 u207 u208 u209 u210 u211 u212 u213 kc0 kc1 kc2 kc3 : Value) (K : Act → World → Prop) (Q3 : Exit → Act → World → Prop) (hlt : k < n) (hn80 : n ≤ 80) (hN1 : 1 ≤ N ∧ N ≤ 6) (hm1 : qm ≤ qc) (hm2 : qc ≤ maxLen) (hnbr : nb < r0) (hnN : nn < N) (HM3 : Hid (RwM w qa qm qV qF)) (ox : Own wx r0 31 #[.int .i64 qd, .int .i64 qn, .int .i64 qv, .slice qa qm qc]) (c0 : wx.cell? ⟨r0, 0, none⟩ = some (.int .i64 qd)) (TX : M2 w wx b N sb pb nb pl v la g R now next Ln Lx PV XV D X pv pp U Y l m) (q : Q2 N v la g Ln Lx D X pv pp l m) (hla : la ≤ (k : Int)) (hlts : sb < pb ∧ nb < wx.heap.size) (g0 : (qd == 0) = true) (e0 : qd = 0)
    (hrest : ∀ (u4' u9' u14' u15' u16' u17' u18' u19' u49' u50' u51' u52' u53' u54' u55' u56' u57' u58' u59' u61' u62' u63' u64' u65' u66' u67' u68' u69' u70' u71' u72' u73' u74' u75' u76' u77' u78' u79' u80' u81' u82' u83' u84' u85' u86' u87' u88' u89' u90' u91' u92' u93' u94' u95' u96' u97' u98' u99' u100' u101' u102' u103' u104' u105' u106' u107' u108' u109' u110' u111' u112' u113' u114' u115' u116' u117' u118' u119' u120' u121' u122' u123' u124' u125' u126' u127' u128' u129' u130' u131' u132' u133' u134' u135' u136' u137' u138' u139' u140' u141' u142' u143' u144' u145' u146' u147' u148' u149' u150' u154' u155' u156' u157' u158' u159' u160' u161' u162' u163' u164' u165' u166' u167' u168' u169' u170' u171' u172' u173' u174' u175' u176' u177' u178' u179' u180' u181' u182' u183' u184' u185' u186' u187' u188' u189' u190' u191' u192' u193' u194' u195' u196' u197' u198' u199' u200' u201' u202' u203' u204' u205' u206' u207' u208' u209' u210' u211' u212' u213' : Value) (wz : World), S2 w wz b N sb pb nb pl (k + 1) u9' → K ⟨List.toArray ((.int .i64 (N : Int)) :: (.slice (some ⟨bo, off, none⟩) n c) :: undef :: undef :: u4' :: (.pointer (some ⟨b, 0, none⟩)) :: (.slice (some ⟨sb, 0, none⟩) N N) :: u7 :: (.pointer (some ⟨pb, 0, none⟩)) :: u9' :: (.pointer (some ⟨nb, 0, none⟩)) :: undef :: (.pointer (some ⟨r0, 0, none⟩)) :: (.int .i64 (nn : Int)) :: u14' :: u15' :: u16' :: u17' :: u18' :: u19' :: u20 :: u21 :: u22 :: (.slice (some ⟨bo, off, none⟩) n c) :: (.bool true) :: (.bool false) :: undef :: (.int .i64 x0) :: kc0 :: kc1 :: (.int .i64 (n0 : Int)) :: (.int .i64 (N : Int)) :: (.int .i64 (N : Int)) :: (.pointer (some ⟨b, 0, none⟩)) :: (.int .i64 (N : Int)) :: (.slice (some ⟨sb, 0, none⟩) N N) :: (.slice (some ⟨sb, 0, none⟩) N N) :: (.int .i64 (N : Int)) :: (.int .i64 (N : Int)) :: (.bool false) :: u40 :: u41 :: u42 :: u43 :: u44 :: u45 :: (.slice (some ⟨bo, off, none⟩) n c) :: (.int .i64 (n : Int)) :: (.int .i64 (k : Int)) :: u49' :: u50' :: u51' :: u52' :: u53' :: u54' :: u55' :: u56' :: u57' :: u58' :: u59' :: (.int .i64 qd) :: u61' :: u62' :: u63' :: u64' :: u65' :: u66' :: u67' :: u68' :: u69' :: u70' :: u71' :: u72' :: u73' :: u74' :: u75' :: u76' :: u77' :: u78' :: u79' :: u80' :: u81' :: u82' :: u83' :: u84' :: u85' :: u86' :: u87' :: u88' :: u89' :: u90' :: u91' :: u92' :: u93' :: u94' :: u95' :: u96' :: u97' :: u98' :: u99' :: u100' :: u101' :: u102' :: u103' :: u104' :: u105' :: u106' :: u107' :: u108' :: u109' :: u110' :: u111' :: u112' :: u113' :: u114' :: u115' :: u116' :: u117' :: u118' :: u119' :: u120' :: u121' :: u122' :: u123' :: u124' :: u125' :: u126' :: u127' :: u128' :: u129' :: u130' :: u131' :: u132' :: u133' :: u134' :: u135' :: u136' :: u137' :: u138' :: u139' :: u140' :: u141' :: u142' :: u143' :: u144' :: u145' :: u146' :: u147' :: u148' :: u149' :: u150' :: u151 :: u152 :: u153 :: u154' :: u155' :: u156' :: u157' :: u158' :: u159' :: u160' :: u161' :: u162' :: u163' :: u164' :: u165' :: u166' :: u167' :: u168' :: u169' :: u170' :: u171' :: u172' :: u173' :: u174' :: u175' :: u176' :: u177' :: u178' :: u179' :: u180' :: u181' :: u182' :: u183' :: u184' :: u185' :: u186' :: u187' :: u188' :: u189' :: u190' :: u191' :: u192' :: u193' :: u194' :: u195' :: u196' :: u197' :: u198' :: u199' :: u200' :: u201' :: u202' :: u203' :: u204' :: u205' :: u206' :: u207' :: u208' :: u209' :: u210' :: u211' :: u212' :: u213' :: undef :: []), []⟩ wz) :
    codeSw.wp Try.prog (Exit.then K Q3) ⟨List.toArray ((.int .i64 (N : Int)) :: (.slice (some ⟨bo, off, none⟩) n c) :: undef :: undef :: u4 :: (.pointer (some ⟨b, 0, none⟩)) :: (.slice (some ⟨sb, 0, none⟩) N N) :: u7 :: (.pointer (some ⟨pb, 0, none⟩)) :: (.int .i64 (bgI g la)) :: (.pointer (some ⟨nb, 0, none⟩)) :: undef :: (.pointer (some ⟨r0, 0, none⟩)) :: (.int .i64 (nn : Int)) :: u14 :: u15 :: u16 :: u17 :: u18 :: u19 :: u20 :: u21 :: u22 :: (.slice (some ⟨bo, off, none⟩) n c) :: (.bool true) :: (.bool false) :: undef :: (.int .i64 x0) :: kc0 :: kc1 :: (.int .i64 (n0 : Int)) :: (.int .i64 (N : Int)) :: (.int .i64 (N : Int)) :: (.pointer (some ⟨b, 0, none⟩)) :: (.int .i64 (N : Int)) :: (.slice (some ⟨sb, 0, none⟩) N N) :: (.slice (some ⟨sb, 0, none⟩) N N) :: (.int .i64 (N : Int)) :: (.int .i64 (N : Int)) :: (.bool false) :: u40 :: u41 :: u42 :: u43 :: u44 :: u45 :: (.slice (some ⟨bo, off, none⟩) n c) :: (.int .i64 (n : Int)) :: (.int .i64 (k : Int)) :: (.bool true) :: (.pointer (some ⟨bo, off + k * 4, none⟩)) :: (.agg #[.int .i64 qd, .int .i64 qn, .int .i64 qv, .slice qa qm qc]) :: (.pointer (some ⟨r0, 1, none⟩)) :: (.int .i64 qn) :: kc2 :: (.int .i64 (N : Int)) :: (.int .u64 (N : Int)) :: kc3 :: (.int .i64 (nn : Int)) :: (.pointer (some ⟨r0, 0, none⟩)) :: (.int .i64 qd) :: u61 :: u62 :: u63 :: u64 :: u65 :: u66 :: u67 :: u68 :: u69 :: u70 :: u71 :: u72 :: u73 :: u74 :: u75 :: u76 :: u77 :: u78 :: u79 :: u80 :: u81 :: u82 :: u83 :: u84 :: u85 :: u86 :: u87 :: u88 :: u89 :: u90 :: u91 :: u92 :: u93 :: u94 :: u95 :: u96 :: u97 :: u98 :: u99 :: u100 :: u101 :: u102 :: u103 :: u104 :: u105 :: u106 :: u107 :: u108 :: u109 :: u110 :: u111 :: u112 :: u113 :: u114 :: u115 :: u116 :: u117 :: u118 :: u119 :: u120 :: u121 :: u122 :: u123 :: u124 :: u125 :: u126 :: u127 :: u128 :: u129 :: u130 :: u131 :: u132 :: u133 :: u134 :: u135 :: u136 :: u137 :: u138 :: u139 :: u140 :: u141 :: u142 :: u143 :: u144 :: u145 :: u146 :: u147 :: u148 :: u149 :: u150 :: u151 :: u152 :: u153 :: u154 :: u155 :: u156 :: u157 :: u158 :: u159 :: u160 :: u161 :: u162 :: u163 :: u164 :: u165 :: u166 :: u167 :: u168 :: u169 :: u170 :: u171 :: u172 :: u173 :: u174 :: u175 :: u176 :: u177 :: u178 :: u179 :: u180 :: u181 :: u182 :: u183 :: u184 :: u185 :: u186 :: u187 :: u188 :: u189 :: u190 :: u191 :: u192 :: u193 :: u194 :: u195 :: u196 :: u197 :: u198 :: u199 :: u200 :: u201 :: u202 :: u203 :: u204 :: u205 :: u206 :: u207 :: u208 :: u209 :: u210 :: u211 :: u212 :: u213 :: undef :: []), []⟩ wx := by
  conv => arg 2; whnf
  let qb : Exit → Act → World → Prop := bodyPost Try.prog Try.f5 (fun _ _ => True)
  go_cut [9] (fun s wz => S2 w wz b N sb pb nb pl (k + 1) s)
  case rest => exact hrest _ _ _ _ _ _ _ _ _ _ _ _ _ _ _ _ _ _ _ _ _ _ _ _ _ _ _ _ _ _ _ _ _ _ _ _ _ _ _ _ _ _ _ _ _ _ _ _ _ _ _ _ _ _ _ _ _ _ _ _ _ _ _ _ _ _ _ _ _ _ _ _ _ _ _ _ _ _ _ _ _ _ _ _ _ _ _ _ _ _ _ _ _ _ _ _ _ _ _ _ _ _ _ _ _ _ _ _ _ _ _ _ _ _ _ _ _ _ _ _ _ _ _ _ _ _ _ _ _ _ _ _ _ _ _ _ _ _ _ _ _ _ _ _ _ _ _ _ _ _ _ _ _ _ _ _ _ _ _ _ _ _ _ _ _ _ _ _ _ _ hcut
  case first =>
    clear hrest qb
    have c3 : wx.cell? ⟨r0, 3, none⟩ = some (.slice qa qm qc) := ox.cell 3
    have hF1 : RwM wx qa qm qV qF := HM3.out.below TX.bel
    have PM := map_big qa qm qc qV qF wx hm1 hm2 hF1
    clear e0 hF1 c0 ox HM3
    go_wp2_with fail
    refine PM.mono ?_
    rintro r w5 ⟨bm, M, A, K, o, rfl, _, hMp, hml, hdl, b5⟩
    have bd := (Below.refl w5.heap.size w5).alloc (Nat.le_refl _) (.cells (d16 fun i => .slice (A i) (dealt M i).length (K i)) 36)
    have t6 := (TX.below b5).below bd
    have hml6 := hml.below bd
    have hdl6 := hdl.below bd
    have oD : Blk (w5.alloc (.cells (d16 fun i => .slice (A i) (dealt M i).length (K i)) 36)) w5.heap.size 36 16 (fun i => .slice (A i) (dealt M i).length (K i)) := Own.new w5 36 _
    have hst := run_row (P := Try.prog) (cs := d16 fun i => .slice (A i) (dealt M i).length (K i)) (Own.new w5 36 #[.slice none 0 0, .slice none 0 0, .slice none 0 0, .slice none 0 0, .slice none 0 0, .slice none 0 0, .slice none 0 0, .slice none 0 0, .slice none 0 0, .slice none 0 0, .slice none 0 0, .slice none 0 0, .slice none 0 0, .slice none 0 0, .slice none 0 0, .slice none 0 0]) rfl (by simp [d16, Value.oneCell'])
    rw [World.setRow_alloc_new] at hst
    have hnb5 : nb < w5.heap.size := Nat.lt_of_lt_of_le hlts.2 b5.size
    clear PM TX hml hdl b5 bd
    go_upto_region 22 with (fail)
    clear hst
    change (Code.region _ _ _).wp _ _ _ (w5.alloc (.cells (d16 fun i => .slice (A i) (dealt M i).length (K i)) 36))
    obtain ⟨db, hdb⟩ : ∃ q, w5.heap.size = q := ⟨_, rfl⟩
    rw [hdb] at oD hnb5 ⊢
    generalize w5.alloc (.cells (d16 fun i => .slice (A i) (dealt M i).length (K i)) 36) = w6 at *
    clear hdb
    clear w5
    have hd := mk_nd qF qm
    obtain ⟨L, hL⟩ : ∃ L, mk qF qm = L := ⟨_, rfl⟩
    rw [hL] at hd hml6 hMp
    clear hL
    cases g
    rotate_left 1
    · have P1 := begin_begun b N v la R now next (some bm) Ln Lx w6 t6.bk
      have h7 : ((7 : Int) == 0) = false := by decide
      go_wp2_with fail
      refine P1.mono ?_
      rintro r w7 ⟨rfl, rfl⟩
      go_wp2_with fail
      go_meet
      exact ⟨v, la, true, R, now, next, Ln, Lx, PV, XV, D, X, pv, pp, U, Y, l, m, t6, q, by omega, rfl⟩
    by_cases he : begE N la L = 0
    rotate_left 1
    · have P1 := begin_no b N v la R now next (some bm) Ln Lx L w6 t6.bk (MapL.src5 hml6 t6.bk.blk t6.bk.no5) (fun hf => allO_few q.n16 hd (fit_all hf)) he
      have h7 : (begE N la L == 0) = false := by simpa using he
      go_wp2_with fail
      refine P1.mono ?_
      rintro r w7 ⟨rfl, j7⟩
      have t7 := t6.below j7
      go_wp2_with fail
      go_meet
      exact ⟨v, la, false, R, now, next, Ln, Lx, PV, XV, D, X, pv, pp, U, Y, l, m, t7, q, by omega, rfl⟩
    have hf := begE_fit he
    have hfa := fit_all hf
    have hla0 : 0 ≤ la := Int.le_trans q.v0 q.vl
    have P1 := begin_yes b N v la R now next (some bm) Ln Lx L w6 t6.bk (MapL.src5 hml6 t6.bk.blk t6.bk.no5) (allO_few q.n16 hd hfa) hd (fun e h => Nat.le_trans (hfa e h).2 (by decide)) hla0 he
    have hcl : clB L = true := by
      cases hc : clB L
      · unfold begE at he
        rw [hf, hc] at he
        simp at he
      · rfl
    have hRC : RC (dealt M) := ((clB_RCn (nd_perm hMp.symm hd) (fun e h => Nat.le_trans (hfa e (hMp.mem_iff.1 h)).2 (by decide))).1 ((clB_perm hMp).trans hcl)).2
    have HSM := fun (Lx' : List (Int × List C)) (hp : Lx'.Perm (L.map conv)) => sm_begin hd hf hMp hp
    have h7 : ((0 : Int) == 0) = true := by decide
    clear he hf hfa hcl
    go_wp2_with fail
    refine P1.mono ?_
    rintro r w7 ⟨rfl, j7, x, Lx', h1, hp⟩
    have t7 := t6.book h1 j7
    have oD7 := j7.blk oD (by have := t6.o1; have := t6.o3; omega)
    have hdl7 := dl_apart5 hdl6 t6.bk.no5 j7
    have hSM := HSM Lx' hp
    clear P1 t6 oD hdl6 h1 j7 HSM hp hml6 hMp hd
    have hd64 : ∀ i, (dealt M i).length ≤ 64 := fun i => by
      have := hSM.eq i
      rw [← srtU_len, ← this]
      exact lk_len (fun e he => (hSM.ok e he).2)
    have hv1 : decide (la + 1 < 1) = false := by simp; omega
    have hv2 : decide ((80 : Int) < la + 1) = false := by simp; omega
    have oL : Own w7 db 36 #[.slice (A 0) (dealt M 0).length (K 0), .slice (A 1) (dealt M 1).length (K 1), .slice (A 2) (dealt M 2).length (K 2), .slice (A 3) (dealt M 3).length (K 3), .slice (A 4) (dealt M 4).length (K 4), .slice (A 5) (dealt M 5).length (K 5), .slice (A 6) (dealt M 6).length (K 6), .slice (A 7) (dealt M 7).length (K 7), .slice (A 8) (dealt M 8).length (K 8), .slice (A 9) (dealt M 9).length (K 9), .slice (A 10) (dealt M 10).length (K 10), .slice (A 11) (dealt M 11).length (K 11), .slice (A 12) (dealt M 12).length (K 12), .slice (A 13) (dealt M 13).length (K 13), .slice (A 14) (dealt M 14).length (K 14), .slice (A 15) (dealt M 15).length (K 15)] := oD7
    have PR := rclean_any (dealt M) A K w7 hdl7
    go_wp2_with (refine wpList_load_rowG (by rfl) 36 (.tmp 15) rfl db rfl 36 _ (0, 0) _ oL Try.underlying36 rfl (by kernel_rfl) ?_)
    refine PR.mono ?_
    rintro r w8 ⟨qc, rfl, hqc, b8⟩
    obtain rfl : qc = true := hqc.2 hRC -- MARK1
    have t8 := t7.below b8
    have oD8 := below_blk b8 oD7 oD7.lt
    have hdl8 := hdl7.below b8
    have HD64 := Lib.hid hd64
    have hnb8 : nb < db := by have := oD8.lt; omega
    clear PR t7 oD7 hdl7 b8 hv1 hv2 hqc hRC hd64 oL
    clear w7
    go_wp2_with fail
    have XW : ∃ XV', M2 w w8 b N sb pb nb pl v (la + 1) true (fun _ => false) now x Ln Lx' PV XV' D (fun j => if j < 0 then srtU (dealt M j) else X j) pv pp U Y l m ∧ Blk w8 db 36 16 (fun i => .slice (A i) (dealt M i).length (K i)) ∧ Dl w8 (dealt M) A K := ⟨XV, m2_extX t8 (fun i _ => by rw [if_neg (by omega)]), oD8, hdl8⟩
    clear t8 oD8 hdl8
    go_loopw [97] (fun i wz /- MARK2 -/ => ∃ t : Nat, i = .int .i64 t ∧ t ≤ 16 ∧ ∃ XV', M2 w wz b N sb pb nb pl v (la + 1) true (fun _ => false) now x Ln Lx' PV XV' D (fun j => if j < t then srtU (dealt M j) else X j) pv pp U Y l m ∧ Blk wz db 36 16 (fun i => .slice (A i) (dealt M i).length (K i)) ∧ Dl wz (dealt M) A K) (fun i _ => 16 - (intOf i).toNat)
    case atStart => exact ⟨0, rfl, by omega, XW⟩
    case round =>
      clear XW
      obtain ⟨t, rfl, ht, XV', tt, oD, hdl⟩ := hrel
      by_cases ht16 : t < 16
      rotate_left 1
      · obtain rfl : t = 16 := by omega
        have t9 := m2_extX tt (X' := fun i => srtU (dealt M i)) (fun i hi => if_pos hi)
        have q9 := q.begin_ hSM (fun i => by rw [← srt_same]; exact srtC_srt _)
        clear tt oD hdl hSM
        go_wp2_with fail
        go_meet
        exact ⟨v, la + 1, true, _, now, x, Ln, Lx', PV, XV', D, _, pv, pp, U, Y, l, m, t9, q9, by omega, rfl⟩
      have g1 : decide ((t : Int) < 16) = true := by simp; omega
      have g2 : decide ((t : Int) < 0) = false := by simp
      have c5 : wr.cell? ⟨db, t, none⟩ = some (.slice (A t) (dealt M t).length (K t)) := oD.cell ht16
      obtain ⟨ml, hml⟩ : ∃ ml, (dealt M t).length = ml := ⟨_, rfl⟩
      have hml64 : ml ≤ 64 := by rw [← hml]; exact HD64.out t
      have PS := sorted_any (A t) ml (K t) (dealt M t) wr (by rw [← hml]; exact hdl.row t ht16) hml (by omega)
      rw [hml] at c5
      go_wp2_with fail
      refine PS.mono ?_
      rintro r w9 ⟨u9, rfl, m9, b9⟩
      have t9 := tt.below b9
      obtain ⟨a9, c9, rfl, k1, k2, k3⟩ := m9.row
      have hrv : Rv w9 0 (.slice a9 ml c9) (srtU (dealt M t)) := by
        have e : (srtU (dealt M t)).length = ml := by rw [srtU_len, hml]
        exact ⟨a9, c9, by rw [e], by rw [e]; exact k1, k2, by rw [e]; exact k3, fun _ _ _ => Nat.zero_le _⟩
      have c6 : w9.cell? ⟨nb, t, none⟩ = some (XV' t) := t9.nx.cell ht16
      have f6 : w9.frozen? ⟨nb, t, none⟩ = false := t9.nx.free t
      have tA := t9.setX (k := t) hrv
      have j6 := Just.set nb w9 t (.slice a9 ml c9)
      have oDA := j6.blk (below_blk b9 oD oD.lt) (by omega : db ≠ nb) -- MARK3
      have hdlA := dl_apart5 (hdl.below b9) t9.nb5 j6
      have TA := Lib.hid (m2_extX tA (X' := fun j => if j < t + 1 then srtU (dealt M j) else X j) (fun i _ => by
        unfold upA
        by_cases e : i = t
        · subst e
          rw [if_pos rfl, if_pos (by omega)]
        · rw [if_neg e]
          dsimp only
          by_cases h : i < t
          · rw [if_pos h, if_pos (by omega)]
          · rw [if_neg h, if_neg (by omega)]))
      clear PS t9 tA m9 b9 k1 k2 k3 hrv hdl oD tt c5 j6
      clear hSM q hlts hlt hml HD64 -- MARK4
      go_wp2_with fail
      exact ⟨⟨t + 1, by simp, by omega, _, TA.out, oDA, hdlA⟩, by simp [intOf]; omega⟩
set_option maxHeartbeats 100000000 in
theorem swB (x0 : Int) (n c n0 N b sb pb nb k bo off r0 nn : Nat) (pl : Nat → Nat) (w wx : World) (qd qn qv : Int) (qm qc : Nat) (qa : Option Addr) (qV : Nat → Value) (qF : Nat → Rw) (v la : Int) (g : Bool) (R : Nat → Bool) (now next : Option Nat) (Ln Lx : List (Int × List C)) (PV XV : Nat → Value) (D : Nat → Nat → List C) (X : Nat → List C) (pv pp : Nat → Int) (U Y : Nat → Value) (l m : Nat → List C) (u4 u7 u14 u15 u16 u17 u18 u19 u20 u21 u22 u40 u41 u42 u43 u44 u45 u61 u62 u63 u64 u65 u66 u67 u68 u69 u70 u71 u72 u73 u74 u75 u76 u77 u78 u79 u80 u81 u82 u83 u84 u85 u86 u87 u88 u89 u90 u91 u92 u93 u94 u95 u96 u97 u98 u99 u100 u101 u102 u103 u104 u105 u106 u107 u108 u109 u110 u111 u112 u113 u114 u115 u116 u117 u118 u119 u120 u121 u122 u123 u124 u125 u126 u127 u128 u129 u130 u131 u132 u133 u134 u135 u136 u137 u138 u139 u140 u141 u142 u143 u144 u145 u146 u147 u148 u149 u150 u151 u152 u153 u154 u155 u156 u157 u158 u159 u160 u161 u162 u163 u164 u165 u166 u167 u168 u169 u170 u171 u172 u173 u174 u175 u176 u177 u178 u179 u180 u181 u182 u183 u184 u185 u186 u187 u188 u189 u190 u191 u192 u193 u194 u195 u196 u197 u198 u199 u200 u201 u202 u203 u204 u205 u206 u207 u208 u209 u210 u211 u212 u213 kc0 kc1 kc2 kc3 : Value) (K : Act → World → Prop) (Q3 : Exit → Act → World → Prop) (hlt : k < n) (hn80 : n ≤ 80) (hN1 : 1 ≤ N ∧ N ≤ 6) (hm1 : qm ≤ qc) (hm2 : qc ≤ maxLen) (hnbr : nb < r0) (hnN : nn < N) (HM3 : Hid (RwM w qa qm qV qF)) (ox : Own wx r0 31 #[.int .i64 qd, .int .i64 qn, .int .i64 qv, .slice qa qm qc]) (c0 : wx.cell? ⟨r0, 0, none⟩ = some (.int .i64 qd)) (TX : M2 w wx b N sb pb nb pl v la g R now next Ln Lx PV XV D X pv pp U Y l m) (q : Q2 N v la g Ln Lx D X pv pp l m) (hla : la ≤ (k : Int)) (hlts : sb < pb ∧ nb < wx.heap.size) (e0 : ¬ qd = 0) (g0 : (qd == 0) = false) (e1 : qd = 1) (g1 : (qd == 1) = true)
    (hrest : ∀ (u4' u9' u14' u15' u16' u17' u18' u19' u49' u50' u51' u52' u53' u54' u55' u56' u57' u58' u59' u61' u62' u63' u64' u65' u66' u67' u68' u69' u70' u71' u72' u73' u74' u75' u76' u77' u78' u79' u80' u81' u82' u83' u84' u85' u86' u87' u88' u89' u90' u91' u92' u93' u94' u95' u96' u97' u98' u99' u100' u101' u102' u103' u104' u105' u106' u107' u108' u109' u110' u111' u112' u113' u114' u115' u116' u117' u118' u119' u120' u121' u122' u123' u124' u125' u126' u127' u128' u129' u130' u131' u132' u133' u134' u135' u136' u137' u138' u139' u140' u141' u142' u143' u144' u145' u146' u147' u148' u149' u150' u154' u155' u156' u157' u158' u159' u160' u161' u162' u163' u164' u165' u166' u167' u168' u169' u170' u171' u172' u173' u174' u175' u176' u177' u178' u179' u180' u181' u182' u183' u184' u185' u186' u187' u188' u189' u190' u191' u192' u193' u194' u195' u196' u197' u198' u199' u200' u201' u202' u203' u204' u205' u206' u207' u208' u209' u210' u211' u212' u213' : Value) (wz : World), S2 w wz b N sb pb nb pl (k + 1) u9' → K ⟨List.toArray ((.int .i64 (N : Int)) :: (.slice (some ⟨bo, off, none⟩) n c) :: undef :: undef :: u4' :: (.pointer (some ⟨b, 0, none⟩)) :: (.slice (some ⟨sb, 0, none⟩) N N) :: u7 :: (.pointer (some ⟨pb, 0, none⟩)) :: u9' :: (.pointer (some ⟨nb, 0, none⟩)) :: undef :: (.pointer (some ⟨r0, 0, none⟩)) :: (.int .i64 (nn : Int)) :: u14' :: u15' :: u16' :: u17' :: u18' :: u19' :: u20 :: u21 :: u22 :: (.slice (some ⟨bo, off, none⟩) n c) :: (.bool true) :: (.bool false) :: undef :: (.int .i64 x0) :: kc0 :: kc1 :: (.int .i64 (n0 : Int)) :: (.int .i64 (N : Int)) :: (.int .i64 (N : Int)) :: (.pointer (some ⟨b, 0, none⟩)) :: (.int .i64 (N : Int)) :: (.slice (some ⟨sb, 0, none⟩) N N) :: (.slice (some ⟨sb, 0, none⟩) N N) :: (.int .i64 (N : Int)) :: (.int .i64 (N : Int)) :: (.bool false) :: u40 :: u41 :: u42 :: u43 :: u44 :: u45 :: (.slice (some ⟨bo, off, none⟩) n c) :: (.int .i64 (n : Int)) :: (.int .i64 (k : Int)) :: u49' :: u50' :: u51' :: u52' :: u53' :: u54' :: u55' :: u56' :: u57' :: u58' :: u59' :: (.int .i64 qd) :: u61' :: u62' :: u63' :: u64' :: u65' :: u66' :: u67' :: u68' :: u69' :: u70' :: u71' :: u72' :: u73' :: u74' :: u75' :: u76' :: u77' :: u78' :: u79' :: u80' :: u81' :: u82' :: u83' :: u84' :: u85' :: u86' :: u87' :: u88' :: u89' :: u90' :: u91' :: u92' :: u93' :: u94' :: u95' :: u96' :: u97' :: u98' :: u99' :: u100' :: u101' :: u102' :: u103' :: u104' :: u105' :: u106' :: u107' :: u108' :: u109' :: u110' :: u111' :: u112' :: u113' :: u114' :: u115' :: u116' :: u117' :: u118' :: u119' :: u120' :: u121' :: u122' :: u123' :: u124' :: u125' :: u126' :: u127' :: u128' :: u129' :: u130' :: u131' :: u132' :: u133' :: u134' :: u135' :: u136' :: u137' :: u138' :: u139' :: u140' :: u141' :: u142' :: u143' :: u144' :: u145' :: u146' :: u147' :: u148' :: u149' :: u150' :: u151 :: u152 :: u153 :: u154' :: u155' :: u156' :: u157' :: u158' :: u159' :: u160' :: u161' :: u162' :: u163' :: u164' :: u165' :: u166' :: u167' :: u168' :: u169' :: u170' :: u171' :: u172' :: u173' :: u174' :: u175' :: u176' :: u177' :: u178' :: u179' :: u180' :: u181' :: u182' :: u183' :: u184' :: u185' :: u186' :: u187' :: u188' :: u189' :: u190' :: u191' :: u192' :: u193' :: u194' :: u195' :: u196' :: u197' :: u198' :: u199' :: u200' :: u201' :: u202' :: u203' :: u204' :: u205' :: u206' :: u207' :: u208' :: u209' :: u210' :: u211' :: u212' :: u213' :: undef :: []), []⟩ wz) :
    codeSw.wp Try.prog (Exit.then K Q3) ⟨List.toArray ((.int .i64 (N : Int)) :: (.slice (some ⟨bo, off, none⟩) n c) :: undef :: undef :: u4 :: (.pointer (some ⟨b, 0, none⟩)) :: (.slice (some ⟨sb, 0, none⟩) N N) :: u7 :: (.pointer (some ⟨pb, 0, none⟩)) :: (.int .i64 (bgI g la)) :: (.pointer (some ⟨nb, 0, none⟩)) :: undef :: (.pointer (some ⟨r0, 0, none⟩)) :: (.int .i64 (nn : Int)) :: u14 :: u15 :: u16 :: u17 :: u18 :: u19 :: u20 :: u21 :: u22 :: (.slice (some ⟨bo, off, none⟩) n c) :: (.bool true) :: (.bool false) :: undef :: (.int .i64 x0) :: kc0 :: kc1 :: (.int .i64 (n0 : Int)) :: (.int .i64 (N : Int)) :: (.int .i64 (N : Int)) :: (.pointer (some ⟨b, 0, none⟩)) :: (.int .i64 (N : Int)) :: (.slice (some ⟨sb, 0, none⟩) N N) :: (.slice (some ⟨sb, 0, none⟩) N N) :: (.int .i64 (N : Int)) :: (.int .i64 (N : Int)) :: (.bool false) :: u40 :: u41 :: u42 :: u43 :: u44 :: u45 :: (.slice (some ⟨bo, off, none⟩) n c) :: (.int .i64 (n : Int)) :: (.int .i64 (k : Int)) :: (.bool true) :: (.pointer (some ⟨bo, off + k * 4, none⟩)) :: (.agg #[.int .i64 qd, .int .i64 qn, .int .i64 qv, .slice qa qm qc]) :: (.pointer (some ⟨r0, 1, none⟩)) :: (.int .i64 qn) :: kc2 :: (.int .i64 (N : Int)) :: (.int .u64 (N : Int)) :: kc3 :: (.int .i64 (nn : Int)) :: (.pointer (some ⟨r0, 0, none⟩)) :: (.int .i64 qd) :: u61 :: u62 :: u63 :: u64 :: u65 :: u66 :: u67 :: u68 :: u69 :: u70 :: u71 :: u72 :: u73 :: u74 :: u75 :: u76 :: u77 :: u78 :: u79 :: u80 :: u81 :: u82 :: u83 :: u84 :: u85 :: u86 :: u87 :: u88 :: u89 :: u90 :: u91 :: u92 :: u93 :: u94 :: u95 :: u96 :: u97 :: u98 :: u99 :: u100 :: u101 :: u102 :: u103 :: u104 :: u105 :: u106 :: u107 :: u108 :: u109 :: u110 :: u111 :: u112 :: u113 :: u114 :: u115 :: u116 :: u117 :: u118 :: u119 :: u120 :: u121 :: u122 :: u123 :: u124 :: u125 :: u126 :: u127 :: u128 :: u129 :: u130 :: u131 :: u132 :: u133 :: u134 :: u135 :: u136 :: u137 :: u138 :: u139 :: u140 :: u141 :: u142 :: u143 :: u144 :: u145 :: u146 :: u147 :: u148 :: u149 :: u150 :: u151 :: u152 :: u153 :: u154 :: u155 :: u156 :: u157 :: u158 :: u159 :: u160 :: u161 :: u162 :: u163 :: u164 :: u165 :: u166 :: u167 :: u168 :: u169 :: u170 :: u171 :: u172 :: u173 :: u174 :: u175 :: u176 :: u177 :: u178 :: u179 :: u180 :: u181 :: u182 :: u183 :: u184 :: u185 :: u186 :: u187 :: u188 :: u189 :: u190 :: u191 :: u192 :: u193 :: u194 :: u195 :: u196 :: u197 :: u198 :: u199 :: u200 :: u201 :: u202 :: u203 :: u204 :: u205 :: u206 :: u207 :: u208 :: u209 :: u210 :: u211 :: u212 :: u213 :: undef :: []), []⟩ wx := by
  conv => arg 2; whnf
  let qb : Exit → Act → World → Prop := bodyPost Try.prog Try.f5 (fun _ _ => True)
  go_cut [9] (fun s wz => S2 w wz b N sb pb nb pl (k + 1) s)
  case rest => exact hrest _ _ _ _ _ _ _ _ _ _ _ _ _ _ _ _ _ _ _ _ _ _ _ _ _ _ _ _ _ _ _ _ _ _ _ _ _ _ _ _ _ _ _ _ _ _ _ _ _ _ _ _ _ _ _ _ _ _ _ _ _ _ _ _ _ _ _ _ _ _ _ _ _ _ _ _ _ _ _ _ _ _ _ _ _ _ _ _ _ _ _ _ _ _ _ _ _ _ _ _ _ _ _ _ _ _ _ _ _ _ _ _ _ _ _ _ _ _ _ _ _ _ _ _ _ _ _ _ _ _ _ _ _ _ _ _ _ _ _ _ _ _ _ _ _ _ _ _ _ _ _ _ _ _ _ _ _ _ _ _ _ _ _ _ _ _ _ _ _ _ hcut
  case first =>
    clear hrest qb
    clear ox c0 HM3 e0 e1
    cases g
    · have hb0 : decide (0 < bgI false la) = false := rfl
      go_wp2_with fail
      go_quiet (fail)
      have t9 := fun m => TX.below (below_drewN (Below.refl wx.heap.size wx) m)
      clear TX
      go_wp2_with fail
      go_meet
      exact ⟨v, la, false, R, now, next, Ln, Lx, PV, XV, D, X, pv, pp, U, Y, l, m, t9 _, q, by omega, rfl⟩
    have hla := q.vg rfl
    have hv0 := q.v0
    have hb1 : decide (0 < la) = true := by simp; omega
    have hbg : bgI true la = la := rfl
    rw [hbg]
    clear hbg
    obtain ⟨ax, cx, hxv, k1, k2, k3⟩ := (TX.xr nn (by have := q.n16; omega)).row
    obtain ⟨mx, hmx⟩ : ∃ mx, (X nn).length = mx := ⟨_, rfl⟩
    have hm64 : mx ≤ 64 := by rw [← hmx]; exact q.xl nn
    rw [hmx] at hxv k1 k3
    have c5 : wx.cell? ⟨nb, nn, none⟩ = some (.slice ax mx cx) := by rw [← hxv]; exact TX.nx.cell (by have := q.n16; omega)
    have c6 : wx.cell? ⟨sb, nn, none⟩ = some (.pointer (some ⟨pl nn, 0, none⟩)) := TX.sl.cell hnN
    have ho2 := TX.o2 nn hnN
    have hne : nb ≠ pl nn ∧ sb ≠ pl nn := by have := TX.o3; omega
    have xx : wx.drew.cell? ⟨sb, nn, none⟩ = some (.pointer (some ⟨pl nn, 0, none⟩)) ∧ wx.drew.cell? ⟨nb, nn, none⟩ = some (.slice ax mx cx) := ⟨c6, c5⟩
    have tD : M2 w wx.drew b N sb pb nb pl v la true R now next Ln Lx PV XV D X pv pp U Y l m := TX.below (below_drewN (Below.refl wx.heap.size wx) 1)
    have PP := Lib.hid (prepare_post (pl nn) (pv nn) (pp nn) la (U nn) (Y nn) (l nn) (m nn) (X nn) ax mx cx wx.drew (tD.pn nn hnN) (k3.drewN 1) hmx (by omega) k1 k2)
    have hn16 : nn < 16 := by have := q.n16; omega
    have hn16' : (nn : Int) < 16 := by omega
    have HQ2 := Lib.hid q
    have HTD := Lib.hid tD
    clear hmx k1 k2 k3 hxv q TX tD
    go_upto_region 33 with (fail)
    go_region_held3 (fun w' => w'.cell? ⟨sb, nn, none⟩ = some (.pointer (some ⟨pl nn, 0, none⟩)) ∧ w'.cell? ⟨nb, nn, none⟩ = some (.slice ax mx cx)) (with_reducible first | exact xx | exact yy) (first
      | (go_at_call 27; with_reducible refine (PP.out).mono ?_; rintro r w5 ⟨e, rfl, h5⟩; have h5 : PrepPost (pl nn) (pv nn) (pp nn) la (U nn) (l nn) (X nn) wx.drew e w5 := h5; have yy : w5.cell? ⟨sb, nn, none⟩ = some (.pointer (some ⟨pl nn, 0, none⟩)) ∧ w5.cell? ⟨nb, nn, none⟩ = some (.slice ax mx cx) := ⟨h5.cell xx.1 hne.2, h5.cell xx.2 hne.1⟩)
      | fail)
    all_goals
      clear xx yy PP
      rcases h5 with ⟨he, j5⟩ | ⟨rfl, hy1, hy2, x', hP, j5⟩
      · have g5 : (e == 0) = false := by simpa using he
        have t5 := HTD.out.below j5
        go_wp2_with fail
        go_meet
        exact ⟨v, la, true, R, now, next, Ln, Lx, PV, XV, D, X, pv, pp, U, Y, l, m, t5, HQ2.out, by omega, rfl⟩
      · have g5 : ((0 : Int) == 0) = true := by decide
        have t5 := HTD.out.plan hnN hP j5
        rw [upA_self pv, upA_self U, upA_self l] at t5
        have q5 := HQ2.out.prep nn
        by_cases hr : readyE N la true R (nn : Int) la = 0
        · have P6 := ready_yes b N v la R now next Ln Lx nn w5 t5.bk (by omega) (by omega) (readyE_zero hr).2.2.2.2
          clear hr
          go_wp2_with fail
          refine P6.mono ?_
          rintro r w6 ⟨rfl, h6, j6⟩
          have t6 := t5.book h6 j6
          go_wp2_with fail
          go_meet
          exact ⟨v, la, true, _, now, next, Ln, Lx, PV, XV, D, X, pv, _, _, _, l, _, t6, q5, by omega, rfl⟩
        · have P6 := ready_no b N v la true R now next Ln Lx (nn : Int) la w5 t5.bk (by omega) hr
          clear hr
          go_wp2_with fail
          refine P6.mono ?_
          rintro r w6 ⟨rfl, rfl⟩
          go_wp2_with fail
          go_meet
          exact ⟨v, la, true, R, now, next, Ln, Lx, PV, XV, D, X, pv, _, _, _, l, _, t5, q5, by omega, rfl⟩
set_option maxHeartbeats 100000000 in
theorem swC (x0 : Int) (n c n0 N b sb pb nb k bo off r0 nn : Nat) (pl : Nat → Nat) (w wx : World) (qd qn qv : Int) (qm qc : Nat) (qa : Option Addr) (qV : Nat → Value) (qF : Nat → Rw) (v la : Int) (g : Bool) (R : Nat → Bool) (now next : Option Nat) (Ln Lx : List (Int × List C)) (PV XV : Nat → Value) (D : Nat → Nat → List C) (X : Nat → List C) (pv pp : Nat → Int) (U Y : Nat → Value) (l m : Nat → List C) (u4 u7 u14 u15 u16 u17 u18 u19 u20 u21 u22 u40 u41 u42 u43 u44 u45 u61 u62 u63 u64 u65 u66 u67 u68 u69 u70 u71 u72 u73 u74 u75 u76 u77 u78 u79 u80 u81 u82 u83 u84 u85 u86 u87 u88 u89 u90 u91 u92 u93 u94 u95 u96 u97 u98 u99 u100 u101 u102 u103 u104 u105 u106 u107 u108 u109 u110 u111 u112 u113 u114 u115 u116 u117 u118 u119 u120 u121 u122 u123 u124 u125 u126 u127 u128 u129 u130 u131 u132 u133 u134 u135 u136 u137 u138 u139 u140 u141 u142 u143 u144 u145 u146 u147 u148 u149 u150 u151 u152 u153 u154 u155 u156 u157 u158 u159 u160 u161 u162 u163 u164 u165 u166 u167 u168 u169 u170 u171 u172 u173 u174 u175 u176 u177 u178 u179 u180 u181 u182 u183 u184 u185 u186 u187 u188 u189 u190 u191 u192 u193 u194 u195 u196 u197 u198 u199 u200 u201 u202 u203 u204 u205 u206 u207 u208 u209 u210 u211 u212 u213 kc0 kc1 kc2 kc3 : Value) (K : Act → World → Prop) (Q3 : Exit → Act → World → Prop) (hlt : k < n) (hn80 : n ≤ 80) (hN1 : 1 ≤ N ∧ N ≤ 6) (hm1 : qm ≤ qc) (hm2 : qc ≤ maxLen) (hnbr : nb < r0) (hnN : nn < N) (HM3 : Hid (RwM w qa qm qV qF)) (ox : Own wx r0 31 #[.int .i64 qd, .int .i64 qn, .int .i64 qv, .slice qa qm qc]) (c0 : wx.cell? ⟨r0, 0, none⟩ = some (.int .i64 qd)) (TX : M2 w wx b N sb pb nb pl v la g R now next Ln Lx PV XV D X pv pp U Y l m) (q : Q2 N v la g Ln Lx D X pv pp l m) (hla : la ≤ (k : Int)) (hlts : sb < pb ∧ nb < wx.heap.size) (e0 : ¬ qd = 0) (g0 : (qd == 0) = false) (e1 : ¬ qd = 1) (g1 : (qd == 1) = false) (e2 : qd = 2) (g2 : (qd == 2) = true)
    (hrest : ∀ (u4' u9' u14' u15' u16' u17' u18' u19' u49' u50' u51' u52' u53' u54' u55' u56' u57' u58' u59' u61' u62' u63' u64' u65' u66' u67' u68' u69' u70' u71' u72' u73' u74' u75' u76' u77' u78' u79' u80' u81' u82' u83' u84' u85' u86' u87' u88' u89' u90' u91' u92' u93' u94' u95' u96' u97' u98' u99' u100' u101' u102' u103' u104' u105' u106' u107' u108' u109' u110' u111' u112' u113' u114' u115' u116' u117' u118' u119' u120' u121' u122' u123' u124' u125' u126' u127' u128' u129' u130' u131' u132' u133' u134' u135' u136' u137' u138' u139' u140' u141' u142' u143' u144' u145' u146' u147' u148' u149' u150' u154' u155' u156' u157' u158' u159' u160' u161' u162' u163' u164' u165' u166' u167' u168' u169' u170' u171' u172' u173' u174' u175' u176' u177' u178' u179' u180' u181' u182' u183' u184' u185' u186' u187' u188' u189' u190' u191' u192' u193' u194' u195' u196' u197' u198' u199' u200' u201' u202' u203' u204' u205' u206' u207' u208' u209' u210' u211' u212' u213' : Value) (wz : World), S2 w wz b N sb pb nb pl (k + 1) u9' → K ⟨List.toArray ((.int .i64 (N : Int)) :: (.slice (some ⟨bo, off, none⟩) n c) :: undef :: undef :: u4' :: (.pointer (some ⟨b, 0, none⟩)) :: (.slice (some ⟨sb, 0, none⟩) N N) :: u7 :: (.pointer (some ⟨pb, 0, none⟩)) :: u9' :: (.pointer (some ⟨nb, 0, none⟩)) :: undef :: (.pointer (some ⟨r0, 0, none⟩)) :: (.int .i64 (nn : Int)) :: u14' :: u15' :: u16' :: u17' :: u18' :: u19' :: u20 :: u21 :: u22 :: (.slice (some ⟨bo, off, none⟩) n c) :: (.bool true) :: (.bool false) :: undef :: (.int .i64 x0) :: kc0 :: kc1 :: (.int .i64 (n0 : Int)) :: (.int .i64 (N : Int)) :: (.int .i64 (N : Int)) :: (.pointer (some ⟨b, 0, none⟩)) :: (.int .i64 (N : Int)) :: (.slice (some ⟨sb, 0, none⟩) N N) :: (.slice (some ⟨sb, 0, none⟩) N N) :: (.int .i64 (N : Int)) :: (.int .i64 (N : Int)) :: (.bool false) :: u40 :: u41 :: u42 :: u43 :: u44 :: u45 :: (.slice (some ⟨bo, off, none⟩) n c) :: (.int .i64 (n : Int)) :: (.int .i64 (k : Int)) :: u49' :: u50' :: u51' :: u52' :: u53' :: u54' :: u55' :: u56' :: u57' :: u58' :: u59' :: (.int .i64 qd) :: u61' :: u62' :: u63' :: u64' :: u65' :: u66' :: u67' :: u68' :: u69' :: u70' :: u71' :: u72' :: u73' :: u74' :: u75' :: u76' :: u77' :: u78' :: u79' :: u80' :: u81' :: u82' :: u83' :: u84' :: u85' :: u86' :: u87' :: u88' :: u89' :: u90' :: u91' :: u92' :: u93' :: u94' :: u95' :: u96' :: u97' :: u98' :: u99' :: u100' :: u101' :: u102' :: u103' :: u104' :: u105' :: u106' :: u107' :: u108' :: u109' :: u110' :: u111' :: u112' :: u113' :: u114' :: u115' :: u116' :: u117' :: u118' :: u119' :: u120' :: u121' :: u122' :: u123' :: u124' :: u125' :: u126' :: u127' :: u128' :: u129' :: u130' :: u131' :: u132' :: u133' :: u134' :: u135' :: u136' :: u137' :: u138' :: u139' :: u140' :: u141' :: u142' :: u143' :: u144' :: u145' :: u146' :: u147' :: u148' :: u149' :: u150' :: u151 :: u152 :: u153 :: u154' :: u155' :: u156' :: u157' :: u158' :: u159' :: u160' :: u161' :: u162' :: u163' :: u164' :: u165' :: u166' :: u167' :: u168' :: u169' :: u170' :: u171' :: u172' :: u173' :: u174' :: u175' :: u176' :: u177' :: u178' :: u179' :: u180' :: u181' :: u182' :: u183' :: u184' :: u185' :: u186' :: u187' :: u188' :: u189' :: u190' :: u191' :: u192' :: u193' :: u194' :: u195' :: u196' :: u197' :: u198' :: u199' :: u200' :: u201' :: u202' :: u203' :: u204' :: u205' :: u206' :: u207' :: u208' :: u209' :: u210' :: u211' :: u212' :: u213' :: undef :: []), []⟩ wz) :
    codeSw.wp Try.prog (Exit.then K Q3) ⟨List.toArray ((.int .i64 (N : Int)) :: (.slice (some ⟨bo, off, none⟩) n c) :: undef :: undef :: u4 :: (.pointer (some ⟨b, 0, none⟩)) :: (.slice (some ⟨sb, 0, none⟩) N N) :: u7 :: (.pointer (some ⟨pb, 0, none⟩)) :: (.int .i64 (bgI g la)) :: (.pointer (some ⟨nb, 0, none⟩)) :: undef :: (.pointer (some ⟨r0, 0, none⟩)) :: (.int .i64 (nn : Int)) :: u14 :: u15 :: u16 :: u17 :: u18 :: u19 :: u20 :: u21 :: u22 :: (.slice (some ⟨bo, off, none⟩) n c) :: (.bool true) :: (.bool false) :: undef :: (.int .i64 x0) :: kc0 :: kc1 :: (.int .i64 (n0 : Int)) :: (.int .i64 (N : Int)) :: (.int .i64 (N : Int)) :: (.pointer (some ⟨b, 0, none⟩)) :: (.int .i64 (N : Int)) :: (.slice (some ⟨sb, 0, none⟩) N N) :: (.slice (some ⟨sb, 0, none⟩) N N) :: (.int .i64 (N : Int)) :: (.int .i64 (N : Int)) :: (.bool false) :: u40 :: u41 :: u42 :: u43 :: u44 :: u45 :: (.slice (some ⟨bo, off, none⟩) n c) :: (.int .i64 (n : Int)) :: (.int .i64 (k : Int)) :: (.bool true) :: (.pointer (some ⟨bo, off + k * 4, none⟩)) :: (.agg #[.int .i64 qd, .int .i64 qn, .int .i64 qv, .slice qa qm qc]) :: (.pointer (some ⟨r0, 1, none⟩)) :: (.int .i64 qn) :: kc2 :: (.int .i64 (N : Int)) :: (.int .u64 (N : Int)) :: kc3 :: (.int .i64 (nn : Int)) :: (.pointer (some ⟨r0, 0, none⟩)) :: (.int .i64 qd) :: u61 :: u62 :: u63 :: u64 :: u65 :: u66 :: u67 :: u68 :: u69 :: u70 :: u71 :: u72 :: u73 :: u74 :: u75 :: u76 :: u77 :: u78 :: u79 :: u80 :: u81 :: u82 :: u83 :: u84 :: u85 :: u86 :: u87 :: u88 :: u89 :: u90 :: u91 :: u92 :: u93 :: u94 :: u95 :: u96 :: u97 :: u98 :: u99 :: u100 :: u101 :: u102 :: u103 :: u104 :: u105 :: u106 :: u107 :: u108 :: u109 :: u110 :: u111 :: u112 :: u113 :: u114 :: u115 :: u116 :: u117 :: u118 :: u119 :: u120 :: u121 :: u122 :: u123 :: u124 :: u125 :: u126 :: u127 :: u128 :: u129 :: u130 :: u131 :: u132 :: u133 :: u134 :: u135 :: u136 :: u137 :: u138 :: u139 :: u140 :: u141 :: u142 :: u143 :: u144 :: u145 :: u146 :: u147 :: u148 :: u149 :: u150 :: u151 :: u152 :: u153 :: u154 :: u155 :: u156 :: u157 :: u158 :: u159 :: u160 :: u161 :: u162 :: u163 :: u164 :: u165 :: u166 :: u167 :: u168 :: u169 :: u170 :: u171 :: u172 :: u173 :: u174 :: u175 :: u176 :: u177 :: u178 :: u179 :: u180 :: u181 :: u182 :: u183 :: u184 :: u185 :: u186 :: u187 :: u188 :: u189 :: u190 :: u191 :: u192 :: u193 :: u194 :: u195 :: u196 :: u197 :: u198 :: u199 :: u200 :: u201 :: u202 :: u203 :: u204 :: u205 :: u206 :: u207 :: u208 :: u209 :: u210 :: u211 :: u212 :: u213 :: undef :: []), []⟩ wx := by
  conv => arg 2; whnf
  let qb : Exit → Act → World → Prop := bodyPost Try.prog Try.f5 (fun _ _ => True)
  go_cut [9] (fun s wz => S2 w wz b N sb pb nb pl (k + 1) s)
  case rest => exact hrest _ _ _ _ _ _ _ _ _ _ _ _ _ _ _ _ _ _ _ _ _ _ _ _ _ _ _ _ _ _ _ _ _ _ _ _ _ _ _ _ _ _ _ _ _ _ _ _ _ _ _ _ _ _ _ _ _ _ _ _ _ _ _ _ _ _ _ _ _ _ _ _ _ _ _ _ _ _ _ _ _ _ _ _ _ _ _ _ _ _ _ _ _ _ _ _ _ _ _ _ _ _ _ _ _ _ _ _ _ _ _ _ _ _ _ _ _ _ _ _ _ _ _ _ _ _ _ _ _ _ _ _ _ _ _ _ _ _ _ _ _ _ _ _ _ _ _ _ _ _ _ _ _ _ _ _ _ _ _ _ _ _ _ _ _ _ _ _ _ _ hcut
  case first =>
    clear hrest qb
    clear ox c0 HM3 e0 e1 e2
    have h7 : ((7 : Int) == 0) = false := by decide
    cases g
    · have P1 := commit_none b N v la R now next Ln Lx wx TX.bk
      go_wp2_with fail
      refine P1.mono ?_
      rintro r w7 ⟨rfl, rfl⟩
      go_wp2_with fail
      go_meet
      exact ⟨v, la, false, R, now, next, Ln, Lx, PV, XV, D, X, pv, pp, U, Y, l, m, TX, q, by omega, rfl⟩
    rcases Nat.eq_zero_or_pos (waitL N R).length with hw0 | hw0
    rotate_left 1
    · have P1 := commit_no b N v la R now next Ln Lx wx TX.bk q.n16 hw0
      go_wp2_with fail
      refine P1.mono ?_
      rintro r w7 ⟨rfl, j7⟩
      have t7 := TX.below j7
      clear TX
      go_wp2_with fail
      go_meet
      exact ⟨v, la, true, R, now, next, Ln, Lx, PV, XV, D, X, pv, pp, U, Y, l, m, t7, q, by omega, rfl⟩
    have hla1 := q.vg rfl
    have hv0 := q.v0
    obtain ⟨ln, rfl⟩ := Int.eq_ofNat_of_zero_le (show 0 ≤ la by omega)
    have P1 := commit_yes b N v ln R now next Ln Lx wx TX.bk q.n16 hw0
    have hbg : bgI true (ln : Int) = (ln : Int) := rfl
    rw [hbg]
    clear hbg
    have h0 : ((0 : Int) == 0) = true := by decide
    have h1 : decide ((ln : Int) < 1) = false := by simp; omega
    have h1' : decide (ln < 1) = false := by simp; omega
    have h2 : ((ln : Int) != (ln : Int)) = false := by simp
    go_wp2_with fail
    refine P1.mono ?_
    rintro r w7 ⟨rfl, hB, j7⟩
    have t7 := TX.book hB j7
    have PV7 := version_any b N ln ln false R next none Lx [] w7 hB
    clear P1 TX hB j7
    go_wp2_with fail
    refine PV7.mono ?_
    rintro r w8 ⟨rfl, rfl⟩
    have q7 := q.commit
    rw [Int.toNat_natCast] at q7
    have oX : Own w7 nb 36 #[XV 0, XV 1, XV 2, XV 3, XV 4, XV 5, XV 6, XV 7, XV 8, XV 9, XV 10, XV 11, XV 12, XV 13, XV 14, XV 15] := t7.nx
    have hth : w7.there pb (ln * 16) 16 := fun j hj => ⟨by rw [t7.past.cell (show ln * 16 + j < 1296 by omega)]; rfl, t7.past.free _⟩
    have hone : (#[XV 0, XV 1, XV 2, XV 3, XV 4, XV 5, XV 6, XV 7, XV 8, XV 9, XV 10, XV 11, XV 12, XV 13, XV 14, XV 15] : Array Value).all (·.oneCell') = true := by
      refine all_oneCell_toArray (fun z hz => ?_)
      obtain ⟨i, hi0, rfl⟩ := List.getElem_of_mem hz
      have hi : i < 16 := by simpa using hi0
      have e : ([XV 0, XV 1, XV 2, XV 3, XV 4, XV 5, XV 6, XV 7, XV 8, XV 9, XV 10, XV 11, XV 12, XV 13, XV 14, XV 15] : List Value)[i]'hi0 = XV i := by
        rcases (show i = 0 ∨ i = 1 ∨ i = 2 ∨ i = 3 ∨ i = 4 ∨ i = 5 ∨ i = 6 ∨ i = 7 ∨ i = 8 ∨ i = 9 ∨ i = 10 ∨ i = 11 ∨ i = 12 ∨ i = 13 ∨ i = 14 ∨ i = 15 by omega) with rfl | rfl | rfl | rfl | rfl | rfl | rfl | rfl | rfl | rfl | rfl | rfl | rfl | rfl | rfl | rfl <;> rfl
      rw [e]
      obtain ⟨a9, c9, e9, _⟩ := t7.xr i hi
      rw [e9]
      rfl
    obtain ⟨PV', tE⟩ := t7.setP (k := ln) [XV 0, XV 1, XV 2, XV 3, XV 4, XV 5, XV 6, XV 7, XV 8, XV 9, XV 10, XV 11, XV 12, XV 13, XV 14, XV 15] rfl (fun i hi => by
      rcases (show i = 0 ∨ i = 1 ∨ i = 2 ∨ i = 3 ∨ i = 4 ∨ i = 5 ∨ i = 6 ∨ i = 7 ∨ i = 8 ∨ i = 9 ∨ i = 10 ∨ i = 11 ∨ i = 12 ∨ i = 13 ∨ i = 14 ∨ i = 15 by omega) with rfl | rfl | rfl | rfl | rfl | rfl | rfl | rfl | rfl | rfl | rfl | rfl | rfl | rfl | rfl | rfl <;> rfl)
    have hl81 : ln < 81 := by omega
    clear PV7 q t7 hlts
    go_wp2_with (first
      | (refine wpList_load_row rfl 36 (.tmp 10) rfl nb rfl 36 _ (0, 0) _ oX Try.underlying36 rfl (by kernel_rfl) ?_)
      | (refine wpList_store_mid rfl _ _ _ rfl pb (ln * 16) #[XV 0, XV 1, XV 2, XV 3, XV 4, XV 5, XV 6, XV 7, XV 8, XV 9, XV 10, XV 11, XV 12, XV 13, XV 14, XV 15] rfl rfl hth (by kernel_rfl) hone ?_))
    go_meet
    exact ⟨_, _, false, R, next, none, Lx, [], PV', XV, _, X, pv, pp, U, Y, l, m, tE, q7, by omega, rfl⟩
set_option maxHeartbeats 100000000 in
theorem swD (x0 : Int) (n c n0 N b sb pb nb k bo off r0 nn : Nat) (pl : Nat → Nat) (w wx : World) (qd qn qv : Int) (qm qc : Nat) (qa : Option Addr) (qV : Nat → Value) (qF : Nat → Rw) (v la : Int) (g : Bool) (R : Nat → Bool) (now next : Option Nat) (Ln Lx : List (Int × List C)) (PV XV : Nat → Value) (D : Nat → Nat → List C) (X : Nat → List C) (pv pp : Nat → Int) (U Y : Nat → Value) (l m : Nat → List C) (u4 u7 u14 u15 u16 u17 u18 u19 u20 u21 u22 u40 u41 u42 u43 u44 u45 u61 u62 u63 u64 u65 u66 u67 u68 u69 u70 u71 u72 u73 u74 u75 u76 u77 u78 u79 u80 u81 u82 u83 u84 u85 u86 u87 u88 u89 u90 u91 u92 u93 u94 u95 u96 u97 u98 u99 u100 u101 u102 u103 u104 u105 u106 u107 u108 u109 u110 u111 u112 u113 u114 u115 u116 u117 u118 u119 u120 u121 u122 u123 u124 u125 u126 u127 u128 u129 u130 u131 u132 u133 u134 u135 u136 u137 u138 u139 u140 u141 u142 u143 u144 u145 u146 u147 u148 u149 u150 u151 u152 u153 u154 u155 u156 u157 u158 u159 u160 u161 u162 u163 u164 u165 u166 u167 u168 u169 u170 u171 u172 u173 u174 u175 u176 u177 u178 u179 u180 u181 u182 u183 u184 u185 u186 u187 u188 u189 u190 u191 u192 u193 u194 u195 u196 u197 u198 u199 u200 u201 u202 u203 u204 u205 u206 u207 u208 u209 u210 u211 u212 u213 kc0 kc1 kc2 kc3 : Value) (K : Act → World → Prop) (Q3 : Exit → Act → World → Prop) (hlt : k < n) (hn80 : n ≤ 80) (hN1 : 1 ≤ N ∧ N ≤ 6) (hm1 : qm ≤ qc) (hm2 : qc ≤ maxLen) (hnbr : nb < r0) (hnN : nn < N) (HM3 : Hid (RwM w qa qm qV qF)) (ox : Own wx r0 31 #[.int .i64 qd, .int .i64 qn, .int .i64 qv, .slice qa qm qc]) (c0 : wx.cell? ⟨r0, 0, none⟩ = some (.int .i64 qd)) (TX : M2 w wx b N sb pb nb pl v la g R now next Ln Lx PV XV D X pv pp U Y l m) (q : Q2 N v la g Ln Lx D X pv pp l m) (hla : la ≤ (k : Int)) (hlts : sb < pb ∧ nb < wx.heap.size) (e0 : ¬ qd = 0) (g0 : (qd == 0) = false) (e1 : ¬ qd = 1) (g1 : (qd == 1) = false) (e2 : ¬ qd = 2) (g2 : (qd == 2) = false) (e3 : qd = 3) (g3 : (qd == 3) = true)
    (hrest : ∀ (u4' u9' u14' u15' u16' u17' u18' u19' u49' u50' u51' u52' u53' u54' u55' u56' u57' u58' u59' u61' u62' u63' u64' u65' u66' u67' u68' u69' u70' u71' u72' u73' u74' u75' u76' u77' u78' u79' u80' u81' u82' u83' u84' u85' u86' u87' u88' u89' u90' u91' u92' u93' u94' u95' u96' u97' u98' u99' u100' u101' u102' u103' u104' u105' u106' u107' u108' u109' u110' u111' u112' u113' u114' u115' u116' u117' u118' u119' u120' u121' u122' u123' u124' u125' u126' u127' u128' u129' u130' u131' u132' u133' u134' u135' u136' u137' u138' u139' u140' u141' u142' u143' u144' u145' u146' u147' u148' u149' u150' u154' u155' u156' u157' u158' u159' u160' u161' u162' u163' u164' u165' u166' u167' u168' u169' u170' u171' u172' u173' u174' u175' u176' u177' u178' u179' u180' u181' u182' u183' u184' u185' u186' u187' u188' u189' u190' u191' u192' u193' u194' u195' u196' u197' u198' u199' u200' u201' u202' u203' u204' u205' u206' u207' u208' u209' u210' u211' u212' u213' : Value) (wz : World), S2 w wz b N sb pb nb pl (k + 1) u9' → K ⟨List.toArray ((.int .i64 (N : Int)) :: (.slice (some ⟨bo, off, none⟩) n c) :: undef :: undef :: u4' :: (.pointer (some ⟨b, 0, none⟩)) :: (.slice (some ⟨sb, 0, none⟩) N N) :: u7 :: (.pointer (some ⟨pb, 0, none⟩)) :: u9' :: (.pointer (some ⟨nb, 0, none⟩)) :: undef :: (.pointer (some ⟨r0, 0, none⟩)) :: (.int .i64 (nn : Int)) :: u14' :: u15' :: u16' :: u17' :: u18' :: u19' :: u20 :: u21 :: u22 :: (.slice (some ⟨bo, off, none⟩) n c) :: (.bool true) :: (.bool false) :: undef :: (.int .i64 x0) :: kc0 :: kc1 :: (.int .i64 (n0 : Int)) :: (.int .i64 (N : Int)) :: (.int .i64 (N : Int)) :: (.pointer (some ⟨b, 0, none⟩)) :: (.int .i64 (N : Int)) :: (.slice (some ⟨sb, 0, none⟩) N N) :: (.slice (some ⟨sb, 0, none⟩) N N) :: (.int .i64 (N : Int)) :: (.int .i64 (N : Int)) :: (.bool false) :: u40 :: u41 :: u42 :: u43 :: u44 :: u45 :: (.slice (some ⟨bo, off, none⟩) n c) :: (.int .i64 (n : Int)) :: (.int .i64 (k : Int)) :: u49' :: u50' :: u51' :: u52' :: u53' :: u54' :: u55' :: u56' :: u57' :: u58' :: u59' :: (.int .i64 qd) :: u61' :: u62' :: u63' :: u64' :: u65' :: u66' :: u67' :: u68' :: u69' :: u70' :: u71' :: u72' :: u73' :: u74' :: u75' :: u76' :: u77' :: u78' :: u79' :: u80' :: u81' :: u82' :: u83' :: u84' :: u85' :: u86' :: u87' :: u88' :: u89' :: u90' :: u91' :: u92' :: u93' :: u94' :: u95' :: u96' :: u97' :: u98' :: u99' :: u100' :: u101' :: u102' :: u103' :: u104' :: u105' :: u106' :: u107' :: u108' :: u109' :: u110' :: u111' :: u112' :: u113' :: u114' :: u115' :: u116' :: u117' :: u118' :: u119' :: u120' :: u121' :: u122' :: u123' :: u124' :: u125' :: u126' :: u127' :: u128' :: u129' :: u130' :: u131' :: u132' :: u133' :: u134' :: u135' :: u136' :: u137' :: u138' :: u139' :: u140' :: u141' :: u142' :: u143' :: u144' :: u145' :: u146' :: u147' :: u148' :: u149' :: u150' :: u151 :: u152 :: u153 :: u154' :: u155' :: u156' :: u157' :: u158' :: u159' :: u160' :: u161' :: u162' :: u163' :: u164' :: u165' :: u166' :: u167' :: u168' :: u169' :: u170' :: u171' :: u172' :: u173' :: u174' :: u175' :: u176' :: u177' :: u178' :: u179' :: u180' :: u181' :: u182' :: u183' :: u184' :: u185' :: u186' :: u187' :: u188' :: u189' :: u190' :: u191' :: u192' :: u193' :: u194' :: u195' :: u196' :: u197' :: u198' :: u199' :: u200' :: u201' :: u202' :: u203' :: u204' :: u205' :: u206' :: u207' :: u208' :: u209' :: u210' :: u211' :: u212' :: u213' :: undef :: []), []⟩ wz) :
    codeSw.wp Try.prog (Exit.then K Q3) ⟨List.toArray ((.int .i64 (N : Int)) :: (.slice (some ⟨bo, off, none⟩) n c) :: undef :: undef :: u4 :: (.pointer (some ⟨b, 0, none⟩)) :: (.slice (some ⟨sb, 0, none⟩) N N) :: u7 :: (.pointer (some ⟨pb, 0, none⟩)) :: (.int .i64 (bgI g la)) :: (.pointer (some ⟨nb, 0, none⟩)) :: undef :: (.pointer (some ⟨r0, 0, none⟩)) :: (.int .i64 (nn : Int)) :: u14 :: u15 :: u16 :: u17 :: u18 :: u19 :: u20 :: u21 :: u22 :: (.slice (some ⟨bo, off, none⟩) n c) :: (.bool true) :: (.bool false) :: undef :: (.int .i64 x0) :: kc0 :: kc1 :: (.int .i64 (n0 : Int)) :: (.int .i64 (N : Int)) :: (.int .i64 (N : Int)) :: (.pointer (some ⟨b, 0, none⟩)) :: (.int .i64 (N : Int)) :: (.slice (some ⟨sb, 0, none⟩) N N) :: (.slice (some ⟨sb, 0, none⟩) N N) :: (.int .i64 (N : Int)) :: (.int .i64 (N : Int)) :: (.bool false) :: u40 :: u41 :: u42 :: u43 :: u44 :: u45 :: (.slice (some ⟨bo, off, none⟩) n c) :: (.int .i64 (n : Int)) :: (.int .i64 (k : Int)) :: (.bool true) :: (.pointer (some ⟨bo, off + k * 4, none⟩)) :: (.agg #[.int .i64 qd, .int .i64 qn, .int .i64 qv, .slice qa qm qc]) :: (.pointer (some ⟨r0, 1, none⟩)) :: (.int .i64 qn) :: kc2 :: (.int .i64 (N : Int)) :: (.int .u64 (N : Int)) :: kc3 :: (.int .i64 (nn : Int)) :: (.pointer (some ⟨r0, 0, none⟩)) :: (.int .i64 qd) :: u61 :: u62 :: u63 :: u64 :: u65 :: u66 :: u67 :: u68 :: u69 :: u70 :: u71 :: u72 :: u73 :: u74 :: u75 :: u76 :: u77 :: u78 :: u79 :: u80 :: u81 :: u82 :: u83 :: u84 :: u85 :: u86 :: u87 :: u88 :: u89 :: u90 :: u91 :: u92 :: u93 :: u94 :: u95 :: u96 :: u97 :: u98 :: u99 :: u100 :: u101 :: u102 :: u103 :: u104 :: u105 :: u106 :: u107 :: u108 :: u109 :: u110 :: u111 :: u112 :: u113 :: u114 :: u115 :: u116 :: u117 :: u118 :: u119 :: u120 :: u121 :: u122 :: u123 :: u124 :: u125 :: u126 :: u127 :: u128 :: u129 :: u130 :: u131 :: u132 :: u133 :: u134 :: u135 :: u136 :: u137 :: u138 :: u139 :: u140 :: u141 :: u142 :: u143 :: u144 :: u145 :: u146 :: u147 :: u148 :: u149 :: u150 :: u151 :: u152 :: u153 :: u154 :: u155 :: u156 :: u157 :: u158 :: u159 :: u160 :: u161 :: u162 :: u163 :: u164 :: u165 :: u166 :: u167 :: u168 :: u169 :: u170 :: u171 :: u172 :: u173 :: u174 :: u175 :: u176 :: u177 :: u178 :: u179 :: u180 :: u181 :: u182 :: u183 :: u184 :: u185 :: u186 :: u187 :: u188 :: u189 :: u190 :: u191 :: u192 :: u193 :: u194 :: u195 :: u196 :: u197 :: u198 :: u199 :: u200 :: u201 :: u202 :: u203 :: u204 :: u205 :: u206 :: u207 :: u208 :: u209 :: u210 :: u211 :: u212 :: u213 :: undef :: []), []⟩ wx := by
  conv => arg 2; whnf
  let qb : Exit → Act → World → Prop := bodyPost Try.prog Try.f5 (fun _ _ => True)
  go_cut [9] (fun s wz => S2 w wz b N sb pb nb pl (k + 1) s)
  case rest => exact hrest _ _ _ _ _ _ _ _ _ _ _ _ _ _ _ _ _ _ _ _ _ _ _ _ _ _ _ _ _ _ _ _ _ _ _ _ _ _ _ _ _ _ _ _ _ _ _ _ _ _ _ _ _ _ _ _ _ _ _ _ _ _ _ _ _ _ _ _ _ _ _ _ _ _ _ _ _ _ _ _ _ _ _ _ _ _ _ _ _ _ _ _ _ _ _ _ _ _ _ _ _ _ _ _ _ _ _ _ _ _ _ _ _ _ _ _ _ _ _ _ _ _ _ _ _ _ _ _ _ _ _ _ _ _ _ _ _ _ _ _ _ _ _ _ _ _ _ _ _ _ _ _ _ _ _ _ _ _ _ _ _ _ _ _ _ _ _ _ _ _ hcut
  case first =>
    clear hrest qb
    clear ox c0 HM3 e0 e1 e2 e3
    have h7 : ((7 : Int) == 0) = false := by decide
    have h0 : ((0 : Int) == 0) = true := by decide
    cases g
    · have P1 := abort_no b N v la R now next Ln Lx wx TX.bk
      go_wp2_with fail
      refine P1.mono ?_
      rintro r w7 ⟨rfl, rfl⟩
      go_wp2_with fail
      go_meet
      exact ⟨v, la, false, R, now, next, Ln, Lx, PV, XV, D, X, pv, pp, U, Y, l, m, TX, q, by omega, rfl⟩
    have P1 := abort_yes b N v la R now next Ln Lx wx TX.bk
    go_wp2_with fail
    refine P1.mono ?_
    rintro r w7 ⟨rfl, hB, j7⟩
    have t7 := TX.book hB j7
    have q7 := q.abort
    clear P1 TX hB j7 q
    go_wp2_with fail
    go_meet
    exact ⟨v, la, false, R, now, none, Ln, [], PV, XV, D, X, pv, pp, U, Y, l, m, t7, q7, by omega, rfl⟩
set_option maxHeartbeats 100000000 in
theorem swE (x0 : Int) (n c n0 N b sb pb nb k bo off r0 nn : Nat) (pl : Nat → Nat) (w wx : World) (qd qn qv : Int) (qm qc : Nat) (qa : Option Addr) (qV : Nat → Value) (qF : Nat → Rw) (v la : Int) (g : Bool) (R : Nat → Bool) (now next : Option Nat) (Ln Lx : List (Int × List C)) (PV XV : Nat → Value) (D : Nat → Nat → List C) (X : Nat → List C) (pv pp : Nat → Int) (U Y : Nat → Value) (l m : Nat → List C) (u4 u7 u14 u15 u16 u17 u18 u19 u20 u21 u22 u40 u41 u42 u43 u44 u45 u61 u62 u63 u64 u65 u66 u67 u68 u69 u70 u71 u72 u73 u74 u75 u76 u77 u78 u79 u80 u81 u82 u83 u84 u85 u86 u87 u88 u89 u90 u91 u92 u93 u94 u95 u96 u97 u98 u99 u100 u101 u102 u103 u104 u105 u106 u107 u108 u109 u110 u111 u112 u113 u114 u115 u116 u117 u118 u119 u120 u121 u122 u123 u124 u125 u126 u127 u128 u129 u130 u131 u132 u133 u134 u135 u136 u137 u138 u139 u140 u141 u142 u143 u144 u145 u146 u147 u148 u149 u150 u151 u152 u153 u154 u155 u156 u157 u158 u159 u160 u161 u162 u163 u164 u165 u166 u167 u168 u169 u170 u171 u172 u173 u174 u175 u176 u177 u178 u179 u180 u181 u182 u183 u184 u185 u186 u187 u188 u189 u190 u191 u192 u193 u194 u195 u196 u197 u198 u199 u200 u201 u202 u203 u204 u205 u206 u207 u208 u209 u210 u211 u212 u213 kc0 kc1 kc2 kc3 : Value) (K : Act → World → Prop) (Q3 : Exit → Act → World → Prop) (hlt : k < n) (hn80 : n ≤ 80) (hN1 : 1 ≤ N ∧ N ≤ 6) (hm1 : qm ≤ qc) (hm2 : qc ≤ maxLen) (hnbr : nb < r0) (hnN : nn < N) (HM3 : Hid (RwM w qa qm qV qF)) (ox : Own wx r0 31 #[.int .i64 qd, .int .i64 qn, .int .i64 qv, .slice qa qm qc]) (c0 : wx.cell? ⟨r0, 0, none⟩ = some (.int .i64 qd)) (TX : M2 w wx b N sb pb nb pl v la g R now next Ln Lx PV XV D X pv pp U Y l m) (q : Q2 N v la g Ln Lx D X pv pp l m) (hla : la ≤ (k : Int)) (hlts : sb < pb ∧ nb < wx.heap.size) (e0 : ¬ qd = 0) (g0 : (qd == 0) = false) (e1 : ¬ qd = 1) (g1 : (qd == 1) = false) (e2 : ¬ qd = 2) (g2 : (qd == 2) = false) (e3 : ¬ qd = 3) (g3 : (qd == 3) = false)
    (hrest : ∀ (u4' u9' u14' u15' u16' u17' u18' u19' u49' u50' u51' u52' u53' u54' u55' u56' u57' u58' u59' u61' u62' u63' u64' u65' u66' u67' u68' u69' u70' u71' u72' u73' u74' u75' u76' u77' u78' u79' u80' u81' u82' u83' u84' u85' u86' u87' u88' u89' u90' u91' u92' u93' u94' u95' u96' u97' u98' u99' u100' u101' u102' u103' u104' u105' u106' u107' u108' u109' u110' u111' u112' u113' u114' u115' u116' u117' u118' u119' u120' u121' u122' u123' u124' u125' u126' u127' u128' u129' u130' u131' u132' u133' u134' u135' u136' u137' u138' u139' u140' u141' u142' u143' u144' u145' u146' u147' u148' u149' u150' u154' u155' u156' u157' u158' u159' u160' u161' u162' u163' u164' u165' u166' u167' u168' u169' u170' u171' u172' u173' u174' u175' u176' u177' u178' u179' u180' u181' u182' u183' u184' u185' u186' u187' u188' u189' u190' u191' u192' u193' u194' u195' u196' u197' u198' u199' u200' u201' u202' u203' u204' u205' u206' u207' u208' u209' u210' u211' u212' u213' : Value) (wz : World), S2 w wz b N sb pb nb pl (k + 1) u9' → K ⟨List.toArray ((.int .i64 (N : Int)) :: (.slice (some ⟨bo, off, none⟩) n c) :: undef :: undef :: u4' :: (.pointer (some ⟨b, 0, none⟩)) :: (.slice (some ⟨sb, 0, none⟩) N N) :: u7 :: (.pointer (some ⟨pb, 0, none⟩)) :: u9' :: (.pointer (some ⟨nb, 0, none⟩)) :: undef :: (.pointer (some ⟨r0, 0, none⟩)) :: (.int .i64 (nn : Int)) :: u14' :: u15' :: u16' :: u17' :: u18' :: u19' :: u20 :: u21 :: u22 :: (.slice (some ⟨bo, off, none⟩) n c) :: (.bool true) :: (.bool false) :: undef :: (.int .i64 x0) :: kc0 :: kc1 :: (.int .i64 (n0 : Int)) :: (.int .i64 (N : Int)) :: (.int .i64 (N : Int)) :: (.pointer (some ⟨b, 0, none⟩)) :: (.int .i64 (N : Int)) :: (.slice (some ⟨sb, 0, none⟩) N N) :: (.slice (some ⟨sb, 0, none⟩) N N) :: (.int .i64 (N : Int)) :: (.int .i64 (N : Int)) :: (.bool false) :: u40 :: u41 :: u42 :: u43 :: u44 :: u45 :: (.slice (some ⟨bo, off, none⟩) n c) :: (.int .i64 (n : Int)) :: (.int .i64 (k : Int)) :: u49' :: u50' :: u51' :: u52' :: u53' :: u54' :: u55' :: u56' :: u57' :: u58' :: u59' :: (.int .i64 qd) :: u61' :: u62' :: u63' :: u64' :: u65' :: u66' :: u67' :: u68' :: u69' :: u70' :: u71' :: u72' :: u73' :: u74' :: u75' :: u76' :: u77' :: u78' :: u79' :: u80' :: u81' :: u82' :: u83' :: u84' :: u85' :: u86' :: u87' :: u88' :: u89' :: u90' :: u91' :: u92' :: u93' :: u94' :: u95' :: u96' :: u97' :: u98' :: u99' :: u100' :: u101' :: u102' :: u103' :: u104' :: u105' :: u106' :: u107' :: u108' :: u109' :: u110' :: u111' :: u112' :: u113' :: u114' :: u115' :: u116' :: u117' :: u118' :: u119' :: u120' :: u121' :: u122' :: u123' :: u124' :: u125' :: u126' :: u127' :: u128' :: u129' :: u130' :: u131' :: u132' :: u133' :: u134' :: u135' :: u136' :: u137' :: u138' :: u139' :: u140' :: u141' :: u142' :: u143' :: u144' :: u145' :: u146' :: u147' :: u148' :: u149' :: u150' :: u151 :: u152 :: u153 :: u154' :: u155' :: u156' :: u157' :: u158' :: u159' :: u160' :: u161' :: u162' :: u163' :: u164' :: u165' :: u166' :: u167' :: u168' :: u169' :: u170' :: u171' :: u172' :: u173' :: u174' :: u175' :: u176' :: u177' :: u178' :: u179' :: u180' :: u181' :: u182' :: u183' :: u184' :: u185' :: u186' :: u187' :: u188' :: u189' :: u190' :: u191' :: u192' :: u193' :: u194' :: u195' :: u196' :: u197' :: u198' :: u199' :: u200' :: u201' :: u202' :: u203' :: u204' :: u205' :: u206' :: u207' :: u208' :: u209' :: u210' :: u211' :: u212' :: u213' :: undef :: []), []⟩ wz) :
    codeSw.wp Try.prog (Exit.then K Q3) ⟨List.toArray ((.int .i64 (N : Int)) :: (.slice (some ⟨bo, off, none⟩) n c) :: undef :: undef :: u4 :: (.pointer (some ⟨b, 0, none⟩)) :: (.slice (some ⟨sb, 0, none⟩) N N) :: u7 :: (.pointer (some ⟨pb, 0, none⟩)) :: (.int .i64 (bgI g la)) :: (.pointer (some ⟨nb, 0, none⟩)) :: undef :: (.pointer (some ⟨r0, 0, none⟩)) :: (.int .i64 (nn : Int)) :: u14 :: u15 :: u16 :: u17 :: u18 :: u19 :: u20 :: u21 :: u22 :: (.slice (some ⟨bo, off, none⟩) n c) :: (.bool true) :: (.bool false) :: undef :: (.int .i64 x0) :: kc0 :: kc1 :: (.int .i64 (n0 : Int)) :: (.int .i64 (N : Int)) :: (.int .i64 (N : Int)) :: (.pointer (some ⟨b, 0, none⟩)) :: (.int .i64 (N : Int)) :: (.slice (some ⟨sb, 0, none⟩) N N) :: (.slice (some ⟨sb, 0, none⟩) N N) :: (.int .i64 (N : Int)) :: (.int .i64 (N : Int)) :: (.bool false) :: u40 :: u41 :: u42 :: u43 :: u44 :: u45 :: (.slice (some ⟨bo, off, none⟩) n c) :: (.int .i64 (n : Int)) :: (.int .i64 (k : Int)) :: (.bool true) :: (.pointer (some ⟨bo, off + k * 4, none⟩)) :: (.agg #[.int .i64 qd, .int .i64 qn, .int .i64 qv, .slice qa qm qc]) :: (.pointer (some ⟨r0, 1, none⟩)) :: (.int .i64 qn) :: kc2 :: (.int .i64 (N : Int)) :: (.int .u64 (N : Int)) :: kc3 :: (.int .i64 (nn : Int)) :: (.pointer (some ⟨r0, 0, none⟩)) :: (.int .i64 qd) :: u61 :: u62 :: u63 :: u64 :: u65 :: u66 :: u67 :: u68 :: u69 :: u70 :: u71 :: u72 :: u73 :: u74 :: u75 :: u76 :: u77 :: u78 :: u79 :: u80 :: u81 :: u82 :: u83 :: u84 :: u85 :: u86 :: u87 :: u88 :: u89 :: u90 :: u91 :: u92 :: u93 :: u94 :: u95 :: u96 :: u97 :: u98 :: u99 :: u100 :: u101 :: u102 :: u103 :: u104 :: u105 :: u106 :: u107 :: u108 :: u109 :: u110 :: u111 :: u112 :: u113 :: u114 :: u115 :: u116 :: u117 :: u118 :: u119 :: u120 :: u121 :: u122 :: u123 :: u124 :: u125 :: u126 :: u127 :: u128 :: u129 :: u130 :: u131 :: u132 :: u133 :: u134 :: u135 :: u136 :: u137 :: u138 :: u139 :: u140 :: u141 :: u142 :: u143 :: u144 :: u145 :: u146 :: u147 :: u148 :: u149 :: u150 :: u151 :: u152 :: u153 :: u154 :: u155 :: u156 :: u157 :: u158 :: u159 :: u160 :: u161 :: u162 :: u163 :: u164 :: u165 :: u166 :: u167 :: u168 :: u169 :: u170 :: u171 :: u172 :: u173 :: u174 :: u175 :: u176 :: u177 :: u178 :: u179 :: u180 :: u181 :: u182 :: u183 :: u184 :: u185 :: u186 :: u187 :: u188 :: u189 :: u190 :: u191 :: u192 :: u193 :: u194 :: u195 :: u196 :: u197 :: u198 :: u199 :: u200 :: u201 :: u202 :: u203 :: u204 :: u205 :: u206 :: u207 :: u208 :: u209 :: u210 :: u211 :: u212 :: u213 :: undef :: []), []⟩ wx := by
  conv => arg 2; whnf
  let qb : Exit → Act → World → Prop := bodyPost Try.prog Try.f5 (fun _ _ => True)
  go_cut [9] (fun s wz => S2 w wz b N sb pb nb pl (k + 1) s)
  case rest => exact hrest _ _ _ _ _ _ _ _ _ _ _ _ _ _ _ _ _ _ _ _ _ _ _ _ _ _ _ _ _ _ _ _ _ _ _ _ _ _ _ _ _ _ _ _ _ _ _ _ _ _ _ _ _ _ _ _ _ _ _ _ _ _ _ _ _ _ _ _ _ _ _ _ _ _ _ _ _ _ _ _ _ _ _ _ _ _ _ _ _ _ _ _ _ _ _ _ _ _ _ _ _ _ _ _ _ _ _ _ _ _ _ _ _ _ _ _ _ _ _ _ _ _ _ _ _ _ _ _ _ _ _ _ _ _ _ _ _ _ _ _ _ _ _ _ _ _ _ _ _ _ _ _ _ _ _ _ _ _ _ _ _ _ _ _ _ _ _ _ _ _ hcut
  case first =>
    clear hrest qb
    clear ox c0 HM3 e0 e1 e2 e3
    have c6 : wx.cell? ⟨sb, nn, none⟩ = some (.pointer (some ⟨pl nn, 0, none⟩)) := TX.sl.cell hnN
    have tD : M2 w wx.drew b N sb pb nb pl v la g R now next Ln Lx PV XV D X pv pp U Y l m := TX.below (below_drewN (Below.refl wx.heap.size wx) 1)
    have xx : wx.drew.cell? ⟨sb, nn, none⟩ = some (.pointer (some ⟨pl nn, 0, none⟩)) := c6
    have PV1 := Lib.hid (version_any b N v la g R now next Ln Lx wx.drew tD.bk)
    by_cases hp : 0 < pp nn ∧ pp nn = v
    · obtain ⟨hp0, hp1⟩ := hp
      have PC := pcommit_yes (pl nn) (pv nn) (pp nn) (U nn) (Y nn) (l nn) (m nn) wx.drew (tD.pn nn hnN) (by omega)
      rw [hp1] at PC
      have PC := Lib.hid PC
      have q7 := Lib.hid (q.word nn hp0 hp1)
      have HTD := Lib.hid tD
      clear hp0 hp1 q TX tD
      go_upto_region 19 with (fail)
      go_region_held3 (fun w' => w'.cell? ⟨sb, nn, none⟩ = some (.pointer (some ⟨pl nn, 0, none⟩))) (with_reducible first | exact xx | exact yy) (first
        | (go_at_call 20; with_reducible refine (PV1.out).mono ?_; rintro r w5 ⟨rfl, rfl⟩)
        | (go_at_call 28; with_reducible refine (PC.out).mono ?_; rintro r w6 ⟨rfl, h6, j6⟩; have yy : w6.cell? ⟨sb, nn, none⟩ = some (.pointer (some ⟨pl nn, 0, none⟩)) := (by
            have hne : sb ≠ pl nn := by have := HTD.out.o2 nn hnN; omega
            have := j6.block sb HTD.out.sl.lt hne
            unfold World.cell? at xx ⊢
            rw [this]
            exact xx))
        | fail)
      all_goals
        have t6 := HTD.out.plan hnN h6 j6
        clear xx yy PC PV1
        go_wp2_with fail
        go_meet
        exact ⟨v, la, g, R, now, next, Ln, Lx, PV, XV, D, X, _, _, _, _, _, _, t6, q7.out, by omega, rfl⟩
    · have hp' : pp nn = 0 ∨ v ≠ pp nn := by
        have := (q.p0 nn).2.2.1
        by_cases h : pp nn = 0
        · exact .inl h
        · exact .inr (fun e => hp ⟨by omega, e.symm⟩)
      have PC := Lib.hid (pcommit_no (pl nn) (pv nn) (pp nn) v (U nn) (Y nn) (l nn) (m nn) wx.drew (tD.pn nn hnN) hp')
      have HTD := Lib.hid tD
      have HQ2 := Lib.hid q
      clear hp hp' q TX tD
      go_upto_region 19 with (fail)
      go_region_held3 (fun w' => w'.cell? ⟨sb, nn, none⟩ = some (.pointer (some ⟨pl nn, 0, none⟩))) (with_reducible exact xx) (first
        | (go_at_call 20; with_reducible refine (PV1.out).mono ?_; rintro r w5 ⟨rfl, rfl⟩)
        | (go_at_call 28; with_reducible refine (PC.out).mono ?_; rintro r w6 ⟨rfl, rfl⟩)
        | fail)
      all_goals
        clear xx PC PV1
        go_wp2_with fail
        go_meet
        exact ⟨v, la, g, R, now, next, Ln, Lx, PV, XV, D, X, pv, pp, U, Y, l, m, HTD.out, HQ2.out, by omega, rfl⟩
set_option maxHeartbeats 100000000 in
theorem rgP (x0 : Int) (n c n0 N b sb pb nb k bo off r0 nn vn j pn : Nat) (pl : Nat → Nat) (w wr : World) (qd : Int) (la : Int) (g : Bool) (R : Nat → Bool) (now next : Option Nat) (Ln Lx : List (Int × List C)) (PV XV : Nat → Value) (D : Nat → Nat → List C) (X : Nat → List C) (pv pp : Nat → Int) (U Y : Nat → Value) (l m : Nat → List C) (A8 A9 : Option Addr) (c8 c9 : Nat) (u4 u7 u14 u15 u16 u17 u18 u19 u40 u41 u42 u43 u44 u45 u49 u50 u51 u52 u53 u54 u55 u56 u57 u58 u59 u61 u62 u63 u64 u65 u66 u67 u68 u69 u70 u71 u72 u73 u74 u75 u76 u77 u78 u79 u80 u81 u82 u83 u84 u85 u86 u87 u88 u89 u90 u91 u92 u93 u94 u95 u96 u97 u98 u99 u100 u101 u102 u103 u104 u105 u106 u107 u108 u109 u110 u111 u112 u113 u114 u115 u116 u117 u118 u119 u120 u121 u122 u123 u124 u125 u126 u127 u128 u129 u130 u131 u132 u133 u134 u135 u136 u137 u138 u139 u140 u141 u142 u143 u144 u145 u146 u147 u148 u149 u150 u160 u161 u162 u163 u164 u165 u166 u167 u168 u169 u170 u171 u172 u173 u174 u175 u176 u177 u178 u179 u180 u181 u182 u183 u184 u185 u186 u187 u188 u189 u190 u191 u192 u193 u194 u195 u196 u197 u198 u199 u200 u201 u202 u203 u204 u205 u206 u207 u208 u209 u210 u211 u212 u213 kc0 kc1 : Value) (K : Act → World → Prop) (Q3 : Exit → Act → World → Prop) (hv81 : vn < 81) (hp81 : pn < 81) (hj16 : j < 16) (PB : Hid (∀ (z : Lb.Gw wr), Calls Try.prog 20 #[Value.pointer (some ⟨b, 0, none⟩)] z.toW fun r w' => r = Ending.returned (Value.int IntKind.i64 (vn : Int)) ∧ z.toW = w')) (PC : Hid (∀ (z : Lb.Gw wr), Calls Try.prog 25 #[Value.pointer (some ⟨b, 0, none⟩), Value.int IntKind.i64 (j : Int)] z.toW fun r w' => ∃ a c, r = Ending.returned (Value.slice a (D vn j).length c) ∧ (D vn j).length ≤ c ∧ c ≤ maxLen ∧ Row w' a ((D vn j).length * 5) (lv (D vn j)) ∧ Below z.toW.heap.size z.toW w')) (c1 : ∀ (z : Lb.Gw wr), z.toW.cell? ⟨pb, pn * 16 + j, none⟩ = some (Value.slice A9 (D pn j).length c9)) (c2 : ∀ (z : Lb.Gw wr), z.toW.cell? ⟨pb, vn * 16 + j, none⟩ = some (Value.slice A8 (D vn j).length c8)) (R1 : Hid (∀ (z : Lb.Gw wr), (D pn j).length ≤ c9 ∧ c9 ≤ maxLen ∧ Row z.toW A9 ((D pn j).length * 5) (lv (D pn j)))) (R2 : Hid (∀ (z : Lb.Gw wr), (D vn j).length ≤ c8 ∧ c8 ≤ maxLen ∧ Row z.toW A8 ((D vn j).length * 5) (lv (D vn j)))) (HT : Hid (M2 w wr b N sb pb nb pl ((vn : Int)) la g R now next Ln Lx PV XV D X pv pp U Y l m)) (f1 : decide ((pn : Int) < 0) = false) (f2 : decide ((vn : Int) < (pn : Int)) = false) (f2' : decide (vn < pn) = false) (f3 : decide (80 < (pn : Int)) = false) (f3' : decide (80 < pn) = false) (hv81' : (vn : Int) < 81) (hp81' : (pn : Int) < 81) (hj16' : (j : Int) < 16) (f4 : decide (0 < (pn : Int)) = true) (f4' : decide (0 < pn) = true) (f5 : ((pn : Int) == 0) = false) (PA : Hid (∀ (z : Lb.Gw wr), Calls Try.prog 29 #[Value.pointer (some ⟨pl j, 0, none⟩)] z.toW fun r w' => ∃ a c, r = Ending.returned (Value.slice a (D pn j).length c) ∧ (D pn j).length ≤ c ∧ c ≤ maxLen ∧ Row w' a ((D pn j).length * 5) (lv (D pn j)) ∧ Below z.toW.heap.size z.toW w')) (hj : j ≤ N) (hjN : j < N)
    (hnext : ∀ (x17 x41 : Value) (z : Lb.Gw wr), K ⟨List.toArray ((.int .i64 (N : Int)) :: (.slice (some ⟨bo, off, none⟩) n c) :: undef :: undef :: u4 :: (.pointer (some ⟨b, 0, none⟩)) :: (.slice (some ⟨sb, 0, none⟩) N N) :: u7 :: (.pointer (some ⟨pb, 0, none⟩)) :: (.int .i64 (bgI g la)) :: (.pointer (some ⟨nb, 0, none⟩)) :: undef :: (.pointer (some ⟨r0, 0, none⟩)) :: (.int .i64 (nn : Int)) :: u14 :: u15 :: u16 :: u17 :: u18 :: u19 :: (.int .i64 (j : Int)) :: (.pointer (some ⟨pl j, 0, none⟩)) :: (.int .i64 (pn : Int)) :: (.slice (some ⟨bo, off, none⟩) n c) :: (.bool true) :: (.bool false) :: undef :: (.int .i64 x0) :: kc0 :: kc1 :: (.int .i64 (n0 : Int)) :: (.int .i64 (N : Int)) :: (.int .i64 (N : Int)) :: (.pointer (some ⟨b, 0, none⟩)) :: (.int .i64 (N : Int)) :: (.slice (some ⟨sb, 0, none⟩) N N) :: (.slice (some ⟨sb, 0, none⟩) N N) :: (.int .i64 (N : Int)) :: (.int .i64 (N : Int)) :: (.bool false) :: u40 :: u41 :: u42 :: u43 :: u44 :: u45 :: (.slice (some ⟨bo, off, none⟩) n c) :: (.int .i64 (n : Int)) :: (.int .i64 (k : Int)) :: u49 :: u50 :: u51 :: u52 :: u53 :: u54 :: u55 :: u56 :: u57 :: u58 :: u59 :: (.int .i64 qd) :: u61 :: u62 :: u63 :: u64 :: u65 :: u66 :: u67 :: u68 :: u69 :: u70 :: u71 :: u72 :: u73 :: u74 :: u75 :: u76 :: u77 :: u78 :: u79 :: u80 :: u81 :: u82 :: u83 :: u84 :: u85 :: u86 :: u87 :: u88 :: u89 :: u90 :: u91 :: u92 :: u93 :: u94 :: u95 :: u96 :: u97 :: u98 :: u99 :: u100 :: u101 :: u102 :: u103 :: u104 :: u105 :: u106 :: u107 :: u108 :: u109 :: u110 :: u111 :: u112 :: u113 :: u114 :: u115 :: u116 :: u117 :: u118 :: u119 :: u120 :: u121 :: u122 :: u123 :: u124 :: u125 :: u126 :: u127 :: u128 :: u129 :: u130 :: u131 :: u132 :: u133 :: u134 :: u135 :: u136 :: u137 :: u138 :: u139 :: u140 :: u141 :: u142 :: u143 :: u144 :: u145 :: u146 :: u147 :: u148 :: u149 :: u150 :: (.slice (some ⟨sb, 0, none⟩) N N) :: (.int .i64 (N : Int)) :: (.int .i64 (j : Int)) :: (.bool true) :: (.int .i64 (j : Int)) :: (.pointer (some ⟨sb, j, none⟩)) :: (.pointer (some ⟨pl j, 0, none⟩)) :: (.pointer (some ⟨pl j, 0, none⟩)) :: (.int .i64 (pn : Int)) :: (.int .i64 (pn : Int)) :: (.bool false) :: (.bool false) :: (.int .i64 (pn : Int)) :: (.pointer (some ⟨b, 0, none⟩)) :: (.int .i64 (vn : Int)) :: (.bool false) :: (.bool false) :: (.bool false) :: (.int .i64 (pn : Int)) :: (.bool false) :: (.bool false) :: (.bool false) :: (.int .i64 (pn : Int)) :: (.bool true) :: (.bool true) :: (.pointer (some ⟨pl j, 0, none⟩)) :: x17 :: (.int .i64 (pn : Int)) :: (.int .i64 (j : Int)) :: (.pointer (some ⟨pb, pn * 16, none⟩)) :: (.pointer (some ⟨pb, pn * 16, none⟩)) :: (.pointer (some ⟨pb, pn * 16 + j, none⟩)) :: (.slice A9 (D pn j).length c9) :: (.bool true) :: (.bool false) :: (.bool false) :: (.bool false) :: (.bool false) :: (.int .i64 (pn : Int)) :: (.bool false) :: (.bool false) :: undef :: undef :: undef :: undef :: (.bool false) :: (.bool false) :: (.bool false) :: (.pointer (some ⟨b, 0, none⟩)) :: (.int .i64 (j : Int)) :: x41 :: (.pointer (some ⟨b, 0, none⟩)) :: (.int .i64 (vn : Int)) :: (.int .i64 (j : Int)) :: (.pointer (some ⟨pb, vn * 16, none⟩)) :: (.pointer (some ⟨pb, vn * 16, none⟩)) :: (.pointer (some ⟨pb, vn * 16 + j, none⟩)) :: (.slice A8 (D vn j).length c8) :: (.bool true) :: (.bool false) :: (.bool false) :: u212 :: u213 :: undef :: []), []⟩ z.toW) :
    codeRg.wp Try.prog (Exit.then K Q3) ⟨List.toArray ((.int .i64 (N : Int)) :: (.slice (some ⟨bo, off, none⟩) n c) :: undef :: undef :: u4 :: (.pointer (some ⟨b, 0, none⟩)) :: (.slice (some ⟨sb, 0, none⟩) N N) :: u7 :: (.pointer (some ⟨pb, 0, none⟩)) :: (.int .i64 (bgI g la)) :: (.pointer (some ⟨nb, 0, none⟩)) :: undef :: (.pointer (some ⟨r0, 0, none⟩)) :: (.int .i64 (nn : Int)) :: u14 :: u15 :: u16 :: u17 :: u18 :: u19 :: (.int .i64 (j : Int)) :: (.pointer (some ⟨pl j, 0, none⟩)) :: (.int .i64 (pn : Int)) :: (.slice (some ⟨bo, off, none⟩) n c) :: (.bool true) :: (.bool false) :: undef :: (.int .i64 x0) :: kc0 :: kc1 :: (.int .i64 (n0 : Int)) :: (.int .i64 (N : Int)) :: (.int .i64 (N : Int)) :: (.pointer (some ⟨b, 0, none⟩)) :: (.int .i64 (N : Int)) :: (.slice (some ⟨sb, 0, none⟩) N N) :: (.slice (some ⟨sb, 0, none⟩) N N) :: (.int .i64 (N : Int)) :: (.int .i64 (N : Int)) :: (.bool false) :: u40 :: u41 :: u42 :: u43 :: u44 :: u45 :: (.slice (some ⟨bo, off, none⟩) n c) :: (.int .i64 (n : Int)) :: (.int .i64 (k : Int)) :: u49 :: u50 :: u51 :: u52 :: u53 :: u54 :: u55 :: u56 :: u57 :: u58 :: u59 :: (.int .i64 qd) :: u61 :: u62 :: u63 :: u64 :: u65 :: u66 :: u67 :: u68 :: u69 :: u70 :: u71 :: u72 :: u73 :: u74 :: u75 :: u76 :: u77 :: u78 :: u79 :: u80 :: u81 :: u82 :: u83 :: u84 :: u85 :: u86 :: u87 :: u88 :: u89 :: u90 :: u91 :: u92 :: u93 :: u94 :: u95 :: u96 :: u97 :: u98 :: u99 :: u100 :: u101 :: u102 :: u103 :: u104 :: u105 :: u106 :: u107 :: u108 :: u109 :: u110 :: u111 :: u112 :: u113 :: u114 :: u115 :: u116 :: u117 :: u118 :: u119 :: u120 :: u121 :: u122 :: u123 :: u124 :: u125 :: u126 :: u127 :: u128 :: u129 :: u130 :: u131 :: u132 :: u133 :: u134 :: u135 :: u136 :: u137 :: u138 :: u139 :: u140 :: u141 :: u142 :: u143 :: u144 :: u145 :: u146 :: u147 :: u148 :: u149 :: u150 :: (.slice (some ⟨sb, 0, none⟩) N N) :: (.int .i64 (N : Int)) :: (.int .i64 (j : Int)) :: (.bool true) :: (.int .i64 (j : Int)) :: (.pointer (some ⟨sb, j, none⟩)) :: (.pointer (some ⟨pl j, 0, none⟩)) :: (.pointer (some ⟨pl j, 0, none⟩)) :: (.int .i64 (pn : Int)) :: u160 :: u161 :: u162 :: u163 :: u164 :: u165 :: u166 :: u167 :: u168 :: u169 :: u170 :: u171 :: u172 :: u173 :: u174 :: u175 :: u176 :: u177 :: u178 :: u179 :: u180 :: u181 :: u182 :: u183 :: u184 :: u185 :: u186 :: u187 :: u188 :: u189 :: u190 :: u191 :: u192 :: u193 :: u194 :: u195 :: u196 :: u197 :: u198 :: u199 :: u200 :: u201 :: u202 :: u203 :: u204 :: u205 :: u206 :: u207 :: u208 :: u209 :: u210 :: u211 :: u212 :: u213 :: undef :: []), []⟩ wr := by
  conv => arg 2; whnf
  refine wp_region_grow wr (Below.refl _ _) [.is (.int .i64 (pn : Int)), .is (.bool false), .is (.bool false), .is (.int .i64 (pn : Int)), .is (.pointer (some ⟨b, 0, none⟩)), .is (.int .i64 (vn : Int)), .is (.bool false), .is (.bool false), .is (.bool false), .is (.int .i64 (pn : Int)), .is (.bool false), .is (.bool false), .is (.bool false), .is (.int .i64 (pn : Int)), .is (.bool true), .is (.bool true), .is (.pointer (some ⟨pl j, 0, none⟩)), kdCel wr (D pn j), .is (.int .i64 (pn : Int)), .is (.int .i64 (j : Int)), .is (.pointer (some ⟨pb, pn * 16, none⟩)), .is (.pointer (some ⟨pb, pn * 16, none⟩)), .is (.pointer (some ⟨pb, pn * 16 + j, none⟩)), .is (.slice A9 (D pn j).length c9), .is (.bool true), .is (.bool false), .is (.bool false), .is (.bool false), .is (.bool false), .is (.int .i64 (pn : Int)), .is (.bool false), .is (.bool false), .is undef, .is undef, .is undef, .is undef, .is (.bool false), .is (.bool false), .is (.bool false), .is (.pointer (some ⟨b, 0, none⟩)), .is (.int .i64 (j : Int)), kdCel wr (D vn j), .is (.pointer (some ⟨b, 0, none⟩)), .is (.int .i64 (vn : Int)), .is (.int .i64 (j : Int)), .is (.pointer (some ⟨pb, vn * 16, none⟩)), .is (.pointer (some ⟨pb, vn * 16, none⟩)), .is (.pointer (some ⟨pb, vn * 16 + j, none⟩)), .is (.slice A8 (D vn j).length c8), .is (.bool true), .is (.bool false), .is (.bool false)] [] (by kernel_rfl) (by kernel_rfl) rfl (by kernel_rfl) ?_
  iterate 5
    refine kd_is (by rfl) (fun z hz K Q hK => ?_) ?_
    · go_big_op
      exact hK _ _ rfl rfl
    simp only [Act.put, List.setIfInBounds_toArray, List.set_cons_zero, List.set_cons_succ]
  refine kd_isc (by rfl) (fun z hz K Q hK => ?_) ?_
  · go_big_op
    refine (PB.out z).mono ?_
    rintro r w' ⟨rfl, rfl⟩
    exact hK _ _ rfl (Below.refl _ _)
  simp only [Act.put, List.setIfInBounds_toArray, List.set_cons_zero, List.set_cons_succ]
  iterate 10
    refine kd_is (by rfl) (fun z hz K Q hK => ?_) ?_
    · go_big_op
      exact hK _ _ rfl rfl
    simp only [Act.put, List.setIfInBounds_toArray, List.set_cons_zero, List.set_cons_succ]
  iterate 1
    refine kd_is (by rfl) (fun z hz K Q hK => ?_) ?_
    · go_big_op
      exact hK _ _ rfl rfl
    simp only [Act.put, List.setIfInBounds_toArray, List.set_cons_zero, List.set_cons_succ]
  refine kd_grow (by rfl) (fun z hz K Q hK => ?_) (fun x17 => ?_)
  · go_big_op
    refine (PA.out z).mono ?_
    rintro r w' ⟨A, cA, rfl, h1, h2, h3, b7⟩
    exact hK _ _ ⟨_, z.to w' b7, rfl, rfl, z.to_still w' b7, A, cA, rfl, h1, h2, h3⟩
  simp only [Act.put, List.setIfInBounds_toArray, List.set_cons_zero, List.set_cons_succ]
  iterate 6
    refine kd_is (by rfl) (fun z hz K Q hK => ?_) ?_
    · go_big_op
      exact hK _ _ rfl rfl
    simp only [Act.put, List.setIfInBounds_toArray, List.set_cons_zero, List.set_cons_succ]
  refine kd_isc (by rfl) (fun z hz K Q hK => ?_) ?_
  · go_big_op
    obtain ⟨A7, c7, rfl, f1, f2, f3⟩ := (fact_at hz 17 (celS wr (D pn j)) x17 (by kernel_rfl) (by kernel_rfl) (by kernel_rfl))
    obtain ⟨y1, y2, y3⟩ := R1.out z
    refine (same_cells A7 _ _ c7 _ (D pn j) z.toW f1 y1 f2 y2 f3 y3).mono ?_
    rintro r w' ⟨rfl, q, rfl⟩
    exact hK _ _ rfl (below_drewN (Below.refl _ _) q)
  simp only [Act.put, List.setIfInBounds_toArray, List.set_cons_zero, List.set_cons_succ]
  iterate 1
    refine kd_is (by rfl) (fun z hz K Q hK => ?_) ?_
    · go_big_op
      exact hK _ _ rfl rfl
    simp only [Act.put, List.setIfInBounds_toArray, List.set_cons_zero, List.set_cons_succ]
  iterate 6
    refine kd_is (by rfl) (fun z hz K Q hK => ?_) ?_
    · go_big_op
      exact hK _ _ rfl rfl
    simp only [Act.put, List.setIfInBounds_toArray, List.set_cons_zero, List.set_cons_succ]
  iterate 4
    refine kd_skip (by rfl) ?_
    simp only [Act.put, List.setIfInBounds_toArray, List.set_cons_zero, List.set_cons_succ]
  iterate 5
    refine kd_is (by rfl) (fun z hz K Q hK => ?_) ?_
    · go_big_op
      exact hK _ _ rfl rfl
    simp only [Act.put, List.setIfInBounds_toArray, List.set_cons_zero, List.set_cons_succ]
  refine kd_grow (by rfl) (fun z hz K Q hK => ?_) (fun x41 => ?_)
  · go_big_op
    refine (PC.out z).mono ?_
    rintro r w' ⟨A, cA, rfl, h1, h2, h3, b7⟩
    exact hK _ _ ⟨_, z.to w' b7, rfl, rfl, z.to_still w' b7, A, cA, rfl, h1, h2, h3⟩
  simp only [Act.put, List.setIfInBounds_toArray, List.set_cons_zero, List.set_cons_succ]
  iterate 1
    refine kd_is (by rfl) (fun z hz K Q hK => ?_) ?_
    · go_big_op
      exact hK _ _ rfl rfl
    simp only [Act.put, List.setIfInBounds_toArray, List.set_cons_zero, List.set_cons_succ]
  refine kd_isc (by rfl) (fun z hz K Q hK => ?_) ?_
  · go_big_op
    refine (PB.out z).mono ?_
    rintro r w' ⟨rfl, rfl⟩
    exact hK _ _ rfl (Below.refl _ _)
  simp only [Act.put, List.setIfInBounds_toArray, List.set_cons_zero, List.set_cons_succ]
  iterate 5
    refine kd_is (by rfl) (fun z hz K Q hK => ?_) ?_
    · go_big_op
      exact hK _ _ rfl rfl
    simp only [Act.put, List.setIfInBounds_toArray, List.set_cons_zero, List.set_cons_succ]
  refine kd_isc (by rfl) (fun z hz K Q hK => ?_) ?_
  · go_big_op
    obtain ⟨A7, c7, rfl, f1, f2, f3⟩ := (fact_at hz 41 (celS wr (D vn j)) x41 (by kernel_rfl) (by kernel_rfl) (by kernel_rfl))
    obtain ⟨y1, y2, y3⟩ := R2.out z
    refine (same_cells A7 _ _ c7 _ (D vn j) z.toW f1 y1 f2 y2 f3 y3).mono ?_
    rintro r w' ⟨rfl, q, rfl⟩
    exact hK _ _ rfl (below_drewN (Below.refl _ _) q)
  simp only [Act.put, List.setIfInBounds_toArray, List.set_cons_zero, List.set_cons_succ]
  iterate 2
    refine kd_is (by rfl) (fun z hz K Q hK => ?_) ?_
    · go_big_op
      exact hK _ _ rfl rfl
    simp only [Act.put, List.setIfInBounds_toArray, List.set_cons_zero, List.set_cons_succ]
  refine kd_nil (fun z hz => ?_)
  exact hnext _ _ z

set_option maxHeartbeats 100000000 in
theorem rgN (x0 : Int) (n c n0 N b sb pb nb k bo off r0 nn vn j pn : Nat) (pl : Nat → Nat) (w wr : World) (qd : Int) (la : Int) (g : Bool) (R : Nat → Bool) (now next : Option Nat) (Ln Lx : List (Int × List C)) (PV XV : Nat → Value) (D : Nat → Nat → List C) (X : Nat → List C) (pv pp : Nat → Int) (U Y : Nat → Value) (l m : Nat → List C) (A8 : Option Addr) (c8 : Nat) (u4 u7 u14 u15 u16 u17 u18 u19 u40 u41 u42 u43 u44 u45 u49 u50 u51 u52 u53 u54 u55 u56 u57 u58 u59 u61 u62 u63 u64 u65 u66 u67 u68 u69 u70 u71 u72 u73 u74 u75 u76 u77 u78 u79 u80 u81 u82 u83 u84 u85 u86 u87 u88 u89 u90 u91 u92 u93 u94 u95 u96 u97 u98 u99 u100 u101 u102 u103 u104 u105 u106 u107 u108 u109 u110 u111 u112 u113 u114 u115 u116 u117 u118 u119 u120 u121 u122 u123 u124 u125 u126 u127 u128 u129 u130 u131 u132 u133 u134 u135 u136 u137 u138 u139 u140 u141 u142 u143 u144 u145 u146 u147 u148 u149 u150 u160 u161 u162 u163 u164 u165 u166 u167 u168 u169 u170 u171 u172 u173 u174 u175 u176 u177 u178 u179 u180 u181 u182 u183 u184 u185 u186 u187 u188 u189 u190 u191 u192 u193 u194 u195 u196 u197 u198 u199 u200 u201 u202 u203 u204 u205 u206 u207 u208 u209 u210 u211 u212 u213 kc0 kc1 : Value) (K : Act → World → Prop) (Q3 : Exit → Act → World → Prop) (hv81 : vn < 81) (hp81 : pn < 81) (hj16 : j < 16) (PB : Hid (∀ (z : Lb.Gw wr), Calls Try.prog 20 #[Value.pointer (some ⟨b, 0, none⟩)] z.toW fun r w' => r = Ending.returned (Value.int IntKind.i64 (vn : Int)) ∧ z.toW = w')) (PC : Hid (∀ (z : Lb.Gw wr), Calls Try.prog 25 #[Value.pointer (some ⟨b, 0, none⟩), Value.int IntKind.i64 (j : Int)] z.toW fun r w' => ∃ a c, r = Ending.returned (Value.slice a (D vn j).length c) ∧ (D vn j).length ≤ c ∧ c ≤ maxLen ∧ Row w' a ((D vn j).length * 5) (lv (D vn j)) ∧ Below z.toW.heap.size z.toW w')) (c2 : ∀ (z : Lb.Gw wr), z.toW.cell? ⟨pb, vn * 16 + j, none⟩ = some (Value.slice A8 (D vn j).length c8)) (R2 : Hid (∀ (z : Lb.Gw wr), (D vn j).length ≤ c8 ∧ c8 ≤ maxLen ∧ Row z.toW A8 ((D vn j).length * 5) (lv (D vn j)))) (HT : Hid (M2 w wr b N sb pb nb pl ((vn : Int)) la g R now next Ln Lx PV XV D X pv pp U Y l m)) (f1 : decide ((pn : Int) < 0) = false) (f2 : decide ((vn : Int) < (pn : Int)) = false) (f2' : decide (vn < pn) = false) (f3 : decide (80 < (pn : Int)) = false) (f3' : decide (80 < pn) = false) (hv81' : (vn : Int) < 81) (hp81' : (pn : Int) < 81) (hj16' : (j : Int) < 16) (f4 : decide (0 < (pn : Int)) = false) (f4' : decide (0 < pn) = false) (f5 : ((pn : Int) == 0) = true) (PA : Hid (∀ (z : Lb.Gw wr), Calls Try.prog 29 #[Value.pointer (some ⟨pl j, 0, none⟩)] z.toW fun r w' => ∃ a c, r = Ending.returned (Value.slice a ([] : List C).length c) ∧ ([] : List C).length ≤ c ∧ c ≤ maxLen ∧ Row w' a (([] : List C).length * 5) (lv []) ∧ Below z.toW.heap.size z.toW w')) (hj : j ≤ N) (hjN : j < N)
    (hnext : ∀ (x33 x41 : Value) (z : Lb.Gw wr), K ⟨List.toArray ((.int .i64 (N : Int)) :: (.slice (some ⟨bo, off, none⟩) n c) :: undef :: undef :: u4 :: (.pointer (some ⟨b, 0, none⟩)) :: (.slice (some ⟨sb, 0, none⟩) N N) :: u7 :: (.pointer (some ⟨pb, 0, none⟩)) :: (.int .i64 (bgI g la)) :: (.pointer (some ⟨nb, 0, none⟩)) :: undef :: (.pointer (some ⟨r0, 0, none⟩)) :: (.int .i64 (nn : Int)) :: u14 :: u15 :: u16 :: u17 :: u18 :: u19 :: (.int .i64 (j : Int)) :: (.pointer (some ⟨pl j, 0, none⟩)) :: (.int .i64 (pn : Int)) :: (.slice (some ⟨bo, off, none⟩) n c) :: (.bool true) :: (.bool false) :: undef :: (.int .i64 x0) :: kc0 :: kc1 :: (.int .i64 (n0 : Int)) :: (.int .i64 (N : Int)) :: (.int .i64 (N : Int)) :: (.pointer (some ⟨b, 0, none⟩)) :: (.int .i64 (N : Int)) :: (.slice (some ⟨sb, 0, none⟩) N N) :: (.slice (some ⟨sb, 0, none⟩) N N) :: (.int .i64 (N : Int)) :: (.int .i64 (N : Int)) :: (.bool false) :: u40 :: u41 :: u42 :: u43 :: u44 :: u45 :: (.slice (some ⟨bo, off, none⟩) n c) :: (.int .i64 (n : Int)) :: (.int .i64 (k : Int)) :: u49 :: u50 :: u51 :: u52 :: u53 :: u54 :: u55 :: u56 :: u57 :: u58 :: u59 :: (.int .i64 qd) :: u61 :: u62 :: u63 :: u64 :: u65 :: u66 :: u67 :: u68 :: u69 :: u70 :: u71 :: u72 :: u73 :: u74 :: u75 :: u76 :: u77 :: u78 :: u79 :: u80 :: u81 :: u82 :: u83 :: u84 :: u85 :: u86 :: u87 :: u88 :: u89 :: u90 :: u91 :: u92 :: u93 :: u94 :: u95 :: u96 :: u97 :: u98 :: u99 :: u100 :: u101 :: u102 :: u103 :: u104 :: u105 :: u106 :: u107 :: u108 :: u109 :: u110 :: u111 :: u112 :: u113 :: u114 :: u115 :: u116 :: u117 :: u118 :: u119 :: u120 :: u121 :: u122 :: u123 :: u124 :: u125 :: u126 :: u127 :: u128 :: u129 :: u130 :: u131 :: u132 :: u133 :: u134 :: u135 :: u136 :: u137 :: u138 :: u139 :: u140 :: u141 :: u142 :: u143 :: u144 :: u145 :: u146 :: u147 :: u148 :: u149 :: u150 :: (.slice (some ⟨sb, 0, none⟩) N N) :: (.int .i64 (N : Int)) :: (.int .i64 (j : Int)) :: (.bool true) :: (.int .i64 (j : Int)) :: (.pointer (some ⟨sb, j, none⟩)) :: (.pointer (some ⟨pl j, 0, none⟩)) :: (.pointer (some ⟨pl j, 0, none⟩)) :: (.int .i64 (pn : Int)) :: (.int .i64 (pn : Int)) :: (.bool false) :: (.bool false) :: (.int .i64 (pn : Int)) :: (.pointer (some ⟨b, 0, none⟩)) :: (.int .i64 (vn : Int)) :: (.bool false) :: (.bool false) :: (.bool false) :: (.int .i64 (pn : Int)) :: (.bool false) :: (.bool false) :: (.bool false) :: (.int .i64 (pn : Int)) :: (.bool false) :: (.bool false) :: undef :: undef :: undef :: undef :: undef :: undef :: undef :: undef :: undef :: undef :: (.bool false) :: (.bool false) :: (.bool false) :: (.int .i64 (pn : Int)) :: (.bool true) :: (.bool true) :: (.pointer (some ⟨pl j, 0, none⟩)) :: x33 :: (.int .i64 0) :: (.bool false) :: (.bool false) :: (.bool false) :: (.bool false) :: (.pointer (some ⟨b, 0, none⟩)) :: (.int .i64 (j : Int)) :: x41 :: (.pointer (some ⟨b, 0, none⟩)) :: (.int .i64 (vn : Int)) :: (.int .i64 (j : Int)) :: (.pointer (some ⟨pb, vn * 16, none⟩)) :: (.pointer (some ⟨pb, vn * 16, none⟩)) :: (.pointer (some ⟨pb, vn * 16 + j, none⟩)) :: (.slice A8 (D vn j).length c8) :: (.bool true) :: (.bool false) :: (.bool false) :: u212 :: u213 :: undef :: []), []⟩ z.toW) :
    codeRg.wp Try.prog (Exit.then K Q3) ⟨List.toArray ((.int .i64 (N : Int)) :: (.slice (some ⟨bo, off, none⟩) n c) :: undef :: undef :: u4 :: (.pointer (some ⟨b, 0, none⟩)) :: (.slice (some ⟨sb, 0, none⟩) N N) :: u7 :: (.pointer (some ⟨pb, 0, none⟩)) :: (.int .i64 (bgI g la)) :: (.pointer (some ⟨nb, 0, none⟩)) :: undef :: (.pointer (some ⟨r0, 0, none⟩)) :: (.int .i64 (nn : Int)) :: u14 :: u15 :: u16 :: u17 :: u18 :: u19 :: (.int .i64 (j : Int)) :: (.pointer (some ⟨pl j, 0, none⟩)) :: (.int .i64 (pn : Int)) :: (.slice (some ⟨bo, off, none⟩) n c) :: (.bool true) :: (.bool false) :: undef :: (.int .i64 x0) :: kc0 :: kc1 :: (.int .i64 (n0 : Int)) :: (.int .i64 (N : Int)) :: (.int .i64 (N : Int)) :: (.pointer (some ⟨b, 0, none⟩)) :: (.int .i64 (N : Int)) :: (.slice (some ⟨sb, 0, none⟩) N N) :: (.slice (some ⟨sb, 0, none⟩) N N) :: (.int .i64 (N : Int)) :: (.int .i64 (N : Int)) :: (.bool false) :: u40 :: u41 :: u42 :: u43 :: u44 :: u45 :: (.slice (some ⟨bo, off, none⟩) n c) :: (.int .i64 (n : Int)) :: (.int .i64 (k : Int)) :: u49 :: u50 :: u51 :: u52 :: u53 :: u54 :: u55 :: u56 :: u57 :: u58 :: u59 :: (.int .i64 qd) :: u61 :: u62 :: u63 :: u64 :: u65 :: u66 :: u67 :: u68 :: u69 :: u70 :: u71 :: u72 :: u73 :: u74 :: u75 :: u76 :: u77 :: u78 :: u79 :: u80 :: u81 :: u82 :: u83 :: u84 :: u85 :: u86 :: u87 :: u88 :: u89 :: u90 :: u91 :: u92 :: u93 :: u94 :: u95 :: u96 :: u97 :: u98 :: u99 :: u100 :: u101 :: u102 :: u103 :: u104 :: u105 :: u106 :: u107 :: u108 :: u109 :: u110 :: u111 :: u112 :: u113 :: u114 :: u115 :: u116 :: u117 :: u118 :: u119 :: u120 :: u121 :: u122 :: u123 :: u124 :: u125 :: u126 :: u127 :: u128 :: u129 :: u130 :: u131 :: u132 :: u133 :: u134 :: u135 :: u136 :: u137 :: u138 :: u139 :: u140 :: u141 :: u142 :: u143 :: u144 :: u145 :: u146 :: u147 :: u148 :: u149 :: u150 :: (.slice (some ⟨sb, 0, none⟩) N N) :: (.int .i64 (N : Int)) :: (.int .i64 (j : Int)) :: (.bool true) :: (.int .i64 (j : Int)) :: (.pointer (some ⟨sb, j, none⟩)) :: (.pointer (some ⟨pl j, 0, none⟩)) :: (.pointer (some ⟨pl j, 0, none⟩)) :: (.int .i64 (pn : Int)) :: u160 :: u161 :: u162 :: u163 :: u164 :: u165 :: u166 :: u167 :: u168 :: u169 :: u170 :: u171 :: u172 :: u173 :: u174 :: u175 :: u176 :: u177 :: u178 :: u179 :: u180 :: u181 :: u182 :: u183 :: u184 :: u185 :: u186 :: u187 :: u188 :: u189 :: u190 :: u191 :: u192 :: u193 :: u194 :: u195 :: u196 :: u197 :: u198 :: u199 :: u200 :: u201 :: u202 :: u203 :: u204 :: u205 :: u206 :: u207 :: u208 :: u209 :: u210 :: u211 :: u212 :: u213 :: undef :: []), []⟩ wr := by
  conv => arg 2; whnf
  refine wp_region_grow wr (Below.refl _ _) [.is (.int .i64 (pn : Int)), .is (.bool false), .is (.bool false), .is (.int .i64 (pn : Int)), .is (.pointer (some ⟨b, 0, none⟩)), .is (.int .i64 (vn : Int)), .is (.bool false), .is (.bool false), .is (.bool false), .is (.int .i64 (pn : Int)), .is (.bool false), .is (.bool false), .is (.bool false), .is (.int .i64 (pn : Int)), .is (.bool false), .is (.bool false), .is undef, .is undef, .is undef, .is undef, .is undef, .is undef, .is undef, .is undef, .is undef, .is undef, .is (.bool false), .is (.bool false), .is (.bool false), .is (.int .i64 (pn : Int)), .is (.bool true), .is (.bool true), .is (.pointer (some ⟨pl j, 0, none⟩)), kdCel wr [], .is (.int .i64 0), .is (.bool false), .is (.bool false), .is (.bool false), .is (.bool false), .is (.pointer (some ⟨b, 0, none⟩)), .is (.int .i64 (j : Int)), kdCel wr (D vn j), .is (.pointer (some ⟨b, 0, none⟩)), .is (.int .i64 (vn : Int)), .is (.int .i64 (j : Int)), .is (.pointer (some ⟨pb, vn * 16, none⟩)), .is (.pointer (some ⟨pb, vn * 16, none⟩)), .is (.pointer (some ⟨pb, vn * 16 + j, none⟩)), .is (.slice A8 (D vn j).length c8), .is (.bool true), .is (.bool false), .is (.bool false)] [] (by kernel_rfl) (by kernel_rfl) rfl (by kernel_rfl) ?_
  iterate 5
    refine kd_is (by rfl) (fun z hz K Q hK => ?_) ?_
    · go_big_op
      exact hK _ _ rfl rfl
    simp only [Act.put, List.setIfInBounds_toArray, List.set_cons_zero, List.set_cons_succ]
  refine kd_isc (by rfl) (fun z hz K Q hK => ?_) ?_
  · go_big_op
    refine (PB.out z).mono ?_
    rintro r w' ⟨rfl, rfl⟩
    exact hK _ _ rfl (Below.refl _ _)
  simp only [Act.put, List.setIfInBounds_toArray, List.set_cons_zero, List.set_cons_succ]
  iterate 10
    refine kd_is (by rfl) (fun z hz K Q hK => ?_) ?_
    · go_big_op
      exact hK _ _ rfl rfl
    simp only [Act.put, List.setIfInBounds_toArray, List.set_cons_zero, List.set_cons_succ]
  iterate 10
    refine kd_skip (by rfl) ?_
    simp only [Act.put, List.setIfInBounds_toArray, List.set_cons_zero, List.set_cons_succ]
  iterate 6
    refine kd_is (by rfl) (fun z hz K Q hK => ?_) ?_
    · go_big_op
      exact hK _ _ rfl rfl
    simp only [Act.put, List.setIfInBounds_toArray, List.set_cons_zero, List.set_cons_succ]
  iterate 1
    refine kd_is (by rfl) (fun z hz K Q hK => ?_) ?_
    · go_big_op
      exact hK _ _ rfl rfl
    simp only [Act.put, List.setIfInBounds_toArray, List.set_cons_zero, List.set_cons_succ]
  refine kd_grow (by rfl) (fun z hz K Q hK => ?_) (fun x33 => ?_)
  · go_big_op
    refine (PA.out z).mono ?_
    rintro r w' ⟨A, cA, rfl, h1, h2, h3, b7⟩
    exact hK _ _ ⟨_, z.to w' b7, rfl, rfl, z.to_still w' b7, A, cA, rfl, h1, h2, h3⟩
  simp only [Act.put, List.setIfInBounds_toArray, List.set_cons_zero, List.set_cons_succ]
  refine kd_is (by rfl) (fun z hz K Q hK => ?_) ?_
  · obtain ⟨A7, c7, rfl, f1, f2, f3⟩ := (fact_at hz 33 (celS wr []) x33 (by kernel_rfl) (by kernel_rfl) (by kernel_rfl))
    go_big_op
    exact hK _ _ rfl rfl
  simp only [Act.put, List.setIfInBounds_toArray, List.set_cons_zero, List.set_cons_succ]
  iterate 1
    refine kd_is (by rfl) (fun z hz K Q hK => ?_) ?_
    · go_big_op
      exact hK _ _ rfl rfl
    simp only [Act.put, List.setIfInBounds_toArray, List.set_cons_zero, List.set_cons_succ]
  iterate 5
    refine kd_is (by rfl) (fun z hz K Q hK => ?_) ?_
    · go_big_op
      exact hK _ _ rfl rfl
    simp only [Act.put, List.setIfInBounds_toArray, List.set_cons_zero, List.set_cons_succ]
  refine kd_grow (by rfl) (fun z hz K Q hK => ?_) (fun x41 => ?_)
  · go_big_op
    refine (PC.out z).mono ?_
    rintro r w' ⟨A, cA, rfl, h1, h2, h3, b7⟩
    exact hK _ _ ⟨_, z.to w' b7, rfl, rfl, z.to_still w' b7, A, cA, rfl, h1, h2, h3⟩
  simp only [Act.put, List.setIfInBounds_toArray, List.set_cons_zero, List.set_cons_succ]
  iterate 1
    refine kd_is (by rfl) (fun z hz K Q hK => ?_) ?_
    · go_big_op
      exact hK _ _ rfl rfl
    simp only [Act.put, List.setIfInBounds_toArray, List.set_cons_zero, List.set_cons_succ]
  refine kd_isc (by rfl) (fun z hz K Q hK => ?_) ?_
  · go_big_op
    refine (PB.out z).mono ?_
    rintro r w' ⟨rfl, rfl⟩
    exact hK _ _ rfl (Below.refl _ _)
  simp only [Act.put, List.setIfInBounds_toArray, List.set_cons_zero, List.set_cons_succ]
  iterate 5
    refine kd_is (by rfl) (fun z hz K Q hK => ?_) ?_
    · go_big_op
      exact hK _ _ rfl rfl
    simp only [Act.put, List.setIfInBounds_toArray, List.set_cons_zero, List.set_cons_succ]
  refine kd_isc (by rfl) (fun z hz K Q hK => ?_) ?_
  · go_big_op
    obtain ⟨A7, c7, rfl, f1, f2, f3⟩ := (fact_at hz 41 (celS wr (D vn j)) x41 (by kernel_rfl) (by kernel_rfl) (by kernel_rfl))
    obtain ⟨y1, y2, y3⟩ := R2.out z
    refine (same_cells A7 _ _ c7 _ (D vn j) z.toW f1 y1 f2 y2 f3 y3).mono ?_
    rintro r w' ⟨rfl, q, rfl⟩
    exact hK _ _ rfl (below_drewN (Below.refl _ _) q)
  simp only [Act.put, List.setIfInBounds_toArray, List.set_cons_zero, List.set_cons_succ]
  iterate 2
    refine kd_is (by rfl) (fun z hz K Q hK => ?_) ?_
    · go_big_op
      exact hK _ _ rfl rfl
    simp only [Act.put, List.setIfInBounds_toArray, List.set_cons_zero, List.set_cons_succ]
  refine kd_nil (fun z hz => ?_)
  exact hnext _ _ z

end Go.Proofs.Ytdpkiolngglpaaa.VersionTwo
