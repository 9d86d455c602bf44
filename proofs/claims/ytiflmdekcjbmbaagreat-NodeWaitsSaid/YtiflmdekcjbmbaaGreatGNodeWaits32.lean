/-
  Law NodeWaits: its last expression. Law NodeWaits: one slot that goes by.
-/
import Derived.Test.YtiflmdekcjbmbaaGreatGNodeWaits29
import Derived.Test.YtiflmdekcjbmbaaGreatGNodeWaits31
import Derived.Test.YtiflmdekcjbmbaaGreatGNodeWaits30
import Derived.Carry
set_option maxRecDepth 100000
namespace Go.Proofs.YtiflmdekcjbmbaaGreat.NodeWaits
set_option linter.unusedVariables false
set_option linter.unusedSimpArgs false
open Go.RowKit Go.ChangeShapes Go.WideShapes Go.ChangeAt Lb Nd Ie Fm
/-- It comes in time by the first beacon. -/
theorem hear_wait {c : Cfg} {i d src rank asn m : Int} {L : List Int} {b : Nat} {h : Hm} {w w' : World} {r : Ending} (hP : HearOut (waitN c i d) asn L m b h w r w') (hr : readN (waitN c i d) asn L = some (beaF src rank asn, rank)) (hl : c.loss < i) (hk : rank < 254) :
    ∃ a c9 h', r = .returned (.tuple #[.slice none 0 0, .slice a 4 c9]) ∧ Evs w' (begunE (waitN c i d) src) a c9 ∧ Nd w' b (begunN (waitN c i d) src rank asn (limM m)) h' ∧ Mv (h.ex b) (h'.ex b) w w' := by
  unfold HearOut at hP
  rw [hr] at hP
  simp only at hP
  rw [if_pos (wait_yes hl hk)] at hP
  exact hP
theorem hear_first1 {cf : Cfg} {i d : Int} {w : World} {b : Nat} {h : Hm} (n : Nd w b (waitN cf i d) h) (hf : Fit (waitN cf i d)) (src rank asn : Int) (a : Option Addr) (c : Nat) (L : List Int) (m : Int) (hlc : L.length ≤ c) (hcm : c ≤ maxLen) (h5 : L.length ≤ 100000) (hR : Row w a L.length (bval L)) (hd : okD' L)
    (hr : readN (waitN cf i d) asn L = some (beaF src rank asn, rank)) (hl : cf.loss < i) (hk : rank < 254) :
    Calls Tryz.prog 22 #[.pointer (some ⟨b, 0, none⟩), .int .i64 asn, .slice a L.length c, .int .i64 m] w fun r w' => ∃ a c9 h', r = .returned (.tuple #[.slice none 0 0, .slice a 4 c9]) ∧ Evs w' (begunE (waitN cf i d) src) a c9 ∧ Nd w' b (begunN (waitN cf i d) src rank asn (limM m)) h' ∧ Mv (h.ex b) (h'.ex b) w w' :=
  (hear_out n hf rfl asn a c L m hlc hcm h5 hR hd).mono (fun _ _ hP => hear_wait hP hr hl hk)
def findR (n : Nat) : Code → Option Code
  | .region m o d => if m == n then some (.region m o d) else none
  | .seq a b => match findR n a with
    | some c => some c
    | none => findR n b
  | .cond _ a b => match findR n a with
    | some c => some c
    | none => findR n b
  | .block _ b => findR n b
  | .loop c => findR n c
  | .scope c => findR n c
  | _ => none
noncomputable def codeRet : Code := (Tryz.f6.body.bind (findR 19)).getD .skip
set_option maxHeartbeats 8000000 in
theorem ret_any (kr b g go c9 : Nat) (mm ov ln : Int) (w9 : World) (c0 c3 c4 c5 c6 c7 c8 c_9 c11 c12 c13 c14 c15 c19 c20 c21 c22 c23 c24 c25 c26 c27 c28 c29 c30 c31 c32 c33 c34 c35 c36 c37 c38 c39 c40 c41 c42 c43 c44 c45 c46 c47 c48 c49 c50 c51 c52 c53 c54 c55 c56 c57 c58 c59 c60 c61 c62 c63 c64 c65 c66 c67 c68 c69 c70 c71 c72 c73 c74 c75 c76 c77 c78 c79 c80 c81 c82 c83 c84 c85 c86 c87 c88 c89 c90 c91 c92 c93 c94 c95 c96 c97 c98 c99 c100 c101 c102 c103 c104 c105 c106 c107 c108 c109 c110 c111 c112 c113 c114 c115 c116 c117 c118 c119 c120 c121 c122 c123 c124 c125 c126 c127 c128 c129 c130 c131 c132 c133 c134 c135 c136 c137 c138 c139 c140 c141 c142 c143 c144 c145 c146 c147 c148 c149 c150 c151 c152 c153 c154 : Value) (K : Act → World → Prop) (Q3 : Exit → Act → World → Prop) (e9 : IntKind.i64.wrap (ov + mm) = ov + mm) (e10 : IntKind.i64.wrap ((kr : Int) + 1) = (kr : Int) + 1)
    (x0 : w9.cell? ⟨g, go, none⟩ = some (.int .i64 1)) (x1 : w9.cell? ⟨g, go + 10, none⟩ = some (.int .i64 7)) (x2' : w9.cell? ⟨g, go + 20, none⟩ = some (.int .i64 2)) (x3' : w9.cell? ⟨g, go + 30, none⟩ = some (.int .i64 6)) (x4 : w9.cell? ⟨g, go + 30 + 2, none⟩ = some (.int .i64 1))
    (PY : Calls Tryz.prog 35 #[.pointer (some ⟨b, 0, none⟩)] w9 fun r w' => r = .returned (.bool true) ∧ w9 = w') (PK : Calls Tryz.prog 36 #[.pointer (some ⟨b, 0, none⟩)] w9 fun r w' => r = .returned (.int .i64 ((kr : Int) + 1)) ∧ w9 = w')
    (PF : Calls Tryz.prog 38 #[.pointer (some ⟨b, 0, none⟩)] w9 fun r w' => r = .returned (.int .i64 (ov + mm)) ∧ ∃ m, w9.drewN m = w')
    (PP : ∀ m, Calls Tryz.prog 37 #[.pointer (some ⟨b, 0, none⟩)] (w9.drewN m) fun r w' => ∃ a c, r = .returned (.slice a ([⟨1, kr, ln⟩] : List Pa.P).length c) ∧ ([⟨1, kr, ln⟩] : List Pa.P).length ≤ c ∧ c ≤ maxLen ∧ Row w' a ([⟨1, kr, ln⟩] : List Pa.P).length (Pa.nov [⟨1, kr, ln⟩]) ∧ Below (w9.drewN m).heap.size (w9.drewN m) w')
    (hnext : ∀ (d84 d85 d86 d87 d88 d89 d90 d91 d92 d93 d94 d95 d96 d97 d98 d99 d100 d101 d102 d103 d104 d105 d106 d107 d108 d109 d110 d111 d112 d113 d114 d115 d116 d117 d118 d119 d120 d121 d122 d123 d124 d125 d126 d127 d128 d129 d130 d131 d132 d133 d134 d135 d136 d137 d138 d139 d140 d141 d142 d143 d144 d145 d146 d147 d148 d149 d150 d151 d152 d153 d154 : Value) (w' : World), Below w9.heap.size w9 w' → K ⟨List.toArray (c0 :: (.int .i64 (kr : Int)) :: (.int .i64 mm) :: c3 :: c4 :: c5 :: c6 :: c7 :: (.bool true) :: c_9 :: (.pointer (some ⟨b, 0, none⟩)) :: c11 :: c12 :: c13 :: c14 :: c15 :: (.int .i64 ov) :: (.slice none 0 0) :: (.slice (some ⟨g, go, none⟩) 4 c9) :: c19 :: c20 :: c21 :: c22 :: c23 :: c24 :: c25 :: c26 :: c27 :: c28 :: c29 :: c30 :: c31 :: c32 :: c33 :: c34 :: c35 :: c36 :: c37 :: c38 :: c39 :: c40 :: c41 :: c42 :: c43 :: c44 :: c45 :: c46 :: c47 :: c48 :: c49 :: c50 :: c51 :: c52 :: c53 :: c54 :: c55 :: c56 :: c57 :: c58 :: c59 :: c60 :: c61 :: c62 :: c63 :: c64 :: c65 :: c66 :: c67 :: c68 :: c69 :: c70 :: c71 :: c72 :: c73 :: c74 :: c75 :: c76 :: c77 :: c78 :: c79 :: c80 :: c81 :: c82 :: c83 :: d84 :: d85 :: d86 :: d87 :: d88 :: d89 :: d90 :: d91 :: d92 :: d93 :: d94 :: d95 :: d96 :: d97 :: d98 :: d99 :: d100 :: d101 :: d102 :: d103 :: d104 :: d105 :: d106 :: d107 :: d108 :: d109 :: d110 :: d111 :: d112 :: d113 :: d114 :: d115 :: d116 :: d117 :: d118 :: d119 :: d120 :: d121 :: d122 :: d123 :: d124 :: d125 :: d126 :: d127 :: d128 :: d129 :: d130 :: d131 :: d132 :: d133 :: d134 :: d135 :: d136 :: d137 :: d138 :: d139 :: d140 :: d141 :: d142 :: d143 :: d144 :: d145 :: d146 :: d147 :: d148 :: d149 :: d150 :: d151 :: d152 :: d153 :: d154 :: []), []⟩ w') :
    codeRet.wp Tryz.prog (Exit.then K Q3) ⟨List.toArray (c0 :: (.int .i64 (kr : Int)) :: (.int .i64 mm) :: c3 :: c4 :: c5 :: c6 :: c7 :: c8 :: c_9 :: (.pointer (some ⟨b, 0, none⟩)) :: c11 :: c12 :: c13 :: c14 :: c15 :: (.int .i64 ov) :: (.slice none 0 0) :: (.slice (some ⟨g, go, none⟩) 4 c9) :: c19 :: c20 :: c21 :: c22 :: c23 :: c24 :: c25 :: c26 :: c27 :: c28 :: c29 :: c30 :: c31 :: c32 :: c33 :: c34 :: c35 :: c36 :: c37 :: c38 :: c39 :: c40 :: c41 :: c42 :: c43 :: c44 :: c45 :: c46 :: c47 :: c48 :: c49 :: c50 :: c51 :: c52 :: c53 :: c54 :: c55 :: c56 :: c57 :: c58 :: c59 :: c60 :: c61 :: c62 :: c63 :: c64 :: c65 :: c66 :: c67 :: c68 :: c69 :: c70 :: c71 :: c72 :: c73 :: c74 :: c75 :: c76 :: c77 :: c78 :: c79 :: c80 :: c81 :: c82 :: c83 :: c84 :: c85 :: c86 :: c87 :: c88 :: c89 :: c90 :: c91 :: c92 :: c93 :: c94 :: c95 :: c96 :: c97 :: c98 :: c99 :: c100 :: c101 :: c102 :: c103 :: c104 :: c105 :: c106 :: c107 :: c108 :: c109 :: c110 :: c111 :: c112 :: c113 :: c114 :: c115 :: c116 :: c117 :: c118 :: c119 :: c120 :: c121 :: c122 :: c123 :: c124 :: c125 :: c126 :: c127 :: c128 :: c129 :: c130 :: c131 :: c132 :: c133 :: c134 :: c135 :: c136 :: c137 :: c138 :: c139 :: c140 :: c141 :: c142 :: c143 :: c144 :: c145 :: c146 :: c147 :: c148 :: c149 :: c150 :: c151 :: c152 :: c153 :: c154 :: []), []⟩ w9 := by
  conv => arg 2; whnf
  have b9 := Below.refl w9.heap.size w9
  go_wp2_with fail
  refine PY.mono ?_
  rintro r w' ⟨rfl, rfl⟩
  go_wp2_with fail
  refine PK.mono ?_
  rintro r w' ⟨rfl, rfl⟩
  clear PY PK
  go_wp2_with fail
  refine PF.mono ?_
  rintro r w' ⟨rfl, mq, rfl⟩
  have bq := below_drewN b9 mq
  have PQ := PP mq
  clear PF PP b9 x0 x1 x2' x3' x4
  generalize w9.drewN mq = w10 at *
  go_wp2_with fail
  refine PQ.mono ?_
  rintro r w11 ⟨a10, c10, rfl, q1, q2, q3, b11⟩
  have bb11 := bq.trans (b11.mono bq.size)
  have oS := Own.new w11 3 #[.int .i64 1]
  have bA := (Below.refl w11.heap.size w11).alloc (Nat.le_refl _) (.cells #[.int .i64 1] 3)
  have bb12 := bb11.trans (bA.mono bb11.size)
  have PS := Pa.same_ints a10 (some ⟨w11.heap.size, 0, none⟩) 1 c10 1 (Pa.nov [⟨1, kr, ln⟩]) _ _ rfl q1 (Nat.le_refl _) q2 (by unfold maxLen; decide) (q3.below bA) (fun _ => ⟨_, 0, rfl, oS.lt, fun i hi => by
    obtain rfl : i = 0 := by omega
    rw [Nat.zero_add, oS.cell]
    rfl⟩)
  have HBB := Lib.hid bb12
  clear PQ q1 q2 q3 b11 bb11 bA bb12 bq oS
  go_wp2_with fail
  refine PS.mono ?_
  rintro r w' ⟨rfl, m2, rfl⟩
  have bb13 := below_drewN HBB.out m2
  clear PS HBB
  generalize (w11.alloc (.cells #[.int .i64 1] 3)).drewN m2 = w12 at *
  go_wp2_with fail
  refine (awake24_any _).mono ?_
  rintro r w' ⟨rfl, b14⟩
  have bb14 := bb13.trans (b14.mono bb13.size)
  go_wp2_with fail
  exact bb14
end Go.Proofs.YtiflmdekcjbmbaaGreat.NodeWaits
set_option maxRecDepth 100000
namespace Go.Proofs.YtiflmdekcjbmbaaGreat.NodeWaits
set_option linter.unusedVariables false
set_option linter.unusedSimpArgs false
open Go.RowKit Go.ChangeShapes Go.WideShapes Go.ChangeAt Lb Nd Ie Fm
def findB (n : Nat) : Code → Option Code
  | .block m b => if m == n then some (.block m b) else findB n b
  | .seq a b => match findB n a with
    | some c => some c
    | none => findB n b
  | .cond _ a b => match findB n a with
    | some c => some c
    | none => findB n b
  | .loop c => findB n c
  | .scope c => findB n c
  | _ => none
noncomputable def codeSlot : Code := (Tryz.f6.body.bind (findB 1)).getD .skip
set_option maxHeartbeats 8000000 in
theorem slot_goes (k ln kr b : Nat) (mm x3 d : Int) (cf : Cfg) (h : Hm) (w2 wr : World) (c_0 c_4 c_5 c_6 c_7 c_8 c_9 c_11 c_12 c_13 c_14 c_15 c_16 c_17 c_18 c_19 c_20 c_21 c_22 c_23 c_24 c_25 c_26 c_27 c_28 c_29 c_30 c_31 c_32 c_33 c_35 c_36 c_37 c_38 c_39 c_40 c_41 c_42 c_43 c_44 c_45 c_46 c_47 c_48 c_49 c_50 c_51 c_52 c_53 c_54 c_55 c_56 c_57 c_58 c_59 c_60 c_61 c_62 c_63 c_64 c_65 c_66 c_67 c_68 c_69 c_70 c_71 c_72 c_73 c_74 c_75 c_76 c_77 c_78 c_79 c_80 c_81 c_82 c_83 c_84 c_85 c_86 c_87 c_88 c_89 c_90 c_91 c_92 c_93 c_94 c_95 c_96 c_97 c_98 c_99 c_100 c_101 c_102 c_103 c_104 c_105 c_106 c_107 c_108 c_109 c_110 c_111 c_112 c_113 c_114 c_115 c_116 c_117 c_118 c_119 c_120 c_121 c_122 c_123 c_124 c_125 c_126 c_127 c_128 c_129 c_130 c_131 c_132 c_133 c_134 c_135 c_136 c_137 c_138 c_139 c_140 c_141 c_142 c_143 c_144 c_145 c_146 c_147 c_148 c_149 c_150 c_151 c_152 c_153 c_154 : Value) (K : Act → World → Prop) (Q3 : Exit → Act → World → Prop)
    (HFIT : Hid (∀ i d : Int, 0 ≤ i ∧ i ≤ 1099511627776 → -(i * 1000000) ≤ d ∧ d ≤ i * 1000000 → Fit (waitN cf i d))) (HC5 : Hid (cf.nodes = 5)) (HLN : Hid (cf.loss = (ln : Int))) (HEX : Hid (∀ q, h.ex b q → w2.heap.size ≤ q)) (hlb : 1 ≤ ln ∧ ln ≤ 10000) (hk254 : (kr : Int) < 254)
    (HR : Hid (0 ≤ (kr : Int) ∧ (kr : Int) ≤ 255)) (hlt : k < ln + 1) (HD : Hid (-((k : Int) * 1000000) ≤ d ∧ d ≤ (k : Int) * 1000000)) (HN : Hid (Nd wr b (waitN cf k d) h)) (b4 : Below w2.heap.size w2 wr)
    (hnext : ∀ (d_11 d_12 d_13 d_14 d_36 d_37 d_38 d_39 d_40 d_41 d_42 d_43 d_44 d_45 d_46 d_47 d_48 d_49 d_50 d_51 d_52 d_53 d_54 d_55 d_56 d_57 d_58 d_59 d_60 d_61 d_62 d_63 d_64 d_65 d_66 d_67 d_68 : Value) (wz : World), Nd wz b (waitN cf ((k + 1 : Nat) : Int) (d + Ck.lim x3 100 * 10000)) h ∧ Below w2.heap.size w2 wz → K ⟨List.toArray (c_0 :: (.int .i64 (kr : Int)) :: (.int .i64 mm) :: (.int .i64 x3) :: c_4 :: c_5 :: c_6 :: c_7 :: c_8 :: c_9 :: (.pointer (some ⟨b, 0, none⟩)) :: d_11 :: d_12 :: d_13 :: d_14 :: c_15 :: c_16 :: c_17 :: c_18 :: c_19 :: c_20 :: c_21 :: c_22 :: c_23 :: c_24 :: c_25 :: c_26 :: c_27 :: c_28 :: c_29 :: c_30 :: c_31 :: c_32 :: c_33 :: (.int .i64 (k : Int)) :: c_35 :: d_36 :: d_37 :: d_38 :: d_39 :: d_40 :: d_41 :: d_42 :: d_43 :: d_44 :: d_45 :: d_46 :: d_47 :: d_48 :: d_49 :: d_50 :: d_51 :: d_52 :: d_53 :: d_54 :: d_55 :: d_56 :: d_57 :: d_58 :: d_59 :: d_60 :: d_61 :: d_62 :: d_63 :: d_64 :: d_65 :: d_66 :: d_67 :: d_68 :: c_69 :: c_70 :: c_71 :: c_72 :: c_73 :: c_74 :: c_75 :: c_76 :: c_77 :: c_78 :: c_79 :: c_80 :: c_81 :: c_82 :: c_83 :: c_84 :: c_85 :: c_86 :: c_87 :: c_88 :: c_89 :: c_90 :: c_91 :: c_92 :: c_93 :: c_94 :: c_95 :: c_96 :: c_97 :: c_98 :: c_99 :: c_100 :: c_101 :: c_102 :: c_103 :: c_104 :: c_105 :: c_106 :: c_107 :: c_108 :: c_109 :: c_110 :: c_111 :: c_112 :: c_113 :: c_114 :: c_115 :: c_116 :: c_117 :: c_118 :: c_119 :: c_120 :: c_121 :: c_122 :: c_123 :: c_124 :: c_125 :: c_126 :: c_127 :: c_128 :: c_129 :: c_130 :: c_131 :: c_132 :: c_133 :: c_134 :: c_135 :: c_136 :: c_137 :: c_138 :: c_139 :: c_140 :: c_141 :: c_142 :: c_143 :: c_144 :: c_145 :: c_146 :: c_147 :: c_148 :: c_149 :: c_150 :: c_151 :: c_152 :: c_153 :: c_154 :: []), []⟩ wz) :
    codeSlot.wp Tryz.prog (Exit.then K Q3) ⟨List.toArray (c_0 :: (.int .i64 (kr : Int)) :: (.int .i64 mm) :: (.int .i64 x3) :: c_4 :: c_5 :: c_6 :: c_7 :: c_8 :: c_9 :: (.pointer (some ⟨b, 0, none⟩)) :: c_11 :: c_12 :: c_13 :: c_14 :: c_15 :: c_16 :: c_17 :: c_18 :: c_19 :: c_20 :: c_21 :: c_22 :: c_23 :: c_24 :: c_25 :: c_26 :: c_27 :: c_28 :: c_29 :: c_30 :: c_31 :: c_32 :: c_33 :: (.int .i64 (k : Int)) :: c_35 :: c_36 :: c_37 :: c_38 :: c_39 :: c_40 :: c_41 :: c_42 :: c_43 :: c_44 :: c_45 :: c_46 :: c_47 :: c_48 :: c_49 :: c_50 :: c_51 :: c_52 :: c_53 :: c_54 :: c_55 :: c_56 :: c_57 :: c_58 :: c_59 :: c_60 :: c_61 :: c_62 :: c_63 :: c_64 :: c_65 :: c_66 :: c_67 :: c_68 :: c_69 :: c_70 :: c_71 :: c_72 :: c_73 :: c_74 :: c_75 :: c_76 :: c_77 :: c_78 :: c_79 :: c_80 :: c_81 :: c_82 :: c_83 :: c_84 :: c_85 :: c_86 :: c_87 :: c_88 :: c_89 :: c_90 :: c_91 :: c_92 :: c_93 :: c_94 :: c_95 :: c_96 :: c_97 :: c_98 :: c_99 :: c_100 :: c_101 :: c_102 :: c_103 :: c_104 :: c_105 :: c_106 :: c_107 :: c_108 :: c_109 :: c_110 :: c_111 :: c_112 :: c_113 :: c_114 :: c_115 :: c_116 :: c_117 :: c_118 :: c_119 :: c_120 :: c_121 :: c_122 :: c_123 :: c_124 :: c_125 :: c_126 :: c_127 :: c_128 :: c_129 :: c_130 :: c_131 :: c_132 :: c_133 :: c_134 :: c_135 :: c_136 :: c_137 :: c_138 :: c_139 :: c_140 :: c_141 :: c_142 :: c_143 :: c_144 :: c_145 :: c_146 :: c_147 :: c_148 :: c_149 :: c_150 :: c_151 :: c_152 :: c_153 :: c_154 :: []), []⟩ wr := by
  conv => arg 2; whnf
  have HS := Lib.hid (wait_slot (c := cf) (i := (k : Int)) (d := d) (asn := (k : Int)) (ppm := x3) (by omega) (by omega))
  have HBD := Lib.hid (wait_bd (i := (k : Int)) (ppm := x3) HD.out)
  have hkk : ((k : Int) + 1) = ((k + 1 : Nat) : Int) := by omega
  have PS : ∀ wz, Nd wz b (waitN cf k d) h → Calls Tryz.prog 17 #[.pointer (some ⟨b, 0, none⟩), .int .i64 (k : Int), .int .i64 x3] wz fun r w' => r = .returned (.tuple #[]) ∧ Nd w' b (waitN cf ((k + 1 : Nat) : Int) (d + Ck.lim x3 100 * 10000)) h ∧ Mv (h.ex b) (h.ex b) wz w' := fun wz nz => by
    have := slot_any nz (HFIT.out k d (by omega) HD.out) k x3
    rw [HS.out, hkk] at this
    exact this
  have HPS := Lib.hid PS
  clear PS
  have HBD2 : Hid (-(((k + 1 : Nat) : Int) * 1000000) ≤ d + Ck.lim x3 100 * 10000 ∧ d + Ck.lim x3 100 * 10000 ≤ ((k + 1 : Nat) : Int) * 1000000) := Lib.hid (by rw [← hkk]; exact HBD.out)
  clear HS HBD hkk
  have hdown : Hid (∀ wz wy, Below w2.heap.size w2 wz → Mv (h.ex b) (h.ex b) wz wy → Below w2.heap.size w2 wy) := Lib.hid (fun wz wy bz mz => bz.trans (mz.down (fun q e => HEX.out q e) bz.size))
  by_cases hk0 : 0 < k
  · have g1 : decide ((0 : Int) < (k : Int)) = true := by simp; omega
    have g1' : decide (0 < k) = true := by simpa using hk0
    have e7 : IntKind.i64.wrap ((k : Int) - 1) = (k : Int) - 1 := IntWalk.i64_in _ (by omega)
    have PB := beacon_any 1 kr ((k : Int) - 1) wr (by omega) HR.out (by omega)
    have hbr := bea_read (HFIT.out k d (by omega) HD.out) (src := 1) (rank := kr) (asn := (k : Int) - 1) (by rw [show (waitN cf (k : Int) d).c.nodes = cf.nodes from rfl, HC5.out]; omega) (show (1 : Int) ≠ 2 by decide) HR.out (by omega)
    have hbl := bea_len (src := 1) (rank := kr) (asn := (k : Int) - 1) (by omega) HR.out (by omega)
    have hbo := encF_ok (bea_may (src := 1) (rank := kr) (asn := (k : Int) - 1) (by omega) HR.out (by omega)) okD_nil
    obtain ⟨L, hL⟩ : ∃ q, encF (beaF 1 kr ((k : Int) - 1)) = q := ⟨_, rfl⟩
    rw [hL] at PB hbr hbl hbo
    have HBR := Lib.hid hbr
    have HBL := Lib.hid (And.intro hbl hbo)
    obtain ⟨nl, hnl⟩ : ∃ q, L.length = q := ⟨_, rfl⟩
    rw [hnl] at PB
    have HNL := Lib.hid hnl
    clear hL hnl hbr hbl hbo
    go_wp2_with fail
    refine PB.mono ?_
    rintro r w5 ⟨a5, c5, rfl, k1, k2, k3, b5⟩
    have n5 := HN.out.below b5
    have PH := hear_out n5 (HFIT.out k d (by omega) HD.out) rfl ((k : Int) - 1) a5 c5 L mm (by rw [HNL.out]; exact k1) k2 HBL.out.1 (by rw [HNL.out]; exact k3) HBL.out.2
    rw [HNL.out] at PH
    have b45 := b4.trans (b5.mono b4.size)
    have HN5 := Lib.hid n5
    clear PB k1 k2 k3 b5 n5
    go_wp2_with fail
    refine PH.mono ?_
    intro r w6 hP
    unfold HearOut at hP
    rw [HBR.out] at hP
    simp only at hP
    rw [if_neg (by rw [wait_no (by rw [HLN.out]; omega)]; decide)] at hP
    obtain ⟨rfl, b6⟩ := hP
    have n6 := HN5.out.below b6
    have b46 := b45.trans (b6.mono b45.size)
    have PY := synced_any n6
    rw [show (waitN cf (k : Int) d).inT = false from rfl] at PY
    have PS := HPS.out _ n6
    clear PH b6 b45 n6
    go_wp2_with fail
    refine PY.mono ?_
    rintro r w' ⟨rfl, rfl⟩
    go_wp2_with fail
    refine PS.mono ?_
    rintro r w7 ⟨rfl, n7, m7⟩
    have b7 := hdown.out _ _ b46 m7
    have PE := end_out n7 rfl k
    have HN7 := Lib.hid n7
    clear PY PS n7 m7 b46
    go_wp2_with fail
    refine PE.mono ?_
    rintro r w' ⟨rfl, rfl⟩
    clear PE
    go_wp2_with fail
    exact ⟨HN7.out, b7⟩
  · obtain rfl : k = 0 := by omega
    have PS := HPS.out _ HN.out
    clear hk0
    go_wp2_with fail
    refine PS.mono ?_
    rintro r w7 ⟨rfl, n7, m7⟩
    have b7 := hdown.out _ _ b4 m7
    have PE := end_out n7 rfl (0 : Nat)
    have HN7 := Lib.hid n7
    clear PS n7 m7 b4
    go_wp2_with fail
    refine PE.mono ?_
    rintro r w' ⟨rfl, rfl⟩
    clear PE
    go_wp2_with fail
    exact ⟨HN7.out, b7⟩
end Go.Proofs.YtiflmdekcjbmbaaGreat.NodeWaits
