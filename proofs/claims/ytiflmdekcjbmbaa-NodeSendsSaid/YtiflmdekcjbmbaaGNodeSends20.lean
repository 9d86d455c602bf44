/-
  Law NodeSends: two of its expressions.
-/
import Derived.Test.YtiflmdekcjbmbaaGNodeSends19
set_option maxRecDepth 100000
namespace Go.Proofs.Ytiflmdekcjbmbaa.NodeSends
set_option linter.unusedVariables false
set_option linter.unusedSimpArgs false
open Go.RowKit Lb Nd Ie Fm
section
variable {v : World}
def iR (v : World) (x : Value) (s : Gw v) : Prop := ∃ g, x = .slice (some ⟨g, 0, none⟩) 3 3 ∧ v.heap.size ≤ g ∧ Own s.toW g 3 #[.int .i64 11, .int .i64 15, .int .i64 20]
def kR (v : World) : Kd v := .grow (iR v) (fun _ _ _ h ⟨g, e, h1, h2⟩ => ⟨g, e, h1, below_own h.below h2 h2.lt⟩)
def iX (v : World) (r : Nat) (x : Value) (s : Gw v) : Prop := ∃ g, x = .pointer (some ⟨g, r, none⟩) ∧ v.heap.size ≤ g ∧ Own s.toW g 3 #[.int .i64 11, .int .i64 15, .int .i64 20]
def kX (v : World) (r : Nat) : Kd v := .grow (iX v r) (fun _ _ _ h ⟨g, e, h1, h2⟩ => ⟨g, e, h1, below_own h.below h2 h2.lt⟩)
end
def findR (n : Nat) : Code → Option Code
  | .region m o d => if m == n then some (.region m o d) else none
  | .seq a b => match findR n a with
    | some c => some c
    | none => findR n b
  | .cond _ a b => match findR n a with
    | some c => some c
    | none => findR n b
  | .block _ b => findR n b
  | .loop c => findR n c
  | .scope c => findR n c
  | _ => none
noncomputable def code14 : Code := (Try.f3.body.bind (findR 14)).getD .skip
noncomputable def code18 : Code := (Try.f3.body.bind (findR 18)).getD .skip
set_option maxHeartbeats 8000000 in
theorem reg14 (k nl c7 b xb r3 : Nat) (ch nd qu rm : Int) (qb : Bool) (a7 : Option Addr) (w7 : World) (c0 c1 c2 c3 c4 c5 c6 c9 c11 c12 c15 c16 c17 c18 c19 c20 c21 c22 c23 c24 c25 c26 c27 c28 c29 c30 c31 c32 c33 c34 c35 c36 c37 c38 c39 c40 c41 c42 c43 c44 c45 c46 c47 c48 c49 c50 c51 c52 c53 c54 c55 c56 c57 c58 c59 c60 c61 c62 c63 c64 c65 c66 c67 c68 c69 c70 c71 c72 c73 c74 c75 c76 c77 c78 c79 c80 c81 c82 c83 c84 c85 c86 c87 c88 c89 c90 c91 c92 c93 c94 c95 c96 c97 c98 c99 c100 c101 c102 c103 c104 c105 c106 c107 c108 c109 c110 c111 c112 c113 c114 c115 c116 c117 c118 c119 c120 c121 c122 : Value) (K : Act → World → Prop) (Q3 : Exit → Act → World → Prop)
    (hr3l : r3 < 3) (e1 : (k : Int).tmod 3 = (r3 : Int)) (e2 : wrap64 (r3 : Int) = (r3 : Int)) (e3 : IntKind.i64.wrap (r3 : Int) = (r3 : Int)) (hcell : (#[.int .i64 11, .int .i64 15, .int .i64 20] : Array Value)[r3]? = some (.int .i64 ch)) (hrm : (k : Int).tmod nd = rm) (e4 : wrap64 rm = rm) (e5 : IntKind.i64.wrap rm = rm)
    (g1 : (rm == 0) = qb) (g2 : decide ((0 : Int) < (nl : Int)) = qb) (g3 : decide (0 < nl) = qb) (g4 : (qb != qb) = false) (g5 : decide (qu < 0) = false) (hnd0 : (nd == 0) = false) (hnd1 : ¬ nd = 0)
    (c8' : ∀ z : Gw w7, z.toW.cell? ⟨xb, 0, none⟩ = some (.int .i64 nd)) (c9' : ∀ z : Gw w7, z.toW.cell? ⟨xb, 7, none⟩ = some (.int .i64 qu))
    (PW : ∀ z : Gw w7, Calls Try.prog 10 #[.pointer (some ⟨b, 0, none⟩)] z.toW fun r w' => r = .returned (.int .i64 0) ∧ z.toW = w')
    (hnext : ∀ (d49 d50 d51 d52 d53 d54 d55 d56 d57 d58 d59 d60 d61 d62 d63 d64 d65 d66 d67 d68 d69 d70 d71 d72 : Value) (w' : World), Below w7.heap.size w7 w' → K ⟨List.toArray (c0 :: c1 :: c2 :: c3 :: c4 :: c5 :: c6 :: (.pointer (some ⟨xb, 0, none⟩)) :: (.pointer (some ⟨b, 0, none⟩)) :: c9 :: (.int .i64 (k : Int)) :: c11 :: c12 :: (.int .i64 ch) :: (.slice a7 nl c7) :: c15 :: c16 :: c17 :: c18 :: c19 :: c20 :: c21 :: c22 :: c23 :: c24 :: c25 :: c26 :: c27 :: c28 :: c29 :: c30 :: c31 :: c32 :: c33 :: c34 :: c35 :: c36 :: c37 :: c38 :: c39 :: c40 :: c41 :: c42 :: c43 :: c44 :: c45 :: c46 :: c47 :: c48 :: d49 :: d50 :: d51 :: d52 :: d53 :: d54 :: d55 :: d56 :: d57 :: d58 :: d59 :: d60 :: d61 :: d62 :: d63 :: d64 :: d65 :: d66 :: d67 :: d68 :: d69 :: d70 :: d71 :: d72 :: (.bool false) :: c74 :: c75 :: c76 :: c77 :: c78 :: c79 :: c80 :: c81 :: c82 :: c83 :: c84 :: c85 :: c86 :: c87 :: c88 :: c89 :: c90 :: c91 :: c92 :: c93 :: c94 :: c95 :: c96 :: c97 :: c98 :: c99 :: c100 :: c101 :: c102 :: c103 :: c104 :: c105 :: c106 :: c107 :: c108 :: c109 :: c110 :: c111 :: c112 :: c113 :: c114 :: c115 :: c116 :: c117 :: c118 :: c119 :: c120 :: c121 :: c122 :: []), []⟩ w') :
    code14.wp Try.prog (Exit.then K Q3) ⟨List.toArray (c0 :: c1 :: c2 :: c3 :: c4 :: c5 :: c6 :: (.pointer (some ⟨xb, 0, none⟩)) :: (.pointer (some ⟨b, 0, none⟩)) :: c9 :: (.int .i64 (k : Int)) :: c11 :: c12 :: (.int .i64 ch) :: (.slice a7 nl c7) :: c15 :: c16 :: c17 :: c18 :: c19 :: c20 :: c21 :: c22 :: c23 :: c24 :: c25 :: c26 :: c27 :: c28 :: c29 :: c30 :: c31 :: c32 :: c33 :: c34 :: c35 :: c36 :: c37 :: c38 :: c39 :: c40 :: c41 :: c42 :: c43 :: c44 :: c45 :: c46 :: c47 :: c48 :: c49 :: c50 :: c51 :: c52 :: c53 :: c54 :: c55 :: c56 :: c57 :: c58 :: c59 :: c60 :: c61 :: c62 :: c63 :: c64 :: c65 :: c66 :: c67 :: c68 :: c69 :: c70 :: c71 :: c72 :: c73 :: c74 :: c75 :: c76 :: c77 :: c78 :: c79 :: c80 :: c81 :: c82 :: c83 :: c84 :: c85 :: c86 :: c87 :: c88 :: c89 :: c90 :: c91 :: c92 :: c93 :: c94 :: c95 :: c96 :: c97 :: c98 :: c99 :: c100 :: c101 :: c102 :: c103 :: c104 :: c105 :: c106 :: c107 :: c108 :: c109 :: c110 :: c111 :: c112 :: c113 :: c114 :: c115 :: c116 :: c117 :: c118 :: c119 :: c120 :: c121 :: c122 :: []), []⟩ w7 := by
  conv => arg 2; whnf
  refine wp_region_grow w7 (Below.refl _ _) [.is (.int .i64 ch), kR w7, .is (.int .i64 (k : Int)), .is (.int .i64 (r3 : Int)), kX w7 r3, .is (.int .i64 ch), .is (.bool false), .is (.bool false), .is (.slice a7 nl c7), .is (.int .i64 (nl : Int)), .is (.bool qb), .is (.int .i64 (k : Int)), .is (.pointer (some ⟨xb, 0, none⟩)), .is (.int .i64 nd), .is (.int .i64 rm), .is (.bool qb), .is (.bool false), .is (.bool false), .is (.bool false), .is (.pointer (some ⟨b, 0, none⟩)), .is (.int .i64 0), .is (.pointer (some ⟨xb, 7, none⟩)), .is (.int .i64 qu), .is (.bool false), .is (.bool false)] [] (by kernel_rfl) (by kernel_rfl) rfl (by kernel_rfl) ?_
  refine kd_is (by rfl) (fun z hz K Q hK => ?_) ?_
  · go_big_op
    exact hK _ _ rfl rfl
  simp only [Act.put, List.setIfInBounds_toArray, List.set_cons_zero, List.set_cons_succ]
  refine kd_grow (by rfl) (fun z hz K Q hK => ?_) (fun xr => ?_)
  · have bz := (Below.refl z.toW.heap.size z.toW).alloc (Nat.le_refl _) (.cells #[.int .i64 11, .int .i64 15, .int .i64 20] 3)
    have oz := Own.new z.toW 3 #[.int .i64 11, .int .i64 15, .int .i64 20]
    go_big_op
    exact hK _ _ ⟨_, z.to _ bz, rfl, rfl, z.to_still _ bz, _, rfl, z.ok.size, oz⟩
  simp only [Act.put, List.setIfInBounds_toArray, List.set_cons_zero, List.set_cons_succ]
  iterate 2
    refine kd_is (by rfl) (fun z hz K Q hK => ?_) ?_
    · go_big_op
      exact hK _ _ rfl rfl
    simp only [Act.put, List.setIfInBounds_toArray, List.set_cons_zero, List.set_cons_succ]
  refine kd_grow (by rfl) (fun z hz K Q hK => ?_) (fun xx => ?_)
  · obtain ⟨g, rfl, q1, q2⟩ := fact_at hz 1 (iR w7) xr (by kernel_rfl) (by kernel_rfl) (by kernel_rfl)
    go_big_op
    exact hK _ _ ⟨_, z, rfl, rfl, Gw.still.refl z, _, rfl, q1, q2⟩
  simp only [Act.put, List.setIfInBounds_toArray, List.set_cons_zero, List.set_cons_succ]
  refine kd_is (by rfl) (fun z hz K Q hK => ?_) ?_
  · obtain ⟨g, rfl, q1, q2⟩ := fact_at hz 4 (iX w7 r3) xx (by kernel_rfl) (by kernel_rfl) (by kernel_rfl)
    have cz : z.toW.cell? ⟨g, r3, none⟩ = some (.int .i64 ch) := (q2.cell r3).trans hcell
    go_big_op
    exact hK _ _ rfl rfl
  simp only [Act.put, List.setIfInBounds_toArray, List.set_cons_zero, List.set_cons_succ]
  iterate 14
    refine kd_is (by rfl) (fun z hz K Q hK => ?_) ?_
    · go_big_op
      first | exact hK _ _ rfl rfl | (rw [if_neg hnd1]; exact hK _ _ rfl rfl)
    simp only [Act.put, List.setIfInBounds_toArray, List.set_cons_zero, List.set_cons_succ]
  refine kd_is (by rfl) (fun z hz K Q hK => ?_) ?_
  · go_big_op
    refine (PW z).mono ?_
    rintro r w' ⟨rfl, rfl⟩
    exact hK _ _ rfl rfl
  simp only [Act.put, List.setIfInBounds_toArray, List.set_cons_zero, List.set_cons_succ]
  iterate 4
    refine kd_is (by rfl) (fun z hz K Q hK => ?_) ?_
    · go_big_op
      exact hK _ _ rfl rfl
    simp only [Act.put, List.setIfInBounds_toArray, List.set_cons_zero, List.set_cons_succ]
  refine kd_nil (fun z hz => ?_)
  exact hnext _ _ _ _ _ _ _ _ _ _ _ _ _ _ _ _ _ _ _ _ _ _ _ _ z.toW z.ok
set_option maxHeartbeats 8000000 in
theorem reg18 (k fb rb ro pc : Nat) (j : Int) (w9 : World) (c0 c1 c2 c3 c4 c5 c6 c7 c8 c10 c11 c13 c14 c17 c18 c19 c20 c21 c22 c23 c24 c25 c26 c27 c28 c29 c30 c31 c32 c33 c34 c35 c36 c37 c38 c39 c40 c41 c42 c43 c44 c45 c46 c47 c48 c49 c50 c51 c52 c53 c54 c55 c56 c57 c58 c59 c60 c61 c62 c63 c64 c65 c66 c67 c68 c69 c70 c71 c72 c73 c74 c75 c76 c77 c78 c79 c80 c81 c82 c83 c84 c85 c86 c87 c88 c89 c90 c91 c92 c93 c94 c95 c96 c97 c98 c99 c100 c101 c102 c103 c104 c105 c106 c107 c108 c109 c110 c111 c112 c113 c114 c115 c116 c117 c118 c119 c120 c121 c122 : Value) (K : Act → World → Prop) (Q3 : Exit → Act → World → Prop)
    (f1 : w9.cell? ⟨fb, 1, none⟩ = some (.int .i64 0)) (f3 : w9.cell? ⟨fb, 3, none⟩ = some (.int .i64 j)) (f4 : w9.cell? ⟨fb, 4, none⟩ = some (.slice (some ⟨rb, ro, none⟩) 2 pc)) (r1 : w9.cell? ⟨rb, ro + 1, none⟩ = some (.int .i64 (k : Int))) (r2 : w9.cell? ⟨rb, ro + 2, none⟩ = some (.int .i64 0))
    (g8 : (j != j) = false) (g9 : ((k : Int) != (k : Int)) = false)
    (hnext : ∀ (d82 d83 d84 d85 d86 d87 d88 d89 d90 d91 d92 d93 d94 d95 d96 d97 d98 d99 d100 d101 d102 d103 d104 d105 d106 d107 d108 d109 d110 d111 d112 d113 d114 d115 d116 : Value) (w' : World), Below w9.heap.size w9 w' → K ⟨List.toArray (c0 :: c1 :: c2 :: c3 :: c4 :: c5 :: c6 :: c7 :: c8 :: (.int .i64 j) :: c10 :: c11 :: (.int .i64 (k : Int)) :: c13 :: c14 :: (.pointer (some ⟨fb, 0, none⟩)) :: (.int .i64 0) :: c17 :: c18 :: c19 :: c20 :: c21 :: c22 :: c23 :: c24 :: c25 :: c26 :: c27 :: c28 :: c29 :: c30 :: c31 :: c32 :: c33 :: c34 :: c35 :: c36 :: c37 :: c38 :: c39 :: c40 :: c41 :: c42 :: c43 :: c44 :: c45 :: c46 :: c47 :: c48 :: c49 :: c50 :: c51 :: c52 :: c53 :: c54 :: c55 :: c56 :: c57 :: c58 :: c59 :: c60 :: c61 :: c62 :: c63 :: c64 :: c65 :: c66 :: c67 :: c68 :: c69 :: c70 :: c71 :: c72 :: c73 :: c74 :: c75 :: c76 :: c77 :: c78 :: c79 :: c80 :: c81 :: d82 :: d83 :: d84 :: d85 :: d86 :: d87 :: d88 :: d89 :: d90 :: d91 :: d92 :: d93 :: d94 :: d95 :: d96 :: d97 :: d98 :: d99 :: d100 :: d101 :: d102 :: d103 :: d104 :: d105 :: d106 :: d107 :: d108 :: d109 :: d110 :: d111 :: d112 :: d113 :: d114 :: d115 :: d116 :: (.bool false) :: c118 :: c119 :: c120 :: c121 :: c122 :: []), []⟩ w') :
    code18.wp Try.prog (Exit.then K Q3) ⟨List.toArray (c0 :: c1 :: c2 :: c3 :: c4 :: c5 :: c6 :: c7 :: c8 :: (.int .i64 j) :: c10 :: c11 :: (.int .i64 (k : Int)) :: c13 :: c14 :: (.pointer (some ⟨fb, 0, none⟩)) :: (.int .i64 0) :: c17 :: c18 :: c19 :: c20 :: c21 :: c22 :: c23 :: c24 :: c25 :: c26 :: c27 :: c28 :: c29 :: c30 :: c31 :: c32 :: c33 :: c34 :: c35 :: c36 :: c37 :: c38 :: c39 :: c40 :: c41 :: c42 :: c43 :: c44 :: c45 :: c46 :: c47 :: c48 :: c49 :: c50 :: c51 :: c52 :: c53 :: c54 :: c55 :: c56 :: c57 :: c58 :: c59 :: c60 :: c61 :: c62 :: c63 :: c64 :: c65 :: c66 :: c67 :: c68 :: c69 :: c70 :: c71 :: c72 :: c73 :: c74 :: c75 :: c76 :: c77 :: c78 :: c79 :: c80 :: c81 :: c82 :: c83 :: c84 :: c85 :: c86 :: c87 :: c88 :: c89 :: c90 :: c91 :: c92 :: c93 :: c94 :: c95 :: c96 :: c97 :: c98 :: c99 :: c100 :: c101 :: c102 :: c103 :: c104 :: c105 :: c106 :: c107 :: c108 :: c109 :: c110 :: c111 :: c112 :: c113 :: c114 :: c115 :: c116 :: c117 :: c118 :: c119 :: c120 :: c121 :: c122 :: []), []⟩ w9 := by
  conv => arg 2; whnf
  go_wp2_with fail
  exact Below.refl _ _
end Go.Proofs.Ytiflmdekcjbmbaa.NodeSends
