/-
  Cells are compared as a whole.
-/
import Derived.Test.YtdpkiolngglpaaaCeMath
import Derived.Laws.StructEq
import Derived.ChangeKeysEq
set_option maxRecDepth 100000
namespace Go.Proofs.Ytdpkiolngglpaaa.Ce
set_option linter.unusedVariables false
set_option linter.unusedSimpArgs false
open Go.RowKit Lb Cl
def eqC (x y : C) : Bool := x.f == y.f && (x.s == y.s && (x.c == y.c && (x.o == y.o && x.p == y.p)))
theorem eqC_is (x y : C) : eqC x y = true ↔ x = y := by
  obtain ⟨a, b, c, d, e⟩ := x
  obtain ⟨a', b', c', d', e'⟩ := y
  unfold eqC
  simp
theorem fields_c : (Try.prog.fieldsOf 69).toList.map (fun f => (f.name, f.type, f.offset)) = [("Frame", 3, 0), ("Slot", 3, 1), ("Chan", 3, 2), ("Opts", 3, 3), ("Peer", 3, 4)] := by kernel_rfl
theorem part_i (xs : Array Value) (o : Nat) (z : Int) (w : World) (h : xs[o]? = some (.int .i64 z)) : (part 3 xs o).run Try.prog w = .ok (.int .i64 z) w := run_part_plain w (by kernel_rfl) h
theorem five_of : ∀ l : List Field, l.length = 5 → ∃ a b c d e, l = [a, b, c, d, e]
  | [a, b, c, d, e], _ => ⟨a, b, c, d, e, rfl⟩
theorem equal_c (x y : C) (w : World) : (Op.equalIn 10000 69 (.agg x.vals) (.agg y.vals)).run Try.prog w = .ok (eqC x y) w := by
  have hf := fields_c
  rw [run_equalIn_agg w 9999 69 x.vals y.vals (by kernel_rfl) (by kernel_rfl)]
  generalize (Try.prog.fieldsOf 69).toList = L at *
  obtain ⟨f0, f1, f2, f3, f4, rfl⟩ := five_of L (by simpa using congrArg List.length hf)
  simp only [List.map_cons, List.map_nil, List.cons.injEq, Prod.mk.injEq, and_true] at hf
  obtain ⟨⟨n0, t0, o0⟩, ⟨n1, t1, o1⟩, ⟨n2, t2, o2⟩, ⟨n3, t3, o3⟩, ⟨n4, t4, o4⟩⟩ := hf
  have p0 : ∀ z : C, (part 3 z.vals 0).run Try.prog w = .ok (.int .i64 z.f) w := fun z => part_i _ _ _ _ rfl
  have p1 : ∀ z : C, (part 3 z.vals 1).run Try.prog w = .ok (.int .i64 z.s) w := fun z => part_i _ _ _ _ rfl
  have p2 : ∀ z : C, (part 3 z.vals 2).run Try.prog w = .ok (.int .i64 z.c) w := fun z => part_i _ _ _ _ rfl
  have p3 : ∀ z : C, (part 3 z.vals 3).run Try.prog w = .ok (.int .i64 z.o) w := fun z => part_i _ _ _ _ rfl
  have p4 : ∀ z : C, (part 3 z.vals 4).run Try.prog w = .ok (.int .i64 z.p) w := fun z => part_i _ _ _ _ rfl
  have q : ∀ a b : Int, (Op.equalIn 9999 3 (.int .i64 a) (.int .i64 b)).run Try.prog w = .ok (a == b) w := fun a b => run_equalIn_int w 9998 3 .i64 .i64 a b (by kernel_rfl)
  unfold eqC
  simp only [Op.eqFields, n0, n1, n2, n3, n4, t0, t1, t2, t3, t4, o0, o1, o2, o3, o4]
  rw [if_pos (by decide), if_pos (by decide), if_pos (by decide), if_pos (by decide), if_pos (by decide)]
  simp only [Sem.run_bind, p0, p1, p2, p3, p4, q, Result.andThen_ok, Sem.run_ite, Sem.run_pure]
  cases hb0 : x.f == y.f <;> cases hb1 : x.s == y.s <;> cases hb2 : x.c == y.c <;> cases hb3 : x.o == y.o <;> cases hb4 : x.p == y.p <;> simp
theorem eql_c (x y : C) (w : World) : (binOp .eql 69 (.agg #[.int .i64 x.f, .int .i64 x.s, .int .i64 x.c, .int .i64 x.o, .int .i64 x.p]) (.agg #[.int .i64 y.f, .int .i64 y.s, .int .i64 y.c, .int .i64 y.o, .int .i64 y.p])).run Try.prog w = .ok (.bool (eqC x y)) w := by
  rw [run_eql_struct]
  have := equal_c x y w
  unfold C.vals at this
  rw [this]
  rfl
theorem neq_c (x y : C) (w : World) : (binOp .neq 69 (.agg #[.int .i64 x.f, .int .i64 x.s, .int .i64 x.c, .int .i64 x.o, .int .i64 x.p]) (.agg #[.int .i64 y.f, .int .i64 y.s, .int .i64 y.c, .int .i64 y.o, .int .i64 y.p])).run Try.prog w = .ok (.bool (!eqC x y)) w := by
  rw [run_neq_struct]
  have := equal_c x y w
  unfold C.vals at this
  rw [this]
  rfl
end Go.Proofs.Ytdpkiolngglpaaa.Ce
