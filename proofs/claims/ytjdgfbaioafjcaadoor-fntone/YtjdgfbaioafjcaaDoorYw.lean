/- Two sound chips that are the same are found the same; one is loaded whole; what a law's walk wants of them. -/
import Derived.Test.YtjdgfbaioafjcaaDoorYc
import Derived.ChangeKeysEq
namespace Go.Proofs.YtjdgfbaioafjcaaDoor
open Go.ChangeShapes Go.WideShapes Go.ChangeAt Go.RowKit
set_option linter.unusedVariables false
set_option linter.unusedSimpArgs false

theorem wpList_load_want {P : Program} {ops : Array Oper} {rest : List Oper} {op : Oper} {a : Act} {w : World} {Q : Exit → Act → World → Prop} (ty : TypeId) (x : Operand) (ho : op.op = .load ty x)
    (b o : Nat) (hx : a.eval x = .pointer (some ⟨b, o, none⟩)) (hw : Region.wanted op (yielded ops a.tmps) = true) (cs : List Value) (d : TypeDesc) (hc : w.rangeAt b o cs)
    (hu : P.underlying ty = some d) (hd : d.isRow = true) (hi : (P.info? ty).map (·.size) = some cs.length)
    (h : wpList P ops Q rest (a.put op.dst (.agg cs.toArray)) w) : wpList P ops Q (op :: rest) a w :=
  wpList_step fun K hK => by
    rw [if_pos hw]
    exact wp_load_mid ty x ho b o hx cs d hc hu hd hi (hK _ _ h)
theorem partS_int {xs : Array Value} {i : Nat} {v : Value} (h : xs[i]? = some v) (w : World) : (part 3 xs i).run Tryd.prog w = .ok v w := by
  have hu := Tryd.underlying3
  simp [part, isAgg, go_sem, hu, h]
theorem eqS_int1 (d : Nat) (z : Int) (w : World) : (Op.equalIn (d + 1) 3 (.int .i64 z) (.int .i64 z)).run Tryd.prog w = .ok true w := by
  have hu := Tryd.underlying3
  simp [Op.equalIn, go_sem, hu]
theorem itemsS_self (d : Nat) (xs : Array Value) (w : World) : ∀ is : List Nat, (∀ i ∈ is, ∃ z, xs[i * 1]? = some (.int .i64 z)) → (Op.eqItems (d + 1) 3 1 xs xs is).run Tryd.prog w = .ok true w := by
  intro is
  induction is with
  | nil => intro _; rfl
  | cons i t ih =>
    intro h
    obtain ⟨z, hz⟩ := h i (by simp)
    simp only [Op.eqItems, Sem.run_bind, partS_int hz, Result.andThen_ok, eqS_int1, Bool.not_true, Bool.false_eq_true, if_false]
    exact ih (fun j hj => h j (by simp [hj]))
theorem eqS8 (d : Nat) (x0 x1 x2 x3 x4 x5 x6 x7 : Int) (w : World) : Sem.run Tryd.prog (Op.equalIn (d + 1 + 1) 23 (.agg #[.int .i64 x0, .int .i64 x1, .int .i64 x2, .int .i64 x3, .int .i64 x4, .int .i64 x5, .int .i64 x6, .int .i64 x7]) (.agg #[.int .i64 x0, .int .i64 x1, .int .i64 x2, .int .i64 x3, .int .i64 x4, .int .i64 x5, .int .i64 x6, .int .i64 x7])) w = .ok true w := by
  obtain ⟨i, hi⟩ : ∃ i, Tryd.prog.info? 3 = some i := Option.isSome_iff_exists.1 (by kernel_rfl)
  have c1 : Tryd.prog.cellsOf 3 = 1 := by kernel_rfl
  rw [run_equalIn_array (w := w) (d + 1) _ _ Tryd.underlying23 hi, c1]
  refine itemsS_self d _ w _ (fun i hi => ?_)
  have hi8 : i < 8 := List.mem_range.1 hi
  rcases (by omega : i = 0 ∨ i = 1 ∨ i = 2 ∨ i = 3 ∨ i = 4 ∨ i = 5 ∨ i = 6 ∨ i = 7) with rfl | rfl | rfl | rfl | rfl | rfl | rfl | rfl <;> exact ⟨_, rfl⟩
theorem eqS2 (d : Nat) (x0 x1 : Int) (w : World) : Sem.run Tryd.prog (Op.equalIn (d + 1 + 1) 24 (.agg #[.int .i64 x0, .int .i64 x1]) (.agg #[.int .i64 x0, .int .i64 x1])) w = .ok true w := by
  obtain ⟨i, hi⟩ : ∃ i, Tryd.prog.info? 3 = some i := Option.isSome_iff_exists.1 (by kernel_rfl)
  have c1 : Tryd.prog.cellsOf 3 = 1 := by kernel_rfl
  rw [run_equalIn_array (w := w) (d + 1) _ _ Tryd.underlying24 hi, c1]
  refine itemsS_self d _ w _ (fun i hi => ?_)
  have hi2 : i < 2 := List.mem_range.1 hi
  rcases (by omega : i = 0 ∨ i = 1) with rfl | rfl <;> exact ⟨_, rfl⟩
theorem partS_bool {xs : Array Value} {i : Nat} {v : Value} (h : xs[i]? = some v) (w : World) : (part 4 xs i).run Tryd.prog w = .ok v w := by
  have hu := Tryd.underlying4
  simp [part, isAgg, go_sem, hu, h]
theorem eqS_bool1 (d : Nat) (z : Bool) (w : World) : (Op.equalIn (d + 1) 4 (.bool z) (.bool z)).run Tryd.prog w = .ok true w := by
  have hu := Tryd.underlying4
  simp [Op.equalIn, go_sem, hu]
theorem eqSb2 (d : Nat) (x0 x1 : Bool) (w : World) : Sem.run Tryd.prog (Op.equalIn (d + 1 + 1) 25 (.agg #[.bool x0, .bool x1]) (.agg #[.bool x0, .bool x1])) w = .ok true w := by
  obtain ⟨i, hi⟩ : ∃ i, Tryd.prog.info? 4 = some i := Option.isSome_iff_exists.1 (by kernel_rfl)
  have c1 : Tryd.prog.cellsOf 4 = 1 := by kernel_rfl
  rw [run_equalIn_array (w := w) (d + 1) _ _ Tryd.underlying25 hi, c1]
  have h0 : (#[.bool x0, .bool x1] : Array Value)[0 * 1]? = some (.bool x0) := rfl
  have h1 : (#[.bool x0, .bool x1] : Array Value)[1 * 1]? = some (.bool x1) := rfl
  show (Op.eqItems (d + 1) 4 1 #[.bool x0, .bool x1] #[.bool x0, .bool x1] [0, 1]).run Tryd.prog w = _
  simp only [Op.eqItems, Sem.run_bind, partS_bool h0, partS_bool h1, Result.andThen_ok, eqS_bool1, Bool.not_true, Bool.false_eq_true, if_false]
  rfl
theorem eqS_self (c : Sg) (w : World) : Sem.run Tryd.prog (Op.equalIn 10000 27 (sgV c) (sgV c)) w = .ok true w := by
  have h8 := eqS8 9997 c.r0 c.r1 c.r2 c.r3 c.r4 c.r5 c.r6 c.r7
  have h2 := eqS2 9997 c.c0 c.c1
  have hb := eqSb2 9997 c.o0 c.o1
  go_simp
theorem wpList_loadS_want {ops : Array Oper} {rest : List Oper} {op : Oper} {a : Act} {w : World} {Q : Exit → Act → World → Prop} {c : Sg} (x : Operand) (ho : op.op = .load 27 x)
    (b : Nat) (hx : a.eval x = .pointer (some ⟨b, 0, none⟩)) (hw : Region.wanted op (yielded ops a.tmps) = true) (hc : w.rangeAt b 0 (sgA c).toList)
    (h : wpList Tryd.prog ops Q rest (a.put op.dst (sgV c)) w) : wpList Tryd.prog ops Q (op :: rest) a w :=
  wpList_load_want 27 x ho b 0 hx hw (sgA c).toList _ hc Tryd.underlying27 rfl (sg_size c) h
theorem ldS {W : World} {b : Nat} {c : Sg} (h : Blk W b (sgA c)) : (Instr.loadAt 27 (.pointer (some ⟨b, 0, none⟩))).run Tryd.prog W = .ok (sgV c) W :=
  run_loadAt_mid W b 0 27 (sgA c).toList _ (sg_range h) Tryd.underlying27 rfl (sg_size c)
end Go.Proofs.YtjdgfbaioafjcaaDoor
