/- What the row's list of the cursor's three errors gives: three cells that point to three blocks of their own. -/
import Derived.Test.YtakdhmlegickmabDoorV16
import Derived.LaidMore
import Derived.Stop.LaidErr
import Derived.Stop.Joined
namespace Go.Proofs.YtakdhmlegickmabDoor
open Go.ChangeShapes Go.WideShapes Go.ChangeAt Go.RowKit
set_option linter.unusedVariables false

theorem eStar : "*errors.errorString" = "*" ++ "errors.errorString" := by decide
theorem eRow (u : TypeId) (h : Tryd.prog.typeName? 3 u = some "*errors.errorString") : u = 110 :=
  typeName_ptr_named (nm := "errors.errorString") (by rw [← eStar]; kernel_rfl) (by kernel_rfl) (by decide) u (by rw [← eStar]; exact h)
theorem g1n : Tryd.prog.globalNamed "loop.example/g00644/impl.errCount" = some 8 := by kernel_rfl
theorem g2n : Tryd.prog.globalNamed "loop.example/g00644/impl.errAtEnd" = some 7 := by kernel_rfl
theorem g1t : (Tryd.prog.globals[8]?).map (·.type) = some 57 := by kernel_rfl
theorem g2t : (Tryd.prog.globals[7]?).map (·.type) = some 57 := by kernel_rfl
theorem eCells : Tryd.prog.cellsOf 133 = 1 := by kernel_rfl
theorem sCells : Tryd.prog.cellsOf 9 = 1 := by kernel_rfl

end Go.Proofs.YtakdhmlegickmabDoor

/- The six errors of the cursor and of blocks, as start-up lays them; the code that goes with each. -/
namespace Go.Proofs.YtakdhmlegickmabDoor
open Go.ChangeShapes Go.WideShapes Go.ChangeAt Go.RowKit
set_option linter.unusedVariables false
set_option linter.unusedSimpArgs false

theorem hid3 {p : Prop} (h : p) : Hid p := h
/-- the error that goes with a code -/
def errV6 (e0 e1 e2 e3 e4 e5 : Addr) (c : Int) : Value := if c = 8 then .iface 110 (.pointer (some e3)) else if c = 10 then .iface 110 (.pointer (some e4)) else if c = 6 then .iface 110 (.pointer (some e5)) else errV e0 e1 e2 c
theorem errV6_some (e0 e1 e2 e3 e4 e5 : Addr) (c : Int) (h : c ≠ 0) : ∃ x, errV6 e0 e1 e2 e3 e4 e5 c = .iface 110 (.pointer (some x)) := by
  unfold errV6
  split
  · exact ⟨_, rfl⟩
  · split
    · exact ⟨_, rfl⟩
    · split
      · exact ⟨_, rfl⟩
      · exact errV_some e0 e1 e2 c h
set_option maxRecDepth 100000 in
theorem is_nil (b : Addr) (w : World) : Calls Tryd.prog 52 #[.nilIface, .iface 110 (.pointer (some b))] w fun e w' => e = .returned (.bool false) ∧ w' = w := by
  have heq := run_eql_iface_nil_left (P := Tryd.prog) w 110 (.pointer (some b)) Tryd.underlying57
  go_enter Tryd.func52, Tryd.ntmps52
  go_wp2
  go_ret
  exact ⟨rfl, rfl⟩
theorem g3n : Tryd.prog.globalNamed "loop.example/g00644/impl.errBlockSize" = some 5 := by kernel_rfl
theorem g3t : (Tryd.prog.globals[5]?).map (·.type) = some 57 := by kernel_rfl
theorem g4n : Tryd.prog.globalNamed "loop.example/g00644/impl.errBlockSum" = some 6 := by kernel_rfl
theorem g4t : (Tryd.prog.globals[6]?).map (·.type) = some 57 := by kernel_rfl
theorem g5n : Tryd.prog.globalNamed "loop.example/g00644/impl.errManyBlocks" = some 1 := by kernel_rfl
theorem g5t : (Tryd.prog.globals[1]?).map (·.type) = some 57 := by kernel_rfl
theorem vars6_form {H : Type} {enc : TypeId × Value → H} {P : Program} {w : World} {sp : Nat → Bool} {n m l n2 m2 l2 : String} {gs : List (DataW H)} {ps : List MemPlace} (h : DataW.TrodVars enc P w sp [n, m, l, n2, m2, l2] gs ps) : ∃ a b c d e f, gs = [a, b, c, d, e, f] := by
  match gs, h with
  | [], h => exact h.elim
  | a :: gs, ⟨_, _, _, _, _, _, _, _, _, _, h, _⟩ =>
    match gs, h with
    | [], h => exact h.elim
    | b :: gs, ⟨_, _, _, _, _, _, _, _, _, _, h, _⟩ =>
      match gs, h with
      | [], h => exact h.elim
      | c :: gs, ⟨_, _, _, _, _, _, _, _, _, _, h, _⟩ =>
        obtain ⟨d, e, f, rfl⟩ := vars3_form h
        exact ⟨a, b, c, d, e, f, rfl⟩
end Go.Proofs.YtakdhmlegickmabDoor
