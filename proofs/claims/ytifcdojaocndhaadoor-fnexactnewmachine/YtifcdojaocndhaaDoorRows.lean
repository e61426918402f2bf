/-
  NARROWER THAN 'FOR EVERY INPUT', by the rows' own cells (each row's printed sentence says how): FnExactNewMachine: laid · FnExactCyclesTime: laid · FnExactPortValue: laid · FnExactSameMachine: laid.
  DERIVED. THE GIVEN ROWS OF THIS SEAT. 4 by the template 'for every input the law returns true; each argument reads behind the call as it read before'; 0 by the template 'total and deterministic' (their statements: YtifcdojaocndhaaDoorTotals.lean).
  GIVEN WITH THE SEED: the statements are not yours to turn. If you find one false, say at which input.
  Laid BY PROGRAM, IN A SANDBOX (cutbox-rows.mjs): the forced cells as the released guide's own fill.sh prints them over the translation 0c4e0bccd78d71b0… (all of the seat's roots in one cut). By AI agents, Wed Nov 11 2026. No macro, syntax, notation, axiom, sorry.
-/
import Derived.Test.YtifcdojaocndhaaDoorChecked
import GoSem.Claim
import GoSem.ClaimJoined
import GoSem.ClaimMapViews
import Derived.JoinedTies
import Derived.KernelRfl
namespace Go.Proofs.YtifcdojaocndhaaDoor
/- THE CELL 'sum', in the pinned program and in every row, IS THE sha256 OF THE DUMP (.gsa) THAT YtifcdojaocndhaaDoorProg.lean LOADS. Nothing in Lean hashes anything: it is a label: what it is worth is what the hold of that sum in a sandbox is worth. -/
noncomputable def Tryd.pinned : Pinned := { name := "ytifcdojaocndhaadoor", sum := "0c4e0bccd78d71b089c22d984efa43380ef427d59b34906937b89c0d89e464bc", checked := Tryd.checked }
namespace Rows
def none {H : Type} : Left H := { results := [], args := [] }

/- WHAT THE LISTED PACKAGE-LEVEL VARIABLES READ AS WHEN THE CALL BEGINS. Each datum BY PROGRAM (the guide's laid-datum.mjs) off the statement by which the dump's own 'gosem.cut.vars' lays the variable. In a bare row this is a premise. The card (YtifcdojaocndhaaDoorCards.lean) ties it to the program's text. -/
def laid_loop_example_g00644_impl_psgBits {H : Type} : DataW H := .agg [.lit (.int .i64 255), .lit (.int .i64 255), .lit (.int .i64 31), .lit (.int .i64 15), .lit (.int .i64 31), .lit (.int .i64 31), .lit (.int .i64 255), .lit (.int .i64 3)]
def laid_loop_example_g00644_impl_bitTimes {H : Type} : DataW H := .agg [.lit (.int .i64 20), .lit (.int .i64 40)]
def laid_loop_example_g00644_impl_waitPattern {H : Type} : DataW H := .agg [.lit (.int .i64 6), .lit (.int .i64 5), .lit (.int .i64 4), .lit (.int .i64 3), .lit (.int .i64 2), .lit (.int .i64 1), .lit (.int .i64 0), .lit (.int .i64 0)]
def laid_loop_example_g00644_impl_cycleTimes {H : Type} : DataW H := .agg [.lit (.int .i64 0), .lit (.int .i64 4), .lit (.int .i64 3), .lit (.int .i64 3), .lit (.int .i64 4), .lit (.int .i64 4)]
def laid_loop_example_g00644_impl_fetchPattern {H : Type} : DataW H := .agg [.lit (.int .i64 0), .lit (.int .i64 32), .lit (.int .i64 (-1)), .lit (.int .i64 (-1))]

/-- 'laws.FnExactNewMachine': WHATEVER THE INPUT: true; the input reads as it did. -/
def fnExactNewMachineSpec : ChangeSpec := { name := "fnExactNewMachine", vars := ["loop.example/g00644/impl.bitTimes", "loop.example/g00644/impl.psgBits"], fn := fun _ => fun
  | [d1, d2, g1, g2] => { results := [.lit (.bool true)], args := [d1, d2], vars := [g1, g2] }
  | _ => none }
def fnExactNewMachineRow : OpenClaim := { program := "ytifcdojaocndhaadoor", sum := "0c4e0bccd78d71b089c22d984efa43380ef427d59b34906937b89c0d89e464bc", func := "loop.example/g00644/laws.FnExactNewMachine", spec := "fnExactNewMachine", unfollowed := true, recurses := true, named := ["loop.example/g00644/impl.bitTimes", "loop.example/g00644/impl.psgBits"], apart := false, laid := [("loop.example/g00644/impl.psgBits", laid_loop_example_g00644_impl_psgBits), ("loop.example/g00644/impl.bitTimes", laid_loop_example_g00644_impl_bitTimes)] }
def FnExactNewMachineSaid : Prop := fnExactNewMachineRow.holds Tryd.pinned (OpenSpec.ofChange fnExactNewMachineSpec)

/-- ITS FALSE NEIGHBOUR: 'it returns false'. Refute it at one input. -/
def fnExactNewMachineWrong : ChangeSpec := { name := "fnExactNewMachine", vars := ["loop.example/g00644/impl.bitTimes", "loop.example/g00644/impl.psgBits"], fn := fun _ => fun
  | [d1, d2, g1, g2] => { results := [.lit (.bool false)], args := [d1, d2], vars := [g1, g2] }
  | _ => none }
def FnExactNewMachineWrongFalsely : Prop := fnExactNewMachineRow.holds Tryd.pinned (OpenSpec.ofChange fnExactNewMachineWrong)

/-- 'laws.FnExactCyclesTime': WHATEVER THE INPUT: true; the input reads as it did. -/
def fnExactCyclesTimeSpec : ChangeSpec := { name := "fnExactCyclesTime", vars := ["loop.example/g00644/impl.psgBits", "loop.example/g00644/impl.cycleTimes", "loop.example/g00644/impl.waitPattern"], fn := fun _ => fun
  | [d1, d2, g1, g2, g3] => { results := [.lit (.bool true)], args := [d1, d2], vars := [g1, g2, g3] }
  | _ => none }
def fnExactCyclesTimeRow : OpenClaim := { program := "ytifcdojaocndhaadoor", sum := "0c4e0bccd78d71b089c22d984efa43380ef427d59b34906937b89c0d89e464bc", func := "loop.example/g00644/laws.FnExactCyclesTime", spec := "fnExactCyclesTime", named := ["loop.example/g00644/impl.psgBits", "loop.example/g00644/impl.cycleTimes", "loop.example/g00644/impl.waitPattern"], apart := false, laid := [("loop.example/g00644/impl.waitPattern", laid_loop_example_g00644_impl_waitPattern), ("loop.example/g00644/impl.cycleTimes", laid_loop_example_g00644_impl_cycleTimes), ("loop.example/g00644/impl.psgBits", laid_loop_example_g00644_impl_psgBits)] }
def FnExactCyclesTimeSaid : Prop := fnExactCyclesTimeRow.holds Tryd.pinned (OpenSpec.ofChange fnExactCyclesTimeSpec)

/-- ITS FALSE NEIGHBOUR: 'it returns false'. Refute it at one input. -/
def fnExactCyclesTimeWrong : ChangeSpec := { name := "fnExactCyclesTime", vars := ["loop.example/g00644/impl.psgBits", "loop.example/g00644/impl.cycleTimes", "loop.example/g00644/impl.waitPattern"], fn := fun _ => fun
  | [d1, d2, g1, g2, g3] => { results := [.lit (.bool false)], args := [d1, d2], vars := [g1, g2, g3] }
  | _ => none }
def FnExactCyclesTimeWrongFalsely : Prop := fnExactCyclesTimeRow.holds Tryd.pinned (OpenSpec.ofChange fnExactCyclesTimeWrong)

/-- 'laws.FnExactPortValue': WHATEVER THE INPUT: true; the input reads as it did. -/
def fnExactPortValueSpec : ChangeSpec := { name := "fnExactPortValue", vars := ["loop.example/g00644/impl.psgBits", "loop.example/g00644/impl.fetchPattern"], fn := fun _ => fun
  | [d1, d2, g1, g2] => { results := [.lit (.bool true)], args := [d1, d2], vars := [g1, g2] }
  | _ => none }
def fnExactPortValueRow : OpenClaim := { program := "ytifcdojaocndhaadoor", sum := "0c4e0bccd78d71b089c22d984efa43380ef427d59b34906937b89c0d89e464bc", func := "loop.example/g00644/laws.FnExactPortValue", spec := "fnExactPortValue", unfollowed := true, recurses := true, named := ["loop.example/g00644/impl.psgBits", "loop.example/g00644/impl.fetchPattern"], apart := false, laid := [("loop.example/g00644/impl.fetchPattern", laid_loop_example_g00644_impl_fetchPattern), ("loop.example/g00644/impl.psgBits", laid_loop_example_g00644_impl_psgBits)] }
def FnExactPortValueSaid : Prop := fnExactPortValueRow.holds Tryd.pinned (OpenSpec.ofChange fnExactPortValueSpec)

/-- ITS FALSE NEIGHBOUR: 'it returns false'. Refute it at one input. -/
def fnExactPortValueWrong : ChangeSpec := { name := "fnExactPortValue", vars := ["loop.example/g00644/impl.psgBits", "loop.example/g00644/impl.fetchPattern"], fn := fun _ => fun
  | [d1, d2, g1, g2] => { results := [.lit (.bool false)], args := [d1, d2], vars := [g1, g2] }
  | _ => none }
def FnExactPortValueWrongFalsely : Prop := fnExactPortValueRow.holds Tryd.pinned (OpenSpec.ofChange fnExactPortValueWrong)

/-- 'laws.FnExactSameMachine': WHATEVER THE INPUT: true; the input reads as it did. -/
def fnExactSameMachineSpec : ChangeSpec := { name := "fnExactSameMachine", vars := ["loop.example/g00644/impl.psgBits"], fn := fun _ => fun
  | [d1, d2, g1] => { results := [.lit (.bool true)], args := [d1, d2], vars := [g1] }
  | _ => none }
def fnExactSameMachineRow : OpenClaim := { program := "ytifcdojaocndhaadoor", sum := "0c4e0bccd78d71b089c22d984efa43380ef427d59b34906937b89c0d89e464bc", func := "loop.example/g00644/laws.FnExactSameMachine", spec := "fnExactSameMachine", named := ["loop.example/g00644/impl.psgBits"], apart := false, laid := [("loop.example/g00644/impl.psgBits", laid_loop_example_g00644_impl_psgBits)] }
def FnExactSameMachineSaid : Prop := fnExactSameMachineRow.holds Tryd.pinned (OpenSpec.ofChange fnExactSameMachineSpec)

/-- ITS FALSE NEIGHBOUR: 'it returns false'. Refute it at one input. -/
def fnExactSameMachineWrong : ChangeSpec := { name := "fnExactSameMachine", vars := ["loop.example/g00644/impl.psgBits"], fn := fun _ => fun
  | [d1, d2, g1] => { results := [.lit (.bool false)], args := [d1, d2], vars := [g1] }
  | _ => none }
def FnExactSameMachineWrongFalsely : Prop := fnExactSameMachineRow.holds Tryd.pinned (OpenSpec.ofChange fnExactSameMachineWrong)

/- THE SECOND FORM. 'bulk': how many values and letters a reading holds, each counted each time it is reached (what is shared counts as often as it is met; a slice's spare places count too). A statement '..UptoSaid' is the law's where the arguments, and the package variables that the reading takes, are together of bulk at most 1048576: NARROWER than '..Said'. Prove '..Said' where nothing that the law and all that it calls make is longer than what came in: it says more and counts as full. Else prove '..UptoSaid'. A law counts once. -/
mutual
def uptoBulk {H : Type} : DataW H → Nat
  | .lit (.string bytes) => bytes.length + 1
  | .lit _ => 1
  | .nil => 1
  | .ptr d => uptoBulk d + 1
  | .slice elems spare => uptoBulkAll elems + uptoBulkAll spare + 1
  | .agg parts => uptoBulkAll parts + 1
  | .iface _ d => uptoBulk d + 1
  | .map entries => uptoBulkEntries entries + 1
  | .held _ => 1
def uptoBulkAll {H : Type} : List (DataW H) → Nat
  | [] => 0
  | d :: r => uptoBulk d + uptoBulkAll r
def uptoBulkEntries {H : Type} : List (Lit × DataW H) → Nat
  | [] => 0
  | x :: r => uptoBulkEntry x + uptoBulkEntries r
def uptoBulkEntry {H : Type} : Lit × DataW H → Nat
  | (.string bytes, d) => bytes.length + uptoBulk d + 1
  | (_, d) => uptoBulk d + 1
 end
def uptoSmall : (H : Type) → List (DataW H) → Bool := fun _ ds => decide (uptoBulkAll ds ≤ 1048576)
def OpenSpec.upto (s : _root_.Go.ChangeSpec) : _root_.Go.OpenSpec := { _root_.Go.OpenSpec.ofChange s with cond := some uptoSmall }

/-- 'laws.FnExactNewMachine', WHERE WHAT IT READS IS OF BULK AT MOST 1048576: true; the input reads as it did. -/
def fnExactNewMachineUptoRow : OpenClaim := { program := "ytifcdojaocndhaadoor", sum := "0c4e0bccd78d71b089c22d984efa43380ef427d59b34906937b89c0d89e464bc", func := "loop.example/g00644/laws.FnExactNewMachine", spec := "fnExactNewMachine", unfollowed := true, recurses := true, named := ["loop.example/g00644/impl.bitTimes", "loop.example/g00644/impl.psgBits"], apart := false, laid := [("loop.example/g00644/impl.psgBits", laid_loop_example_g00644_impl_psgBits), ("loop.example/g00644/impl.bitTimes", laid_loop_example_g00644_impl_bitTimes)], narrowed := true }
def FnExactNewMachineUptoSaid : Prop := fnExactNewMachineUptoRow.holds Tryd.pinned (OpenSpec.upto fnExactNewMachineSpec)

/-- 'laws.FnExactCyclesTime', WHERE WHAT IT READS IS OF BULK AT MOST 1048576: true; the input reads as it did. -/
def fnExactCyclesTimeUptoRow : OpenClaim := { program := "ytifcdojaocndhaadoor", sum := "0c4e0bccd78d71b089c22d984efa43380ef427d59b34906937b89c0d89e464bc", func := "loop.example/g00644/laws.FnExactCyclesTime", spec := "fnExactCyclesTime", named := ["loop.example/g00644/impl.psgBits", "loop.example/g00644/impl.cycleTimes", "loop.example/g00644/impl.waitPattern"], apart := false, laid := [("loop.example/g00644/impl.waitPattern", laid_loop_example_g00644_impl_waitPattern), ("loop.example/g00644/impl.cycleTimes", laid_loop_example_g00644_impl_cycleTimes), ("loop.example/g00644/impl.psgBits", laid_loop_example_g00644_impl_psgBits)], narrowed := true }
def FnExactCyclesTimeUptoSaid : Prop := fnExactCyclesTimeUptoRow.holds Tryd.pinned (OpenSpec.upto fnExactCyclesTimeSpec)

/-- 'laws.FnExactPortValue', WHERE WHAT IT READS IS OF BULK AT MOST 1048576: true; the input reads as it did. -/
def fnExactPortValueUptoRow : OpenClaim := { program := "ytifcdojaocndhaadoor", sum := "0c4e0bccd78d71b089c22d984efa43380ef427d59b34906937b89c0d89e464bc", func := "loop.example/g00644/laws.FnExactPortValue", spec := "fnExactPortValue", unfollowed := true, recurses := true, named := ["loop.example/g00644/impl.psgBits", "loop.example/g00644/impl.fetchPattern"], apart := false, laid := [("loop.example/g00644/impl.fetchPattern", laid_loop_example_g00644_impl_fetchPattern), ("loop.example/g00644/impl.psgBits", laid_loop_example_g00644_impl_psgBits)], narrowed := true }
def FnExactPortValueUptoSaid : Prop := fnExactPortValueUptoRow.holds Tryd.pinned (OpenSpec.upto fnExactPortValueSpec)

/-- 'laws.FnExactSameMachine', WHERE WHAT IT READS IS OF BULK AT MOST 1048576: true; the input reads as it did. -/
def fnExactSameMachineUptoRow : OpenClaim := { program := "ytifcdojaocndhaadoor", sum := "0c4e0bccd78d71b089c22d984efa43380ef427d59b34906937b89c0d89e464bc", func := "loop.example/g00644/laws.FnExactSameMachine", spec := "fnExactSameMachine", named := ["loop.example/g00644/impl.psgBits"], apart := false, laid := [("loop.example/g00644/impl.psgBits", laid_loop_example_g00644_impl_psgBits)], narrowed := true }
def FnExactSameMachineUptoSaid : Prop := fnExactSameMachineUptoRow.holds Tryd.pinned (OpenSpec.upto fnExactSameMachineSpec)

end Rows
end Go.Proofs.YtifcdojaocndhaaDoor
