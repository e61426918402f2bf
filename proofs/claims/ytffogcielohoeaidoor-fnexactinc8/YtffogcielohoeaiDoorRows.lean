/-
  NARROWER THAN 'FOR EVERY INPUT', by the rows' own cells (each row's printed sentence says how): FnExactAdd8: laid · FnExactSub8: laid · FnExactLogic8: laid · FnExactInc8: laid · FnExactDec8: laid.
  DERIVED. THE GIVEN ROWS OF THIS SEAT. 5 by the template 'for every input the law returns true; each argument reads behind the call as it read before'; 0 by the template 'total and deterministic' (their statements: YtffogcielohoeaiDoorTotals.lean).
  GIVEN WITH THE SEED: the statements are not yours to turn. If you find one false, say at which input.
  Laid BY PROGRAM, IN A SANDBOX (cutbox-rows.mjs): the forced cells as the released guide's own fill.sh prints them over the translation bcdd3c57430bc629… (all of the seat's roots in one cut). By AI agents, Wed Nov 11 2026. No macro, syntax, notation, axiom, sorry.
-/
import Derived.Test.YtffogcielohoeaiDoorChecked
import GoSem.Claim
import GoSem.ClaimJoined
import GoSem.ClaimMapViews
import Derived.JoinedTies
import Derived.KernelRfl
namespace Go.Proofs.YtffogcielohoeaiDoor
/- THE CELL 'sum', in the pinned program and in every row, IS THE sha256 OF THE DUMP (.gsa) THAT YtffogcielohoeaiDoorProg.lean LOADS. Nothing in Lean hashes anything: it is a label: what it is worth is what the hold of that sum in a sandbox is worth. -/
noncomputable def Tryd.pinned : Pinned := { name := "ytffogcielohoeaidoor", sum := "bcdd3c57430bc62965acd7d002d4c67711a4bb3c9cccbe73a9146ba11d5a33ec", checked := Tryd.checked }
namespace Rows
def none {H : Type} : Left H := { results := [], args := [] }

/- WHAT THE LISTED PACKAGE-LEVEL VARIABLES READ AS WHEN THE CALL BEGINS. Each datum BY PROGRAM (the guide's laid-datum.mjs) off the statement by which the dump's own 'gosem.cut.vars' lays the variable. In a bare row this is a premise. The card (YtffogcielohoeaiDoorCards.lean) ties it to the program's text. -/
def laid_loop_example_g00644_impl_copiedFlags {H : Type} : DataW H := .agg [.lit (.int .i64 128), .lit (.int .i64 32), .lit (.int .i64 8)]

/-- 'laws.FnExactAdd8': WHATEVER THE INPUT: true; the input reads as it did. -/
def fnExactAdd8Spec : ChangeSpec := { name := "fnExactAdd8", vars := ["loop.example/g00644/impl.copiedFlags"], fn := fun _ => fun
  | [d1, d2, d3, g1] => { results := [.lit (.bool true)], args := [d1, d2, d3], vars := [g1] }
  | _ => none }
def fnExactAdd8Row : OpenClaim := { program := "ytffogcielohoeaidoor", sum := "bcdd3c57430bc62965acd7d002d4c67711a4bb3c9cccbe73a9146ba11d5a33ec", func := "loop.example/g00644/laws.FnExactAdd8", spec := "fnExactAdd8", unfollowed := true, recurses := true, named := ["loop.example/g00644/impl.copiedFlags"], apart := false, laid := [("loop.example/g00644/impl.copiedFlags", laid_loop_example_g00644_impl_copiedFlags)] }
def FnExactAdd8Said : Prop := fnExactAdd8Row.holds Tryd.pinned (OpenSpec.ofChange fnExactAdd8Spec)

/-- ITS FALSE NEIGHBOUR: 'it returns false'. Refute it at one input. -/
def fnExactAdd8Wrong : ChangeSpec := { name := "fnExactAdd8", vars := ["loop.example/g00644/impl.copiedFlags"], fn := fun _ => fun
  | [d1, d2, d3, g1] => { results := [.lit (.bool false)], args := [d1, d2, d3], vars := [g1] }
  | _ => none }
def FnExactAdd8WrongFalsely : Prop := fnExactAdd8Row.holds Tryd.pinned (OpenSpec.ofChange fnExactAdd8Wrong)

/-- 'laws.FnExactSub8': WHATEVER THE INPUT: true; the input reads as it did. -/
def fnExactSub8Spec : ChangeSpec := { name := "fnExactSub8", vars := ["loop.example/g00644/impl.copiedFlags"], fn := fun _ => fun
  | [d1, d2, d3, g1] => { results := [.lit (.bool true)], args := [d1, d2, d3], vars := [g1] }
  | _ => none }
def fnExactSub8Row : OpenClaim := { program := "ytffogcielohoeaidoor", sum := "bcdd3c57430bc62965acd7d002d4c67711a4bb3c9cccbe73a9146ba11d5a33ec", func := "loop.example/g00644/laws.FnExactSub8", spec := "fnExactSub8", unfollowed := true, recurses := true, named := ["loop.example/g00644/impl.copiedFlags"], apart := false, laid := [("loop.example/g00644/impl.copiedFlags", laid_loop_example_g00644_impl_copiedFlags)] }
def FnExactSub8Said : Prop := fnExactSub8Row.holds Tryd.pinned (OpenSpec.ofChange fnExactSub8Spec)

/-- ITS FALSE NEIGHBOUR: 'it returns false'. Refute it at one input. -/
def fnExactSub8Wrong : ChangeSpec := { name := "fnExactSub8", vars := ["loop.example/g00644/impl.copiedFlags"], fn := fun _ => fun
  | [d1, d2, d3, g1] => { results := [.lit (.bool false)], args := [d1, d2, d3], vars := [g1] }
  | _ => none }
def FnExactSub8WrongFalsely : Prop := fnExactSub8Row.holds Tryd.pinned (OpenSpec.ofChange fnExactSub8Wrong)

/-- 'laws.FnExactLogic8': WHATEVER THE INPUT: true; the input reads as it did. -/
def fnExactLogic8Spec : ChangeSpec := { name := "fnExactLogic8", vars := ["loop.example/g00644/impl.copiedFlags"], fn := fun _ => fun
  | [d1, d2, d3, g1] => { results := [.lit (.bool true)], args := [d1, d2, d3], vars := [g1] }
  | _ => none }
def fnExactLogic8Row : OpenClaim := { program := "ytffogcielohoeaidoor", sum := "bcdd3c57430bc62965acd7d002d4c67711a4bb3c9cccbe73a9146ba11d5a33ec", func := "loop.example/g00644/laws.FnExactLogic8", spec := "fnExactLogic8", unfollowed := true, recurses := true, named := ["loop.example/g00644/impl.copiedFlags"], apart := false, laid := [("loop.example/g00644/impl.copiedFlags", laid_loop_example_g00644_impl_copiedFlags)] }
def FnExactLogic8Said : Prop := fnExactLogic8Row.holds Tryd.pinned (OpenSpec.ofChange fnExactLogic8Spec)

/-- ITS FALSE NEIGHBOUR: 'it returns false'. Refute it at one input. -/
def fnExactLogic8Wrong : ChangeSpec := { name := "fnExactLogic8", vars := ["loop.example/g00644/impl.copiedFlags"], fn := fun _ => fun
  | [d1, d2, d3, g1] => { results := [.lit (.bool false)], args := [d1, d2, d3], vars := [g1] }
  | _ => none }
def FnExactLogic8WrongFalsely : Prop := fnExactLogic8Row.holds Tryd.pinned (OpenSpec.ofChange fnExactLogic8Wrong)

/-- 'laws.FnExactInc8': WHATEVER THE INPUT: true; the input reads as it did. -/
def fnExactInc8Spec : ChangeSpec := { name := "fnExactInc8", vars := ["loop.example/g00644/impl.copiedFlags"], fn := fun _ => fun
  | [d1, d2, g1] => { results := [.lit (.bool true)], args := [d1, d2], vars := [g1] }
  | _ => none }
def fnExactInc8Row : OpenClaim := { program := "ytffogcielohoeaidoor", sum := "bcdd3c57430bc62965acd7d002d4c67711a4bb3c9cccbe73a9146ba11d5a33ec", func := "loop.example/g00644/laws.FnExactInc8", spec := "fnExactInc8", unfollowed := true, recurses := true, named := ["loop.example/g00644/impl.copiedFlags"], apart := false, laid := [("loop.example/g00644/impl.copiedFlags", laid_loop_example_g00644_impl_copiedFlags)] }
def FnExactInc8Said : Prop := fnExactInc8Row.holds Tryd.pinned (OpenSpec.ofChange fnExactInc8Spec)

/-- ITS FALSE NEIGHBOUR: 'it returns false'. Refute it at one input. -/
def fnExactInc8Wrong : ChangeSpec := { name := "fnExactInc8", vars := ["loop.example/g00644/impl.copiedFlags"], fn := fun _ => fun
  | [d1, d2, g1] => { results := [.lit (.bool false)], args := [d1, d2], vars := [g1] }
  | _ => none }
def FnExactInc8WrongFalsely : Prop := fnExactInc8Row.holds Tryd.pinned (OpenSpec.ofChange fnExactInc8Wrong)

/-- 'laws.FnExactDec8': WHATEVER THE INPUT: true; the input reads as it did. -/
def fnExactDec8Spec : ChangeSpec := { name := "fnExactDec8", vars := ["loop.example/g00644/impl.copiedFlags"], fn := fun _ => fun
  | [d1, d2, g1] => { results := [.lit (.bool true)], args := [d1, d2], vars := [g1] }
  | _ => none }
def fnExactDec8Row : OpenClaim := { program := "ytffogcielohoeaidoor", sum := "bcdd3c57430bc62965acd7d002d4c67711a4bb3c9cccbe73a9146ba11d5a33ec", func := "loop.example/g00644/laws.FnExactDec8", spec := "fnExactDec8", unfollowed := true, recurses := true, named := ["loop.example/g00644/impl.copiedFlags"], apart := false, laid := [("loop.example/g00644/impl.copiedFlags", laid_loop_example_g00644_impl_copiedFlags)] }
def FnExactDec8Said : Prop := fnExactDec8Row.holds Tryd.pinned (OpenSpec.ofChange fnExactDec8Spec)

/-- ITS FALSE NEIGHBOUR: 'it returns false'. Refute it at one input. -/
def fnExactDec8Wrong : ChangeSpec := { name := "fnExactDec8", vars := ["loop.example/g00644/impl.copiedFlags"], fn := fun _ => fun
  | [d1, d2, g1] => { results := [.lit (.bool false)], args := [d1, d2], vars := [g1] }
  | _ => none }
def FnExactDec8WrongFalsely : Prop := fnExactDec8Row.holds Tryd.pinned (OpenSpec.ofChange fnExactDec8Wrong)

/- THE SECOND FORM. 'bulk': how many values and letters a reading holds, each counted each time it is reached (what is shared counts as often as it is met; a slice's spare places count too). A statement '..UptoSaid' is the law's where the arguments, and the package variables that the reading takes, are together of bulk at most 1048576: NARROWER than '..Said'. Prove '..Said' where nothing that the law and all that it calls make is longer than what came in: it says more and counts as full. Else prove '..UptoSaid'. A law counts once. -/
mutual
def uptoBulk {H : Type} : DataW H → Nat
  | .lit (.string bytes) => bytes.length + 1
  | .lit _ => 1
  | .nil => 1
  | .ptr d => uptoBulk d + 1
  | .slice elems spare => uptoBulkAll elems + uptoBulkAll spare + 1
  | .agg parts => uptoBulkAll parts + 1
  | .iface _ d => uptoBulk d + 1
  | .map entries => uptoBulkEntries entries + 1
  | .held _ => 1
def uptoBulkAll {H : Type} : List (DataW H) → Nat
  | [] => 0
  | d :: r => uptoBulk d + uptoBulkAll r
def uptoBulkEntries {H : Type} : List (Lit × DataW H) → Nat
  | [] => 0
  | x :: r => uptoBulkEntry x + uptoBulkEntries r
def uptoBulkEntry {H : Type} : Lit × DataW H → Nat
  | (.string bytes, d) => bytes.length + uptoBulk d + 1
  | (_, d) => uptoBulk d + 1
 end
def uptoSmall : (H : Type) → List (DataW H) → Bool := fun _ ds => decide (uptoBulkAll ds ≤ 1048576)
def OpenSpec.upto (s : _root_.Go.ChangeSpec) : _root_.Go.OpenSpec := { _root_.Go.OpenSpec.ofChange s with cond := some uptoSmall }

/-- 'laws.FnExactAdd8', WHERE WHAT IT READS IS OF BULK AT MOST 1048576: true; the input reads as it did. -/
def fnExactAdd8UptoRow : OpenClaim := { program := "ytffogcielohoeaidoor", sum := "bcdd3c57430bc62965acd7d002d4c67711a4bb3c9cccbe73a9146ba11d5a33ec", func := "loop.example/g00644/laws.FnExactAdd8", spec := "fnExactAdd8", unfollowed := true, recurses := true, named := ["loop.example/g00644/impl.copiedFlags"], apart := false, laid := [("loop.example/g00644/impl.copiedFlags", laid_loop_example_g00644_impl_copiedFlags)], narrowed := true }
def FnExactAdd8UptoSaid : Prop := fnExactAdd8UptoRow.holds Tryd.pinned (OpenSpec.upto fnExactAdd8Spec)

/-- 'laws.FnExactSub8', WHERE WHAT IT READS IS OF BULK AT MOST 1048576: true; the input reads as it did. -/
def fnExactSub8UptoRow : OpenClaim := { program := "ytffogcielohoeaidoor", sum := "bcdd3c57430bc62965acd7d002d4c67711a4bb3c9cccbe73a9146ba11d5a33ec", func := "loop.example/g00644/laws.FnExactSub8", spec := "fnExactSub8", unfollowed := true, recurses := true, named := ["loop.example/g00644/impl.copiedFlags"], apart := false, laid := [("loop.example/g00644/impl.copiedFlags", laid_loop_example_g00644_impl_copiedFlags)], narrowed := true }
def FnExactSub8UptoSaid : Prop := fnExactSub8UptoRow.holds Tryd.pinned (OpenSpec.upto fnExactSub8Spec)

/-- 'laws.FnExactLogic8', WHERE WHAT IT READS IS OF BULK AT MOST 1048576: true; the input reads as it did. -/
def fnExactLogic8UptoRow : OpenClaim := { program := "ytffogcielohoeaidoor", sum := "bcdd3c57430bc62965acd7d002d4c67711a4bb3c9cccbe73a9146ba11d5a33ec", func := "loop.example/g00644/laws.FnExactLogic8", spec := "fnExactLogic8", unfollowed := true, recurses := true, named := ["loop.example/g00644/impl.copiedFlags"], apart := false, laid := [("loop.example/g00644/impl.copiedFlags", laid_loop_example_g00644_impl_copiedFlags)], narrowed := true }
def FnExactLogic8UptoSaid : Prop := fnExactLogic8UptoRow.holds Tryd.pinned (OpenSpec.upto fnExactLogic8Spec)

/-- 'laws.FnExactInc8', WHERE WHAT IT READS IS OF BULK AT MOST 1048576: true; the input reads as it did. -/
def fnExactInc8UptoRow : OpenClaim := { program := "ytffogcielohoeaidoor", sum := "bcdd3c57430bc62965acd7d002d4c67711a4bb3c9cccbe73a9146ba11d5a33ec", func := "loop.example/g00644/laws.FnExactInc8", spec := "fnExactInc8", unfollowed := true, recurses := true, named := ["loop.example/g00644/impl.copiedFlags"], apart := false, laid := [("loop.example/g00644/impl.copiedFlags", laid_loop_example_g00644_impl_copiedFlags)], narrowed := true }
def FnExactInc8UptoSaid : Prop := fnExactInc8UptoRow.holds Tryd.pinned (OpenSpec.upto fnExactInc8Spec)

/-- 'laws.FnExactDec8', WHERE WHAT IT READS IS OF BULK AT MOST 1048576: true; the input reads as it did. -/
def fnExactDec8UptoRow : OpenClaim := { program := "ytffogcielohoeaidoor", sum := "bcdd3c57430bc62965acd7d002d4c67711a4bb3c9cccbe73a9146ba11d5a33ec", func := "loop.example/g00644/laws.FnExactDec8", spec := "fnExactDec8", unfollowed := true, recurses := true, named := ["loop.example/g00644/impl.copiedFlags"], apart := false, laid := [("loop.example/g00644/impl.copiedFlags", laid_loop_example_g00644_impl_copiedFlags)], narrowed := true }
def FnExactDec8UptoSaid : Prop := fnExactDec8UptoRow.holds Tryd.pinned (OpenSpec.upto fnExactDec8Spec)

end Rows
end Go.Proofs.YtffogcielohoeaiDoor
