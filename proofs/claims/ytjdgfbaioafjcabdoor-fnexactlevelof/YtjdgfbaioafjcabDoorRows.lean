/-
  NARROWER THAN 'FOR EVERY INPUT', by the rows' own cells (each row's printed sentence says how): FnExactWriteReg: laid · FnExactReadReg: laid · FnExactStepPsg: laid · FnExactLevelOf: laid.
  DERIVED. THE GIVEN ROWS OF THIS SEAT. 4 by the template 'for every input the law returns true; each argument reads behind the call as it read before'; 0 by the template 'total and deterministic' (their statements: YtjdgfbaioafjcabDoorTotals.lean).
  GIVEN WITH THE SEED: the statements are not yours to turn. If you find one false, say at which input.
  Laid BY PROGRAM, IN A SANDBOX (cutbox-rows.mjs): the forced cells as the released guide's own fill.sh prints them over the translation 5255c33d455266c0… (all of the seat's roots in one cut). By AI agents, Wed Nov 11 2026. No macro, syntax, notation, axiom, sorry.
-/
import Derived.Test.YtjdgfbaioafjcabDoorChecked
import GoSem.Claim
import GoSem.ClaimJoined
import GoSem.ClaimMapViews
import Derived.JoinedTies
import Derived.KernelRfl
namespace Go.Proofs.YtjdgfbaioafjcabDoor
/- THE CELL 'sum', in the pinned program and in every row, IS THE sha256 OF THE DUMP (.gsa) THAT YtjdgfbaioafjcabDoorProg.lean LOADS. Nothing in Lean hashes anything: it is a label: what it is worth is what the hold of that sum in a sandbox is worth. -/
noncomputable def Tryd.pinned : Pinned := { name := "ytjdgfbaioafjcabdoor", sum := "5255c33d455266c0a33c372f1c80a531247addf6bb47abca9537fc09b4747448", checked := Tryd.checked }
namespace Rows
def none {H : Type} : Left H := { results := [], args := [] }

/- WHAT THE LISTED PACKAGE-LEVEL VARIABLES READ AS WHEN THE CALL BEGINS. Each datum BY PROGRAM (the guide's laid-datum.mjs) off the statement by which the dump's own 'gosem.cut.vars' lays the variable. In a bare row this is a premise. The card (YtjdgfbaioafjcabDoorCards.lean) ties it to the program's text. -/
def laid_loop_example_g00644_impl_psgBits {H : Type} : DataW H := .agg [.lit (.int .i64 255), .lit (.int .i64 255), .lit (.int .i64 31), .lit (.int .i64 15), .lit (.int .i64 31), .lit (.int .i64 31), .lit (.int .i64 255), .lit (.int .i64 3)]

/-- 'laws.FnExactWriteReg': WHATEVER THE INPUT: true; the input reads as it did. -/
def fnExactWriteRegSpec : ChangeSpec := { name := "fnExactWriteReg", vars := ["loop.example/g00644/impl.psgBits"], fn := fun _ => fun
  | [d1, d2, g1] => { results := [.lit (.bool true)], args := [d1, d2], vars := [g1] }
  | _ => none }
def fnExactWriteRegRow : OpenClaim := { program := "ytjdgfbaioafjcabdoor", sum := "5255c33d455266c0a33c372f1c80a531247addf6bb47abca9537fc09b4747448", func := "loop.example/g00644/laws.FnExactWriteReg", spec := "fnExactWriteReg", named := ["loop.example/g00644/impl.psgBits"], apart := false, laid := [("loop.example/g00644/impl.psgBits", laid_loop_example_g00644_impl_psgBits)] }
def FnExactWriteRegSaid : Prop := fnExactWriteRegRow.holds Tryd.pinned (OpenSpec.ofChange fnExactWriteRegSpec)

/-- ITS FALSE NEIGHBOUR: 'it returns false'. Refute it at one input. -/
def fnExactWriteRegWrong : ChangeSpec := { name := "fnExactWriteReg", vars := ["loop.example/g00644/impl.psgBits"], fn := fun _ => fun
  | [d1, d2, g1] => { results := [.lit (.bool false)], args := [d1, d2], vars := [g1] }
  | _ => none }
def FnExactWriteRegWrongFalsely : Prop := fnExactWriteRegRow.holds Tryd.pinned (OpenSpec.ofChange fnExactWriteRegWrong)

/-- 'laws.FnExactReadReg': WHATEVER THE INPUT: true; the input reads as it did. -/
def fnExactReadRegSpec : ChangeSpec := { name := "fnExactReadReg", vars := ["loop.example/g00644/impl.psgBits"], fn := fun _ => fun
  | [d, g1] => { results := [.lit (.bool true)], args := [d], vars := [g1] }
  | _ => none }
def fnExactReadRegRow : OpenClaim := { program := "ytjdgfbaioafjcabdoor", sum := "5255c33d455266c0a33c372f1c80a531247addf6bb47abca9537fc09b4747448", func := "loop.example/g00644/laws.FnExactReadReg", spec := "fnExactReadReg", named := ["loop.example/g00644/impl.psgBits"], apart := false, laid := [("loop.example/g00644/impl.psgBits", laid_loop_example_g00644_impl_psgBits)] }
def FnExactReadRegSaid : Prop := fnExactReadRegRow.holds Tryd.pinned (OpenSpec.ofChange fnExactReadRegSpec)

/-- ITS FALSE NEIGHBOUR: 'it returns false'. Refute it at one input. -/
def fnExactReadRegWrong : ChangeSpec := { name := "fnExactReadReg", vars := ["loop.example/g00644/impl.psgBits"], fn := fun _ => fun
  | [d, g1] => { results := [.lit (.bool false)], args := [d], vars := [g1] }
  | _ => none }
def FnExactReadRegWrongFalsely : Prop := fnExactReadRegRow.holds Tryd.pinned (OpenSpec.ofChange fnExactReadRegWrong)

/-- 'laws.FnExactStepPsg': WHATEVER THE INPUT: true; the input reads as it did. -/
def fnExactStepPsgSpec : ChangeSpec := { name := "fnExactStepPsg", vars := ["loop.example/g00644/impl.psgBits"], fn := fun _ => fun
  | [d1, d2, g1] => { results := [.lit (.bool true)], args := [d1, d2], vars := [g1] }
  | _ => none }
def fnExactStepPsgRow : OpenClaim := { program := "ytjdgfbaioafjcabdoor", sum := "5255c33d455266c0a33c372f1c80a531247addf6bb47abca9537fc09b4747448", func := "loop.example/g00644/laws.FnExactStepPsg", spec := "fnExactStepPsg", unfollowed := true, recurses := true, named := ["loop.example/g00644/impl.psgBits"], apart := false, laid := [("loop.example/g00644/impl.psgBits", laid_loop_example_g00644_impl_psgBits)] }
def FnExactStepPsgSaid : Prop := fnExactStepPsgRow.holds Tryd.pinned (OpenSpec.ofChange fnExactStepPsgSpec)

/-- ITS FALSE NEIGHBOUR: 'it returns false'. Refute it at one input. -/
def fnExactStepPsgWrong : ChangeSpec := { name := "fnExactStepPsg", vars := ["loop.example/g00644/impl.psgBits"], fn := fun _ => fun
  | [d1, d2, g1] => { results := [.lit (.bool false)], args := [d1, d2], vars := [g1] }
  | _ => none }
def FnExactStepPsgWrongFalsely : Prop := fnExactStepPsgRow.holds Tryd.pinned (OpenSpec.ofChange fnExactStepPsgWrong)

/-- 'laws.FnExactLevelOf': WHATEVER THE INPUT: true; the input reads as it did. -/
def fnExactLevelOfSpec : ChangeSpec := { name := "fnExactLevelOf", vars := ["loop.example/g00644/impl.psgBits"], fn := fun _ => fun
  | [d, g1] => { results := [.lit (.bool true)], args := [d], vars := [g1] }
  | _ => none }
def fnExactLevelOfRow : OpenClaim := { program := "ytjdgfbaioafjcabdoor", sum := "5255c33d455266c0a33c372f1c80a531247addf6bb47abca9537fc09b4747448", func := "loop.example/g00644/laws.FnExactLevelOf", spec := "fnExactLevelOf", named := ["loop.example/g00644/impl.psgBits"], apart := false, laid := [("loop.example/g00644/impl.psgBits", laid_loop_example_g00644_impl_psgBits)] }
def FnExactLevelOfSaid : Prop := fnExactLevelOfRow.holds Tryd.pinned (OpenSpec.ofChange fnExactLevelOfSpec)

/-- ITS FALSE NEIGHBOUR: 'it returns false'. Refute it at one input. -/
def fnExactLevelOfWrong : ChangeSpec := { name := "fnExactLevelOf", vars := ["loop.example/g00644/impl.psgBits"], fn := fun _ => fun
  | [d, g1] => { results := [.lit (.bool false)], args := [d], vars := [g1] }
  | _ => none }
def FnExactLevelOfWrongFalsely : Prop := fnExactLevelOfRow.holds Tryd.pinned (OpenSpec.ofChange fnExactLevelOfWrong)

/- THE SECOND FORM. 'bulk': how many values and letters a reading holds, each counted each time it is reached (what is shared counts as often as it is met; a slice's spare places count too). A statement '..UptoSaid' is the law's where the arguments, and the package variables that the reading takes, are together of bulk at most 1048576: NARROWER than '..Said'. Prove '..Said' where nothing that the law and all that it calls make is longer than what came in: it says more and counts as full. Else prove '..UptoSaid'. A law counts once. -/
mutual
def uptoBulk {H : Type} : DataW H → Nat
  | .lit (.string bytes) => bytes.length + 1
  | .lit _ => 1
  | .nil => 1
  | .ptr d => uptoBulk d + 1
  | .slice elems spare => uptoBulkAll elems + uptoBulkAll spare + 1
  | .agg parts => uptoBulkAll parts + 1
  | .iface _ d => uptoBulk d + 1
  | .map entries => uptoBulkEntries entries + 1
  | .held _ => 1
def uptoBulkAll {H : Type} : List (DataW H) → Nat
  | [] => 0
  | d :: r => uptoBulk d + uptoBulkAll r
def uptoBulkEntries {H : Type} : List (Lit × DataW H) → Nat
  | [] => 0
  | x :: r => uptoBulkEntry x + uptoBulkEntries r
def uptoBulkEntry {H : Type} : Lit × DataW H → Nat
  | (.string bytes, d) => bytes.length + uptoBulk d + 1
  | (_, d) => uptoBulk d + 1
 end
def uptoSmall : (H : Type) → List (DataW H) → Bool := fun _ ds => decide (uptoBulkAll ds ≤ 1048576)
def OpenSpec.upto (s : _root_.Go.ChangeSpec) : _root_.Go.OpenSpec := { _root_.Go.OpenSpec.ofChange s with cond := some uptoSmall }

/-- 'laws.FnExactWriteReg', WHERE WHAT IT READS IS OF BULK AT MOST 1048576: true; the input reads as it did. -/
def fnExactWriteRegUptoRow : OpenClaim := { program := "ytjdgfbaioafjcabdoor", sum := "5255c33d455266c0a33c372f1c80a531247addf6bb47abca9537fc09b4747448", func := "loop.example/g00644/laws.FnExactWriteReg", spec := "fnExactWriteReg", named := ["loop.example/g00644/impl.psgBits"], apart := false, laid := [("loop.example/g00644/impl.psgBits", laid_loop_example_g00644_impl_psgBits)], narrowed := true }
def FnExactWriteRegUptoSaid : Prop := fnExactWriteRegUptoRow.holds Tryd.pinned (OpenSpec.upto fnExactWriteRegSpec)

/-- 'laws.FnExactReadReg', WHERE WHAT IT READS IS OF BULK AT MOST 1048576: true; the input reads as it did. -/
def fnExactReadRegUptoRow : OpenClaim := { program := "ytjdgfbaioafjcabdoor", sum := "5255c33d455266c0a33c372f1c80a531247addf6bb47abca9537fc09b4747448", func := "loop.example/g00644/laws.FnExactReadReg", spec := "fnExactReadReg", named := ["loop.example/g00644/impl.psgBits"], apart := false, laid := [("loop.example/g00644/impl.psgBits", laid_loop_example_g00644_impl_psgBits)], narrowed := true }
def FnExactReadRegUptoSaid : Prop := fnExactReadRegUptoRow.holds Tryd.pinned (OpenSpec.upto fnExactReadRegSpec)

/-- 'laws.FnExactStepPsg', WHERE WHAT IT READS IS OF BULK AT MOST 1048576: true; the input reads as it did. -/
def fnExactStepPsgUptoRow : OpenClaim := { program := "ytjdgfbaioafjcabdoor", sum := "5255c33d455266c0a33c372f1c80a531247addf6bb47abca9537fc09b4747448", func := "loop.example/g00644/laws.FnExactStepPsg", spec := "fnExactStepPsg", unfollowed := true, recurses := true, named := ["loop.example/g00644/impl.psgBits"], apart := false, laid := [("loop.example/g00644/impl.psgBits", laid_loop_example_g00644_impl_psgBits)], narrowed := true }
def FnExactStepPsgUptoSaid : Prop := fnExactStepPsgUptoRow.holds Tryd.pinned (OpenSpec.upto fnExactStepPsgSpec)

/-- 'laws.FnExactLevelOf', WHERE WHAT IT READS IS OF BULK AT MOST 1048576: true; the input reads as it did. -/
def fnExactLevelOfUptoRow : OpenClaim := { program := "ytjdgfbaioafjcabdoor", sum := "5255c33d455266c0a33c372f1c80a531247addf6bb47abca9537fc09b4747448", func := "loop.example/g00644/laws.FnExactLevelOf", spec := "fnExactLevelOf", named := ["loop.example/g00644/impl.psgBits"], apart := false, laid := [("loop.example/g00644/impl.psgBits", laid_loop_example_g00644_impl_psgBits)], narrowed := true }
def FnExactLevelOfUptoSaid : Prop := fnExactLevelOfUptoRow.holds Tryd.pinned (OpenSpec.upto fnExactLevelOfSpec)

end Rows
end Go.Proofs.YtjdgfbaioafjcabDoor
