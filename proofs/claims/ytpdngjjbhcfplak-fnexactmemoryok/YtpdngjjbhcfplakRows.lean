/-
  No cell of these rows narrows 'for every input' (looked for: loops, veiled, ifaces, maps, wideKeys, modest, calm, conditions, laid).
  DERIVED. THE GIVEN ROWS OF THIS SEAT. 4 by the template 'for every input the law returns true; each argument reads behind the call as it read before'; 0 by the template 'total and deterministic' (their statements: YtpdngjjbhcfplakTotals.lean).
  GIVEN WITH THE SEED: the statements are not yours to turn. If you find one false, say at which input.
  Laid BY PROGRAM, IN A SANDBOX (cutbox-rows.mjs): the forced cells as the released guide's own fill.sh prints them over the translation 229bdfe067b0b20d… (all of the seat's roots in one cut). By AI agents, Wed Nov 11 2026. No macro, syntax, notation, axiom, sorry.
-/
import Derived.Test.YtpdngjjbhcfplakChecked
import GoSem.Claim
import GoSem.ClaimJoined
import GoSem.ClaimMapViews
import Derived.JoinedTies
import Derived.KernelRfl
namespace Go.Proofs.Ytpdngjjbhcfplak
/- THE CELL 'sum', in the pinned program and in every row, IS THE sha256 OF THE DUMP (.gsa) THAT YtpdngjjbhcfplakProg.lean LOADS. Nothing in Lean hashes anything: it is a label: what it is worth is what the hold of that sum in a sandbox is worth. -/
noncomputable def Try.pinned : Pinned := { name := "ytpdngjjbhcfplak", sum := "229bdfe067b0b20dcaddffca1a7771b7a9e66d3a8002f401d720e5079077be7a", checked := Try.checked }
namespace Rows
def none {H : Type} : Left H := { results := [], args := [] }

/-- 'laws.FnExactCellOf': WHATEVER THE INPUT: true; the input reads as it did. -/
def fnExactCellOfSpec : ChangeSpec := { name := "fnExactCellOf", fn := fun _ => fun
  | [d1, d2] => { results := [.lit (.bool true)], args := [d1, d2] }
  | _ => none }
def fnExactCellOfRow : OpenClaim := { program := "ytpdngjjbhcfplak", sum := "229bdfe067b0b20dcaddffca1a7771b7a9e66d3a8002f401d720e5079077be7a", func := "loop.example/g00644/laws.FnExactCellOf", spec := "fnExactCellOf", apart := false }
def FnExactCellOfSaid : Prop := fnExactCellOfRow.holds Try.pinned (OpenSpec.ofChange fnExactCellOfSpec)

/-- ITS FALSE NEIGHBOUR: 'it returns false'. Refute it at one input. -/
def fnExactCellOfWrong : ChangeSpec := { name := "fnExactCellOf", fn := fun _ => fun
  | [d1, d2] => { results := [.lit (.bool false)], args := [d1, d2] }
  | _ => none }
def FnExactCellOfWrongFalsely : Prop := fnExactCellOfRow.holds Try.pinned (OpenSpec.ofChange fnExactCellOfWrong)

/-- 'laws.FnExactInWindow': WHATEVER THE INPUT: true; the input reads as it did. -/
def fnExactInWindowSpec : ChangeSpec := { name := "fnExactInWindow", fn := fun _ => fun
  | [d] => { results := [.lit (.bool true)], args := [d] }
  | _ => none }
def fnExactInWindowRow : OpenClaim := { program := "ytpdngjjbhcfplak", sum := "229bdfe067b0b20dcaddffca1a7771b7a9e66d3a8002f401d720e5079077be7a", func := "loop.example/g00644/laws.FnExactInWindow", spec := "fnExactInWindow", apart := false }
def FnExactInWindowSaid : Prop := fnExactInWindowRow.holds Try.pinned (OpenSpec.ofChange fnExactInWindowSpec)

/-- ITS FALSE NEIGHBOUR: 'it returns false'. Refute it at one input. -/
def fnExactInWindowWrong : ChangeSpec := { name := "fnExactInWindow", fn := fun _ => fun
  | [d] => { results := [.lit (.bool false)], args := [d] }
  | _ => none }
def FnExactInWindowWrongFalsely : Prop := fnExactInWindowRow.holds Try.pinned (OpenSpec.ofChange fnExactInWindowWrong)

/-- 'laws.FnExactNewMemory': WHATEVER THE INPUT: true; the input reads as it did. -/
def fnExactNewMemorySpec : ChangeSpec := { name := "fnExactNewMemory", fn := fun _ => fun
  | [d] => { results := [.lit (.bool true)], args := [d] }
  | _ => none }
def fnExactNewMemoryRow : OpenClaim := { program := "ytpdngjjbhcfplak", sum := "229bdfe067b0b20dcaddffca1a7771b7a9e66d3a8002f401d720e5079077be7a", func := "loop.example/g00644/laws.FnExactNewMemory", spec := "fnExactNewMemory", apart := false }
def FnExactNewMemorySaid : Prop := fnExactNewMemoryRow.holds Try.pinned (OpenSpec.ofChange fnExactNewMemorySpec)

/-- ITS FALSE NEIGHBOUR: 'it returns false'. Refute it at one input. -/
def fnExactNewMemoryWrong : ChangeSpec := { name := "fnExactNewMemory", fn := fun _ => fun
  | [d] => { results := [.lit (.bool false)], args := [d] }
  | _ => none }
def FnExactNewMemoryWrongFalsely : Prop := fnExactNewMemoryRow.holds Try.pinned (OpenSpec.ofChange fnExactNewMemoryWrong)

/-- 'laws.FnExactMemoryOK': WHATEVER THE INPUT: true; the input reads as it did. -/
def fnExactMemoryOKSpec : ChangeSpec := { name := "fnExactMemoryOK", fn := fun _ => fun
  | [d] => { results := [.lit (.bool true)], args := [d] }
  | _ => none }
def fnExactMemoryOKRow : OpenClaim := { program := "ytpdngjjbhcfplak", sum := "229bdfe067b0b20dcaddffca1a7771b7a9e66d3a8002f401d720e5079077be7a", func := "loop.example/g00644/laws.FnExactMemoryOK", spec := "fnExactMemoryOK", apart := false }
def FnExactMemoryOKSaid : Prop := fnExactMemoryOKRow.holds Try.pinned (OpenSpec.ofChange fnExactMemoryOKSpec)

/-- ITS FALSE NEIGHBOUR: 'it returns false'. Refute it at one input. -/
def fnExactMemoryOKWrong : ChangeSpec := { name := "fnExactMemoryOK", fn := fun _ => fun
  | [d] => { results := [.lit (.bool false)], args := [d] }
  | _ => none }
def FnExactMemoryOKWrongFalsely : Prop := fnExactMemoryOKRow.holds Try.pinned (OpenSpec.ofChange fnExactMemoryOKWrong)

/- THE SECOND FORM. 'bulk': how many values and letters a reading holds, each counted each time it is reached (what is shared counts as often as it is met; a slice's spare places count too). A statement '..UptoSaid' is the law's where the arguments, and the package variables that the reading takes, are together of bulk at most 1048576: NARROWER than '..Said'. Prove '..Said' where nothing that the law and all that it calls make is longer than what came in: it says more and counts as full. Else prove '..UptoSaid'. A law counts once. -/
mutual
def uptoBulk {H : Type} : DataW H → Nat
  | .lit (.string bytes) => bytes.length + 1
  | .lit _ => 1
  | .nil => 1
  | .ptr d => uptoBulk d + 1
  | .slice elems spare => uptoBulkAll elems + uptoBulkAll spare + 1
  | .agg parts => uptoBulkAll parts + 1
  | .iface _ d => uptoBulk d + 1
  | .map entries => uptoBulkEntries entries + 1
  | .held _ => 1
def uptoBulkAll {H : Type} : List (DataW H) → Nat
  | [] => 0
  | d :: r => uptoBulk d + uptoBulkAll r
def uptoBulkEntries {H : Type} : List (Lit × DataW H) → Nat
  | [] => 0
  | x :: r => uptoBulkEntry x + uptoBulkEntries r
def uptoBulkEntry {H : Type} : Lit × DataW H → Nat
  | (.string bytes, d) => bytes.length + uptoBulk d + 1
  | (_, d) => uptoBulk d + 1
 end
def uptoSmall : (H : Type) → List (DataW H) → Bool := fun _ ds => decide (uptoBulkAll ds ≤ 1048576)
def OpenSpec.upto (s : _root_.Go.ChangeSpec) : _root_.Go.OpenSpec := { _root_.Go.OpenSpec.ofChange s with cond := some uptoSmall }

/-- 'laws.FnExactCellOf', WHERE WHAT IT READS IS OF BULK AT MOST 1048576: true; the input reads as it did. -/
def fnExactCellOfUptoRow : OpenClaim := { program := "ytpdngjjbhcfplak", sum := "229bdfe067b0b20dcaddffca1a7771b7a9e66d3a8002f401d720e5079077be7a", func := "loop.example/g00644/laws.FnExactCellOf", spec := "fnExactCellOf", apart := false, narrowed := true }
def FnExactCellOfUptoSaid : Prop := fnExactCellOfUptoRow.holds Try.pinned (OpenSpec.upto fnExactCellOfSpec)

/-- 'laws.FnExactInWindow', WHERE WHAT IT READS IS OF BULK AT MOST 1048576: true; the input reads as it did. -/
def fnExactInWindowUptoRow : OpenClaim := { program := "ytpdngjjbhcfplak", sum := "229bdfe067b0b20dcaddffca1a7771b7a9e66d3a8002f401d720e5079077be7a", func := "loop.example/g00644/laws.FnExactInWindow", spec := "fnExactInWindow", apart := false, narrowed := true }
def FnExactInWindowUptoSaid : Prop := fnExactInWindowUptoRow.holds Try.pinned (OpenSpec.upto fnExactInWindowSpec)

/-- 'laws.FnExactNewMemory', WHERE WHAT IT READS IS OF BULK AT MOST 1048576: true; the input reads as it did. -/
def fnExactNewMemoryUptoRow : OpenClaim := { program := "ytpdngjjbhcfplak", sum := "229bdfe067b0b20dcaddffca1a7771b7a9e66d3a8002f401d720e5079077be7a", func := "loop.example/g00644/laws.FnExactNewMemory", spec := "fnExactNewMemory", apart := false, narrowed := true }
def FnExactNewMemoryUptoSaid : Prop := fnExactNewMemoryUptoRow.holds Try.pinned (OpenSpec.upto fnExactNewMemorySpec)

/-- 'laws.FnExactMemoryOK', WHERE WHAT IT READS IS OF BULK AT MOST 1048576: true; the input reads as it did. -/
def fnExactMemoryOKUptoRow : OpenClaim := { program := "ytpdngjjbhcfplak", sum := "229bdfe067b0b20dcaddffca1a7771b7a9e66d3a8002f401d720e5079077be7a", func := "loop.example/g00644/laws.FnExactMemoryOK", spec := "fnExactMemoryOK", apart := false, narrowed := true }
def FnExactMemoryOKUptoSaid : Prop := fnExactMemoryOKUptoRow.holds Try.pinned (OpenSpec.upto fnExactMemoryOKSpec)

end Rows
end Go.Proofs.Ytpdngjjbhcfplak
