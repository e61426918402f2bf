/-
  No cell of these rows narrows 'for every input' (looked for: loops, veiled, ifaces, maps, wideKeys, modest, calm, conditions, laid).
  DERIVED. THE GIVEN ROWS OF THIS SEAT. 6 by the template 'for every input the law returns true; each argument reads behind the call as it read before'; 0 by the template 'total and deterministic' (their statements: YtpdngjjbhcfplalTotals.lean).
  GIVEN WITH THE SEED: the statements are not yours to turn. If you find one false, say at which input.
  Laid BY PROGRAM, IN A SANDBOX (cutbox-rows.mjs): the forced cells as the released guide's own fill.sh prints them over the translation f2641e17412da010… (all of the seat's roots in one cut). By AI agents, Wed Nov 11 2026. No macro, syntax, notation, axiom, sorry.
-/
import Derived.Test.YtpdngjjbhcfplalChecked
import GoSem.Claim
import GoSem.ClaimJoined
import GoSem.ClaimMapViews
import Derived.JoinedTies
import Derived.KernelRfl
namespace Go.Proofs.Ytpdngjjbhcfplal
/- THE CELL 'sum', in the pinned program and in every row, IS THE sha256 OF THE DUMP (.gsa) THAT YtpdngjjbhcfplalProg.lean LOADS. Nothing in Lean hashes anything: it is a label: what it is worth is what the hold of that sum in a sandbox is worth. -/
noncomputable def Try.pinned : Pinned := { name := "ytpdngjjbhcfplal", sum := "f2641e17412da01018af2bbf2bec83ee620f9d60a5a8433dac4a238f28b31729", checked := Try.checked }
namespace Rows
def none {H : Type} : Left H := { results := [], args := [] }

/-- 'laws.FnExactWhereIs': WHATEVER THE INPUT: true; the input reads as it did. -/
def fnExactWhereIsSpec : ChangeSpec := { name := "fnExactWhereIs", fn := fun _ => fun
  | [d1, d2] => { results := [.lit (.bool true)], args := [d1, d2] }
  | _ => none }
def fnExactWhereIsRow : OpenClaim := { program := "ytpdngjjbhcfplal", sum := "f2641e17412da01018af2bbf2bec83ee620f9d60a5a8433dac4a238f28b31729", func := "loop.example/g00644/laws.FnExactWhereIs", spec := "fnExactWhereIs", apart := false }
def FnExactWhereIsSaid : Prop := fnExactWhereIsRow.holds Try.pinned (OpenSpec.ofChange fnExactWhereIsSpec)

/-- ITS FALSE NEIGHBOUR: 'it returns false'. Refute it at one input. -/
def fnExactWhereIsWrong : ChangeSpec := { name := "fnExactWhereIs", fn := fun _ => fun
  | [d1, d2] => { results := [.lit (.bool false)], args := [d1, d2] }
  | _ => none }
def FnExactWhereIsWrongFalsely : Prop := fnExactWhereIsRow.holds Try.pinned (OpenSpec.ofChange fnExactWhereIsWrong)

/-- 'laws.FnExactPeekAt': WHATEVER THE INPUT: true; the input reads as it did. -/
def fnExactPeekAtSpec : ChangeSpec := { name := "fnExactPeekAt", fn := fun _ => fun
  | [d1, d2] => { results := [.lit (.bool true)], args := [d1, d2] }
  | _ => none }
def fnExactPeekAtRow : OpenClaim := { program := "ytpdngjjbhcfplal", sum := "f2641e17412da01018af2bbf2bec83ee620f9d60a5a8433dac4a238f28b31729", func := "loop.example/g00644/laws.FnExactPeekAt", spec := "fnExactPeekAt", apart := false }
def FnExactPeekAtSaid : Prop := fnExactPeekAtRow.holds Try.pinned (OpenSpec.ofChange fnExactPeekAtSpec)

/-- ITS FALSE NEIGHBOUR: 'it returns false'. Refute it at one input. -/
def fnExactPeekAtWrong : ChangeSpec := { name := "fnExactPeekAt", fn := fun _ => fun
  | [d1, d2] => { results := [.lit (.bool false)], args := [d1, d2] }
  | _ => none }
def FnExactPeekAtWrongFalsely : Prop := fnExactPeekAtRow.holds Try.pinned (OpenSpec.ofChange fnExactPeekAtWrong)

/-- 'laws.FnExactPokeAt': WHATEVER THE INPUT: true; the input reads as it did. -/
def fnExactPokeAtSpec : ChangeSpec := { name := "fnExactPokeAt", fn := fun _ => fun
  | [d1, d2, d3] => { results := [.lit (.bool true)], args := [d1, d2, d3] }
  | _ => none }
def fnExactPokeAtRow : OpenClaim := { program := "ytpdngjjbhcfplal", sum := "f2641e17412da01018af2bbf2bec83ee620f9d60a5a8433dac4a238f28b31729", func := "loop.example/g00644/laws.FnExactPokeAt", spec := "fnExactPokeAt", apart := false }
def FnExactPokeAtSaid : Prop := fnExactPokeAtRow.holds Try.pinned (OpenSpec.ofChange fnExactPokeAtSpec)

/-- ITS FALSE NEIGHBOUR: 'it returns false'. Refute it at one input. -/
def fnExactPokeAtWrong : ChangeSpec := { name := "fnExactPokeAt", fn := fun _ => fun
  | [d1, d2, d3] => { results := [.lit (.bool false)], args := [d1, d2, d3] }
  | _ => none }
def FnExactPokeAtWrongFalsely : Prop := fnExactPokeAtRow.holds Try.pinned (OpenSpec.ofChange fnExactPokeAtWrong)

/-- 'laws.FnExactPageTo': WHATEVER THE INPUT: true; the input reads as it did. -/
def fnExactPageToSpec : ChangeSpec := { name := "fnExactPageTo", fn := fun _ => fun
  | [d1, d2] => { results := [.lit (.bool true)], args := [d1, d2] }
  | _ => none }
def fnExactPageToRow : OpenClaim := { program := "ytpdngjjbhcfplal", sum := "f2641e17412da01018af2bbf2bec83ee620f9d60a5a8433dac4a238f28b31729", func := "loop.example/g00644/laws.FnExactPageTo", spec := "fnExactPageTo", apart := false }
def FnExactPageToSaid : Prop := fnExactPageToRow.holds Try.pinned (OpenSpec.ofChange fnExactPageToSpec)

/-- ITS FALSE NEIGHBOUR: 'it returns false'. Refute it at one input. -/
def fnExactPageToWrong : ChangeSpec := { name := "fnExactPageTo", fn := fun _ => fun
  | [d1, d2] => { results := [.lit (.bool false)], args := [d1, d2] }
  | _ => none }
def FnExactPageToWrongFalsely : Prop := fnExactPageToRow.holds Try.pinned (OpenSpec.ofChange fnExactPageToWrong)

/-- 'laws.FnExactIsShared': WHATEVER THE INPUT: true; the input reads as it did. -/
def fnExactIsSharedSpec : ChangeSpec := { name := "fnExactIsShared", fn := fun _ => fun
  | [d1, d2] => { results := [.lit (.bool true)], args := [d1, d2] }
  | _ => none }
def fnExactIsSharedRow : OpenClaim := { program := "ytpdngjjbhcfplal", sum := "f2641e17412da01018af2bbf2bec83ee620f9d60a5a8433dac4a238f28b31729", func := "loop.example/g00644/laws.FnExactIsShared", spec := "fnExactIsShared", apart := false }
def FnExactIsSharedSaid : Prop := fnExactIsSharedRow.holds Try.pinned (OpenSpec.ofChange fnExactIsSharedSpec)

/-- ITS FALSE NEIGHBOUR: 'it returns false'. Refute it at one input. -/
def fnExactIsSharedWrong : ChangeSpec := { name := "fnExactIsShared", fn := fun _ => fun
  | [d1, d2] => { results := [.lit (.bool false)], args := [d1, d2] }
  | _ => none }
def FnExactIsSharedWrongFalsely : Prop := fnExactIsSharedRow.holds Try.pinned (OpenSpec.ofChange fnExactIsSharedWrong)

/-- 'laws.FnExactSameMemory': WHATEVER THE INPUT: true; the input reads as it did. -/
def fnExactSameMemorySpec : ChangeSpec := { name := "fnExactSameMemory", fn := fun _ => fun
  | [d1, d2] => { results := [.lit (.bool true)], args := [d1, d2] }
  | _ => none }
def fnExactSameMemoryRow : OpenClaim := { program := "ytpdngjjbhcfplal", sum := "f2641e17412da01018af2bbf2bec83ee620f9d60a5a8433dac4a238f28b31729", func := "loop.example/g00644/laws.FnExactSameMemory", spec := "fnExactSameMemory", apart := false }
def FnExactSameMemorySaid : Prop := fnExactSameMemoryRow.holds Try.pinned (OpenSpec.ofChange fnExactSameMemorySpec)

/-- ITS FALSE NEIGHBOUR: 'it returns false'. Refute it at one input. -/
def fnExactSameMemoryWrong : ChangeSpec := { name := "fnExactSameMemory", fn := fun _ => fun
  | [d1, d2] => { results := [.lit (.bool false)], args := [d1, d2] }
  | _ => none }
def FnExactSameMemoryWrongFalsely : Prop := fnExactSameMemoryRow.holds Try.pinned (OpenSpec.ofChange fnExactSameMemoryWrong)

/- THE SECOND FORM. 'bulk': how many values and letters a reading holds, each counted each time it is reached (what is shared counts as often as it is met; a slice's spare places count too). A statement '..UptoSaid' is the law's where the arguments, and the package variables that the reading takes, are together of bulk at most 1048576: NARROWER than '..Said'. Prove '..Said' where nothing that the law and all that it calls make is longer than what came in: it says more and counts as full. Else prove '..UptoSaid'. A law counts once. -/
mutual
def uptoBulk {H : Type} : DataW H → Nat
  | .lit (.string bytes) => bytes.length + 1
  | .lit _ => 1
  | .nil => 1
  | .ptr d => uptoBulk d + 1
  | .slice elems spare => uptoBulkAll elems + uptoBulkAll spare + 1
  | .agg parts => uptoBulkAll parts + 1
  | .iface _ d => uptoBulk d + 1
  | .map entries => uptoBulkEntries entries + 1
  | .held _ => 1
def uptoBulkAll {H : Type} : List (DataW H) → Nat
  | [] => 0
  | d :: r => uptoBulk d + uptoBulkAll r
def uptoBulkEntries {H : Type} : List (Lit × DataW H) → Nat
  | [] => 0
  | x :: r => uptoBulkEntry x + uptoBulkEntries r
def uptoBulkEntry {H : Type} : Lit × DataW H → Nat
  | (.string bytes, d) => bytes.length + uptoBulk d + 1
  | (_, d) => uptoBulk d + 1
 end
def uptoSmall : (H : Type) → List (DataW H) → Bool := fun _ ds => decide (uptoBulkAll ds ≤ 1048576)
def OpenSpec.upto (s : _root_.Go.ChangeSpec) : _root_.Go.OpenSpec := { _root_.Go.OpenSpec.ofChange s with cond := some uptoSmall }

/-- 'laws.FnExactWhereIs', WHERE WHAT IT READS IS OF BULK AT MOST 1048576: true; the input reads as it did. -/
def fnExactWhereIsUptoRow : OpenClaim := { program := "ytpdngjjbhcfplal", sum := "f2641e17412da01018af2bbf2bec83ee620f9d60a5a8433dac4a238f28b31729", func := "loop.example/g00644/laws.FnExactWhereIs", spec := "fnExactWhereIs", apart := false, narrowed := true }
def FnExactWhereIsUptoSaid : Prop := fnExactWhereIsUptoRow.holds Try.pinned (OpenSpec.upto fnExactWhereIsSpec)

/-- 'laws.FnExactPeekAt', WHERE WHAT IT READS IS OF BULK AT MOST 1048576: true; the input reads as it did. -/
def fnExactPeekAtUptoRow : OpenClaim := { program := "ytpdngjjbhcfplal", sum := "f2641e17412da01018af2bbf2bec83ee620f9d60a5a8433dac4a238f28b31729", func := "loop.example/g00644/laws.FnExactPeekAt", spec := "fnExactPeekAt", apart := false, narrowed := true }
def FnExactPeekAtUptoSaid : Prop := fnExactPeekAtUptoRow.holds Try.pinned (OpenSpec.upto fnExactPeekAtSpec)

/-- 'laws.FnExactPokeAt', WHERE WHAT IT READS IS OF BULK AT MOST 1048576: true; the input reads as it did. -/
def fnExactPokeAtUptoRow : OpenClaim := { program := "ytpdngjjbhcfplal", sum := "f2641e17412da01018af2bbf2bec83ee620f9d60a5a8433dac4a238f28b31729", func := "loop.example/g00644/laws.FnExactPokeAt", spec := "fnExactPokeAt", apart := false, narrowed := true }
def FnExactPokeAtUptoSaid : Prop := fnExactPokeAtUptoRow.holds Try.pinned (OpenSpec.upto fnExactPokeAtSpec)

/-- 'laws.FnExactPageTo', WHERE WHAT IT READS IS OF BULK AT MOST 1048576: true; the input reads as it did. -/
def fnExactPageToUptoRow : OpenClaim := { program := "ytpdngjjbhcfplal", sum := "f2641e17412da01018af2bbf2bec83ee620f9d60a5a8433dac4a238f28b31729", func := "loop.example/g00644/laws.FnExactPageTo", spec := "fnExactPageTo", apart := false, narrowed := true }
def FnExactPageToUptoSaid : Prop := fnExactPageToUptoRow.holds Try.pinned (OpenSpec.upto fnExactPageToSpec)

/-- 'laws.FnExactIsShared', WHERE WHAT IT READS IS OF BULK AT MOST 1048576: true; the input reads as it did. -/
def fnExactIsSharedUptoRow : OpenClaim := { program := "ytpdngjjbhcfplal", sum := "f2641e17412da01018af2bbf2bec83ee620f9d60a5a8433dac4a238f28b31729", func := "loop.example/g00644/laws.FnExactIsShared", spec := "fnExactIsShared", apart := false, narrowed := true }
def FnExactIsSharedUptoSaid : Prop := fnExactIsSharedUptoRow.holds Try.pinned (OpenSpec.upto fnExactIsSharedSpec)

/-- 'laws.FnExactSameMemory', WHERE WHAT IT READS IS OF BULK AT MOST 1048576: true; the input reads as it did. -/
def fnExactSameMemoryUptoRow : OpenClaim := { program := "ytpdngjjbhcfplal", sum := "f2641e17412da01018af2bbf2bec83ee620f9d60a5a8433dac4a238f28b31729", func := "loop.example/g00644/laws.FnExactSameMemory", spec := "fnExactSameMemory", apart := false, narrowed := true }
def FnExactSameMemoryUptoSaid : Prop := fnExactSameMemoryUptoRow.holds Try.pinned (OpenSpec.upto fnExactSameMemorySpec)

end Rows
end Go.Proofs.Ytpdngjjbhcfplal
