/-
  No cell of these rows narrows 'for every input' (looked for: loops, veiled, ifaces, maps, wideKeys, modest, calm, conditions, laid).
  DERIVED. THE GIVEN ROWS OF THIS SEAT. 6 by the template 'for every input the law returns true; each argument reads behind the call as it read before'; 0 by the template 'total and deterministic' (their statements: YtdfadiicjkenfaaTotals.lean).
  GIVEN WITH THE SEED: the statements are not yours to turn. If you find one false, say at which input.
  Laid BY PROGRAM, IN A SANDBOX (cutbox-rows.mjs): the forced cells as the released guide's own fill.sh prints them over the translation 63d7243e01f8c9ab… (all of the seat's roots in one cut). By AI agents, Wed Nov 11 2026. No macro, syntax, notation, axiom, sorry.
-/
import Derived.Test.YtdfadiicjkenfaaChecked
import GoSem.Claim
import GoSem.ClaimJoined
import GoSem.ClaimMapViews
import Derived.JoinedTies
import Derived.KernelRfl
namespace Go.Proofs.Ytdfadiicjkenfaa
/- THE CELL 'sum', in the pinned program and in every row, IS THE sha256 OF THE DUMP (.gsa) THAT YtdfadiicjkenfaaProg.lean LOADS. Nothing in Lean hashes anything: it is a label: what it is worth is what the hold of that sum in a sandbox is worth. -/
noncomputable def Try.pinned : Pinned := { name := "ytdfadiicjkenfaa", sum := "63d7243e01f8c9abbb664e025f1efec9878ff0ae9c977396e6ca3ddb6246bfa9", checked := Try.checked }
namespace Rows
def none {H : Type} : Left H := { results := [], args := [] }

/-- 'laws.FnKeys': WHATEVER THE INPUT: true; the input reads as it did. -/
def fnKeysSpec : ChangeSpec := { name := "fnKeys", fn := fun _ => fun
  | [d1, d2] => { results := [.lit (.bool true)], args := [d1, d2] }
  | _ => none }
def fnKeysRow : OpenClaim := { program := "ytdfadiicjkenfaa", sum := "63d7243e01f8c9abbb664e025f1efec9878ff0ae9c977396e6ca3ddb6246bfa9", func := "loop.example/g00644/laws.FnKeys", spec := "fnKeys", apart := false }
def FnKeysSaid : Prop := fnKeysRow.holds Try.pinned (OpenSpec.ofChange fnKeysSpec)

/-- ITS FALSE NEIGHBOUR: 'it returns false'. Refute it at one input. -/
def fnKeysWrong : ChangeSpec := { name := "fnKeys", fn := fun _ => fun
  | [d1, d2] => { results := [.lit (.bool false)], args := [d1, d2] }
  | _ => none }
def FnKeysWrongFalsely : Prop := fnKeysRow.holds Try.pinned (OpenSpec.ofChange fnKeysWrong)

/-- 'laws.FnPorts': WHATEVER THE INPUT: true; the input reads as it did. -/
def fnPortsSpec : ChangeSpec := { name := "fnPorts", fn := fun _ => fun
  | [d1, d2] => { results := [.lit (.bool true)], args := [d1, d2] }
  | _ => none }
def fnPortsRow : OpenClaim := { program := "ytdfadiicjkenfaa", sum := "63d7243e01f8c9abbb664e025f1efec9878ff0ae9c977396e6ca3ddb6246bfa9", func := "loop.example/g00644/laws.FnPorts", spec := "fnPorts", unfollowed := true, recurses := true, apart := false }
def FnPortsSaid : Prop := fnPortsRow.holds Try.pinned (OpenSpec.ofChange fnPortsSpec)

/-- ITS FALSE NEIGHBOUR: 'it returns false'. Refute it at one input. -/
def fnPortsWrong : ChangeSpec := { name := "fnPorts", fn := fun _ => fun
  | [d1, d2] => { results := [.lit (.bool false)], args := [d1, d2] }
  | _ => none }
def FnPortsWrongFalsely : Prop := fnPortsRow.holds Try.pinned (OpenSpec.ofChange fnPortsWrong)

/-- 'laws.FnExactNewPorts': WHATEVER THE INPUT: true; the input reads as it did. -/
def fnExactNewPortsSpec : ChangeSpec := { name := "fnExactNewPorts", fn := fun _ => fun
  | [] => { results := [.lit (.bool true)], args := [] }
  | _ => none }
def fnExactNewPortsRow : OpenClaim := { program := "ytdfadiicjkenfaa", sum := "63d7243e01f8c9abbb664e025f1efec9878ff0ae9c977396e6ca3ddb6246bfa9", func := "loop.example/g00644/laws.FnExactNewPorts", spec := "fnExactNewPorts", apart := false }
def FnExactNewPortsSaid : Prop := fnExactNewPortsRow.holds Try.pinned (OpenSpec.ofChange fnExactNewPortsSpec)

/-- ITS FALSE NEIGHBOUR: 'it returns false'. Refute it at one input. -/
def fnExactNewPortsWrong : ChangeSpec := { name := "fnExactNewPorts", fn := fun _ => fun
  | [] => { results := [.lit (.bool false)], args := [] }
  | _ => none }
def FnExactNewPortsWrongFalsely : Prop := fnExactNewPortsRow.holds Try.pinned (OpenSpec.ofChange fnExactNewPortsWrong)

/-- 'laws.FnExactPortsOK': WHATEVER THE INPUT: true; the input reads as it did. -/
def fnExactPortsOKSpec : ChangeSpec := { name := "fnExactPortsOK", fn := fun _ => fun
  | [d] => { results := [.lit (.bool true)], args := [d] }
  | _ => none }
def fnExactPortsOKRow : OpenClaim := { program := "ytdfadiicjkenfaa", sum := "63d7243e01f8c9abbb664e025f1efec9878ff0ae9c977396e6ca3ddb6246bfa9", func := "loop.example/g00644/laws.FnExactPortsOK", spec := "fnExactPortsOK", apart := false }
def FnExactPortsOKSaid : Prop := fnExactPortsOKRow.holds Try.pinned (OpenSpec.ofChange fnExactPortsOKSpec)

/-- ITS FALSE NEIGHBOUR: 'it returns false'. Refute it at one input. -/
def fnExactPortsOKWrong : ChangeSpec := { name := "fnExactPortsOK", fn := fun _ => fun
  | [d] => { results := [.lit (.bool false)], args := [d] }
  | _ => none }
def FnExactPortsOKWrongFalsely : Prop := fnExactPortsOKRow.holds Try.pinned (OpenSpec.ofChange fnExactPortsOKWrong)

/-- 'laws.FnExactPortKind': WHATEVER THE INPUT: true; the input reads as it did. -/
def fnExactPortKindSpec : ChangeSpec := { name := "fnExactPortKind", fn := fun _ => fun
  | [d] => { results := [.lit (.bool true)], args := [d] }
  | _ => none }
def fnExactPortKindRow : OpenClaim := { program := "ytdfadiicjkenfaa", sum := "63d7243e01f8c9abbb664e025f1efec9878ff0ae9c977396e6ca3ddb6246bfa9", func := "loop.example/g00644/laws.FnExactPortKind", spec := "fnExactPortKind", unfollowed := true, recurses := true, apart := false }
def FnExactPortKindSaid : Prop := fnExactPortKindRow.holds Try.pinned (OpenSpec.ofChange fnExactPortKindSpec)

/-- ITS FALSE NEIGHBOUR: 'it returns false'. Refute it at one input. -/
def fnExactPortKindWrong : ChangeSpec := { name := "fnExactPortKind", fn := fun _ => fun
  | [d] => { results := [.lit (.bool false)], args := [d] }
  | _ => none }
def FnExactPortKindWrongFalsely : Prop := fnExactPortKindRow.holds Try.pinned (OpenSpec.ofChange fnExactPortKindWrong)

/-- 'laws.FnExactPressKey': WHATEVER THE INPUT: true; the input reads as it did. -/
def fnExactPressKeySpec : ChangeSpec := { name := "fnExactPressKey", fn := fun _ => fun
  | [d1, d2, d3, d4] => { results := [.lit (.bool true)], args := [d1, d2, d3, d4] }
  | _ => none }
def fnExactPressKeyRow : OpenClaim := { program := "ytdfadiicjkenfaa", sum := "63d7243e01f8c9abbb664e025f1efec9878ff0ae9c977396e6ca3ddb6246bfa9", func := "loop.example/g00644/laws.FnExactPressKey", spec := "fnExactPressKey", apart := false }
def FnExactPressKeySaid : Prop := fnExactPressKeyRow.holds Try.pinned (OpenSpec.ofChange fnExactPressKeySpec)

/-- ITS FALSE NEIGHBOUR: 'it returns false'. Refute it at one input. -/
def fnExactPressKeyWrong : ChangeSpec := { name := "fnExactPressKey", fn := fun _ => fun
  | [d1, d2, d3, d4] => { results := [.lit (.bool false)], args := [d1, d2, d3, d4] }
  | _ => none }
def FnExactPressKeyWrongFalsely : Prop := fnExactPressKeyRow.holds Try.pinned (OpenSpec.ofChange fnExactPressKeyWrong)

/- THE SECOND FORM. 'bulk': how many values and letters a reading holds, each counted each time it is reached (what is shared counts as often as it is met; a slice's spare places count too). A statement '..UptoSaid' is the law's where the arguments, and the package variables that the reading takes, are together of bulk at most 1048576: NARROWER than '..Said'. Prove '..Said' where nothing that the law and all that it calls make is longer than what came in: it says more and counts as full. Else prove '..UptoSaid'. A law counts once. -/
mutual
def uptoBulk {H : Type} : DataW H → Nat
  | .lit (.string bytes) => bytes.length + 1
  | .lit _ => 1
  | .nil => 1
  | .ptr d => uptoBulk d + 1
  | .slice elems spare => uptoBulkAll elems + uptoBulkAll spare + 1
  | .agg parts => uptoBulkAll parts + 1
  | .iface _ d => uptoBulk d + 1
  | .map entries => uptoBulkEntries entries + 1
  | .held _ => 1
def uptoBulkAll {H : Type} : List (DataW H) → Nat
  | [] => 0
  | d :: r => uptoBulk d + uptoBulkAll r
def uptoBulkEntries {H : Type} : List (Lit × DataW H) → Nat
  | [] => 0
  | x :: r => uptoBulkEntry x + uptoBulkEntries r
def uptoBulkEntry {H : Type} : Lit × DataW H → Nat
  | (.string bytes, d) => bytes.length + uptoBulk d + 1
  | (_, d) => uptoBulk d + 1
 end
def uptoSmall : (H : Type) → List (DataW H) → Bool := fun _ ds => decide (uptoBulkAll ds ≤ 1048576)
def OpenSpec.upto (s : _root_.Go.ChangeSpec) : _root_.Go.OpenSpec := { _root_.Go.OpenSpec.ofChange s with cond := some uptoSmall }

/-- 'laws.FnKeys', WHERE WHAT IT READS IS OF BULK AT MOST 1048576: true; the input reads as it did. -/
def fnKeysUptoRow : OpenClaim := { program := "ytdfadiicjkenfaa", sum := "63d7243e01f8c9abbb664e025f1efec9878ff0ae9c977396e6ca3ddb6246bfa9", func := "loop.example/g00644/laws.FnKeys", spec := "fnKeys", apart := false, narrowed := true }
def FnKeysUptoSaid : Prop := fnKeysUptoRow.holds Try.pinned (OpenSpec.upto fnKeysSpec)

/-- 'laws.FnPorts', WHERE WHAT IT READS IS OF BULK AT MOST 1048576: true; the input reads as it did. -/
def fnPortsUptoRow : OpenClaim := { program := "ytdfadiicjkenfaa", sum := "63d7243e01f8c9abbb664e025f1efec9878ff0ae9c977396e6ca3ddb6246bfa9", func := "loop.example/g00644/laws.FnPorts", spec := "fnPorts", unfollowed := true, recurses := true, apart := false, narrowed := true }
def FnPortsUptoSaid : Prop := fnPortsUptoRow.holds Try.pinned (OpenSpec.upto fnPortsSpec)

/-- 'laws.FnExactNewPorts', WHERE WHAT IT READS IS OF BULK AT MOST 1048576: true; the input reads as it did. -/
def fnExactNewPortsUptoRow : OpenClaim := { program := "ytdfadiicjkenfaa", sum := "63d7243e01f8c9abbb664e025f1efec9878ff0ae9c977396e6ca3ddb6246bfa9", func := "loop.example/g00644/laws.FnExactNewPorts", spec := "fnExactNewPorts", apart := false, narrowed := true }
def FnExactNewPortsUptoSaid : Prop := fnExactNewPortsUptoRow.holds Try.pinned (OpenSpec.upto fnExactNewPortsSpec)

/-- 'laws.FnExactPortsOK', WHERE WHAT IT READS IS OF BULK AT MOST 1048576: true; the input reads as it did. -/
def fnExactPortsOKUptoRow : OpenClaim := { program := "ytdfadiicjkenfaa", sum := "63d7243e01f8c9abbb664e025f1efec9878ff0ae9c977396e6ca3ddb6246bfa9", func := "loop.example/g00644/laws.FnExactPortsOK", spec := "fnExactPortsOK", apart := false, narrowed := true }
def FnExactPortsOKUptoSaid : Prop := fnExactPortsOKUptoRow.holds Try.pinned (OpenSpec.upto fnExactPortsOKSpec)

/-- 'laws.FnExactPortKind', WHERE WHAT IT READS IS OF BULK AT MOST 1048576: true; the input reads as it did. -/
def fnExactPortKindUptoRow : OpenClaim := { program := "ytdfadiicjkenfaa", sum := "63d7243e01f8c9abbb664e025f1efec9878ff0ae9c977396e6ca3ddb6246bfa9", func := "loop.example/g00644/laws.FnExactPortKind", spec := "fnExactPortKind", unfollowed := true, recurses := true, apart := false, narrowed := true }
def FnExactPortKindUptoSaid : Prop := fnExactPortKindUptoRow.holds Try.pinned (OpenSpec.upto fnExactPortKindSpec)

/-- 'laws.FnExactPressKey', WHERE WHAT IT READS IS OF BULK AT MOST 1048576: true; the input reads as it did. -/
def fnExactPressKeyUptoRow : OpenClaim := { program := "ytdfadiicjkenfaa", sum := "63d7243e01f8c9abbb664e025f1efec9878ff0ae9c977396e6ca3ddb6246bfa9", func := "loop.example/g00644/laws.FnExactPressKey", spec := "fnExactPressKey", apart := false, narrowed := true }
def FnExactPressKeyUptoSaid : Prop := fnExactPressKeyUptoRow.holds Try.pinned (OpenSpec.upto fnExactPressKeySpec)

end Rows
end Go.Proofs.Ytdfadiicjkenfaa
