/-
  No cell of these rows narrows 'for every input' (looked for: loops, veiled, ifaces, maps, wideKeys, modest, calm, conditions, laid).
  DERIVED. THE GIVEN ROWS OF THIS SEAT. 4 by the template 'for every input the law returns true; each argument reads behind the call as it read before'; 0 by the template 'total and deterministic' (their statements: YtohnddjijedfkaaTotals.lean).
  GIVEN WITH THE SEED: the statements are not yours to turn. If you find one false, say at which input.
  Laid BY PROGRAM, IN A SANDBOX (cutbox-rows.mjs): the forced cells as the released guide's own fill.sh prints them over the translation 18351567e2267322… (all of the seat's roots in one cut). By AI agents, Wed Nov 11 2026. No macro, syntax, notation, axiom, sorry.
-/
import Derived.Test.YtohnddjijedfkaaChecked
import GoSem.Claim
import GoSem.ClaimJoined
import GoSem.ClaimMapViews
import Derived.JoinedTies
import Derived.KernelRfl
namespace Go.Proofs.Ytohnddjijedfkaa
/- THE CELL 'sum', in the pinned program and in every row, IS THE sha256 OF THE DUMP (.gsa) THAT YtohnddjijedfkaaProg.lean LOADS. Nothing in Lean hashes anything: it is a label: what it is worth is what the hold of that sum in a sandbox is worth. -/
noncomputable def Try.pinned : Pinned := { name := "ytohnddjijedfkaa", sum := "18351567e22673223c75108be9f23feff2fa361d8877608aba4a5d7d2620eb42", checked := Try.checked }
namespace Rows
def none {H : Type} : Left H := { results := [], args := [] }

/-- 'laws.FnDeck': WHATEVER THE INPUT: true; the input reads as it did. -/
def fnDeckSpec : ChangeSpec := { name := "fnDeck", fn := fun _ => fun
  | [d1, d2] => { results := [.lit (.bool true)], args := [d1, d2] }
  | _ => none }
def fnDeckRow : OpenClaim := { program := "ytohnddjijedfkaa", sum := "18351567e22673223c75108be9f23feff2fa361d8877608aba4a5d7d2620eb42", func := "loop.example/g00644/laws.FnDeck", spec := "fnDeck", apart := false }
def FnDeckSaid : Prop := fnDeckRow.holds Try.pinned (OpenSpec.ofChange fnDeckSpec)

/-- ITS FALSE NEIGHBOUR: 'it returns false'. Refute it at one input. -/
def fnDeckWrong : ChangeSpec := { name := "fnDeck", fn := fun _ => fun
  | [d1, d2] => { results := [.lit (.bool false)], args := [d1, d2] }
  | _ => none }
def FnDeckWrongFalsely : Prop := fnDeckRow.holds Try.pinned (OpenSpec.ofChange fnDeckWrong)

/-- 'laws.FnExactDeckOK': WHATEVER THE INPUT: true; the input reads as it did. -/
def fnExactDeckOKSpec : ChangeSpec := { name := "fnExactDeckOK", fn := fun _ => fun
  | [d] => { results := [.lit (.bool true)], args := [d] }
  | _ => none }
def fnExactDeckOKRow : OpenClaim := { program := "ytohnddjijedfkaa", sum := "18351567e22673223c75108be9f23feff2fa361d8877608aba4a5d7d2620eb42", func := "loop.example/g00644/laws.FnExactDeckOK", spec := "fnExactDeckOK", apart := false }
def FnExactDeckOKSaid : Prop := fnExactDeckOKRow.holds Try.pinned (OpenSpec.ofChange fnExactDeckOKSpec)

/-- ITS FALSE NEIGHBOUR: 'it returns false'. Refute it at one input. -/
def fnExactDeckOKWrong : ChangeSpec := { name := "fnExactDeckOK", fn := fun _ => fun
  | [d] => { results := [.lit (.bool false)], args := [d] }
  | _ => none }
def FnExactDeckOKWrongFalsely : Prop := fnExactDeckOKRow.holds Try.pinned (OpenSpec.ofChange fnExactDeckOKWrong)

/-- 'laws.FnExactPlayDeck': WHATEVER THE INPUT: true; the input reads as it did. -/
def fnExactPlayDeckSpec : ChangeSpec := { name := "fnExactPlayDeck", fn := fun _ => fun
  | [d] => { results := [.lit (.bool true)], args := [d] }
  | _ => none }
def fnExactPlayDeckRow : OpenClaim := { program := "ytohnddjijedfkaa", sum := "18351567e22673223c75108be9f23feff2fa361d8877608aba4a5d7d2620eb42", func := "loop.example/g00644/laws.FnExactPlayDeck", spec := "fnExactPlayDeck", apart := false }
def FnExactPlayDeckSaid : Prop := fnExactPlayDeckRow.holds Try.pinned (OpenSpec.ofChange fnExactPlayDeckSpec)

/-- ITS FALSE NEIGHBOUR: 'it returns false'. Refute it at one input. -/
def fnExactPlayDeckWrong : ChangeSpec := { name := "fnExactPlayDeck", fn := fun _ => fun
  | [d] => { results := [.lit (.bool false)], args := [d] }
  | _ => none }
def FnExactPlayDeckWrongFalsely : Prop := fnExactPlayDeckRow.holds Try.pinned (OpenSpec.ofChange fnExactPlayDeckWrong)

/-- 'laws.FnExactStopDeck': WHATEVER THE INPUT: true; the input reads as it did. -/
def fnExactStopDeckSpec : ChangeSpec := { name := "fnExactStopDeck", fn := fun _ => fun
  | [d] => { results := [.lit (.bool true)], args := [d] }
  | _ => none }
def fnExactStopDeckRow : OpenClaim := { program := "ytohnddjijedfkaa", sum := "18351567e22673223c75108be9f23feff2fa361d8877608aba4a5d7d2620eb42", func := "loop.example/g00644/laws.FnExactStopDeck", spec := "fnExactStopDeck", apart := false }
def FnExactStopDeckSaid : Prop := fnExactStopDeckRow.holds Try.pinned (OpenSpec.ofChange fnExactStopDeckSpec)

/-- ITS FALSE NEIGHBOUR: 'it returns false'. Refute it at one input. -/
def fnExactStopDeckWrong : ChangeSpec := { name := "fnExactStopDeck", fn := fun _ => fun
  | [d] => { results := [.lit (.bool false)], args := [d] }
  | _ => none }
def FnExactStopDeckWrongFalsely : Prop := fnExactStopDeckRow.holds Try.pinned (OpenSpec.ofChange fnExactStopDeckWrong)

/- THE SECOND FORM. 'bulk': how many values and letters a reading holds, each counted each time it is reached (what is shared counts as often as it is met; a slice's spare places count too). A statement '..UptoSaid' is the law's where the arguments, and the package variables that the reading takes, are together of bulk at most 1048576: NARROWER than '..Said'. Prove '..Said' where nothing that the law and all that it calls make is longer than what came in: it says more and counts as full. Else prove '..UptoSaid'. A law counts once. -/
mutual
def uptoBulk {H : Type} : DataW H → Nat
  | .lit (.string bytes) => bytes.length + 1
  | .lit _ => 1
  | .nil => 1
  | .ptr d => uptoBulk d + 1
  | .slice elems spare => uptoBulkAll elems + uptoBulkAll spare + 1
  | .agg parts => uptoBulkAll parts + 1
  | .iface _ d => uptoBulk d + 1
  | .map entries => uptoBulkEntries entries + 1
  | .held _ => 1
def uptoBulkAll {H : Type} : List (DataW H) → Nat
  | [] => 0
  | d :: r => uptoBulk d + uptoBulkAll r
def uptoBulkEntries {H : Type} : List (Lit × DataW H) → Nat
  | [] => 0
  | x :: r => uptoBulkEntry x + uptoBulkEntries r
def uptoBulkEntry {H : Type} : Lit × DataW H → Nat
  | (.string bytes, d) => bytes.length + uptoBulk d + 1
  | (_, d) => uptoBulk d + 1
 end
def uptoSmall : (H : Type) → List (DataW H) → Bool := fun _ ds => decide (uptoBulkAll ds ≤ 1048576)
def OpenSpec.upto (s : _root_.Go.ChangeSpec) : _root_.Go.OpenSpec := { _root_.Go.OpenSpec.ofChange s with cond := some uptoSmall }

/-- 'laws.FnDeck', WHERE WHAT IT READS IS OF BULK AT MOST 1048576: true; the input reads as it did. -/
def fnDeckUptoRow : OpenClaim := { program := "ytohnddjijedfkaa", sum := "18351567e22673223c75108be9f23feff2fa361d8877608aba4a5d7d2620eb42", func := "loop.example/g00644/laws.FnDeck", spec := "fnDeck", apart := false, narrowed := true }
def FnDeckUptoSaid : Prop := fnDeckUptoRow.holds Try.pinned (OpenSpec.upto fnDeckSpec)

/-- 'laws.FnExactDeckOK', WHERE WHAT IT READS IS OF BULK AT MOST 1048576: true; the input reads as it did. -/
def fnExactDeckOKUptoRow : OpenClaim := { program := "ytohnddjijedfkaa", sum := "18351567e22673223c75108be9f23feff2fa361d8877608aba4a5d7d2620eb42", func := "loop.example/g00644/laws.FnExactDeckOK", spec := "fnExactDeckOK", apart := false, narrowed := true }
def FnExactDeckOKUptoSaid : Prop := fnExactDeckOKUptoRow.holds Try.pinned (OpenSpec.upto fnExactDeckOKSpec)

/-- 'laws.FnExactPlayDeck', WHERE WHAT IT READS IS OF BULK AT MOST 1048576: true; the input reads as it did. -/
def fnExactPlayDeckUptoRow : OpenClaim := { program := "ytohnddjijedfkaa", sum := "18351567e22673223c75108be9f23feff2fa361d8877608aba4a5d7d2620eb42", func := "loop.example/g00644/laws.FnExactPlayDeck", spec := "fnExactPlayDeck", apart := false, narrowed := true }
def FnExactPlayDeckUptoSaid : Prop := fnExactPlayDeckUptoRow.holds Try.pinned (OpenSpec.upto fnExactPlayDeckSpec)

/-- 'laws.FnExactStopDeck', WHERE WHAT IT READS IS OF BULK AT MOST 1048576: true; the input reads as it did. -/
def fnExactStopDeckUptoRow : OpenClaim := { program := "ytohnddjijedfkaa", sum := "18351567e22673223c75108be9f23feff2fa361d8877608aba4a5d7d2620eb42", func := "loop.example/g00644/laws.FnExactStopDeck", spec := "fnExactStopDeck", apart := false, narrowed := true }
def FnExactStopDeckUptoSaid : Prop := fnExactStopDeckUptoRow.holds Try.pinned (OpenSpec.upto fnExactStopDeckSpec)

end Rows
end Go.Proofs.Ytohnddjijedfkaa
