/-
  NARROWER THAN 'FOR EVERY INPUT', by the rows' own cells (each row's printed sentence says how): FnRegs: laid · FnTone: laid · FnNoise: laid · FnExactNewPsg: laid · FnExactPsgOK: laid · FnExactSelectReg: laid.
  DERIVED. THE GIVEN ROWS OF THIS SEAT. 6 by the template 'for every input the law returns true; each argument reads behind the call as it read before'; 0 by the template 'total and deterministic' (their statements: YtjdgfbaioafjcaaDoorTotals.lean).
  GIVEN WITH THE SEED: the statements are not yours to turn. If you find one false, say at which input.
  Laid BY PROGRAM, IN A SANDBOX (cutbox-rows.mjs): the forced cells as the released guide's own fill.sh prints them over the translation 31379a03c47850bf… (all of the seat's roots in one cut). By AI agents, Wed Nov 11 2026. No macro, syntax, notation, axiom, sorry.
-/
import Derived.Test.YtjdgfbaioafjcaaDoorChecked
import GoSem.Claim
import GoSem.ClaimJoined
import GoSem.ClaimMapViews
import Derived.JoinedTies
import Derived.KernelRfl
namespace Go.Proofs.YtjdgfbaioafjcaaDoor
/- THE CELL 'sum', in the pinned program and in every row, IS THE sha256 OF THE DUMP (.gsa) THAT YtjdgfbaioafjcaaDoorProg.lean LOADS. Nothing in Lean hashes anything: it is a label: what it is worth is what the hold of that sum in a sandbox is worth. -/
noncomputable def Tryd.pinned : Pinned := { name := "ytjdgfbaioafjcaadoor", sum := "31379a03c47850bf0167da495d92f74a166973c80abd1ac6596dc633d82aafc2", checked := Tryd.checked }
namespace Rows
def none {H : Type} : Left H := { results := [], args := [] }

/- WHAT THE LISTED PACKAGE-LEVEL VARIABLES READ AS WHEN THE CALL BEGINS. Each datum BY PROGRAM (the guide's laid-datum.mjs) off the statement by which the dump's own 'gosem.cut.vars' lays the variable. In a bare row this is a premise. The card (YtjdgfbaioafjcaaDoorCards.lean) ties it to the program's text. -/
def laid_loop_example_g00644_impl_psgBits {H : Type} : DataW H := .agg [.lit (.int .i64 255), .lit (.int .i64 255), .lit (.int .i64 31), .lit (.int .i64 15), .lit (.int .i64 31), .lit (.int .i64 31), .lit (.int .i64 255), .lit (.int .i64 3)]

/-- 'laws.FnRegs': WHATEVER THE INPUT: true; the input reads as it did. -/
def fnRegsSpec : ChangeSpec := { name := "fnRegs", vars := ["loop.example/g00644/impl.psgBits"], fn := fun _ => fun
  | [d1, d2, g1] => { results := [.lit (.bool true)], args := [d1, d2], vars := [g1] }
  | _ => none }
def fnRegsRow : OpenClaim := { program := "ytjdgfbaioafjcaadoor", sum := "31379a03c47850bf0167da495d92f74a166973c80abd1ac6596dc633d82aafc2", func := "loop.example/g00644/laws.FnRegs", spec := "fnRegs", named := ["loop.example/g00644/impl.psgBits"], apart := false, laid := [("loop.example/g00644/impl.psgBits", laid_loop_example_g00644_impl_psgBits)] }
def FnRegsSaid : Prop := fnRegsRow.holds Tryd.pinned (OpenSpec.ofChange fnRegsSpec)

/-- ITS FALSE NEIGHBOUR: 'it returns false'. Refute it at one input. -/
def fnRegsWrong : ChangeSpec := { name := "fnRegs", vars := ["loop.example/g00644/impl.psgBits"], fn := fun _ => fun
  | [d1, d2, g1] => { results := [.lit (.bool false)], args := [d1, d2], vars := [g1] }
  | _ => none }
def FnRegsWrongFalsely : Prop := fnRegsRow.holds Tryd.pinned (OpenSpec.ofChange fnRegsWrong)

/-- 'laws.FnTone': WHATEVER THE INPUT: true; the input reads as it did. -/
def fnToneSpec : ChangeSpec := { name := "fnTone", vars := ["loop.example/g00644/impl.psgBits"], fn := fun _ => fun
  | [d1, d2, g1] => { results := [.lit (.bool true)], args := [d1, d2], vars := [g1] }
  | _ => none }
def fnToneRow : OpenClaim := { program := "ytjdgfbaioafjcaadoor", sum := "31379a03c47850bf0167da495d92f74a166973c80abd1ac6596dc633d82aafc2", func := "loop.example/g00644/laws.FnTone", spec := "fnTone", unfollowed := true, recurses := true, named := ["loop.example/g00644/impl.psgBits"], apart := false, laid := [("loop.example/g00644/impl.psgBits", laid_loop_example_g00644_impl_psgBits)] }
def FnToneSaid : Prop := fnToneRow.holds Tryd.pinned (OpenSpec.ofChange fnToneSpec)

/-- ITS FALSE NEIGHBOUR: 'it returns false'. Refute it at one input. -/
def fnToneWrong : ChangeSpec := { name := "fnTone", vars := ["loop.example/g00644/impl.psgBits"], fn := fun _ => fun
  | [d1, d2, g1] => { results := [.lit (.bool false)], args := [d1, d2], vars := [g1] }
  | _ => none }
def FnToneWrongFalsely : Prop := fnToneRow.holds Tryd.pinned (OpenSpec.ofChange fnToneWrong)

/-- 'laws.FnNoise': WHATEVER THE INPUT: true; the input reads as it did. -/
def fnNoiseSpec : ChangeSpec := { name := "fnNoise", vars := ["loop.example/g00644/impl.psgBits"], fn := fun _ => fun
  | [d1, d2, g1] => { results := [.lit (.bool true)], args := [d1, d2], vars := [g1] }
  | _ => none }
def fnNoiseRow : OpenClaim := { program := "ytjdgfbaioafjcaadoor", sum := "31379a03c47850bf0167da495d92f74a166973c80abd1ac6596dc633d82aafc2", func := "loop.example/g00644/laws.FnNoise", spec := "fnNoise", unfollowed := true, recurses := true, named := ["loop.example/g00644/impl.psgBits"], apart := false, laid := [("loop.example/g00644/impl.psgBits", laid_loop_example_g00644_impl_psgBits)] }
def FnNoiseSaid : Prop := fnNoiseRow.holds Tryd.pinned (OpenSpec.ofChange fnNoiseSpec)

/-- ITS FALSE NEIGHBOUR: 'it returns false'. Refute it at one input. -/
def fnNoiseWrong : ChangeSpec := { name := "fnNoise", vars := ["loop.example/g00644/impl.psgBits"], fn := fun _ => fun
  | [d1, d2, g1] => { results := [.lit (.bool false)], args := [d1, d2], vars := [g1] }
  | _ => none }
def FnNoiseWrongFalsely : Prop := fnNoiseRow.holds Tryd.pinned (OpenSpec.ofChange fnNoiseWrong)

/-- 'laws.FnExactNewPsg': WHATEVER THE INPUT: true; the input reads as it did. -/
def fnExactNewPsgSpec : ChangeSpec := { name := "fnExactNewPsg", vars := ["loop.example/g00644/impl.psgBits"], fn := fun _ => fun
  | [g1] => { results := [.lit (.bool true)], args := [], vars := [g1] }
  | _ => none }
def fnExactNewPsgRow : OpenClaim := { program := "ytjdgfbaioafjcaadoor", sum := "31379a03c47850bf0167da495d92f74a166973c80abd1ac6596dc633d82aafc2", func := "loop.example/g00644/laws.FnExactNewPsg", spec := "fnExactNewPsg", named := ["loop.example/g00644/impl.psgBits"], apart := false, laid := [("loop.example/g00644/impl.psgBits", laid_loop_example_g00644_impl_psgBits)] }
def FnExactNewPsgSaid : Prop := fnExactNewPsgRow.holds Tryd.pinned (OpenSpec.ofChange fnExactNewPsgSpec)

/-- ITS FALSE NEIGHBOUR: 'it returns false'. Refute it at one input. -/
def fnExactNewPsgWrong : ChangeSpec := { name := "fnExactNewPsg", vars := ["loop.example/g00644/impl.psgBits"], fn := fun _ => fun
  | [g1] => { results := [.lit (.bool false)], args := [], vars := [g1] }
  | _ => none }
def FnExactNewPsgWrongFalsely : Prop := fnExactNewPsgRow.holds Tryd.pinned (OpenSpec.ofChange fnExactNewPsgWrong)

/-- 'laws.FnExactPsgOK': WHATEVER THE INPUT: true; the input reads as it did. -/
def fnExactPsgOKSpec : ChangeSpec := { name := "fnExactPsgOK", vars := ["loop.example/g00644/impl.psgBits"], fn := fun _ => fun
  | [d, g1] => { results := [.lit (.bool true)], args := [d], vars := [g1] }
  | _ => none }
def fnExactPsgOKRow : OpenClaim := { program := "ytjdgfbaioafjcaadoor", sum := "31379a03c47850bf0167da495d92f74a166973c80abd1ac6596dc633d82aafc2", func := "loop.example/g00644/laws.FnExactPsgOK", spec := "fnExactPsgOK", named := ["loop.example/g00644/impl.psgBits"], apart := false, laid := [("loop.example/g00644/impl.psgBits", laid_loop_example_g00644_impl_psgBits)] }
def FnExactPsgOKSaid : Prop := fnExactPsgOKRow.holds Tryd.pinned (OpenSpec.ofChange fnExactPsgOKSpec)

/-- ITS FALSE NEIGHBOUR: 'it returns false'. Refute it at one input. -/
def fnExactPsgOKWrong : ChangeSpec := { name := "fnExactPsgOK", vars := ["loop.example/g00644/impl.psgBits"], fn := fun _ => fun
  | [d, g1] => { results := [.lit (.bool false)], args := [d], vars := [g1] }
  | _ => none }
def FnExactPsgOKWrongFalsely : Prop := fnExactPsgOKRow.holds Tryd.pinned (OpenSpec.ofChange fnExactPsgOKWrong)

/-- 'laws.FnExactSelectReg': WHATEVER THE INPUT: true; the input reads as it did. -/
def fnExactSelectRegSpec : ChangeSpec := { name := "fnExactSelectReg", vars := ["loop.example/g00644/impl.psgBits"], fn := fun _ => fun
  | [d1, d2, g1] => { results := [.lit (.bool true)], args := [d1, d2], vars := [g1] }
  | _ => none }
def fnExactSelectRegRow : OpenClaim := { program := "ytjdgfbaioafjcaadoor", sum := "31379a03c47850bf0167da495d92f74a166973c80abd1ac6596dc633d82aafc2", func := "loop.example/g00644/laws.FnExactSelectReg", spec := "fnExactSelectReg", named := ["loop.example/g00644/impl.psgBits"], apart := false, laid := [("loop.example/g00644/impl.psgBits", laid_loop_example_g00644_impl_psgBits)] }
def FnExactSelectRegSaid : Prop := fnExactSelectRegRow.holds Tryd.pinned (OpenSpec.ofChange fnExactSelectRegSpec)

/-- ITS FALSE NEIGHBOUR: 'it returns false'. Refute it at one input. -/
def fnExactSelectRegWrong : ChangeSpec := { name := "fnExactSelectReg", vars := ["loop.example/g00644/impl.psgBits"], fn := fun _ => fun
  | [d1, d2, g1] => { results := [.lit (.bool false)], args := [d1, d2], vars := [g1] }
  | _ => none }
def FnExactSelectRegWrongFalsely : Prop := fnExactSelectRegRow.holds Tryd.pinned (OpenSpec.ofChange fnExactSelectRegWrong)

/- THE SECOND FORM. 'bulk': how many values and letters a reading holds, each counted each time it is reached (what is shared counts as often as it is met; a slice's spare places count too). A statement '..UptoSaid' is the law's where the arguments, and the package variables that the reading takes, are together of bulk at most 1048576: NARROWER than '..Said'. Prove '..Said' where nothing that the law and all that it calls make is longer than what came in: it says more and counts as full. Else prove '..UptoSaid'. A law counts once. -/
mutual
def uptoBulk {H : Type} : DataW H → Nat
  | .lit (.string bytes) => bytes.length + 1
  | .lit _ => 1
  | .nil => 1
  | .ptr d => uptoBulk d + 1
  | .slice elems spare => uptoBulkAll elems + uptoBulkAll spare + 1
  | .agg parts => uptoBulkAll parts + 1
  | .iface _ d => uptoBulk d + 1
  | .map entries => uptoBulkEntries entries + 1
  | .held _ => 1
def uptoBulkAll {H : Type} : List (DataW H) → Nat
  | [] => 0
  | d :: r => uptoBulk d + uptoBulkAll r
def uptoBulkEntries {H : Type} : List (Lit × DataW H) → Nat
  | [] => 0
  | x :: r => uptoBulkEntry x + uptoBulkEntries r
def uptoBulkEntry {H : Type} : Lit × DataW H → Nat
  | (.string bytes, d) => bytes.length + uptoBulk d + 1
  | (_, d) => uptoBulk d + 1
 end
def uptoSmall : (H : Type) → List (DataW H) → Bool := fun _ ds => decide (uptoBulkAll ds ≤ 1048576)
def OpenSpec.upto (s : _root_.Go.ChangeSpec) : _root_.Go.OpenSpec := { _root_.Go.OpenSpec.ofChange s with cond := some uptoSmall }

/-- 'laws.FnRegs', WHERE WHAT IT READS IS OF BULK AT MOST 1048576: true; the input reads as it did. -/
def fnRegsUptoRow : OpenClaim := { program := "ytjdgfbaioafjcaadoor", sum := "31379a03c47850bf0167da495d92f74a166973c80abd1ac6596dc633d82aafc2", func := "loop.example/g00644/laws.FnRegs", spec := "fnRegs", named := ["loop.example/g00644/impl.psgBits"], apart := false, laid := [("loop.example/g00644/impl.psgBits", laid_loop_example_g00644_impl_psgBits)], narrowed := true }
def FnRegsUptoSaid : Prop := fnRegsUptoRow.holds Tryd.pinned (OpenSpec.upto fnRegsSpec)

/-- 'laws.FnTone', WHERE WHAT IT READS IS OF BULK AT MOST 1048576: true; the input reads as it did. -/
def fnToneUptoRow : OpenClaim := { program := "ytjdgfbaioafjcaadoor", sum := "31379a03c47850bf0167da495d92f74a166973c80abd1ac6596dc633d82aafc2", func := "loop.example/g00644/laws.FnTone", spec := "fnTone", unfollowed := true, recurses := true, named := ["loop.example/g00644/impl.psgBits"], apart := false, laid := [("loop.example/g00644/impl.psgBits", laid_loop_example_g00644_impl_psgBits)], narrowed := true }
def FnToneUptoSaid : Prop := fnToneUptoRow.holds Tryd.pinned (OpenSpec.upto fnToneSpec)

/-- 'laws.FnNoise', WHERE WHAT IT READS IS OF BULK AT MOST 1048576: true; the input reads as it did. -/
def fnNoiseUptoRow : OpenClaim := { program := "ytjdgfbaioafjcaadoor", sum := "31379a03c47850bf0167da495d92f74a166973c80abd1ac6596dc633d82aafc2", func := "loop.example/g00644/laws.FnNoise", spec := "fnNoise", unfollowed := true, recurses := true, named := ["loop.example/g00644/impl.psgBits"], apart := false, laid := [("loop.example/g00644/impl.psgBits", laid_loop_example_g00644_impl_psgBits)], narrowed := true }
def FnNoiseUptoSaid : Prop := fnNoiseUptoRow.holds Tryd.pinned (OpenSpec.upto fnNoiseSpec)

/-- 'laws.FnExactNewPsg', WHERE WHAT IT READS IS OF BULK AT MOST 1048576: true; the input reads as it did. -/
def fnExactNewPsgUptoRow : OpenClaim := { program := "ytjdgfbaioafjcaadoor", sum := "31379a03c47850bf0167da495d92f74a166973c80abd1ac6596dc633d82aafc2", func := "loop.example/g00644/laws.FnExactNewPsg", spec := "fnExactNewPsg", named := ["loop.example/g00644/impl.psgBits"], apart := false, laid := [("loop.example/g00644/impl.psgBits", laid_loop_example_g00644_impl_psgBits)], narrowed := true }
def FnExactNewPsgUptoSaid : Prop := fnExactNewPsgUptoRow.holds Tryd.pinned (OpenSpec.upto fnExactNewPsgSpec)

/-- 'laws.FnExactPsgOK', WHERE WHAT IT READS IS OF BULK AT MOST 1048576: true; the input reads as it did. -/
def fnExactPsgOKUptoRow : OpenClaim := { program := "ytjdgfbaioafjcaadoor", sum := "31379a03c47850bf0167da495d92f74a166973c80abd1ac6596dc633d82aafc2", func := "loop.example/g00644/laws.FnExactPsgOK", spec := "fnExactPsgOK", named := ["loop.example/g00644/impl.psgBits"], apart := false, laid := [("loop.example/g00644/impl.psgBits", laid_loop_example_g00644_impl_psgBits)], narrowed := true }
def FnExactPsgOKUptoSaid : Prop := fnExactPsgOKUptoRow.holds Tryd.pinned (OpenSpec.upto fnExactPsgOKSpec)

/-- 'laws.FnExactSelectReg', WHERE WHAT IT READS IS OF BULK AT MOST 1048576: true; the input reads as it did. -/
def fnExactSelectRegUptoRow : OpenClaim := { program := "ytjdgfbaioafjcaadoor", sum := "31379a03c47850bf0167da495d92f74a166973c80abd1ac6596dc633d82aafc2", func := "loop.example/g00644/laws.FnExactSelectReg", spec := "fnExactSelectReg", named := ["loop.example/g00644/impl.psgBits"], apart := false, laid := [("loop.example/g00644/impl.psgBits", laid_loop_example_g00644_impl_psgBits)], narrowed := true }
def FnExactSelectRegUptoSaid : Prop := fnExactSelectRegUptoRow.holds Tryd.pinned (OpenSpec.upto fnExactSelectRegSpec)

end Rows
end Go.Proofs.YtjdgfbaioafjcaaDoor
