/-
  DERIVED. GIVEN WITH THE SEED: THE CARDS: each row of YtiidkhfigifmjaaGreatDoorRows.lean that lists a variable, with what it lists TIED to the program's text (the seventh form; the later family's looks); each row that meets fmt, with fmt's text TOLD by the authors' own Lean function (tested against real Go, not proved from fmt's source: count such statements apart). THE CARD IS WHAT COUNTS. Prove the row's statement (the work); the ties are given (YtiidkhfigifmjaaGreatDoorTie.lean); close each card by the builder's one call (the guide's Derived/Test/ToyasCard.lean, 'card_holds'). Laid BY PROGRAM, IN A SANDBOX (cutbox-door.mjs). By AI agents, Wed Nov 11 2026. No macro, syntax, notation, axiom, sorry.
-/
import Derived.Test.YtiidkhfigifmjaaGreatDoorRows
import GoSem.ClaimSeven
namespace Go.Proofs.YtiidkhfigifmjaaGreatDoor
namespace Rows

/-- THE TIED CARD OF 'laws.FnStep'. -/
def fnStepCard : Claim7 := { stood := { row := fnStepRow, standIns := [], harness := (true, "217fed1aa2bfdd9108ffa142528c5146f9e84b3dc0b93ffcecf6a7e454b3d4f4"), looks := false }, kinds := [], alts := [], laidByText := true, laidKinds := [.data, .data, .data, .data], laidTests := true, laidLooks := .later }
def FnStepCardSaid : Prop := Claim7.holds Tryz.pinned (.plain (OpenSpec.ofChange fnStepSpec)) fnStepCard

/-- THE TIED CARD OF 'laws.FnCalls'. -/
def fnCallsCard : Claim7 := { stood := { row := fnCallsRow, standIns := [], harness := (true, "217fed1aa2bfdd9108ffa142528c5146f9e84b3dc0b93ffcecf6a7e454b3d4f4"), looks := false }, kinds := [], alts := [], laidByText := true, laidKinds := [.data, .data, .data], laidTests := true, laidLooks := .later }
def FnCallsCardSaid : Prop := Claim7.holds Tryz.pinned (.plain (OpenSpec.ofChange fnCallsSpec)) fnCallsCard

/-- THE TIED CARD OF 'laws.FnExactStepCpu'. -/
def fnExactStepCpuCard : Claim7 := { stood := { row := fnExactStepCpuRow, standIns := [], harness := (true, "217fed1aa2bfdd9108ffa142528c5146f9e84b3dc0b93ffcecf6a7e454b3d4f4"), looks := false }, kinds := [], alts := [], laidByText := true, laidKinds := [.data, .data, .data], laidTests := true, laidLooks := .later }
def FnExactStepCpuCardSaid : Prop := Claim7.holds Tryz.pinned (.plain (OpenSpec.ofChange fnExactStepCpuSpec)) fnExactStepCpuCard

/-- THE SECOND FORM's CARD OF 'laws.FnStep'. -/
def fnStepUptoCard : Claim7 := { stood := { row := fnStepUptoRow, standIns := [], harness := (true, "217fed1aa2bfdd9108ffa142528c5146f9e84b3dc0b93ffcecf6a7e454b3d4f4"), looks := false }, kinds := [], alts := [], laidByText := true, laidKinds := [.data, .data, .data, .data], laidTests := true, laidLooks := .later }
def FnStepUptoCardSaid : Prop := Claim7.holds Tryz.pinned (.plain (OpenSpec.upto fnStepSpec)) fnStepUptoCard

/-- THE SECOND FORM's CARD OF 'laws.FnCalls'. -/
def fnCallsUptoCard : Claim7 := { stood := { row := fnCallsUptoRow, standIns := [], harness := (true, "217fed1aa2bfdd9108ffa142528c5146f9e84b3dc0b93ffcecf6a7e454b3d4f4"), looks := false }, kinds := [], alts := [], laidByText := true, laidKinds := [.data, .data, .data], laidTests := true, laidLooks := .later }
def FnCallsUptoCardSaid : Prop := Claim7.holds Tryz.pinned (.plain (OpenSpec.upto fnCallsSpec)) fnCallsUptoCard

/-- THE SECOND FORM's CARD OF 'laws.FnExactStepCpu'. -/
def fnExactStepCpuUptoCard : Claim7 := { stood := { row := fnExactStepCpuUptoRow, standIns := [], harness := (true, "217fed1aa2bfdd9108ffa142528c5146f9e84b3dc0b93ffcecf6a7e454b3d4f4"), looks := false }, kinds := [], alts := [], laidByText := true, laidKinds := [.data, .data, .data], laidTests := true, laidLooks := .later }
def FnExactStepCpuUptoCardSaid : Prop := Claim7.holds Tryz.pinned (.plain (OpenSpec.upto fnExactStepCpuSpec)) fnExactStepCpuUptoCard
end Rows
end Go.Proofs.YtiidkhfigifmjaaGreatDoor
