/-
  DERIVED. GIVEN WITH THE SEED: THE CARDS: each row of YtifcdojaocndhaaDoorRows.lean that lists a variable, with what it lists TIED to the program's text (the seventh form; the later family's looks); each row that meets fmt, with fmt's text TOLD by the authors' own Lean function (tested against real Go, not proved from fmt's source: count such statements apart). THE CARD IS WHAT COUNTS. Prove the row's statement (the work); the ties are given (YtifcdojaocndhaaDoorTie.lean); close each card by the builder's one call (the guide's Derived/Test/ToyasCard.lean, 'card_holds'). Laid BY PROGRAM, IN A SANDBOX (cutbox-door.mjs). By AI agents, Wed Nov 11 2026. No macro, syntax, notation, axiom, sorry.
-/
import Derived.Test.YtifcdojaocndhaaDoorRows
import GoSem.ClaimSeven
namespace Go.Proofs.YtifcdojaocndhaaDoor
namespace Rows

/-- THE TIED CARD OF 'laws.FnExactNewMachine'. -/
def fnExactNewMachineCard : Claim7 := { stood := { row := fnExactNewMachineRow, standIns := [], harness := (true, "ab0154dccf69defa666eeb11ad642108cf8128a2d2b4d2fdad85ccd2c7d63f50"), looks := false }, kinds := [], alts := [], laidByText := true, laidKinds := [.data, .data], laidTests := true, laidLooks := .later }
def FnExactNewMachineCardSaid : Prop := Claim7.holds Tryd.pinned (.plain (OpenSpec.ofChange fnExactNewMachineSpec)) fnExactNewMachineCard

/-- THE TIED CARD OF 'laws.FnExactCyclesTime'. -/
def fnExactCyclesTimeCard : Claim7 := { stood := { row := fnExactCyclesTimeRow, standIns := [], harness := (true, "ab0154dccf69defa666eeb11ad642108cf8128a2d2b4d2fdad85ccd2c7d63f50"), looks := false }, kinds := [], alts := [], laidByText := true, laidKinds := [.data, .data, .data], laidTests := true, laidLooks := .later }
def FnExactCyclesTimeCardSaid : Prop := Claim7.holds Tryd.pinned (.plain (OpenSpec.ofChange fnExactCyclesTimeSpec)) fnExactCyclesTimeCard

/-- THE TIED CARD OF 'laws.FnExactPortValue'. -/
def fnExactPortValueCard : Claim7 := { stood := { row := fnExactPortValueRow, standIns := [], harness := (true, "ab0154dccf69defa666eeb11ad642108cf8128a2d2b4d2fdad85ccd2c7d63f50"), looks := false }, kinds := [], alts := [], laidByText := true, laidKinds := [.data, .data], laidTests := true, laidLooks := .later }
def FnExactPortValueCardSaid : Prop := Claim7.holds Tryd.pinned (.plain (OpenSpec.ofChange fnExactPortValueSpec)) fnExactPortValueCard

/-- THE TIED CARD OF 'laws.FnExactSameMachine'. -/
def fnExactSameMachineCard : Claim7 := { stood := { row := fnExactSameMachineRow, standIns := [], harness := (true, "ab0154dccf69defa666eeb11ad642108cf8128a2d2b4d2fdad85ccd2c7d63f50"), looks := false }, kinds := [], alts := [], laidByText := true, laidKinds := [.data], laidTests := true, laidLooks := .later }
def FnExactSameMachineCardSaid : Prop := Claim7.holds Tryd.pinned (.plain (OpenSpec.ofChange fnExactSameMachineSpec)) fnExactSameMachineCard

/-- THE SECOND FORM's CARD OF 'laws.FnExactNewMachine'. -/
def fnExactNewMachineUptoCard : Claim7 := { stood := { row := fnExactNewMachineUptoRow, standIns := [], harness := (true, "ab0154dccf69defa666eeb11ad642108cf8128a2d2b4d2fdad85ccd2c7d63f50"), looks := false }, kinds := [], alts := [], laidByText := true, laidKinds := [.data, .data], laidTests := true, laidLooks := .later }
def FnExactNewMachineUptoCardSaid : Prop := Claim7.holds Tryd.pinned (.plain (OpenSpec.upto fnExactNewMachineSpec)) fnExactNewMachineUptoCard

/-- THE SECOND FORM's CARD OF 'laws.FnExactCyclesTime'. -/
def fnExactCyclesTimeUptoCard : Claim7 := { stood := { row := fnExactCyclesTimeUptoRow, standIns := [], harness := (true, "ab0154dccf69defa666eeb11ad642108cf8128a2d2b4d2fdad85ccd2c7d63f50"), looks := false }, kinds := [], alts := [], laidByText := true, laidKinds := [.data, .data, .data], laidTests := true, laidLooks := .later }
def FnExactCyclesTimeUptoCardSaid : Prop := Claim7.holds Tryd.pinned (.plain (OpenSpec.upto fnExactCyclesTimeSpec)) fnExactCyclesTimeUptoCard

/-- THE SECOND FORM's CARD OF 'laws.FnExactPortValue'. -/
def fnExactPortValueUptoCard : Claim7 := { stood := { row := fnExactPortValueUptoRow, standIns := [], harness := (true, "ab0154dccf69defa666eeb11ad642108cf8128a2d2b4d2fdad85ccd2c7d63f50"), looks := false }, kinds := [], alts := [], laidByText := true, laidKinds := [.data, .data], laidTests := true, laidLooks := .later }
def FnExactPortValueUptoCardSaid : Prop := Claim7.holds Tryd.pinned (.plain (OpenSpec.upto fnExactPortValueSpec)) fnExactPortValueUptoCard

/-- THE SECOND FORM's CARD OF 'laws.FnExactSameMachine'. -/
def fnExactSameMachineUptoCard : Claim7 := { stood := { row := fnExactSameMachineUptoRow, standIns := [], harness := (true, "ab0154dccf69defa666eeb11ad642108cf8128a2d2b4d2fdad85ccd2c7d63f50"), looks := false }, kinds := [], alts := [], laidByText := true, laidKinds := [.data], laidTests := true, laidLooks := .later }
def FnExactSameMachineUptoCardSaid : Prop := Claim7.holds Tryd.pinned (.plain (OpenSpec.upto fnExactSameMachineSpec)) fnExactSameMachineUptoCard
end Rows
end Go.Proofs.YtifcdojaocndhaaDoor
