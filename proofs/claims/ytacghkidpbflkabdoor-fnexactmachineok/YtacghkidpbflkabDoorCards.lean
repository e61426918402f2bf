/-
  DERIVED. GIVEN WITH THE SEED: THE CARDS: each row of YtacghkidpbflkabDoorRows.lean that lists a variable, with what it lists TIED to the program's text (the seventh form; the later family's looks); each row that meets fmt, with fmt's text TOLD by the authors' own Lean function (tested against real Go, not proved from fmt's source: count such statements apart). THE CARD IS WHAT COUNTS. Prove the row's statement (the work); the ties are given (YtacghkidpbflkabDoorTie.lean); close each card by the builder's one call (the guide's Derived/Test/ToyasCard.lean, 'card_holds'). Laid BY PROGRAM, IN A SANDBOX (cutbox-door.mjs). By AI agents, Wed Nov 11 2026. No macro, syntax, notation, axiom, sorry.
-/
import Derived.Test.YtacghkidpbflkabDoorRows
import GoSem.ClaimSeven
namespace Go.Proofs.YtacghkidpbflkabDoor
namespace Rows

/-- THE TIED CARD OF 'laws.FnExactPortWanted'. -/
def fnExactPortWantedCard : Claim7 := { stood := { row := fnExactPortWantedRow, standIns := [], harness := (true, "1479e4b18c305760292fcc78cc766b369055742ea945e7caa36777990a338e4a"), looks := false }, kinds := [], alts := [], laidByText := true, laidKinds := [.data], laidTests := true, laidLooks := .later }
def FnExactPortWantedCardSaid : Prop := Claim7.holds Tryd.pinned (.plain (OpenSpec.ofChange fnExactPortWantedSpec)) fnExactPortWantedCard

/-- THE TIED CARD OF 'laws.FnExactNewMachine'. -/
def fnExactNewMachineCard : Claim7 := { stood := { row := fnExactNewMachineRow, standIns := [], harness := (true, "1479e4b18c305760292fcc78cc766b369055742ea945e7caa36777990a338e4a"), looks := false }, kinds := [], alts := [], laidByText := true, laidKinds := [.data, .data], laidTests := true, laidLooks := .later }
def FnExactNewMachineCardSaid : Prop := Claim7.holds Tryd.pinned (.plain (OpenSpec.ofChange fnExactNewMachineSpec)) fnExactNewMachineCard

/-- THE TIED CARD OF 'laws.FnExactMachineOK'. -/
def fnExactMachineOKCard : Claim7 := { stood := { row := fnExactMachineOKRow, standIns := [], harness := (true, "1479e4b18c305760292fcc78cc766b369055742ea945e7caa36777990a338e4a"), looks := false }, kinds := [], alts := [], laidByText := true, laidKinds := [.data], laidTests := true, laidLooks := .later }
def FnExactMachineOKCardSaid : Prop := Claim7.holds Tryd.pinned (.plain (OpenSpec.ofChange fnExactMachineOKSpec)) fnExactMachineOKCard

/-- THE TIED CARD OF 'laws.FnExactCyclesTime'. -/
def fnExactCyclesTimeCard : Claim7 := { stood := { row := fnExactCyclesTimeRow, standIns := [], harness := (true, "1479e4b18c305760292fcc78cc766b369055742ea945e7caa36777990a338e4a"), looks := false }, kinds := [], alts := [], laidByText := true, laidKinds := [.data, .data, .data], laidTests := true, laidLooks := .later }
def FnExactCyclesTimeCardSaid : Prop := Claim7.holds Tryd.pinned (.plain (OpenSpec.ofChange fnExactCyclesTimeSpec)) fnExactCyclesTimeCard

/-- THE TIED CARD OF 'laws.FnExactPortValue'. -/
def fnExactPortValueCard : Claim7 := { stood := { row := fnExactPortValueRow, standIns := [], harness := (true, "1479e4b18c305760292fcc78cc766b369055742ea945e7caa36777990a338e4a"), looks := false }, kinds := [], alts := [], laidByText := true, laidKinds := [.data, .data], laidTests := true, laidLooks := .later }
def FnExactPortValueCardSaid : Prop := Claim7.holds Tryd.pinned (.plain (OpenSpec.ofChange fnExactPortValueSpec)) fnExactPortValueCard

/-- THE SECOND FORM's CARD OF 'laws.FnExactPortWanted'. -/
def fnExactPortWantedUptoCard : Claim7 := { stood := { row := fnExactPortWantedUptoRow, standIns := [], harness := (true, "1479e4b18c305760292fcc78cc766b369055742ea945e7caa36777990a338e4a"), looks := false }, kinds := [], alts := [], laidByText := true, laidKinds := [.data], laidTests := true, laidLooks := .later }
def FnExactPortWantedUptoCardSaid : Prop := Claim7.holds Tryd.pinned (.plain (OpenSpec.upto fnExactPortWantedSpec)) fnExactPortWantedUptoCard

/-- THE SECOND FORM's CARD OF 'laws.FnExactNewMachine'. -/
def fnExactNewMachineUptoCard : Claim7 := { stood := { row := fnExactNewMachineUptoRow, standIns := [], harness := (true, "1479e4b18c305760292fcc78cc766b369055742ea945e7caa36777990a338e4a"), looks := false }, kinds := [], alts := [], laidByText := true, laidKinds := [.data, .data], laidTests := true, laidLooks := .later }
def FnExactNewMachineUptoCardSaid : Prop := Claim7.holds Tryd.pinned (.plain (OpenSpec.upto fnExactNewMachineSpec)) fnExactNewMachineUptoCard

/-- THE SECOND FORM's CARD OF 'laws.FnExactMachineOK'. -/
def fnExactMachineOKUptoCard : Claim7 := { stood := { row := fnExactMachineOKUptoRow, standIns := [], harness := (true, "1479e4b18c305760292fcc78cc766b369055742ea945e7caa36777990a338e4a"), looks := false }, kinds := [], alts := [], laidByText := true, laidKinds := [.data], laidTests := true, laidLooks := .later }
def FnExactMachineOKUptoCardSaid : Prop := Claim7.holds Tryd.pinned (.plain (OpenSpec.upto fnExactMachineOKSpec)) fnExactMachineOKUptoCard

/-- THE SECOND FORM's CARD OF 'laws.FnExactCyclesTime'. -/
def fnExactCyclesTimeUptoCard : Claim7 := { stood := { row := fnExactCyclesTimeUptoRow, standIns := [], harness := (true, "1479e4b18c305760292fcc78cc766b369055742ea945e7caa36777990a338e4a"), looks := false }, kinds := [], alts := [], laidByText := true, laidKinds := [.data, .data, .data], laidTests := true, laidLooks := .later }
def FnExactCyclesTimeUptoCardSaid : Prop := Claim7.holds Tryd.pinned (.plain (OpenSpec.upto fnExactCyclesTimeSpec)) fnExactCyclesTimeUptoCard

/-- THE SECOND FORM's CARD OF 'laws.FnExactPortValue'. -/
def fnExactPortValueUptoCard : Claim7 := { stood := { row := fnExactPortValueUptoRow, standIns := [], harness := (true, "1479e4b18c305760292fcc78cc766b369055742ea945e7caa36777990a338e4a"), looks := false }, kinds := [], alts := [], laidByText := true, laidKinds := [.data, .data], laidTests := true, laidLooks := .later }
def FnExactPortValueUptoCardSaid : Prop := Claim7.holds Tryd.pinned (.plain (OpenSpec.upto fnExactPortValueSpec)) fnExactPortValueUptoCard
end Rows
end Go.Proofs.YtacghkidpbflkabDoor
