/-
  DERIVED. GIVEN WITH THE SEED: THE CARDS: each row of YtllcffakpobdlajDoorRows.lean that lists a variable, with what it lists TIED to the program's text (the seventh form; the later family's looks); each row that meets fmt, with fmt's text TOLD by the authors' own Lean function (tested against real Go, not proved from fmt's source: count such statements apart). THE CARD IS WHAT COUNTS. Prove the row's statement (the work); the ties are given (YtllcffakpobdlajDoorTie.lean); close each card by the builder's one call (the guide's Derived/Test/ToyasCard.lean, 'card_holds'). Laid BY PROGRAM, IN A SANDBOX (cutbox-door.mjs). By AI agents, Wed Nov 11 2026. No macro, syntax, notation, axiom, sorry.
-/
import Derived.Test.YtllcffakpobdlajDoorRows
import GoSem.ClaimSeven
namespace Go.Proofs.YtllcffakpobdlajDoor
namespace Rows

/-- THE TIED CARD OF 'laws.FnExactTurn8'. -/
def fnExactTurn8Card : Claim7 := { stood := { row := fnExactTurn8Row, standIns := [], harness := (true, "6bf01f5c9d81ec0ee341b4f83a8779008257d4dca9218931dd9a540c521cd1c1"), looks := false }, kinds := [], alts := [], laidByText := true, laidKinds := [.data], laidTests := true, laidLooks := .later }
def FnExactTurn8CardSaid : Prop := Claim7.holds Tryd.pinned (.plain (OpenSpec.ofChange fnExactTurn8Spec)) fnExactTurn8Card

/-- THE TIED CARD OF 'laws.FnExactDaa8'. -/
def fnExactDaa8Card : Claim7 := { stood := { row := fnExactDaa8Row, standIns := [], harness := (true, "6bf01f5c9d81ec0ee341b4f83a8779008257d4dca9218931dd9a540c521cd1c1"), looks := false }, kinds := [], alts := [], laidByText := true, laidKinds := [.data], laidTests := true, laidLooks := .later }
def FnExactDaa8CardSaid : Prop := Claim7.holds Tryd.pinned (.plain (OpenSpec.ofChange fnExactDaa8Spec)) fnExactDaa8Card

/-- THE TIED CARD OF 'laws.FnExactWaitsAt'. -/
def fnExactWaitsAtCard : Claim7 := { stood := { row := fnExactWaitsAtRow, standIns := [], harness := (true, "6bf01f5c9d81ec0ee341b4f83a8779008257d4dca9218931dd9a540c521cd1c1"), looks := false }, kinds := [], alts := [], laidByText := true, laidKinds := [.data], laidTests := true, laidLooks := .later }
def FnExactWaitsAtCardSaid : Prop := Claim7.holds Tryd.pinned (.plain (OpenSpec.ofChange fnExactWaitsAtSpec)) fnExactWaitsAtCard

/-- THE SECOND FORM's CARD OF 'laws.FnExactTurn8'. -/
def fnExactTurn8UptoCard : Claim7 := { stood := { row := fnExactTurn8UptoRow, standIns := [], harness := (true, "6bf01f5c9d81ec0ee341b4f83a8779008257d4dca9218931dd9a540c521cd1c1"), looks := false }, kinds := [], alts := [], laidByText := true, laidKinds := [.data], laidTests := true, laidLooks := .later }
def FnExactTurn8UptoCardSaid : Prop := Claim7.holds Tryd.pinned (.plain (OpenSpec.upto fnExactTurn8Spec)) fnExactTurn8UptoCard

/-- THE SECOND FORM's CARD OF 'laws.FnExactDaa8'. -/
def fnExactDaa8UptoCard : Claim7 := { stood := { row := fnExactDaa8UptoRow, standIns := [], harness := (true, "6bf01f5c9d81ec0ee341b4f83a8779008257d4dca9218931dd9a540c521cd1c1"), looks := false }, kinds := [], alts := [], laidByText := true, laidKinds := [.data], laidTests := true, laidLooks := .later }
def FnExactDaa8UptoCardSaid : Prop := Claim7.holds Tryd.pinned (.plain (OpenSpec.upto fnExactDaa8Spec)) fnExactDaa8UptoCard

/-- THE SECOND FORM's CARD OF 'laws.FnExactWaitsAt'. -/
def fnExactWaitsAtUptoCard : Claim7 := { stood := { row := fnExactWaitsAtUptoRow, standIns := [], harness := (true, "6bf01f5c9d81ec0ee341b4f83a8779008257d4dca9218931dd9a540c521cd1c1"), looks := false }, kinds := [], alts := [], laidByText := true, laidKinds := [.data], laidTests := true, laidLooks := .later }
def FnExactWaitsAtUptoCardSaid : Prop := Claim7.holds Tryd.pinned (.plain (OpenSpec.upto fnExactWaitsAtSpec)) fnExactWaitsAtUptoCard
end Rows
end Go.Proofs.YtllcffakpobdlajDoor
