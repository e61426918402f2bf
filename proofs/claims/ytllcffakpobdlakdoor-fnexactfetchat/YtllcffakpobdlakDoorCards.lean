/-
  DERIVED. GIVEN WITH THE SEED: THE CARDS: each row of YtllcffakpobdlakDoorRows.lean that lists a variable, with what it lists TIED to the program's text (the seventh form; the later family's looks); each row that meets fmt, with fmt's text TOLD by the authors' own Lean function (tested against real Go, not proved from fmt's source: count such statements apart). THE CARD IS WHAT COUNTS. Prove the row's statement (the work); the ties are given (YtllcffakpobdlakDoorTie.lean); close each card by the builder's one call (the guide's Derived/Test/ToyasCard.lean, 'card_holds'). Laid BY PROGRAM, IN A SANDBOX (cutbox-door.mjs). By AI agents, Wed Nov 11 2026. No macro, syntax, notation, axiom, sorry.
-/
import Derived.Test.YtllcffakpobdlakDoorRows
import GoSem.ClaimSeven
namespace Go.Proofs.YtllcffakpobdlakDoor
namespace Rows

/-- THE TIED CARD OF 'laws.FnExactWaitTable'. -/
def fnExactWaitTableCard : Claim7 := { stood := { row := fnExactWaitTableRow, standIns := [], harness := (true, "d1ce263f5ff223d112914745c6c0c8ffa81b14378c78abb2863b42f1c96c0134"), looks := false }, kinds := [], alts := [], laidByText := true, laidKinds := [.data], laidTests := true, laidLooks := .later }
def FnExactWaitTableCardSaid : Prop := Claim7.holds Tryd.pinned (.plain (OpenSpec.ofChange fnExactWaitTableSpec)) fnExactWaitTableCard

/-- THE TIED CARD OF 'laws.FnExactFetchAt'. -/
def fnExactFetchAtCard : Claim7 := { stood := { row := fnExactFetchAtRow, standIns := [], harness := (true, "d1ce263f5ff223d112914745c6c0c8ffa81b14378c78abb2863b42f1c96c0134"), looks := false }, kinds := [], alts := [], laidByText := true, laidKinds := [.data], laidTests := true, laidLooks := .later }
def FnExactFetchAtCardSaid : Prop := Claim7.holds Tryd.pinned (.plain (OpenSpec.ofChange fnExactFetchAtSpec)) fnExactFetchAtCard

/-- THE SECOND FORM's CARD OF 'laws.FnExactWaitTable'. -/
def fnExactWaitTableUptoCard : Claim7 := { stood := { row := fnExactWaitTableUptoRow, standIns := [], harness := (true, "d1ce263f5ff223d112914745c6c0c8ffa81b14378c78abb2863b42f1c96c0134"), looks := false }, kinds := [], alts := [], laidByText := true, laidKinds := [.data], laidTests := true, laidLooks := .later }
def FnExactWaitTableUptoCardSaid : Prop := Claim7.holds Tryd.pinned (.plain (OpenSpec.upto fnExactWaitTableSpec)) fnExactWaitTableUptoCard

/-- THE SECOND FORM's CARD OF 'laws.FnExactFetchAt'. -/
def fnExactFetchAtUptoCard : Claim7 := { stood := { row := fnExactFetchAtUptoRow, standIns := [], harness := (true, "d1ce263f5ff223d112914745c6c0c8ffa81b14378c78abb2863b42f1c96c0134"), looks := false }, kinds := [], alts := [], laidByText := true, laidKinds := [.data], laidTests := true, laidLooks := .later }
def FnExactFetchAtUptoCardSaid : Prop := Claim7.holds Tryd.pinned (.plain (OpenSpec.upto fnExactFetchAtSpec)) fnExactFetchAtUptoCard
end Rows
end Go.Proofs.YtllcffakpobdlakDoor
