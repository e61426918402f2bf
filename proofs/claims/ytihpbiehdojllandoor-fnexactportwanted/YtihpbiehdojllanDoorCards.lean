/-
  DERIVED. GIVEN WITH THE SEED: THE CARDS: each row of YtihpbiehdojllanDoorRows.lean that lists a variable, with what it lists TIED to the program's text (the seventh form; the later family's looks); each row that meets fmt, with fmt's text TOLD by the authors' own Lean function (tested against real Go, not proved from fmt's source: count such statements apart). THE CARD IS WHAT COUNTS. Prove the row's statement (the work); the ties are given (YtihpbiehdojllanDoorTie.lean); close each card by the builder's one call (the guide's Derived/Test/ToyasCard.lean, 'card_holds'). Laid BY PROGRAM, IN A SANDBOX (cutbox-door.mjs). By AI agents, Wed Nov 11 2026. No macro, syntax, notation, axiom, sorry.
-/
import Derived.Test.YtihpbiehdojllanDoorRows
import GoSem.ClaimSeven
namespace Go.Proofs.YtihpbiehdojllanDoor
namespace Rows

/-- THE TIED CARD OF 'laws.FnExactPortWanted'. -/
def fnExactPortWantedCard : Claim7 := { stood := { row := fnExactPortWantedRow, standIns := [], harness := (true, "4a8965920937b98082a505bd692a0bec024b2c123d951a920efb36ed2d124275"), looks := false }, kinds := [], alts := [], laidByText := true, laidKinds := [.data], laidTests := true, laidLooks := .later }
def FnExactPortWantedCardSaid : Prop := Claim7.holds Tryd.pinned (.plain (OpenSpec.ofChange fnExactPortWantedSpec)) fnExactPortWantedCard

/-- THE TIED CARD OF 'laws.FnExactHolds'. -/
def fnExactHoldsCard : Claim7 := { stood := { row := fnExactHoldsRow, standIns := [], harness := (true, "4a8965920937b98082a505bd692a0bec024b2c123d951a920efb36ed2d124275"), looks := false }, kinds := [], alts := [], laidByText := true, laidKinds := [.data], laidTests := true, laidLooks := .later }
def FnExactHoldsCardSaid : Prop := Claim7.holds Tryd.pinned (.plain (OpenSpec.ofChange fnExactHoldsSpec)) fnExactHoldsCard

/-- THE SECOND FORM's CARD OF 'laws.FnExactPortWanted'. -/
def fnExactPortWantedUptoCard : Claim7 := { stood := { row := fnExactPortWantedUptoRow, standIns := [], harness := (true, "4a8965920937b98082a505bd692a0bec024b2c123d951a920efb36ed2d124275"), looks := false }, kinds := [], alts := [], laidByText := true, laidKinds := [.data], laidTests := true, laidLooks := .later }
def FnExactPortWantedUptoCardSaid : Prop := Claim7.holds Tryd.pinned (.plain (OpenSpec.upto fnExactPortWantedSpec)) fnExactPortWantedUptoCard

/-- THE SECOND FORM's CARD OF 'laws.FnExactHolds'. -/
def fnExactHoldsUptoCard : Claim7 := { stood := { row := fnExactHoldsUptoRow, standIns := [], harness := (true, "4a8965920937b98082a505bd692a0bec024b2c123d951a920efb36ed2d124275"), looks := false }, kinds := [], alts := [], laidByText := true, laidKinds := [.data], laidTests := true, laidLooks := .later }
def FnExactHoldsUptoCardSaid : Prop := Claim7.holds Tryd.pinned (.plain (OpenSpec.upto fnExactHoldsSpec)) fnExactHoldsUptoCard
end Rows
end Go.Proofs.YtihpbiehdojllanDoor
