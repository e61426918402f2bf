/-
  DERIVED. GIVEN WITH THE SEED: THE CARDS: each row of YtaadobdanhpkkahDoorRows.lean that lists a variable, with what it lists TIED to the program's text (the seventh form; the later family's looks); each row that meets fmt, with fmt's text TOLD by the authors' own Lean function (tested against real Go, not proved from fmt's source: count such statements apart). THE CARD IS WHAT COUNTS. Prove the row's statement (the work); the ties are given (YtaadobdanhpkkahDoorTie.lean); close each card by the builder's one call (the guide's Derived/Test/ToyasCard.lean, 'card_holds'). Laid BY PROGRAM, IN A SANDBOX (cutbox-door.mjs). By AI agents, Wed Nov 11 2026. No macro, syntax, notation, axiom, sorry.
-/
import Derived.Test.YtaadobdanhpkkahDoorRows
import GoSem.ClaimSeven
namespace Go.Proofs.YtaadobdanhpkkahDoor
namespace Rows

/-- THE TIED CARD OF 'laws.FnExactTakeByte'. -/
def fnExactTakeByteCard : Claim7 := { stood := { row := fnExactTakeByteRow, standIns := [], harness := (true, "020d7e070bf1a853435248a457abb121d23d660fcff2bafa39ffb39cadd8c054"), looks := true }, kinds := [], alts := [], laidByText := true, laidKinds := [.sentinel, .sentinel, .sentinel], laidTests := true, laidLooks := .later }
def FnExactTakeByteCardSaid : Prop := Claim7.holds Tryd.pinned (.plain (OpenSpec.ofChange fnExactTakeByteSpec)) fnExactTakeByteCard

/-- THE TIED CARD OF 'laws.FnExactTakeWord'. -/
def fnExactTakeWordCard : Claim7 := { stood := { row := fnExactTakeWordRow, standIns := [], harness := (true, "020d7e070bf1a853435248a457abb121d23d660fcff2bafa39ffb39cadd8c054"), looks := true }, kinds := [], alts := [], laidByText := true, laidKinds := [.sentinel, .sentinel, .sentinel], laidTests := true, laidLooks := .later }
def FnExactTakeWordCardSaid : Prop := Claim7.holds Tryd.pinned (.plain (OpenSpec.ofChange fnExactTakeWordSpec)) fnExactTakeWordCard

/-- THE TIED CARD OF 'laws.FnExactTakeBytes'. -/
def fnExactTakeBytesCard : Claim7 := { stood := { row := fnExactTakeBytesRow, standIns := [], harness := (true, "020d7e070bf1a853435248a457abb121d23d660fcff2bafa39ffb39cadd8c054"), looks := true }, kinds := [], alts := [], laidByText := true, laidKinds := [.sentinel, .sentinel, .sentinel], laidTests := true, laidLooks := .later }
def FnExactTakeBytesCardSaid : Prop := Claim7.holds Tryd.pinned (.plain (OpenSpec.ofChange fnExactTakeBytesSpec)) fnExactTakeBytesCard

/-- THE SECOND FORM's CARD OF 'laws.FnExactTakeByte'. -/
def fnExactTakeByteUptoCard : Claim7 := { stood := { row := fnExactTakeByteUptoRow, standIns := [], harness := (true, "020d7e070bf1a853435248a457abb121d23d660fcff2bafa39ffb39cadd8c054"), looks := true }, kinds := [], alts := [], laidByText := true, laidKinds := [.sentinel, .sentinel, .sentinel], laidTests := true, laidLooks := .later }
def FnExactTakeByteUptoCardSaid : Prop := Claim7.holds Tryd.pinned (.plain (OpenSpec.upto fnExactTakeByteSpec)) fnExactTakeByteUptoCard

/-- THE SECOND FORM's CARD OF 'laws.FnExactTakeWord'. -/
def fnExactTakeWordUptoCard : Claim7 := { stood := { row := fnExactTakeWordUptoRow, standIns := [], harness := (true, "020d7e070bf1a853435248a457abb121d23d660fcff2bafa39ffb39cadd8c054"), looks := true }, kinds := [], alts := [], laidByText := true, laidKinds := [.sentinel, .sentinel, .sentinel], laidTests := true, laidLooks := .later }
def FnExactTakeWordUptoCardSaid : Prop := Claim7.holds Tryd.pinned (.plain (OpenSpec.upto fnExactTakeWordSpec)) fnExactTakeWordUptoCard

/-- THE SECOND FORM's CARD OF 'laws.FnExactTakeBytes'. -/
def fnExactTakeBytesUptoCard : Claim7 := { stood := { row := fnExactTakeBytesUptoRow, standIns := [], harness := (true, "020d7e070bf1a853435248a457abb121d23d660fcff2bafa39ffb39cadd8c054"), looks := true }, kinds := [], alts := [], laidByText := true, laidKinds := [.sentinel, .sentinel, .sentinel], laidTests := true, laidLooks := .later }
def FnExactTakeBytesUptoCardSaid : Prop := Claim7.holds Tryd.pinned (.plain (OpenSpec.upto fnExactTakeBytesSpec)) fnExactTakeBytesUptoCard
end Rows
end Go.Proofs.YtaadobdanhpkkahDoor
