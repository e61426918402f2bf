/-
  DERIVED. GIVEN WITH THE SEED: THE CARDS: each row of YtakdhmlegickmabDoorRows.lean that lists a variable, with what it lists TIED to the program's text (the seventh form; the later family's looks); each row that meets fmt, with fmt's text TOLD by the authors' own Lean function (tested against real Go, not proved from fmt's source: count such statements apart). THE CARD IS WHAT COUNTS. Prove the row's statement (the work); the ties are given (YtakdhmlegickmabDoorTie.lean); close each card by the builder's one call (the guide's Derived/Test/ToyasCard.lean, 'card_holds'). Laid BY PROGRAM, IN A SANDBOX (cutbox-door.mjs). By AI agents, Wed Nov 11 2026. No macro, syntax, notation, axiom, sorry.
-/
import Derived.Test.YtakdhmlegickmabDoorRows
import GoSem.ClaimSeven
namespace Go.Proofs.YtakdhmlegickmabDoor
namespace Rows

/-- THE TIED CARD OF 'laws.FnExactPulsesOf'. -/
def fnExactPulsesOfCard : Claim7 := { stood := { row := fnExactPulsesOfRow, standIns := [], harness := (true, "2d48afefe72a76d00434fcb0abc3345c506d06d428a30ea4a3c026345147dd90"), looks := true }, kinds := [], alts := [], laidByText := true, laidKinds := [.data], laidTests := true, laidLooks := .later }
def FnExactPulsesOfCardSaid : Prop := Claim7.holds Tryd.pinned (.plain (OpenSpec.ofChange fnExactPulsesOfSpec)) fnExactPulsesOfCard

/-- THE TIED CARD OF 'laws.FnExactTapePulses'. -/
def fnExactTapePulsesCard : Claim7 := { stood := { row := fnExactTapePulsesRow, standIns := [], harness := (true, "2d48afefe72a76d00434fcb0abc3345c506d06d428a30ea4a3c026345147dd90"), looks := true }, kinds := [], alts := [], laidByText := true, laidKinds := [.data], laidTests := true, laidLooks := .later }
def FnExactTapePulsesCardSaid : Prop := Claim7.holds Tryd.pinned (.plain (OpenSpec.ofChange fnExactTapePulsesSpec)) fnExactTapePulsesCard

/-- THE TIED CARD OF 'laws.FnExactDecodePulses'. -/
def fnExactDecodePulsesCard : Claim7 := { stood := { row := fnExactDecodePulsesRow, standIns := [], harness := (true, "2d48afefe72a76d00434fcb0abc3345c506d06d428a30ea4a3c026345147dd90"), looks := true }, kinds := [], alts := [], laidByText := true, laidKinds := [.sentinel, .sentinel, .sentinel, .sentinel, .sentinel, .sentinel, .sentinel, .sentinel], laidTests := true, laidLooks := .later }
def FnExactDecodePulsesCardSaid : Prop := Claim7.holds Tryd.pinned (.plain (OpenSpec.ofChange fnExactDecodePulsesSpec)) fnExactDecodePulsesCard

/-- THE SECOND FORM's CARD OF 'laws.FnExactPulsesOf'. -/
def fnExactPulsesOfUptoCard : Claim7 := { stood := { row := fnExactPulsesOfUptoRow, standIns := [], harness := (true, "2d48afefe72a76d00434fcb0abc3345c506d06d428a30ea4a3c026345147dd90"), looks := true }, kinds := [], alts := [], laidByText := true, laidKinds := [.data], laidTests := true, laidLooks := .later }
def FnExactPulsesOfUptoCardSaid : Prop := Claim7.holds Tryd.pinned (.plain (OpenSpec.upto fnExactPulsesOfSpec)) fnExactPulsesOfUptoCard

/-- THE SECOND FORM's CARD OF 'laws.FnExactTapePulses'. -/
def fnExactTapePulsesUptoCard : Claim7 := { stood := { row := fnExactTapePulsesUptoRow, standIns := [], harness := (true, "2d48afefe72a76d00434fcb0abc3345c506d06d428a30ea4a3c026345147dd90"), looks := true }, kinds := [], alts := [], laidByText := true, laidKinds := [.data], laidTests := true, laidLooks := .later }
def FnExactTapePulsesUptoCardSaid : Prop := Claim7.holds Tryd.pinned (.plain (OpenSpec.upto fnExactTapePulsesSpec)) fnExactTapePulsesUptoCard

/-- THE SECOND FORM's CARD OF 'laws.FnExactDecodePulses'. -/
def fnExactDecodePulsesUptoCard : Claim7 := { stood := { row := fnExactDecodePulsesUptoRow, standIns := [], harness := (true, "2d48afefe72a76d00434fcb0abc3345c506d06d428a30ea4a3c026345147dd90"), looks := true }, kinds := [], alts := [], laidByText := true, laidKinds := [.sentinel, .sentinel, .sentinel, .sentinel, .sentinel, .sentinel, .sentinel, .sentinel], laidTests := true, laidLooks := .later }
def FnExactDecodePulsesUptoCardSaid : Prop := Claim7.holds Tryd.pinned (.plain (OpenSpec.upto fnExactDecodePulsesSpec)) fnExactDecodePulsesUptoCard
end Rows
end Go.Proofs.YtakdhmlegickmabDoor
