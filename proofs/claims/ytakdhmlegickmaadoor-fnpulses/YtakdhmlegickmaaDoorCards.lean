/-
  DERIVED. GIVEN WITH THE SEED: THE CARDS: each row of YtakdhmlegickmaaDoorRows.lean that lists a variable, with what it lists TIED to the program's text (the seventh form; the later family's looks); each row that meets fmt, with fmt's text TOLD by the authors' own Lean function (tested against real Go, not proved from fmt's source: count such statements apart). THE CARD IS WHAT COUNTS. Prove the row's statement (the work); the ties are given (YtakdhmlegickmaaDoorTie.lean); close each card by the builder's one call (the guide's Derived/Test/ToyasCard.lean, 'card_holds'). Laid BY PROGRAM, IN A SANDBOX (cutbox-door.mjs). By AI agents, Wed Nov 11 2026. No macro, syntax, notation, axiom, sorry.
-/
import Derived.Test.YtakdhmlegickmaaDoorRows
import GoSem.ClaimSeven
namespace Go.Proofs.YtakdhmlegickmaaDoor
namespace Rows

/-- THE TIED CARD OF 'laws.FnTap'. -/
def fnTapCard : Claim7 := { stood := { row := fnTapRow, standIns := [], harness := (true, "4e42bb1bbe934f50015c4fccc9134a40d6455a45c6512a31e39d246b005dfc91"), looks := true }, kinds := [], alts := [], laidByText := true, laidKinds := [.sentinel, .sentinel, .sentinel, .sentinel, .sentinel, .sentinel], laidTests := true, laidLooks := .later }
def FnTapCardSaid : Prop := Claim7.holds Tryd.pinned (.plain (OpenSpec.ofChange fnTapSpec)) fnTapCard

/-- THE TIED CARD OF 'laws.FnPulses'. -/
def fnPulsesCard : Claim7 := { stood := { row := fnPulsesRow, standIns := [], harness := (true, "4e42bb1bbe934f50015c4fccc9134a40d6455a45c6512a31e39d246b005dfc91"), looks := true }, kinds := [], alts := [], laidByText := true, laidKinds := [.sentinel, .sentinel, .sentinel, .sentinel, .sentinel, .sentinel, .sentinel, .sentinel, .data], laidTests := true, laidLooks := .later }
def FnPulsesCardSaid : Prop := Claim7.holds Tryd.pinned (.plain (OpenSpec.ofChange fnPulsesSpec)) fnPulsesCard

/-- THE TIED CARD OF 'laws.FnExactReadTap'. -/
def fnExactReadTapCard : Claim7 := { stood := { row := fnExactReadTapRow, standIns := [], harness := (true, "4e42bb1bbe934f50015c4fccc9134a40d6455a45c6512a31e39d246b005dfc91"), looks := true }, kinds := [], alts := [], laidByText := true, laidKinds := [.sentinel, .sentinel, .sentinel, .sentinel, .sentinel, .sentinel], laidTests := true, laidLooks := .later }
def FnExactReadTapCardSaid : Prop := Claim7.holds Tryd.pinned (.plain (OpenSpec.ofChange fnExactReadTapSpec)) fnExactReadTapCard

/-- THE SECOND FORM's CARD OF 'laws.FnTap'. -/
def fnTapUptoCard : Claim7 := { stood := { row := fnTapUptoRow, standIns := [], harness := (true, "4e42bb1bbe934f50015c4fccc9134a40d6455a45c6512a31e39d246b005dfc91"), looks := true }, kinds := [], alts := [], laidByText := true, laidKinds := [.sentinel, .sentinel, .sentinel, .sentinel, .sentinel, .sentinel], laidTests := true, laidLooks := .later }
def FnTapUptoCardSaid : Prop := Claim7.holds Tryd.pinned (.plain (OpenSpec.upto fnTapSpec)) fnTapUptoCard

/-- THE SECOND FORM's CARD OF 'laws.FnPulses'. -/
def fnPulsesUptoCard : Claim7 := { stood := { row := fnPulsesUptoRow, standIns := [], harness := (true, "4e42bb1bbe934f50015c4fccc9134a40d6455a45c6512a31e39d246b005dfc91"), looks := true }, kinds := [], alts := [], laidByText := true, laidKinds := [.sentinel, .sentinel, .sentinel, .sentinel, .sentinel, .sentinel, .sentinel, .sentinel, .data], laidTests := true, laidLooks := .later }
def FnPulsesUptoCardSaid : Prop := Claim7.holds Tryd.pinned (.plain (OpenSpec.upto fnPulsesSpec)) fnPulsesUptoCard

/-- THE SECOND FORM's CARD OF 'laws.FnExactReadTap'. -/
def fnExactReadTapUptoCard : Claim7 := { stood := { row := fnExactReadTapUptoRow, standIns := [], harness := (true, "4e42bb1bbe934f50015c4fccc9134a40d6455a45c6512a31e39d246b005dfc91"), looks := true }, kinds := [], alts := [], laidByText := true, laidKinds := [.sentinel, .sentinel, .sentinel, .sentinel, .sentinel, .sentinel], laidTests := true, laidLooks := .later }
def FnExactReadTapUptoCardSaid : Prop := Claim7.holds Tryd.pinned (.plain (OpenSpec.upto fnExactReadTapSpec)) fnExactReadTapUptoCard
end Rows
end Go.Proofs.YtakdhmlegickmaaDoor
