/-
  DERIVED. GIVEN WITH THE SEED: THE CARDS: each row of YthffhfafnohndaaDoorRows.lean that lists a variable, with what it lists TIED to the program's text (the seventh form; the later family's looks); each row that meets fmt, with fmt's text TOLD by the authors' own Lean function (tested against real Go, not proved from fmt's source: count such statements apart). THE CARD IS WHAT COUNTS. Prove the row's statement (the work); the ties are given (YthffhfafnohndaaDoorTie.lean); close each card by the builder's one call (the guide's Derived/Test/ToyasCard.lean, 'card_holds'). Laid BY PROGRAM, IN A SANDBOX (cutbox-door.mjs). By AI agents, Wed Nov 11 2026. No macro, syntax, notation, axiom, sorry.
-/
import Derived.Test.YthffhfafnohndaaDoorRows
import GoSem.ClaimSeven
namespace Go.Proofs.YthffhfafnohndaaDoor
namespace Rows

/-- THE TIED CARD OF 'laws.FnWords'. -/
def fnWordsCard : Claim7 := { stood := { row := fnWordsRow, standIns := [], harness := (true, "9ada55687ba81acc2cb3668347907accf76dfcceb5323489e8112f487a6dbda1"), looks := true }, kinds := [], alts := [], laidByText := true, laidKinds := [.sentinel, .sentinel, .sentinel], laidTests := true, laidLooks := .later }
def FnWordsCardSaid : Prop := Claim7.holds Tryd.pinned (.plain (OpenSpec.ofChange fnWordsSpec)) fnWordsCard

/-- THE TIED CARD OF 'laws.FnTap'. -/
def fnTapCard : Claim7 := { stood := { row := fnTapRow, standIns := [], harness := (true, "9ada55687ba81acc2cb3668347907accf76dfcceb5323489e8112f487a6dbda1"), looks := true }, kinds := [], alts := [], laidByText := true, laidKinds := [.sentinel, .sentinel, .sentinel, .sentinel, .sentinel, .sentinel], laidTests := true, laidLooks := .later }
def FnTapCardSaid : Prop := Claim7.holds Tryd.pinned (.plain (OpenSpec.ofChange fnTapSpec)) fnTapCard

/-- THE TIED CARD OF 'laws.FnExactTakeWord'. -/
def fnExactTakeWordCard : Claim7 := { stood := { row := fnExactTakeWordRow, standIns := [], harness := (true, "9ada55687ba81acc2cb3668347907accf76dfcceb5323489e8112f487a6dbda1"), looks := true }, kinds := [], alts := [], laidByText := true, laidKinds := [.sentinel, .sentinel, .sentinel], laidTests := true, laidLooks := .later }
def FnExactTakeWordCardSaid : Prop := Claim7.holds Tryd.pinned (.plain (OpenSpec.ofChange fnExactTakeWordSpec)) fnExactTakeWordCard

/-- THE SECOND FORM's CARD OF 'laws.FnWords'. -/
def fnWordsUptoCard : Claim7 := { stood := { row := fnWordsUptoRow, standIns := [], harness := (true, "9ada55687ba81acc2cb3668347907accf76dfcceb5323489e8112f487a6dbda1"), looks := true }, kinds := [], alts := [], laidByText := true, laidKinds := [.sentinel, .sentinel, .sentinel], laidTests := true, laidLooks := .later }
def FnWordsUptoCardSaid : Prop := Claim7.holds Tryd.pinned (.plain (OpenSpec.upto fnWordsSpec)) fnWordsUptoCard

/-- THE SECOND FORM's CARD OF 'laws.FnTap'. -/
def fnTapUptoCard : Claim7 := { stood := { row := fnTapUptoRow, standIns := [], harness := (true, "9ada55687ba81acc2cb3668347907accf76dfcceb5323489e8112f487a6dbda1"), looks := true }, kinds := [], alts := [], laidByText := true, laidKinds := [.sentinel, .sentinel, .sentinel, .sentinel, .sentinel, .sentinel], laidTests := true, laidLooks := .later }
def FnTapUptoCardSaid : Prop := Claim7.holds Tryd.pinned (.plain (OpenSpec.upto fnTapSpec)) fnTapUptoCard

/-- THE SECOND FORM's CARD OF 'laws.FnExactTakeWord'. -/
def fnExactTakeWordUptoCard : Claim7 := { stood := { row := fnExactTakeWordUptoRow, standIns := [], harness := (true, "9ada55687ba81acc2cb3668347907accf76dfcceb5323489e8112f487a6dbda1"), looks := true }, kinds := [], alts := [], laidByText := true, laidKinds := [.sentinel, .sentinel, .sentinel], laidTests := true, laidLooks := .later }
def FnExactTakeWordUptoCardSaid : Prop := Claim7.holds Tryd.pinned (.plain (OpenSpec.upto fnExactTakeWordSpec)) fnExactTakeWordUptoCard
end Rows
end Go.Proofs.YthffhfafnohndaaDoor
