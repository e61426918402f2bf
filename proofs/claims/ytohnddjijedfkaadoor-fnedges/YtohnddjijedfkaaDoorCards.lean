/-
  DERIVED. GIVEN WITH THE SEED: THE CARDS: each row of YtohnddjijedfkaaDoorRows.lean that lists a variable, with what it lists TIED to the program's text (the seventh form; the later family's looks); each row that meets fmt, with fmt's text TOLD by the authors' own Lean function (tested against real Go, not proved from fmt's source: count such statements apart). THE CARD IS WHAT COUNTS. Prove the row's statement (the work); the ties are given (YtohnddjijedfkaaDoorTie.lean); close each card by the builder's one call (the guide's Derived/Test/ToyasCard.lean, 'card_holds'). Laid BY PROGRAM, IN A SANDBOX (cutbox-door.mjs). By AI agents, Wed Nov 11 2026. No macro, syntax, notation, axiom, sorry.
-/
import Derived.Test.YtohnddjijedfkaaDoorRows
import GoSem.ClaimSeven
namespace Go.Proofs.YtohnddjijedfkaaDoor
namespace Rows

/-- THE TIED CARD OF 'laws.FnEdges'. -/
def fnEdgesCard : Claim7 := { stood := { row := fnEdgesRow, standIns := [], harness := (true, "0dddc2629d78ce3c5efc0c7bacb79f03ba4172ada74d43af41a95bd484dfd52a"), looks := false }, kinds := [], alts := [], laidByText := true, laidKinds := [.data], laidTests := true, laidLooks := .later }
def FnEdgesCardSaid : Prop := Claim7.holds Tryd.pinned (.plain (OpenSpec.ofChange fnEdgesSpec)) fnEdgesCard

/-- THE TIED CARD OF 'laws.FnExactNewDeck'. -/
def fnExactNewDeckCard : Claim7 := { stood := { row := fnExactNewDeckRow, standIns := [], harness := (true, "0dddc2629d78ce3c5efc0c7bacb79f03ba4172ada74d43af41a95bd484dfd52a"), looks := false }, kinds := [], alts := [], laidByText := true, laidKinds := [.data], laidTests := true, laidLooks := .later }
def FnExactNewDeckCardSaid : Prop := Claim7.holds Tryd.pinned (.plain (OpenSpec.ofChange fnExactNewDeckSpec)) fnExactNewDeckCard

/-- THE SECOND FORM's CARD OF 'laws.FnEdges'. -/
def fnEdgesUptoCard : Claim7 := { stood := { row := fnEdgesUptoRow, standIns := [], harness := (true, "0dddc2629d78ce3c5efc0c7bacb79f03ba4172ada74d43af41a95bd484dfd52a"), looks := false }, kinds := [], alts := [], laidByText := true, laidKinds := [.data], laidTests := true, laidLooks := .later }
def FnEdgesUptoCardSaid : Prop := Claim7.holds Tryd.pinned (.plain (OpenSpec.upto fnEdgesSpec)) fnEdgesUptoCard

/-- THE SECOND FORM's CARD OF 'laws.FnExactNewDeck'. -/
def fnExactNewDeckUptoCard : Claim7 := { stood := { row := fnExactNewDeckUptoRow, standIns := [], harness := (true, "0dddc2629d78ce3c5efc0c7bacb79f03ba4172ada74d43af41a95bd484dfd52a"), looks := false }, kinds := [], alts := [], laidByText := true, laidKinds := [.data], laidTests := true, laidLooks := .later }
def FnExactNewDeckUptoCardSaid : Prop := Claim7.holds Tryd.pinned (.plain (OpenSpec.upto fnExactNewDeckSpec)) fnExactNewDeckUptoCard
end Rows
end Go.Proofs.YtohnddjijedfkaaDoor
