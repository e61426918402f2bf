/-
  DERIVED. GIVEN WITH THE SEED: THE CARDS: each row of YthobggihlbcnmaaDoorRows.lean that lists a variable, with what it lists TIED to the program's text (the seventh form; the later family's looks); each row that meets fmt, with fmt's text TOLD by the authors' own Lean function (tested against real Go, not proved from fmt's source: count such statements apart). THE CARD IS WHAT COUNTS. Prove the row's statement (the work); the ties are given (YthobggihlbcnmaaDoorTie.lean); close each card by the builder's one call (the guide's Derived/Test/ToyasCard.lean, 'card_holds'). Laid BY PROGRAM, IN A SANDBOX (cutbox-door.mjs). By AI agents, Wed Nov 11 2026. No macro, syntax, notation, axiom, sorry.
-/
import Derived.Test.YthobggihlbcnmaaDoorRows
import GoSem.ClaimSeven
namespace Go.Proofs.YthobggihlbcnmaaDoor
namespace Rows

/-- THE TIED CARD OF 'laws.FnRle'. -/
def fnRleCard : Claim7 := { stood := { row := fnRleRow, standIns := [], harness := (true, "678541ed12069b84d6d2e7e008c503811c0fba6334cff1c88aad3de08cf1c454"), looks := true }, kinds := [], alts := [], laidByText := true, laidKinds := [.sentinel, .sentinel, .sentinel], laidTests := true, laidLooks := .later }
def FnRleCardSaid : Prop := Claim7.holds Tryd.pinned (.plain (OpenSpec.ofChange fnRleSpec)) fnRleCard

/-- THE TIED CARD OF 'laws.FnExactExpand'. -/
def fnExactExpandCard : Claim7 := { stood := { row := fnExactExpandRow, standIns := [], harness := (true, "678541ed12069b84d6d2e7e008c503811c0fba6334cff1c88aad3de08cf1c454"), looks := true }, kinds := [], alts := [], laidByText := true, laidKinds := [.sentinel, .sentinel, .sentinel], laidTests := true, laidLooks := .later }
def FnExactExpandCardSaid : Prop := Claim7.holds Tryd.pinned (.plain (OpenSpec.ofChange fnExactExpandSpec)) fnExactExpandCard

/-- THE SECOND FORM's CARD OF 'laws.FnRle'. -/
def fnRleUptoCard : Claim7 := { stood := { row := fnRleUptoRow, standIns := [], harness := (true, "678541ed12069b84d6d2e7e008c503811c0fba6334cff1c88aad3de08cf1c454"), looks := true }, kinds := [], alts := [], laidByText := true, laidKinds := [.sentinel, .sentinel, .sentinel], laidTests := true, laidLooks := .later }
def FnRleUptoCardSaid : Prop := Claim7.holds Tryd.pinned (.plain (OpenSpec.upto fnRleSpec)) fnRleUptoCard

/-- THE SECOND FORM's CARD OF 'laws.FnExactExpand'. -/
def fnExactExpandUptoCard : Claim7 := { stood := { row := fnExactExpandUptoRow, standIns := [], harness := (true, "678541ed12069b84d6d2e7e008c503811c0fba6334cff1c88aad3de08cf1c454"), looks := true }, kinds := [], alts := [], laidByText := true, laidKinds := [.sentinel, .sentinel, .sentinel], laidTests := true, laidLooks := .later }
def FnExactExpandUptoCardSaid : Prop := Claim7.holds Tryd.pinned (.plain (OpenSpec.upto fnExactExpandSpec)) fnExactExpandUptoCard
end Rows
end Go.Proofs.YthobggihlbcnmaaDoor
