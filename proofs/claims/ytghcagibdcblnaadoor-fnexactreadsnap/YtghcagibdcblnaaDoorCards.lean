/-
  DERIVED. GIVEN WITH THE SEED: THE CARDS: each row of YtghcagibdcblnaaDoorRows.lean that lists a variable, with what it lists TIED to the program's text (the seventh form; the later family's looks); each row that meets fmt, with fmt's text TOLD by the authors' own Lean function (tested against real Go, not proved from fmt's source: count such statements apart). THE CARD IS WHAT COUNTS. Prove the row's statement (the work); the ties are given (YtghcagibdcblnaaDoorTie.lean); close each card by the builder's one call (the guide's Derived/Test/ToyasCard.lean, 'card_holds'). Laid BY PROGRAM, IN A SANDBOX (cutbox-door.mjs). By AI agents, Wed Nov 11 2026. No macro, syntax, notation, axiom, sorry.
-/
import Derived.Test.YtghcagibdcblnaaDoorRows
import GoSem.ClaimSeven
namespace Go.Proofs.YtghcagibdcblnaaDoor
namespace Rows

/-- THE TIED CARD OF 'laws.FnExactReadSnap'. -/
def fnExactReadSnapCard : Claim7 := { stood := { row := fnExactReadSnapRow, standIns := [], harness := (true, "3a8942cdf27c7f78ec37850e6823f5703615618033f46c873a0f590a7d361d24"), looks := true }, kinds := [], alts := [], laidByText := true, laidKinds := [.sentinel, .sentinel, .sentinel], laidTests := true, laidLooks := .later }
def FnExactReadSnapCardSaid : Prop := Claim7.holds Tryd.pinned (.plain (OpenSpec.ofChange fnExactReadSnapSpec)) fnExactReadSnapCard

/-- THE SECOND FORM's CARD OF 'laws.FnExactReadSnap'. -/
def fnExactReadSnapUptoCard : Claim7 := { stood := { row := fnExactReadSnapUptoRow, standIns := [], harness := (true, "3a8942cdf27c7f78ec37850e6823f5703615618033f46c873a0f590a7d361d24"), looks := true }, kinds := [], alts := [], laidByText := true, laidKinds := [.sentinel, .sentinel, .sentinel], laidTests := true, laidLooks := .later }
def FnExactReadSnapUptoCardSaid : Prop := Claim7.holds Tryd.pinned (.plain (OpenSpec.upto fnExactReadSnapSpec)) fnExactReadSnapUptoCard
end Rows
end Go.Proofs.YtghcagibdcblnaaDoor
