/-
  DERIVED. GIVEN WITH THE SEED: THE CARDS: each row of YtiidkhfigifmjaaDoorRows.lean that lists a variable, with what it lists TIED to the program's text (the seventh form; the later family's looks); each row that meets fmt, with fmt's text TOLD by the authors' own Lean function (tested against real Go, not proved from fmt's source: count such statements apart). THE CARD IS WHAT COUNTS. Prove the row's statement (the work); the ties are given (YtiidkhfigifmjaaDoorTie.lean); close each card by the builder's one call (the guide's Derived/Test/ToyasCard.lean, 'card_holds'). Laid BY PROGRAM, IN A SANDBOX (cutbox-door.mjs). By AI agents, Wed Nov 11 2026. No macro, syntax, notation, axiom, sorry.
-/
import Derived.Test.YtiidkhfigifmjaaDoorRows
import GoSem.ClaimSeven
namespace Go.Proofs.YtiidkhfigifmjaaDoor
namespace Rows

/-- THE TIED CARD OF 'laws.FnHolds'. -/
def fnHoldsCard : Claim7 := { stood := { row := fnHoldsRow, standIns := [], harness := (true, "a16e6c49a1f406c4949ee5584d632e7d25353cb86f9744a59f708d841e41fb61"), looks := false }, kinds := [], alts := [], laidByText := true, laidKinds := [.data], laidTests := true, laidLooks := .later }
def FnHoldsCardSaid : Prop := Claim7.holds Tryd.pinned (.plain (OpenSpec.ofChange fnHoldsSpec)) fnHoldsCard

/-- THE SECOND FORM's CARD OF 'laws.FnHolds'. -/
def fnHoldsUptoCard : Claim7 := { stood := { row := fnHoldsUptoRow, standIns := [], harness := (true, "a16e6c49a1f406c4949ee5584d632e7d25353cb86f9744a59f708d841e41fb61"), looks := false }, kinds := [], alts := [], laidByText := true, laidKinds := [.data], laidTests := true, laidLooks := .later }
def FnHoldsUptoCardSaid : Prop := Claim7.holds Tryd.pinned (.plain (OpenSpec.upto fnHoldsSpec)) fnHoldsUptoCard
end Rows
end Go.Proofs.YtiidkhfigifmjaaDoor
