/-
  DERIVED. GIVEN WITH THE SEED: THE CARDS: each row of YtffogcielohoeabDoorRows.lean that lists a variable, with what it lists TIED to the program's text (the seventh form; the later family's looks); each row that meets fmt, with fmt's text TOLD by the authors' own Lean function (tested against real Go, not proved from fmt's source: count such statements apart). THE CARD IS WHAT COUNTS. Prove the row's statement (the work); the ties are given (YtffogcielohoeabDoorTie.lean); close each card by the builder's one call (the guide's Derived/Test/ToyasCard.lean, 'card_holds'). Laid BY PROGRAM, IN A SANDBOX (cutbox-door.mjs). By AI agents, Wed Nov 11 2026. No macro, syntax, notation, axiom, sorry.
-/
import Derived.Test.YtffogcielohoeabDoorRows
import GoSem.ClaimSeven
namespace Go.Proofs.YtffogcielohoeabDoor
namespace Rows

/-- THE TIED CARD OF 'laws.FnDaa'. -/
def fnDaaCard : Claim7 := { stood := { row := fnDaaRow, standIns := [], harness := (true, "645a8409f4b13cc95cb344da8635f2780cb187c655af7a147a3113b7d411ee5a"), looks := false }, kinds := [], alts := [], laidByText := true, laidKinds := [.data], laidTests := true, laidLooks := .later }
def FnDaaCardSaid : Prop := Claim7.holds Tryd.pinned (.plain (OpenSpec.ofChange fnDaaSpec)) fnDaaCard

/-- THE SECOND FORM's CARD OF 'laws.FnDaa'. -/
def fnDaaUptoCard : Claim7 := { stood := { row := fnDaaUptoRow, standIns := [], harness := (true, "645a8409f4b13cc95cb344da8635f2780cb187c655af7a147a3113b7d411ee5a"), looks := false }, kinds := [], alts := [], laidByText := true, laidKinds := [.data], laidTests := true, laidLooks := .later }
def FnDaaUptoCardSaid : Prop := Claim7.holds Tryd.pinned (.plain (OpenSpec.upto fnDaaSpec)) fnDaaUptoCard
end Rows
end Go.Proofs.YtffogcielohoeabDoor
