/-
  DERIVED. GIVEN WITH THE SEED: THE CARDS: each row of YtllcffakpobdlabDoorRows.lean that lists a variable, with what it lists TIED to the program's text (the seventh form; the later family's looks); each row that meets fmt, with fmt's text TOLD by the authors' own Lean function (tested against real Go, not proved from fmt's source: count such statements apart). THE CARD IS WHAT COUNTS. Prove the row's statement (the work); the ties are given (YtllcffakpobdlabDoorTie.lean); close each card by the builder's one call (the guide's Derived/Test/ToyasCard.lean, 'card_holds'). Laid BY PROGRAM, IN A SANDBOX (cutbox-door.mjs). By AI agents, Wed Nov 11 2026. No macro, syntax, notation, axiom, sorry.
-/
import Derived.Test.YtllcffakpobdlabDoorRows
import GoSem.ClaimSeven
namespace Go.Proofs.YtllcffakpobdlabDoor
namespace Rows

/-- THE TIED CARD OF 'laws.FnDaa'. -/
def fnDaaCard : Claim7 := { stood := { row := fnDaaRow, standIns := [], harness := (true, "80ab6a82729d8d06359cd2f19cec7c36fd82a2776d4b139b65be630574b6ce15"), looks := false }, kinds := [], alts := [], laidByText := true, laidKinds := [.data], laidTests := true, laidLooks := .later }
def FnDaaCardSaid : Prop := Claim7.holds Tryd.pinned (.plain (OpenSpec.ofChange fnDaaSpec)) fnDaaCard

/-- THE TIED CARD OF 'laws.FnFrame'. -/
def fnFrameCard : Claim7 := { stood := { row := fnFrameRow, standIns := [], harness := (true, "80ab6a82729d8d06359cd2f19cec7c36fd82a2776d4b139b65be630574b6ce15"), looks := false }, kinds := [], alts := [], laidByText := true, laidKinds := [.data], laidTests := true, laidLooks := .later }
def FnFrameCardSaid : Prop := Claim7.holds Tryd.pinned (.plain (OpenSpec.ofChange fnFrameSpec)) fnFrameCard

/-- THE TIED CARD OF 'laws.FnFetch'. -/
def fnFetchCard : Claim7 := { stood := { row := fnFetchRow, standIns := [], harness := (true, "80ab6a82729d8d06359cd2f19cec7c36fd82a2776d4b139b65be630574b6ce15"), looks := false }, kinds := [], alts := [], laidByText := true, laidKinds := [.data], laidTests := true, laidLooks := .later }
def FnFetchCardSaid : Prop := Claim7.holds Tryd.pinned (.plain (OpenSpec.ofChange fnFetchSpec)) fnFetchCard

/-- THE SECOND FORM's CARD OF 'laws.FnDaa'. -/
def fnDaaUptoCard : Claim7 := { stood := { row := fnDaaUptoRow, standIns := [], harness := (true, "80ab6a82729d8d06359cd2f19cec7c36fd82a2776d4b139b65be630574b6ce15"), looks := false }, kinds := [], alts := [], laidByText := true, laidKinds := [.data], laidTests := true, laidLooks := .later }
def FnDaaUptoCardSaid : Prop := Claim7.holds Tryd.pinned (.plain (OpenSpec.upto fnDaaSpec)) fnDaaUptoCard

/-- THE SECOND FORM's CARD OF 'laws.FnFrame'. -/
def fnFrameUptoCard : Claim7 := { stood := { row := fnFrameUptoRow, standIns := [], harness := (true, "80ab6a82729d8d06359cd2f19cec7c36fd82a2776d4b139b65be630574b6ce15"), looks := false }, kinds := [], alts := [], laidByText := true, laidKinds := [.data], laidTests := true, laidLooks := .later }
def FnFrameUptoCardSaid : Prop := Claim7.holds Tryd.pinned (.plain (OpenSpec.upto fnFrameSpec)) fnFrameUptoCard

/-- THE SECOND FORM's CARD OF 'laws.FnFetch'. -/
def fnFetchUptoCard : Claim7 := { stood := { row := fnFetchUptoRow, standIns := [], harness := (true, "80ab6a82729d8d06359cd2f19cec7c36fd82a2776d4b139b65be630574b6ce15"), looks := false }, kinds := [], alts := [], laidByText := true, laidKinds := [.data], laidTests := true, laidLooks := .later }
def FnFetchUptoCardSaid : Prop := Claim7.holds Tryd.pinned (.plain (OpenSpec.upto fnFetchSpec)) fnFetchUptoCard
end Rows
end Go.Proofs.YtllcffakpobdlabDoor
