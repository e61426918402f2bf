/-
  DERIVED. GIVEN WITH THE SEED: THE CARDS: each row of YthffhfafnohndabDoorRows.lean that lists a variable, with what it lists TIED to the program's text (the seventh form; the later family's looks); each row that meets fmt, with fmt's text TOLD by the authors' own Lean function (tested against real Go, not proved from fmt's source: count such statements apart). THE CARD IS WHAT COUNTS. Prove the row's statement (the work); the ties are given (YthffhfafnohndabDoorTie.lean); close each card by the builder's one call (the guide's Derived/Test/ToyasCard.lean, 'card_holds'). Laid BY PROGRAM, IN A SANDBOX (cutbox-door.mjs). By AI agents, Wed Nov 11 2026. No macro, syntax, notation, axiom, sorry.
-/
import Derived.Test.YthffhfafnohndabDoorRows
import GoSem.ClaimSeven
namespace Go.Proofs.YthffhfafnohndabDoor
namespace Rows

/-- THE TIED CARD OF 'laws.FnExactTakeBlock'. -/
def fnExactTakeBlockCard : Claim7 := { stood := { row := fnExactTakeBlockRow, standIns := [], harness := (true, "78acfcc75f578b1f155f604aa8567de29b90d67f1f5aeeab76121716d41df21f"), looks := true }, kinds := [], alts := [], laidByText := true, laidKinds := [.sentinel, .sentinel, .sentinel, .sentinel, .sentinel, .sentinel], laidTests := true, laidLooks := .later }
def FnExactTakeBlockCardSaid : Prop := Claim7.holds Tryd.pinned (.plain (OpenSpec.ofChange fnExactTakeBlockSpec)) fnExactTakeBlockCard

/-- THE TIED CARD OF 'laws.FnExactReadTap'. -/
def fnExactReadTapCard : Claim7 := { stood := { row := fnExactReadTapRow, standIns := [], harness := (true, "78acfcc75f578b1f155f604aa8567de29b90d67f1f5aeeab76121716d41df21f"), looks := true }, kinds := [], alts := [], laidByText := true, laidKinds := [.sentinel, .sentinel, .sentinel, .sentinel, .sentinel, .sentinel], laidTests := true, laidLooks := .later }
def FnExactReadTapCardSaid : Prop := Claim7.holds Tryd.pinned (.plain (OpenSpec.ofChange fnExactReadTapSpec)) fnExactReadTapCard

/-- THE SECOND FORM's CARD OF 'laws.FnExactTakeBlock'. -/
def fnExactTakeBlockUptoCard : Claim7 := { stood := { row := fnExactTakeBlockUptoRow, standIns := [], harness := (true, "78acfcc75f578b1f155f604aa8567de29b90d67f1f5aeeab76121716d41df21f"), looks := true }, kinds := [], alts := [], laidByText := true, laidKinds := [.sentinel, .sentinel, .sentinel, .sentinel, .sentinel, .sentinel], laidTests := true, laidLooks := .later }
def FnExactTakeBlockUptoCardSaid : Prop := Claim7.holds Tryd.pinned (.plain (OpenSpec.upto fnExactTakeBlockSpec)) fnExactTakeBlockUptoCard

/-- THE SECOND FORM's CARD OF 'laws.FnExactReadTap'. -/
def fnExactReadTapUptoCard : Claim7 := { stood := { row := fnExactReadTapUptoRow, standIns := [], harness := (true, "78acfcc75f578b1f155f604aa8567de29b90d67f1f5aeeab76121716d41df21f"), looks := true }, kinds := [], alts := [], laidByText := true, laidKinds := [.sentinel, .sentinel, .sentinel, .sentinel, .sentinel, .sentinel], laidTests := true, laidLooks := .later }
def FnExactReadTapUptoCardSaid : Prop := Claim7.holds Tryd.pinned (.plain (OpenSpec.upto fnExactReadTapSpec)) fnExactReadTapUptoCard
end Rows
end Go.Proofs.YthffhfafnohndabDoor
