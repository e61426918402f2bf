/-
  DERIVED. GIVEN WITH THE SEED: THE CARDS: each row of YtjdgfbaioafjcabDoorRows.lean that lists a variable, with what it lists TIED to the program's text (the seventh form; the later family's looks); each row that meets fmt, with fmt's text TOLD by the authors' own Lean function (tested against real Go, not proved from fmt's source: count such statements apart). THE CARD IS WHAT COUNTS. Prove the row's statement (the work); the ties are given (YtjdgfbaioafjcabDoorTie.lean); close each card by the builder's one call (the guide's Derived/Test/ToyasCard.lean, 'card_holds'). Laid BY PROGRAM, IN A SANDBOX (cutbox-door.mjs). By AI agents, Wed Nov 11 2026. No macro, syntax, notation, axiom, sorry.
-/
import Derived.Test.YtjdgfbaioafjcabDoorRows
import GoSem.ClaimSeven
namespace Go.Proofs.YtjdgfbaioafjcabDoor
namespace Rows

/-- THE TIED CARD OF 'laws.FnExactWriteReg'. -/
def fnExactWriteRegCard : Claim7 := { stood := { row := fnExactWriteRegRow, standIns := [], harness := (true, "006c5eb6566537d36583f2e42d2dec49d4ce5b370ddc27a76c57b20bb6f0aac8"), looks := false }, kinds := [], alts := [], laidByText := true, laidKinds := [.data], laidTests := true, laidLooks := .later }
def FnExactWriteRegCardSaid : Prop := Claim7.holds Tryd.pinned (.plain (OpenSpec.ofChange fnExactWriteRegSpec)) fnExactWriteRegCard

/-- THE TIED CARD OF 'laws.FnExactReadReg'. -/
def fnExactReadRegCard : Claim7 := { stood := { row := fnExactReadRegRow, standIns := [], harness := (true, "006c5eb6566537d36583f2e42d2dec49d4ce5b370ddc27a76c57b20bb6f0aac8"), looks := false }, kinds := [], alts := [], laidByText := true, laidKinds := [.data], laidTests := true, laidLooks := .later }
def FnExactReadRegCardSaid : Prop := Claim7.holds Tryd.pinned (.plain (OpenSpec.ofChange fnExactReadRegSpec)) fnExactReadRegCard

/-- THE TIED CARD OF 'laws.FnExactStepPsg'. -/
def fnExactStepPsgCard : Claim7 := { stood := { row := fnExactStepPsgRow, standIns := [], harness := (true, "006c5eb6566537d36583f2e42d2dec49d4ce5b370ddc27a76c57b20bb6f0aac8"), looks := false }, kinds := [], alts := [], laidByText := true, laidKinds := [.data], laidTests := true, laidLooks := .later }
def FnExactStepPsgCardSaid : Prop := Claim7.holds Tryd.pinned (.plain (OpenSpec.ofChange fnExactStepPsgSpec)) fnExactStepPsgCard

/-- THE TIED CARD OF 'laws.FnExactLevelOf'. -/
def fnExactLevelOfCard : Claim7 := { stood := { row := fnExactLevelOfRow, standIns := [], harness := (true, "006c5eb6566537d36583f2e42d2dec49d4ce5b370ddc27a76c57b20bb6f0aac8"), looks := false }, kinds := [], alts := [], laidByText := true, laidKinds := [.data], laidTests := true, laidLooks := .later }
def FnExactLevelOfCardSaid : Prop := Claim7.holds Tryd.pinned (.plain (OpenSpec.ofChange fnExactLevelOfSpec)) fnExactLevelOfCard

/-- THE SECOND FORM's CARD OF 'laws.FnExactWriteReg'. -/
def fnExactWriteRegUptoCard : Claim7 := { stood := { row := fnExactWriteRegUptoRow, standIns := [], harness := (true, "006c5eb6566537d36583f2e42d2dec49d4ce5b370ddc27a76c57b20bb6f0aac8"), looks := false }, kinds := [], alts := [], laidByText := true, laidKinds := [.data], laidTests := true, laidLooks := .later }
def FnExactWriteRegUptoCardSaid : Prop := Claim7.holds Tryd.pinned (.plain (OpenSpec.upto fnExactWriteRegSpec)) fnExactWriteRegUptoCard

/-- THE SECOND FORM's CARD OF 'laws.FnExactReadReg'. -/
def fnExactReadRegUptoCard : Claim7 := { stood := { row := fnExactReadRegUptoRow, standIns := [], harness := (true, "006c5eb6566537d36583f2e42d2dec49d4ce5b370ddc27a76c57b20bb6f0aac8"), looks := false }, kinds := [], alts := [], laidByText := true, laidKinds := [.data], laidTests := true, laidLooks := .later }
def FnExactReadRegUptoCardSaid : Prop := Claim7.holds Tryd.pinned (.plain (OpenSpec.upto fnExactReadRegSpec)) fnExactReadRegUptoCard

/-- THE SECOND FORM's CARD OF 'laws.FnExactStepPsg'. -/
def fnExactStepPsgUptoCard : Claim7 := { stood := { row := fnExactStepPsgUptoRow, standIns := [], harness := (true, "006c5eb6566537d36583f2e42d2dec49d4ce5b370ddc27a76c57b20bb6f0aac8"), looks := false }, kinds := [], alts := [], laidByText := true, laidKinds := [.data], laidTests := true, laidLooks := .later }
def FnExactStepPsgUptoCardSaid : Prop := Claim7.holds Tryd.pinned (.plain (OpenSpec.upto fnExactStepPsgSpec)) fnExactStepPsgUptoCard

/-- THE SECOND FORM's CARD OF 'laws.FnExactLevelOf'. -/
def fnExactLevelOfUptoCard : Claim7 := { stood := { row := fnExactLevelOfUptoRow, standIns := [], harness := (true, "006c5eb6566537d36583f2e42d2dec49d4ce5b370ddc27a76c57b20bb6f0aac8"), looks := false }, kinds := [], alts := [], laidByText := true, laidKinds := [.data], laidTests := true, laidLooks := .later }
def FnExactLevelOfUptoCardSaid : Prop := Claim7.holds Tryd.pinned (.plain (OpenSpec.upto fnExactLevelOfSpec)) fnExactLevelOfUptoCard
end Rows
end Go.Proofs.YtjdgfbaioafjcabDoor
