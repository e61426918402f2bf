/-
  DERIVED. GIVEN WITH THE SEED: THE CARDS: each row of YtffogcielohoeaiDoorRows.lean that lists a variable, with what it lists TIED to the program's text (the seventh form; the later family's looks); each row that meets fmt, with fmt's text TOLD by the authors' own Lean function (tested against real Go, not proved from fmt's source: count such statements apart). THE CARD IS WHAT COUNTS. Prove the row's statement (the work); the ties are given (YtffogcielohoeaiDoorTie.lean); close each card by the builder's one call (the guide's Derived/Test/ToyasCard.lean, 'card_holds'). Laid BY PROGRAM, IN A SANDBOX (cutbox-door.mjs). By AI agents, Wed Nov 11 2026. No macro, syntax, notation, axiom, sorry.
-/
import Derived.Test.YtffogcielohoeaiDoorRows
import GoSem.ClaimSeven
namespace Go.Proofs.YtffogcielohoeaiDoor
namespace Rows

/-- THE TIED CARD OF 'laws.FnExactAdd8'. -/
def fnExactAdd8Card : Claim7 := { stood := { row := fnExactAdd8Row, standIns := [], harness := (true, "7e670240965eaecc10ea8f66edb122dc3857f1091a1959949d2a6a05ae4c1c01"), looks := false }, kinds := [], alts := [], laidByText := true, laidKinds := [.data], laidTests := true, laidLooks := .later }
def FnExactAdd8CardSaid : Prop := Claim7.holds Tryd.pinned (.plain (OpenSpec.ofChange fnExactAdd8Spec)) fnExactAdd8Card

/-- THE TIED CARD OF 'laws.FnExactSub8'. -/
def fnExactSub8Card : Claim7 := { stood := { row := fnExactSub8Row, standIns := [], harness := (true, "7e670240965eaecc10ea8f66edb122dc3857f1091a1959949d2a6a05ae4c1c01"), looks := false }, kinds := [], alts := [], laidByText := true, laidKinds := [.data], laidTests := true, laidLooks := .later }
def FnExactSub8CardSaid : Prop := Claim7.holds Tryd.pinned (.plain (OpenSpec.ofChange fnExactSub8Spec)) fnExactSub8Card

/-- THE TIED CARD OF 'laws.FnExactLogic8'. -/
def fnExactLogic8Card : Claim7 := { stood := { row := fnExactLogic8Row, standIns := [], harness := (true, "7e670240965eaecc10ea8f66edb122dc3857f1091a1959949d2a6a05ae4c1c01"), looks := false }, kinds := [], alts := [], laidByText := true, laidKinds := [.data], laidTests := true, laidLooks := .later }
def FnExactLogic8CardSaid : Prop := Claim7.holds Tryd.pinned (.plain (OpenSpec.ofChange fnExactLogic8Spec)) fnExactLogic8Card

/-- THE TIED CARD OF 'laws.FnExactInc8'. -/
def fnExactInc8Card : Claim7 := { stood := { row := fnExactInc8Row, standIns := [], harness := (true, "7e670240965eaecc10ea8f66edb122dc3857f1091a1959949d2a6a05ae4c1c01"), looks := false }, kinds := [], alts := [], laidByText := true, laidKinds := [.data], laidTests := true, laidLooks := .later }
def FnExactInc8CardSaid : Prop := Claim7.holds Tryd.pinned (.plain (OpenSpec.ofChange fnExactInc8Spec)) fnExactInc8Card

/-- THE TIED CARD OF 'laws.FnExactDec8'. -/
def fnExactDec8Card : Claim7 := { stood := { row := fnExactDec8Row, standIns := [], harness := (true, "7e670240965eaecc10ea8f66edb122dc3857f1091a1959949d2a6a05ae4c1c01"), looks := false }, kinds := [], alts := [], laidByText := true, laidKinds := [.data], laidTests := true, laidLooks := .later }
def FnExactDec8CardSaid : Prop := Claim7.holds Tryd.pinned (.plain (OpenSpec.ofChange fnExactDec8Spec)) fnExactDec8Card

/-- THE SECOND FORM's CARD OF 'laws.FnExactAdd8'. -/
def fnExactAdd8UptoCard : Claim7 := { stood := { row := fnExactAdd8UptoRow, standIns := [], harness := (true, "7e670240965eaecc10ea8f66edb122dc3857f1091a1959949d2a6a05ae4c1c01"), looks := false }, kinds := [], alts := [], laidByText := true, laidKinds := [.data], laidTests := true, laidLooks := .later }
def FnExactAdd8UptoCardSaid : Prop := Claim7.holds Tryd.pinned (.plain (OpenSpec.upto fnExactAdd8Spec)) fnExactAdd8UptoCard

/-- THE SECOND FORM's CARD OF 'laws.FnExactSub8'. -/
def fnExactSub8UptoCard : Claim7 := { stood := { row := fnExactSub8UptoRow, standIns := [], harness := (true, "7e670240965eaecc10ea8f66edb122dc3857f1091a1959949d2a6a05ae4c1c01"), looks := false }, kinds := [], alts := [], laidByText := true, laidKinds := [.data], laidTests := true, laidLooks := .later }
def FnExactSub8UptoCardSaid : Prop := Claim7.holds Tryd.pinned (.plain (OpenSpec.upto fnExactSub8Spec)) fnExactSub8UptoCard

/-- THE SECOND FORM's CARD OF 'laws.FnExactLogic8'. -/
def fnExactLogic8UptoCard : Claim7 := { stood := { row := fnExactLogic8UptoRow, standIns := [], harness := (true, "7e670240965eaecc10ea8f66edb122dc3857f1091a1959949d2a6a05ae4c1c01"), looks := false }, kinds := [], alts := [], laidByText := true, laidKinds := [.data], laidTests := true, laidLooks := .later }
def FnExactLogic8UptoCardSaid : Prop := Claim7.holds Tryd.pinned (.plain (OpenSpec.upto fnExactLogic8Spec)) fnExactLogic8UptoCard

/-- THE SECOND FORM's CARD OF 'laws.FnExactInc8'. -/
def fnExactInc8UptoCard : Claim7 := { stood := { row := fnExactInc8UptoRow, standIns := [], harness := (true, "7e670240965eaecc10ea8f66edb122dc3857f1091a1959949d2a6a05ae4c1c01"), looks := false }, kinds := [], alts := [], laidByText := true, laidKinds := [.data], laidTests := true, laidLooks := .later }
def FnExactInc8UptoCardSaid : Prop := Claim7.holds Tryd.pinned (.plain (OpenSpec.upto fnExactInc8Spec)) fnExactInc8UptoCard

/-- THE SECOND FORM's CARD OF 'laws.FnExactDec8'. -/
def fnExactDec8UptoCard : Claim7 := { stood := { row := fnExactDec8UptoRow, standIns := [], harness := (true, "7e670240965eaecc10ea8f66edb122dc3857f1091a1959949d2a6a05ae4c1c01"), looks := false }, kinds := [], alts := [], laidByText := true, laidKinds := [.data], laidTests := true, laidLooks := .later }
def FnExactDec8UptoCardSaid : Prop := Claim7.holds Tryd.pinned (.plain (OpenSpec.upto fnExactDec8Spec)) fnExactDec8UptoCard
end Rows
end Go.Proofs.YtffogcielohoeaiDoor
