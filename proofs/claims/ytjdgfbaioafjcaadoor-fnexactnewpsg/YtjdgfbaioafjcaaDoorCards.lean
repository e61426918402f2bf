/-
  DERIVED. GIVEN WITH THE SEED: THE CARDS: each row of YtjdgfbaioafjcaaDoorRows.lean that lists a variable, with what it lists TIED to the program's text (the seventh form; the later family's looks); each row that meets fmt, with fmt's text TOLD by the authors' own Lean function (tested against real Go, not proved from fmt's source: count such statements apart). THE CARD IS WHAT COUNTS. Prove the row's statement (the work); the ties are given (YtjdgfbaioafjcaaDoorTie.lean); close each card by the builder's one call (the guide's Derived/Test/ToyasCard.lean, 'card_holds'). Laid BY PROGRAM, IN A SANDBOX (cutbox-door.mjs). By AI agents, Wed Nov 11 2026. No macro, syntax, notation, axiom, sorry.
-/
import Derived.Test.YtjdgfbaioafjcaaDoorRows
import GoSem.ClaimSeven
namespace Go.Proofs.YtjdgfbaioafjcaaDoor
namespace Rows

/-- THE TIED CARD OF 'laws.FnRegs'. -/
def fnRegsCard : Claim7 := { stood := { row := fnRegsRow, standIns := [], harness := (true, "b09cb28a555f72a785a487ba3697b6b3298a72f01efe8fa2a54d16713170134f"), looks := false }, kinds := [], alts := [], laidByText := true, laidKinds := [.data], laidTests := true, laidLooks := .later }
def FnRegsCardSaid : Prop := Claim7.holds Tryd.pinned (.plain (OpenSpec.ofChange fnRegsSpec)) fnRegsCard

/-- THE TIED CARD OF 'laws.FnTone'. -/
def fnToneCard : Claim7 := { stood := { row := fnToneRow, standIns := [], harness := (true, "b09cb28a555f72a785a487ba3697b6b3298a72f01efe8fa2a54d16713170134f"), looks := false }, kinds := [], alts := [], laidByText := true, laidKinds := [.data], laidTests := true, laidLooks := .later }
def FnToneCardSaid : Prop := Claim7.holds Tryd.pinned (.plain (OpenSpec.ofChange fnToneSpec)) fnToneCard

/-- THE TIED CARD OF 'laws.FnNoise'. -/
def fnNoiseCard : Claim7 := { stood := { row := fnNoiseRow, standIns := [], harness := (true, "b09cb28a555f72a785a487ba3697b6b3298a72f01efe8fa2a54d16713170134f"), looks := false }, kinds := [], alts := [], laidByText := true, laidKinds := [.data], laidTests := true, laidLooks := .later }
def FnNoiseCardSaid : Prop := Claim7.holds Tryd.pinned (.plain (OpenSpec.ofChange fnNoiseSpec)) fnNoiseCard

/-- THE TIED CARD OF 'laws.FnExactNewPsg'. -/
def fnExactNewPsgCard : Claim7 := { stood := { row := fnExactNewPsgRow, standIns := [], harness := (true, "b09cb28a555f72a785a487ba3697b6b3298a72f01efe8fa2a54d16713170134f"), looks := false }, kinds := [], alts := [], laidByText := true, laidKinds := [.data], laidTests := true, laidLooks := .later }
def FnExactNewPsgCardSaid : Prop := Claim7.holds Tryd.pinned (.plain (OpenSpec.ofChange fnExactNewPsgSpec)) fnExactNewPsgCard

/-- THE TIED CARD OF 'laws.FnExactPsgOK'. -/
def fnExactPsgOKCard : Claim7 := { stood := { row := fnExactPsgOKRow, standIns := [], harness := (true, "b09cb28a555f72a785a487ba3697b6b3298a72f01efe8fa2a54d16713170134f"), looks := false }, kinds := [], alts := [], laidByText := true, laidKinds := [.data], laidTests := true, laidLooks := .later }
def FnExactPsgOKCardSaid : Prop := Claim7.holds Tryd.pinned (.plain (OpenSpec.ofChange fnExactPsgOKSpec)) fnExactPsgOKCard

/-- THE TIED CARD OF 'laws.FnExactSelectReg'. -/
def fnExactSelectRegCard : Claim7 := { stood := { row := fnExactSelectRegRow, standIns := [], harness := (true, "b09cb28a555f72a785a487ba3697b6b3298a72f01efe8fa2a54d16713170134f"), looks := false }, kinds := [], alts := [], laidByText := true, laidKinds := [.data], laidTests := true, laidLooks := .later }
def FnExactSelectRegCardSaid : Prop := Claim7.holds Tryd.pinned (.plain (OpenSpec.ofChange fnExactSelectRegSpec)) fnExactSelectRegCard

/-- THE SECOND FORM's CARD OF 'laws.FnRegs'. -/
def fnRegsUptoCard : Claim7 := { stood := { row := fnRegsUptoRow, standIns := [], harness := (true, "b09cb28a555f72a785a487ba3697b6b3298a72f01efe8fa2a54d16713170134f"), looks := false }, kinds := [], alts := [], laidByText := true, laidKinds := [.data], laidTests := true, laidLooks := .later }
def FnRegsUptoCardSaid : Prop := Claim7.holds Tryd.pinned (.plain (OpenSpec.upto fnRegsSpec)) fnRegsUptoCard

/-- THE SECOND FORM's CARD OF 'laws.FnTone'. -/
def fnToneUptoCard : Claim7 := { stood := { row := fnToneUptoRow, standIns := [], harness := (true, "b09cb28a555f72a785a487ba3697b6b3298a72f01efe8fa2a54d16713170134f"), looks := false }, kinds := [], alts := [], laidByText := true, laidKinds := [.data], laidTests := true, laidLooks := .later }
def FnToneUptoCardSaid : Prop := Claim7.holds Tryd.pinned (.plain (OpenSpec.upto fnToneSpec)) fnToneUptoCard

/-- THE SECOND FORM's CARD OF 'laws.FnNoise'. -/
def fnNoiseUptoCard : Claim7 := { stood := { row := fnNoiseUptoRow, standIns := [], harness := (true, "b09cb28a555f72a785a487ba3697b6b3298a72f01efe8fa2a54d16713170134f"), looks := false }, kinds := [], alts := [], laidByText := true, laidKinds := [.data], laidTests := true, laidLooks := .later }
def FnNoiseUptoCardSaid : Prop := Claim7.holds Tryd.pinned (.plain (OpenSpec.upto fnNoiseSpec)) fnNoiseUptoCard

/-- THE SECOND FORM's CARD OF 'laws.FnExactNewPsg'. -/
def fnExactNewPsgUptoCard : Claim7 := { stood := { row := fnExactNewPsgUptoRow, standIns := [], harness := (true, "b09cb28a555f72a785a487ba3697b6b3298a72f01efe8fa2a54d16713170134f"), looks := false }, kinds := [], alts := [], laidByText := true, laidKinds := [.data], laidTests := true, laidLooks := .later }
def FnExactNewPsgUptoCardSaid : Prop := Claim7.holds Tryd.pinned (.plain (OpenSpec.upto fnExactNewPsgSpec)) fnExactNewPsgUptoCard

/-- THE SECOND FORM's CARD OF 'laws.FnExactPsgOK'. -/
def fnExactPsgOKUptoCard : Claim7 := { stood := { row := fnExactPsgOKUptoRow, standIns := [], harness := (true, "b09cb28a555f72a785a487ba3697b6b3298a72f01efe8fa2a54d16713170134f"), looks := false }, kinds := [], alts := [], laidByText := true, laidKinds := [.data], laidTests := true, laidLooks := .later }
def FnExactPsgOKUptoCardSaid : Prop := Claim7.holds Tryd.pinned (.plain (OpenSpec.upto fnExactPsgOKSpec)) fnExactPsgOKUptoCard

/-- THE SECOND FORM's CARD OF 'laws.FnExactSelectReg'. -/
def fnExactSelectRegUptoCard : Claim7 := { stood := { row := fnExactSelectRegUptoRow, standIns := [], harness := (true, "b09cb28a555f72a785a487ba3697b6b3298a72f01efe8fa2a54d16713170134f"), looks := false }, kinds := [], alts := [], laidByText := true, laidKinds := [.data], laidTests := true, laidLooks := .later }
def FnExactSelectRegUptoCardSaid : Prop := Claim7.holds Tryd.pinned (.plain (OpenSpec.upto fnExactSelectRegSpec)) fnExactSelectRegUptoCard
end Rows
end Go.Proofs.YtjdgfbaioafjcaaDoor
