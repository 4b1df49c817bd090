/-
  DERIVED. GIVEN WITH THE SEED: THE CARDS: each row of YtfipefbaabkdeaaDoorRows.lean that lists a variable, with what it lists TIED to the program's text (the seventh form; the later family's looks); each row that meets fmt, with fmt's text TOLD by the authors' own Lean function (tested against real Go, not proved from fmt's source: count such statements apart). THE CARD IS WHAT COUNTS. Prove the row's statement (the work); the ties are given (YtfipefbaabkdeaaDoorTie.lean); close each card by the builder's one call (the guide's Derived/Test/ToyasCard.lean, 'card_holds'). Laid BY PROGRAM, IN A SANDBOX (cutbox-door.mjs). By AI agents, Wed Nov 11 2026. No macro, syntax, notation, axiom, sorry.
-/
import Derived.Test.YtfipefbaabkdeaaDoorRows
import GoSem.ClaimSeven
namespace Go.Proofs.YtfipefbaabkdeaaDoor
namespace Rows

/-- THE TIED CARD OF 'rejoinderlaw06.ShowBack'. -/
def showBackCard : Claim7 := { stood := { row := showBackRow, standIns := [], harness := (true, "5486382c5eee0a1b2ee840a66970600aee1b8b14c79892768d89e43e0ba5e61d"), looks := true }, kinds := [], alts := [], laidByText := true, laidKinds := [.listed, .data, .data], laidTests := true, laidLooks := .later }
def ShowBackCardSaid : Prop := Claim7.holds Tryd.pinned (.plain (OpenSpec.ofChange showBackSpec)) showBackCard

/-- THE TIED CARD OF 'rejoinderlaw06.ShowFew'. -/
def showFewCard : Claim7 := { stood := { row := showFewRow, standIns := [], harness := (true, "5486382c5eee0a1b2ee840a66970600aee1b8b14c79892768d89e43e0ba5e61d"), looks := true }, kinds := [], alts := [], laidByText := true, laidKinds := [.listed, .data, .data], laidTests := true, laidLooks := .later }
def ShowFewCardSaid : Prop := Claim7.holds Tryd.pinned (.plain (OpenSpec.ofChange showFewSpec)) showFewCard

/-- THE TIED CARD OF 'rejoinderlaw06.ShowKnown'. -/
def showKnownCard : Claim7 := { stood := { row := showKnownRow, standIns := [], harness := (true, "5486382c5eee0a1b2ee840a66970600aee1b8b14c79892768d89e43e0ba5e61d"), looks := true }, kinds := [], alts := [], laidByText := true, laidKinds := [.listed, .data, .data], laidTests := true, laidLooks := .later }
def ShowKnownCardSaid : Prop := Claim7.holds Tryd.pinned (.plain (OpenSpec.ofChange showKnownSpec)) showKnownCard

/-- THE SECOND FORM's CARD OF 'rejoinderlaw06.ShowBack'. -/
def showBackUptoCard : Claim7 := { stood := { row := showBackUptoRow, standIns := [], harness := (true, "5486382c5eee0a1b2ee840a66970600aee1b8b14c79892768d89e43e0ba5e61d"), looks := true }, kinds := [], alts := [], laidByText := true, laidKinds := [.listed, .data, .data], laidTests := true, laidLooks := .later }
def ShowBackUptoCardSaid : Prop := Claim7.holds Tryd.pinned (.plain (OpenSpec.upto showBackSpec)) showBackUptoCard

/-- THE SECOND FORM's CARD OF 'rejoinderlaw06.ShowFew'. -/
def showFewUptoCard : Claim7 := { stood := { row := showFewUptoRow, standIns := [], harness := (true, "5486382c5eee0a1b2ee840a66970600aee1b8b14c79892768d89e43e0ba5e61d"), looks := true }, kinds := [], alts := [], laidByText := true, laidKinds := [.listed, .data, .data], laidTests := true, laidLooks := .later }
def ShowFewUptoCardSaid : Prop := Claim7.holds Tryd.pinned (.plain (OpenSpec.upto showFewSpec)) showFewUptoCard

/-- THE SECOND FORM's CARD OF 'rejoinderlaw06.ShowKnown'. -/
def showKnownUptoCard : Claim7 := { stood := { row := showKnownUptoRow, standIns := [], harness := (true, "5486382c5eee0a1b2ee840a66970600aee1b8b14c79892768d89e43e0ba5e61d"), looks := true }, kinds := [], alts := [], laidByText := true, laidKinds := [.listed, .data, .data], laidTests := true, laidLooks := .later }
def ShowKnownUptoCardSaid : Prop := Claim7.holds Tryd.pinned (.plain (OpenSpec.upto showKnownSpec)) showKnownUptoCard
end Rows
end Go.Proofs.YtfipefbaabkdeaaDoor
