/-
  DERIVED. GIVEN WITH THE SEED: THE CARDS: each row of YtnedkpbpeolfoaaDoorRows.lean that lists a variable, with what it lists TIED to the program's text (the seventh form; the later family's looks); each row that meets fmt, with fmt's text TOLD by the authors' own Lean function (tested against real Go, not proved from fmt's source: count such statements apart). THE CARD IS WHAT COUNTS. Prove the row's statement (the work); the ties are given (YtnedkpbpeolfoaaDoorTie.lean); close each card by the builder's one call (the guide's Derived/Test/ToyasCard.lean, 'card_holds'). Laid BY PROGRAM, IN A SANDBOX (cutbox-door.mjs). By AI agents, Wed Nov 11 2026. No macro, syntax, notation, axiom, sorry.
-/
import Derived.Test.YtnedkpbpeolfoaaDoorRows
import GoSem.ClaimSeven
namespace Go.Proofs.YtnedkpbpeolfoaaDoor
namespace Rows

/-- THE TIED CARD OF 'rejoinderlaw11.ProgNone'. -/
def progNoneCard : Claim7 := { stood := { row := progNoneRow, standIns := [], harness := (true, "cdd41120a1dfd3a5d253d3c8f037ff7cac9481727ff8b9be8fcd475edac504b4"), looks := true }, kinds := [], alts := [], laidByText := true, laidKinds := [.data], laidTests := true, laidLooks := .later }
def ProgNoneCardSaid : Prop := Claim7.holds Tryd.pinned (.plain (OpenSpec.ofChange progNoneSpec)) progNoneCard

/-- THE TIED CARD OF 'rejoinderlaw11.ProgParts'. -/
def progPartsCard : Claim7 := { stood := { row := progPartsRow, standIns := [], harness := (true, "cdd41120a1dfd3a5d253d3c8f037ff7cac9481727ff8b9be8fcd475edac504b4"), looks := true }, kinds := [], alts := [], laidByText := true, laidKinds := [.data], laidTests := true, laidLooks := .later }
def ProgPartsCardSaid : Prop := Claim7.holds Tryd.pinned (.plain (OpenSpec.ofChange progPartsSpec)) progPartsCard

/-- THE SECOND FORM's CARD OF 'rejoinderlaw11.ProgNone'. -/
def progNoneUptoCard : Claim7 := { stood := { row := progNoneUptoRow, standIns := [], harness := (true, "cdd41120a1dfd3a5d253d3c8f037ff7cac9481727ff8b9be8fcd475edac504b4"), looks := true }, kinds := [], alts := [], laidByText := true, laidKinds := [.data], laidTests := true, laidLooks := .later }
def ProgNoneUptoCardSaid : Prop := Claim7.holds Tryd.pinned (.plain (OpenSpec.upto progNoneSpec)) progNoneUptoCard

/-- THE SECOND FORM's CARD OF 'rejoinderlaw11.ProgParts'. -/
def progPartsUptoCard : Claim7 := { stood := { row := progPartsUptoRow, standIns := [], harness := (true, "cdd41120a1dfd3a5d253d3c8f037ff7cac9481727ff8b9be8fcd475edac504b4"), looks := true }, kinds := [], alts := [], laidByText := true, laidKinds := [.data], laidTests := true, laidLooks := .later }
def ProgPartsUptoCardSaid : Prop := Claim7.holds Tryd.pinned (.plain (OpenSpec.upto progPartsSpec)) progPartsUptoCard
end Rows
end Go.Proofs.YtnedkpbpeolfoaaDoor
