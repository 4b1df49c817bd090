/-
  DERIVED. GIVEN WITH THE SEED: THE CARDS: each row of YtllcjmaecgfijaaDoorRows.lean that lists a variable, with what it lists TIED to the program's text (the seventh form; the later family's looks); each row that meets fmt, with fmt's text TOLD by the authors' own Lean function (tested against real Go, not proved from fmt's source: count such statements apart). THE CARD IS WHAT COUNTS. Prove the row's statement (the work); the ties are given (YtllcjmaecgfijaaDoorTie.lean); close each card by the builder's one call (the guide's Derived/Test/ToyasCard.lean, 'card_holds'). Laid BY PROGRAM, IN A SANDBOX (cutbox-door.mjs). By AI agents, Wed Nov 11 2026. No macro, syntax, notation, axiom, sorry.
-/
import Derived.Test.YtllcjmaecgfijaaDoorRows
import GoSem.ClaimSeven
namespace Go.Proofs.YtllcjmaecgfijaaDoor
namespace Rows

/-- THE TIED CARD OF 'rejoinderlaw10.SetsItems'. -/
def setsItemsCard : Claim7 := { stood := { row := setsItemsRow, standIns := [], harness := (true, "3931133d3d22ef9f7f4a2b09e13aeb04c2aba297646a85aedc71ce7bbbcbbe9b"), looks := false }, kinds := [], alts := [], laidByText := true, laidKinds := [.data], laidTests := true, laidLooks := .later }
def SetsItemsCardSaid : Prop := Claim7.holds Tryd.pinned (.plain (OpenSpec.ofChange setsItemsSpec)) setsItemsCard

/-- THE TIED CARD OF 'rejoinderlaw10.SetsKnown'. -/
def setsKnownCard : Claim7 := { stood := { row := setsKnownRow, standIns := [], harness := (true, "3931133d3d22ef9f7f4a2b09e13aeb04c2aba297646a85aedc71ce7bbbcbbe9b"), looks := false }, kinds := [], alts := [], laidByText := true, laidKinds := [.data], laidTests := true, laidLooks := .later }
def SetsKnownCardSaid : Prop := Claim7.holds Tryd.pinned (.plain (OpenSpec.ofChange setsKnownSpec)) setsKnownCard

/-- THE SECOND FORM's CARD OF 'rejoinderlaw10.SetsItems'. -/
def setsItemsUptoCard : Claim7 := { stood := { row := setsItemsUptoRow, standIns := [], harness := (true, "3931133d3d22ef9f7f4a2b09e13aeb04c2aba297646a85aedc71ce7bbbcbbe9b"), looks := false }, kinds := [], alts := [], laidByText := true, laidKinds := [.data], laidTests := true, laidLooks := .later }
def SetsItemsUptoCardSaid : Prop := Claim7.holds Tryd.pinned (.plain (OpenSpec.upto setsItemsSpec)) setsItemsUptoCard

/-- THE SECOND FORM's CARD OF 'rejoinderlaw10.SetsKnown'. -/
def setsKnownUptoCard : Claim7 := { stood := { row := setsKnownUptoRow, standIns := [], harness := (true, "3931133d3d22ef9f7f4a2b09e13aeb04c2aba297646a85aedc71ce7bbbcbbe9b"), looks := false }, kinds := [], alts := [], laidByText := true, laidKinds := [.data], laidTests := true, laidLooks := .later }
def SetsKnownUptoCardSaid : Prop := Claim7.holds Tryd.pinned (.plain (OpenSpec.upto setsKnownSpec)) setsKnownUptoCard
end Rows
end Go.Proofs.YtllcjmaecgfijaaDoor
