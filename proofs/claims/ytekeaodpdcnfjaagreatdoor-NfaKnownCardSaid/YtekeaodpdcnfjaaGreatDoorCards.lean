/-
  DERIVED. GIVEN WITH THE SEED: THE CARDS: each row of YtekeaodpdcnfjaaGreatDoorRows.lean that lists a variable, with what it lists TIED to the program's text (the seventh form; the later family's looks); each row that meets fmt, with fmt's text TOLD by the authors' own Lean function (tested against real Go, not proved from fmt's source: count such statements apart). THE CARD IS WHAT COUNTS. Prove the row's statement (the work); the ties are given (YtekeaodpdcnfjaaGreatDoorTie.lean); close each card by the builder's one call (the guide's Derived/Test/ToyasCard.lean, 'card_holds'). Laid BY PROGRAM, IN A SANDBOX (cutbox-door.mjs). By AI agents, Wed Nov 11 2026. No macro, syntax, notation, axiom, sorry.
-/
import Derived.Test.YtekeaodpdcnfjaaGreatDoorRows
import GoSem.ClaimSeven
namespace Go.Proofs.YtekeaodpdcnfjaaGreatDoor
namespace Rows

/-- THE TIED CARD OF 'rejoinderlaw13.NfaMeans'. -/
def nfaMeansCard : Claim7 := { stood := { row := nfaMeansRow, standIns := [], harness := (true, "89d8be91b2e304865680c48599bb8ab42d894cbde82d61edd0be131b796a316c"), looks := true }, kinds := [], alts := [], laidByText := true, laidKinds := [.data], laidTests := true, laidLooks := .later }
def NfaMeansCardSaid : Prop := Claim7.holds Tryz.pinned (.plain (OpenSpec.ofChange nfaMeansSpec)) nfaMeansCard

/-- THE TIED CARD OF 'rejoinderlaw13.NfaKnown'. -/
def nfaKnownCard : Claim7 := { stood := { row := nfaKnownRow, standIns := [], harness := (true, "89d8be91b2e304865680c48599bb8ab42d894cbde82d61edd0be131b796a316c"), looks := true }, kinds := [], alts := [], laidByText := true, laidKinds := [.data], laidTests := true, laidLooks := .later }
def NfaKnownCardSaid : Prop := Claim7.holds Tryz.pinned (.plain (OpenSpec.ofChange nfaKnownSpec)) nfaKnownCard

/-- THE SECOND FORM's CARD OF 'rejoinderlaw13.NfaMeans'. -/
def nfaMeansUptoCard : Claim7 := { stood := { row := nfaMeansUptoRow, standIns := [], harness := (true, "89d8be91b2e304865680c48599bb8ab42d894cbde82d61edd0be131b796a316c"), looks := true }, kinds := [], alts := [], laidByText := true, laidKinds := [.data], laidTests := true, laidLooks := .later }
def NfaMeansUptoCardSaid : Prop := Claim7.holds Tryz.pinned (.plain (OpenSpec.upto nfaMeansSpec)) nfaMeansUptoCard

/-- THE SECOND FORM's CARD OF 'rejoinderlaw13.NfaKnown'. -/
def nfaKnownUptoCard : Claim7 := { stood := { row := nfaKnownUptoRow, standIns := [], harness := (true, "89d8be91b2e304865680c48599bb8ab42d894cbde82d61edd0be131b796a316c"), looks := true }, kinds := [], alts := [], laidByText := true, laidKinds := [.data], laidTests := true, laidLooks := .later }
def NfaKnownUptoCardSaid : Prop := Claim7.holds Tryz.pinned (.plain (OpenSpec.upto nfaKnownSpec)) nfaKnownUptoCard
end Rows
end Go.Proofs.YtekeaodpdcnfjaaGreatDoor
