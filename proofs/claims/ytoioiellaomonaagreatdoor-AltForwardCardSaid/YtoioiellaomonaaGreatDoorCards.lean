/-
  DERIVED. GIVEN WITH THE SEED: THE CARDS: each row of YtoioiellaomonaaGreatDoorRows.lean that lists a variable, with what it lists TIED to the program's text (the seventh form; the later family's looks); each row that meets fmt, with fmt's text TOLD by the authors' own Lean function (tested against real Go, not proved from fmt's source: count such statements apart). THE CARD IS WHAT COUNTS. Prove the row's statement (the work); the ties are given (YtoioiellaomonaaGreatDoorTie.lean); close each card by the builder's one call (the guide's Derived/Test/ToyasCard.lean, 'card_holds'). Laid BY PROGRAM, IN A SANDBOX (cutbox-door.mjs). By AI agents, Wed Nov 11 2026. No macro, syntax, notation, axiom, sorry.
-/
import Derived.Test.YtoioiellaomonaaGreatDoorRows
import GoSem.ClaimSeven
namespace Go.Proofs.YtoioiellaomonaaGreatDoor
namespace Rows

/-- THE TIED CARD OF 'rejoinderlaw12.AltForward'. -/
def altForwardCard : Claim7 := { stood := { row := altForwardRow, standIns := [], harness := (true, "b354d8d6d4206f37d2a5c54ed818a3ac95b9ff684415fc259f522218c093b0c7"), looks := true }, kinds := [], alts := [], laidByText := true, laidKinds := [.data], laidTests := true, laidLooks := .later }
def AltForwardCardSaid : Prop := Claim7.holds Tryz.pinned (.plain (OpenSpec.ofChange altForwardSpec)) altForwardCard

/-- THE SECOND FORM's CARD OF 'rejoinderlaw12.AltForward'. -/
def altForwardUptoCard : Claim7 := { stood := { row := altForwardUptoRow, standIns := [], harness := (true, "b354d8d6d4206f37d2a5c54ed818a3ac95b9ff684415fc259f522218c093b0c7"), looks := true }, kinds := [], alts := [], laidByText := true, laidKinds := [.data], laidTests := true, laidLooks := .later }
def AltForwardUptoCardSaid : Prop := Claim7.holds Tryz.pinned (.plain (OpenSpec.upto altForwardSpec)) altForwardUptoCard
end Rows
end Go.Proofs.YtoioiellaomonaaGreatDoor
