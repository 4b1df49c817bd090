/-
  DERIVED. GIVEN WITH THE SEED: THE CARDS: each row of YtejekdenpefoiaaGreatDoorRows.lean that lists a variable, with what it lists TIED to the program's text (the seventh form; the later family's looks); each row that meets fmt, with fmt's text TOLD by the authors' own Lean function (tested against real Go, not proved from fmt's source: count such statements apart). THE CARD IS WHAT COUNTS. Prove the row's statement (the work); the ties are given (YtejekdenpefoiaaGreatDoorTie.lean); close each card by the builder's one call (the guide's Derived/Test/ToyasCard.lean, 'card_holds'). Laid BY PROGRAM, IN A SANDBOX (cutbox-door.mjs). By AI agents, Wed Nov 11 2026. No macro, syntax, notation, axiom, sorry.
-/
import Derived.Test.YtejekdenpefoiaaGreatDoorRows
import GoSem.ClaimSeven
namespace Go.Proofs.YtejekdenpefoiaaGreatDoor
namespace Rows

/-- THE TIED CARD OF 'rejoinderlaw11.ProgMeans'. -/
def progMeansCard : Claim7 := { stood := { row := progMeansRow, standIns := [], harness := (true, "47b95009b9a3fc5019f8da41a5ae38ccf1201f952e0677a35b2df248c226f9ed"), looks := true }, kinds := [], alts := [], laidByText := true, laidKinds := [.data], laidTests := true, laidLooks := .later }
def ProgMeansCardSaid : Prop := Claim7.holds Tryz.pinned (.plain (OpenSpec.ofChange progMeansSpec)) progMeansCard

/-- THE TIED CARD OF 'rejoinderlaw11.ProgBlind'. -/
def progBlindCard : Claim7 := { stood := { row := progBlindRow, standIns := [], harness := (true, "47b95009b9a3fc5019f8da41a5ae38ccf1201f952e0677a35b2df248c226f9ed"), looks := true }, kinds := [], alts := [], laidByText := true, laidKinds := [.data], laidTests := true, laidLooks := .later }
def ProgBlindCardSaid : Prop := Claim7.holds Tryz.pinned (.plain (OpenSpec.ofChange progBlindSpec)) progBlindCard

/-- THE TIED CARD OF 'rejoinderlaw11.ProgKnown'. -/
def progKnownCard : Claim7 := { stood := { row := progKnownRow, standIns := [], harness := (true, "47b95009b9a3fc5019f8da41a5ae38ccf1201f952e0677a35b2df248c226f9ed"), looks := true }, kinds := [], alts := [], laidByText := true, laidKinds := [.data], laidTests := true, laidLooks := .later }
def ProgKnownCardSaid : Prop := Claim7.holds Tryz.pinned (.plain (OpenSpec.ofChange progKnownSpec)) progKnownCard

/-- THE TIED CARD OF 'rejoinderlaw12.AltMeans'. -/
def altMeansCard : Claim7 := { stood := { row := altMeansRow, standIns := [], harness := (true, "47b95009b9a3fc5019f8da41a5ae38ccf1201f952e0677a35b2df248c226f9ed"), looks := true }, kinds := [], alts := [], laidByText := true, laidKinds := [.data], laidTests := true, laidLooks := .later }
def AltMeansCardSaid : Prop := Claim7.holds Tryz.pinned (.plain (OpenSpec.ofChange altMeansSpec)) altMeansCard

/-- THE TIED CARD OF 'rejoinderlaw12.AltMeet'. -/
def altMeetCard : Claim7 := { stood := { row := altMeetRow, standIns := [], harness := (true, "47b95009b9a3fc5019f8da41a5ae38ccf1201f952e0677a35b2df248c226f9ed"), looks := true }, kinds := [], alts := [], laidByText := true, laidKinds := [.data], laidTests := true, laidLooks := .later }
def AltMeetCardSaid : Prop := Claim7.holds Tryz.pinned (.plain (OpenSpec.ofChange altMeetSpec)) altMeetCard

/-- THE TIED CARD OF 'rejoinderlaw12.AltKnown'. -/
def altKnownCard : Claim7 := { stood := { row := altKnownRow, standIns := [], harness := (true, "47b95009b9a3fc5019f8da41a5ae38ccf1201f952e0677a35b2df248c226f9ed"), looks := true }, kinds := [], alts := [], laidByText := true, laidKinds := [.data], laidTests := true, laidLooks := .later }
def AltKnownCardSaid : Prop := Claim7.holds Tryz.pinned (.plain (OpenSpec.ofChange altKnownSpec)) altKnownCard

/-- THE SECOND FORM's CARD OF 'rejoinderlaw11.ProgMeans'. -/
def progMeansUptoCard : Claim7 := { stood := { row := progMeansUptoRow, standIns := [], harness := (true, "47b95009b9a3fc5019f8da41a5ae38ccf1201f952e0677a35b2df248c226f9ed"), looks := true }, kinds := [], alts := [], laidByText := true, laidKinds := [.data], laidTests := true, laidLooks := .later }
def ProgMeansUptoCardSaid : Prop := Claim7.holds Tryz.pinned (.plain (OpenSpec.upto progMeansSpec)) progMeansUptoCard

/-- THE SECOND FORM's CARD OF 'rejoinderlaw11.ProgBlind'. -/
def progBlindUptoCard : Claim7 := { stood := { row := progBlindUptoRow, standIns := [], harness := (true, "47b95009b9a3fc5019f8da41a5ae38ccf1201f952e0677a35b2df248c226f9ed"), looks := true }, kinds := [], alts := [], laidByText := true, laidKinds := [.data], laidTests := true, laidLooks := .later }
def ProgBlindUptoCardSaid : Prop := Claim7.holds Tryz.pinned (.plain (OpenSpec.upto progBlindSpec)) progBlindUptoCard

/-- THE SECOND FORM's CARD OF 'rejoinderlaw11.ProgKnown'. -/
def progKnownUptoCard : Claim7 := { stood := { row := progKnownUptoRow, standIns := [], harness := (true, "47b95009b9a3fc5019f8da41a5ae38ccf1201f952e0677a35b2df248c226f9ed"), looks := true }, kinds := [], alts := [], laidByText := true, laidKinds := [.data], laidTests := true, laidLooks := .later }
def ProgKnownUptoCardSaid : Prop := Claim7.holds Tryz.pinned (.plain (OpenSpec.upto progKnownSpec)) progKnownUptoCard

/-- THE SECOND FORM's CARD OF 'rejoinderlaw12.AltMeans'. -/
def altMeansUptoCard : Claim7 := { stood := { row := altMeansUptoRow, standIns := [], harness := (true, "47b95009b9a3fc5019f8da41a5ae38ccf1201f952e0677a35b2df248c226f9ed"), looks := true }, kinds := [], alts := [], laidByText := true, laidKinds := [.data], laidTests := true, laidLooks := .later }
def AltMeansUptoCardSaid : Prop := Claim7.holds Tryz.pinned (.plain (OpenSpec.upto altMeansSpec)) altMeansUptoCard

/-- THE SECOND FORM's CARD OF 'rejoinderlaw12.AltMeet'. -/
def altMeetUptoCard : Claim7 := { stood := { row := altMeetUptoRow, standIns := [], harness := (true, "47b95009b9a3fc5019f8da41a5ae38ccf1201f952e0677a35b2df248c226f9ed"), looks := true }, kinds := [], alts := [], laidByText := true, laidKinds := [.data], laidTests := true, laidLooks := .later }
def AltMeetUptoCardSaid : Prop := Claim7.holds Tryz.pinned (.plain (OpenSpec.upto altMeetSpec)) altMeetUptoCard

/-- THE SECOND FORM's CARD OF 'rejoinderlaw12.AltKnown'. -/
def altKnownUptoCard : Claim7 := { stood := { row := altKnownUptoRow, standIns := [], harness := (true, "47b95009b9a3fc5019f8da41a5ae38ccf1201f952e0677a35b2df248c226f9ed"), looks := true }, kinds := [], alts := [], laidByText := true, laidKinds := [.data], laidTests := true, laidLooks := .later }
def AltKnownUptoCardSaid : Prop := Claim7.holds Tryz.pinned (.plain (OpenSpec.upto altKnownSpec)) altKnownUptoCard
end Rows
end Go.Proofs.YtejekdenpefoiaaGreatDoor
