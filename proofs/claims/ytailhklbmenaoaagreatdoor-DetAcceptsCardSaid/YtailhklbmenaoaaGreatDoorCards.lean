/-
  DERIVED. GIVEN WITH THE SEED: THE CARDS: each row of YtailhklbmenaoaaGreatDoorRows.lean that lists a variable, with what it lists TIED to the program's text (the seventh form; the later family's looks); each row that meets fmt, with fmt's text TOLD by the authors' own Lean function (tested against real Go, not proved from fmt's source: count such statements apart). THE CARD IS WHAT COUNTS. Prove the row's statement (the work); the ties are given (YtailhklbmenaoaaGreatDoorTie.lean); close each card by the builder's one call (the guide's Derived/Test/ToyasCard.lean, 'card_holds'). Laid BY PROGRAM, IN A SANDBOX (cutbox-door.mjs). By AI agents, Wed Nov 11 2026. No macro, syntax, notation, axiom, sorry.
-/
import Derived.Test.YtailhklbmenaoaaGreatDoorRows
import GoSem.ClaimSeven
namespace Go.Proofs.YtailhklbmenaoaaGreatDoor
namespace Rows

/-- THE TIED CARD OF 'rejoinderlaw15.DetAccepts'. -/
def detAcceptsCard : Claim7 := { stood := { row := detAcceptsRow, standIns := [], harness := (true, "237749e58b03834de2eb1042ce31e36be52002c08320d8c7d0a04eb2664df440"), looks := true }, kinds := [], alts := [], laidByText := true, laidKinds := [.data, .data, .data], laidTests := true, laidLooks := .later }
def DetAcceptsCardSaid : Prop := Claim7.holds Tryz.pinned (.plain (OpenSpec.ofChange detAcceptsSpec)) detAcceptsCard

/-- THE TIED CARD OF 'rejoinderlaw15.DetStates'. -/
def detStatesCard : Claim7 := { stood := { row := detStatesRow, standIns := [], harness := (true, "237749e58b03834de2eb1042ce31e36be52002c08320d8c7d0a04eb2664df440"), looks := true }, kinds := [], alts := [], laidByText := true, laidKinds := [.data, .data, .data], laidTests := true, laidLooks := .later }
def DetStatesCardSaid : Prop := Claim7.holds Tryz.pinned (.plain (OpenSpec.ofChange detStatesSpec)) detStatesCard

/-- THE TIED CARD OF 'rejoinderlaw15.DetKnown'. -/
def detKnownCard : Claim7 := { stood := { row := detKnownRow, standIns := [], harness := (true, "237749e58b03834de2eb1042ce31e36be52002c08320d8c7d0a04eb2664df440"), looks := true }, kinds := [], alts := [], laidByText := true, laidKinds := [.data, .data, .data], laidTests := true, laidLooks := .later }
def DetKnownCardSaid : Prop := Claim7.holds Tryz.pinned (.plain (OpenSpec.ofChange detKnownSpec)) detKnownCard

/-- THE SECOND FORM's CARD OF 'rejoinderlaw15.DetAccepts'. -/
def detAcceptsUptoCard : Claim7 := { stood := { row := detAcceptsUptoRow, standIns := [], harness := (true, "237749e58b03834de2eb1042ce31e36be52002c08320d8c7d0a04eb2664df440"), looks := true }, kinds := [], alts := [], laidByText := true, laidKinds := [.data, .data, .data], laidTests := true, laidLooks := .later }
def DetAcceptsUptoCardSaid : Prop := Claim7.holds Tryz.pinned (.plain (OpenSpec.upto detAcceptsSpec)) detAcceptsUptoCard

/-- THE SECOND FORM's CARD OF 'rejoinderlaw15.DetStates'. -/
def detStatesUptoCard : Claim7 := { stood := { row := detStatesUptoRow, standIns := [], harness := (true, "237749e58b03834de2eb1042ce31e36be52002c08320d8c7d0a04eb2664df440"), looks := true }, kinds := [], alts := [], laidByText := true, laidKinds := [.data, .data, .data], laidTests := true, laidLooks := .later }
def DetStatesUptoCardSaid : Prop := Claim7.holds Tryz.pinned (.plain (OpenSpec.upto detStatesSpec)) detStatesUptoCard

/-- THE SECOND FORM's CARD OF 'rejoinderlaw15.DetKnown'. -/
def detKnownUptoCard : Claim7 := { stood := { row := detKnownUptoRow, standIns := [], harness := (true, "237749e58b03834de2eb1042ce31e36be52002c08320d8c7d0a04eb2664df440"), looks := true }, kinds := [], alts := [], laidByText := true, laidKinds := [.data, .data, .data], laidTests := true, laidLooks := .later }
def DetKnownUptoCardSaid : Prop := Claim7.holds Tryz.pinned (.plain (OpenSpec.upto detKnownSpec)) detKnownUptoCard
end Rows
end Go.Proofs.YtailhklbmenaoaaGreatDoor
