/-
  DERIVED. GIVEN WITH THE SEED: THE CARDS: each row of YtngajjffkbbaiaaDoorRows.lean that lists a variable, with what it lists TIED to the program's text (the seventh form; the later family's looks); each row that meets fmt, with fmt's text TOLD by the authors' own Lean function (tested against real Go, not proved from fmt's source: count such statements apart). THE CARD IS WHAT COUNTS. Prove the row's statement (the work); the ties are given (YtngajjffkbbaiaaDoorTie.lean); close each card by the builder's one call (the guide's Derived/Test/ToyasCard.lean, 'card_holds'). Laid BY PROGRAM, IN A SANDBOX (cutbox-door.mjs). By AI agents, Wed Nov 11 2026. No macro, syntax, notation, axiom, sorry.
-/
import Derived.Test.YtngajjffkbbaiaaDoorRows
import GoSem.ClaimSeven
namespace Go.Proofs.YtngajjffkbbaiaaDoor
namespace Rows

/-- THE TIED CARD OF 'rejoinderlaw04.LexisWords'. -/
def lexisWordsCard : Claim7 := { stood := { row := lexisWordsRow, standIns := [], harness := (true, "47b5d70758a92e2dcea97565c9144b8b44b4c0c0e2cadc08ae1700c1829eeec4"), looks := false }, kinds := [], alts := [], laidByText := true, laidKinds := [.listed, .data], laidTests := true, laidLooks := .later }
def LexisWordsCardSaid : Prop := Claim7.holds Tryd.pinned (.plain (OpenSpec.ofChange lexisWordsSpec)) lexisWordsCard

/-- THE TIED CARD OF 'rejoinderlaw04.LexisSpans'. -/
def lexisSpansCard : Claim7 := { stood := { row := lexisSpansRow, standIns := [], harness := (true, "47b5d70758a92e2dcea97565c9144b8b44b4c0c0e2cadc08ae1700c1829eeec4"), looks := false }, kinds := [], alts := [], laidByText := true, laidKinds := [.listed, .data], laidTests := true, laidLooks := .later }
def LexisSpansCardSaid : Prop := Claim7.holds Tryd.pinned (.plain (OpenSpec.ofChange lexisSpansSpec)) lexisSpansCard

/-- THE TIED CARD OF 'rejoinderlaw04.LexisKnown'. -/
def lexisKnownCard : Claim7 := { stood := { row := lexisKnownRow, standIns := [], harness := (true, "47b5d70758a92e2dcea97565c9144b8b44b4c0c0e2cadc08ae1700c1829eeec4"), looks := false }, kinds := [], alts := [], laidByText := true, laidKinds := [.listed, .data], laidTests := true, laidLooks := .later }
def LexisKnownCardSaid : Prop := Claim7.holds Tryd.pinned (.plain (OpenSpec.ofChange lexisKnownSpec)) lexisKnownCard

/-- THE SECOND FORM's CARD OF 'rejoinderlaw04.LexisWords'. -/
def lexisWordsUptoCard : Claim7 := { stood := { row := lexisWordsUptoRow, standIns := [], harness := (true, "47b5d70758a92e2dcea97565c9144b8b44b4c0c0e2cadc08ae1700c1829eeec4"), looks := false }, kinds := [], alts := [], laidByText := true, laidKinds := [.listed, .data], laidTests := true, laidLooks := .later }
def LexisWordsUptoCardSaid : Prop := Claim7.holds Tryd.pinned (.plain (OpenSpec.upto lexisWordsSpec)) lexisWordsUptoCard

/-- THE SECOND FORM's CARD OF 'rejoinderlaw04.LexisSpans'. -/
def lexisSpansUptoCard : Claim7 := { stood := { row := lexisSpansUptoRow, standIns := [], harness := (true, "47b5d70758a92e2dcea97565c9144b8b44b4c0c0e2cadc08ae1700c1829eeec4"), looks := false }, kinds := [], alts := [], laidByText := true, laidKinds := [.listed, .data], laidTests := true, laidLooks := .later }
def LexisSpansUptoCardSaid : Prop := Claim7.holds Tryd.pinned (.plain (OpenSpec.upto lexisSpansSpec)) lexisSpansUptoCard

/-- THE SECOND FORM's CARD OF 'rejoinderlaw04.LexisKnown'. -/
def lexisKnownUptoCard : Claim7 := { stood := { row := lexisKnownUptoRow, standIns := [], harness := (true, "47b5d70758a92e2dcea97565c9144b8b44b4c0c0e2cadc08ae1700c1829eeec4"), looks := false }, kinds := [], alts := [], laidByText := true, laidKinds := [.listed, .data], laidTests := true, laidLooks := .later }
def LexisKnownUptoCardSaid : Prop := Claim7.holds Tryd.pinned (.plain (OpenSpec.upto lexisKnownSpec)) lexisKnownUptoCard
end Rows
end Go.Proofs.YtngajjffkbbaiaaDoor
