/-
  NARROWER THAN 'FOR EVERY INPUT', by the rows' own cells (each row's printed sentence says how): ShowBack: laid · ShowFew: laid · ShowKnown: laid.
  DERIVED. THE GIVEN ROWS OF THIS SEAT. 3 by the template 'for every input the law returns true; each argument reads behind the call as it read before'; 0 by the template 'total and deterministic' (their statements: YtfipefbaabkdeaaDoorTotals.lean).
  GIVEN WITH THE SEED: the statements are not yours to turn. If you find one false, say at which input.
  Laid BY PROGRAM, IN A SANDBOX (cutbox-rows.mjs): the forced cells as the released guide's own fill.sh prints them over the translation e090903d3da111fd… (all of the seat's roots in one cut). By AI agents, Wed Nov 11 2026. No macro, syntax, notation, axiom, sorry.
-/
import Derived.Test.YtfipefbaabkdeaaDoorChecked
import GoSem.Claim
import GoSem.ClaimJoined
import GoSem.ClaimMapViews
import Derived.JoinedTies
import Derived.KernelRfl
namespace Go.Proofs.YtfipefbaabkdeaaDoor
/- THE CELL 'sum', in the pinned program and in every row, IS THE sha256 OF THE DUMP (.gsa) THAT YtfipefbaabkdeaaDoorProg.lean LOADS. Nothing in Lean hashes anything: it is a label: what it is worth is what the hold of that sum in a sandbox is worth. -/
noncomputable def Tryd.pinned : Pinned := { name := "ytfipefbaabkdeaadoor", sum := "e090903d3da111fde92aedfe12cfedfbbf0a6b53d6f3ea488760e3c19a51d3ec", checked := Tryd.checked }
namespace Rows
def none {H : Type} : Left H := { results := [], args := [] }

/- WHAT THE LISTED PACKAGE-LEVEL VARIABLES READ AS WHEN THE CALL BEGINS. Each datum BY PROGRAM (the guide's laid-datum.mjs) off the statement by which the dump's own 'gosem.cut.vars' lays the variable. In a bare row this is a premise. The card (YtfipefbaabkdeaaDoorCards.lean) ties it to the program's text. -/
def laid_unicode_White_Space {H : Type} : DataW H := .ptr (.agg [.slice [.agg [.lit (.int .u16 9), .lit (.int .u16 13), .lit (.int .u16 1)], .agg [.lit (.int .u16 32), .lit (.int .u16 133), .lit (.int .u16 101)], .agg [.lit (.int .u16 160), .lit (.int .u16 5760), .lit (.int .u16 5600)], .agg [.lit (.int .u16 8192), .lit (.int .u16 8202), .lit (.int .u16 1)], .agg [.lit (.int .u16 8232), .lit (.int .u16 8233), .lit (.int .u16 1)], .agg [.lit (.int .u16 8239), .lit (.int .u16 8287), .lit (.int .u16 48)], .agg [.lit (.int .u16 12288), .lit (.int .u16 12288), .lit (.int .u16 1)]] [], .nil, .lit (.int .i64 2)])
def laid_strings_asciiSpace {H : Type} : DataW H := .agg [.lit (.int .u8 0), .lit (.int .u8 0), .lit (.int .u8 0), .lit (.int .u8 0), .lit (.int .u8 0), .lit (.int .u8 0), .lit (.int .u8 0), .lit (.int .u8 0), .lit (.int .u8 0), .lit (.int .u8 1), .lit (.int .u8 1), .lit (.int .u8 1), .lit (.int .u8 1), .lit (.int .u8 1), .lit (.int .u8 0), .lit (.int .u8 0), .lit (.int .u8 0), .lit (.int .u8 0), .lit (.int .u8 0), .lit (.int .u8 0), .lit (.int .u8 0), .lit (.int .u8 0), .lit (.int .u8 0), .lit (.int .u8 0), .lit (.int .u8 0), .lit (.int .u8 0), .lit (.int .u8 0), .lit (.int .u8 0), .lit (.int .u8 0), .lit (.int .u8 0), .lit (.int .u8 0), .lit (.int .u8 0), .lit (.int .u8 1), .lit (.int .u8 0), .lit (.int .u8 0), .lit (.int .u8 0), .lit (.int .u8 0), .lit (.int .u8 0), .lit (.int .u8 0), .lit (.int .u8 0), .lit (.int .u8 0), .lit (.int .u8 0), .lit (.int .u8 0), .lit (.int .u8 0), .lit (.int .u8 0), .lit (.int .u8 0), .lit (.int .u8 0), .lit (.int .u8 0), .lit (.int .u8 0), .lit (.int .u8 0), .lit (.int .u8 0), .lit (.int .u8 0), .lit (.int .u8 0), .lit (.int .u8 0), .lit (.int .u8 0), .lit (.int .u8 0), .lit (.int .u8 0), .lit (.int .u8 0), .lit (.int .u8 0), .lit (.int .u8 0), .lit (.int .u8 0), .lit (.int .u8 0), .lit (.int .u8 0), .lit (.int .u8 0), .lit (.int .u8 0), .lit (.int .u8 0), .lit (.int .u8 0), .lit (.int .u8 0), .lit (.int .u8 0), .lit (.int .u8 0), .lit (.int .u8 0), .lit (.int .u8 0), .lit (.int .u8 0), .lit (.int .u8 0), .lit (.int .u8 0), .lit (.int .u8 0), .lit (.int .u8 0), .lit (.int .u8 0), .lit (.int .u8 0), .lit (.int .u8 0), .lit (.int .u8 0), .lit (.int .u8 0), .lit (.int .u8 0), .lit (.int .u8 0), .lit (.int .u8 0), .lit (.int .u8 0), .lit (.int .u8 0), .lit (.int .u8 0), .lit (.int .u8 0), .lit (.int .u8 0), .lit (.int .u8 0), .lit (.int .u8 0), .lit (.int .u8 0), .lit (.int .u8 0), .lit (.int .u8 0), .lit (.int .u8 0), .lit (.int .u8 0), .lit (.int .u8 0), .lit (.int .u8 0), .lit (.int .u8 0), .lit (.int .u8 0), .lit (.int .u8 0), .lit (.int .u8 0), .lit (.int .u8 0), .lit (.int .u8 0), .lit (.int .u8 0), .lit (.int .u8 0), .lit (.int .u8 0), .lit (.int .u8 0), .lit (.int .u8 0), .lit (.int .u8 0), .lit (.int .u8 0), .lit (.int .u8 0), .lit (.int .u8 0), .lit (.int .u8 0), .lit (.int .u8 0), .lit (.int .u8 0), .lit (.int .u8 0), .lit (.int .u8 0), .lit (.int .u8 0), .lit (.int .u8 0), .lit (.int .u8 0), .lit (.int .u8 0), .lit (.int .u8 0), .lit (.int .u8 0), .lit (.int .u8 0), .lit (.int .u8 0), .lit (.int .u8 0), .lit (.int .u8 0), .lit (.int .u8 0), .lit (.int .u8 0), .lit (.int .u8 0), .lit (.int .u8 0), .lit (.int .u8 0), .lit (.int .u8 0), .lit (.int .u8 0), .lit (.int .u8 0), .lit (.int .u8 0), .lit (.int .u8 0), .lit (.int .u8 0), .lit (.int .u8 0), .lit (.int .u8 0), .lit (.int .u8 0), .lit (.int .u8 0), .lit (.int .u8 0), .lit (.int .u8 0), .lit (.int .u8 0), .lit (.int .u8 0), .lit (.int .u8 0), .lit (.int .u8 0), .lit (.int .u8 0), .lit (.int .u8 0), .lit (.int .u8 0), .lit (.int .u8 0), .lit (.int .u8 0), .lit (.int .u8 0), .lit (.int .u8 0), .lit (.int .u8 0), .lit (.int .u8 0), .lit (.int .u8 0), .lit (.int .u8 0), .lit (.int .u8 0), .lit (.int .u8 0), .lit (.int .u8 0), .lit (.int .u8 0), .lit (.int .u8 0), .lit (.int .u8 0), .lit (.int .u8 0), .lit (.int .u8 0), .lit (.int .u8 0), .lit (.int .u8 0), .lit (.int .u8 0), .lit (.int .u8 0), .lit (.int .u8 0), .lit (.int .u8 0), .lit (.int .u8 0), .lit (.int .u8 0), .lit (.int .u8 0), .lit (.int .u8 0), .lit (.int .u8 0), .lit (.int .u8 0), .lit (.int .u8 0), .lit (.int .u8 0), .lit (.int .u8 0), .lit (.int .u8 0), .lit (.int .u8 0), .lit (.int .u8 0), .lit (.int .u8 0), .lit (.int .u8 0), .lit (.int .u8 0), .lit (.int .u8 0), .lit (.int .u8 0), .lit (.int .u8 0), .lit (.int .u8 0), .lit (.int .u8 0), .lit (.int .u8 0), .lit (.int .u8 0), .lit (.int .u8 0), .lit (.int .u8 0), .lit (.int .u8 0), .lit (.int .u8 0), .lit (.int .u8 0), .lit (.int .u8 0), .lit (.int .u8 0), .lit (.int .u8 0), .lit (.int .u8 0), .lit (.int .u8 0), .lit (.int .u8 0), .lit (.int .u8 0), .lit (.int .u8 0), .lit (.int .u8 0), .lit (.int .u8 0), .lit (.int .u8 0), .lit (.int .u8 0), .lit (.int .u8 0), .lit (.int .u8 0), .lit (.int .u8 0), .lit (.int .u8 0), .lit (.int .u8 0), .lit (.int .u8 0), .lit (.int .u8 0), .lit (.int .u8 0), .lit (.int .u8 0), .lit (.int .u8 0), .lit (.int .u8 0), .lit (.int .u8 0), .lit (.int .u8 0), .lit (.int .u8 0), .lit (.int .u8 0), .lit (.int .u8 0), .lit (.int .u8 0), .lit (.int .u8 0), .lit (.int .u8 0), .lit (.int .u8 0), .lit (.int .u8 0), .lit (.int .u8 0), .lit (.int .u8 0), .lit (.int .u8 0), .lit (.int .u8 0), .lit (.int .u8 0), .lit (.int .u8 0), .lit (.int .u8 0), .lit (.int .u8 0), .lit (.int .u8 0), .lit (.int .u8 0), .lit (.int .u8 0), .lit (.int .u8 0), .lit (.int .u8 0), .lit (.int .u8 0), .lit (.int .u8 0), .lit (.int .u8 0), .lit (.int .u8 0), .lit (.int .u8 0), .lit (.int .u8 0), .lit (.int .u8 0), .lit (.int .u8 0)]
def laid_rejoinder_show_operators {H : Type} : DataW H := .agg [.agg [.lit (.string [116, 114, 117, 101]), .lit (.string []), .lit (.int .u8 7), .lit (.int .u8 0), .lit (.int .u8 0)], .agg [.lit (.string [102, 97, 108, 115, 101]), .lit (.string []), .lit (.int .u8 7), .lit (.int .u8 0), .lit (.int .u8 0)], .agg [.lit (.string []), .lit (.string []), .lit (.int .u8 7), .lit (.int .u8 0), .lit (.int .u8 0)], .agg [.lit (.string [108, 97, 115, 116]), .lit (.string []), .lit (.int .u8 7), .lit (.int .u8 0), .lit (.int .u8 0)], .agg [.lit (.string []), .lit (.string []), .lit (.int .u8 0), .lit (.int .u8 0), .lit (.int .u8 0)], .agg [.lit (.string []), .lit (.string []), .lit (.int .u8 0), .lit (.int .u8 0), .lit (.int .u8 0)], .agg [.lit (.string [33]), .lit (.string []), .lit (.int .u8 6), .lit (.int .u8 6), .lit (.int .u8 0)], .agg [.lit (.string [88, 32]), .lit (.string []), .lit (.int .u8 6), .lit (.int .u8 6), .lit (.int .u8 0)], .agg [.lit (.string [78, 32]), .lit (.string []), .lit (.int .u8 6), .lit (.int .u8 6), .lit (.int .u8 0)], .agg [.lit (.string [70, 32]), .lit (.string []), .lit (.int .u8 6), .lit (.int .u8 6), .lit (.int .u8 0)], .agg [.lit (.string [71, 32]), .lit (.string []), .lit (.int .u8 6), .lit (.int .u8 6), .lit (.int .u8 0)], .agg [.lit (.string []), .lit (.string [32, 38, 32]), .lit (.int .u8 4), .lit (.int .u8 4), .lit (.int .u8 5)], .agg [.lit (.string []), .lit (.string [32, 124, 32]), .lit (.int .u8 3), .lit (.int .u8 3), .lit (.int .u8 4)], .agg [.lit (.string []), .lit (.string [32, 45, 62, 32]), .lit (.int .u8 2), .lit (.int .u8 3), .lit (.int .u8 2)], .agg [.lit (.string []), .lit (.string [32, 60, 45, 62, 32]), .lit (.int .u8 1), .lit (.int .u8 1), .lit (.int .u8 2)], .agg [.lit (.string []), .lit (.string [32, 85, 32]), .lit (.int .u8 5), .lit (.int .u8 6), .lit (.int .u8 5)], .agg [.lit (.string []), .lit (.string [32, 82, 32]), .lit (.int .u8 5), .lit (.int .u8 6), .lit (.int .u8 5)], .agg [.lit (.string [60]), .lit (.string [62, 32]), .lit (.int .u8 6), .lit (.int .u8 0), .lit (.int .u8 6)], .agg [.lit (.string [91]), .lit (.string [93, 32]), .lit (.int .u8 6), .lit (.int .u8 0), .lit (.int .u8 6)], .agg [.lit (.string [123]), .lit (.string [125]), .lit (.int .u8 4), .lit (.int .u8 0), .lit (.int .u8 0)], .agg [.lit (.string [63]), .lit (.string []), .lit (.int .u8 4), .lit (.int .u8 6), .lit (.int .u8 0)], .agg [.lit (.string []), .lit (.string [32, 43, 32]), .lit (.int .u8 1), .lit (.int .u8 1), .lit (.int .u8 2)], .agg [.lit (.string []), .lit (.string [32, 59, 32]), .lit (.int .u8 2), .lit (.int .u8 2), .lit (.int .u8 3)], .agg [.lit (.string []), .lit (.string [42]), .lit (.int .u8 3), .lit (.int .u8 3), .lit (.int .u8 0)]]

/-- 'rejoinderlaw06.ShowBack': WHATEVER THE INPUT: true; the input reads as it did. -/
def showBackSpec : ChangeSpec := { name := "showBack", fn := fun _ => fun
  | [d1, d2] => { results := [.lit (.bool true)], args := [d1, d2] }
  | _ => none }
def showBackRow : OpenClaim := { program := "ytfipefbaabkdeaadoor", sum := "e090903d3da111fde92aedfe12cfedfbbf0a6b53d6f3ea488760e3c19a51d3ec", func := "rejoinder/rejoinderlaw06.ShowBack", spec := "showBack", unfollowed := true, recurses := true, named := ["rejoinder/show.operators", "strings.asciiSpace", "unicode.White_Space"], apart := false, laid := [("unicode.White_Space", laid_unicode_White_Space), ("strings.asciiSpace", laid_strings_asciiSpace), ("rejoinder/show.operators", laid_rejoinder_show_operators)] }
def ShowBackSaid : Prop := showBackRow.holds Tryd.pinned (OpenSpec.ofChange showBackSpec)

/-- ITS FALSE NEIGHBOUR: 'it returns false'. Refute it at one input. -/
def showBackWrong : ChangeSpec := { name := "showBack", fn := fun _ => fun
  | [d1, d2] => { results := [.lit (.bool false)], args := [d1, d2] }
  | _ => none }
def ShowBackWrongFalsely : Prop := showBackRow.holds Tryd.pinned (OpenSpec.ofChange showBackWrong)

/-- 'rejoinderlaw06.ShowFew': WHATEVER THE INPUT: true; the input reads as it did. -/
def showFewSpec : ChangeSpec := { name := "showFew", fn := fun _ => fun
  | [d1, d2] => { results := [.lit (.bool true)], args := [d1, d2] }
  | _ => none }
def showFewRow : OpenClaim := { program := "ytfipefbaabkdeaadoor", sum := "e090903d3da111fde92aedfe12cfedfbbf0a6b53d6f3ea488760e3c19a51d3ec", func := "rejoinder/rejoinderlaw06.ShowFew", spec := "showFew", unfollowed := true, recurses := true, named := ["rejoinder/show.operators", "strings.asciiSpace", "unicode.White_Space"], apart := false, laid := [("unicode.White_Space", laid_unicode_White_Space), ("strings.asciiSpace", laid_strings_asciiSpace), ("rejoinder/show.operators", laid_rejoinder_show_operators)] }
def ShowFewSaid : Prop := showFewRow.holds Tryd.pinned (OpenSpec.ofChange showFewSpec)

/-- ITS FALSE NEIGHBOUR: 'it returns false'. Refute it at one input. -/
def showFewWrong : ChangeSpec := { name := "showFew", fn := fun _ => fun
  | [d1, d2] => { results := [.lit (.bool false)], args := [d1, d2] }
  | _ => none }
def ShowFewWrongFalsely : Prop := showFewRow.holds Tryd.pinned (OpenSpec.ofChange showFewWrong)

/-- 'rejoinderlaw06.ShowKnown': WHATEVER THE INPUT: true; the input reads as it did. -/
def showKnownSpec : ChangeSpec := { name := "showKnown", fn := fun _ => fun
  | [] => { results := [.lit (.bool true)], args := [] }
  | _ => none }
def showKnownRow : OpenClaim := { program := "ytfipefbaabkdeaadoor", sum := "e090903d3da111fde92aedfe12cfedfbbf0a6b53d6f3ea488760e3c19a51d3ec", func := "rejoinder/rejoinderlaw06.ShowKnown", spec := "showKnown", unfollowed := true, recurses := true, named := ["rejoinder/show.operators", "strings.asciiSpace", "unicode.White_Space"], apart := false, laid := [("unicode.White_Space", laid_unicode_White_Space), ("strings.asciiSpace", laid_strings_asciiSpace), ("rejoinder/show.operators", laid_rejoinder_show_operators)] }
def ShowKnownSaid : Prop := showKnownRow.holds Tryd.pinned (OpenSpec.ofChange showKnownSpec)

/-- ITS FALSE NEIGHBOUR: 'it returns false'. Refute it at one input. -/
def showKnownWrong : ChangeSpec := { name := "showKnown", fn := fun _ => fun
  | [] => { results := [.lit (.bool false)], args := [] }
  | _ => none }
def ShowKnownWrongFalsely : Prop := showKnownRow.holds Tryd.pinned (OpenSpec.ofChange showKnownWrong)

/- THE SECOND FORM. 'bulk': how many values and letters a reading holds, each counted each time it is reached (what is shared counts as often as it is met; a slice's spare places count too). A statement '..UptoSaid' is the law's where the arguments, and the package variables that the reading takes, are together of bulk at most 1048576: NARROWER than '..Said'. Prove '..Said' where nothing that the law and all that it calls make is longer than what came in: it says more and counts as full. Else prove '..UptoSaid'. A law counts once. -/
mutual
def uptoBulk {H : Type} : DataW H → Nat
  | .lit (.string bytes) => bytes.length + 1
  | .lit _ => 1
  | .nil => 1
  | .ptr d => uptoBulk d + 1
  | .slice elems spare => uptoBulkAll elems + uptoBulkAll spare + 1
  | .agg parts => uptoBulkAll parts + 1
  | .iface _ d => uptoBulk d + 1
  | .map entries => uptoBulkEntries entries + 1
  | .held _ => 1
def uptoBulkAll {H : Type} : List (DataW H) → Nat
  | [] => 0
  | d :: r => uptoBulk d + uptoBulkAll r
def uptoBulkEntries {H : Type} : List (Lit × DataW H) → Nat
  | [] => 0
  | x :: r => uptoBulkEntry x + uptoBulkEntries r
def uptoBulkEntry {H : Type} : Lit × DataW H → Nat
  | (.string bytes, d) => bytes.length + uptoBulk d + 1
  | (_, d) => uptoBulk d + 1
 end
def uptoSmall : (H : Type) → List (DataW H) → Bool := fun _ ds => decide (uptoBulkAll ds ≤ 1048576)
def OpenSpec.upto (s : _root_.Go.ChangeSpec) : _root_.Go.OpenSpec := { _root_.Go.OpenSpec.ofChange s with cond := some uptoSmall }

/-- 'rejoinderlaw06.ShowBack', WHERE WHAT IT READS IS OF BULK AT MOST 1048576: true; the input reads as it did. -/
def showBackUptoRow : OpenClaim := { program := "ytfipefbaabkdeaadoor", sum := "e090903d3da111fde92aedfe12cfedfbbf0a6b53d6f3ea488760e3c19a51d3ec", func := "rejoinder/rejoinderlaw06.ShowBack", spec := "showBack", unfollowed := true, recurses := true, named := ["rejoinder/show.operators", "strings.asciiSpace", "unicode.White_Space"], apart := false, laid := [("unicode.White_Space", laid_unicode_White_Space), ("strings.asciiSpace", laid_strings_asciiSpace), ("rejoinder/show.operators", laid_rejoinder_show_operators)], narrowed := true }
def ShowBackUptoSaid : Prop := showBackUptoRow.holds Tryd.pinned (OpenSpec.upto showBackSpec)

/-- 'rejoinderlaw06.ShowFew', WHERE WHAT IT READS IS OF BULK AT MOST 1048576: true; the input reads as it did. -/
def showFewUptoRow : OpenClaim := { program := "ytfipefbaabkdeaadoor", sum := "e090903d3da111fde92aedfe12cfedfbbf0a6b53d6f3ea488760e3c19a51d3ec", func := "rejoinder/rejoinderlaw06.ShowFew", spec := "showFew", unfollowed := true, recurses := true, named := ["rejoinder/show.operators", "strings.asciiSpace", "unicode.White_Space"], apart := false, laid := [("unicode.White_Space", laid_unicode_White_Space), ("strings.asciiSpace", laid_strings_asciiSpace), ("rejoinder/show.operators", laid_rejoinder_show_operators)], narrowed := true }
def ShowFewUptoSaid : Prop := showFewUptoRow.holds Tryd.pinned (OpenSpec.upto showFewSpec)

/-- 'rejoinderlaw06.ShowKnown', WHERE WHAT IT READS IS OF BULK AT MOST 1048576: true; the input reads as it did. -/
def showKnownUptoRow : OpenClaim := { program := "ytfipefbaabkdeaadoor", sum := "e090903d3da111fde92aedfe12cfedfbbf0a6b53d6f3ea488760e3c19a51d3ec", func := "rejoinder/rejoinderlaw06.ShowKnown", spec := "showKnown", unfollowed := true, recurses := true, named := ["rejoinder/show.operators", "strings.asciiSpace", "unicode.White_Space"], apart := false, laid := [("unicode.White_Space", laid_unicode_White_Space), ("strings.asciiSpace", laid_strings_asciiSpace), ("rejoinder/show.operators", laid_rejoinder_show_operators)], narrowed := true }
def ShowKnownUptoSaid : Prop := showKnownUptoRow.holds Tryd.pinned (OpenSpec.upto showKnownSpec)

end Rows
end Go.Proofs.YtfipefbaabkdeaaDoor
