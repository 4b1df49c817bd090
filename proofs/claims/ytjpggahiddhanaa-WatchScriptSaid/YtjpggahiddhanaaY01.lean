/- Texts of the proof, put together: what it uses. -/
import Derived.WalkKit
set_option maxRecDepth 100000
set_option maxHeartbeats 16000000
namespace Go.Proofs.Ytjpggahiddhanaa
abbrev Tk := Nat × Nat
structure Pt where
 path : Bool
 plain : Bool
 dep : Nat
 frm : Nat
def takesN (t : Tk) : Option Nat :=
 if 23 < t.1 ∨ (t.1 ≠ 2 ∧ t.2 ≠ 0) ∨ (t.1 = 2 ∧ 7 < t.2) then none
 else if t.1 ≤ 5 then some 0
 else if t.1 ≤ 10 ∨ t.1 = 19 ∨ t.1 = 20 ∨ t.1 = 23 then some 1
 else some 2
def isPathB (op : Nat) : Bool := decide (19 ≤ op)
def plainB (op : Nat) : Bool := decide (op ≤ 2) || decide (op = 6) || (decide (11 ≤ op) && decide (op ≤ 14))
def fitsP (op : Nat) (a : List Pt) : Bool :=
 if op = 17 ∨ op = 18 then (match a with | [x,y] => x.path && !y.path | _ => false)
 else if op = 19 then (match a with | [x] => !x.path && x.plain | _ => false)
 else if op = 21 ∨ op = 22 then (match a with | [x,y] => x.path && y.path | _ => false)
 else if op = 23 then (match a with | [x] => x.path | _ => false)
 else a.all fun x => !x.path
def putP (t : Tk) (a : List Pt) (i : Nat) : Pt :=
 ⟨isPathB t.1,plainB t.1 && a.all (·.plain),a.foldl (fun d x => max d (x.dep + 1)) 1,match a with | [] => i | x :: _ => x.frm⟩
inductive Tr where
 | leaf (t : Tk) : Tr
 | un (t : Tk) (c : Tr) : Tr
 | bin (t : Tk) (c d : Tr) : Tr
namespace Tr
def size : Tr → Nat
 | leaf _ => 1
 | un _ c => c.size + 1
 | bin _ c d => c.size + d.size + 1
def part : Tr → Nat → Pt
 | leaf t,o => putP t [] o
 | un t c,o => putP t [c.part o] (o + c.size)
 | bin t c d,o => putP t [c.part o,d.part (o + c.size)] (o + c.size + d.size)
def parts : Tr → Nat → List Pt
 | leaf t,o => [putP t [] o]
 | un t c,o => c.parts o ++ [putP t [c.part o] (o + c.size)]
 | bin t c d,o => c.parts o ++ d.parts (o + c.size) ++ [putP t [c.part o,d.part (o + c.size)] (o + c.size + d.size)]
def WF : Tr → Prop
 | leaf t => takesN t = some 0 ∧ fitsP t.1 [] = true
 | un t c => takesN t = some 1 ∧ fitsP t.1 [c.part 0] = true ∧ c.WF
 | bin t c d => takesN t = some 2 ∧ fitsP t.1 [c.part 0,d.part 0] = true ∧ c.WF ∧ d.WF
end Tr
end Go.Proofs.Ytjpggahiddhanaa
