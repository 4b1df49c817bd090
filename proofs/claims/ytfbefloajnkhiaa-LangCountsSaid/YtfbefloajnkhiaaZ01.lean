/- Texts of the proof, put together: what it uses. -/
import Derived.WalkKit
set_option maxRecDepth 100000
set_option maxHeartbeats 16000000
namespace Go.Proofs.Ytfbefloajnkhiaa
abbrev Tk := Nat × Nat
structure Pt where
 path : Bool
 plain : Bool
 dep : Nat
 frm : Nat
def isPathB (op : Nat) : Bool := decide (19 ≤ op)
def plainB (op : Nat) : Bool := decide (op ≤ 2) || decide (op = 6) || (decide (11 ≤ op) && decide (op ≤ 14))
def putP (t : Tk) (a : List Pt) (i : Nat) : Pt :=
 ⟨isPathB t.1,plainB t.1 && a.all (·.plain),a.foldl (fun d x => max d (x.dep + 1)) 1,match a with | [] => i | x :: _ => x.frm⟩
inductive Tr where
 | leaf (t : Tk) : Tr
 | un (t : Tk) (c : Tr) : Tr
 | bin (t : Tk) (c d : Tr) : Tr
namespace Tr
def size : Tr → Nat
 | leaf _ => 1
 | un _ c => c.size + 1
 | bin _ c d => c.size + d.size + 1
def part : Tr → Nat → Pt
 | leaf t,o => putP t [] o
 | un t c,o => putP t [c.part o] (o + c.size)
 | bin t c d,o => putP t [c.part o,d.part (o + c.size)] (o + c.size + d.size)
end Tr
structure Kp where
 k : Nat
 b : Nat
 d : Nat
def kindOf (p : Pt) : Nat := if p.path then 3 else if p.plain then 2 else 1
def kp (p : Pt) : Kp := ⟨kindOf p,p.frm,p.dep⟩
end Go.Proofs.Ytfbefloajnkhiaa
