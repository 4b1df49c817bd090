/- Texts of the proof, put together: what it uses. -/
import Derived.WalkKit
set_option maxRecDepth 100000
set_option maxHeartbeats 16000000
namespace Go.Proofs.Ythhbhadcjofelaa
abbrev Tk := Nat × Nat
inductive Tr where
 | leaf (t : Tk) : Tr
 | un (t : Tk) (c : Tr) : Tr
 | bin (t : Tk) (c d : Tr) : Tr
namespace Tr
def size : Tr → Nat
 | leaf _ => 1
 | un _ c => c.size + 1
 | bin _ c d => c.size + d.size + 1
end Tr
end Go.Proofs.Ythhbhadcjofelaa
