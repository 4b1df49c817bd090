/- Stage 7's law MeanPaths over the landed package mean. -/
import Derived.Test.YtfojlondflachaaWMnF
import Derived.Test.YtfojlondflachaaWMn7
namespace Go.Proofs.Ytfojlondflachaa
open Go.RowKit Go.Maps

theorem Try.paths_fin (a : Option Addr) (la ca : Nat) (xa : List Tk) (b : Option Addr) (lb cb : Nat) (xb : List Tk) (f : Option Addr) (lf cf : Nat) (xf : List Tk) (d : Option Addr) (m c : Nat) (zs : List Int) (i : Int) (w : World) (hA : TkSl w a la ca xa) (hB : TkSl w b lb cb xb) (hF : TkSl w f lf cf xf) (hL : IntSl Try.prog 23 .u8 w d m c zs) (hz : ∀ z ∈ zs, 0 ≤ z ∧ z < 256) (_ : c ≤ 140737488351232) :
    Calls Try.prog 5 #[.slice a la ca, .slice b lb cb, .slice f lf cf, .slice d m c, .int .i64 i] w fun e w' => e = .returned (.bool true) ∧ Below w.heap.size w w' :=
  Try.mpaths_any Try.mAll_any Try.mEnds_any Try.mAt_any Try.aw_fin a la ca xa b lb cb xb f lf cf xf d m c zs i w hA hB hF ⟨hL, hz⟩
end Go.Proofs.Ytfojlondflachaa
