/- Stage 7's closed law MeanKnown over the landed package mean. -/
import Derived.Test.YtfojlondflachaaWMnF
import Derived.Test.YtfojlondflachaaWMn8
namespace Go.Proofs.Ytfojlondflachaa
open Go.RowKit Go.Maps

theorem Try.known_fin (w : World) : Calls Try.prog 7 #[] w fun e w' => e = .returned (.bool true) ∧ Below w.heap.size w w' :=
  Try.mknown_any Try.mAll_any Try.mEnds_any Try.mAt_any Try.mSat_any Try.aw_fin w
end Go.Proofs.Ytfojlondflachaa
