/- Texts of the proof, put together: what it uses. -/
import Derived.Test.YtcnkgokfjafgkaaRows
import Derived.ProofKit
import Derived.OpenShut
import Derived.ShutString
import Derived.ChangeOld
import Derived.SizedLaws
import Derived.Lib.SmallJoins
import Derived.Deep.SlicePairs
import Derived.Test.YtcnkgokfjafgkaaX02
set_option maxRecDepth 100000
set_option maxHeartbeats 16000000
namespace Go.Proofs.Ytcnkgokfjafgkaa
open Go.ChangeShapes Go.WideShapes Go.ChangeAt Go.RowKit Go.Joins
open Go.ChangeMaps (open_string shut_string)
theorem q9r : ownKnob Try.prog.godebug = none := by kernel_rfl
end Go.Proofs.Ytcnkgokfjafgkaa
