/- Package term's Put. -/
import Derived.Test.YtfojlondflachaaWTe8
import Derived.Deep.DeepCutAuto
namespace Go.Proofs.Ytfojlondflachaa
open Go.RowKit Go.Maps

end Go.Proofs.Ytfojlondflachaa
