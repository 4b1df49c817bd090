/- Package term's Put. -/
import Derived.Test.YtbfhbpibpmgblaaWTe8
import Derived.Deep.DeepCutAuto
namespace Go.Proofs.Ytbfhbpibpmgblaa
open Go.RowKit Go.Maps

end Go.Proofs.Ytbfhbpibpmgblaa
