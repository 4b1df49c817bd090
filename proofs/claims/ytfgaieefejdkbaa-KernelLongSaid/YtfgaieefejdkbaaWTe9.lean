/- Package term's Put. -/
import Derived.Test.YtfgaieefejdkbaaWTe8
import Derived.Deep.DeepCutAuto
namespace Go.Proofs.Ytfgaieefejdkbaa
open Go.RowKit Go.Maps

end Go.Proofs.Ytfgaieefejdkbaa
