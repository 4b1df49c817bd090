/- Package term's Check and Path, for seats of later stages. -/
import Derived.Test.YtbfhbpibpmgblaaTeM
namespace Go.Proofs.Ytbfhbpibpmgblaa
open Go.RowKit Go.Maps

end Go.Proofs.Ytbfhbpibpmgblaa
