/- KernelKnown over the landed package kernel. -/
import Derived.Test.YtfgaieefejdkbaaKcM
import Derived.Test.YtfgaieefejdkbaaWKl5
namespace Go.Proofs.Ytfgaieefejdkbaa
open Go.RowKit Go.Maps

theorem Try.kknown_fin (w : World) : Calls Try.prog 7 #[] w fun e w' => e = .returned (.bool true) ∧ Below w.heap.size w w' :=
  Try.kknown_any Try.kof_any Try.kneg_any Try.kchk_any Try.ksize_any w
end Go.Proofs.Ytfgaieefejdkbaa
